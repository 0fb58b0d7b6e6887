/- index, test, the arguments of a call. -/
import Derived.Test.YtbikifibfaaggaaGreatDoorPSm
namespace Go.Proofs.YtbikifibfaaggaaGreatDoor
open Go.RowKit Go.Shelf
open Lx (Tok Tx)
open Px (Ex Cn Sm)

set_option maxHeartbeats 2000000 in
set_option maxRecDepth 100000 in
theorem index_any (w : World) (b n o k : Nat) (ts : List Tok) (f : Nat) (h : PAt w b n ts o k) (ho2 : o ≤ 1000) (hf : 4 * ts.length + 6 ≤ f) :
    Calls Tryz.prog 209 #[pp b] w (RP ExAt (fun _ => k) w b n o (Px.index f o ts)) := by
  obtain ⟨R, hR⟩ : ∃ R, R = (Px.index f o ts) := ⟨_, rfl⟩
  rw [← hR]
  unfold Px.index Px.want at hR
  have HR := Lib.hid hR
  have HF := Lib.hid hf
  have H0 := Lib.hid h
  have HK0 := Lib.hid (Keeps.refl [b] w)
  have hbl := h.lt
  have HBL := Lib.hid hbl
  have hmf : ∀ (fn : Fn) (first cap : Array Value) (w : World), (Instr.makeFunc fn first cap).run Tryz.prog w = .ok (.func fn first cap) w := fun _ _ _ _ => rfl
  clear h hf hR hbl
  go_enter Tryz.func209, Tryz.ntmps209
  have HC0 := Lib.hid (fun w' (h' : PAt w' b n (ts) o k) => pass_rp w' b n o k (ts) h' [91] (by simp))
  have hlen := fun a r (h : Px.passR [91] ts = .ok a r) => Px.passR_len (by simp) h
  have hR := HR.out
  obtain ⟨rr, hrr⟩ : ∃ x, x = Px.passR [91] ts := ⟨_, rfl⟩
  rw [← hrr] at HC0 hlen hR
  have HR := Lib.hid hR
  have HLEN := Lib.hid hlen
  clear hR hlen hrr
  go_wp2_with fail
  refine (HC0.out _ H0.out).mono ?_
  intro e w1 hr
  cases rr with
  | err z r =>
    obtain ⟨rfl, h4, h5⟩ := hr
    have H4 := Lib.hid h4
    have H5 := Lib.hid (HK0.out.trans h5 (fun _ h _ => h))
    clear h4 h5
    go_wp2
    rw [HR.out]
    exact ⟨rfl, rfl, H4.out, H5.out⟩
  | ok a1 r1 =>
    obtain ⟨v1, rfl, h3, h4, h5⟩ := hr
    have HL1 := Lib.hid (HLEN.out a1 r1 rfl)
    have hR := HR.out
    simp only [Px.bind_ok] at hR
    have HR := Lib.hid hR
    clear hR
    obtain rfl : v1 = .tuple #[] := h3
    have HW1 := Lib.hid h4
    have HKW1 := Lib.hid (HK0.out.trans h5 (fun _ h _ => h))
    have HSTEP1 := Lib.hid h5
    clear h4 h5
    have HC1 := Lib.hid (fun w' (h' : PAt w' b n (r1) o k) => sum_any w' b n o k (r1) f h' ho2 (by have := HF.out; have := HL1.out; omega))
    have hlen := fun a r (h : Px.sum f o r1 = .ok a r) => Px.sum_len h
    have hR := HR.out
    obtain ⟨rr, hrr⟩ : ∃ x, x = Px.sum f o r1 := ⟨_, rfl⟩
    rw [← hrr] at HC1 hlen hR
    have HR := Lib.hid hR
    have HLEN := Lib.hid hlen
    clear hR hlen hrr
    go_wp2_with fail
    refine (HC1.out _ HW1.out).mono ?_
    intro e w2 hr
    cases rr with
    | err z r =>
      obtain ⟨rfl, h4, h5⟩ := hr
      have H4 := Lib.hid h4
      have H5 := Lib.hid (HKW1.out.trans h5 (fun _ h _ => h))
      clear h4 h5
      go_wp2
      rw [HR.out]
      exact ⟨rfl, rfl, H4.out, H5.out⟩
    | ok a2 r2 =>
      obtain ⟨v2, rfl, h3, h4, h5⟩ := hr
      have HL2 := Lib.hid (HLEN.out a2 r2 rfl)
      have hR := HR.out
      simp only [Px.bind_ok] at hR
      have HR := Lib.hid hR
      clear hR
      have E2 := Lib.hid h3
      obtain ⟨x2, rfl⟩ := h3.ptr
      clear h3
      have HW2 := Lib.hid h4
      have HKW2 := Lib.hid (HKW1.out.trans h5 (fun _ h _ => h))
      have HSTEP2 := Lib.hid h5
      clear h4 h5
      have HC2 := Lib.hid (fun w' (h' : PAt w' b n (r2) o k) => pass_rp w' b n o k (r2) h' [93] (by simp))
      have hlen := fun a r (h : Px.passR [93] r2 = .ok a r) => Px.passR_len (by simp) h
      have hR := HR.out
      obtain ⟨rr, hrr⟩ : ∃ x, x = Px.passR [93] r2 := ⟨_, rfl⟩
      rw [← hrr] at HC2 hlen hR
      have HR := Lib.hid hR
      have HLEN := Lib.hid hlen
      clear hR hlen hrr
      go_wp2_with fail
      refine (HC2.out _ HW2.out).mono ?_
      intro e w3 hr
      cases rr with
      | err z r =>
        obtain ⟨rfl, h4, h5⟩ := hr
        have H4 := Lib.hid h4
        have H5 := Lib.hid (HKW2.out.trans h5 (fun _ h _ => h))
        clear h4 h5
        go_wp2
        rw [HR.out]
        exact ⟨rfl, rfl, H4.out, H5.out⟩
      | ok a3 r3 =>
        obtain ⟨v3, rfl, h3, h4, h5⟩ := hr
        have HL3 := Lib.hid (HLEN.out a3 r3 rfl)
        have hR := HR.out
        simp only [Px.bind_ok] at hR
        have HR := Lib.hid hR
        clear hR
        have E2 := Lib.hid (E2.out.keepb h5)
        obtain rfl : v3 = .tuple #[] := h3
        have HW3 := Lib.hid h4
        have HKW3 := Lib.hid (HKW2.out.trans h5 (fun _ h _ => h))
        have HSTEP3 := Lib.hid h5
        clear h4 h5
        go_wp2_with fail
        go_ret
        rw [HR.out]
        exact ⟨_, rfl, E2.out, HW3.out, HKW3.out⟩
set_option maxHeartbeats 2000000 in
set_option maxRecDepth 100000 in
theorem test_any (w : World) (b n o k : Nat) (ts : List Tok) (f : Nat) (h : PAt w b n ts o k) (ho2 : o ≤ 1000) (hf : 4 * ts.length + 6 ≤ f) :
    Calls Tryz.prog 177 #[pp b] w (RP CnAt (fun _ => k) w b n o (Px.test f o ts)) := by
  obtain ⟨R, hR⟩ : ∃ R, R = (Px.test f o ts) := ⟨_, rfl⟩
  rw [← hR]
  unfold Px.test Px.want at hR
  have HR := Lib.hid hR
  have HF := Lib.hid hf
  have H0 := Lib.hid h
  have HK0 := Lib.hid (Keeps.refl [b] w)
  have hbl := h.lt
  have HBL := Lib.hid hbl
  have hmf : ∀ (fn : Fn) (first cap : Array Value) (w : World), (Instr.makeFunc fn first cap).run Tryz.prog w = .ok (.func fn first cap) w := fun _ _ _ _ => rfl
  clear h hf hR hbl
  go_enter Tryz.func177, Tryz.ntmps177
  have HC0 := Lib.hid (fun w' (h' : PAt w' b n (ts) o k) => pass_rp w' b n o k (ts) h' [40] (by simp))
  have hlen := fun a r (h : Px.passR [40] ts = .ok a r) => Px.passR_len (by simp) h
  have hR := HR.out
  obtain ⟨rr, hrr⟩ : ∃ x, x = Px.passR [40] ts := ⟨_, rfl⟩
  rw [← hrr] at HC0 hlen hR
  have HR := Lib.hid hR
  have HLEN := Lib.hid hlen
  clear hR hlen hrr
  go_wp2_with fail
  refine (HC0.out _ H0.out).mono ?_
  intro e w1 hr
  cases rr with
  | err z r =>
    obtain ⟨rfl, h4, h5⟩ := hr
    have H4 := Lib.hid h4
    have H5 := Lib.hid (HK0.out.trans h5 (fun _ h _ => h))
    clear h4 h5
    go_wp2
    rw [HR.out]
    exact ⟨rfl, rfl, H4.out, H5.out⟩
  | ok a1 r1 =>
    obtain ⟨v1, rfl, h3, h4, h5⟩ := hr
    have HL1 := Lib.hid (HLEN.out a1 r1 rfl)
    have hR := HR.out
    simp only [Px.bind_ok] at hR
    have HR := Lib.hid hR
    clear hR
    obtain rfl : v1 = .tuple #[] := h3
    have HW1 := Lib.hid h4
    have HKW1 := Lib.hid (HK0.out.trans h5 (fun _ h _ => h))
    have HSTEP1 := Lib.hid h5
    clear h4 h5
    have HC1 := Lib.hid (fun w' (h' : PAt w' b n (r1) o k) => cond_any w' b n o k (r1) f h' ho2 (by have := HF.out; have := HL1.out; omega))
    have hlen := fun a r (h : Px.cond f o r1 = .ok a r) => Px.cond_len h
    have hR := HR.out
    obtain ⟨rr, hrr⟩ : ∃ x, x = Px.cond f o r1 := ⟨_, rfl⟩
    rw [← hrr] at HC1 hlen hR
    have HR := Lib.hid hR
    have HLEN := Lib.hid hlen
    clear hR hlen hrr
    go_wp2_with fail
    refine (HC1.out _ HW1.out).mono ?_
    intro e w2 hr
    cases rr with
    | err z r =>
      obtain ⟨rfl, h4, h5⟩ := hr
      have H4 := Lib.hid h4
      have H5 := Lib.hid (HKW1.out.trans h5 (fun _ h _ => h))
      clear h4 h5
      go_wp2
      rw [HR.out]
      exact ⟨rfl, rfl, H4.out, H5.out⟩
    | ok a2 r2 =>
      obtain ⟨v2, rfl, h3, h4, h5⟩ := hr
      have HL2 := Lib.hid (HLEN.out a2 r2 rfl)
      have hR := HR.out
      simp only [Px.bind_ok] at hR
      have HR := Lib.hid hR
      clear hR
      have E2 := Lib.hid h3
      obtain ⟨x2, rfl⟩ := h3.ptr
      clear h3
      have HW2 := Lib.hid h4
      have HKW2 := Lib.hid (HKW1.out.trans h5 (fun _ h _ => h))
      have HSTEP2 := Lib.hid h5
      clear h4 h5
      have HC2 := Lib.hid (fun w' (h' : PAt w' b n (r2) o k) => pass_rp w' b n o k (r2) h' [41] (by simp))
      have hlen := fun a r (h : Px.passR [41] r2 = .ok a r) => Px.passR_len (by simp) h
      have hR := HR.out
      obtain ⟨rr, hrr⟩ : ∃ x, x = Px.passR [41] r2 := ⟨_, rfl⟩
      rw [← hrr] at HC2 hlen hR
      have HR := Lib.hid hR
      have HLEN := Lib.hid hlen
      clear hR hlen hrr
      go_wp2_with fail
      refine (HC2.out _ HW2.out).mono ?_
      intro e w3 hr
      cases rr with
      | err z r =>
        obtain ⟨rfl, h4, h5⟩ := hr
        have H4 := Lib.hid h4
        have H5 := Lib.hid (HKW2.out.trans h5 (fun _ h _ => h))
        clear h4 h5
        go_wp2
        rw [HR.out]
        exact ⟨rfl, rfl, H4.out, H5.out⟩
      | ok a3 r3 =>
        obtain ⟨v3, rfl, h3, h4, h5⟩ := hr
        have HL3 := Lib.hid (HLEN.out a3 r3 rfl)
        have hR := HR.out
        simp only [Px.bind_ok] at hR
        have HR := Lib.hid hR
        clear hR
        have E2 := Lib.hid (E2.out.keepb h5)
        obtain rfl : v3 = .tuple #[] := h3
        have HW3 := Lib.hid h4
        have HKW3 := Lib.hid (HKW2.out.trans h5 (fun _ h _ => h))
        have HSTEP3 := Lib.hid h5
        clear h4 h5
        go_wp2_with fail
        go_ret
        rw [HR.out]
        exact ⟨_, rfl, E2.out, HW3.out, HKW3.out⟩
theorem sets_end {w w' : World} {x : Nat} {cs : Array Value} {T : TypeId} {Q : World → Prop} (_ : w.heap[x]? = some (.cells cs T (0, 0))) (hk : Keeps [x] w w') (h : ∀ W, Keeps [x] w W → Q W) : Q w' := h w' hk
def ArgAt (w : World) (b : Nat) (e : Ex) (v : Value) : Prop := ∃ u, v = .agg #[.bool false, .string .empty, u] ∧ ExAt w b e u
set_option maxHeartbeats 2000000 in
set_option maxRecDepth 100000 in
theorem arg_any (w : World) (b n o k : Nat) (ts : List Tok) (f : Nat) (h : PAt w b n ts o k) (ho2 : o ≤ 1000) (hf : 4 * ts.length + 6 ≤ f) (j : Int) :
    Calls Tryz.prog 211 #[pp b, .int .i64 j] w (RP ArgAt (fun _ => k) w b n o ((Px.sum f o ts).bind fun e r => .ok e r)) := by
  obtain ⟨R, hR⟩ : ∃ R, R = ((Px.sum f o ts).bind fun e r => .ok e r) := ⟨_, rfl⟩
  rw [← hR]
  have HR := Lib.hid hR
  have HF := Lib.hid hf
  have H0 := Lib.hid h
  have HK0 := Lib.hid (Keeps.refl [b] w)
  have hbl := h.lt
  have HBL := Lib.hid hbl
  have hmf : ∀ (fn : Fn) (first cap : Array Value) (w : World), (Instr.makeFunc fn first cap).run Tryz.prog w = .ok (.func fn first cap) w := fun _ _ _ _ => rfl
  have H0 := Lib.hid (h.keep ((Keeps.refl [] w).alloc (.cells #[.bool false, .string .empty, .pointer none] 170)))
  have HK0 := Lib.hid ((Keeps.refl [b] w).alloc (.cells #[.bool false, .string .empty, .pointer none] 170))
  clear h hf hR hbl
  go_enter Tryz.func211, Tryz.ntmps211
  have HC0 := Lib.hid (fun w' (h' : PAt w' b n (ts) o k) => sum_any w' b n o k (ts) f h' ho2 (by have := HF.out; omega))
  have hlen := fun a r (h : Px.sum f o ts = .ok a r) => Px.sum_len h
  have hR := HR.out
  obtain ⟨rr, hrr⟩ : ∃ x, x = Px.sum f o ts := ⟨_, rfl⟩
  rw [← hrr] at HC0 hlen hR
  have HR := Lib.hid hR
  have HLEN := Lib.hid hlen
  clear hR hlen hrr
  go_wp2_with fail
  refine (HC0.out _ H0.out).mono ?_
  intro e w1 hr
  cases rr with
  | err z r =>
    obtain ⟨rfl, h4, h5⟩ := hr
    have H4 := Lib.hid h4
    have H5 := Lib.hid (HK0.out.trans h5 (fun _ h _ => h))
    clear h4 h5
    go_wp2
    rw [HR.out]
    exact ⟨rfl, rfl, H4.out, H5.out⟩
  | ok a1 r1 =>
    obtain ⟨v1, rfl, h3, h4, h5⟩ := hr
    have HL1 := Lib.hid (HLEN.out a1 r1 rfl)
    have hR := HR.out
    simp only [Px.bind_ok] at hR
    have HR := Lib.hid hR
    clear hR
    have E1 := Lib.hid h3
    obtain ⟨x1, rfl⟩ := h3.ptr
    clear h3
    have HW1 := Lib.hid h4
    have HKW1 := Lib.hid (HK0.out.trans h5 (fun _ h _ => h))
    have HSTEP1 := Lib.hid h5
    clear h4 h5
    have hrow := block_keep (heap_alloc_new w (.cells #[.bool false, .string .empty, .pointer none] 170)) HSTEP1.out (by have := HBL.out; simp; omega)
    have f0 := row_free hrow 0
    have f1 := row_free hrow 1
    have f2 := row_free hrow 2
    have c0 := row_cell hrow 0
    have c1 := row_cell hrow 1
    have c2 := row_cell hrow 2
    simp only [List.getElem?_toArray, List.getElem?_cons_zero, List.getElem?_cons_succ] at c0 c1 c2
    have HROW := Lib.hid hrow
    clear hrow
    go_wp2_with fail
    refine bodyPost_ret (v := .agg #[.bool false, .string ⟨#[]⟩, .pointer (some ⟨x1, 0, none⟩)]) (by simp [results, Tryz.results211, go_sem, c0, c1, c2]) rfl ?_
    refine sets_end HROW.out (w' := _) (T := 170) ?_ ?_
    · repeat (refine Keeps.setCell ?_ (by simp) _)
      exact Keeps.refl _ _
    · intro W hk
      have hnt : ∀ y ∈ [w.heap.size], y ≤ b ∨ NotT w1 y 74 := fun y hy => .inr (by
        obtain rfl : y = w.heap.size := by simpa using hy
        exact NotT.of HROW.out (by decide))
      rw [HR.out]
      exact ⟨_, rfl, ⟨_, rfl, E1.out.keepT hk hnt⟩, HW1.out.keepHi hk (by have := HBL.out; simpa using this), HKW1.out.hi hk (by simp)⟩
end Go.Proofs.YtbikifibfaaggaaGreatDoor
