/- Statements without blocks. -/
import Derived.Test.YtbikifibfaaggaaGreatDoorPArgs
namespace Go.Proofs.YtbikifibfaaggaaGreatDoor
open Go.RowKit Go.Shelf
open Lx (Tok Tx)
open Px (Ex Cn Sm)

/-- A statement that is told as a struct. -/
def Sm0At (w : World) (b : Nat) (s : Sm) (v : Value) : Prop := ∃ vs, v = .agg vs.toArray ∧ SmAt w b (fun _ => False) s vs
theorem nil_row {w : World} {base : Nat} {T : TypeId} {sz : Nat} : w.ownsRow base T sz (.slice none 0 0) 0 [] := World.ownsRow_nil _ _ _ _
theorem noArgs {w : World} {b : Nat} : ArgsAt w b [] (.slice none 0 0) := ⟨[], nil_row, rfl⟩
theorem noBlock {w : World} {b : Nat} {B : Nat → Prop} : ∃ cs, w.ownsRow (b + 1) 60 10 (.slice none 0 0) ([] : List Sm).length cs ∧ (∀ g, (Value.slice none 0 0).ownBlock = some g → B g) ∧ SmC w b B [] cs := ⟨[], nil_row, fun g h => by simp [Value.ownBlock] at h, rfl⟩
theorem setsEnd {S : List Nat} {w w' : World} {Q : World → Prop} (hk : Keeps S w w') (h : ∀ W, Keeps S w W → Q W) : Q w' := h w' hk
set_option maxHeartbeats 2000000 in
set_option maxRecDepth 100000 in
theorem call_any (w : World) (b n o k : Nat) (ts : List Tok) (f : Nat) (h : PAt w b n ts o k) (ho2 : o ≤ 1000) (hf : 4 * ts.length + 6 ≤ f) :
    Calls Tryz.prog 181 #[pp b] w (RP Sm0At (fun _ => k) w b n o (Px.call f o ts)) := by
  obtain ⟨R, hR⟩ : ∃ R, R = (Px.call f o ts) := ⟨_, rfl⟩
  rw [← hR]
  unfold Px.call at hR
  have HR := Lib.hid hR
  have HF := Lib.hid hf
  have H0 := Lib.hid h
  have HK0 := Lib.hid (Keeps.refl [b] w)
  have hbl := h.lt
  have HBL := Lib.hid hbl
  have hmf : ∀ (fn : Fn) (first cap : Array Value) (w : World), (Instr.makeFunc fn first cap).run Tryz.prog w = .ok (.func fn first cap) w := fun _ _ _ _ => rfl
  have H0 := Lib.hid h
  have HK0 := Lib.hid (Keeps.refl [b] w)
  have HB0 := Lib.hid (show (w.alloc (.cells #[.int .i64 0, .string .empty, .string .empty, .pointer none, .pointer none, .pointer none, .slice none 0 0, .slice none 0 0, .slice none 0 0, .int .i64 0] 60)).heap[w.heap.size]? = some (.cells #[.int .i64 0, .string .empty, .string .empty, .pointer none, .pointer none, .pointer none, .slice none 0 0, .slice none 0 0, .slice none 0 0, .int .i64 0] 60 (0, 0)) from heap_alloc_new _ _)
  have H0 := Lib.hid (H0.out.keep ((Keeps.refl [] _).alloc (.cells #[.int .i64 0, .string .empty, .string .empty, .pointer none, .pointer none, .pointer none, .slice none 0 0, .slice none 0 0, .slice none 0 0, .int .i64 0] 60)))
  have HK0 := Lib.hid (HK0.out.alloc (.cells #[.int .i64 0, .string .empty, .string .empty, .pointer none, .pointer none, .pointer none, .slice none 0 0, .slice none 0 0, .slice none 0 0, .int .i64 0] 60))
  clear h hf hR hbl
  go_enter Tryz.func181, Tryz.ntmps181
  have HC0 := Lib.hid (fun w' (h' : PAt w' b n (ts) o k) => name_rp w' b n o k (ts) h')
  have hlen := fun a r (h : Px.nameR ts = .ok a r) => Px.nameR_len h
  have hR := HR.out
  obtain ⟨rr, hrr⟩ : ∃ x, x = Px.nameR ts := ⟨_, rfl⟩
  rw [← hrr] at HC0 hlen hR
  have HR := Lib.hid hR
  have HLEN := Lib.hid hlen
  clear hR hlen hrr
  go_wp2_with fail
  refine (HC0.out _ H0.out).mono ?_
  intro e w1 hr
  cases rr with
  | err z r =>
    obtain ⟨rfl, h4, h5⟩ := hr
    have H4 := Lib.hid h4
    have H5 := Lib.hid (HK0.out.trans h5 (fun _ h _ => h))
    clear h4 h5
    go_wp2
    rw [HR.out]
    exact ⟨rfl, rfl, H4.out, H5.out⟩
  | ok a1 r1 =>
    obtain ⟨v1, rfl, h3, h4, h5⟩ := hr
    have HL1 := Lib.hid (HLEN.out a1 r1 rfl)
    have hR := HR.out
    simp only [Px.bind_ok] at hR
    have HR := Lib.hid hR
    clear hR
    obtain rfl : v1 = .string (strO a1) := h3
    have HW1 := Lib.hid h4
    have HKW1 := Lib.hid (HK0.out.trans h5 (fun _ h _ => h))
    have HSTEP1 := Lib.hid h5
    have HB0 := Lib.hid (block_keep HB0.out h5 (by have := HBL.out; simp; omega))
    clear h4 h5
    have HC1 := Lib.hid (fun w' (h' : PAt w' b n (r1) o k) => args_any w' b n o k (r1) f h' ho2 (by have := HF.out; have := HL1.out; omega))
    have hlen := fun a r (h : Px.args f o r1 = .ok a r) => Px.args_len h
    have hR := HR.out
    obtain ⟨rr, hrr⟩ : ∃ x, x = Px.args f o r1 := ⟨_, rfl⟩
    rw [← hrr] at HC1 hlen hR
    have HR := Lib.hid hR
    have HLEN := Lib.hid hlen
    clear hR hlen hrr
    go_wp2_with fail
    refine (HC1.out _ HW1.out).mono ?_
    intro e w2 hr
    cases rr with
    | err z r =>
      obtain ⟨rfl, h4, h5⟩ := hr
      have H4 := Lib.hid h4
      have H5 := Lib.hid (HKW1.out.trans h5 (fun _ h _ => h))
      clear h4 h5
      go_wp2
      rw [HR.out]
      exact ⟨rfl, rfl, H4.out, H5.out⟩
    | ok a2 r2 =>
      obtain ⟨v2, rfl, h3, h4, h5⟩ := hr
      have HL2 := Lib.hid (HLEN.out a2 r2 rfl)
      have hR := HR.out
      simp only [Px.bind_ok] at hR
      have HR := Lib.hid hR
      clear hR
      have E2 := Lib.hid h3
      obtain ⟨A2, c2, rfl⟩ := h3.form
      clear h3
      have HW2 := Lib.hid h4
      have HKW2 := Lib.hid (HKW1.out.trans h5 (fun _ h _ => h))
      have HSTEP2 := Lib.hid h5
      have HB0 := Lib.hid (block_keep HB0.out h5 (by have := HBL.out; simp; omega))
      clear h4 h5
      have hrow := HB0.out
      have f0_0 := row_free hrow 0
      have c0_0 := row_cell hrow 0
      have f0_1 := row_free hrow 1
      have c0_1 := row_cell hrow 1
      have f0_2 := row_free hrow 2
      have c0_2 := row_cell hrow 2
      have f0_3 := row_free hrow 3
      have c0_3 := row_cell hrow 3
      have f0_4 := row_free hrow 4
      have c0_4 := row_cell hrow 4
      have f0_5 := row_free hrow 5
      have c0_5 := row_cell hrow 5
      have f0_6 := row_free hrow 6
      have c0_6 := row_cell hrow 6
      have f0_7 := row_free hrow 7
      have c0_7 := row_cell hrow 7
      have f0_8 := row_free hrow 8
      have c0_8 := row_cell hrow 8
      have f0_9 := row_free hrow 9
      have c0_9 := row_cell hrow 9
      simp only [List.getElem?_toArray, List.getElem?_cons_zero, List.getElem?_cons_succ] at c0_0 c0_1 c0_2 c0_3 c0_4 c0_5 c0_6 c0_7 c0_8 c0_9
      clear hrow
      go_wp2_with fail
      refine bodyPost_ret (v := .agg #[.int .i64 8, .string ⟨#[]⟩, .string (strO a1), .pointer none, .pointer none, .pointer none, .slice A2 a2.length c2, .slice none 0 0, .slice none 0 0, .int .i64 0]) (by simp [results, Tryz.results181, go_sem, c0_0, c0_1, c0_2, c0_3, c0_4, c0_5, c0_6, c0_7, c0_8, c0_9]) rfl ?_
      refine setsEnd (S := [w.heap.size]) (w := w2) ?_ ?_
      · repeat (refine Keeps.setCell ?_ (by simp) _)
        exact Keeps.refl _ _
      · intro W hk
        have nt0 := And.intro (NotT.of (T := 74) HB0.out (by decide)) (And.intro (NotT.of (T := 105) HB0.out (by decide)) (NotT.of (T := 170) HB0.out (by decide)))
        have hoff : Off w2 b (fun _ => False) [w.heap.size] := fun y hy => .inr ⟨id, (by
          obtain rfl : y = w.heap.size := by simpa using hy
          exact nt0)⟩
        rw [HR.out]
        have hex : SmAt w2 b (fun _ => False) (.mk 8 [] a1 none none none a2 [] [] 0) [.int .i64 8, .string ⟨#[]⟩, .string (strO a1), .pointer none, .pointer none, .pointer none, .slice A2 a2.length c2, .slice none 0 0, .slice none 0 0, .int .i64 0] := ⟨_, _, _, _, _, _, rfl, rfl, rfl, rfl, E2.out, noBlock, noBlock⟩
        exact ⟨_, rfl, ⟨_, rfl, SmAt.keep hk hoff _ _ hex⟩, HW2.out.keepHi hk (by have := HBL.out; simp; omega), HKW2.out.hi hk (by simp)⟩
set_option maxHeartbeats 2000000 in
set_option maxRecDepth 100000 in
theorem put_any (w : World) (b n o k : Nat) (ts : List Tok) (f : Nat) (h : PAt w b n ts o k) (ho2 : o ≤ 1000) (hf : 4 * ts.length + 6 ≤ f) :
    Calls Tryz.prog 180 #[pp b] w (RP Sm0At (fun _ => k) w b n o (Px.put f o ts)) := by
  obtain ⟨R, hR⟩ : ∃ R, R = (Px.put f o ts) := ⟨_, rfl⟩
  rw [← hR]
  unfold Px.put Px.want at hR
  have HR := Lib.hid hR
  have HF := Lib.hid hf
  have H0 := Lib.hid h
  have HK0 := Lib.hid (Keeps.refl [b] w)
  have hbl := h.lt
  have HBL := Lib.hid hbl
  have hmf : ∀ (fn : Fn) (first cap : Array Value) (w : World), (Instr.makeFunc fn first cap).run Tryz.prog w = .ok (.func fn first cap) w := fun _ _ _ _ => rfl
  have H0 := Lib.hid h
  have HK0 := Lib.hid (Keeps.refl [b] w)
  have HB0 := Lib.hid (show (w.alloc (.cells #[.int .i64 0, .string .empty, .string .empty, .pointer none, .pointer none, .pointer none, .slice none 0 0, .slice none 0 0, .slice none 0 0, .int .i64 0] 60)).heap[w.heap.size]? = some (.cells #[.int .i64 0, .string .empty, .string .empty, .pointer none, .pointer none, .pointer none, .slice none 0 0, .slice none 0 0, .slice none 0 0, .int .i64 0] 60 (0, 0)) from heap_alloc_new _ _)
  have H0 := Lib.hid (H0.out.keep ((Keeps.refl [] _).alloc (.cells #[.int .i64 0, .string .empty, .string .empty, .pointer none, .pointer none, .pointer none, .slice none 0 0, .slice none 0 0, .slice none 0 0, .int .i64 0] 60)))
  have HK0 := Lib.hid (HK0.out.alloc (.cells #[.int .i64 0, .string .empty, .string .empty, .pointer none, .pointer none, .pointer none, .slice none 0 0, .slice none 0 0, .slice none 0 0, .int .i64 0] 60))
  clear h hf hR hbl
  go_enter Tryz.func180, Tryz.ntmps180
  have HC0 := Lib.hid (fun w' (h' : PAt w' b n (ts) o k) => name_rp w' b n o k (ts) h')
  have hlen := fun a r (h : Px.nameR ts = .ok a r) => Px.nameR_len h
  have hR := HR.out
  obtain ⟨rr, hrr⟩ : ∃ x, x = Px.nameR ts := ⟨_, rfl⟩
  rw [← hrr] at HC0 hlen hR
  have HR := Lib.hid hR
  have HLEN := Lib.hid hlen
  clear hR hlen hrr
  go_wp2_with fail
  refine (HC0.out _ H0.out).mono ?_
  intro e w1 hr
  cases rr with
  | err z r =>
    obtain ⟨rfl, h4, h5⟩ := hr
    have H4 := Lib.hid h4
    have H5 := Lib.hid (HK0.out.trans h5 (fun _ h _ => h))
    clear h4 h5
    go_wp2
    rw [HR.out]
    exact ⟨rfl, rfl, H4.out, H5.out⟩
  | ok a1 r1 =>
    obtain ⟨v1, rfl, h3, h4, h5⟩ := hr
    have HL1 := Lib.hid (HLEN.out a1 r1 rfl)
    have hR := HR.out
    simp only [Px.bind_ok] at hR
    have HR := Lib.hid hR
    clear hR
    obtain rfl : v1 = .string (strO a1) := h3
    have HW1 := Lib.hid h4
    have HKW1 := Lib.hid (HK0.out.trans h5 (fun _ h _ => h))
    have HSTEP1 := Lib.hid h5
    have HB0 := Lib.hid (block_keep HB0.out h5 (by have := HBL.out; simp; omega))
    clear h4 h5
    have HC1 := Lib.hid (fun w' (h' : PAt w' b n (r1) o k) => index_any w' b n o k (r1) f h' ho2 (by have := HF.out; have := HL1.out; omega))
    have hlen := fun a r (h : Px.index f o r1 = .ok a r) => Px.index_len h
    have hR := HR.out
    obtain ⟨rr, hrr⟩ : ∃ x, x = Px.index f o r1 := ⟨_, rfl⟩
    rw [← hrr] at HC1 hlen hR
    have HR := Lib.hid hR
    have HLEN := Lib.hid hlen
    clear hR hlen hrr
    go_wp2_with fail
    refine (HC1.out _ HW1.out).mono ?_
    intro e w2 hr
    cases rr with
    | err z r =>
      obtain ⟨rfl, h4, h5⟩ := hr
      have H4 := Lib.hid h4
      have H5 := Lib.hid (HKW1.out.trans h5 (fun _ h _ => h))
      clear h4 h5
      go_wp2
      rw [HR.out]
      exact ⟨rfl, rfl, H4.out, H5.out⟩
    | ok a2 r2 =>
      obtain ⟨v2, rfl, h3, h4, h5⟩ := hr
      have HL2 := Lib.hid (HLEN.out a2 r2 rfl)
      have hR := HR.out
      simp only [Px.bind_ok] at hR
      have HR := Lib.hid hR
      clear hR
      have E2 := Lib.hid h3
      obtain ⟨x2, rfl⟩ := h3.ptr
      clear h3
      have HW2 := Lib.hid h4
      have HKW2 := Lib.hid (HKW1.out.trans h5 (fun _ h _ => h))
      have HSTEP2 := Lib.hid h5
      have HB0 := Lib.hid (block_keep HB0.out h5 (by have := HBL.out; simp; omega))
      clear h4 h5
      have HLT1 := Lib.hid (show w.heap.size < w2.heap.size from block_lt HB0.out)
      have HB1 := Lib.hid (show (w2.alloc (.cells #[.int .i64 7, .string ⟨#[]⟩, .string (strO a1), .pointer (some ⟨x2, 0, none⟩), .pointer none, .pointer none, .slice none 0 0, .slice none 0 0, .slice none 0 0, .int .i64 0] 60)).heap[w2.heap.size]? = some (.cells #[.int .i64 7, .string ⟨#[]⟩, .string (strO a1), .pointer (some ⟨x2, 0, none⟩), .pointer none, .pointer none, .slice none 0 0, .slice none 0 0, .slice none 0 0, .int .i64 0] 60 (0, 0)) from heap_alloc_new _ _)
      have HB0 := Lib.hid (block_keep HB0.out ((Keeps.refl [] _).alloc (.cells #[.int .i64 7, .string ⟨#[]⟩, .string (strO a1), .pointer (some ⟨x2, 0, none⟩), .pointer none, .pointer none, .slice none 0 0, .slice none 0 0, .slice none 0 0, .int .i64 0] 60)) (by simp))
      have E2 := Lib.hid (E2.out.alloc (.cells #[.int .i64 7, .string ⟨#[]⟩, .string (strO a1), .pointer (some ⟨x2, 0, none⟩), .pointer none, .pointer none, .slice none 0 0, .slice none 0 0, .slice none 0 0, .int .i64 0] 60))
      have HBL1 := Lib.hid HW2.out.lt
      have HSZ1 := Lib.hid HKW2.out.size
      have HWA1 := Lib.hid (HW2.out.keep ((Keeps.refl [] _).alloc (.cells #[.int .i64 7, .string ⟨#[]⟩, .string (strO a1), .pointer (some ⟨x2, 0, none⟩), .pointer none, .pointer none, .slice none 0 0, .slice none 0 0, .slice none 0 0, .int .i64 0] 60)))
      have HKA1 := Lib.hid (HKW2.out.alloc (.cells #[.int .i64 7, .string ⟨#[]⟩, .string (strO a1), .pointer (some ⟨x2, 0, none⟩), .pointer none, .pointer none, .slice none 0 0, .slice none 0 0, .slice none 0 0, .int .i64 0] 60))
      have HC3 := Lib.hid (fun w' (h' : PAt w' b n (r2) o k) => pass_rp w' b n o k (r2) h' [61] (by simp))
      have hlen := fun a r (h : Px.passR [61] r2 = .ok a r) => Px.passR_len (by simp) h
      have hR := HR.out
      obtain ⟨rr, hrr⟩ : ∃ x, x = Px.passR [61] r2 := ⟨_, rfl⟩
      rw [← hrr] at HC3 hlen hR
      have HR := Lib.hid hR
      have HLEN := Lib.hid hlen
      clear hR hlen hrr
      go_wp2_with fail
      refine (HC3.out _ HWA1.out).mono ?_
      intro e w4 hr
      cases rr with
      | err z r =>
        obtain ⟨rfl, h4, h5⟩ := hr
        have H4 := Lib.hid h4
        have H5 := Lib.hid (HKA1.out.trans h5 (fun _ h _ => h))
        clear h4 h5
        go_wp2
        rw [HR.out]
        exact ⟨rfl, rfl, H4.out, H5.out⟩
      | ok a4 r4 =>
        obtain ⟨v4, rfl, h3, h4, h5⟩ := hr
        have HL4 := Lib.hid (HLEN.out a4 r4 rfl)
        have hR := HR.out
        simp only [Px.bind_ok] at hR
        have HR := Lib.hid hR
        clear hR
        have E2 := Lib.hid (E2.out.keepb h5)
        obtain rfl : v4 = .tuple #[] := h3
        have HW4 := Lib.hid h4
        have HKW4 := Lib.hid (HKA1.out.trans h5 (fun _ h _ => h))
        have HSTEP4 := Lib.hid h5
        have HB0 := Lib.hid (block_keep HB0.out h5 (by have := HBL.out; simp; omega))
        have HB1 := Lib.hid (block_keep HB1.out h5 (by have := HBL1.out; simp; omega))
        clear h4 h5
        have HC4 := Lib.hid (fun w' (h' : PAt w' b n (r4) o k) => sum_any w' b n o k (r4) f h' ho2 (by have := HF.out; have := HL1.out; have := HL2.out; have := HL4.out; omega))
        have hlen := fun a r (h : Px.sum f o r4 = .ok a r) => Px.sum_len h
        have hR := HR.out
        obtain ⟨rr, hrr⟩ : ∃ x, x = Px.sum f o r4 := ⟨_, rfl⟩
        rw [← hrr] at HC4 hlen hR
        have HR := Lib.hid hR
        have HLEN := Lib.hid hlen
        clear hR hlen hrr
        go_wp2_with fail
        refine (HC4.out _ HW4.out).mono ?_
        intro e w5 hr
        cases rr with
        | err z r =>
          obtain ⟨rfl, h4, h5⟩ := hr
          have H4 := Lib.hid h4
          have H5 := Lib.hid (HKW4.out.trans h5 (fun _ h _ => h))
          clear h4 h5
          go_wp2
          rw [HR.out]
          exact ⟨rfl, rfl, H4.out, H5.out⟩
        | ok a5 r5 =>
          obtain ⟨v5, rfl, h3, h4, h5⟩ := hr
          have HL5 := Lib.hid (HLEN.out a5 r5 rfl)
          have hR := HR.out
          simp only [Px.bind_ok] at hR
          have HR := Lib.hid hR
          clear hR
          have E2 := Lib.hid (E2.out.keepb h5)
          have E5 := Lib.hid h3
          obtain ⟨x5, rfl⟩ := h3.ptr
          clear h3
          have HW5 := Lib.hid h4
          have HKW5 := Lib.hid (HKW4.out.trans h5 (fun _ h _ => h))
          have HSTEP5 := Lib.hid h5
          have HB0 := Lib.hid (block_keep HB0.out h5 (by have := HBL.out; simp; omega))
          have HB1 := Lib.hid (block_keep HB1.out h5 (by have := HBL1.out; simp; omega))
          clear h4 h5
          obtain ⟨X0, hX0⟩ : ∃ x, x = w.heap.size := ⟨_, rfl⟩
          rw [← hX0] at HB0
          obtain ⟨X1, hX1⟩ : ∃ x, x = w2.heap.size := ⟨_, rfl⟩
          rw [← hX1] at HB1
          have hne1 : X0 ≠ X1 := fun h => by have h9 := HLT1.out; rw [← hX0, ← hX1, h] at h9; omega
          have hne2 : X1 ≠ X0 := fun h => hne1 h.symm
          have HX := Lib.hid (And.intro hX0 hX1)
          simp only [← hX0, ← hX1]
          clear hX0 hX1
          have hrow := HB0.out
          have f0_0 := row_free hrow 0
          have c0_0 := row_cell hrow 0
          have f0_1 := row_free hrow 1
          have c0_1 := row_cell hrow 1
          have f0_2 := row_free hrow 2
          have c0_2 := row_cell hrow 2
          have f0_3 := row_free hrow 3
          have c0_3 := row_cell hrow 3
          have f0_4 := row_free hrow 4
          have c0_4 := row_cell hrow 4
          have f0_5 := row_free hrow 5
          have c0_5 := row_cell hrow 5
          have f0_6 := row_free hrow 6
          have c0_6 := row_cell hrow 6
          have f0_7 := row_free hrow 7
          have c0_7 := row_cell hrow 7
          have f0_8 := row_free hrow 8
          have c0_8 := row_cell hrow 8
          have f0_9 := row_free hrow 9
          have c0_9 := row_cell hrow 9
          simp only [List.getElem?_toArray, List.getElem?_cons_zero, List.getElem?_cons_succ] at c0_0 c0_1 c0_2 c0_3 c0_4 c0_5 c0_6 c0_7 c0_8 c0_9
          clear hrow
          have hrow := HB1.out
          have f1_0 := row_free hrow 0
          have c1_0 := row_cell hrow 0
          have f1_1 := row_free hrow 1
          have c1_1 := row_cell hrow 1
          have f1_2 := row_free hrow 2
          have c1_2 := row_cell hrow 2
          have f1_3 := row_free hrow 3
          have c1_3 := row_cell hrow 3
          have f1_4 := row_free hrow 4
          have c1_4 := row_cell hrow 4
          have f1_5 := row_free hrow 5
          have c1_5 := row_cell hrow 5
          have f1_6 := row_free hrow 6
          have c1_6 := row_cell hrow 6
          have f1_7 := row_free hrow 7
          have c1_7 := row_cell hrow 7
          have f1_8 := row_free hrow 8
          have c1_8 := row_cell hrow 8
          have f1_9 := row_free hrow 9
          have c1_9 := row_cell hrow 9
          simp only [List.getElem?_toArray, List.getElem?_cons_zero, List.getElem?_cons_succ] at c1_0 c1_1 c1_2 c1_3 c1_4 c1_5 c1_6 c1_7 c1_8 c1_9
          clear hrow
          go_wp2_with fail
          refine bodyPost_ret (v := .agg #[.int .i64 7, .string ⟨#[]⟩, .string (strO a1), .pointer (some ⟨x2, 0, none⟩), .pointer (some ⟨x5, 0, none⟩), .pointer none, .slice none 0 0, .slice none 0 0, .slice none 0 0, .int .i64 0]) (by simp [results, Tryz.results180, go_sem, c0_0, c0_1, c0_2, c0_3, c0_4, c0_5, c0_6, c0_7, c0_8, c0_9, c1_0, c1_1, c1_2, c1_3, c1_4, c1_5, c1_6, c1_7, c1_8, c1_9]) rfl ?_
          refine setsEnd (S := [X0, X1]) (w := w5) ?_ ?_
          · repeat (refine Keeps.setCell ?_ (by simp) _)
            exact Keeps.refl _ _
          · intro W hk
            have nt0 := And.intro (NotT.of (T := 74) HB0.out (by decide)) (And.intro (NotT.of (T := 105) HB0.out (by decide)) (NotT.of (T := 170) HB0.out (by decide)))
            have nt1 := And.intro (NotT.of (T := 74) HB1.out (by decide)) (And.intro (NotT.of (T := 105) HB1.out (by decide)) (NotT.of (T := 170) HB1.out (by decide)))
            have hoff : Off w5 b (fun _ => False) [X0, X1] := fun y hy => .inr ⟨id, (by
              simp at hy
              rcases hy with rfl | rfl
              · exact nt0
              · exact nt1)⟩
            rw [HR.out]
            have hex : SmAt w5 b (fun _ => False) (.mk 7 [] a1 (some a2) (some a5) none [] [] [] 0) [.int .i64 7, .string ⟨#[]⟩, .string (strO a1), .pointer (some ⟨x2, 0, none⟩), .pointer (some ⟨x5, 0, none⟩), .pointer none, .slice none 0 0, .slice none 0 0, .slice none 0 0, .int .i64 0] := ⟨_, _, _, _, _, _, rfl, E2.out, E5.out, rfl, noArgs, noBlock, noBlock⟩
            exact ⟨_, rfl, ⟨_, rfl, SmAt.keep hk hoff _ _ hex⟩, HW5.out.keepHi hk (by have := HBL.out; have := HBL1.out; have h8 := HX.out.1; have h9 := HX.out.2; simp; omega), HKW5.out.hi hk (by have := HLT1.out; have h8 := HX.out.1; have h9 := HX.out.2; simp; omega)⟩
end Go.Proofs.YtbikifibfaaggaaGreatDoor
