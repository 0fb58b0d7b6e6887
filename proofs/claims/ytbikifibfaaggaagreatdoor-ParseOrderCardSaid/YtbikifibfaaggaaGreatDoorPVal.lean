/- What a variable becomes. -/
import Derived.Test.YtbikifibfaaggaaGreatDoorPStm
namespace Go.Proofs.YtbikifibfaaggaaGreatDoor
open Go.RowKit Go.Shelf
open Lx (Tok Tx)
open Px (Ex Cn Sm)

set_option maxHeartbeats 2000000 in
set_option maxRecDepth 100000 in
theorem value_null (w : World) (b n o k : Nat) (ts : List Tok) (f : Nat) (h : PAt w b n ts o k) (ho2 : o ≤ 1000) (hf : 4 * ts.length + 6 ≤ f) (hy : Px.sees ts [110, 117, 108, 108] = true) :
    Calls Tryz.prog 182 #[pp b] w (RP Sm0At (fun _ => k) w b n o ((.ok (Px.Sm.mk 3 [] [] none none none [] [] [] 0) ts.tail : Px.R Sm))) := by
  obtain ⟨R, hR⟩ : ∃ R, R = ((.ok (Px.Sm.mk 3 [] [] none none none [] [] [] 0) ts.tail : Px.R Sm)) := ⟨_, rfl⟩
  rw [← hR]
  have HR := Lib.hid hR
  have HF := Lib.hid hf
  have H0 := Lib.hid h
  have HK0 := Lib.hid (Keeps.refl [b] w)
  have hbl := h.lt
  have HBL := Lib.hid hbl
  have hmf : ∀ (fn : Fn) (first cap : Array Value) (w : World), (Instr.makeFunc fn first cap).run Tryz.prog w = .ok (.func fn first cap) w := fun _ _ _ _ => rfl
  have H0 := Lib.hid h
  have HK0 := Lib.hid (Keeps.refl [b] w)
  have HB0 := Lib.hid (show (w.alloc (.cells #[.int .i64 0, .string .empty, .string .empty, .pointer none, .pointer none, .pointer none, .slice none 0 0, .slice none 0 0, .slice none 0 0, .int .i64 0] 60)).heap[w.heap.size]? = some (.cells #[.int .i64 0, .string .empty, .string .empty, .pointer none, .pointer none, .pointer none, .slice none 0 0, .slice none 0 0, .slice none 0 0, .int .i64 0] 60 (0, 0)) from heap_alloc_new _ _)
  have H0 := Lib.hid (H0.out.keep ((Keeps.refl [] _).alloc (.cells #[.int .i64 0, .string .empty, .string .empty, .pointer none, .pointer none, .pointer none, .slice none 0 0, .slice none 0 0, .slice none 0 0, .int .i64 0] 60)))
  have HK0 := Lib.hid (HK0.out.alloc (.cells #[.int .i64 0, .string .empty, .string .empty, .pointer none, .pointer none, .pointer none, .slice none 0 0, .slice none 0 0, .slice none 0 0, .int .i64 0] 60))
  have HP0 := Lib.hid (fun w' (h' : PAt w' b n ts o k) => passes_yes w' b n o k ts h' [110, 117, 108, 108] (by simp) hy)
  have HLT := Lib.hid (show ts.tail.length < ts.length by have := Px.sees_len (by simp) hy; simp; omega)
  clear h hf hR hbl hy
  go_enter Tryz.func182, Tryz.ntmps182
  go_wp2_with fail
  refine (HP0.out _ H0.out).mono ?_
  rintro e w0 ⟨rfl, h1, h2⟩
  have H0 := Lib.hid h1
  have HK0 := Lib.hid (HK0.out.trans h2 (fun _ h _ => h))
  have HB0 := Lib.hid (block_keep HB0.out h2 (by have := HBL.out; simp; omega))
  clear h1 h2
  have hrow := HB0.out
  have f0_0 := row_free hrow 0
  have c0_0 := row_cell hrow 0
  have f0_1 := row_free hrow 1
  have c0_1 := row_cell hrow 1
  have f0_2 := row_free hrow 2
  have c0_2 := row_cell hrow 2
  have f0_3 := row_free hrow 3
  have c0_3 := row_cell hrow 3
  have f0_4 := row_free hrow 4
  have c0_4 := row_cell hrow 4
  have f0_5 := row_free hrow 5
  have c0_5 := row_cell hrow 5
  have f0_6 := row_free hrow 6
  have c0_6 := row_cell hrow 6
  have f0_7 := row_free hrow 7
  have c0_7 := row_cell hrow 7
  have f0_8 := row_free hrow 8
  have c0_8 := row_cell hrow 8
  have f0_9 := row_free hrow 9
  have c0_9 := row_cell hrow 9
  simp only [List.getElem?_toArray, List.getElem?_cons_zero, List.getElem?_cons_succ] at c0_0 c0_1 c0_2 c0_3 c0_4 c0_5 c0_6 c0_7 c0_8 c0_9
  clear hrow
  go_wp2_with fail
  refine bodyPost_ret (v := .agg #[.int .i64 3, .string ⟨#[]⟩, .string ⟨#[]⟩, .pointer none, .pointer none, .pointer none, .slice none 0 0, .slice none 0 0, .slice none 0 0, .int .i64 0]) (by simp [results, Tryz.results182, go_sem, c0_0, c0_1, c0_2, c0_3, c0_4, c0_5, c0_6, c0_7, c0_8, c0_9]) rfl ?_
  refine setsEnd (S := [w.heap.size]) (w := w0) ?_ ?_
  · repeat (refine Keeps.setCell ?_ (by simp) _)
    exact Keeps.refl _ _
  · intro W hk
    have nt0 := And.intro (NotT.of (T := 74) HB0.out (by decide)) (And.intro (NotT.of (T := 105) HB0.out (by decide)) (NotT.of (T := 170) HB0.out (by decide)))
    have hoff : Off w0 b (fun _ => False) [w.heap.size] := fun y hy => .inr ⟨id, (by
      obtain rfl : y = w.heap.size := by simpa using hy
      exact nt0)⟩
    rw [HR.out]
    have hex : SmAt w0 b (fun _ => False) (Px.Sm.mk 3 [] [] none none none [] [] [] 0) [.int .i64 3, .string ⟨#[]⟩, .string ⟨#[]⟩, .pointer none, .pointer none, .pointer none, .slice none 0 0, .slice none 0 0, .slice none 0 0, .int .i64 0] := ⟨_, _, _, _, _, _, rfl, rfl, rfl, rfl, noArgs, noBlock, noBlock⟩
    exact ⟨_, rfl, ⟨_, rfl, SmAt.keep hk hoff _ _ hex⟩, H0.out.keepHi hk (by have := HBL.out; simp; omega), HK0.out.hi hk (by simp)⟩
set_option maxHeartbeats 2000000 in
set_option maxRecDepth 100000 in
theorem value_addr (w : World) (b n o k : Nat) (ts : List Tok) (f : Nat) (h : PAt w b n ts o k) (ho2 : o ≤ 1000) (hf : 4 * ts.length + 6 ≤ f) (hn : Px.sees ts [110, 117, 108, 108] = false) (hy : Px.sees ts [38] = true) :
    Calls Tryz.prog 182 #[pp b] w (RP Sm0At (fun _ => k) w b n o ((Px.nameR ts.tail).bind fun y r => .ok (Px.Sm.mk 1 [] y none none none [] [] [] 0) r)) := by
  obtain ⟨R, hR⟩ : ∃ R, R = ((Px.nameR ts.tail).bind fun y r => .ok (Px.Sm.mk 1 [] y none none none [] [] [] 0) r) := ⟨_, rfl⟩
  rw [← hR]
  have HR := Lib.hid hR
  have HF := Lib.hid hf
  have H0 := Lib.hid h
  have HK0 := Lib.hid (Keeps.refl [b] w)
  have hbl := h.lt
  have HBL := Lib.hid hbl
  have hmf : ∀ (fn : Fn) (first cap : Array Value) (w : World), (Instr.makeFunc fn first cap).run Tryz.prog w = .ok (.func fn first cap) w := fun _ _ _ _ => rfl
  have H0 := Lib.hid h
  have HK0 := Lib.hid (Keeps.refl [b] w)
  have HB0 := Lib.hid (show (w.alloc (.cells #[.int .i64 0, .string .empty, .string .empty, .pointer none, .pointer none, .pointer none, .slice none 0 0, .slice none 0 0, .slice none 0 0, .int .i64 0] 60)).heap[w.heap.size]? = some (.cells #[.int .i64 0, .string .empty, .string .empty, .pointer none, .pointer none, .pointer none, .slice none 0 0, .slice none 0 0, .slice none 0 0, .int .i64 0] 60 (0, 0)) from heap_alloc_new _ _)
  have H0 := Lib.hid (H0.out.keep ((Keeps.refl [] _).alloc (.cells #[.int .i64 0, .string .empty, .string .empty, .pointer none, .pointer none, .pointer none, .slice none 0 0, .slice none 0 0, .slice none 0 0, .int .i64 0] 60)))
  have HK0 := Lib.hid (HK0.out.alloc (.cells #[.int .i64 0, .string .empty, .string .empty, .pointer none, .pointer none, .pointer none, .slice none 0 0, .slice none 0 0, .slice none 0 0, .int .i64 0] 60))
  have HP0 := Lib.hid (fun w' (h' : PAt w' b n ts o k) => passes_no w' b n o k ts h' [110, 117, 108, 108] hn)
  have HP1 := Lib.hid (fun w' (h' : PAt w' b n ts o k) => passes_yes w' b n o k ts h' [38] (by simp) hy)
  have HLT := Lib.hid (show ts.tail.length < ts.length by have := Px.sees_len (by simp) hy; simp; omega)
  clear h hf hR hbl hn hy
  go_enter Tryz.func182, Tryz.ntmps182
  go_wp2_with fail
  refine (HP0.out _ H0.out).mono ?_
  rintro e w' ⟨rfl, rfl⟩
  go_wp2_with fail
  refine (HP1.out _ H0.out).mono ?_
  rintro e w0 ⟨rfl, h1, h2⟩
  have H0 := Lib.hid h1
  have HK0 := Lib.hid (HK0.out.trans h2 (fun _ h _ => h))
  have HB0 := Lib.hid (block_keep HB0.out h2 (by have := HBL.out; simp; omega))
  clear h1 h2
  have HC0 := Lib.hid (fun w' (h' : PAt w' b n (ts.tail) o k) => name_rp w' b n o k (ts.tail) h')
  have hlen := fun a r (h : Px.nameR (ts.tail) = .ok a r) => Px.nameR_len h
  have hR := HR.out
  obtain ⟨rr, hrr⟩ : ∃ x, x = Px.nameR (ts.tail) := ⟨_, rfl⟩
  rw [← hrr] at HC0 hlen hR
  have HR := Lib.hid hR
  have HLEN := Lib.hid hlen
  clear hR hlen hrr
  go_wp2_with fail
  refine (HC0.out _ H0.out).mono ?_
  intro e w1 hr
  cases rr with
  | err z r =>
    obtain ⟨rfl, h4, h5⟩ := hr
    have H4 := Lib.hid h4
    have H5 := Lib.hid (HK0.out.trans h5 (fun _ h _ => h))
    clear h4 h5
    go_wp2
    rw [HR.out]
    exact ⟨rfl, rfl, H4.out, H5.out⟩
  | ok a1 r1 =>
    obtain ⟨v1, rfl, h3, h4, h5⟩ := hr
    have HL1 := Lib.hid (HLEN.out a1 r1 rfl)
    have hR := HR.out
    simp only [Px.bind_ok] at hR
    have HR := Lib.hid hR
    clear hR
    obtain rfl : v1 = .string (strO a1) := h3
    have HW1 := Lib.hid h4
    have HKW1 := Lib.hid (HK0.out.trans h5 (fun _ h _ => h))
    have HSTEP1 := Lib.hid h5
    have HB0 := Lib.hid (block_keep HB0.out h5 (by have := HBL.out; simp; omega))
    clear h4 h5
    have hrow := HB0.out
    have f0_0 := row_free hrow 0
    have c0_0 := row_cell hrow 0
    have f0_1 := row_free hrow 1
    have c0_1 := row_cell hrow 1
    have f0_2 := row_free hrow 2
    have c0_2 := row_cell hrow 2
    have f0_3 := row_free hrow 3
    have c0_3 := row_cell hrow 3
    have f0_4 := row_free hrow 4
    have c0_4 := row_cell hrow 4
    have f0_5 := row_free hrow 5
    have c0_5 := row_cell hrow 5
    have f0_6 := row_free hrow 6
    have c0_6 := row_cell hrow 6
    have f0_7 := row_free hrow 7
    have c0_7 := row_cell hrow 7
    have f0_8 := row_free hrow 8
    have c0_8 := row_cell hrow 8
    have f0_9 := row_free hrow 9
    have c0_9 := row_cell hrow 9
    simp only [List.getElem?_toArray, List.getElem?_cons_zero, List.getElem?_cons_succ] at c0_0 c0_1 c0_2 c0_3 c0_4 c0_5 c0_6 c0_7 c0_8 c0_9
    clear hrow
    go_wp2_with fail
    refine bodyPost_ret (v := .agg #[.int .i64 1, .string ⟨#[]⟩, .string (strO a1), .pointer none, .pointer none, .pointer none, .slice none 0 0, .slice none 0 0, .slice none 0 0, .int .i64 0]) (by simp [results, Tryz.results182, go_sem, c0_0, c0_1, c0_2, c0_3, c0_4, c0_5, c0_6, c0_7, c0_8, c0_9]) rfl ?_
    refine setsEnd (S := [w.heap.size]) (w := w1) ?_ ?_
    · repeat (refine Keeps.setCell ?_ (by simp) _)
      exact Keeps.refl _ _
    · intro W hk
      have nt0 := And.intro (NotT.of (T := 74) HB0.out (by decide)) (And.intro (NotT.of (T := 105) HB0.out (by decide)) (NotT.of (T := 170) HB0.out (by decide)))
      have hoff : Off w1 b (fun _ => False) [w.heap.size] := fun y hy => .inr ⟨id, (by
        obtain rfl : y = w.heap.size := by simpa using hy
        exact nt0)⟩
      rw [HR.out]
      have hex : SmAt w1 b (fun _ => False) (Px.Sm.mk 1 [] a1 none none none [] [] [] 0) [.int .i64 1, .string ⟨#[]⟩, .string (strO a1), .pointer none, .pointer none, .pointer none, .slice none 0 0, .slice none 0 0, .slice none 0 0, .int .i64 0] := ⟨_, _, _, _, _, _, rfl, rfl, rfl, rfl, noArgs, noBlock, noBlock⟩
      exact ⟨_, rfl, ⟨_, rfl, SmAt.keep hk hoff _ _ hex⟩, HW1.out.keepHi hk (by have := HBL.out; simp; omega), HKW1.out.hi hk (by simp)⟩
set_option maxHeartbeats 2000000 in
set_option maxRecDepth 100000 in
theorem value_load (w : World) (b n o k : Nat) (ts : List Tok) (f : Nat) (h : PAt w b n ts o k) (ho2 : o ≤ 1000) (hf : 4 * ts.length + 6 ≤ f) (hn : Px.sees ts [110, 117, 108, 108] = false) (ha : Px.sees ts [38] = false) (hy : Px.sees ts [42] = true) :
    Calls Tryz.prog 182 #[pp b] w (RP Sm0At (fun _ => k) w b n o ((Px.nameR ts.tail).bind fun y r => .ok (Px.Sm.mk 4 [] y none none none [] [] [] 0) r)) := by
  obtain ⟨R, hR⟩ : ∃ R, R = ((Px.nameR ts.tail).bind fun y r => .ok (Px.Sm.mk 4 [] y none none none [] [] [] 0) r) := ⟨_, rfl⟩
  rw [← hR]
  have HR := Lib.hid hR
  have HF := Lib.hid hf
  have H0 := Lib.hid h
  have HK0 := Lib.hid (Keeps.refl [b] w)
  have hbl := h.lt
  have HBL := Lib.hid hbl
  have hmf : ∀ (fn : Fn) (first cap : Array Value) (w : World), (Instr.makeFunc fn first cap).run Tryz.prog w = .ok (.func fn first cap) w := fun _ _ _ _ => rfl
  have H0 := Lib.hid h
  have HK0 := Lib.hid (Keeps.refl [b] w)
  have HB0 := Lib.hid (show (w.alloc (.cells #[.int .i64 0, .string .empty, .string .empty, .pointer none, .pointer none, .pointer none, .slice none 0 0, .slice none 0 0, .slice none 0 0, .int .i64 0] 60)).heap[w.heap.size]? = some (.cells #[.int .i64 0, .string .empty, .string .empty, .pointer none, .pointer none, .pointer none, .slice none 0 0, .slice none 0 0, .slice none 0 0, .int .i64 0] 60 (0, 0)) from heap_alloc_new _ _)
  have H0 := Lib.hid (H0.out.keep ((Keeps.refl [] _).alloc (.cells #[.int .i64 0, .string .empty, .string .empty, .pointer none, .pointer none, .pointer none, .slice none 0 0, .slice none 0 0, .slice none 0 0, .int .i64 0] 60)))
  have HK0 := Lib.hid (HK0.out.alloc (.cells #[.int .i64 0, .string .empty, .string .empty, .pointer none, .pointer none, .pointer none, .slice none 0 0, .slice none 0 0, .slice none 0 0, .int .i64 0] 60))
  have HP0 := Lib.hid (fun w' (h' : PAt w' b n ts o k) => passes_no w' b n o k ts h' [110, 117, 108, 108] hn)
  have HP1 := Lib.hid (fun w' (h' : PAt w' b n ts o k) => passes_no w' b n o k ts h' [38] ha)
  have HP2 := Lib.hid (fun w' (h' : PAt w' b n ts o k) => passes_yes w' b n o k ts h' [42] (by simp) hy)
  have HLT := Lib.hid (show ts.tail.length < ts.length by have := Px.sees_len (by simp) hy; simp; omega)
  clear h hf hR hbl hn ha hy
  go_enter Tryz.func182, Tryz.ntmps182
  go_wp2_with fail
  refine (HP0.out _ H0.out).mono ?_
  rintro e w' ⟨rfl, rfl⟩
  go_wp2_with fail
  refine (HP1.out _ H0.out).mono ?_
  rintro e w' ⟨rfl, rfl⟩
  go_wp2_with fail
  refine (HP2.out _ H0.out).mono ?_
  rintro e w0 ⟨rfl, h1, h2⟩
  have H0 := Lib.hid h1
  have HK0 := Lib.hid (HK0.out.trans h2 (fun _ h _ => h))
  have HB0 := Lib.hid (block_keep HB0.out h2 (by have := HBL.out; simp; omega))
  clear h1 h2
  have HC0 := Lib.hid (fun w' (h' : PAt w' b n (ts.tail) o k) => name_rp w' b n o k (ts.tail) h')
  have hlen := fun a r (h : Px.nameR (ts.tail) = .ok a r) => Px.nameR_len h
  have hR := HR.out
  obtain ⟨rr, hrr⟩ : ∃ x, x = Px.nameR (ts.tail) := ⟨_, rfl⟩
  rw [← hrr] at HC0 hlen hR
  have HR := Lib.hid hR
  have HLEN := Lib.hid hlen
  clear hR hlen hrr
  go_wp2_with fail
  refine (HC0.out _ H0.out).mono ?_
  intro e w1 hr
  cases rr with
  | err z r =>
    obtain ⟨rfl, h4, h5⟩ := hr
    have H4 := Lib.hid h4
    have H5 := Lib.hid (HK0.out.trans h5 (fun _ h _ => h))
    clear h4 h5
    go_wp2
    rw [HR.out]
    exact ⟨rfl, rfl, H4.out, H5.out⟩
  | ok a1 r1 =>
    obtain ⟨v1, rfl, h3, h4, h5⟩ := hr
    have HL1 := Lib.hid (HLEN.out a1 r1 rfl)
    have hR := HR.out
    simp only [Px.bind_ok] at hR
    have HR := Lib.hid hR
    clear hR
    obtain rfl : v1 = .string (strO a1) := h3
    have HW1 := Lib.hid h4
    have HKW1 := Lib.hid (HK0.out.trans h5 (fun _ h _ => h))
    have HSTEP1 := Lib.hid h5
    have HB0 := Lib.hid (block_keep HB0.out h5 (by have := HBL.out; simp; omega))
    clear h4 h5
    have hrow := HB0.out
    have f0_0 := row_free hrow 0
    have c0_0 := row_cell hrow 0
    have f0_1 := row_free hrow 1
    have c0_1 := row_cell hrow 1
    have f0_2 := row_free hrow 2
    have c0_2 := row_cell hrow 2
    have f0_3 := row_free hrow 3
    have c0_3 := row_cell hrow 3
    have f0_4 := row_free hrow 4
    have c0_4 := row_cell hrow 4
    have f0_5 := row_free hrow 5
    have c0_5 := row_cell hrow 5
    have f0_6 := row_free hrow 6
    have c0_6 := row_cell hrow 6
    have f0_7 := row_free hrow 7
    have c0_7 := row_cell hrow 7
    have f0_8 := row_free hrow 8
    have c0_8 := row_cell hrow 8
    have f0_9 := row_free hrow 9
    have c0_9 := row_cell hrow 9
    simp only [List.getElem?_toArray, List.getElem?_cons_zero, List.getElem?_cons_succ] at c0_0 c0_1 c0_2 c0_3 c0_4 c0_5 c0_6 c0_7 c0_8 c0_9
    clear hrow
    go_wp2_with fail
    refine bodyPost_ret (v := .agg #[.int .i64 4, .string ⟨#[]⟩, .string (strO a1), .pointer none, .pointer none, .pointer none, .slice none 0 0, .slice none 0 0, .slice none 0 0, .int .i64 0]) (by simp [results, Tryz.results182, go_sem, c0_0, c0_1, c0_2, c0_3, c0_4, c0_5, c0_6, c0_7, c0_8, c0_9]) rfl ?_
    refine setsEnd (S := [w.heap.size]) (w := w1) ?_ ?_
    · repeat (refine Keeps.setCell ?_ (by simp) _)
      exact Keeps.refl _ _
    · intro W hk
      have nt0 := And.intro (NotT.of (T := 74) HB0.out (by decide)) (And.intro (NotT.of (T := 105) HB0.out (by decide)) (NotT.of (T := 170) HB0.out (by decide)))
      have hoff : Off w1 b (fun _ => False) [w.heap.size] := fun y hy => .inr ⟨id, (by
        obtain rfl : y = w.heap.size := by simpa using hy
        exact nt0)⟩
      rw [HR.out]
      have hex : SmAt w1 b (fun _ => False) (Px.Sm.mk 4 [] a1 none none none [] [] [] 0) [.int .i64 4, .string ⟨#[]⟩, .string (strO a1), .pointer none, .pointer none, .pointer none, .slice none 0 0, .slice none 0 0, .slice none 0 0, .int .i64 0] := ⟨_, _, _, _, _, _, rfl, rfl, rfl, rfl, noArgs, noBlock, noBlock⟩
      exact ⟨_, rfl, ⟨_, rfl, SmAt.keep hk hoff _ _ hex⟩, HW1.out.keepHi hk (by have := HBL.out; simp; omega), HKW1.out.hi hk (by simp)⟩
set_option maxHeartbeats 2000000 in
set_option maxRecDepth 100000 in
theorem value_index (w : World) (b n o k : Nat) (ts : List Tok) (f : Nat) (h : PAt w b n ts o k) (ho2 : o ≤ 1000) (hf : 4 * ts.length + 6 ≤ f) (hn : Px.sees ts [110, 117, 108, 108] = false) (ha : Px.sees ts [38] = false) (hm : Px.sees ts [42] = false) (hi : Px.isName ts = true) (hx : (Px.txt ts 1 == [91]) = true) :
    Calls Tryz.prog 182 #[pp b] w (RP Sm0At (fun _ => k) w b n o ((Px.nameR ts).bind fun y r => (Px.index f o r).bind fun e r => .ok (Px.Sm.mk 6 [] y (some e) none none [] [] [] 0) r)) := by
  obtain ⟨R, hR⟩ : ∃ R, R = ((Px.nameR ts).bind fun y r => (Px.index f o r).bind fun e r => .ok (Px.Sm.mk 6 [] y (some e) none none [] [] [] 0) r) := ⟨_, rfl⟩
  rw [← hR]
  have HR := Lib.hid hR
  have HF := Lib.hid hf
  have H0 := Lib.hid h
  have HK0 := Lib.hid (Keeps.refl [b] w)
  have hbl := h.lt
  have HBL := Lib.hid hbl
  have hmf : ∀ (fn : Fn) (first cap : Array Value) (w : World), (Instr.makeFunc fn first cap).run Tryz.prog w = .ok (.func fn first cap) w := fun _ _ _ _ => rfl
  have H0 := Lib.hid h
  have HK0 := Lib.hid (Keeps.refl [b] w)
  have HB0 := Lib.hid (show (w.alloc (.cells #[.int .i64 0, .string .empty, .string .empty, .pointer none, .pointer none, .pointer none, .slice none 0 0, .slice none 0 0, .slice none 0 0, .int .i64 0] 60)).heap[w.heap.size]? = some (.cells #[.int .i64 0, .string .empty, .string .empty, .pointer none, .pointer none, .pointer none, .slice none 0 0, .slice none 0 0, .slice none 0 0, .int .i64 0] 60 (0, 0)) from heap_alloc_new _ _)
  have H0 := Lib.hid (H0.out.keep ((Keeps.refl [] _).alloc (.cells #[.int .i64 0, .string .empty, .string .empty, .pointer none, .pointer none, .pointer none, .slice none 0 0, .slice none 0 0, .slice none 0 0, .int .i64 0] 60)))
  have HK0 := Lib.hid (HK0.out.alloc (.cells #[.int .i64 0, .string .empty, .string .empty, .pointer none, .pointer none, .pointer none, .slice none 0 0, .slice none 0 0, .slice none 0 0, .int .i64 0] 60))
  have HP0 := Lib.hid (fun w' (h' : PAt w' b n ts o k) => passes_no w' b n o k ts h' [110, 117, 108, 108] hn)
  have HP1 := Lib.hid (fun w' (h' : PAt w' b n ts o k) => passes_no w' b n o k ts h' [38] ha)
  have HP2 := Lib.hid (fun w' (h' : PAt w' b n ts o k) => passes_no w' b n o k ts h' [42] hm)
  have HP3 := Lib.hid (fun w' (h' : PAt w' b n ts o k) => seesName_any w' b n o k ts h')
  rw [hi] at HP3
  have HX1 := Lib.hid (fun w' (h' : PAt w' b n ts o k) => text_any w' b n o k ts h' 1 (by omega))
  have hx1 := strO_toList (Px.txt ts 1)
  obtain ⟨x1, hxx⟩ : ∃ x, x = strO (Px.txt ts 1) := ⟨_, rfl⟩
  rw [← hxx] at HX1 hx1
  have hq0 : (x1.toList == [91]) = true := by rw [hx1]; exact hx
  clear hx1 hxx
  clear h hf hR hbl hn ha hm hi hx
  go_enter Tryz.func182, Tryz.ntmps182
  go_wp2_with fail
  refine (HP0.out _ H0.out).mono ?_
  rintro e w' ⟨rfl, rfl⟩
  go_wp2_with fail
  refine (HP1.out _ H0.out).mono ?_
  rintro e w' ⟨rfl, rfl⟩
  go_wp2_with fail
  refine (HP2.out _ H0.out).mono ?_
  rintro e w' ⟨rfl, rfl⟩
  go_wp2_with fail
  refine (HP3.out _ H0.out).mono ?_
  rintro e w' ⟨rfl, rfl⟩
  go_wp2_with fail
  refine (HX1.out _ H0.out).mono ?_
  rintro e w' ⟨rfl, rfl⟩
  have HC0 := Lib.hid (fun w' (h' : PAt w' b n (ts) o k) => name_rp w' b n o k (ts) h')
  have hlen := fun a r (h : Px.nameR ts = .ok a r) => Px.nameR_len h
  have hR := HR.out
  obtain ⟨rr, hrr⟩ : ∃ x, x = Px.nameR ts := ⟨_, rfl⟩
  rw [← hrr] at HC0 hlen hR
  have HR := Lib.hid hR
  have HLEN := Lib.hid hlen
  clear hR hlen hrr
  go_wp2_with fail
  refine (HC0.out _ H0.out).mono ?_
  intro e w1 hr
  cases rr with
  | err z r =>
    obtain ⟨rfl, h4, h5⟩ := hr
    have H4 := Lib.hid h4
    have H5 := Lib.hid (HK0.out.trans h5 (fun _ h _ => h))
    clear h4 h5
    go_wp2
    rw [HR.out]
    exact ⟨rfl, rfl, H4.out, H5.out⟩
  | ok a1 r1 =>
    obtain ⟨v1, rfl, h3, h4, h5⟩ := hr
    have HL1 := Lib.hid (HLEN.out a1 r1 rfl)
    have hR := HR.out
    simp only [Px.bind_ok] at hR
    have HR := Lib.hid hR
    clear hR
    obtain rfl : v1 = .string (strO a1) := h3
    have HW1 := Lib.hid h4
    have HKW1 := Lib.hid (HK0.out.trans h5 (fun _ h _ => h))
    have HSTEP1 := Lib.hid h5
    have HB0 := Lib.hid (block_keep HB0.out h5 (by have := HBL.out; simp; omega))
    clear h4 h5
    have HC1 := Lib.hid (fun w' (h' : PAt w' b n (r1) o k) => index_any w' b n o k (r1) f h' ho2 (by have := HF.out; have := HL1.out; omega))
    have hlen := fun a r (h : Px.index f o r1 = .ok a r) => Px.index_len h
    have hR := HR.out
    obtain ⟨rr, hrr⟩ : ∃ x, x = Px.index f o r1 := ⟨_, rfl⟩
    rw [← hrr] at HC1 hlen hR
    have HR := Lib.hid hR
    have HLEN := Lib.hid hlen
    clear hR hlen hrr
    go_wp2_with fail
    refine (HC1.out _ HW1.out).mono ?_
    intro e w2 hr
    cases rr with
    | err z r =>
      obtain ⟨rfl, h4, h5⟩ := hr
      have H4 := Lib.hid h4
      have H5 := Lib.hid (HKW1.out.trans h5 (fun _ h _ => h))
      clear h4 h5
      go_wp2
      rw [HR.out]
      exact ⟨rfl, rfl, H4.out, H5.out⟩
    | ok a2 r2 =>
      obtain ⟨v2, rfl, h3, h4, h5⟩ := hr
      have HL2 := Lib.hid (HLEN.out a2 r2 rfl)
      have hR := HR.out
      simp only [Px.bind_ok] at hR
      have HR := Lib.hid hR
      clear hR
      have E2 := Lib.hid h3
      obtain ⟨x2, rfl⟩ := h3.ptr
      clear h3
      have HW2 := Lib.hid h4
      have HKW2 := Lib.hid (HKW1.out.trans h5 (fun _ h _ => h))
      have HSTEP2 := Lib.hid h5
      have HB0 := Lib.hid (block_keep HB0.out h5 (by have := HBL.out; simp; omega))
      clear h4 h5
      have hrow := HB0.out
      have f0_0 := row_free hrow 0
      have c0_0 := row_cell hrow 0
      have f0_1 := row_free hrow 1
      have c0_1 := row_cell hrow 1
      have f0_2 := row_free hrow 2
      have c0_2 := row_cell hrow 2
      have f0_3 := row_free hrow 3
      have c0_3 := row_cell hrow 3
      have f0_4 := row_free hrow 4
      have c0_4 := row_cell hrow 4
      have f0_5 := row_free hrow 5
      have c0_5 := row_cell hrow 5
      have f0_6 := row_free hrow 6
      have c0_6 := row_cell hrow 6
      have f0_7 := row_free hrow 7
      have c0_7 := row_cell hrow 7
      have f0_8 := row_free hrow 8
      have c0_8 := row_cell hrow 8
      have f0_9 := row_free hrow 9
      have c0_9 := row_cell hrow 9
      simp only [List.getElem?_toArray, List.getElem?_cons_zero, List.getElem?_cons_succ] at c0_0 c0_1 c0_2 c0_3 c0_4 c0_5 c0_6 c0_7 c0_8 c0_9
      clear hrow
      go_wp2_with fail
      refine bodyPost_ret (v := .agg #[.int .i64 6, .string ⟨#[]⟩, .string (strO a1), .pointer (some ⟨x2, 0, none⟩), .pointer none, .pointer none, .slice none 0 0, .slice none 0 0, .slice none 0 0, .int .i64 0]) (by simp [results, Tryz.results182, go_sem, c0_0, c0_1, c0_2, c0_3, c0_4, c0_5, c0_6, c0_7, c0_8, c0_9]) rfl ?_
      refine setsEnd (S := [w.heap.size]) (w := w2) ?_ ?_
      · repeat (refine Keeps.setCell ?_ (by simp) _)
        exact Keeps.refl _ _
      · intro W hk
        have nt0 := And.intro (NotT.of (T := 74) HB0.out (by decide)) (And.intro (NotT.of (T := 105) HB0.out (by decide)) (NotT.of (T := 170) HB0.out (by decide)))
        have hoff : Off w2 b (fun _ => False) [w.heap.size] := fun y hy => .inr ⟨id, (by
          obtain rfl : y = w.heap.size := by simpa using hy
          exact nt0)⟩
        rw [HR.out]
        have hex : SmAt w2 b (fun _ => False) (Px.Sm.mk 6 [] a1 (some a2) none none [] [] [] 0) [.int .i64 6, .string ⟨#[]⟩, .string (strO a1), .pointer (some ⟨x2, 0, none⟩), .pointer none, .pointer none, .slice none 0 0, .slice none 0 0, .slice none 0 0, .int .i64 0] := ⟨_, _, _, _, _, _, rfl, E2.out, rfl, rfl, noArgs, noBlock, noBlock⟩
        exact ⟨_, rfl, ⟨_, rfl, SmAt.keep hk hoff _ _ hex⟩, HW2.out.keepHi hk (by have := HBL.out; simp; omega), HKW2.out.hi hk (by simp)⟩
set_option maxHeartbeats 2000000 in
set_option maxRecDepth 100000 in
theorem value_call (w : World) (b n o k : Nat) (ts : List Tok) (f : Nat) (h : PAt w b n ts o k) (ho2 : o ≤ 1000) (hf : 4 * ts.length + 6 ≤ f) (hn : Px.sees ts [110, 117, 108, 108] = false) (ha : Px.sees ts [38] = false) (hm : Px.sees ts [42] = false) (hi : Px.isName ts = true) (hx : (Px.txt ts 1 == [91]) = false) (hz : (Px.txt ts 1 == [40]) = true) :
    Calls Tryz.prog 182 #[pp b] w (RP Sm0At (fun _ => k) w b n o ((Px.call f o ts).bind fun s r => .ok s r)) := by
  obtain ⟨R, hR⟩ : ∃ R, R = ((Px.call f o ts).bind fun s r => .ok s r) := ⟨_, rfl⟩
  rw [← hR]
  have HR := Lib.hid hR
  have HF := Lib.hid hf
  have H0 := Lib.hid h
  have HK0 := Lib.hid (Keeps.refl [b] w)
  have hbl := h.lt
  have HBL := Lib.hid hbl
  have hmf : ∀ (fn : Fn) (first cap : Array Value) (w : World), (Instr.makeFunc fn first cap).run Tryz.prog w = .ok (.func fn first cap) w := fun _ _ _ _ => rfl
  have H0 := Lib.hid h
  have HK0 := Lib.hid (Keeps.refl [b] w)
  have HB0 := Lib.hid (show (w.alloc (.cells #[.int .i64 0, .string .empty, .string .empty, .pointer none, .pointer none, .pointer none, .slice none 0 0, .slice none 0 0, .slice none 0 0, .int .i64 0] 60)).heap[w.heap.size]? = some (.cells #[.int .i64 0, .string .empty, .string .empty, .pointer none, .pointer none, .pointer none, .slice none 0 0, .slice none 0 0, .slice none 0 0, .int .i64 0] 60 (0, 0)) from heap_alloc_new _ _)
  have H0 := Lib.hid (H0.out.keep ((Keeps.refl [] _).alloc (.cells #[.int .i64 0, .string .empty, .string .empty, .pointer none, .pointer none, .pointer none, .slice none 0 0, .slice none 0 0, .slice none 0 0, .int .i64 0] 60)))
  have HK0 := Lib.hid (HK0.out.alloc (.cells #[.int .i64 0, .string .empty, .string .empty, .pointer none, .pointer none, .pointer none, .slice none 0 0, .slice none 0 0, .slice none 0 0, .int .i64 0] 60))
  have HP0 := Lib.hid (fun w' (h' : PAt w' b n ts o k) => passes_no w' b n o k ts h' [110, 117, 108, 108] hn)
  have HP1 := Lib.hid (fun w' (h' : PAt w' b n ts o k) => passes_no w' b n o k ts h' [38] ha)
  have HP2 := Lib.hid (fun w' (h' : PAt w' b n ts o k) => passes_no w' b n o k ts h' [42] hm)
  have HP3 := Lib.hid (fun w' (h' : PAt w' b n ts o k) => seesName_any w' b n o k ts h')
  rw [hi] at HP3
  have HX1 := Lib.hid (fun w' (h' : PAt w' b n ts o k) => text_any w' b n o k ts h' 1 (by omega))
  have hx1 := strO_toList (Px.txt ts 1)
  obtain ⟨x1, hxx⟩ : ∃ x, x = strO (Px.txt ts 1) := ⟨_, rfl⟩
  rw [← hxx] at HX1 hx1
  have hq0 : (x1.toList == [91]) = false := by rw [hx1]; exact hx
  have hq1 : (x1.toList == [40]) = true := by rw [hx1]; exact hz
  clear hx1 hxx
  have HP5 := Lib.hid (fun w' (h' : PAt w' b n ts o k) => seesName_any w' b n o k ts h')
  rw [hi] at HP5
  clear h hf hR hbl hn ha hm hi hx hz
  go_enter Tryz.func182, Tryz.ntmps182
  go_wp2_with fail
  refine (HP0.out _ H0.out).mono ?_
  rintro e w' ⟨rfl, rfl⟩
  go_wp2_with fail
  refine (HP1.out _ H0.out).mono ?_
  rintro e w' ⟨rfl, rfl⟩
  go_wp2_with fail
  refine (HP2.out _ H0.out).mono ?_
  rintro e w' ⟨rfl, rfl⟩
  go_wp2_with fail
  refine (HP3.out _ H0.out).mono ?_
  rintro e w' ⟨rfl, rfl⟩
  go_wp2_with fail
  refine (HX1.out _ H0.out).mono ?_
  rintro e w' ⟨rfl, rfl⟩
  go_wp2_with fail
  refine (HP5.out _ H0.out).mono ?_
  rintro e w' ⟨rfl, rfl⟩
  go_wp2_with fail
  refine (HX1.out _ H0.out).mono ?_
  rintro e w' ⟨rfl, rfl⟩
  have HC0 := Lib.hid (fun w' (h' : PAt w' b n (ts) o k) => call_any w' b n o k (ts) f h' ho2 (by have := HF.out; omega))
  have hlen := fun a r (h : Px.call f o ts = .ok a r) => Px.call_len h
  have hR := HR.out
  obtain ⟨rr, hrr⟩ : ∃ x, x = Px.call f o ts := ⟨_, rfl⟩
  rw [← hrr] at HC0 hlen hR
  have HR := Lib.hid hR
  have HLEN := Lib.hid hlen
  clear hR hlen hrr
  go_wp2_with fail
  refine (HC0.out _ H0.out).mono ?_
  intro e w1 hr
  cases rr with
  | err z r =>
    obtain ⟨rfl, h4, h5⟩ := hr
    have H4 := Lib.hid h4
    have H5 := Lib.hid (HK0.out.trans h5 (fun _ h _ => h))
    clear h4 h5
    go_wp2
    rw [HR.out]
    exact ⟨rfl, rfl, H4.out, H5.out⟩
  | ok a1 r1 =>
    obtain ⟨v1, rfl, h3, h4, h5⟩ := hr
    have HL1 := Lib.hid (HLEN.out a1 r1 rfl)
    have hR := HR.out
    simp only [Px.bind_ok] at hR
    have HR := Lib.hid hR
    clear hR
    obtain ⟨vs, hv, h3⟩ := h3
    have E1 := Lib.hid h3
    obtain ⟨kd, sx, sy, qe, qf, qc, Aa, na, ca, At, nt, ct, Al, nl, cl, at_, rfl⟩ := h3.form
    subst hv
    clear h3
    have HW1 := Lib.hid h4
    have HKW1 := Lib.hid (HK0.out.trans h5 (fun _ h _ => h))
    have HSTEP1 := Lib.hid h5
    have HB0 := Lib.hid (block_keep HB0.out h5 (by have := HBL.out; simp; omega))
    clear h4 h5
    have hrow := HB0.out
    have f0_0 := row_free hrow 0
    have c0_0 := row_cell hrow 0
    have f0_1 := row_free hrow 1
    have c0_1 := row_cell hrow 1
    have f0_2 := row_free hrow 2
    have c0_2 := row_cell hrow 2
    have f0_3 := row_free hrow 3
    have c0_3 := row_cell hrow 3
    have f0_4 := row_free hrow 4
    have c0_4 := row_cell hrow 4
    have f0_5 := row_free hrow 5
    have c0_5 := row_cell hrow 5
    have f0_6 := row_free hrow 6
    have c0_6 := row_cell hrow 6
    have f0_7 := row_free hrow 7
    have c0_7 := row_cell hrow 7
    have f0_8 := row_free hrow 8
    have c0_8 := row_cell hrow 8
    have f0_9 := row_free hrow 9
    have c0_9 := row_cell hrow 9
    simp only [List.getElem?_toArray, List.getElem?_cons_zero, List.getElem?_cons_succ] at c0_0 c0_1 c0_2 c0_3 c0_4 c0_5 c0_6 c0_7 c0_8 c0_9
    clear hrow
    go_wp2_with fail
    refine bodyPost_ret (v := .agg #[.int .i64 kd, .string sx, .string sy, .pointer qe, .pointer qf, .pointer qc, .slice Aa na ca, .slice At nt ct, .slice Al nl cl, .int .i64 at_]) (by simp [results, Tryz.results182, go_sem, c0_0, c0_1, c0_2, c0_3, c0_4, c0_5, c0_6, c0_7, c0_8, c0_9]) rfl ?_
    refine setsEnd (S := [w.heap.size]) (w := w1) ?_ ?_
    · repeat (refine Keeps.setCell ?_ (by simp) _)
      exact Keeps.refl _ _
    · intro W hk
      have nt0 := And.intro (NotT.of (T := 74) HB0.out (by decide)) (And.intro (NotT.of (T := 105) HB0.out (by decide)) (NotT.of (T := 170) HB0.out (by decide)))
      have hoff : Off w1 b (fun _ => False) [w.heap.size] := fun y hy => .inr ⟨id, (by
        obtain rfl : y = w.heap.size := by simpa using hy
        exact nt0)⟩
      rw [HR.out]
      have hex : SmAt w1 b (fun _ => False) a1 [.int .i64 kd, .string sx, .string sy, .pointer qe, .pointer qf, .pointer qc, .slice Aa na ca, .slice At nt ct, .slice Al nl cl, .int .i64 at_] := E1.out
      exact ⟨_, rfl, ⟨_, rfl, SmAt.keep hk hoff _ _ hex⟩, HW1.out.keepHi hk (by have := HBL.out; simp; omega), HKW1.out.hi hk (by simp)⟩
set_option maxHeartbeats 2000000 in
set_option maxRecDepth 100000 in
theorem value_sum1 (w : World) (b n o k : Nat) (ts : List Tok) (f : Nat) (h : PAt w b n ts o k) (ho2 : o ≤ 1000) (hf : 4 * ts.length + 6 ≤ f) (hn : Px.sees ts [110, 117, 108, 108] = false) (ha : Px.sees ts [38] = false) (hm : Px.sees ts [42] = false) (hi : Px.isName ts = true) (hx : (Px.txt ts 1 == [91]) = false) (hz : (Px.txt ts 1 == [40]) = false) :
    Calls Tryz.prog 182 #[pp b] w (RP Sm0At (fun _ => k) w b n o ((Px.sum f o ts).bind fun e r => .ok (Px.Sm.mk 0 [] [] (some e) none none [] [] [] 0) r)) := by
  obtain ⟨R, hR⟩ : ∃ R, R = ((Px.sum f o ts).bind fun e r => .ok (Px.Sm.mk 0 [] [] (some e) none none [] [] [] 0) r) := ⟨_, rfl⟩
  rw [← hR]
  have HR := Lib.hid hR
  have HF := Lib.hid hf
  have H0 := Lib.hid h
  have HK0 := Lib.hid (Keeps.refl [b] w)
  have hbl := h.lt
  have HBL := Lib.hid hbl
  have hmf : ∀ (fn : Fn) (first cap : Array Value) (w : World), (Instr.makeFunc fn first cap).run Tryz.prog w = .ok (.func fn first cap) w := fun _ _ _ _ => rfl
  have H0 := Lib.hid h
  have HK0 := Lib.hid (Keeps.refl [b] w)
  have HB0 := Lib.hid (show (w.alloc (.cells #[.int .i64 0, .string .empty, .string .empty, .pointer none, .pointer none, .pointer none, .slice none 0 0, .slice none 0 0, .slice none 0 0, .int .i64 0] 60)).heap[w.heap.size]? = some (.cells #[.int .i64 0, .string .empty, .string .empty, .pointer none, .pointer none, .pointer none, .slice none 0 0, .slice none 0 0, .slice none 0 0, .int .i64 0] 60 (0, 0)) from heap_alloc_new _ _)
  have H0 := Lib.hid (H0.out.keep ((Keeps.refl [] _).alloc (.cells #[.int .i64 0, .string .empty, .string .empty, .pointer none, .pointer none, .pointer none, .slice none 0 0, .slice none 0 0, .slice none 0 0, .int .i64 0] 60)))
  have HK0 := Lib.hid (HK0.out.alloc (.cells #[.int .i64 0, .string .empty, .string .empty, .pointer none, .pointer none, .pointer none, .slice none 0 0, .slice none 0 0, .slice none 0 0, .int .i64 0] 60))
  have HP0 := Lib.hid (fun w' (h' : PAt w' b n ts o k) => passes_no w' b n o k ts h' [110, 117, 108, 108] hn)
  have HP1 := Lib.hid (fun w' (h' : PAt w' b n ts o k) => passes_no w' b n o k ts h' [38] ha)
  have HP2 := Lib.hid (fun w' (h' : PAt w' b n ts o k) => passes_no w' b n o k ts h' [42] hm)
  have HP3 := Lib.hid (fun w' (h' : PAt w' b n ts o k) => seesName_any w' b n o k ts h')
  rw [hi] at HP3
  have HX1 := Lib.hid (fun w' (h' : PAt w' b n ts o k) => text_any w' b n o k ts h' 1 (by omega))
  have hx1 := strO_toList (Px.txt ts 1)
  obtain ⟨x1, hxx⟩ : ∃ x, x = strO (Px.txt ts 1) := ⟨_, rfl⟩
  rw [← hxx] at HX1 hx1
  have hq0 : (x1.toList == [91]) = false := by rw [hx1]; exact hx
  have hq1 : (x1.toList == [40]) = false := by rw [hx1]; exact hz
  clear hx1 hxx
  have HP5 := Lib.hid (fun w' (h' : PAt w' b n ts o k) => seesName_any w' b n o k ts h')
  rw [hi] at HP5
  clear h hf hR hbl hn ha hm hi hx hz
  go_enter Tryz.func182, Tryz.ntmps182
  go_wp2_with fail
  refine (HP0.out _ H0.out).mono ?_
  rintro e w' ⟨rfl, rfl⟩
  go_wp2_with fail
  refine (HP1.out _ H0.out).mono ?_
  rintro e w' ⟨rfl, rfl⟩
  go_wp2_with fail
  refine (HP2.out _ H0.out).mono ?_
  rintro e w' ⟨rfl, rfl⟩
  go_wp2_with fail
  refine (HP3.out _ H0.out).mono ?_
  rintro e w' ⟨rfl, rfl⟩
  go_wp2_with fail
  refine (HX1.out _ H0.out).mono ?_
  rintro e w' ⟨rfl, rfl⟩
  go_wp2_with fail
  refine (HP5.out _ H0.out).mono ?_
  rintro e w' ⟨rfl, rfl⟩
  go_wp2_with fail
  refine (HX1.out _ H0.out).mono ?_
  rintro e w' ⟨rfl, rfl⟩
  have HC0 := Lib.hid (fun w' (h' : PAt w' b n (ts) o k) => sum_any w' b n o k (ts) f h' ho2 (by have := HF.out; omega))
  have hlen := fun a r (h : Px.sum f o ts = .ok a r) => Px.sum_len h
  have hR := HR.out
  obtain ⟨rr, hrr⟩ : ∃ x, x = Px.sum f o ts := ⟨_, rfl⟩
  rw [← hrr] at HC0 hlen hR
  have HR := Lib.hid hR
  have HLEN := Lib.hid hlen
  clear hR hlen hrr
  go_wp2_with fail
  refine (HC0.out _ H0.out).mono ?_
  intro e w1 hr
  cases rr with
  | err z r =>
    obtain ⟨rfl, h4, h5⟩ := hr
    have H4 := Lib.hid h4
    have H5 := Lib.hid (HK0.out.trans h5 (fun _ h _ => h))
    clear h4 h5
    go_wp2
    rw [HR.out]
    exact ⟨rfl, rfl, H4.out, H5.out⟩
  | ok a1 r1 =>
    obtain ⟨v1, rfl, h3, h4, h5⟩ := hr
    have HL1 := Lib.hid (HLEN.out a1 r1 rfl)
    have hR := HR.out
    simp only [Px.bind_ok] at hR
    have HR := Lib.hid hR
    clear hR
    have E1 := Lib.hid h3
    obtain ⟨x1, rfl⟩ := h3.ptr
    clear h3
    have HW1 := Lib.hid h4
    have HKW1 := Lib.hid (HK0.out.trans h5 (fun _ h _ => h))
    have HSTEP1 := Lib.hid h5
    have HB0 := Lib.hid (block_keep HB0.out h5 (by have := HBL.out; simp; omega))
    clear h4 h5
    have hrow := HB0.out
    have f0_0 := row_free hrow 0
    have c0_0 := row_cell hrow 0
    have f0_1 := row_free hrow 1
    have c0_1 := row_cell hrow 1
    have f0_2 := row_free hrow 2
    have c0_2 := row_cell hrow 2
    have f0_3 := row_free hrow 3
    have c0_3 := row_cell hrow 3
    have f0_4 := row_free hrow 4
    have c0_4 := row_cell hrow 4
    have f0_5 := row_free hrow 5
    have c0_5 := row_cell hrow 5
    have f0_6 := row_free hrow 6
    have c0_6 := row_cell hrow 6
    have f0_7 := row_free hrow 7
    have c0_7 := row_cell hrow 7
    have f0_8 := row_free hrow 8
    have c0_8 := row_cell hrow 8
    have f0_9 := row_free hrow 9
    have c0_9 := row_cell hrow 9
    simp only [List.getElem?_toArray, List.getElem?_cons_zero, List.getElem?_cons_succ] at c0_0 c0_1 c0_2 c0_3 c0_4 c0_5 c0_6 c0_7 c0_8 c0_9
    clear hrow
    go_wp2_with fail
    refine bodyPost_ret (v := .agg #[.int .i64 0, .string ⟨#[]⟩, .string ⟨#[]⟩, .pointer (some ⟨x1, 0, none⟩), .pointer none, .pointer none, .slice none 0 0, .slice none 0 0, .slice none 0 0, .int .i64 0]) (by simp [results, Tryz.results182, go_sem, c0_0, c0_1, c0_2, c0_3, c0_4, c0_5, c0_6, c0_7, c0_8, c0_9]) rfl ?_
    refine setsEnd (S := [w.heap.size]) (w := w1) ?_ ?_
    · repeat (refine Keeps.setCell ?_ (by simp) _)
      exact Keeps.refl _ _
    · intro W hk
      have nt0 := And.intro (NotT.of (T := 74) HB0.out (by decide)) (And.intro (NotT.of (T := 105) HB0.out (by decide)) (NotT.of (T := 170) HB0.out (by decide)))
      have hoff : Off w1 b (fun _ => False) [w.heap.size] := fun y hy => .inr ⟨id, (by
        obtain rfl : y = w.heap.size := by simpa using hy
        exact nt0)⟩
      rw [HR.out]
      have hex : SmAt w1 b (fun _ => False) (Px.Sm.mk 0 [] [] (some a1) none none [] [] [] 0) [.int .i64 0, .string ⟨#[]⟩, .string ⟨#[]⟩, .pointer (some ⟨x1, 0, none⟩), .pointer none, .pointer none, .slice none 0 0, .slice none 0 0, .slice none 0 0, .int .i64 0] := ⟨_, _, _, _, _, _, rfl, E1.out, rfl, rfl, noArgs, noBlock, noBlock⟩
      exact ⟨_, rfl, ⟨_, rfl, SmAt.keep hk hoff _ _ hex⟩, HW1.out.keepHi hk (by have := HBL.out; simp; omega), HKW1.out.hi hk (by simp)⟩
set_option maxHeartbeats 2000000 in
set_option maxRecDepth 100000 in
theorem value_sum2 (w : World) (b n o k : Nat) (ts : List Tok) (f : Nat) (h : PAt w b n ts o k) (ho2 : o ≤ 1000) (hf : 4 * ts.length + 6 ≤ f) (hn : Px.sees ts [110, 117, 108, 108] = false) (ha : Px.sees ts [38] = false) (hm : Px.sees ts [42] = false) (hi : Px.isName ts = false) :
    Calls Tryz.prog 182 #[pp b] w (RP Sm0At (fun _ => k) w b n o ((Px.sum f o ts).bind fun e r => .ok (Px.Sm.mk 0 [] [] (some e) none none [] [] [] 0) r)) := by
  obtain ⟨R, hR⟩ : ∃ R, R = ((Px.sum f o ts).bind fun e r => .ok (Px.Sm.mk 0 [] [] (some e) none none [] [] [] 0) r) := ⟨_, rfl⟩
  rw [← hR]
  have HR := Lib.hid hR
  have HF := Lib.hid hf
  have H0 := Lib.hid h
  have HK0 := Lib.hid (Keeps.refl [b] w)
  have hbl := h.lt
  have HBL := Lib.hid hbl
  have hmf : ∀ (fn : Fn) (first cap : Array Value) (w : World), (Instr.makeFunc fn first cap).run Tryz.prog w = .ok (.func fn first cap) w := fun _ _ _ _ => rfl
  have H0 := Lib.hid h
  have HK0 := Lib.hid (Keeps.refl [b] w)
  have HB0 := Lib.hid (show (w.alloc (.cells #[.int .i64 0, .string .empty, .string .empty, .pointer none, .pointer none, .pointer none, .slice none 0 0, .slice none 0 0, .slice none 0 0, .int .i64 0] 60)).heap[w.heap.size]? = some (.cells #[.int .i64 0, .string .empty, .string .empty, .pointer none, .pointer none, .pointer none, .slice none 0 0, .slice none 0 0, .slice none 0 0, .int .i64 0] 60 (0, 0)) from heap_alloc_new _ _)
  have H0 := Lib.hid (H0.out.keep ((Keeps.refl [] _).alloc (.cells #[.int .i64 0, .string .empty, .string .empty, .pointer none, .pointer none, .pointer none, .slice none 0 0, .slice none 0 0, .slice none 0 0, .int .i64 0] 60)))
  have HK0 := Lib.hid (HK0.out.alloc (.cells #[.int .i64 0, .string .empty, .string .empty, .pointer none, .pointer none, .pointer none, .slice none 0 0, .slice none 0 0, .slice none 0 0, .int .i64 0] 60))
  have HP0 := Lib.hid (fun w' (h' : PAt w' b n ts o k) => passes_no w' b n o k ts h' [110, 117, 108, 108] hn)
  have HP1 := Lib.hid (fun w' (h' : PAt w' b n ts o k) => passes_no w' b n o k ts h' [38] ha)
  have HP2 := Lib.hid (fun w' (h' : PAt w' b n ts o k) => passes_no w' b n o k ts h' [42] hm)
  have HP3 := Lib.hid (fun w' (h' : PAt w' b n ts o k) => seesName_any w' b n o k ts h')
  rw [hi] at HP3
  have HP4 := Lib.hid (fun w' (h' : PAt w' b n ts o k) => seesName_any w' b n o k ts h')
  rw [hi] at HP4
  clear h hf hR hbl hn ha hm hi
  go_enter Tryz.func182, Tryz.ntmps182
  go_wp2_with fail
  refine (HP0.out _ H0.out).mono ?_
  rintro e w' ⟨rfl, rfl⟩
  go_wp2_with fail
  refine (HP1.out _ H0.out).mono ?_
  rintro e w' ⟨rfl, rfl⟩
  go_wp2_with fail
  refine (HP2.out _ H0.out).mono ?_
  rintro e w' ⟨rfl, rfl⟩
  go_wp2_with fail
  refine (HP3.out _ H0.out).mono ?_
  rintro e w' ⟨rfl, rfl⟩
  go_wp2_with fail
  refine (HP4.out _ H0.out).mono ?_
  rintro e w' ⟨rfl, rfl⟩
  have HC0 := Lib.hid (fun w' (h' : PAt w' b n (ts) o k) => sum_any w' b n o k (ts) f h' ho2 (by have := HF.out; omega))
  have hlen := fun a r (h : Px.sum f o ts = .ok a r) => Px.sum_len h
  have hR := HR.out
  obtain ⟨rr, hrr⟩ : ∃ x, x = Px.sum f o ts := ⟨_, rfl⟩
  rw [← hrr] at HC0 hlen hR
  have HR := Lib.hid hR
  have HLEN := Lib.hid hlen
  clear hR hlen hrr
  go_wp2_with fail
  refine (HC0.out _ H0.out).mono ?_
  intro e w1 hr
  cases rr with
  | err z r =>
    obtain ⟨rfl, h4, h5⟩ := hr
    have H4 := Lib.hid h4
    have H5 := Lib.hid (HK0.out.trans h5 (fun _ h _ => h))
    clear h4 h5
    go_wp2
    rw [HR.out]
    exact ⟨rfl, rfl, H4.out, H5.out⟩
  | ok a1 r1 =>
    obtain ⟨v1, rfl, h3, h4, h5⟩ := hr
    have HL1 := Lib.hid (HLEN.out a1 r1 rfl)
    have hR := HR.out
    simp only [Px.bind_ok] at hR
    have HR := Lib.hid hR
    clear hR
    have E1 := Lib.hid h3
    obtain ⟨x1, rfl⟩ := h3.ptr
    clear h3
    have HW1 := Lib.hid h4
    have HKW1 := Lib.hid (HK0.out.trans h5 (fun _ h _ => h))
    have HSTEP1 := Lib.hid h5
    have HB0 := Lib.hid (block_keep HB0.out h5 (by have := HBL.out; simp; omega))
    clear h4 h5
    have hrow := HB0.out
    have f0_0 := row_free hrow 0
    have c0_0 := row_cell hrow 0
    have f0_1 := row_free hrow 1
    have c0_1 := row_cell hrow 1
    have f0_2 := row_free hrow 2
    have c0_2 := row_cell hrow 2
    have f0_3 := row_free hrow 3
    have c0_3 := row_cell hrow 3
    have f0_4 := row_free hrow 4
    have c0_4 := row_cell hrow 4
    have f0_5 := row_free hrow 5
    have c0_5 := row_cell hrow 5
    have f0_6 := row_free hrow 6
    have c0_6 := row_cell hrow 6
    have f0_7 := row_free hrow 7
    have c0_7 := row_cell hrow 7
    have f0_8 := row_free hrow 8
    have c0_8 := row_cell hrow 8
    have f0_9 := row_free hrow 9
    have c0_9 := row_cell hrow 9
    simp only [List.getElem?_toArray, List.getElem?_cons_zero, List.getElem?_cons_succ] at c0_0 c0_1 c0_2 c0_3 c0_4 c0_5 c0_6 c0_7 c0_8 c0_9
    clear hrow
    go_wp2_with fail
    refine bodyPost_ret (v := .agg #[.int .i64 0, .string ⟨#[]⟩, .string ⟨#[]⟩, .pointer (some ⟨x1, 0, none⟩), .pointer none, .pointer none, .slice none 0 0, .slice none 0 0, .slice none 0 0, .int .i64 0]) (by simp [results, Tryz.results182, go_sem, c0_0, c0_1, c0_2, c0_3, c0_4, c0_5, c0_6, c0_7, c0_8, c0_9]) rfl ?_
    refine setsEnd (S := [w.heap.size]) (w := w1) ?_ ?_
    · repeat (refine Keeps.setCell ?_ (by simp) _)
      exact Keeps.refl _ _
    · intro W hk
      have nt0 := And.intro (NotT.of (T := 74) HB0.out (by decide)) (And.intro (NotT.of (T := 105) HB0.out (by decide)) (NotT.of (T := 170) HB0.out (by decide)))
      have hoff : Off w1 b (fun _ => False) [w.heap.size] := fun y hy => .inr ⟨id, (by
        obtain rfl : y = w.heap.size := by simpa using hy
        exact nt0)⟩
      rw [HR.out]
      have hex : SmAt w1 b (fun _ => False) (Px.Sm.mk 0 [] [] (some a1) none none [] [] [] 0) [.int .i64 0, .string ⟨#[]⟩, .string ⟨#[]⟩, .pointer (some ⟨x1, 0, none⟩), .pointer none, .pointer none, .slice none 0 0, .slice none 0 0, .slice none 0 0, .int .i64 0] := ⟨_, _, _, _, _, _, rfl, E1.out, rfl, rfl, noArgs, noBlock, noBlock⟩
      exact ⟨_, rfl, ⟨_, rfl, SmAt.keep hk hoff _ _ hex⟩, HW1.out.keepHi hk (by have := HBL.out; simp; omega), HKW1.out.hi hk (by simp)⟩
theorem bind_id {α : Type} (x : Px.R α) : (x.bind fun s r => .ok s r) = x := by cases x <;> rfl
theorem value_any (w : World) (b n o k : Nat) (ts : List Tok) (f : Nat) (h : PAt w b n ts o k) (ho2 : o ≤ 1000) (hf : 4 * ts.length + 6 ≤ f) :
    Calls Tryz.prog 182 #[pp b] w (RP Sm0At (fun _ => k) w b n o (Px.value f o ts)) := by
  have hb : ∀ {x : Bool}, ¬ x = true → x = false := fun {x} h => by simpa using h
  unfold Px.value
  by_cases h1 : Px.sees ts [110, 117, 108, 108] = true
  · rw [if_pos h1]; exact value_null w b n o k ts f h ho2 hf h1
  rw [if_neg h1]
  by_cases h2 : Px.sees ts [38] = true
  · rw [if_pos h2]; exact value_addr w b n o k ts f h ho2 hf (hb h1) h2
  rw [if_neg h2]
  by_cases h3 : Px.sees ts [42] = true
  · rw [if_pos h3]; exact value_load w b n o k ts f h ho2 hf (hb h1) (hb h2) h3
  rw [if_neg h3]
  by_cases hi : Px.isName ts = true
  · by_cases hx : (Px.txt ts 1 == [91]) = true
    · rw [if_pos (by rw [hi, hx]; rfl)]; exact value_index w b n o k ts f h ho2 hf (hb h1) (hb h2) (hb h3) hi hx
    rw [if_neg (by rw [hi, hb hx]; simp)]
    by_cases hz : (Px.txt ts 1 == [40]) = true
    · rw [if_pos (by rw [hi, hz]; rfl), ← bind_id (Px.call f o ts)]; exact value_call w b n o k ts f h ho2 hf (hb h1) (hb h2) (hb h3) hi (hb hx) hz
    rw [if_neg (by rw [hi, hb hz]; simp)]
    exact value_sum1 w b n o k ts f h ho2 hf (hb h1) (hb h2) (hb h3) hi (hb hx) (hb hz)
  · rw [if_neg (by rw [hb hi]; simp), if_neg (by rw [hb hi]; simp)]
    exact value_sum2 w b n o k ts f h ho2 hf (hb h1) (hb h2) (hb h3) (hb hi)
end Go.Proofs.YtbikifibfaaggaaGreatDoor
