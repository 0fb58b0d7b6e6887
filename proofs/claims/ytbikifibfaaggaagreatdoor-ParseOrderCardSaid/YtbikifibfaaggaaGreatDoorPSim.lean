/- A statement without blocks. -/
import Derived.Test.YtbikifibfaaggaaGreatDoorPVal
namespace Go.Proofs.YtbikifibfaaggaaGreatDoor
open Go.RowKit Go.Shelf
open Lx (Tok Tx)
open Px (Ex Cn Sm)

set_option maxHeartbeats 2000000 in
set_option maxRecDepth 100000 in
theorem simple_ret (w : World) (b n o k : Nat) (ts : List Tok) (f : Nat) (h : PAt w b n ts o k) (ho2 : o ≤ 1000) (hf : 4 * ts.length + 6 ≤ f) (hy : Px.sees ts [114, 101, 116, 117, 114, 110] = true) :
    Calls Tryz.prog 151 #[pp b] w (RP Sm0At (fun _ => k) w b n o ((Px.sum f o ts.tail).bind fun e r => .ok (Px.Sm.mk 9 [] [] (some e) none none [] [] [] 0) r)) := by
  obtain ⟨R, hR⟩ : ∃ R, R = ((Px.sum f o ts.tail).bind fun e r => .ok (Px.Sm.mk 9 [] [] (some e) none none [] [] [] 0) r) := ⟨_, rfl⟩
  rw [← hR]
  have HR := Lib.hid hR
  have HF := Lib.hid hf
  have H0 := Lib.hid h
  have HK0 := Lib.hid (Keeps.refl [b] w)
  have hbl := h.lt
  have HBL := Lib.hid hbl
  have hmf : ∀ (fn : Fn) (first cap : Array Value) (w : World), (Instr.makeFunc fn first cap).run Tryz.prog w = .ok (.func fn first cap) w := fun _ _ _ _ => rfl
  have H0 := Lib.hid h
  have HK0 := Lib.hid (Keeps.refl [b] w)
  have HB0 := Lib.hid (show (w.alloc (.cells #[.int .i64 0, .string .empty, .string .empty, .pointer none, .pointer none, .pointer none, .slice none 0 0, .slice none 0 0, .slice none 0 0, .int .i64 0] 60)).heap[w.heap.size]? = some (.cells #[.int .i64 0, .string .empty, .string .empty, .pointer none, .pointer none, .pointer none, .slice none 0 0, .slice none 0 0, .slice none 0 0, .int .i64 0] 60 (0, 0)) from heap_alloc_new _ _)
  have H0 := Lib.hid (H0.out.keep ((Keeps.refl [] _).alloc (.cells #[.int .i64 0, .string .empty, .string .empty, .pointer none, .pointer none, .pointer none, .slice none 0 0, .slice none 0 0, .slice none 0 0, .int .i64 0] 60)))
  have HK0 := Lib.hid (HK0.out.alloc (.cells #[.int .i64 0, .string .empty, .string .empty, .pointer none, .pointer none, .pointer none, .slice none 0 0, .slice none 0 0, .slice none 0 0, .int .i64 0] 60))
  have HP0 := Lib.hid (fun w' (h' : PAt w' b n ts o k) => passes_yes w' b n o k ts h' [114, 101, 116, 117, 114, 110] (by simp) hy)
  have HLT := Lib.hid (show ts.tail.length < ts.length by have := Px.sees_len (by simp) hy; simp; omega)
  clear h hf hR hbl hy
  go_enter Tryz.func151, Tryz.ntmps151
  go_wp2_with fail
  refine (HP0.out _ H0.out).mono ?_
  rintro e w0 ⟨rfl, h1, h2⟩
  have H0 := Lib.hid h1
  have HK0 := Lib.hid (HK0.out.trans h2 (fun _ h _ => h))
  have HB0 := Lib.hid (block_keep HB0.out h2 (by have := HBL.out; simp; omega))
  clear h1 h2
  have HC0 := Lib.hid (fun w' (h' : PAt w' b n (ts.tail) o k) => sum_any w' b n o k (ts.tail) f h' ho2 (by have := HF.out; have := HLT.out; omega))
  have hlen := fun a r (h : Px.sum f o (ts.tail) = .ok a r) => Px.sum_len h
  have hR := HR.out
  obtain ⟨rr, hrr⟩ : ∃ x, x = Px.sum f o (ts.tail) := ⟨_, rfl⟩
  rw [← hrr] at HC0 hlen hR
  have HR := Lib.hid hR
  have HLEN := Lib.hid hlen
  clear hR hlen hrr
  go_wp2_with fail
  refine (HC0.out _ H0.out).mono ?_
  intro e w1 hr
  cases rr with
  | err z r =>
    obtain ⟨rfl, h4, h5⟩ := hr
    have H4 := Lib.hid h4
    have H5 := Lib.hid (HK0.out.trans h5 (fun _ h _ => h))
    clear h4 h5
    go_wp2
    rw [HR.out]
    exact ⟨rfl, rfl, H4.out, H5.out⟩
  | ok a1 r1 =>
    obtain ⟨v1, rfl, h3, h4, h5⟩ := hr
    have HL1 := Lib.hid (HLEN.out a1 r1 rfl)
    have hR := HR.out
    simp only [Px.bind_ok] at hR
    have HR := Lib.hid hR
    clear hR
    have E1 := Lib.hid h3
    obtain ⟨x1, rfl⟩ := h3.ptr
    clear h3
    have HW1 := Lib.hid h4
    have HKW1 := Lib.hid (HK0.out.trans h5 (fun _ h _ => h))
    have HSTEP1 := Lib.hid h5
    have HB0 := Lib.hid (block_keep HB0.out h5 (by have := HBL.out; simp; omega))
    clear h4 h5
    have hrow := HB0.out
    have f0_0 := row_free hrow 0
    have c0_0 := row_cell hrow 0
    have f0_1 := row_free hrow 1
    have c0_1 := row_cell hrow 1
    have f0_2 := row_free hrow 2
    have c0_2 := row_cell hrow 2
    have f0_3 := row_free hrow 3
    have c0_3 := row_cell hrow 3
    have f0_4 := row_free hrow 4
    have c0_4 := row_cell hrow 4
    have f0_5 := row_free hrow 5
    have c0_5 := row_cell hrow 5
    have f0_6 := row_free hrow 6
    have c0_6 := row_cell hrow 6
    have f0_7 := row_free hrow 7
    have c0_7 := row_cell hrow 7
    have f0_8 := row_free hrow 8
    have c0_8 := row_cell hrow 8
    have f0_9 := row_free hrow 9
    have c0_9 := row_cell hrow 9
    simp only [List.getElem?_toArray, List.getElem?_cons_zero, List.getElem?_cons_succ] at c0_0 c0_1 c0_2 c0_3 c0_4 c0_5 c0_6 c0_7 c0_8 c0_9
    clear hrow
    go_wp2_with fail
    refine bodyPost_ret (v := .agg #[.int .i64 9, .string ⟨#[]⟩, .string ⟨#[]⟩, .pointer (some ⟨x1, 0, none⟩), .pointer none, .pointer none, .slice none 0 0, .slice none 0 0, .slice none 0 0, .int .i64 0]) (by simp [results, Tryz.results151, go_sem, c0_0, c0_1, c0_2, c0_3, c0_4, c0_5, c0_6, c0_7, c0_8, c0_9]) rfl ?_
    refine setsEnd (S := [w.heap.size]) (w := w1) ?_ ?_
    · repeat (refine Keeps.setCell ?_ (by simp) _)
      exact Keeps.refl _ _
    · intro W hk
      have nt0 := And.intro (NotT.of (T := 74) HB0.out (by decide)) (And.intro (NotT.of (T := 105) HB0.out (by decide)) (NotT.of (T := 170) HB0.out (by decide)))
      have hoff : Off w1 b (fun _ => False) [w.heap.size] := fun y hy => .inr ⟨id, (by
        obtain rfl : y = w.heap.size := by simpa using hy
        exact nt0)⟩
      rw [HR.out]
      have hex : SmAt w1 b (fun _ => False) (Px.Sm.mk 9 [] [] (some a1) none none [] [] [] 0) [.int .i64 9, .string ⟨#[]⟩, .string ⟨#[]⟩, .pointer (some ⟨x1, 0, none⟩), .pointer none, .pointer none, .slice none 0 0, .slice none 0 0, .slice none 0 0, .int .i64 0] := ⟨_, _, _, _, _, _, rfl, E1.out, rfl, rfl, noArgs, noBlock, noBlock⟩
      exact ⟨_, rfl, ⟨_, rfl, SmAt.keep hk hoff _ _ hex⟩, HW1.out.keepHi hk (by have := HBL.out; simp; omega), HKW1.out.hi hk (by simp)⟩
set_option maxHeartbeats 2000000 in
set_option maxRecDepth 100000 in
theorem simple_ass (w : World) (b n o k : Nat) (ts : List Tok) (f : Nat) (h : PAt w b n ts o k) (ho2 : o ≤ 1000) (hf : 4 * ts.length + 6 ≤ f) (hr : Px.sees ts [114, 101, 116, 117, 114, 110] = false) (hy : Px.sees ts [97, 115, 115, 101, 114, 116] = true) :
    Calls Tryz.prog 151 #[pp b] w (RP Sm0At (fun _ => k) w b n o ((Px.test f o ts.tail).bind fun c r => .ok (Px.Sm.mk 12 [] [] none none (some c) [] [] [] 0) r)) := by
  obtain ⟨R, hR⟩ : ∃ R, R = ((Px.test f o ts.tail).bind fun c r => .ok (Px.Sm.mk 12 [] [] none none (some c) [] [] [] 0) r) := ⟨_, rfl⟩
  rw [← hR]
  have HR := Lib.hid hR
  have HF := Lib.hid hf
  have H0 := Lib.hid h
  have HK0 := Lib.hid (Keeps.refl [b] w)
  have hbl := h.lt
  have HBL := Lib.hid hbl
  have hmf : ∀ (fn : Fn) (first cap : Array Value) (w : World), (Instr.makeFunc fn first cap).run Tryz.prog w = .ok (.func fn first cap) w := fun _ _ _ _ => rfl
  have H0 := Lib.hid h
  have HK0 := Lib.hid (Keeps.refl [b] w)
  have HB0 := Lib.hid (show (w.alloc (.cells #[.int .i64 0, .string .empty, .string .empty, .pointer none, .pointer none, .pointer none, .slice none 0 0, .slice none 0 0, .slice none 0 0, .int .i64 0] 60)).heap[w.heap.size]? = some (.cells #[.int .i64 0, .string .empty, .string .empty, .pointer none, .pointer none, .pointer none, .slice none 0 0, .slice none 0 0, .slice none 0 0, .int .i64 0] 60 (0, 0)) from heap_alloc_new _ _)
  have H0 := Lib.hid (H0.out.keep ((Keeps.refl [] _).alloc (.cells #[.int .i64 0, .string .empty, .string .empty, .pointer none, .pointer none, .pointer none, .slice none 0 0, .slice none 0 0, .slice none 0 0, .int .i64 0] 60)))
  have HK0 := Lib.hid (HK0.out.alloc (.cells #[.int .i64 0, .string .empty, .string .empty, .pointer none, .pointer none, .pointer none, .slice none 0 0, .slice none 0 0, .slice none 0 0, .int .i64 0] 60))
  have HP0 := Lib.hid (fun w' (h' : PAt w' b n ts o k) => passes_no w' b n o k ts h' [114, 101, 116, 117, 114, 110] hr)
  have HP1 := Lib.hid (fun w' (h' : PAt w' b n ts o k) => passes_yes w' b n o k ts h' [97, 115, 115, 101, 114, 116] (by simp) hy)
  have HLT := Lib.hid (show ts.tail.length < ts.length by have := Px.sees_len (by simp) hy; simp; omega)
  clear h hf hR hbl hr hy
  go_enter Tryz.func151, Tryz.ntmps151
  go_wp2_with fail
  refine (HP0.out _ H0.out).mono ?_
  rintro e w' ⟨rfl, rfl⟩
  go_wp2_with fail
  refine (HP1.out _ H0.out).mono ?_
  rintro e w0 ⟨rfl, h1, h2⟩
  have H0 := Lib.hid h1
  have HK0 := Lib.hid (HK0.out.trans h2 (fun _ h _ => h))
  have HB0 := Lib.hid (block_keep HB0.out h2 (by have := HBL.out; simp; omega))
  clear h1 h2
  have HC0 := Lib.hid (fun w' (h' : PAt w' b n (ts.tail) o k) => test_any w' b n o k (ts.tail) f h' ho2 (by have := HF.out; have := HLT.out; omega))
  have hlen := fun a r (h : Px.test f o (ts.tail) = .ok a r) => Px.test_len h
  have hR := HR.out
  obtain ⟨rr, hrr⟩ : ∃ x, x = Px.test f o (ts.tail) := ⟨_, rfl⟩
  rw [← hrr] at HC0 hlen hR
  have HR := Lib.hid hR
  have HLEN := Lib.hid hlen
  clear hR hlen hrr
  go_wp2_with fail
  refine (HC0.out _ H0.out).mono ?_
  intro e w1 hr
  cases rr with
  | err z r =>
    obtain ⟨rfl, h4, h5⟩ := hr
    have H4 := Lib.hid h4
    have H5 := Lib.hid (HK0.out.trans h5 (fun _ h _ => h))
    clear h4 h5
    go_wp2
    rw [HR.out]
    exact ⟨rfl, rfl, H4.out, H5.out⟩
  | ok a1 r1 =>
    obtain ⟨v1, rfl, h3, h4, h5⟩ := hr
    have HL1 := Lib.hid (HLEN.out a1 r1 rfl)
    have hR := HR.out
    simp only [Px.bind_ok] at hR
    have HR := Lib.hid hR
    clear hR
    have E1 := Lib.hid h3
    obtain ⟨x1, rfl⟩ := h3.ptr
    clear h3
    have HW1 := Lib.hid h4
    have HKW1 := Lib.hid (HK0.out.trans h5 (fun _ h _ => h))
    have HSTEP1 := Lib.hid h5
    have HB0 := Lib.hid (block_keep HB0.out h5 (by have := HBL.out; simp; omega))
    clear h4 h5
    have hrow := HB0.out
    have f0_0 := row_free hrow 0
    have c0_0 := row_cell hrow 0
    have f0_1 := row_free hrow 1
    have c0_1 := row_cell hrow 1
    have f0_2 := row_free hrow 2
    have c0_2 := row_cell hrow 2
    have f0_3 := row_free hrow 3
    have c0_3 := row_cell hrow 3
    have f0_4 := row_free hrow 4
    have c0_4 := row_cell hrow 4
    have f0_5 := row_free hrow 5
    have c0_5 := row_cell hrow 5
    have f0_6 := row_free hrow 6
    have c0_6 := row_cell hrow 6
    have f0_7 := row_free hrow 7
    have c0_7 := row_cell hrow 7
    have f0_8 := row_free hrow 8
    have c0_8 := row_cell hrow 8
    have f0_9 := row_free hrow 9
    have c0_9 := row_cell hrow 9
    simp only [List.getElem?_toArray, List.getElem?_cons_zero, List.getElem?_cons_succ] at c0_0 c0_1 c0_2 c0_3 c0_4 c0_5 c0_6 c0_7 c0_8 c0_9
    clear hrow
    go_wp2_with fail
    refine bodyPost_ret (v := .agg #[.int .i64 12, .string ⟨#[]⟩, .string ⟨#[]⟩, .pointer none, .pointer none, .pointer (some ⟨x1, 0, none⟩), .slice none 0 0, .slice none 0 0, .slice none 0 0, .int .i64 0]) (by simp [results, Tryz.results151, go_sem, c0_0, c0_1, c0_2, c0_3, c0_4, c0_5, c0_6, c0_7, c0_8, c0_9]) rfl ?_
    refine setsEnd (S := [w.heap.size]) (w := w1) ?_ ?_
    · repeat (refine Keeps.setCell ?_ (by simp) _)
      exact Keeps.refl _ _
    · intro W hk
      have nt0 := And.intro (NotT.of (T := 74) HB0.out (by decide)) (And.intro (NotT.of (T := 105) HB0.out (by decide)) (NotT.of (T := 170) HB0.out (by decide)))
      have hoff : Off w1 b (fun _ => False) [w.heap.size] := fun y hy => .inr ⟨id, (by
        obtain rfl : y = w.heap.size := by simpa using hy
        exact nt0)⟩
      rw [HR.out]
      have hex : SmAt w1 b (fun _ => False) (Px.Sm.mk 12 [] [] none none (some a1) [] [] [] 0) [.int .i64 12, .string ⟨#[]⟩, .string ⟨#[]⟩, .pointer none, .pointer none, .pointer (some ⟨x1, 0, none⟩), .slice none 0 0, .slice none 0 0, .slice none 0 0, .int .i64 0] := ⟨_, _, _, _, _, _, rfl, rfl, rfl, E1.out, noArgs, noBlock, noBlock⟩
      exact ⟨_, rfl, ⟨_, rfl, SmAt.keep hk hoff _ _ hex⟩, HW1.out.keepHi hk (by have := HBL.out; simp; omega), HKW1.out.hi hk (by simp)⟩
set_option maxHeartbeats 2000000 in
set_option maxRecDepth 100000 in
theorem simple_store (w : World) (b n o k : Nat) (ts : List Tok) (f : Nat) (h : PAt w b n ts o k) (ho2 : o ≤ 1000) (hf : 4 * ts.length + 6 ≤ f) (hr : Px.sees ts [114, 101, 116, 117, 114, 110] = false) (hs : Px.sees ts [97, 115, 115, 101, 114, 116] = false) (hy : Px.sees ts [42] = true) :
    Calls Tryz.prog 151 #[pp b] w (RP Sm0At (fun _ => k) w b n o ((Px.nameR ts.tail).bind fun x r => Px.want [61] r fun r => (Px.sum f o r).bind fun e r => .ok (Px.Sm.mk 5 x [] (some e) none none [] [] [] 0) r)) := by
  obtain ⟨R, hR⟩ : ∃ R, R = ((Px.nameR ts.tail).bind fun x r => Px.want [61] r fun r => (Px.sum f o r).bind fun e r => .ok (Px.Sm.mk 5 x [] (some e) none none [] [] [] 0) r) := ⟨_, rfl⟩
  rw [← hR]
  unfold Px.want at hR
  have HR := Lib.hid hR
  have HF := Lib.hid hf
  have H0 := Lib.hid h
  have HK0 := Lib.hid (Keeps.refl [b] w)
  have hbl := h.lt
  have HBL := Lib.hid hbl
  have hmf : ∀ (fn : Fn) (first cap : Array Value) (w : World), (Instr.makeFunc fn first cap).run Tryz.prog w = .ok (.func fn first cap) w := fun _ _ _ _ => rfl
  have H0 := Lib.hid h
  have HK0 := Lib.hid (Keeps.refl [b] w)
  have HB0 := Lib.hid (show (w.alloc (.cells #[.int .i64 0, .string .empty, .string .empty, .pointer none, .pointer none, .pointer none, .slice none 0 0, .slice none 0 0, .slice none 0 0, .int .i64 0] 60)).heap[w.heap.size]? = some (.cells #[.int .i64 0, .string .empty, .string .empty, .pointer none, .pointer none, .pointer none, .slice none 0 0, .slice none 0 0, .slice none 0 0, .int .i64 0] 60 (0, 0)) from heap_alloc_new _ _)
  have H0 := Lib.hid (H0.out.keep ((Keeps.refl [] _).alloc (.cells #[.int .i64 0, .string .empty, .string .empty, .pointer none, .pointer none, .pointer none, .slice none 0 0, .slice none 0 0, .slice none 0 0, .int .i64 0] 60)))
  have HK0 := Lib.hid (HK0.out.alloc (.cells #[.int .i64 0, .string .empty, .string .empty, .pointer none, .pointer none, .pointer none, .slice none 0 0, .slice none 0 0, .slice none 0 0, .int .i64 0] 60))
  have HP0 := Lib.hid (fun w' (h' : PAt w' b n ts o k) => passes_no w' b n o k ts h' [114, 101, 116, 117, 114, 110] hr)
  have HP1 := Lib.hid (fun w' (h' : PAt w' b n ts o k) => passes_no w' b n o k ts h' [97, 115, 115, 101, 114, 116] hs)
  have HP2 := Lib.hid (fun w' (h' : PAt w' b n ts o k) => passes_yes w' b n o k ts h' [42] (by simp) hy)
  have HLT := Lib.hid (show ts.tail.length < ts.length by have := Px.sees_len (by simp) hy; simp; omega)
  clear h hf hR hbl hr hs hy
  go_enter Tryz.func151, Tryz.ntmps151
  go_wp2_with fail
  refine (HP0.out _ H0.out).mono ?_
  rintro e w' ⟨rfl, rfl⟩
  go_wp2_with fail
  refine (HP1.out _ H0.out).mono ?_
  rintro e w' ⟨rfl, rfl⟩
  go_wp2_with fail
  refine (HP2.out _ H0.out).mono ?_
  rintro e w0 ⟨rfl, h1, h2⟩
  have H0 := Lib.hid h1
  have HK0 := Lib.hid (HK0.out.trans h2 (fun _ h _ => h))
  have HB0 := Lib.hid (block_keep HB0.out h2 (by have := HBL.out; simp; omega))
  clear h1 h2
  have HC0 := Lib.hid (fun w' (h' : PAt w' b n (ts.tail) o k) => name_rp w' b n o k (ts.tail) h')
  have hlen := fun a r (h : Px.nameR (ts.tail) = .ok a r) => Px.nameR_len h
  have hR := HR.out
  obtain ⟨rr, hrr⟩ : ∃ x, x = Px.nameR (ts.tail) := ⟨_, rfl⟩
  rw [← hrr] at HC0 hlen hR
  have HR := Lib.hid hR
  have HLEN := Lib.hid hlen
  clear hR hlen hrr
  go_wp2_with fail
  refine (HC0.out _ H0.out).mono ?_
  intro e w1 hr
  cases rr with
  | err z r =>
    obtain ⟨rfl, h4, h5⟩ := hr
    have H4 := Lib.hid h4
    have H5 := Lib.hid (HK0.out.trans h5 (fun _ h _ => h))
    clear h4 h5
    go_wp2
    rw [HR.out]
    exact ⟨rfl, rfl, H4.out, H5.out⟩
  | ok a1 r1 =>
    obtain ⟨v1, rfl, h3, h4, h5⟩ := hr
    have HL1 := Lib.hid (HLEN.out a1 r1 rfl)
    have hR := HR.out
    simp only [Px.bind_ok] at hR
    have HR := Lib.hid hR
    clear hR
    obtain rfl : v1 = .string (strO a1) := h3
    have HW1 := Lib.hid h4
    have HKW1 := Lib.hid (HK0.out.trans h5 (fun _ h _ => h))
    have HSTEP1 := Lib.hid h5
    have HB0 := Lib.hid (block_keep HB0.out h5 (by have := HBL.out; simp; omega))
    clear h4 h5
    have HLT1 := Lib.hid (show w.heap.size < w1.heap.size from block_lt HB0.out)
    have HB1 := Lib.hid (show (w1.alloc (.cells #[.int .i64 5, .string (strO a1), .string ⟨#[]⟩, .pointer none, .pointer none, .pointer none, .slice none 0 0, .slice none 0 0, .slice none 0 0, .int .i64 0] 60)).heap[w1.heap.size]? = some (.cells #[.int .i64 5, .string (strO a1), .string ⟨#[]⟩, .pointer none, .pointer none, .pointer none, .slice none 0 0, .slice none 0 0, .slice none 0 0, .int .i64 0] 60 (0, 0)) from heap_alloc_new _ _)
    have HB0 := Lib.hid (block_keep HB0.out ((Keeps.refl [] _).alloc (.cells #[.int .i64 5, .string (strO a1), .string ⟨#[]⟩, .pointer none, .pointer none, .pointer none, .slice none 0 0, .slice none 0 0, .slice none 0 0, .int .i64 0] 60)) (by simp))
    have HBL1 := Lib.hid HW1.out.lt
    have HSZ1 := Lib.hid HKW1.out.size
    have HWA1 := Lib.hid (HW1.out.keep ((Keeps.refl [] _).alloc (.cells #[.int .i64 5, .string (strO a1), .string ⟨#[]⟩, .pointer none, .pointer none, .pointer none, .slice none 0 0, .slice none 0 0, .slice none 0 0, .int .i64 0] 60)))
    have HKA1 := Lib.hid (HKW1.out.alloc (.cells #[.int .i64 5, .string (strO a1), .string ⟨#[]⟩, .pointer none, .pointer none, .pointer none, .slice none 0 0, .slice none 0 0, .slice none 0 0, .int .i64 0] 60))
    have HC2 := Lib.hid (fun w' (h' : PAt w' b n (r1) o k) => pass_rp w' b n o k (r1) h' [61] (by simp))
    have hlen := fun a r (h : Px.passR [61] r1 = .ok a r) => Px.passR_len (by simp) h
    have hR := HR.out
    obtain ⟨rr, hrr⟩ : ∃ x, x = Px.passR [61] r1 := ⟨_, rfl⟩
    rw [← hrr] at HC2 hlen hR
    have HR := Lib.hid hR
    have HLEN := Lib.hid hlen
    clear hR hlen hrr
    go_wp2_with fail
    refine (HC2.out _ HWA1.out).mono ?_
    intro e w3 hr
    cases rr with
    | err z r =>
      obtain ⟨rfl, h4, h5⟩ := hr
      have H4 := Lib.hid h4
      have H5 := Lib.hid (HKA1.out.trans h5 (fun _ h _ => h))
      clear h4 h5
      go_wp2
      rw [HR.out]
      exact ⟨rfl, rfl, H4.out, H5.out⟩
    | ok a3 r3 =>
      obtain ⟨v3, rfl, h3, h4, h5⟩ := hr
      have HL3 := Lib.hid (HLEN.out a3 r3 rfl)
      have hR := HR.out
      simp only [Px.bind_ok] at hR
      have HR := Lib.hid hR
      clear hR
      obtain rfl : v3 = .tuple #[] := h3
      have HW3 := Lib.hid h4
      have HKW3 := Lib.hid (HKA1.out.trans h5 (fun _ h _ => h))
      have HSTEP3 := Lib.hid h5
      have HB0 := Lib.hid (block_keep HB0.out h5 (by have := HBL.out; simp; omega))
      have HB1 := Lib.hid (block_keep HB1.out h5 (by have := HBL1.out; simp; omega))
      clear h4 h5
      have HC3 := Lib.hid (fun w' (h' : PAt w' b n (r3) o k) => sum_any w' b n o k (r3) f h' ho2 (by have := HF.out; have := HLT.out; have := HL1.out; have := HL3.out; omega))
      have hlen := fun a r (h : Px.sum f o r3 = .ok a r) => Px.sum_len h
      have hR := HR.out
      obtain ⟨rr, hrr⟩ : ∃ x, x = Px.sum f o r3 := ⟨_, rfl⟩
      rw [← hrr] at HC3 hlen hR
      have HR := Lib.hid hR
      have HLEN := Lib.hid hlen
      clear hR hlen hrr
      go_wp2_with fail
      refine (HC3.out _ HW3.out).mono ?_
      intro e w4 hr
      cases rr with
      | err z r =>
        obtain ⟨rfl, h4, h5⟩ := hr
        have H4 := Lib.hid h4
        have H5 := Lib.hid (HKW3.out.trans h5 (fun _ h _ => h))
        clear h4 h5
        go_wp2
        rw [HR.out]
        exact ⟨rfl, rfl, H4.out, H5.out⟩
      | ok a4 r4 =>
        obtain ⟨v4, rfl, h3, h4, h5⟩ := hr
        have HL4 := Lib.hid (HLEN.out a4 r4 rfl)
        have hR := HR.out
        simp only [Px.bind_ok] at hR
        have HR := Lib.hid hR
        clear hR
        have E4 := Lib.hid h3
        obtain ⟨x4, rfl⟩ := h3.ptr
        clear h3
        have HW4 := Lib.hid h4
        have HKW4 := Lib.hid (HKW3.out.trans h5 (fun _ h _ => h))
        have HSTEP4 := Lib.hid h5
        have HB0 := Lib.hid (block_keep HB0.out h5 (by have := HBL.out; simp; omega))
        have HB1 := Lib.hid (block_keep HB1.out h5 (by have := HBL1.out; simp; omega))
        clear h4 h5
        obtain ⟨X0, hX0⟩ : ∃ x, x = w.heap.size := ⟨_, rfl⟩
        rw [← hX0] at HB0
        obtain ⟨X1, hX1⟩ : ∃ x, x = w1.heap.size := ⟨_, rfl⟩
        rw [← hX1] at HB1
        have hne1 : X0 ≠ X1 := fun h => by have h9 := HLT1.out; rw [← hX0, ← hX1, h] at h9; omega
        have hne2 : X1 ≠ X0 := fun h => hne1 h.symm
        have HX := Lib.hid (And.intro hX0 hX1)
        simp only [← hX0, ← hX1]
        clear hX0 hX1
        have hrow := HB0.out
        have f0_0 := row_free hrow 0
        have c0_0 := row_cell hrow 0
        have f0_1 := row_free hrow 1
        have c0_1 := row_cell hrow 1
        have f0_2 := row_free hrow 2
        have c0_2 := row_cell hrow 2
        have f0_3 := row_free hrow 3
        have c0_3 := row_cell hrow 3
        have f0_4 := row_free hrow 4
        have c0_4 := row_cell hrow 4
        have f0_5 := row_free hrow 5
        have c0_5 := row_cell hrow 5
        have f0_6 := row_free hrow 6
        have c0_6 := row_cell hrow 6
        have f0_7 := row_free hrow 7
        have c0_7 := row_cell hrow 7
        have f0_8 := row_free hrow 8
        have c0_8 := row_cell hrow 8
        have f0_9 := row_free hrow 9
        have c0_9 := row_cell hrow 9
        simp only [List.getElem?_toArray, List.getElem?_cons_zero, List.getElem?_cons_succ] at c0_0 c0_1 c0_2 c0_3 c0_4 c0_5 c0_6 c0_7 c0_8 c0_9
        clear hrow
        have hrow := HB1.out
        have f1_0 := row_free hrow 0
        have c1_0 := row_cell hrow 0
        have f1_1 := row_free hrow 1
        have c1_1 := row_cell hrow 1
        have f1_2 := row_free hrow 2
        have c1_2 := row_cell hrow 2
        have f1_3 := row_free hrow 3
        have c1_3 := row_cell hrow 3
        have f1_4 := row_free hrow 4
        have c1_4 := row_cell hrow 4
        have f1_5 := row_free hrow 5
        have c1_5 := row_cell hrow 5
        have f1_6 := row_free hrow 6
        have c1_6 := row_cell hrow 6
        have f1_7 := row_free hrow 7
        have c1_7 := row_cell hrow 7
        have f1_8 := row_free hrow 8
        have c1_8 := row_cell hrow 8
        have f1_9 := row_free hrow 9
        have c1_9 := row_cell hrow 9
        simp only [List.getElem?_toArray, List.getElem?_cons_zero, List.getElem?_cons_succ] at c1_0 c1_1 c1_2 c1_3 c1_4 c1_5 c1_6 c1_7 c1_8 c1_9
        clear hrow
        go_wp2_with fail
        refine bodyPost_ret (v := .agg #[.int .i64 5, .string (strO a1), .string ⟨#[]⟩, .pointer (some ⟨x4, 0, none⟩), .pointer none, .pointer none, .slice none 0 0, .slice none 0 0, .slice none 0 0, .int .i64 0]) (by simp [results, Tryz.results151, go_sem, c0_0, c0_1, c0_2, c0_3, c0_4, c0_5, c0_6, c0_7, c0_8, c0_9, c1_0, c1_1, c1_2, c1_3, c1_4, c1_5, c1_6, c1_7, c1_8, c1_9]) rfl ?_
        refine setsEnd (S := [X0, X1]) (w := w4) ?_ ?_
        · repeat (refine Keeps.setCell ?_ (by simp) _)
          exact Keeps.refl _ _
        · intro W hk
          have nt0 := And.intro (NotT.of (T := 74) HB0.out (by decide)) (And.intro (NotT.of (T := 105) HB0.out (by decide)) (NotT.of (T := 170) HB0.out (by decide)))
          have nt1 := And.intro (NotT.of (T := 74) HB1.out (by decide)) (And.intro (NotT.of (T := 105) HB1.out (by decide)) (NotT.of (T := 170) HB1.out (by decide)))
          have hoff : Off w4 b (fun _ => False) [X0, X1] := fun y hy => .inr ⟨id, (by
            simp at hy
            rcases hy with rfl | rfl
            · exact nt0
            · exact nt1)⟩
          rw [HR.out]
          have hex : SmAt w4 b (fun _ => False) (Px.Sm.mk 5 a1 [] (some a4) none none [] [] [] 0) [.int .i64 5, .string (strO a1), .string ⟨#[]⟩, .pointer (some ⟨x4, 0, none⟩), .pointer none, .pointer none, .slice none 0 0, .slice none 0 0, .slice none 0 0, .int .i64 0] := ⟨_, _, _, _, _, _, rfl, E4.out, rfl, rfl, noArgs, noBlock, noBlock⟩
          exact ⟨_, rfl, ⟨_, rfl, SmAt.keep hk hoff _ _ hex⟩, HW4.out.keepHi hk (by have := HBL.out; have := HBL1.out; have h8 := HX.out.1; have h9 := HX.out.2; simp; omega), HKW4.out.hi hk (by have := HLT1.out; have h8 := HX.out.1; have h9 := HX.out.2; simp; omega)⟩
set_option maxHeartbeats 2000000 in
set_option maxRecDepth 100000 in
theorem simple_put (w : World) (b n o k : Nat) (ts : List Tok) (f : Nat) (h : PAt w b n ts o k) (ho2 : o ≤ 1000) (hf : 4 * ts.length + 6 ≤ f) (hr : Px.sees ts [114, 101, 116, 117, 114, 110] = false) (hs : Px.sees ts [97, 115, 115, 101, 114, 116] = false) (hm : Px.sees ts [42] = false) (hx : (Px.txt ts 1 == [91]) = true) :
    Calls Tryz.prog 151 #[pp b] w (RP Sm0At (fun _ => k) w b n o ((Px.put f o ts).bind fun s r => .ok s r)) := by
  obtain ⟨R, hR⟩ : ∃ R, R = ((Px.put f o ts).bind fun s r => .ok s r) := ⟨_, rfl⟩
  rw [← hR]
  have HR := Lib.hid hR
  have HF := Lib.hid hf
  have H0 := Lib.hid h
  have HK0 := Lib.hid (Keeps.refl [b] w)
  have hbl := h.lt
  have HBL := Lib.hid hbl
  have hmf : ∀ (fn : Fn) (first cap : Array Value) (w : World), (Instr.makeFunc fn first cap).run Tryz.prog w = .ok (.func fn first cap) w := fun _ _ _ _ => rfl
  have H0 := Lib.hid h
  have HK0 := Lib.hid (Keeps.refl [b] w)
  have HB0 := Lib.hid (show (w.alloc (.cells #[.int .i64 0, .string .empty, .string .empty, .pointer none, .pointer none, .pointer none, .slice none 0 0, .slice none 0 0, .slice none 0 0, .int .i64 0] 60)).heap[w.heap.size]? = some (.cells #[.int .i64 0, .string .empty, .string .empty, .pointer none, .pointer none, .pointer none, .slice none 0 0, .slice none 0 0, .slice none 0 0, .int .i64 0] 60 (0, 0)) from heap_alloc_new _ _)
  have H0 := Lib.hid (H0.out.keep ((Keeps.refl [] _).alloc (.cells #[.int .i64 0, .string .empty, .string .empty, .pointer none, .pointer none, .pointer none, .slice none 0 0, .slice none 0 0, .slice none 0 0, .int .i64 0] 60)))
  have HK0 := Lib.hid (HK0.out.alloc (.cells #[.int .i64 0, .string .empty, .string .empty, .pointer none, .pointer none, .pointer none, .slice none 0 0, .slice none 0 0, .slice none 0 0, .int .i64 0] 60))
  have HP0 := Lib.hid (fun w' (h' : PAt w' b n ts o k) => passes_no w' b n o k ts h' [114, 101, 116, 117, 114, 110] hr)
  have HP1 := Lib.hid (fun w' (h' : PAt w' b n ts o k) => passes_no w' b n o k ts h' [97, 115, 115, 101, 114, 116] hs)
  have HP2 := Lib.hid (fun w' (h' : PAt w' b n ts o k) => passes_no w' b n o k ts h' [42] hm)
  have HX1 := Lib.hid (fun w' (h' : PAt w' b n ts o k) => text_any w' b n o k ts h' 1 (by omega))
  have hx1 := strO_toList (Px.txt ts 1)
  obtain ⟨x1, hxx⟩ : ∃ x, x = strO (Px.txt ts 1) := ⟨_, rfl⟩
  rw [← hxx] at HX1 hx1
  have hq0 : (x1.toList == [91]) = true := by rw [hx1]; exact hx
  clear hx1 hxx
  clear h hf hR hbl hr hs hm hx
  go_enter Tryz.func151, Tryz.ntmps151
  go_wp2_with fail
  refine (HP0.out _ H0.out).mono ?_
  rintro e w' ⟨rfl, rfl⟩
  go_wp2_with fail
  refine (HP1.out _ H0.out).mono ?_
  rintro e w' ⟨rfl, rfl⟩
  go_wp2_with fail
  refine (HP2.out _ H0.out).mono ?_
  rintro e w' ⟨rfl, rfl⟩
  go_wp2_with fail
  refine (HX1.out _ H0.out).mono ?_
  rintro e w' ⟨rfl, rfl⟩
  have HC0 := Lib.hid (fun w' (h' : PAt w' b n (ts) o k) => put_any w' b n o k (ts) f h' ho2 (by have := HF.out; omega))
  have hlen := fun a r (h : Px.put f o ts = .ok a r) => Px.put_len h
  have hR := HR.out
  obtain ⟨rr, hrr⟩ : ∃ x, x = Px.put f o ts := ⟨_, rfl⟩
  rw [← hrr] at HC0 hlen hR
  have HR := Lib.hid hR
  have HLEN := Lib.hid hlen
  clear hR hlen hrr
  go_wp2_with fail
  refine (HC0.out _ H0.out).mono ?_
  intro e w1 hr
  cases rr with
  | err z r =>
    obtain ⟨rfl, h4, h5⟩ := hr
    have H4 := Lib.hid h4
    have H5 := Lib.hid (HK0.out.trans h5 (fun _ h _ => h))
    clear h4 h5
    go_wp2
    rw [HR.out]
    exact ⟨rfl, rfl, H4.out, H5.out⟩
  | ok a1 r1 =>
    obtain ⟨v1, rfl, h3, h4, h5⟩ := hr
    have HL1 := Lib.hid (HLEN.out a1 r1 rfl)
    have hR := HR.out
    simp only [Px.bind_ok] at hR
    have HR := Lib.hid hR
    clear hR
    obtain ⟨vs, hv, h3⟩ := h3
    have E1 := Lib.hid h3
    obtain ⟨kd, sx, sy, qe, qf, qc, Aa, na, ca, At, nt, ct, Al, nl, cl, at_, rfl⟩ := h3.form
    subst hv
    clear h3
    have HW1 := Lib.hid h4
    have HKW1 := Lib.hid (HK0.out.trans h5 (fun _ h _ => h))
    have HSTEP1 := Lib.hid h5
    have HB0 := Lib.hid (block_keep HB0.out h5 (by have := HBL.out; simp; omega))
    clear h4 h5
    have hrow := HB0.out
    have f0_0 := row_free hrow 0
    have c0_0 := row_cell hrow 0
    have f0_1 := row_free hrow 1
    have c0_1 := row_cell hrow 1
    have f0_2 := row_free hrow 2
    have c0_2 := row_cell hrow 2
    have f0_3 := row_free hrow 3
    have c0_3 := row_cell hrow 3
    have f0_4 := row_free hrow 4
    have c0_4 := row_cell hrow 4
    have f0_5 := row_free hrow 5
    have c0_5 := row_cell hrow 5
    have f0_6 := row_free hrow 6
    have c0_6 := row_cell hrow 6
    have f0_7 := row_free hrow 7
    have c0_7 := row_cell hrow 7
    have f0_8 := row_free hrow 8
    have c0_8 := row_cell hrow 8
    have f0_9 := row_free hrow 9
    have c0_9 := row_cell hrow 9
    simp only [List.getElem?_toArray, List.getElem?_cons_zero, List.getElem?_cons_succ] at c0_0 c0_1 c0_2 c0_3 c0_4 c0_5 c0_6 c0_7 c0_8 c0_9
    clear hrow
    go_wp2_with fail
    refine bodyPost_ret (v := .agg #[.int .i64 kd, .string sx, .string sy, .pointer qe, .pointer qf, .pointer qc, .slice Aa na ca, .slice At nt ct, .slice Al nl cl, .int .i64 at_]) (by simp [results, Tryz.results151, go_sem, c0_0, c0_1, c0_2, c0_3, c0_4, c0_5, c0_6, c0_7, c0_8, c0_9]) rfl ?_
    refine setsEnd (S := [w.heap.size]) (w := w1) ?_ ?_
    · repeat (refine Keeps.setCell ?_ (by simp) _)
      exact Keeps.refl _ _
    · intro W hk
      have nt0 := And.intro (NotT.of (T := 74) HB0.out (by decide)) (And.intro (NotT.of (T := 105) HB0.out (by decide)) (NotT.of (T := 170) HB0.out (by decide)))
      have hoff : Off w1 b (fun _ => False) [w.heap.size] := fun y hy => .inr ⟨id, (by
        obtain rfl : y = w.heap.size := by simpa using hy
        exact nt0)⟩
      rw [HR.out]
      have hex : SmAt w1 b (fun _ => False) a1 [.int .i64 kd, .string sx, .string sy, .pointer qe, .pointer qf, .pointer qc, .slice Aa na ca, .slice At nt ct, .slice Al nl cl, .int .i64 at_] := E1.out
      exact ⟨_, rfl, ⟨_, rfl, SmAt.keep hk hoff _ _ hex⟩, HW1.out.keepHi hk (by have := HBL.out; simp; omega), HKW1.out.hi hk (by simp)⟩
set_option maxHeartbeats 2000000 in
set_option maxRecDepth 100000 in
theorem simple_call (w : World) (b n o k : Nat) (ts : List Tok) (f : Nat) (h : PAt w b n ts o k) (ho2 : o ≤ 1000) (hf : 4 * ts.length + 6 ≤ f) (hr : Px.sees ts [114, 101, 116, 117, 114, 110] = false) (hs : Px.sees ts [97, 115, 115, 101, 114, 116] = false) (hm : Px.sees ts [42] = false) (hx : (Px.txt ts 1 == [91]) = false) (hz : (Px.txt ts 1 == [40]) = true) :
    Calls Tryz.prog 151 #[pp b] w (RP Sm0At (fun _ => k) w b n o ((Px.call f o ts).bind fun s r => .ok s r)) := by
  obtain ⟨R, hR⟩ : ∃ R, R = ((Px.call f o ts).bind fun s r => .ok s r) := ⟨_, rfl⟩
  rw [← hR]
  have HR := Lib.hid hR
  have HF := Lib.hid hf
  have H0 := Lib.hid h
  have HK0 := Lib.hid (Keeps.refl [b] w)
  have hbl := h.lt
  have HBL := Lib.hid hbl
  have hmf : ∀ (fn : Fn) (first cap : Array Value) (w : World), (Instr.makeFunc fn first cap).run Tryz.prog w = .ok (.func fn first cap) w := fun _ _ _ _ => rfl
  have H0 := Lib.hid h
  have HK0 := Lib.hid (Keeps.refl [b] w)
  have HB0 := Lib.hid (show (w.alloc (.cells #[.int .i64 0, .string .empty, .string .empty, .pointer none, .pointer none, .pointer none, .slice none 0 0, .slice none 0 0, .slice none 0 0, .int .i64 0] 60)).heap[w.heap.size]? = some (.cells #[.int .i64 0, .string .empty, .string .empty, .pointer none, .pointer none, .pointer none, .slice none 0 0, .slice none 0 0, .slice none 0 0, .int .i64 0] 60 (0, 0)) from heap_alloc_new _ _)
  have H0 := Lib.hid (H0.out.keep ((Keeps.refl [] _).alloc (.cells #[.int .i64 0, .string .empty, .string .empty, .pointer none, .pointer none, .pointer none, .slice none 0 0, .slice none 0 0, .slice none 0 0, .int .i64 0] 60)))
  have HK0 := Lib.hid (HK0.out.alloc (.cells #[.int .i64 0, .string .empty, .string .empty, .pointer none, .pointer none, .pointer none, .slice none 0 0, .slice none 0 0, .slice none 0 0, .int .i64 0] 60))
  have HP0 := Lib.hid (fun w' (h' : PAt w' b n ts o k) => passes_no w' b n o k ts h' [114, 101, 116, 117, 114, 110] hr)
  have HP1 := Lib.hid (fun w' (h' : PAt w' b n ts o k) => passes_no w' b n o k ts h' [97, 115, 115, 101, 114, 116] hs)
  have HP2 := Lib.hid (fun w' (h' : PAt w' b n ts o k) => passes_no w' b n o k ts h' [42] hm)
  have HX1 := Lib.hid (fun w' (h' : PAt w' b n ts o k) => text_any w' b n o k ts h' 1 (by omega))
  have hx1 := strO_toList (Px.txt ts 1)
  obtain ⟨x1, hxx⟩ : ∃ x, x = strO (Px.txt ts 1) := ⟨_, rfl⟩
  rw [← hxx] at HX1 hx1
  have hq0 : (x1.toList == [91]) = false := by rw [hx1]; exact hx
  have hq1 : (x1.toList == [40]) = true := by rw [hx1]; exact hz
  clear hx1 hxx
  clear h hf hR hbl hr hs hm hx hz
  go_enter Tryz.func151, Tryz.ntmps151
  go_wp2_with fail
  refine (HP0.out _ H0.out).mono ?_
  rintro e w' ⟨rfl, rfl⟩
  go_wp2_with fail
  refine (HP1.out _ H0.out).mono ?_
  rintro e w' ⟨rfl, rfl⟩
  go_wp2_with fail
  refine (HP2.out _ H0.out).mono ?_
  rintro e w' ⟨rfl, rfl⟩
  go_wp2_with fail
  refine (HX1.out _ H0.out).mono ?_
  rintro e w' ⟨rfl, rfl⟩
  have HC0 := Lib.hid (fun w' (h' : PAt w' b n (ts) o k) => call_any w' b n o k (ts) f h' ho2 (by have := HF.out; omega))
  have hlen := fun a r (h : Px.call f o ts = .ok a r) => Px.call_len h
  have hR := HR.out
  obtain ⟨rr, hrr⟩ : ∃ x, x = Px.call f o ts := ⟨_, rfl⟩
  rw [← hrr] at HC0 hlen hR
  have HR := Lib.hid hR
  have HLEN := Lib.hid hlen
  clear hR hlen hrr
  go_wp2_with fail
  refine (HC0.out _ H0.out).mono ?_
  intro e w1 hr
  cases rr with
  | err z r =>
    obtain ⟨rfl, h4, h5⟩ := hr
    have H4 := Lib.hid h4
    have H5 := Lib.hid (HK0.out.trans h5 (fun _ h _ => h))
    clear h4 h5
    go_wp2
    rw [HR.out]
    exact ⟨rfl, rfl, H4.out, H5.out⟩
  | ok a1 r1 =>
    obtain ⟨v1, rfl, h3, h4, h5⟩ := hr
    have HL1 := Lib.hid (HLEN.out a1 r1 rfl)
    have hR := HR.out
    simp only [Px.bind_ok] at hR
    have HR := Lib.hid hR
    clear hR
    obtain ⟨vs, hv, h3⟩ := h3
    have E1 := Lib.hid h3
    obtain ⟨kd, sx, sy, qe, qf, qc, Aa, na, ca, At, nt, ct, Al, nl, cl, at_, rfl⟩ := h3.form
    subst hv
    clear h3
    have HW1 := Lib.hid h4
    have HKW1 := Lib.hid (HK0.out.trans h5 (fun _ h _ => h))
    have HSTEP1 := Lib.hid h5
    have HB0 := Lib.hid (block_keep HB0.out h5 (by have := HBL.out; simp; omega))
    clear h4 h5
    have hrow := HB0.out
    have f0_0 := row_free hrow 0
    have c0_0 := row_cell hrow 0
    have f0_1 := row_free hrow 1
    have c0_1 := row_cell hrow 1
    have f0_2 := row_free hrow 2
    have c0_2 := row_cell hrow 2
    have f0_3 := row_free hrow 3
    have c0_3 := row_cell hrow 3
    have f0_4 := row_free hrow 4
    have c0_4 := row_cell hrow 4
    have f0_5 := row_free hrow 5
    have c0_5 := row_cell hrow 5
    have f0_6 := row_free hrow 6
    have c0_6 := row_cell hrow 6
    have f0_7 := row_free hrow 7
    have c0_7 := row_cell hrow 7
    have f0_8 := row_free hrow 8
    have c0_8 := row_cell hrow 8
    have f0_9 := row_free hrow 9
    have c0_9 := row_cell hrow 9
    simp only [List.getElem?_toArray, List.getElem?_cons_zero, List.getElem?_cons_succ] at c0_0 c0_1 c0_2 c0_3 c0_4 c0_5 c0_6 c0_7 c0_8 c0_9
    clear hrow
    go_wp2_with fail
    refine bodyPost_ret (v := .agg #[.int .i64 kd, .string sx, .string sy, .pointer qe, .pointer qf, .pointer qc, .slice Aa na ca, .slice At nt ct, .slice Al nl cl, .int .i64 at_]) (by simp [results, Tryz.results151, go_sem, c0_0, c0_1, c0_2, c0_3, c0_4, c0_5, c0_6, c0_7, c0_8, c0_9]) rfl ?_
    refine setsEnd (S := [w.heap.size]) (w := w1) ?_ ?_
    · repeat (refine Keeps.setCell ?_ (by simp) _)
      exact Keeps.refl _ _
    · intro W hk
      have nt0 := And.intro (NotT.of (T := 74) HB0.out (by decide)) (And.intro (NotT.of (T := 105) HB0.out (by decide)) (NotT.of (T := 170) HB0.out (by decide)))
      have hoff : Off w1 b (fun _ => False) [w.heap.size] := fun y hy => .inr ⟨id, (by
        obtain rfl : y = w.heap.size := by simpa using hy
        exact nt0)⟩
      rw [HR.out]
      have hex : SmAt w1 b (fun _ => False) a1 [.int .i64 kd, .string sx, .string sy, .pointer qe, .pointer qf, .pointer qc, .slice Aa na ca, .slice At nt ct, .slice Al nl cl, .int .i64 at_] := E1.out
      exact ⟨_, rfl, ⟨_, rfl, SmAt.keep hk hoff _ _ hex⟩, HW1.out.keepHi hk (by have := HBL.out; simp; omega), HKW1.out.hi hk (by simp)⟩
set_option maxHeartbeats 2000000 in
set_option maxRecDepth 100000 in
theorem simple_set (w : World) (b n o k : Nat) (ts : List Tok) (f : Nat) (h : PAt w b n ts o k) (ho2 : o ≤ 1000) (hf : 4 * ts.length + 6 ≤ f) (hr : Px.sees ts [114, 101, 116, 117, 114, 110] = false) (hs : Px.sees ts [97, 115, 115, 101, 114, 116] = false) (hm : Px.sees ts [42] = false) (hx : (Px.txt ts 1 == [91]) = false) (hz : (Px.txt ts 1 == [40]) = false) :
    Calls Tryz.prog 151 #[pp b] w (RP Sm0At (fun _ => k) w b n o ((Px.nameR ts).bind fun x r => Px.want [61] r fun r => (Px.value f o r).bind fun s r => .ok (s.withX x) r)) := by
  obtain ⟨R, hR⟩ : ∃ R, R = ((Px.nameR ts).bind fun x r => Px.want [61] r fun r => (Px.value f o r).bind fun s r => .ok (s.withX x) r) := ⟨_, rfl⟩
  rw [← hR]
  unfold Px.want at hR
  have HR := Lib.hid hR
  have HF := Lib.hid hf
  have H0 := Lib.hid h
  have HK0 := Lib.hid (Keeps.refl [b] w)
  have hbl := h.lt
  have HBL := Lib.hid hbl
  have hmf : ∀ (fn : Fn) (first cap : Array Value) (w : World), (Instr.makeFunc fn first cap).run Tryz.prog w = .ok (.func fn first cap) w := fun _ _ _ _ => rfl
  have H0 := Lib.hid h
  have HK0 := Lib.hid (Keeps.refl [b] w)
  have HB0 := Lib.hid (show (w.alloc (.cells #[.int .i64 0, .string .empty, .string .empty, .pointer none, .pointer none, .pointer none, .slice none 0 0, .slice none 0 0, .slice none 0 0, .int .i64 0] 60)).heap[w.heap.size]? = some (.cells #[.int .i64 0, .string .empty, .string .empty, .pointer none, .pointer none, .pointer none, .slice none 0 0, .slice none 0 0, .slice none 0 0, .int .i64 0] 60 (0, 0)) from heap_alloc_new _ _)
  have H0 := Lib.hid (H0.out.keep ((Keeps.refl [] _).alloc (.cells #[.int .i64 0, .string .empty, .string .empty, .pointer none, .pointer none, .pointer none, .slice none 0 0, .slice none 0 0, .slice none 0 0, .int .i64 0] 60)))
  have HK0 := Lib.hid (HK0.out.alloc (.cells #[.int .i64 0, .string .empty, .string .empty, .pointer none, .pointer none, .pointer none, .slice none 0 0, .slice none 0 0, .slice none 0 0, .int .i64 0] 60))
  have HP0 := Lib.hid (fun w' (h' : PAt w' b n ts o k) => passes_no w' b n o k ts h' [114, 101, 116, 117, 114, 110] hr)
  have HP1 := Lib.hid (fun w' (h' : PAt w' b n ts o k) => passes_no w' b n o k ts h' [97, 115, 115, 101, 114, 116] hs)
  have HP2 := Lib.hid (fun w' (h' : PAt w' b n ts o k) => passes_no w' b n o k ts h' [42] hm)
  have HX1 := Lib.hid (fun w' (h' : PAt w' b n ts o k) => text_any w' b n o k ts h' 1 (by omega))
  have hx1 := strO_toList (Px.txt ts 1)
  obtain ⟨x1, hxx⟩ : ∃ x, x = strO (Px.txt ts 1) := ⟨_, rfl⟩
  rw [← hxx] at HX1 hx1
  have hq0 : (x1.toList == [91]) = false := by rw [hx1]; exact hx
  have hq1 : (x1.toList == [40]) = false := by rw [hx1]; exact hz
  clear hx1 hxx
  clear h hf hR hbl hr hs hm hx hz
  go_enter Tryz.func151, Tryz.ntmps151
  go_wp2_with fail
  refine (HP0.out _ H0.out).mono ?_
  rintro e w' ⟨rfl, rfl⟩
  go_wp2_with fail
  refine (HP1.out _ H0.out).mono ?_
  rintro e w' ⟨rfl, rfl⟩
  go_wp2_with fail
  refine (HP2.out _ H0.out).mono ?_
  rintro e w' ⟨rfl, rfl⟩
  go_wp2_with fail
  refine (HX1.out _ H0.out).mono ?_
  rintro e w' ⟨rfl, rfl⟩
  have HC0 := Lib.hid (fun w' (h' : PAt w' b n (ts) o k) => name_rp w' b n o k (ts) h')
  have hlen := fun a r (h : Px.nameR ts = .ok a r) => Px.nameR_len h
  have hR := HR.out
  obtain ⟨rr, hrr⟩ : ∃ x, x = Px.nameR ts := ⟨_, rfl⟩
  rw [← hrr] at HC0 hlen hR
  have HR := Lib.hid hR
  have HLEN := Lib.hid hlen
  clear hR hlen hrr
  go_wp2_with fail
  refine (HC0.out _ H0.out).mono ?_
  intro e w1 hr
  cases rr with
  | err z r =>
    obtain ⟨rfl, h4, h5⟩ := hr
    have H4 := Lib.hid h4
    have H5 := Lib.hid (HK0.out.trans h5 (fun _ h _ => h))
    clear h4 h5
    go_wp2
    rw [HR.out]
    exact ⟨rfl, rfl, H4.out, H5.out⟩
  | ok a1 r1 =>
    obtain ⟨v1, rfl, h3, h4, h5⟩ := hr
    have HL1 := Lib.hid (HLEN.out a1 r1 rfl)
    have hR := HR.out
    simp only [Px.bind_ok] at hR
    have HR := Lib.hid hR
    clear hR
    obtain rfl : v1 = .string (strO a1) := h3
    have HW1 := Lib.hid h4
    have HKW1 := Lib.hid (HK0.out.trans h5 (fun _ h _ => h))
    have HSTEP1 := Lib.hid h5
    have HB0 := Lib.hid (block_keep HB0.out h5 (by have := HBL.out; simp; omega))
    clear h4 h5
    have HC1 := Lib.hid (fun w' (h' : PAt w' b n (r1) o k) => pass_rp w' b n o k (r1) h' [61] (by simp))
    have hlen := fun a r (h : Px.passR [61] r1 = .ok a r) => Px.passR_len (by simp) h
    have hR := HR.out
    obtain ⟨rr, hrr⟩ : ∃ x, x = Px.passR [61] r1 := ⟨_, rfl⟩
    rw [← hrr] at HC1 hlen hR
    have HR := Lib.hid hR
    have HLEN := Lib.hid hlen
    clear hR hlen hrr
    go_wp2_with fail
    refine (HC1.out _ HW1.out).mono ?_
    intro e w2 hr
    cases rr with
    | err z r =>
      obtain ⟨rfl, h4, h5⟩ := hr
      have H4 := Lib.hid h4
      have H5 := Lib.hid (HKW1.out.trans h5 (fun _ h _ => h))
      clear h4 h5
      go_wp2
      rw [HR.out]
      exact ⟨rfl, rfl, H4.out, H5.out⟩
    | ok a2 r2 =>
      obtain ⟨v2, rfl, h3, h4, h5⟩ := hr
      have HL2 := Lib.hid (HLEN.out a2 r2 rfl)
      have hR := HR.out
      simp only [Px.bind_ok] at hR
      have HR := Lib.hid hR
      clear hR
      obtain rfl : v2 = .tuple #[] := h3
      have HW2 := Lib.hid h4
      have HKW2 := Lib.hid (HKW1.out.trans h5 (fun _ h _ => h))
      have HSTEP2 := Lib.hid h5
      have HB0 := Lib.hid (block_keep HB0.out h5 (by have := HBL.out; simp; omega))
      clear h4 h5
      have HC2 := Lib.hid (fun w' (h' : PAt w' b n (r2) o k) => value_any w' b n o k (r2) f h' ho2 (by have := HF.out; have := HL1.out; have := HL2.out; omega))
      have hlen := fun a r (h : Px.value f o r2 = .ok a r) => Px.value_len h
      have hR := HR.out
      obtain ⟨rr, hrr⟩ : ∃ x, x = Px.value f o r2 := ⟨_, rfl⟩
      rw [← hrr] at HC2 hlen hR
      have HR := Lib.hid hR
      have HLEN := Lib.hid hlen
      clear hR hlen hrr
      go_wp2_with fail
      refine (HC2.out _ HW2.out).mono ?_
      intro e w3 hr
      cases rr with
      | err z r =>
        obtain ⟨rfl, h4, h5⟩ := hr
        have H4 := Lib.hid h4
        have H5 := Lib.hid (HKW2.out.trans h5 (fun _ h _ => h))
        clear h4 h5
        go_wp2
        rw [HR.out]
        exact ⟨rfl, rfl, H4.out, H5.out⟩
      | ok a3 r3 =>
        obtain ⟨v3, rfl, h3, h4, h5⟩ := hr
        have HL3 := Lib.hid (HLEN.out a3 r3 rfl)
        have hR := HR.out
        simp only [Px.bind_ok] at hR
        have HR := Lib.hid hR
        clear hR
        obtain ⟨vs, hv, h3⟩ := h3
        have E3 := Lib.hid h3
        obtain ⟨kd, sx, sy, qe, qf, qc, Aa, na, ca, At, nt, ct, Al, nl, cl, at_, rfl⟩ := h3.form
        subst hv
        clear h3
        have HW3 := Lib.hid h4
        have HKW3 := Lib.hid (HKW2.out.trans h5 (fun _ h _ => h))
        have HSTEP3 := Lib.hid h5
        have HB0 := Lib.hid (block_keep HB0.out h5 (by have := HBL.out; simp; omega))
        clear h4 h5
        have HBP := HB0
        have HLT1 := Lib.hid (show w.heap.size < w3.heap.size from block_lt HB0.out)
        have HB1 := Lib.hid (show (w3.alloc (.cells #[.int .i64 kd, .string (strO a1), .string sy, .pointer qe, .pointer qf, .pointer qc, .slice Aa na ca, .slice At nt ct, .slice Al nl cl, .int .i64 at_] 60)).heap[w3.heap.size]? = some (.cells #[.int .i64 kd, .string (strO a1), .string sy, .pointer qe, .pointer qf, .pointer qc, .slice Aa na ca, .slice At nt ct, .slice Al nl cl, .int .i64 at_] 60 (0, 0)) from heap_alloc_new _ _)
        have HB0 := Lib.hid (block_keep HB0.out ((Keeps.refl [] _).alloc (.cells #[.int .i64 kd, .string (strO a1), .string sy, .pointer qe, .pointer qf, .pointer qc, .slice Aa na ca, .slice At nt ct, .slice Al nl cl, .int .i64 at_] 60)) (by simp))
        have E3 := Lib.hid (E3.out.alloc (.cells #[.int .i64 kd, .string (strO a1), .string sy, .pointer qe, .pointer qf, .pointer qc, .slice Aa na ca, .slice At nt ct, .slice Al nl cl, .int .i64 at_] 60))
        have HBL1 := Lib.hid HW3.out.lt
        have HSZ1 := Lib.hid HKW3.out.size
        have HWA1 := Lib.hid (HW3.out.keep ((Keeps.refl [] _).alloc (.cells #[.int .i64 kd, .string (strO a1), .string sy, .pointer qe, .pointer qf, .pointer qc, .slice Aa na ca, .slice At nt ct, .slice Al nl cl, .int .i64 at_] 60)))
        have HKA1 := Lib.hid (HKW3.out.alloc (.cells #[.int .i64 kd, .string (strO a1), .string sy, .pointer qe, .pointer qf, .pointer qc, .slice Aa na ca, .slice At nt ct, .slice Al nl cl, .int .i64 at_] 60))
        obtain ⟨X0, hX0⟩ : ∃ x, x = w.heap.size := ⟨_, rfl⟩
        rw [← hX0] at HB0
        obtain ⟨X1, hX1⟩ : ∃ x, x = w3.heap.size := ⟨_, rfl⟩
        rw [← hX1] at HB1
        have hne1 : X0 ≠ X1 := fun h => by have h9 := HLT1.out; rw [← hX0, ← hX1, h] at h9; omega
        have hne2 : X1 ≠ X0 := fun h => hne1 h.symm
        have HX := Lib.hid (And.intro hX0 hX1)
        have hX1r := hX1.symm
        rw [← hX0] at HBP
        have hrow := HBP.out
        have g0_0 := row_free hrow 0
        have d0_0 := row_cell hrow 0
        have g0_1 := row_free hrow 1
        have d0_1 := row_cell hrow 1
        have g0_2 := row_free hrow 2
        have d0_2 := row_cell hrow 2
        have g0_3 := row_free hrow 3
        have d0_3 := row_cell hrow 3
        have g0_4 := row_free hrow 4
        have d0_4 := row_cell hrow 4
        have g0_5 := row_free hrow 5
        have d0_5 := row_cell hrow 5
        have g0_6 := row_free hrow 6
        have d0_6 := row_cell hrow 6
        have g0_7 := row_free hrow 7
        have d0_7 := row_cell hrow 7
        have g0_8 := row_free hrow 8
        have d0_8 := row_cell hrow 8
        have g0_9 := row_free hrow 9
        have d0_9 := row_cell hrow 9
        simp only [List.getElem?_toArray, List.getElem?_cons_zero, List.getElem?_cons_succ] at d0_0 d0_1 d0_2 d0_3 d0_4 d0_5 d0_6 d0_7 d0_8 d0_9
        clear hrow
        simp only [← hX0, ← hX1]
        clear hX0 hX1
        have hrow := HB0.out
        have f0_0 := row_free hrow 0
        have c0_0 := row_cell hrow 0
        have f0_1 := row_free hrow 1
        have c0_1 := row_cell hrow 1
        have f0_2 := row_free hrow 2
        have c0_2 := row_cell hrow 2
        have f0_3 := row_free hrow 3
        have c0_3 := row_cell hrow 3
        have f0_4 := row_free hrow 4
        have c0_4 := row_cell hrow 4
        have f0_5 := row_free hrow 5
        have c0_5 := row_cell hrow 5
        have f0_6 := row_free hrow 6
        have c0_6 := row_cell hrow 6
        have f0_7 := row_free hrow 7
        have c0_7 := row_cell hrow 7
        have f0_8 := row_free hrow 8
        have c0_8 := row_cell hrow 8
        have f0_9 := row_free hrow 9
        have c0_9 := row_cell hrow 9
        simp only [List.getElem?_toArray, List.getElem?_cons_zero, List.getElem?_cons_succ] at c0_0 c0_1 c0_2 c0_3 c0_4 c0_5 c0_6 c0_7 c0_8 c0_9
        clear hrow
        have hrow := HB1.out
        have f1_0 := row_free hrow 0
        have c1_0 := row_cell hrow 0
        have f1_1 := row_free hrow 1
        have c1_1 := row_cell hrow 1
        have f1_2 := row_free hrow 2
        have c1_2 := row_cell hrow 2
        have f1_3 := row_free hrow 3
        have c1_3 := row_cell hrow 3
        have f1_4 := row_free hrow 4
        have c1_4 := row_cell hrow 4
        have f1_5 := row_free hrow 5
        have c1_5 := row_cell hrow 5
        have f1_6 := row_free hrow 6
        have c1_6 := row_cell hrow 6
        have f1_7 := row_free hrow 7
        have c1_7 := row_cell hrow 7
        have f1_8 := row_free hrow 8
        have c1_8 := row_cell hrow 8
        have f1_9 := row_free hrow 9
        have c1_9 := row_cell hrow 9
        simp only [List.getElem?_toArray, List.getElem?_cons_zero, List.getElem?_cons_succ] at c1_0 c1_1 c1_2 c1_3 c1_4 c1_5 c1_6 c1_7 c1_8 c1_9
        clear hrow
        go_wp2_with fail
        refine bodyPost_ret (v := .agg #[.int .i64 kd, .string (strO a1), .string sy, .pointer qe, .pointer qf, .pointer qc, .slice Aa na ca, .slice At nt ct, .slice Al nl cl, .int .i64 at_]) (by simp [results, Tryz.results151, go_sem, d0_0, d0_1, d0_2, d0_3, d0_4, d0_5, d0_6, d0_7, d0_8, d0_9, c0_0, c0_1, c0_2, c0_3, c0_4, c0_5, c0_6, c0_7, c0_8, c0_9, c1_0, c1_1, c1_2, c1_3, c1_4, c1_5, c1_6, c1_7, c1_8, c1_9]) rfl ?_
        refine setsEnd (S := [X0, X1]) (w := (w3.alloc (.cells #[.int .i64 kd, .string (strO a1), .string sy, .pointer qe, .pointer qf, .pointer qc, .slice Aa na ca, .slice At nt ct, .slice Al nl cl, .int .i64 at_] 60))) ?_ ?_
        · repeat (refine Keeps.setCell ?_ (by simp) _)
          exact Keeps.refl _ _
        · intro W hk
          have nt0 := And.intro (NotT.of (T := 74) HB0.out (by decide)) (And.intro (NotT.of (T := 105) HB0.out (by decide)) (NotT.of (T := 170) HB0.out (by decide)))
          have nt1 := And.intro (NotT.of (T := 74) HB1.out (by decide)) (And.intro (NotT.of (T := 105) HB1.out (by decide)) (NotT.of (T := 170) HB1.out (by decide)))
          have hoff : Off (w3.alloc (.cells #[.int .i64 kd, .string (strO a1), .string sy, .pointer qe, .pointer qf, .pointer qc, .slice Aa na ca, .slice At nt ct, .slice Al nl cl, .int .i64 at_] 60)) b (fun _ => False) [X0, X1] := fun y hy => .inr ⟨id, (by
            simp at hy
            rcases hy with rfl | rfl
            · exact nt0
            · exact nt1)⟩
          rw [HR.out]
          have hex : SmAt (w3.alloc (.cells #[.int .i64 kd, .string (strO a1), .string sy, .pointer qe, .pointer qf, .pointer qc, .slice Aa na ca, .slice At nt ct, .slice Al nl cl, .int .i64 at_] 60)) b (fun _ => False) (a3.withX a1) [.int .i64 kd, .string (strO a1), .string sy, .pointer qe, .pointer qf, .pointer qc, .slice Aa na ca, .slice At nt ct, .slice Al nl cl, .int .i64 at_] := E3.out.withX
          exact ⟨_, rfl, ⟨_, rfl, SmAt.keep hk hoff _ _ hex⟩, HWA1.out.keepHi hk (by have := HBL.out; have := HBL1.out; have h8 := HX.out.1; have h9 := HX.out.2; simp; omega), HKA1.out.hi hk (by have := HLT1.out; have h8 := HX.out.1; have h9 := HX.out.2; simp; omega)⟩
end Go.Proofs.YtbikifibfaaggaaGreatDoor
