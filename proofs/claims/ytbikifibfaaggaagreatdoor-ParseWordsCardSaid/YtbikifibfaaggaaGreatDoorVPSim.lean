import Derived.Test.YtbikifibfaaggaaGreatDoorVMI
namespace Go.Proofs.YtbikifibfaaggaaGreatDoor
set_option maxHeartbeats 2000000
set_option maxRecDepth 100000
open Go.RowKit Go.Shelf
open Lx (Tok Tx)
open Px (Ex Cn Sm)
theorem simple_ret (w : World) (b n o k : Nat) (ts : List Tok) (f : Nat) (h : PAt w b n ts o k) (ho2 : o ≤ 1000) (hf : 4 * ts.length + 6 ≤ f) (hy : Px.sees ts [114, 101, 116, 117, 114, 110] = true) :
 Calls Tryz.prog 151 #[pp b] w (RP Sm0At (fun _ => k) w b n o ((Px.sum f o ts.tail).bind fun e r => .ok (Px.Sm.mk 9 [] [] (some e) none none [] [] [] 0) r)) := by
 obtain ⟨R, hR⟩ : ∃ R, R = ((Px.sum f o ts.tail).bind fun e r => .ok (Px.Sm.mk 9 [] [] (some e) none none [] [] [] 0) r) := ⟨_, rfl⟩
 rw [← hR]
 have HR := Hd hR
 have HF := Hd hf
 have H0 := Hd h
 have HK0 := Hd (Keeps.refl [b] w)
 have hbl := h.lt
 have HBL := Hd hbl
 have hmf := hmf0
 obtain ⟨H0, HK0, HB0⟩ := start_p h
 have HP0 := Hd (fun w' (h' : PAt w' b n ts o k) => passes_yes w' b n o k ts h' [114, 101, 116, 117, 114, 110] (by simp) hy)
 have HLT := Hd (show ts.tail.length < ts.length by have := Px.sees_len (by simp) hy; simp; omega)
 clear h hf hR hbl hy
 go_enter Tryz.func151, Tryz.ntmps151
 go_wp2_with fail
 refine (HP0.out _ H0.out).mono ?_
 rintro e w0 ⟨rfl, h1, h2⟩
 have H0 := Hd h1
 have HK0 := zV HK0 h2
 have HB0 := zL HB0 h2
 clear h1 h2
 have HC0 := Hd (fun w' (h' : PAt w' b n (ts.tail) o k) => sum_any w' b n o k (ts.tail) f h' ho2 (by have := HF.out; have := HLT.out; omega))
 have hlen := fun a r (h : Px.sum f o (ts.tail) = .ok a r) => Px.sum_len h
 have hR := HR.out
 obtain ⟨rr, hrr⟩ : ∃ x, x = Px.sum f o (ts.tail) := ⟨_, rfl⟩
 rw [← hrr] at HC0 hlen hR
 have HR := Hd hR
 have HLEN := Hd hlen
 clear hR hlen hrr
 go_wp2_with fail
 refine (HC0.out _ H0.out).mono ?_
 intro e w1 hr
 cases rr with
 | err z r =>
  obtain ⟨rfl, H4, H5⟩ := zE hr HK0
  go_wp2
  rw [HR.out]
  exact ⟨rfl, rfl, H4.out, H5.out⟩
 | ok a1 r1 =>
  obtain ⟨v1, rfl, h3, h4, h5⟩ := hr
  have HL1 := Hd (HLEN.out a1 r1 rfl)
  have HR := zR1 HR
  have E1 := Hd h3
  obtain ⟨x1, rfl⟩ := h3.ptr
  clear h3
  have HW1 := Hd h4
  have HKW1 := zV HK0 h5
  have HSTEP1 := Hd h5
  have HB0 := zL HB0 h5
  clear h4 h5
  have hrow := HB0.out
  obtain ⟨c0_0, f0_0, c0_1, f0_1, c0_2, f0_2, c0_3, f0_3, c0_4, f0_4, c0_5, f0_5, c0_6, f0_6, c0_7, f0_7, c0_8, f0_8, c0_9, f0_9⟩ := row10 hrow
  clear hrow
  go_wp2_with fail
  refine bodyPost_ret (v := .agg #[.int .i64 9, .string ⟨#[]⟩, .string ⟨#[]⟩, .pointer (some ⟨x1, 0, none⟩), .pointer none, .pointer none, .slice none 0 0, .slice none 0 0, .slice none 0 0, .int .i64 0]) (by simp [results, Tryz.results151, go_sem, c0_0, c0_1, c0_2, c0_3, c0_4, c0_5, c0_6, c0_7, c0_8, c0_9]) rfl ?_
  refine setsEnd (S := [w.heap.size]) (w := w1) ?_ ?_
  ·
   repeat (refine Keeps.setCell ?_ (by simp) _)
   exact Keeps.refl _ _
  ·
   intro W hk
   have nt0 := nt3 HB0
   have hoff : Off w1 b (fun _ => False) [w.heap.size] := fun y hy => .inr ⟨id, (by
    obtain rfl : y = w.heap.size := by simpa using hy
    exact nt0)⟩
   rw [HR.out]
   have hex : SmAt w1 b (fun _ => False) (Px.Sm.mk 9 [] [] (some a1) none none [] [] [] 0) [.int .i64 9, .string ⟨#[]⟩, .string ⟨#[]⟩, .pointer (some ⟨x1, 0, none⟩), .pointer none, .pointer none, .slice none 0 0, .slice none 0 0, .slice none 0 0, .int .i64 0] := ⟨_, _, _, _, _, _, rfl, E1.out, rfl, rfl, noArgs, noBlock, noBlock⟩
   exact ⟨_, rfl, ⟨_, rfl, SmAt.keep hk hoff _ _ hex⟩, HW1.out.keepHi hk (by have := HBL.out; simp; omega), HKW1.out.hi hk (by simp)⟩
theorem simple_ass (w : World) (b n o k : Nat) (ts : List Tok) (f : Nat) (h : PAt w b n ts o k) (ho2 : o ≤ 1000) (hf : 4 * ts.length + 6 ≤ f) (hr : Px.sees ts [114, 101, 116, 117, 114, 110] = false) (hy : Px.sees ts [97, 115, 115, 101, 114, 116] = true) :
 Calls Tryz.prog 151 #[pp b] w (RP Sm0At (fun _ => k) w b n o ((Px.test f o ts.tail).bind fun c r => .ok (Px.Sm.mk 12 [] [] none none (some c) [] [] [] 0) r)) := by
 obtain ⟨R, hR⟩ : ∃ R, R = ((Px.test f o ts.tail).bind fun c r => .ok (Px.Sm.mk 12 [] [] none none (some c) [] [] [] 0) r) := ⟨_, rfl⟩
 rw [← hR]
 have HR := Hd hR
 have HF := Hd hf
 have H0 := Hd h
 have HK0 := Hd (Keeps.refl [b] w)
 have hbl := h.lt
 have HBL := Hd hbl
 have hmf := hmf0
 obtain ⟨H0, HK0, HB0⟩ := start_p h
 have HP0 := Hd (fun w' (h' : PAt w' b n ts o k) => passes_no w' b n o k ts h' [114, 101, 116, 117, 114, 110] hr)
 have HP1 := Hd (fun w' (h' : PAt w' b n ts o k) => passes_yes w' b n o k ts h' [97, 115, 115, 101, 114, 116] (by simp) hy)
 have HLT := Hd (show ts.tail.length < ts.length by have := Px.sees_len (by simp) hy; simp; omega)
 clear h hf hR hbl hr hy
 go_enter Tryz.func151, Tryz.ntmps151
 go_wp2_with fail
 refine (same (HP0.out _ H0.out)) ?_
 go_wp2_with fail
 refine (HP1.out _ H0.out).mono ?_
 rintro e w0 ⟨rfl, h1, h2⟩
 have H0 := Hd h1
 have HK0 := zV HK0 h2
 have HB0 := zL HB0 h2
 clear h1 h2
 have HC0 := Hd (fun w' (h' : PAt w' b n (ts.tail) o k) => test_any w' b n o k (ts.tail) f h' ho2 (by have := HF.out; have := HLT.out; omega))
 have hlen := fun a r (h : Px.test f o (ts.tail) = .ok a r) => Px.test_len h
 have hR := HR.out
 obtain ⟨rr, hrr⟩ : ∃ x, x = Px.test f o (ts.tail) := ⟨_, rfl⟩
 rw [← hrr] at HC0 hlen hR
 have HR := Hd hR
 have HLEN := Hd hlen
 clear hR hlen hrr
 go_wp2_with fail
 refine (HC0.out _ H0.out).mono ?_
 intro e w1 hr
 cases rr with
 | err z r =>
  obtain ⟨rfl, H4, H5⟩ := zE hr HK0
  go_wp2
  rw [HR.out]
  exact ⟨rfl, rfl, H4.out, H5.out⟩
 | ok a1 r1 =>
  obtain ⟨v1, rfl, h3, h4, h5⟩ := hr
  have HL1 := Hd (HLEN.out a1 r1 rfl)
  have HR := zR1 HR
  have E1 := Hd h3
  obtain ⟨x1, rfl⟩ := h3.ptr
  clear h3
  have HW1 := Hd h4
  have HKW1 := zV HK0 h5
  have HSTEP1 := Hd h5
  have HB0 := zL HB0 h5
  clear h4 h5
  have hrow := HB0.out
  obtain ⟨c0_0, f0_0, c0_1, f0_1, c0_2, f0_2, c0_3, f0_3, c0_4, f0_4, c0_5, f0_5, c0_6, f0_6, c0_7, f0_7, c0_8, f0_8, c0_9, f0_9⟩ := row10 hrow
  clear hrow
  go_wp2_with fail
  refine bodyPost_ret (v := .agg #[.int .i64 12, .string ⟨#[]⟩, .string ⟨#[]⟩, .pointer none, .pointer none, .pointer (some ⟨x1, 0, none⟩), .slice none 0 0, .slice none 0 0, .slice none 0 0, .int .i64 0]) (by simp [results, Tryz.results151, go_sem, c0_0, c0_1, c0_2, c0_3, c0_4, c0_5, c0_6, c0_7, c0_8, c0_9]) rfl ?_
  refine setsEnd (S := [w.heap.size]) (w := w1) ?_ ?_
  ·
   repeat (refine Keeps.setCell ?_ (by simp) _)
   exact Keeps.refl _ _
  ·
   intro W hk
   have nt0 := nt3 HB0
   have hoff : Off w1 b (fun _ => False) [w.heap.size] := fun y hy => .inr ⟨id, (by
    obtain rfl : y = w.heap.size := by simpa using hy
    exact nt0)⟩
   rw [HR.out]
   have hex : SmAt w1 b (fun _ => False) (Px.Sm.mk 12 [] [] none none (some a1) [] [] [] 0) [.int .i64 12, .string ⟨#[]⟩, .string ⟨#[]⟩, .pointer none, .pointer none, .pointer (some ⟨x1, 0, none⟩), .slice none 0 0, .slice none 0 0, .slice none 0 0, .int .i64 0] := ⟨_, _, _, _, _, _, rfl, rfl, rfl, E1.out, noArgs, noBlock, noBlock⟩
   exact ⟨_, rfl, ⟨_, rfl, SmAt.keep hk hoff _ _ hex⟩, HW1.out.keepHi hk (by have := HBL.out; simp; omega), HKW1.out.hi hk (by simp)⟩
theorem simple_store (w : World) (b n o k : Nat) (ts : List Tok) (f : Nat) (h : PAt w b n ts o k) (ho2 : o ≤ 1000) (hf : 4 * ts.length + 6 ≤ f) (hr : Px.sees ts [114, 101, 116, 117, 114, 110] = false) (hs : Px.sees ts [97, 115, 115, 101, 114, 116] = false) (hy : Px.sees ts [42] = true) :
 Calls Tryz.prog 151 #[pp b] w (RP Sm0At (fun _ => k) w b n o ((Px.nameR ts.tail).bind fun x r => Px.want [61] r fun r => (Px.sum f o r).bind fun e r => .ok (Px.Sm.mk 5 x [] (some e) none none [] [] [] 0) r)) := by
 obtain ⟨R, hR⟩ : ∃ R, R = ((Px.nameR ts.tail).bind fun x r => Px.want [61] r fun r => (Px.sum f o r).bind fun e r => .ok (Px.Sm.mk 5 x [] (some e) none none [] [] [] 0) r) := ⟨_, rfl⟩
 rw [← hR]
 unfold Px.want at hR
 have HR := Hd hR
 have HF := Hd hf
 have H0 := Hd h
 have HK0 := Hd (Keeps.refl [b] w)
 have hbl := h.lt
 have HBL := Hd hbl
 have hmf := hmf0
 obtain ⟨H0, HK0, HB0⟩ := start_p h
 have HP0 := Hd (fun w' (h' : PAt w' b n ts o k) => passes_no w' b n o k ts h' [114, 101, 116, 117, 114, 110] hr)
 have HP1 := Hd (fun w' (h' : PAt w' b n ts o k) => passes_no w' b n o k ts h' [97, 115, 115, 101, 114, 116] hs)
 have HP2 := Hd (fun w' (h' : PAt w' b n ts o k) => passes_yes w' b n o k ts h' [42] (by simp) hy)
 have HLT := Hd (show ts.tail.length < ts.length by have := Px.sees_len (by simp) hy; simp; omega)
 clear h hf hR hbl hr hs hy
 go_enter Tryz.func151, Tryz.ntmps151
 go_wp2_with fail
 refine (same (HP0.out _ H0.out)) ?_
 go_wp2_with fail
 refine (same (HP1.out _ H0.out)) ?_
 go_wp2_with fail
 refine (HP2.out _ H0.out).mono ?_
 rintro e w0 ⟨rfl, h1, h2⟩
 have H0 := Hd h1
 have HK0 := zV HK0 h2
 have HB0 := zL HB0 h2
 clear h1 h2
 have HC0 := Hd (fun w' (h' : PAt w' b n (ts.tail) o k) => name_rp w' b n o k (ts.tail) h')
 have hlen := fun a r (h : Px.nameR (ts.tail) = .ok a r) => Px.nameR_len h
 have hR := HR.out
 obtain ⟨rr, hrr⟩ : ∃ x, x = Px.nameR (ts.tail) := ⟨_, rfl⟩
 rw [← hrr] at HC0 hlen hR
 have HR := Hd hR
 have HLEN := Hd hlen
 clear hR hlen hrr
 go_wp2_with fail
 refine (HC0.out _ H0.out).mono ?_
 intro e w1 hr
 cases rr with
 | err z r =>
  obtain ⟨rfl, H4, H5⟩ := zE hr HK0
  go_wp2
  rw [HR.out]
  exact ⟨rfl, rfl, H4.out, H5.out⟩
 | ok a1 r1 =>
  obtain ⟨v1, rfl, h3, h4, h5⟩ := hr
  have HL1 := Hd (HLEN.out a1 r1 rfl)
  have HR := zR1 HR
  obtain rfl : v1 = .string (strO a1) := h3
  have HW1 := Hd h4
  have HKW1 := zV HK0 h5
  have HSTEP1 := Hd h5
  have HB0 := zL HB0 h5
  clear h4 h5
  have HLT1 := Hd (show w.heap.size < w1.heap.size from block_lt HB0.out)
  have HB1 := Hd (show (w1.alloc (.cells #[.int .i64 5, .string (strO a1), .string ⟨#[]⟩, .pointer none, .pointer none, .pointer none, .slice none 0 0, .slice none 0 0, .slice none 0 0, .int .i64 0] 60)).heap[w1.heap.size]? = some (.cells #[.int .i64 5, .string (strO a1), .string ⟨#[]⟩, .pointer none, .pointer none, .pointer none, .slice none 0 0, .slice none 0 0, .slice none 0 0, .int .i64 0] 60 (0, 0)) from heap_alloc_new _ _)
  have HB0 := Hd (block_keep HB0.out ((Keeps.refl [] _).alloc (.cells #[.int .i64 5, .string (strO a1), .string ⟨#[]⟩, .pointer none, .pointer none, .pointer none, .slice none 0 0, .slice none 0 0, .slice none 0 0, .int .i64 0] 60)) (by simp))
  have HBL1 := Hd HW1.out.lt
  have HSZ1 := Hd HKW1.out.size
  have HWA1 := Hd (HW1.out.keep ((Keeps.refl [] _).alloc (.cells #[.int .i64 5, .string (strO a1), .string ⟨#[]⟩, .pointer none, .pointer none, .pointer none, .slice none 0 0, .slice none 0 0, .slice none 0 0, .int .i64 0] 60)))
  have HKA1 := Hd (HKW1.out.alloc (.cells #[.int .i64 5, .string (strO a1), .string ⟨#[]⟩, .pointer none, .pointer none, .pointer none, .slice none 0 0, .slice none 0 0, .slice none 0 0, .int .i64 0] 60))
  have HC2 := Hd (fun w' (h' : PAt w' b n (r1) o k) => pass_rp w' b n o k (r1) h' [61] (by simp))
  have hlen := fun a r (h : Px.passR [61] r1 = .ok a r) => Px.passR_len (by simp) h
  have hR := HR.out
  obtain ⟨rr, hrr⟩ : ∃ x, x = Px.passR [61] r1 := ⟨_, rfl⟩
  rw [← hrr] at HC2 hlen hR
  have HR := Hd hR
  have HLEN := Hd hlen
  clear hR hlen hrr
  go_wp2_with fail
  refine (HC2.out _ HWA1.out).mono ?_
  intro e w3 hr
  cases rr with
  | err z r =>
   obtain ⟨rfl, H4, H5⟩ := zE hr HKA1
   go_wp2
   rw [HR.out]
   exact ⟨rfl, rfl, H4.out, H5.out⟩
  | ok a3 r3 =>
   obtain ⟨v3, rfl, h3, h4, h5⟩ := hr
   have HL3 := Hd (HLEN.out a3 r3 rfl)
   have HR := zR1 HR
   obtain rfl : v3 = .tuple #[] := h3
   have HW3 := Hd h4
   have HKW3 := zV HKA1 h5
   have HSTEP3 := Hd h5
   have HB0 := zL HB0 h5
   have HB1 := Hd (block_keep HB1.out h5 (by have := HBL1.out; simp; omega))
   clear h4 h5
   have HC3 := Hd (fun w' (h' : PAt w' b n (r3) o k) => sum_any w' b n o k (r3) f h' ho2 (by have := HF.out; have := HLT.out; have := HL1.out; have := HL3.out; omega))
   have hlen := fun a r (h : Px.sum f o r3 = .ok a r) => Px.sum_len h
   have hR := HR.out
   obtain ⟨rr, hrr⟩ : ∃ x, x = Px.sum f o r3 := ⟨_, rfl⟩
   rw [← hrr] at HC3 hlen hR
   have HR := Hd hR
   have HLEN := Hd hlen
   clear hR hlen hrr
   go_wp2_with fail
   refine (HC3.out _ HW3.out).mono ?_
   intro e w4 hr
   cases rr with
   | err z r =>
    obtain ⟨rfl, H4, H5⟩ := zE hr HKW3
    go_wp2
    rw [HR.out]
    exact ⟨rfl, rfl, H4.out, H5.out⟩
   | ok a4 r4 =>
    obtain ⟨v4, rfl, h3, h4, h5⟩ := hr
    have HL4 := Hd (HLEN.out a4 r4 rfl)
    have HR := zR1 HR
    have E4 := Hd h3
    obtain ⟨x4, rfl⟩ := h3.ptr
    clear h3
    have HW4 := Hd h4
    have HKW4 := zV HKW3 h5
    have HSTEP4 := Hd h5
    have HB0 := zL HB0 h5
    have HB1 := Hd (block_keep HB1.out h5 (by have := HBL1.out; simp; omega))
    clear h4 h5
    obtain ⟨X0, hX0⟩ : ∃ x, x = w.heap.size := ⟨_, rfl⟩
    rw [← hX0] at HB0
    obtain ⟨X1, hX1⟩ : ∃ x, x = w1.heap.size := ⟨_, rfl⟩
    rw [← hX1] at HB1
    have hne1 : X0 ≠ X1 := fun h => by have h9 := HLT1.out; rw [← hX0, ← hX1, h] at h9; omega
    have hne2 : X1 ≠ X0 := fun h => hne1 h.symm
    have HX := Hd (And.intro hX0 hX1)
    simp only [← hX0, ← hX1]
    clear hX0 hX1
    have hrow := HB0.out
    obtain ⟨c0_0, f0_0, c0_1, f0_1, c0_2, f0_2, c0_3, f0_3, c0_4, f0_4, c0_5, f0_5, c0_6, f0_6, c0_7, f0_7, c0_8, f0_8, c0_9, f0_9⟩ := row10 hrow
    clear hrow
    have hrow := HB1.out
    obtain ⟨c1_0, f1_0, c1_1, f1_1, c1_2, f1_2, c1_3, f1_3, c1_4, f1_4, c1_5, f1_5, c1_6, f1_6, c1_7, f1_7, c1_8, f1_8, c1_9, f1_9⟩ := row10 hrow
    clear hrow
    go_wp2_with fail
    refine bodyPost_ret (v := .agg #[.int .i64 5, .string (strO a1), .string ⟨#[]⟩, .pointer (some ⟨x4, 0, none⟩), .pointer none, .pointer none, .slice none 0 0, .slice none 0 0, .slice none 0 0, .int .i64 0]) (by simp [results, Tryz.results151, go_sem, c0_0, c0_1, c0_2, c0_3, c0_4, c0_5, c0_6, c0_7, c0_8, c0_9, c1_0, c1_1, c1_2, c1_3, c1_4, c1_5, c1_6, c1_7, c1_8, c1_9]) rfl ?_
    refine setsEnd (S := [X0, X1]) (w := w4) ?_ ?_
    ·
     repeat (refine Keeps.setCell ?_ (by simp) _)
     exact Keeps.refl _ _
    ·
     intro W hk
     have nt0 := nt3 HB0
     have nt1 := nt3 HB1
     have hoff : Off w4 b (fun _ => False) [X0, X1] := fun y hy => .inr ⟨id, (by
      simp at hy
      rcases hy with rfl | rfl
      · exact nt0
      · exact nt1)⟩
     rw [HR.out]
     have hex : SmAt w4 b (fun _ => False) (Px.Sm.mk 5 a1 [] (some a4) none none [] [] [] 0) [.int .i64 5, .string (strO a1), .string ⟨#[]⟩, .pointer (some ⟨x4, 0, none⟩), .pointer none, .pointer none, .slice none 0 0, .slice none 0 0, .slice none 0 0, .int .i64 0] := ⟨_, _, _, _, _, _, rfl, E4.out, rfl, rfl, noArgs, noBlock, noBlock⟩
     exact ⟨_, rfl, ⟨_, rfl, SmAt.keep hk hoff _ _ hex⟩, HW4.out.keepHi hk (by have := HBL.out; have := HBL1.out; have h8 := HX.out.1; have h9 := HX.out.2; simp; omega), HKW4.out.hi hk (by have := HLT1.out; have h8 := HX.out.1; have h9 := HX.out.2; simp; omega)⟩
theorem simple_put (w : World) (b n o k : Nat) (ts : List Tok) (f : Nat) (h : PAt w b n ts o k) (ho2 : o ≤ 1000) (hf : 4 * ts.length + 6 ≤ f) (hr : Px.sees ts [114, 101, 116, 117, 114, 110] = false) (hs : Px.sees ts [97, 115, 115, 101, 114, 116] = false) (hm : Px.sees ts [42] = false) (hx : (Px.txt ts 1 == [91]) = true) :
 Calls Tryz.prog 151 #[pp b] w (RP Sm0At (fun _ => k) w b n o ((Px.put f o ts).bind fun s r => .ok s r)) := by
 obtain ⟨R, hR⟩ : ∃ R, R = ((Px.put f o ts).bind fun s r => .ok s r) := ⟨_, rfl⟩
 rw [← hR]
 have HR := Hd hR
 have HF := Hd hf
 have H0 := Hd h
 have HK0 := Hd (Keeps.refl [b] w)
 have hbl := h.lt
 have HBL := Hd hbl
 have hmf := hmf0
 obtain ⟨H0, HK0, HB0⟩ := start_p h
 have HP0 := Hd (fun w' (h' : PAt w' b n ts o k) => passes_no w' b n o k ts h' [114, 101, 116, 117, 114, 110] hr)
 have HP1 := Hd (fun w' (h' : PAt w' b n ts o k) => passes_no w' b n o k ts h' [97, 115, 115, 101, 114, 116] hs)
 have HP2 := Hd (fun w' (h' : PAt w' b n ts o k) => passes_no w' b n o k ts h' [42] hm)
 have HX1 := Hd (fun w' (h' : PAt w' b n ts o k) => text_any w' b n o k ts h' 1 (by omega))
 have hx1 := strO_toList (Px.txt ts 1)
 obtain ⟨x1, hxx⟩ : ∃ x, x = strO (Px.txt ts 1) := ⟨_, rfl⟩
 rw [← hxx] at HX1 hx1
 have hq0 : (x1.toList == [91]) = true := by rw [hx1]; exact hx
 clear hx1 hxx
 clear h hf hR hbl hr hs hm hx
 go_enter Tryz.func151, Tryz.ntmps151
 go_wp2_with fail
 refine (same (HP0.out _ H0.out)) ?_
 go_wp2_with fail
 refine (same (HP1.out _ H0.out)) ?_
 go_wp2_with fail
 refine (same (HP2.out _ H0.out)) ?_
 go_wp2_with fail
 refine (same (HX1.out _ H0.out)) ?_
 have HC0 := Hd (fun w' (h' : PAt w' b n (ts) o k) => put_any w' b n o k (ts) f h' ho2 (by have := HF.out; omega))
 have hlen := fun a r (h : Px.put f o ts = .ok a r) => Px.put_len h
 have hR := HR.out
 obtain ⟨rr, hrr⟩ : ∃ x, x = Px.put f o ts := ⟨_, rfl⟩
 rw [← hrr] at HC0 hlen hR
 have HR := Hd hR
 have HLEN := Hd hlen
 clear hR hlen hrr
 go_wp2_with fail
 refine (HC0.out _ H0.out).mono ?_
 intro e w1 hr
 cases rr with
 | err z r =>
  obtain ⟨rfl, H4, H5⟩ := zE hr HK0
  go_wp2
  rw [HR.out]
  exact ⟨rfl, rfl, H4.out, H5.out⟩
 | ok a1 r1 =>
  obtain ⟨v1, rfl, h3, h4, h5⟩ := hr
  have HL1 := Hd (HLEN.out a1 r1 rfl)
  have HR := zR1 HR
  obtain ⟨vs, hv, h3⟩ := h3
  have E1 := Hd h3
  obtain ⟨kd, sx, sy, qe, qf, qc, Aa, na, ca, At, nt, ct, Al, nl, cl, at_, rfl⟩ := h3.form
  subst hv
  clear h3
  have HW1 := Hd h4
  have HKW1 := zV HK0 h5
  have HSTEP1 := Hd h5
  have HB0 := zL HB0 h5
  clear h4 h5
  have hrow := HB0.out
  obtain ⟨c0_0, f0_0, c0_1, f0_1, c0_2, f0_2, c0_3, f0_3, c0_4, f0_4, c0_5, f0_5, c0_6, f0_6, c0_7, f0_7, c0_8, f0_8, c0_9, f0_9⟩ := row10 hrow
  clear hrow
  go_wp2_with fail
  refine bodyPost_ret (v := .agg #[.int .i64 kd, .string sx, .string sy, .pointer qe, .pointer qf, .pointer qc, .slice Aa na ca, .slice At nt ct, .slice Al nl cl, .int .i64 at_]) (by simp [results, Tryz.results151, go_sem, c0_0, c0_1, c0_2, c0_3, c0_4, c0_5, c0_6, c0_7, c0_8, c0_9]) rfl ?_
  refine setsEnd (S := [w.heap.size]) (w := w1) ?_ ?_
  ·
   repeat (refine Keeps.setCell ?_ (by simp) _)
   exact Keeps.refl _ _
  ·
   intro W hk
   have nt0 := nt3 HB0
   have hoff : Off w1 b (fun _ => False) [w.heap.size] := fun y hy => .inr ⟨id, (by
    obtain rfl : y = w.heap.size := by simpa using hy
    exact nt0)⟩
   rw [HR.out]
   have hex : SmAt w1 b (fun _ => False) a1 [.int .i64 kd, .string sx, .string sy, .pointer qe, .pointer qf, .pointer qc, .slice Aa na ca, .slice At nt ct, .slice Al nl cl, .int .i64 at_] := E1.out
   exact ⟨_, rfl, ⟨_, rfl, SmAt.keep hk hoff _ _ hex⟩, HW1.out.keepHi hk (by have := HBL.out; simp; omega), HKW1.out.hi hk (by simp)⟩
theorem simple_call (w : World) (b n o k : Nat) (ts : List Tok) (f : Nat) (h : PAt w b n ts o k) (ho2 : o ≤ 1000) (hf : 4 * ts.length + 6 ≤ f) (hr : Px.sees ts [114, 101, 116, 117, 114, 110] = false) (hs : Px.sees ts [97, 115, 115, 101, 114, 116] = false) (hm : Px.sees ts [42] = false) (hx : (Px.txt ts 1 == [91]) = false) (hz : (Px.txt ts 1 == [40]) = true) :
 Calls Tryz.prog 151 #[pp b] w (RP Sm0At (fun _ => k) w b n o ((Px.call f o ts).bind fun s r => .ok s r)) := by
 obtain ⟨R, hR⟩ : ∃ R, R = ((Px.call f o ts).bind fun s r => .ok s r) := ⟨_, rfl⟩
 rw [← hR]
 have HR := Hd hR
 have HF := Hd hf
 have H0 := Hd h
 have HK0 := Hd (Keeps.refl [b] w)
 have hbl := h.lt
 have HBL := Hd hbl
 have hmf := hmf0
 obtain ⟨H0, HK0, HB0⟩ := start_p h
 have HP0 := Hd (fun w' (h' : PAt w' b n ts o k) => passes_no w' b n o k ts h' [114, 101, 116, 117, 114, 110] hr)
 have HP1 := Hd (fun w' (h' : PAt w' b n ts o k) => passes_no w' b n o k ts h' [97, 115, 115, 101, 114, 116] hs)
 have HP2 := Hd (fun w' (h' : PAt w' b n ts o k) => passes_no w' b n o k ts h' [42] hm)
 have HX1 := Hd (fun w' (h' : PAt w' b n ts o k) => text_any w' b n o k ts h' 1 (by omega))
 have hx1 := strO_toList (Px.txt ts 1)
 obtain ⟨x1, hxx⟩ : ∃ x, x = strO (Px.txt ts 1) := ⟨_, rfl⟩
 rw [← hxx] at HX1 hx1
 have hq0 : (x1.toList == [91]) = false := by rw [hx1]; exact hx
 have hq1 : (x1.toList == [40]) = true := by rw [hx1]; exact hz
 clear hx1 hxx
 clear h hf hR hbl hr hs hm hx hz
 go_enter Tryz.func151, Tryz.ntmps151
 go_wp2_with fail
 refine (same (HP0.out _ H0.out)) ?_
 go_wp2_with fail
 refine (same (HP1.out _ H0.out)) ?_
 go_wp2_with fail
 refine (same (HP2.out _ H0.out)) ?_
 go_wp2_with fail
 refine (same (HX1.out _ H0.out)) ?_
 have HC0 := Hd (fun w' (h' : PAt w' b n (ts) o k) => call_any w' b n o k (ts) f h' ho2 (by have := HF.out; omega))
 have hlen := fun a r (h : Px.call f o ts = .ok a r) => Px.call_len h
 have hR := HR.out
 obtain ⟨rr, hrr⟩ : ∃ x, x = Px.call f o ts := ⟨_, rfl⟩
 rw [← hrr] at HC0 hlen hR
 have HR := Hd hR
 have HLEN := Hd hlen
 clear hR hlen hrr
 go_wp2_with fail
 refine (HC0.out _ H0.out).mono ?_
 intro e w1 hr
 cases rr with
 | err z r =>
  obtain ⟨rfl, H4, H5⟩ := zE hr HK0
  go_wp2
  rw [HR.out]
  exact ⟨rfl, rfl, H4.out, H5.out⟩
 | ok a1 r1 =>
  obtain ⟨v1, rfl, h3, h4, h5⟩ := hr
  have HL1 := Hd (HLEN.out a1 r1 rfl)
  have HR := zR1 HR
  obtain ⟨vs, hv, h3⟩ := h3
  have E1 := Hd h3
  obtain ⟨kd, sx, sy, qe, qf, qc, Aa, na, ca, At, nt, ct, Al, nl, cl, at_, rfl⟩ := h3.form
  subst hv
  clear h3
  have HW1 := Hd h4
  have HKW1 := zV HK0 h5
  have HSTEP1 := Hd h5
  have HB0 := zL HB0 h5
  clear h4 h5
  have hrow := HB0.out
  obtain ⟨c0_0, f0_0, c0_1, f0_1, c0_2, f0_2, c0_3, f0_3, c0_4, f0_4, c0_5, f0_5, c0_6, f0_6, c0_7, f0_7, c0_8, f0_8, c0_9, f0_9⟩ := row10 hrow
  clear hrow
  go_wp2_with fail
  refine bodyPost_ret (v := .agg #[.int .i64 kd, .string sx, .string sy, .pointer qe, .pointer qf, .pointer qc, .slice Aa na ca, .slice At nt ct, .slice Al nl cl, .int .i64 at_]) (by simp [results, Tryz.results151, go_sem, c0_0, c0_1, c0_2, c0_3, c0_4, c0_5, c0_6, c0_7, c0_8, c0_9]) rfl ?_
  refine setsEnd (S := [w.heap.size]) (w := w1) ?_ ?_
  ·
   repeat (refine Keeps.setCell ?_ (by simp) _)
   exact Keeps.refl _ _
  ·
   intro W hk
   have nt0 := nt3 HB0
   have hoff : Off w1 b (fun _ => False) [w.heap.size] := fun y hy => .inr ⟨id, (by
    obtain rfl : y = w.heap.size := by simpa using hy
    exact nt0)⟩
   rw [HR.out]
   have hex : SmAt w1 b (fun _ => False) a1 [.int .i64 kd, .string sx, .string sy, .pointer qe, .pointer qf, .pointer qc, .slice Aa na ca, .slice At nt ct, .slice Al nl cl, .int .i64 at_] := E1.out
   exact ⟨_, rfl, ⟨_, rfl, SmAt.keep hk hoff _ _ hex⟩, HW1.out.keepHi hk (by have := HBL.out; simp; omega), HKW1.out.hi hk (by simp)⟩
theorem simple_set (w : World) (b n o k : Nat) (ts : List Tok) (f : Nat) (h : PAt w b n ts o k) (ho2 : o ≤ 1000) (hf : 4 * ts.length + 6 ≤ f) (hr : Px.sees ts [114, 101, 116, 117, 114, 110] = false) (hs : Px.sees ts [97, 115, 115, 101, 114, 116] = false) (hm : Px.sees ts [42] = false) (hx : (Px.txt ts 1 == [91]) = false) (hz : (Px.txt ts 1 == [40]) = false) :
 Calls Tryz.prog 151 #[pp b] w (RP Sm0At (fun _ => k) w b n o ((Px.nameR ts).bind fun x r => Px.want [61] r fun r => (Px.value f o r).bind fun s r => .ok (s.withX x) r)) := by
 obtain ⟨R, hR⟩ : ∃ R, R = ((Px.nameR ts).bind fun x r => Px.want [61] r fun r => (Px.value f o r).bind fun s r => .ok (s.withX x) r) := ⟨_, rfl⟩
 rw [← hR]
 unfold Px.want at hR
 have HR := Hd hR
 have HF := Hd hf
 have H0 := Hd h
 have HK0 := Hd (Keeps.refl [b] w)
 have hbl := h.lt
 have HBL := Hd hbl
 have hmf := hmf0
 obtain ⟨H0, HK0, HB0⟩ := start_p h
 have HP0 := Hd (fun w' (h' : PAt w' b n ts o k) => passes_no w' b n o k ts h' [114, 101, 116, 117, 114, 110] hr)
 have HP1 := Hd (fun w' (h' : PAt w' b n ts o k) => passes_no w' b n o k ts h' [97, 115, 115, 101, 114, 116] hs)
 have HP2 := Hd (fun w' (h' : PAt w' b n ts o k) => passes_no w' b n o k ts h' [42] hm)
 have HX1 := Hd (fun w' (h' : PAt w' b n ts o k) => text_any w' b n o k ts h' 1 (by omega))
 have hx1 := strO_toList (Px.txt ts 1)
 obtain ⟨x1, hxx⟩ : ∃ x, x = strO (Px.txt ts 1) := ⟨_, rfl⟩
 rw [← hxx] at HX1 hx1
 have hq0 : (x1.toList == [91]) = false := by rw [hx1]; exact hx
 have hq1 : (x1.toList == [40]) = false := by rw [hx1]; exact hz
 clear hx1 hxx
 clear h hf hR hbl hr hs hm hx hz
 go_enter Tryz.func151, Tryz.ntmps151
 go_wp2_with fail
 refine (same (HP0.out _ H0.out)) ?_
 go_wp2_with fail
 refine (same (HP1.out _ H0.out)) ?_
 go_wp2_with fail
 refine (same (HP2.out _ H0.out)) ?_
 go_wp2_with fail
 refine (same (HX1.out _ H0.out)) ?_
 have HC0 := Hd (fun w' (h' : PAt w' b n (ts) o k) => name_rp w' b n o k (ts) h')
 have hlen := fun a r (h : Px.nameR ts = .ok a r) => Px.nameR_len h
 have hR := HR.out
 obtain ⟨rr, hrr⟩ : ∃ x, x = Px.nameR ts := ⟨_, rfl⟩
 rw [← hrr] at HC0 hlen hR
 have HR := Hd hR
 have HLEN := Hd hlen
 clear hR hlen hrr
 go_wp2_with fail
 refine (HC0.out _ H0.out).mono ?_
 intro e w1 hr
 cases rr with
 | err z r =>
  obtain ⟨rfl, H4, H5⟩ := zE hr HK0
  go_wp2
  rw [HR.out]
  exact ⟨rfl, rfl, H4.out, H5.out⟩
 | ok a1 r1 =>
  obtain ⟨v1, rfl, h3, h4, h5⟩ := hr
  have HL1 := Hd (HLEN.out a1 r1 rfl)
  have HR := zR1 HR
  obtain rfl : v1 = .string (strO a1) := h3
  have HW1 := Hd h4
  have HKW1 := zV HK0 h5
  have HSTEP1 := Hd h5
  have HB0 := zL HB0 h5
  clear h4 h5
  have HC1 := Hd (fun w' (h' : PAt w' b n (r1) o k) => pass_rp w' b n o k (r1) h' [61] (by simp))
  have hlen := fun a r (h : Px.passR [61] r1 = .ok a r) => Px.passR_len (by simp) h
  have hR := HR.out
  obtain ⟨rr, hrr⟩ : ∃ x, x = Px.passR [61] r1 := ⟨_, rfl⟩
  rw [← hrr] at HC1 hlen hR
  have HR := Hd hR
  have HLEN := Hd hlen
  clear hR hlen hrr
  go_wp2_with fail
  refine (HC1.out _ HW1.out).mono ?_
  intro e w2 hr
  cases rr with
  | err z r =>
   obtain ⟨rfl, H4, H5⟩ := zE hr HKW1
   go_wp2
   rw [HR.out]
   exact ⟨rfl, rfl, H4.out, H5.out⟩
  | ok a2 r2 =>
   obtain ⟨v2, rfl, h3, h4, h5⟩ := hr
   have HL2 := Hd (HLEN.out a2 r2 rfl)
   have HR := zR1 HR
   obtain rfl : v2 = .tuple #[] := h3
   have HW2 := Hd h4
   have HKW2 := zV HKW1 h5
   have HSTEP2 := Hd h5
   have HB0 := zL HB0 h5
   clear h4 h5
   have HC2 := Hd (fun w' (h' : PAt w' b n (r2) o k) => value_any w' b n o k (r2) f h' ho2 (by have := HF.out; have := HL1.out; have := HL2.out; omega))
   have hlen := fun a r (h : Px.value f o r2 = .ok a r) => Px.value_len h
   have hR := HR.out
   obtain ⟨rr, hrr⟩ : ∃ x, x = Px.value f o r2 := ⟨_, rfl⟩
   rw [← hrr] at HC2 hlen hR
   have HR := Hd hR
   have HLEN := Hd hlen
   clear hR hlen hrr
   go_wp2_with fail
   refine (HC2.out _ HW2.out).mono ?_
   intro e w3 hr
   cases rr with
   | err z r =>
    obtain ⟨rfl, H4, H5⟩ := zE hr HKW2
    go_wp2
    rw [HR.out]
    exact ⟨rfl, rfl, H4.out, H5.out⟩
   | ok a3 r3 =>
    obtain ⟨v3, rfl, h3, h4, h5⟩ := hr
    have HL3 := Hd (HLEN.out a3 r3 rfl)
    have HR := zR1 HR
    obtain ⟨vs, hv, h3⟩ := h3
    have E3 := Hd h3
    obtain ⟨kd, sx, sy, qe, qf, qc, Aa, na, ca, At, nt, ct, Al, nl, cl, at_, rfl⟩ := h3.form
    subst hv
    clear h3
    have HW3 := Hd h4
    have HKW3 := zV HKW2 h5
    have HSTEP3 := Hd h5
    have HB0 := zL HB0 h5
    clear h4 h5
    have HBP := HB0
    have HLT1 := Hd (show w.heap.size < w3.heap.size from block_lt HB0.out)
    have HB1 := Hd (show (w3.alloc (.cells #[.int .i64 kd, .string (strO a1), .string sy, .pointer qe, .pointer qf, .pointer qc, .slice Aa na ca, .slice At nt ct, .slice Al nl cl, .int .i64 at_] 60)).heap[w3.heap.size]? = some (.cells #[.int .i64 kd, .string (strO a1), .string sy, .pointer qe, .pointer qf, .pointer qc, .slice Aa na ca, .slice At nt ct, .slice Al nl cl, .int .i64 at_] 60 (0, 0)) from heap_alloc_new _ _)
    have HB0 := Hd (block_keep HB0.out ((Keeps.refl [] _).alloc (.cells #[.int .i64 kd, .string (strO a1), .string sy, .pointer qe, .pointer qf, .pointer qc, .slice Aa na ca, .slice At nt ct, .slice Al nl cl, .int .i64 at_] 60)) (by simp))
    have E3 := Hd (E3.out.alloc (.cells #[.int .i64 kd, .string (strO a1), .string sy, .pointer qe, .pointer qf, .pointer qc, .slice Aa na ca, .slice At nt ct, .slice Al nl cl, .int .i64 at_] 60))
    have HBL1 := Hd HW3.out.lt
    have HSZ1 := Hd HKW3.out.size
    have HWA1 := Hd (HW3.out.keep ((Keeps.refl [] _).alloc (.cells #[.int .i64 kd, .string (strO a1), .string sy, .pointer qe, .pointer qf, .pointer qc, .slice Aa na ca, .slice At nt ct, .slice Al nl cl, .int .i64 at_] 60)))
    have HKA1 := Hd (HKW3.out.alloc (.cells #[.int .i64 kd, .string (strO a1), .string sy, .pointer qe, .pointer qf, .pointer qc, .slice Aa na ca, .slice At nt ct, .slice Al nl cl, .int .i64 at_] 60))
    obtain ⟨X0, hX0⟩ : ∃ x, x = w.heap.size := ⟨_, rfl⟩
    rw [← hX0] at HB0
    obtain ⟨X1, hX1⟩ : ∃ x, x = w3.heap.size := ⟨_, rfl⟩
    rw [← hX1] at HB1
    have hne1 : X0 ≠ X1 := fun h => by have h9 := HLT1.out; rw [← hX0, ← hX1, h] at h9; omega
    have hne2 : X1 ≠ X0 := fun h => hne1 h.symm
    have HX := Hd (And.intro hX0 hX1)
    have hX1r := hX1.symm
    rw [← hX0] at HBP
    have hrow := HBP.out
    obtain ⟨d0_0, g0_0, d0_1, g0_1, d0_2, g0_2, d0_3, g0_3, d0_4, g0_4, d0_5, g0_5, d0_6, g0_6, d0_7, g0_7, d0_8, g0_8, d0_9, g0_9⟩ := row10 hrow
    clear hrow
    simp only [← hX0, ← hX1]
    clear hX0 hX1
    have hrow := HB0.out
    obtain ⟨c0_0, f0_0, c0_1, f0_1, c0_2, f0_2, c0_3, f0_3, c0_4, f0_4, c0_5, f0_5, c0_6, f0_6, c0_7, f0_7, c0_8, f0_8, c0_9, f0_9⟩ := row10 hrow
    clear hrow
    have hrow := HB1.out
    obtain ⟨c1_0, f1_0, c1_1, f1_1, c1_2, f1_2, c1_3, f1_3, c1_4, f1_4, c1_5, f1_5, c1_6, f1_6, c1_7, f1_7, c1_8, f1_8, c1_9, f1_9⟩ := row10 hrow
    clear hrow
    go_wp2_with fail
    refine bodyPost_ret (v := .agg #[.int .i64 kd, .string (strO a1), .string sy, .pointer qe, .pointer qf, .pointer qc, .slice Aa na ca, .slice At nt ct, .slice Al nl cl, .int .i64 at_]) (by simp [results, Tryz.results151, go_sem, d0_0, d0_1, d0_2, d0_3, d0_4, d0_5, d0_6, d0_7, d0_8, d0_9, c0_0, c0_1, c0_2, c0_3, c0_4, c0_5, c0_6, c0_7, c0_8, c0_9, c1_0, c1_1, c1_2, c1_3, c1_4, c1_5, c1_6, c1_7, c1_8, c1_9]) rfl ?_
    refine setsEnd (S := [X0, X1]) (w := (w3.alloc (.cells #[.int .i64 kd, .string (strO a1), .string sy, .pointer qe, .pointer qf, .pointer qc, .slice Aa na ca, .slice At nt ct, .slice Al nl cl, .int .i64 at_] 60))) ?_ ?_
    ·
     repeat (refine Keeps.setCell ?_ (by simp) _)
     exact Keeps.refl _ _
    ·
     intro W hk
     have nt0 := nt3 HB0
     have nt1 := nt3 HB1
     have hoff : Off (w3.alloc (.cells #[.int .i64 kd, .string (strO a1), .string sy, .pointer qe, .pointer qf, .pointer qc, .slice Aa na ca, .slice At nt ct, .slice Al nl cl, .int .i64 at_] 60)) b (fun _ => False) [X0, X1] := fun y hy => .inr ⟨id, (by
      simp at hy
      rcases hy with rfl | rfl
      · exact nt0
      · exact nt1)⟩
     rw [HR.out]
     have hex : SmAt (w3.alloc (.cells #[.int .i64 kd, .string (strO a1), .string sy, .pointer qe, .pointer qf, .pointer qc, .slice Aa na ca, .slice At nt ct, .slice Al nl cl, .int .i64 at_] 60)) b (fun _ => False) (a3.withX a1) [.int .i64 kd, .string (strO a1), .string sy, .pointer qe, .pointer qf, .pointer qc, .slice Aa na ca, .slice At nt ct, .slice Al nl cl, .int .i64 at_] := E3.out.withX
     exact ⟨_, rfl, ⟨_, rfl, SmAt.keep hk hoff _ _ hex⟩, HWA1.out.keepHi hk (by have := HBL.out; have := HBL1.out; have h8 := HX.out.1; have h9 := HX.out.2; simp; omega), HKA1.out.hi hk (by have := HLT1.out; have h8 := HX.out.1; have h9 := HX.out.2; simp; omega)⟩
end Go.Proofs.YtbikifibfaaggaaGreatDoor
