import Derived.Test.YtbikifibfaaggaaGreatDoorVMH
namespace Go.Proofs.YtbikifibfaaggaaGreatDoor
section
set_option maxHeartbeats 2000000
set_option maxRecDepth 100000
open Go.RowKit Go.Shelf
open Lx (Tok Tx)
open Px (Ex Cn Sm)
def Sm0At (w : World) (b : Nat) (s : Sm) (v : Value) : Prop := ∃ vs, v = .agg vs.toArray ∧ SmAt w b (fun _ => False) s vs
theorem nil_row {w : World} {base : Nat} {T : TypeId} {sz : Nat} : w.ownsRow base T sz (.slice none 0 0) 0 [] := World.ownsRow_nil _ _ _ _
theorem noArgs {w : World} {b : Nat} : ArgsAt w b [] (.slice none 0 0) := ⟨[], nil_row, rfl⟩
theorem noBlock {w : World} {b : Nat} {B : Nat → Prop} : ∃ cs, w.ownsRow (b + 1) 60 10 (.slice none 0 0) ([] : List Sm).length cs ∧ (∀ g, (Value.slice none 0 0).ownBlock = some g → B g) ∧ SmC w b B [] cs := ⟨[], nil_row, fun g h => by simp [Value.ownBlock] at h, rfl⟩
theorem setsEnd {S : List Nat} {w w' : World} {Q : World → Prop} (hk : Keeps S w w') (h : ∀ W, Keeps S w W → Q W) : Q w' := h w' hk
theorem call_any (w : World) (b n o k : Nat) (ts : List Tok) (f : Nat) (h : PAt w b n ts o k) (ho2 : o ≤ 1000) (hf : 4 * ts.length + 6 ≤ f) :
 Calls Tryz.prog 181 #[pp b] w (RP Sm0At (fun _ => k) w b n o (Px.call f o ts)) := by
 obtain ⟨R, hR⟩ : ∃ R, R = (Px.call f o ts) := ⟨_, rfl⟩
 rw [← hR]
 unfold Px.call at hR
 have HR := Hd hR
 have HF := Hd hf
 have H0 := Hd h
 have HK0 := Hd (Keeps.refl [b] w)
 have hbl := h.lt
 have HBL := Hd hbl
 have hmf := hmf0
 obtain ⟨H0, HK0, HB0⟩ := start_p h
 clear h hf hR hbl
 go_enter Tryz.func181, Tryz.ntmps181
 have HC0 := Hd (fun w' (h' : PAt w' b n (ts) o k) => name_rp w' b n o k (ts) h')
 have hlen := fun a r (h : Px.nameR ts = .ok a r) => Px.nameR_len h
 have hR := HR.out
 obtain ⟨rr, hrr⟩ : ∃ x, x = Px.nameR ts := ⟨_, rfl⟩
 rw [← hrr] at HC0 hlen hR
 have HR := Hd hR
 have HLEN := Hd hlen
 clear hR hlen hrr
 go_wp2_with fail
 refine (HC0.out _ H0.out).mono ?_
 intro e w1 hr
 cases rr with
 | err z r =>
  obtain ⟨rfl, H4, H5⟩ := zE hr HK0
  go_wp2
  rw [HR.out]
  exact ⟨rfl, rfl, H4.out, H5.out⟩
 | ok a1 r1 =>
  obtain ⟨v1, rfl, h3, h4, h5⟩ := hr
  have HL1 := Hd (HLEN.out a1 r1 rfl)
  have HR := zR1 HR
  obtain rfl : v1 = .string (strO a1) := h3
  have HW1 := Hd h4
  have HKW1 := zV HK0 h5
  have HSTEP1 := Hd h5
  have HB0 := zL HB0 h5
  clear h4 h5
  have HC1 := Hd (fun w' (h' : PAt w' b n (r1) o k) => args_any w' b n o k (r1) f h' ho2 (by have := HF.out; have := HL1.out; omega))
  have hlen := fun a r (h : Px.args f o r1 = .ok a r) => Px.args_len h
  have hR := HR.out
  obtain ⟨rr, hrr⟩ : ∃ x, x = Px.args f o r1 := ⟨_, rfl⟩
  rw [← hrr] at HC1 hlen hR
  have HR := Hd hR
  have HLEN := Hd hlen
  clear hR hlen hrr
  go_wp2_with fail
  refine (HC1.out _ HW1.out).mono ?_
  intro e w2 hr
  cases rr with
  | err z r =>
   obtain ⟨rfl, H4, H5⟩ := zE hr HKW1
   go_wp2
   rw [HR.out]
   exact ⟨rfl, rfl, H4.out, H5.out⟩
  | ok a2 r2 =>
   obtain ⟨v2, rfl, h3, h4, h5⟩ := hr
   have HL2 := Hd (HLEN.out a2 r2 rfl)
   have HR := zR1 HR
   have E2 := Hd h3
   obtain ⟨A2, c2, rfl⟩ := h3.form
   clear h3
   have HW2 := Hd h4
   have HKW2 := zV HKW1 h5
   have HSTEP2 := Hd h5
   have HB0 := zL HB0 h5
   clear h4 h5
   have hrow := HB0.out
   obtain ⟨c0_0, f0_0, c0_1, f0_1, c0_2, f0_2, c0_3, f0_3, c0_4, f0_4, c0_5, f0_5, c0_6, f0_6, c0_7, f0_7, c0_8, f0_8, c0_9, f0_9⟩ := row10 hrow
   clear hrow
   go_wp2_with fail
   refine bodyPost_ret (v := .agg #[.int .i64 8, .string ⟨#[]⟩, .string (strO a1), .pointer none, .pointer none, .pointer none, .slice A2 a2.length c2, .slice none 0 0, .slice none 0 0, .int .i64 0]) (by simp [results, Tryz.results181, go_sem, c0_0, c0_1, c0_2, c0_3, c0_4, c0_5, c0_6, c0_7, c0_8, c0_9]) rfl ?_
   refine setsEnd (S := [w.heap.size]) (w := w2) ?_ ?_
   ·
    repeat (refine Keeps.setCell ?_ (by simp) _)
    exact Keeps.refl _ _
   ·
    intro W hk
    have nt0 := nt3 HB0
    have hoff : Off w2 b (fun _ => False) [w.heap.size] := fun y hy => .inr ⟨id, (by
     obtain rfl : y = w.heap.size := by simpa using hy
     exact nt0)⟩
    rw [HR.out]
    have hex : SmAt w2 b (fun _ => False) (.mk 8 [] a1 none none none a2 [] [] 0) [.int .i64 8, .string ⟨#[]⟩, .string (strO a1), .pointer none, .pointer none, .pointer none, .slice A2 a2.length c2, .slice none 0 0, .slice none 0 0, .int .i64 0] := ⟨_, _, _, _, _, _, rfl, rfl, rfl, rfl, E2.out, noBlock, noBlock⟩
    exact ⟨_, rfl, ⟨_, rfl, SmAt.keep hk hoff _ _ hex⟩, HW2.out.keepHi hk (by have := HBL.out; simp; omega), HKW2.out.hi hk (by simp)⟩
theorem put_any (w : World) (b n o k : Nat) (ts : List Tok) (f : Nat) (h : PAt w b n ts o k) (ho2 : o ≤ 1000) (hf : 4 * ts.length + 6 ≤ f) :
 Calls Tryz.prog 180 #[pp b] w (RP Sm0At (fun _ => k) w b n o (Px.put f o ts)) := by
 obtain ⟨R, hR⟩ : ∃ R, R = (Px.put f o ts) := ⟨_, rfl⟩
 rw [← hR]
 unfold Px.put Px.want at hR
 have HR := Hd hR
 have HF := Hd hf
 have H0 := Hd h
 have HK0 := Hd (Keeps.refl [b] w)
 have hbl := h.lt
 have HBL := Hd hbl
 have hmf := hmf0
 obtain ⟨H0, HK0, HB0⟩ := start_p h
 clear h hf hR hbl
 go_enter Tryz.func180, Tryz.ntmps180
 have HC0 := Hd (fun w' (h' : PAt w' b n (ts) o k) => name_rp w' b n o k (ts) h')
 have hlen := fun a r (h : Px.nameR ts = .ok a r) => Px.nameR_len h
 have hR := HR.out
 obtain ⟨rr, hrr⟩ : ∃ x, x = Px.nameR ts := ⟨_, rfl⟩
 rw [← hrr] at HC0 hlen hR
 have HR := Hd hR
 have HLEN := Hd hlen
 clear hR hlen hrr
 go_wp2_with fail
 refine (HC0.out _ H0.out).mono ?_
 intro e w1 hr
 cases rr with
 | err z r =>
  obtain ⟨rfl, H4, H5⟩ := zE hr HK0
  go_wp2
  rw [HR.out]
  exact ⟨rfl, rfl, H4.out, H5.out⟩
 | ok a1 r1 =>
  obtain ⟨v1, rfl, h3, h4, h5⟩ := hr
  have HL1 := Hd (HLEN.out a1 r1 rfl)
  have HR := zR1 HR
  obtain rfl : v1 = .string (strO a1) := h3
  have HW1 := Hd h4
  have HKW1 := zV HK0 h5
  have HSTEP1 := Hd h5
  have HB0 := zL HB0 h5
  clear h4 h5
  have HC1 := Hd (fun w' (h' : PAt w' b n (r1) o k) => index_any w' b n o k (r1) f h' ho2 (by have := HF.out; have := HL1.out; omega))
  have hlen := fun a r (h : Px.index f o r1 = .ok a r) => Px.index_len h
  have hR := HR.out
  obtain ⟨rr, hrr⟩ : ∃ x, x = Px.index f o r1 := ⟨_, rfl⟩
  rw [← hrr] at HC1 hlen hR
  have HR := Hd hR
  have HLEN := Hd hlen
  clear hR hlen hrr
  go_wp2_with fail
  refine (HC1.out _ HW1.out).mono ?_
  intro e w2 hr
  cases rr with
  | err z r =>
   obtain ⟨rfl, H4, H5⟩ := zE hr HKW1
   go_wp2
   rw [HR.out]
   exact ⟨rfl, rfl, H4.out, H5.out⟩
  | ok a2 r2 =>
   obtain ⟨v2, rfl, h3, h4, h5⟩ := hr
   have HL2 := Hd (HLEN.out a2 r2 rfl)
   have HR := zR1 HR
   have E2 := Hd h3
   obtain ⟨x2, rfl⟩ := h3.ptr
   clear h3
   have HW2 := Hd h4
   have HKW2 := zV HKW1 h5
   have HSTEP2 := Hd h5
   have HB0 := zL HB0 h5
   clear h4 h5
   have HLT1 := Hd (show w.heap.size < w2.heap.size from block_lt HB0.out)
   have HB1 := Hd (show (w2.alloc (.cells #[.int .i64 7, .string ⟨#[]⟩, .string (strO a1), .pointer (some ⟨x2, 0, none⟩), .pointer none, .pointer none, .slice none 0 0, .slice none 0 0, .slice none 0 0, .int .i64 0] 60)).heap[w2.heap.size]? = some (.cells #[.int .i64 7, .string ⟨#[]⟩, .string (strO a1), .pointer (some ⟨x2, 0, none⟩), .pointer none, .pointer none, .slice none 0 0, .slice none 0 0, .slice none 0 0, .int .i64 0] 60 (0, 0)) from heap_alloc_new _ _)
   have HB0 := Hd (block_keep HB0.out ((Keeps.refl [] _).alloc (.cells #[.int .i64 7, .string ⟨#[]⟩, .string (strO a1), .pointer (some ⟨x2, 0, none⟩), .pointer none, .pointer none, .slice none 0 0, .slice none 0 0, .slice none 0 0, .int .i64 0] 60)) (by simp))
   have E2 := Hd (E2.out.alloc (.cells #[.int .i64 7, .string ⟨#[]⟩, .string (strO a1), .pointer (some ⟨x2, 0, none⟩), .pointer none, .pointer none, .slice none 0 0, .slice none 0 0, .slice none 0 0, .int .i64 0] 60))
   have HBL1 := Hd HW2.out.lt
   have HSZ1 := Hd HKW2.out.size
   have HWA1 := Hd (HW2.out.keep ((Keeps.refl [] _).alloc (.cells #[.int .i64 7, .string ⟨#[]⟩, .string (strO a1), .pointer (some ⟨x2, 0, none⟩), .pointer none, .pointer none, .slice none 0 0, .slice none 0 0, .slice none 0 0, .int .i64 0] 60)))
   have HKA1 := Hd (HKW2.out.alloc (.cells #[.int .i64 7, .string ⟨#[]⟩, .string (strO a1), .pointer (some ⟨x2, 0, none⟩), .pointer none, .pointer none, .slice none 0 0, .slice none 0 0, .slice none 0 0, .int .i64 0] 60))
   have HC3 := Hd (fun w' (h' : PAt w' b n (r2) o k) => pass_rp w' b n o k (r2) h' [61] (by simp))
   have hlen := fun a r (h : Px.passR [61] r2 = .ok a r) => Px.passR_len (by simp) h
   have hR := HR.out
   obtain ⟨rr, hrr⟩ : ∃ x, x = Px.passR [61] r2 := ⟨_, rfl⟩
   rw [← hrr] at HC3 hlen hR
   have HR := Hd hR
   have HLEN := Hd hlen
   clear hR hlen hrr
   go_wp2_with fail
   refine (HC3.out _ HWA1.out).mono ?_
   intro e w4 hr
   cases rr with
   | err z r =>
    obtain ⟨rfl, H4, H5⟩ := zE hr HKA1
    go_wp2
    rw [HR.out]
    exact ⟨rfl, rfl, H4.out, H5.out⟩
   | ok a4 r4 =>
    obtain ⟨v4, rfl, h3, h4, h5⟩ := hr
    have HL4 := Hd (HLEN.out a4 r4 rfl)
    have HR := zR1 HR
    have E2 := Hd (E2.out.keepb h5)
    obtain rfl : v4 = .tuple #[] := h3
    have HW4 := Hd h4
    have HKW4 := zV HKA1 h5
    have HSTEP4 := Hd h5
    have HB0 := zL HB0 h5
    have HB1 := Hd (block_keep HB1.out h5 (by have := HBL1.out; simp; omega))
    clear h4 h5
    have HC4 := Hd (fun w' (h' : PAt w' b n (r4) o k) => sum_any w' b n o k (r4) f h' ho2 (by have := HF.out; have := HL1.out; have := HL2.out; have := HL4.out; omega))
    have hlen := fun a r (h : Px.sum f o r4 = .ok a r) => Px.sum_len h
    have hR := HR.out
    obtain ⟨rr, hrr⟩ : ∃ x, x = Px.sum f o r4 := ⟨_, rfl⟩
    rw [← hrr] at HC4 hlen hR
    have HR := Hd hR
    have HLEN := Hd hlen
    clear hR hlen hrr
    go_wp2_with fail
    refine (HC4.out _ HW4.out).mono ?_
    intro e w5 hr
    cases rr with
    | err z r =>
     obtain ⟨rfl, H4, H5⟩ := zE hr HKW4
     go_wp2
     rw [HR.out]
     exact ⟨rfl, rfl, H4.out, H5.out⟩
    | ok a5 r5 =>
     obtain ⟨v5, rfl, h3, h4, h5⟩ := hr
     have HL5 := Hd (HLEN.out a5 r5 rfl)
     have HR := zR1 HR
     have E2 := Hd (E2.out.keepb h5)
     have E5 := Hd h3
     obtain ⟨x5, rfl⟩ := h3.ptr
     clear h3
     have HW5 := Hd h4
     have HKW5 := zV HKW4 h5
     have HSTEP5 := Hd h5
     have HB0 := zL HB0 h5
     have HB1 := Hd (block_keep HB1.out h5 (by have := HBL1.out; simp; omega))
     clear h4 h5
     obtain ⟨X0, hX0⟩ : ∃ x, x = w.heap.size := ⟨_, rfl⟩
     rw [← hX0] at HB0
     obtain ⟨X1, hX1⟩ : ∃ x, x = w2.heap.size := ⟨_, rfl⟩
     rw [← hX1] at HB1
     have hne1 : X0 ≠ X1 := fun h => by have h9 := HLT1.out; rw [← hX0, ← hX1, h] at h9; omega
     have hne2 : X1 ≠ X0 := fun h => hne1 h.symm
     have HX := Hd (And.intro hX0 hX1)
     simp only [← hX0, ← hX1]
     clear hX0 hX1
     have hrow := HB0.out
     obtain ⟨c0_0, f0_0, c0_1, f0_1, c0_2, f0_2, c0_3, f0_3, c0_4, f0_4, c0_5, f0_5, c0_6, f0_6, c0_7, f0_7, c0_8, f0_8, c0_9, f0_9⟩ := row10 hrow
     clear hrow
     have hrow := HB1.out
     obtain ⟨c1_0, f1_0, c1_1, f1_1, c1_2, f1_2, c1_3, f1_3, c1_4, f1_4, c1_5, f1_5, c1_6, f1_6, c1_7, f1_7, c1_8, f1_8, c1_9, f1_9⟩ := row10 hrow
     clear hrow
     go_wp2_with fail
     refine bodyPost_ret (v := .agg #[.int .i64 7, .string ⟨#[]⟩, .string (strO a1), .pointer (some ⟨x2, 0, none⟩), .pointer (some ⟨x5, 0, none⟩), .pointer none, .slice none 0 0, .slice none 0 0, .slice none 0 0, .int .i64 0]) (by simp [results, Tryz.results180, go_sem, c0_0, c0_1, c0_2, c0_3, c0_4, c0_5, c0_6, c0_7, c0_8, c0_9, c1_0, c1_1, c1_2, c1_3, c1_4, c1_5, c1_6, c1_7, c1_8, c1_9]) rfl ?_
     refine setsEnd (S := [X0, X1]) (w := w5) ?_ ?_
     ·
      repeat (refine Keeps.setCell ?_ (by simp) _)
      exact Keeps.refl _ _
     ·
      intro W hk
      have nt0 := nt3 HB0
      have nt1 := nt3 HB1
      have hoff : Off w5 b (fun _ => False) [X0, X1] := fun y hy => .inr ⟨id, (by
       simp at hy
       rcases hy with rfl | rfl
       · exact nt0
       · exact nt1)⟩
      rw [HR.out]
      have hex : SmAt w5 b (fun _ => False) (.mk 7 [] a1 (some a2) (some a5) none [] [] [] 0) [.int .i64 7, .string ⟨#[]⟩, .string (strO a1), .pointer (some ⟨x2, 0, none⟩), .pointer (some ⟨x5, 0, none⟩), .pointer none, .slice none 0 0, .slice none 0 0, .slice none 0 0, .int .i64 0] := ⟨_, _, _, _, _, _, rfl, E2.out, E5.out, rfl, noArgs, noBlock, noBlock⟩
      exact ⟨_, rfl, ⟨_, rfl, SmAt.keep hk hoff _ _ hex⟩, HW5.out.keepHi hk (by have := HBL.out; have := HBL1.out; have h8 := HX.out.1; have h9 := HX.out.2; simp; omega), HKW5.out.hi hk (by have := HLT1.out; have h8 := HX.out.1; have h9 := HX.out.2; simp; omega)⟩
end
section
set_option maxHeartbeats 2000000
set_option maxRecDepth 100000
open Go.RowKit Go.Shelf
open Lx (Tok Tx)
open Px (Ex Cn Sm)
theorem value_null (w : World) (b n o k : Nat) (ts : List Tok) (f : Nat) (h : PAt w b n ts o k) (ho2 : o ≤ 1000) (hf : 4 * ts.length + 6 ≤ f) (hy : Px.sees ts [110, 117, 108, 108] = true) :
 Calls Tryz.prog 182 #[pp b] w (RP Sm0At (fun _ => k) w b n o ((.ok (Px.Sm.mk 3 [] [] none none none [] [] [] 0) ts.tail : Px.R Sm))) := by
 obtain ⟨R, hR⟩ : ∃ R, R = ((.ok (Px.Sm.mk 3 [] [] none none none [] [] [] 0) ts.tail : Px.R Sm)) := ⟨_, rfl⟩
 rw [← hR]
 have HR := Hd hR
 have HF := Hd hf
 have H0 := Hd h
 have HK0 := Hd (Keeps.refl [b] w)
 have hbl := h.lt
 have HBL := Hd hbl
 have hmf := hmf0
 obtain ⟨H0, HK0, HB0⟩ := start_p h
 have HP0 := Hd (fun w' (h' : PAt w' b n ts o k) => passes_yes w' b n o k ts h' [110, 117, 108, 108] (by simp) hy)
 have HLT := Hd (show ts.tail.length < ts.length by have := Px.sees_len (by simp) hy; simp; omega)
 clear h hf hR hbl hy
 go_enter Tryz.func182, Tryz.ntmps182
 go_wp2_with fail
 refine (HP0.out _ H0.out).mono ?_
 rintro e w0 ⟨rfl, h1, h2⟩
 have H0 := Hd h1
 have HK0 := zV HK0 h2
 have HB0 := zL HB0 h2
 clear h1 h2
 have hrow := HB0.out
 obtain ⟨c0_0, f0_0, c0_1, f0_1, c0_2, f0_2, c0_3, f0_3, c0_4, f0_4, c0_5, f0_5, c0_6, f0_6, c0_7, f0_7, c0_8, f0_8, c0_9, f0_9⟩ := row10 hrow
 clear hrow
 go_wp2_with fail
 refine bodyPost_ret (v := .agg #[.int .i64 3, .string ⟨#[]⟩, .string ⟨#[]⟩, .pointer none, .pointer none, .pointer none, .slice none 0 0, .slice none 0 0, .slice none 0 0, .int .i64 0]) (by simp [results, Tryz.results182, go_sem, c0_0, c0_1, c0_2, c0_3, c0_4, c0_5, c0_6, c0_7, c0_8, c0_9]) rfl ?_
 refine setsEnd (S := [w.heap.size]) (w := w0) ?_ ?_
 ·
  repeat (refine Keeps.setCell ?_ (by simp) _)
  exact Keeps.refl _ _
 ·
  intro W hk
  have nt0 := nt3 HB0
  have hoff : Off w0 b (fun _ => False) [w.heap.size] := fun y hy => .inr ⟨id, (by
   obtain rfl : y = w.heap.size := by simpa using hy
   exact nt0)⟩
  rw [HR.out]
  have hex : SmAt w0 b (fun _ => False) (Px.Sm.mk 3 [] [] none none none [] [] [] 0) [.int .i64 3, .string ⟨#[]⟩, .string ⟨#[]⟩, .pointer none, .pointer none, .pointer none, .slice none 0 0, .slice none 0 0, .slice none 0 0, .int .i64 0] := ⟨_, _, _, _, _, _, rfl, rfl, rfl, rfl, noArgs, noBlock, noBlock⟩
  exact ⟨_, rfl, ⟨_, rfl, SmAt.keep hk hoff _ _ hex⟩, H0.out.keepHi hk (by have := HBL.out; simp; omega), HK0.out.hi hk (by simp)⟩
theorem value_addr (w : World) (b n o k : Nat) (ts : List Tok) (f : Nat) (h : PAt w b n ts o k) (ho2 : o ≤ 1000) (hf : 4 * ts.length + 6 ≤ f) (hn : Px.sees ts [110, 117, 108, 108] = false) (hy : Px.sees ts [38] = true) :
 Calls Tryz.prog 182 #[pp b] w (RP Sm0At (fun _ => k) w b n o ((Px.nameR ts.tail).bind fun y r => .ok (Px.Sm.mk 1 [] y none none none [] [] [] 0) r)) := by
 obtain ⟨R, hR⟩ : ∃ R, R = ((Px.nameR ts.tail).bind fun y r => .ok (Px.Sm.mk 1 [] y none none none [] [] [] 0) r) := ⟨_, rfl⟩
 rw [← hR]
 have HR := Hd hR
 have HF := Hd hf
 have H0 := Hd h
 have HK0 := Hd (Keeps.refl [b] w)
 have hbl := h.lt
 have HBL := Hd hbl
 have hmf := hmf0
 obtain ⟨H0, HK0, HB0⟩ := start_p h
 have HP0 := Hd (fun w' (h' : PAt w' b n ts o k) => passes_no w' b n o k ts h' [110, 117, 108, 108] hn)
 have HP1 := Hd (fun w' (h' : PAt w' b n ts o k) => passes_yes w' b n o k ts h' [38] (by simp) hy)
 have HLT := Hd (show ts.tail.length < ts.length by have := Px.sees_len (by simp) hy; simp; omega)
 clear h hf hR hbl hn hy
 go_enter Tryz.func182, Tryz.ntmps182
 go_wp2_with fail
 refine (same (HP0.out _ H0.out)) ?_
 go_wp2_with fail
 refine (HP1.out _ H0.out).mono ?_
 rintro e w0 ⟨rfl, h1, h2⟩
 have H0 := Hd h1
 have HK0 := zV HK0 h2
 have HB0 := zL HB0 h2
 clear h1 h2
 have HC0 := Hd (fun w' (h' : PAt w' b n (ts.tail) o k) => name_rp w' b n o k (ts.tail) h')
 have hlen := fun a r (h : Px.nameR (ts.tail) = .ok a r) => Px.nameR_len h
 have hR := HR.out
 obtain ⟨rr, hrr⟩ : ∃ x, x = Px.nameR (ts.tail) := ⟨_, rfl⟩
 rw [← hrr] at HC0 hlen hR
 have HR := Hd hR
 have HLEN := Hd hlen
 clear hR hlen hrr
 go_wp2_with fail
 refine (HC0.out _ H0.out).mono ?_
 intro e w1 hr
 cases rr with
 | err z r =>
  obtain ⟨rfl, H4, H5⟩ := zE hr HK0
  go_wp2
  rw [HR.out]
  exact ⟨rfl, rfl, H4.out, H5.out⟩
 | ok a1 r1 =>
  obtain ⟨v1, rfl, h3, h4, h5⟩ := hr
  have HL1 := Hd (HLEN.out a1 r1 rfl)
  have HR := zR1 HR
  obtain rfl : v1 = .string (strO a1) := h3
  have HW1 := Hd h4
  have HKW1 := zV HK0 h5
  have HSTEP1 := Hd h5
  have HB0 := zL HB0 h5
  clear h4 h5
  have hrow := HB0.out
  obtain ⟨c0_0, f0_0, c0_1, f0_1, c0_2, f0_2, c0_3, f0_3, c0_4, f0_4, c0_5, f0_5, c0_6, f0_6, c0_7, f0_7, c0_8, f0_8, c0_9, f0_9⟩ := row10 hrow
  clear hrow
  go_wp2_with fail
  refine bodyPost_ret (v := .agg #[.int .i64 1, .string ⟨#[]⟩, .string (strO a1), .pointer none, .pointer none, .pointer none, .slice none 0 0, .slice none 0 0, .slice none 0 0, .int .i64 0]) (by simp [results, Tryz.results182, go_sem, c0_0, c0_1, c0_2, c0_3, c0_4, c0_5, c0_6, c0_7, c0_8, c0_9]) rfl ?_
  refine setsEnd (S := [w.heap.size]) (w := w1) ?_ ?_
  ·
   repeat (refine Keeps.setCell ?_ (by simp) _)
   exact Keeps.refl _ _
  ·
   intro W hk
   have nt0 := nt3 HB0
   have hoff : Off w1 b (fun _ => False) [w.heap.size] := fun y hy => .inr ⟨id, (by
    obtain rfl : y = w.heap.size := by simpa using hy
    exact nt0)⟩
   rw [HR.out]
   have hex : SmAt w1 b (fun _ => False) (Px.Sm.mk 1 [] a1 none none none [] [] [] 0) [.int .i64 1, .string ⟨#[]⟩, .string (strO a1), .pointer none, .pointer none, .pointer none, .slice none 0 0, .slice none 0 0, .slice none 0 0, .int .i64 0] := ⟨_, _, _, _, _, _, rfl, rfl, rfl, rfl, noArgs, noBlock, noBlock⟩
   exact ⟨_, rfl, ⟨_, rfl, SmAt.keep hk hoff _ _ hex⟩, HW1.out.keepHi hk (by have := HBL.out; simp; omega), HKW1.out.hi hk (by simp)⟩
theorem value_load (w : World) (b n o k : Nat) (ts : List Tok) (f : Nat) (h : PAt w b n ts o k) (ho2 : o ≤ 1000) (hf : 4 * ts.length + 6 ≤ f) (hn : Px.sees ts [110, 117, 108, 108] = false) (ha : Px.sees ts [38] = false) (hy : Px.sees ts [42] = true) :
 Calls Tryz.prog 182 #[pp b] w (RP Sm0At (fun _ => k) w b n o ((Px.nameR ts.tail).bind fun y r => .ok (Px.Sm.mk 4 [] y none none none [] [] [] 0) r)) := by
 obtain ⟨R, hR⟩ : ∃ R, R = ((Px.nameR ts.tail).bind fun y r => .ok (Px.Sm.mk 4 [] y none none none [] [] [] 0) r) := ⟨_, rfl⟩
 rw [← hR]
 have HR := Hd hR
 have HF := Hd hf
 have H0 := Hd h
 have HK0 := Hd (Keeps.refl [b] w)
 have hbl := h.lt
 have HBL := Hd hbl
 have hmf := hmf0
 obtain ⟨H0, HK0, HB0⟩ := start_p h
 have HP0 := Hd (fun w' (h' : PAt w' b n ts o k) => passes_no w' b n o k ts h' [110, 117, 108, 108] hn)
 have HP1 := Hd (fun w' (h' : PAt w' b n ts o k) => passes_no w' b n o k ts h' [38] ha)
 have HP2 := Hd (fun w' (h' : PAt w' b n ts o k) => passes_yes w' b n o k ts h' [42] (by simp) hy)
 have HLT := Hd (show ts.tail.length < ts.length by have := Px.sees_len (by simp) hy; simp; omega)
 clear h hf hR hbl hn ha hy
 go_enter Tryz.func182, Tryz.ntmps182
 go_wp2_with fail
 refine (same (HP0.out _ H0.out)) ?_
 go_wp2_with fail
 refine (same (HP1.out _ H0.out)) ?_
 go_wp2_with fail
 refine (HP2.out _ H0.out).mono ?_
 rintro e w0 ⟨rfl, h1, h2⟩
 have H0 := Hd h1
 have HK0 := zV HK0 h2
 have HB0 := zL HB0 h2
 clear h1 h2
 have HC0 := Hd (fun w' (h' : PAt w' b n (ts.tail) o k) => name_rp w' b n o k (ts.tail) h')
 have hlen := fun a r (h : Px.nameR (ts.tail) = .ok a r) => Px.nameR_len h
 have hR := HR.out
 obtain ⟨rr, hrr⟩ : ∃ x, x = Px.nameR (ts.tail) := ⟨_, rfl⟩
 rw [← hrr] at HC0 hlen hR
 have HR := Hd hR
 have HLEN := Hd hlen
 clear hR hlen hrr
 go_wp2_with fail
 refine (HC0.out _ H0.out).mono ?_
 intro e w1 hr
 cases rr with
 | err z r =>
  obtain ⟨rfl, H4, H5⟩ := zE hr HK0
  go_wp2
  rw [HR.out]
  exact ⟨rfl, rfl, H4.out, H5.out⟩
 | ok a1 r1 =>
  obtain ⟨v1, rfl, h3, h4, h5⟩ := hr
  have HL1 := Hd (HLEN.out a1 r1 rfl)
  have HR := zR1 HR
  obtain rfl : v1 = .string (strO a1) := h3
  have HW1 := Hd h4
  have HKW1 := zV HK0 h5
  have HSTEP1 := Hd h5
  have HB0 := zL HB0 h5
  clear h4 h5
  have hrow := HB0.out
  obtain ⟨c0_0, f0_0, c0_1, f0_1, c0_2, f0_2, c0_3, f0_3, c0_4, f0_4, c0_5, f0_5, c0_6, f0_6, c0_7, f0_7, c0_8, f0_8, c0_9, f0_9⟩ := row10 hrow
  clear hrow
  go_wp2_with fail
  refine bodyPost_ret (v := .agg #[.int .i64 4, .string ⟨#[]⟩, .string (strO a1), .pointer none, .pointer none, .pointer none, .slice none 0 0, .slice none 0 0, .slice none 0 0, .int .i64 0]) (by simp [results, Tryz.results182, go_sem, c0_0, c0_1, c0_2, c0_3, c0_4, c0_5, c0_6, c0_7, c0_8, c0_9]) rfl ?_
  refine setsEnd (S := [w.heap.size]) (w := w1) ?_ ?_
  ·
   repeat (refine Keeps.setCell ?_ (by simp) _)
   exact Keeps.refl _ _
  ·
   intro W hk
   have nt0 := nt3 HB0
   have hoff : Off w1 b (fun _ => False) [w.heap.size] := fun y hy => .inr ⟨id, (by
    obtain rfl : y = w.heap.size := by simpa using hy
    exact nt0)⟩
   rw [HR.out]
   have hex : SmAt w1 b (fun _ => False) (Px.Sm.mk 4 [] a1 none none none [] [] [] 0) [.int .i64 4, .string ⟨#[]⟩, .string (strO a1), .pointer none, .pointer none, .pointer none, .slice none 0 0, .slice none 0 0, .slice none 0 0, .int .i64 0] := ⟨_, _, _, _, _, _, rfl, rfl, rfl, rfl, noArgs, noBlock, noBlock⟩
   exact ⟨_, rfl, ⟨_, rfl, SmAt.keep hk hoff _ _ hex⟩, HW1.out.keepHi hk (by have := HBL.out; simp; omega), HKW1.out.hi hk (by simp)⟩
theorem value_index (w : World) (b n o k : Nat) (ts : List Tok) (f : Nat) (h : PAt w b n ts o k) (ho2 : o ≤ 1000) (hf : 4 * ts.length + 6 ≤ f) (hn : Px.sees ts [110, 117, 108, 108] = false) (ha : Px.sees ts [38] = false) (hm : Px.sees ts [42] = false) (hi : Px.isName ts = true) (hx : (Px.txt ts 1 == [91]) = true) :
 Calls Tryz.prog 182 #[pp b] w (RP Sm0At (fun _ => k) w b n o ((Px.nameR ts).bind fun y r => (Px.index f o r).bind fun e r => .ok (Px.Sm.mk 6 [] y (some e) none none [] [] [] 0) r)) := by
 obtain ⟨R, hR⟩ : ∃ R, R = ((Px.nameR ts).bind fun y r => (Px.index f o r).bind fun e r => .ok (Px.Sm.mk 6 [] y (some e) none none [] [] [] 0) r) := ⟨_, rfl⟩
 rw [← hR]
 have HR := Hd hR
 have HF := Hd hf
 have H0 := Hd h
 have HK0 := Hd (Keeps.refl [b] w)
 have hbl := h.lt
 have HBL := Hd hbl
 have hmf := hmf0
 obtain ⟨H0, HK0, HB0⟩ := start_p h
 have HP0 := Hd (fun w' (h' : PAt w' b n ts o k) => passes_no w' b n o k ts h' [110, 117, 108, 108] hn)
 have HP1 := Hd (fun w' (h' : PAt w' b n ts o k) => passes_no w' b n o k ts h' [38] ha)
 have HP2 := Hd (fun w' (h' : PAt w' b n ts o k) => passes_no w' b n o k ts h' [42] hm)
 have HP3 := Hd (fun w' (h' : PAt w' b n ts o k) => seesName_any w' b n o k ts h')
 rw [hi] at HP3
 have HX1 := Hd (fun w' (h' : PAt w' b n ts o k) => text_any w' b n o k ts h' 1 (by omega))
 have hx1 := strO_toList (Px.txt ts 1)
 obtain ⟨x1, hxx⟩ : ∃ x, x = strO (Px.txt ts 1) := ⟨_, rfl⟩
 rw [← hxx] at HX1 hx1
 have hq0 : (x1.toList == [91]) = true := by rw [hx1]; exact hx
 clear hx1 hxx
 clear h hf hR hbl hn ha hm hi hx
 go_enter Tryz.func182, Tryz.ntmps182
 go_wp2_with fail
 refine (same (HP0.out _ H0.out)) ?_
 go_wp2_with fail
 refine (same (HP1.out _ H0.out)) ?_
 go_wp2_with fail
 refine (same (HP2.out _ H0.out)) ?_
 go_wp2_with fail
 refine (same (HP3.out _ H0.out)) ?_
 go_wp2_with fail
 refine (same (HX1.out _ H0.out)) ?_
 have HC0 := Hd (fun w' (h' : PAt w' b n (ts) o k) => name_rp w' b n o k (ts) h')
 have hlen := fun a r (h : Px.nameR ts = .ok a r) => Px.nameR_len h
 have hR := HR.out
 obtain ⟨rr, hrr⟩ : ∃ x, x = Px.nameR ts := ⟨_, rfl⟩
 rw [← hrr] at HC0 hlen hR
 have HR := Hd hR
 have HLEN := Hd hlen
 clear hR hlen hrr
 go_wp2_with fail
 refine (HC0.out _ H0.out).mono ?_
 intro e w1 hr
 cases rr with
 | err z r =>
  obtain ⟨rfl, H4, H5⟩ := zE hr HK0
  go_wp2
  rw [HR.out]
  exact ⟨rfl, rfl, H4.out, H5.out⟩
 | ok a1 r1 =>
  obtain ⟨v1, rfl, h3, h4, h5⟩ := hr
  have HL1 := Hd (HLEN.out a1 r1 rfl)
  have HR := zR1 HR
  obtain rfl : v1 = .string (strO a1) := h3
  have HW1 := Hd h4
  have HKW1 := zV HK0 h5
  have HSTEP1 := Hd h5
  have HB0 := zL HB0 h5
  clear h4 h5
  have HC1 := Hd (fun w' (h' : PAt w' b n (r1) o k) => index_any w' b n o k (r1) f h' ho2 (by have := HF.out; have := HL1.out; omega))
  have hlen := fun a r (h : Px.index f o r1 = .ok a r) => Px.index_len h
  have hR := HR.out
  obtain ⟨rr, hrr⟩ : ∃ x, x = Px.index f o r1 := ⟨_, rfl⟩
  rw [← hrr] at HC1 hlen hR
  have HR := Hd hR
  have HLEN := Hd hlen
  clear hR hlen hrr
  go_wp2_with fail
  refine (HC1.out _ HW1.out).mono ?_
  intro e w2 hr
  cases rr with
  | err z r =>
   obtain ⟨rfl, H4, H5⟩ := zE hr HKW1
   go_wp2
   rw [HR.out]
   exact ⟨rfl, rfl, H4.out, H5.out⟩
  | ok a2 r2 =>
   obtain ⟨v2, rfl, h3, h4, h5⟩ := hr
   have HL2 := Hd (HLEN.out a2 r2 rfl)
   have HR := zR1 HR
   have E2 := Hd h3
   obtain ⟨x2, rfl⟩ := h3.ptr
   clear h3
   have HW2 := Hd h4
   have HKW2 := zV HKW1 h5
   have HSTEP2 := Hd h5
   have HB0 := zL HB0 h5
   clear h4 h5
   have hrow := HB0.out
   obtain ⟨c0_0, f0_0, c0_1, f0_1, c0_2, f0_2, c0_3, f0_3, c0_4, f0_4, c0_5, f0_5, c0_6, f0_6, c0_7, f0_7, c0_8, f0_8, c0_9, f0_9⟩ := row10 hrow
   clear hrow
   go_wp2_with fail
   refine bodyPost_ret (v := .agg #[.int .i64 6, .string ⟨#[]⟩, .string (strO a1), .pointer (some ⟨x2, 0, none⟩), .pointer none, .pointer none, .slice none 0 0, .slice none 0 0, .slice none 0 0, .int .i64 0]) (by simp [results, Tryz.results182, go_sem, c0_0, c0_1, c0_2, c0_3, c0_4, c0_5, c0_6, c0_7, c0_8, c0_9]) rfl ?_
   refine setsEnd (S := [w.heap.size]) (w := w2) ?_ ?_
   ·
    repeat (refine Keeps.setCell ?_ (by simp) _)
    exact Keeps.refl _ _
   ·
    intro W hk
    have nt0 := nt3 HB0
    have hoff : Off w2 b (fun _ => False) [w.heap.size] := fun y hy => .inr ⟨id, (by
     obtain rfl : y = w.heap.size := by simpa using hy
     exact nt0)⟩
    rw [HR.out]
    have hex : SmAt w2 b (fun _ => False) (Px.Sm.mk 6 [] a1 (some a2) none none [] [] [] 0) [.int .i64 6, .string ⟨#[]⟩, .string (strO a1), .pointer (some ⟨x2, 0, none⟩), .pointer none, .pointer none, .slice none 0 0, .slice none 0 0, .slice none 0 0, .int .i64 0] := ⟨_, _, _, _, _, _, rfl, E2.out, rfl, rfl, noArgs, noBlock, noBlock⟩
    exact ⟨_, rfl, ⟨_, rfl, SmAt.keep hk hoff _ _ hex⟩, HW2.out.keepHi hk (by have := HBL.out; simp; omega), HKW2.out.hi hk (by simp)⟩
theorem value_call (w : World) (b n o k : Nat) (ts : List Tok) (f : Nat) (h : PAt w b n ts o k) (ho2 : o ≤ 1000) (hf : 4 * ts.length + 6 ≤ f) (hn : Px.sees ts [110, 117, 108, 108] = false) (ha : Px.sees ts [38] = false) (hm : Px.sees ts [42] = false) (hi : Px.isName ts = true) (hx : (Px.txt ts 1 == [91]) = false) (hz : (Px.txt ts 1 == [40]) = true) :
 Calls Tryz.prog 182 #[pp b] w (RP Sm0At (fun _ => k) w b n o ((Px.call f o ts).bind fun s r => .ok s r)) := by
 obtain ⟨R, hR⟩ : ∃ R, R = ((Px.call f o ts).bind fun s r => .ok s r) := ⟨_, rfl⟩
 rw [← hR]
 have HR := Hd hR
 have HF := Hd hf
 have H0 := Hd h
 have HK0 := Hd (Keeps.refl [b] w)
 have hbl := h.lt
 have HBL := Hd hbl
 have hmf := hmf0
 obtain ⟨H0, HK0, HB0⟩ := start_p h
 have HP0 := Hd (fun w' (h' : PAt w' b n ts o k) => passes_no w' b n o k ts h' [110, 117, 108, 108] hn)
 have HP1 := Hd (fun w' (h' : PAt w' b n ts o k) => passes_no w' b n o k ts h' [38] ha)
 have HP2 := Hd (fun w' (h' : PAt w' b n ts o k) => passes_no w' b n o k ts h' [42] hm)
 have HP3 := Hd (fun w' (h' : PAt w' b n ts o k) => seesName_any w' b n o k ts h')
 rw [hi] at HP3
 have HX1 := Hd (fun w' (h' : PAt w' b n ts o k) => text_any w' b n o k ts h' 1 (by omega))
 have hx1 := strO_toList (Px.txt ts 1)
 obtain ⟨x1, hxx⟩ : ∃ x, x = strO (Px.txt ts 1) := ⟨_, rfl⟩
 rw [← hxx] at HX1 hx1
 have hq0 : (x1.toList == [91]) = false := by rw [hx1]; exact hx
 have hq1 : (x1.toList == [40]) = true := by rw [hx1]; exact hz
 clear hx1 hxx
 have HP5 := Hd (fun w' (h' : PAt w' b n ts o k) => seesName_any w' b n o k ts h')
 rw [hi] at HP5
 clear h hf hR hbl hn ha hm hi hx hz
 go_enter Tryz.func182, Tryz.ntmps182
 go_wp2_with fail
 refine (same (HP0.out _ H0.out)) ?_
 go_wp2_with fail
 refine (same (HP1.out _ H0.out)) ?_
 go_wp2_with fail
 refine (same (HP2.out _ H0.out)) ?_
 go_wp2_with fail
 refine (same (HP3.out _ H0.out)) ?_
 go_wp2_with fail
 refine (same (HX1.out _ H0.out)) ?_
 go_wp2_with fail
 refine (same (HP5.out _ H0.out)) ?_
 go_wp2_with fail
 refine (same (HX1.out _ H0.out)) ?_
 have HC0 := Hd (fun w' (h' : PAt w' b n (ts) o k) => call_any w' b n o k (ts) f h' ho2 (by have := HF.out; omega))
 have hlen := fun a r (h : Px.call f o ts = .ok a r) => Px.call_len h
 have hR := HR.out
 obtain ⟨rr, hrr⟩ : ∃ x, x = Px.call f o ts := ⟨_, rfl⟩
 rw [← hrr] at HC0 hlen hR
 have HR := Hd hR
 have HLEN := Hd hlen
 clear hR hlen hrr
 go_wp2_with fail
 refine (HC0.out _ H0.out).mono ?_
 intro e w1 hr
 cases rr with
 | err z r =>
  obtain ⟨rfl, H4, H5⟩ := zE hr HK0
  go_wp2
  rw [HR.out]
  exact ⟨rfl, rfl, H4.out, H5.out⟩
 | ok a1 r1 =>
  obtain ⟨v1, rfl, h3, h4, h5⟩ := hr
  have HL1 := Hd (HLEN.out a1 r1 rfl)
  have HR := zR1 HR
  obtain ⟨vs, hv, h3⟩ := h3
  have E1 := Hd h3
  obtain ⟨kd, sx, sy, qe, qf, qc, Aa, na, ca, At, nt, ct, Al, nl, cl, at_, rfl⟩ := h3.form
  subst hv
  clear h3
  have HW1 := Hd h4
  have HKW1 := zV HK0 h5
  have HSTEP1 := Hd h5
  have HB0 := zL HB0 h5
  clear h4 h5
  have hrow := HB0.out
  obtain ⟨c0_0, f0_0, c0_1, f0_1, c0_2, f0_2, c0_3, f0_3, c0_4, f0_4, c0_5, f0_5, c0_6, f0_6, c0_7, f0_7, c0_8, f0_8, c0_9, f0_9⟩ := row10 hrow
  clear hrow
  go_wp2_with fail
  refine bodyPost_ret (v := .agg #[.int .i64 kd, .string sx, .string sy, .pointer qe, .pointer qf, .pointer qc, .slice Aa na ca, .slice At nt ct, .slice Al nl cl, .int .i64 at_]) (by simp [results, Tryz.results182, go_sem, c0_0, c0_1, c0_2, c0_3, c0_4, c0_5, c0_6, c0_7, c0_8, c0_9]) rfl ?_
  refine setsEnd (S := [w.heap.size]) (w := w1) ?_ ?_
  ·
   repeat (refine Keeps.setCell ?_ (by simp) _)
   exact Keeps.refl _ _
  ·
   intro W hk
   have nt0 := nt3 HB0
   have hoff : Off w1 b (fun _ => False) [w.heap.size] := fun y hy => .inr ⟨id, (by
    obtain rfl : y = w.heap.size := by simpa using hy
    exact nt0)⟩
   rw [HR.out]
   have hex : SmAt w1 b (fun _ => False) a1 [.int .i64 kd, .string sx, .string sy, .pointer qe, .pointer qf, .pointer qc, .slice Aa na ca, .slice At nt ct, .slice Al nl cl, .int .i64 at_] := E1.out
   exact ⟨_, rfl, ⟨_, rfl, SmAt.keep hk hoff _ _ hex⟩, HW1.out.keepHi hk (by have := HBL.out; simp; omega), HKW1.out.hi hk (by simp)⟩
theorem value_sum1 (w : World) (b n o k : Nat) (ts : List Tok) (f : Nat) (h : PAt w b n ts o k) (ho2 : o ≤ 1000) (hf : 4 * ts.length + 6 ≤ f) (hn : Px.sees ts [110, 117, 108, 108] = false) (ha : Px.sees ts [38] = false) (hm : Px.sees ts [42] = false) (hi : Px.isName ts = true) (hx : (Px.txt ts 1 == [91]) = false) (hz : (Px.txt ts 1 == [40]) = false) :
 Calls Tryz.prog 182 #[pp b] w (RP Sm0At (fun _ => k) w b n o ((Px.sum f o ts).bind fun e r => .ok (Px.Sm.mk 0 [] [] (some e) none none [] [] [] 0) r)) := by
 obtain ⟨R, hR⟩ : ∃ R, R = ((Px.sum f o ts).bind fun e r => .ok (Px.Sm.mk 0 [] [] (some e) none none [] [] [] 0) r) := ⟨_, rfl⟩
 rw [← hR]
 have HR := Hd hR
 have HF := Hd hf
 have H0 := Hd h
 have HK0 := Hd (Keeps.refl [b] w)
 have hbl := h.lt
 have HBL := Hd hbl
 have hmf := hmf0
 obtain ⟨H0, HK0, HB0⟩ := start_p h
 have HP0 := Hd (fun w' (h' : PAt w' b n ts o k) => passes_no w' b n o k ts h' [110, 117, 108, 108] hn)
 have HP1 := Hd (fun w' (h' : PAt w' b n ts o k) => passes_no w' b n o k ts h' [38] ha)
 have HP2 := Hd (fun w' (h' : PAt w' b n ts o k) => passes_no w' b n o k ts h' [42] hm)
 have HP3 := Hd (fun w' (h' : PAt w' b n ts o k) => seesName_any w' b n o k ts h')
 rw [hi] at HP3
 have HX1 := Hd (fun w' (h' : PAt w' b n ts o k) => text_any w' b n o k ts h' 1 (by omega))
 have hx1 := strO_toList (Px.txt ts 1)
 obtain ⟨x1, hxx⟩ : ∃ x, x = strO (Px.txt ts 1) := ⟨_, rfl⟩
 rw [← hxx] at HX1 hx1
 have hq0 : (x1.toList == [91]) = false := by rw [hx1]; exact hx
 have hq1 : (x1.toList == [40]) = false := by rw [hx1]; exact hz
 clear hx1 hxx
 have HP5 := Hd (fun w' (h' : PAt w' b n ts o k) => seesName_any w' b n o k ts h')
 rw [hi] at HP5
 clear h hf hR hbl hn ha hm hi hx hz
 go_enter Tryz.func182, Tryz.ntmps182
 go_wp2_with fail
 refine (same (HP0.out _ H0.out)) ?_
 go_wp2_with fail
 refine (same (HP1.out _ H0.out)) ?_
 go_wp2_with fail
 refine (same (HP2.out _ H0.out)) ?_
 go_wp2_with fail
 refine (same (HP3.out _ H0.out)) ?_
 go_wp2_with fail
 refine (same (HX1.out _ H0.out)) ?_
 go_wp2_with fail
 refine (same (HP5.out _ H0.out)) ?_
 go_wp2_with fail
 refine (same (HX1.out _ H0.out)) ?_
 have HC0 := Hd (fun w' (h' : PAt w' b n (ts) o k) => sum_any w' b n o k (ts) f h' ho2 (by have := HF.out; omega))
 have hlen := fun a r (h : Px.sum f o ts = .ok a r) => Px.sum_len h
 have hR := HR.out
 obtain ⟨rr, hrr⟩ : ∃ x, x = Px.sum f o ts := ⟨_, rfl⟩
 rw [← hrr] at HC0 hlen hR
 have HR := Hd hR
 have HLEN := Hd hlen
 clear hR hlen hrr
 go_wp2_with fail
 refine (HC0.out _ H0.out).mono ?_
 intro e w1 hr
 cases rr with
 | err z r =>
  obtain ⟨rfl, H4, H5⟩ := zE hr HK0
  go_wp2
  rw [HR.out]
  exact ⟨rfl, rfl, H4.out, H5.out⟩
 | ok a1 r1 =>
  obtain ⟨v1, rfl, h3, h4, h5⟩ := hr
  have HL1 := Hd (HLEN.out a1 r1 rfl)
  have HR := zR1 HR
  have E1 := Hd h3
  obtain ⟨x1, rfl⟩ := h3.ptr
  clear h3
  have HW1 := Hd h4
  have HKW1 := zV HK0 h5
  have HSTEP1 := Hd h5
  have HB0 := zL HB0 h5
  clear h4 h5
  have hrow := HB0.out
  obtain ⟨c0_0, f0_0, c0_1, f0_1, c0_2, f0_2, c0_3, f0_3, c0_4, f0_4, c0_5, f0_5, c0_6, f0_6, c0_7, f0_7, c0_8, f0_8, c0_9, f0_9⟩ := row10 hrow
  clear hrow
  go_wp2_with fail
  refine bodyPost_ret (v := .agg #[.int .i64 0, .string ⟨#[]⟩, .string ⟨#[]⟩, .pointer (some ⟨x1, 0, none⟩), .pointer none, .pointer none, .slice none 0 0, .slice none 0 0, .slice none 0 0, .int .i64 0]) (by simp [results, Tryz.results182, go_sem, c0_0, c0_1, c0_2, c0_3, c0_4, c0_5, c0_6, c0_7, c0_8, c0_9]) rfl ?_
  refine setsEnd (S := [w.heap.size]) (w := w1) ?_ ?_
  ·
   repeat (refine Keeps.setCell ?_ (by simp) _)
   exact Keeps.refl _ _
  ·
   intro W hk
   have nt0 := nt3 HB0
   have hoff : Off w1 b (fun _ => False) [w.heap.size] := fun y hy => .inr ⟨id, (by
    obtain rfl : y = w.heap.size := by simpa using hy
    exact nt0)⟩
   rw [HR.out]
   have hex : SmAt w1 b (fun _ => False) (Px.Sm.mk 0 [] [] (some a1) none none [] [] [] 0) [.int .i64 0, .string ⟨#[]⟩, .string ⟨#[]⟩, .pointer (some ⟨x1, 0, none⟩), .pointer none, .pointer none, .slice none 0 0, .slice none 0 0, .slice none 0 0, .int .i64 0] := ⟨_, _, _, _, _, _, rfl, E1.out, rfl, rfl, noArgs, noBlock, noBlock⟩
   exact ⟨_, rfl, ⟨_, rfl, SmAt.keep hk hoff _ _ hex⟩, HW1.out.keepHi hk (by have := HBL.out; simp; omega), HKW1.out.hi hk (by simp)⟩
theorem value_sum2 (w : World) (b n o k : Nat) (ts : List Tok) (f : Nat) (h : PAt w b n ts o k) (ho2 : o ≤ 1000) (hf : 4 * ts.length + 6 ≤ f) (hn : Px.sees ts [110, 117, 108, 108] = false) (ha : Px.sees ts [38] = false) (hm : Px.sees ts [42] = false) (hi : Px.isName ts = false) :
 Calls Tryz.prog 182 #[pp b] w (RP Sm0At (fun _ => k) w b n o ((Px.sum f o ts).bind fun e r => .ok (Px.Sm.mk 0 [] [] (some e) none none [] [] [] 0) r)) := by
 obtain ⟨R, hR⟩ : ∃ R, R = ((Px.sum f o ts).bind fun e r => .ok (Px.Sm.mk 0 [] [] (some e) none none [] [] [] 0) r) := ⟨_, rfl⟩
 rw [← hR]
 have HR := Hd hR
 have HF := Hd hf
 have H0 := Hd h
 have HK0 := Hd (Keeps.refl [b] w)
 have hbl := h.lt
 have HBL := Hd hbl
 have hmf := hmf0
 obtain ⟨H0, HK0, HB0⟩ := start_p h
 have HP0 := Hd (fun w' (h' : PAt w' b n ts o k) => passes_no w' b n o k ts h' [110, 117, 108, 108] hn)
 have HP1 := Hd (fun w' (h' : PAt w' b n ts o k) => passes_no w' b n o k ts h' [38] ha)
 have HP2 := Hd (fun w' (h' : PAt w' b n ts o k) => passes_no w' b n o k ts h' [42] hm)
 have HP3 := Hd (fun w' (h' : PAt w' b n ts o k) => seesName_any w' b n o k ts h')
 rw [hi] at HP3
 have HP4 := Hd (fun w' (h' : PAt w' b n ts o k) => seesName_any w' b n o k ts h')
 rw [hi] at HP4
 clear h hf hR hbl hn ha hm hi
 go_enter Tryz.func182, Tryz.ntmps182
 go_wp2_with fail
 refine (same (HP0.out _ H0.out)) ?_
 go_wp2_with fail
 refine (same (HP1.out _ H0.out)) ?_
 go_wp2_with fail
 refine (same (HP2.out _ H0.out)) ?_
 go_wp2_with fail
 refine (same (HP3.out _ H0.out)) ?_
 go_wp2_with fail
 refine (same (HP4.out _ H0.out)) ?_
 have HC0 := Hd (fun w' (h' : PAt w' b n (ts) o k) => sum_any w' b n o k (ts) f h' ho2 (by have := HF.out; omega))
 have hlen := fun a r (h : Px.sum f o ts = .ok a r) => Px.sum_len h
 have hR := HR.out
 obtain ⟨rr, hrr⟩ : ∃ x, x = Px.sum f o ts := ⟨_, rfl⟩
 rw [← hrr] at HC0 hlen hR
 have HR := Hd hR
 have HLEN := Hd hlen
 clear hR hlen hrr
 go_wp2_with fail
 refine (HC0.out _ H0.out).mono ?_
 intro e w1 hr
 cases rr with
 | err z r =>
  obtain ⟨rfl, H4, H5⟩ := zE hr HK0
  go_wp2
  rw [HR.out]
  exact ⟨rfl, rfl, H4.out, H5.out⟩
 | ok a1 r1 =>
  obtain ⟨v1, rfl, h3, h4, h5⟩ := hr
  have HL1 := Hd (HLEN.out a1 r1 rfl)
  have HR := zR1 HR
  have E1 := Hd h3
  obtain ⟨x1, rfl⟩ := h3.ptr
  clear h3
  have HW1 := Hd h4
  have HKW1 := zV HK0 h5
  have HSTEP1 := Hd h5
  have HB0 := zL HB0 h5
  clear h4 h5
  have hrow := HB0.out
  obtain ⟨c0_0, f0_0, c0_1, f0_1, c0_2, f0_2, c0_3, f0_3, c0_4, f0_4, c0_5, f0_5, c0_6, f0_6, c0_7, f0_7, c0_8, f0_8, c0_9, f0_9⟩ := row10 hrow
  clear hrow
  go_wp2_with fail
  refine bodyPost_ret (v := .agg #[.int .i64 0, .string ⟨#[]⟩, .string ⟨#[]⟩, .pointer (some ⟨x1, 0, none⟩), .pointer none, .pointer none, .slice none 0 0, .slice none 0 0, .slice none 0 0, .int .i64 0]) (by simp [results, Tryz.results182, go_sem, c0_0, c0_1, c0_2, c0_3, c0_4, c0_5, c0_6, c0_7, c0_8, c0_9]) rfl ?_
  refine setsEnd (S := [w.heap.size]) (w := w1) ?_ ?_
  ·
   repeat (refine Keeps.setCell ?_ (by simp) _)
   exact Keeps.refl _ _
  ·
   intro W hk
   have nt0 := nt3 HB0
   have hoff : Off w1 b (fun _ => False) [w.heap.size] := fun y hy => .inr ⟨id, (by
    obtain rfl : y = w.heap.size := by simpa using hy
    exact nt0)⟩
   rw [HR.out]
   have hex : SmAt w1 b (fun _ => False) (Px.Sm.mk 0 [] [] (some a1) none none [] [] [] 0) [.int .i64 0, .string ⟨#[]⟩, .string ⟨#[]⟩, .pointer (some ⟨x1, 0, none⟩), .pointer none, .pointer none, .slice none 0 0, .slice none 0 0, .slice none 0 0, .int .i64 0] := ⟨_, _, _, _, _, _, rfl, E1.out, rfl, rfl, noArgs, noBlock, noBlock⟩
   exact ⟨_, rfl, ⟨_, rfl, SmAt.keep hk hoff _ _ hex⟩, HW1.out.keepHi hk (by have := HBL.out; simp; omega), HKW1.out.hi hk (by simp)⟩
theorem bind_id {α : Type} (x : Px.R α) : (x.bind fun s r => .ok s r) = x := by cases x <;> rfl
theorem value_any (w : World) (b n o k : Nat) (ts : List Tok) (f : Nat) (h : PAt w b n ts o k) (ho2 : o ≤ 1000) (hf : 4 * ts.length + 6 ≤ f) :
 Calls Tryz.prog 182 #[pp b] w (RP Sm0At (fun _ => k) w b n o (Px.value f o ts)) := by
 have hb : ∀ {x : Bool}, ¬ x = true → x = false := fun {x} h => by simpa using h
 unfold Px.value
 by_cases h1 : Px.sees ts [110, 117, 108, 108] = true
 · rw [if_pos h1]; exact value_null w b n o k ts f h ho2 hf h1
 rw [if_neg h1]
 by_cases h2 : Px.sees ts [38] = true
 · rw [if_pos h2]; exact value_addr w b n o k ts f h ho2 hf (hb h1) h2
 rw [if_neg h2]
 by_cases h3 : Px.sees ts [42] = true
 · rw [if_pos h3]; exact value_load w b n o k ts f h ho2 hf (hb h1) (hb h2) h3
 rw [if_neg h3]
 by_cases hi : Px.isName ts = true
 ·
  by_cases hx : (Px.txt ts 1 == [91]) = true
  · rw [if_pos (by rw [hi, hx]; rfl)]; exact value_index w b n o k ts f h ho2 hf (hb h1) (hb h2) (hb h3) hi hx
  rw [if_neg (by rw [hi, hb hx]; simp)]
  by_cases hz : (Px.txt ts 1 == [40]) = true
  · rw [if_pos (by rw [hi, hz]; rfl), ← bind_id (Px.call f o ts)]; exact value_call w b n o k ts f h ho2 hf (hb h1) (hb h2) (hb h3) hi (hb hx) hz
  rw [if_neg (by rw [hi, hb hz]; simp)]
  exact value_sum1 w b n o k ts f h ho2 hf (hb h1) (hb h2) (hb h3) hi (hb hx) (hb hz)
 ·
  rw [if_neg (by rw [hb hi]; simp), if_neg (by rw [hb hi]; simp)]
  exact value_sum2 w b n o k ts f h ho2 hf (hb h1) (hb h2) (hb h3) (hb hi)
end
end Go.Proofs.YtbikifibfaaggaaGreatDoor
