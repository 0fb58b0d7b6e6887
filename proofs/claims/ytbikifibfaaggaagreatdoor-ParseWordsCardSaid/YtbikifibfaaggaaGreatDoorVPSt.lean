import Derived.Test.YtbikifibfaaggaaGreatDoorVMJ
import Derived.Deep.Cut
namespace Go.Proofs.YtbikifibfaaggaaGreatDoor
set_option maxHeartbeats 2000000
set_option maxRecDepth 100000
open Go.RowKit Go.Shelf
open Lx (Tok Tx)
open Px (Ex Cn Sm)
theorem stage {w w' : World} {S : List Nat} {x : Nat} {cs : Array Value} {T : TypeId} {Q : World → Prop} (hk : Keeps S w w') (hr : w'.heap[x]? = some (.cells cs T (0, 0))) (h : ∀ W, Keeps S w W → W.heap[x]? = some (.cells cs T (0, 0)) → Q W) : Q w' := h w' hk hr
theorem row_set10 {w : World} {x : Nat} {T : TypeId} {v0 v1 v2 v3 v4 v5 v6 v7 v8 v9 u0 u1 u2 u3 u4 u5 u6 u7 u8 u9 : Value} (h : w.heap[x]? = some (.cells #[v0, v1, v2, v3, v4, v5, v6, v7, v8, v9] T (0, 0))) :
 ((((((((((w.setCell ⟨x, 0, none⟩ u0).setCell ⟨x, 1, none⟩ u1).setCell ⟨x, 2, none⟩ u2).setCell ⟨x, 3, none⟩ u3).setCell ⟨x, 4, none⟩ u4).setCell ⟨x, 5, none⟩ u5).setCell ⟨x, 6, none⟩ u6).setCell ⟨x, 7, none⟩ u7).setCell ⟨x, 8, none⟩ u8).setCell ⟨x, 9, none⟩ u9).heap[x]? = some (.cells #[u0, u1, u2, u3, u4, u5, u6, u7, u8, u9] T (0, 0)) := by
 have h0 : (w.setCell ⟨x, 0, none⟩ u0).heap[x]? = some (.cells #[u0, v1, v2, v3, v4, v5, v6, v7, v8, v9] T (0, 0)) := by rw [row_set h]; rfl
 have h1 : ((w.setCell ⟨x, 0, none⟩ u0).setCell ⟨x, 1, none⟩ u1).heap[x]? = some (.cells #[u0, u1, v2, v3, v4, v5, v6, v7, v8, v9] T (0, 0)) := by rw [row_set h0]; rfl
 have h2 : (((w.setCell ⟨x, 0, none⟩ u0).setCell ⟨x, 1, none⟩ u1).setCell ⟨x, 2, none⟩ u2).heap[x]? = some (.cells #[u0, u1, u2, v3, v4, v5, v6, v7, v8, v9] T (0, 0)) := by rw [row_set h1]; rfl
 have h3 : ((((w.setCell ⟨x, 0, none⟩ u0).setCell ⟨x, 1, none⟩ u1).setCell ⟨x, 2, none⟩ u2).setCell ⟨x, 3, none⟩ u3).heap[x]? = some (.cells #[u0, u1, u2, u3, v4, v5, v6, v7, v8, v9] T (0, 0)) := by rw [row_set h2]; rfl
 have h4 : (((((w.setCell ⟨x, 0, none⟩ u0).setCell ⟨x, 1, none⟩ u1).setCell ⟨x, 2, none⟩ u2).setCell ⟨x, 3, none⟩ u3).setCell ⟨x, 4, none⟩ u4).heap[x]? = some (.cells #[u0, u1, u2, u3, u4, v5, v6, v7, v8, v9] T (0, 0)) := by rw [row_set h3]; rfl
 have h5 : ((((((w.setCell ⟨x, 0, none⟩ u0).setCell ⟨x, 1, none⟩ u1).setCell ⟨x, 2, none⟩ u2).setCell ⟨x, 3, none⟩ u3).setCell ⟨x, 4, none⟩ u4).setCell ⟨x, 5, none⟩ u5).heap[x]? = some (.cells #[u0, u1, u2, u3, u4, u5, v6, v7, v8, v9] T (0, 0)) := by rw [row_set h4]; rfl
 have h6 : (((((((w.setCell ⟨x, 0, none⟩ u0).setCell ⟨x, 1, none⟩ u1).setCell ⟨x, 2, none⟩ u2).setCell ⟨x, 3, none⟩ u3).setCell ⟨x, 4, none⟩ u4).setCell ⟨x, 5, none⟩ u5).setCell ⟨x, 6, none⟩ u6).heap[x]? = some (.cells #[u0, u1, u2, u3, u4, u5, u6, v7, v8, v9] T (0, 0)) := by rw [row_set h5]; rfl
 have h7 : ((((((((w.setCell ⟨x, 0, none⟩ u0).setCell ⟨x, 1, none⟩ u1).setCell ⟨x, 2, none⟩ u2).setCell ⟨x, 3, none⟩ u3).setCell ⟨x, 4, none⟩ u4).setCell ⟨x, 5, none⟩ u5).setCell ⟨x, 6, none⟩ u6).setCell ⟨x, 7, none⟩ u7).heap[x]? = some (.cells #[u0, u1, u2, u3, u4, u5, u6, u7, v8, v9] T (0, 0)) := by rw [row_set h6]; rfl
 have h8 : (((((((((w.setCell ⟨x, 0, none⟩ u0).setCell ⟨x, 1, none⟩ u1).setCell ⟨x, 2, none⟩ u2).setCell ⟨x, 3, none⟩ u3).setCell ⟨x, 4, none⟩ u4).setCell ⟨x, 5, none⟩ u5).setCell ⟨x, 6, none⟩ u6).setCell ⟨x, 7, none⟩ u7).setCell ⟨x, 8, none⟩ u8).heap[x]? = some (.cells #[u0, u1, u2, u3, u4, u5, u6, u7, u8, v9] T (0, 0)) := by rw [row_set h7]; rfl
 have h9 : ((((((((((w.setCell ⟨x, 0, none⟩ u0).setCell ⟨x, 1, none⟩ u1).setCell ⟨x, 2, none⟩ u2).setCell ⟨x, 3, none⟩ u3).setCell ⟨x, 4, none⟩ u4).setCell ⟨x, 5, none⟩ u5).setCell ⟨x, 6, none⟩ u6).setCell ⟨x, 7, none⟩ u7).setCell ⟨x, 8, none⟩ u8).setCell ⟨x, 9, none⟩ u9).heap[x]? = some (.cells #[u0, u1, u2, u3, u4, u5, u6, u7, u8, u9] T (0, 0)) := by rw [row_set h8]; rfl
 exact h9
theorem stmt_no (w : World) (b n o k : Nat) (ts : List Tok) (h : PAt w b n ts o k) (hy : Px.seesStmt ts = false) :
 Calls Tryz.prog 114 #[pp b] w (RP (SmBAt w.heap.size) Prod.snd w b n o ((.err 51 ts : Px.R (Sm × Nat)))) := by
 obtain ⟨R, hR⟩ : ∃ R, R = ((.err 51 ts : Px.R (Sm × Nat))) := ⟨_, rfl⟩
 rw [← hR]
 have HR := Hd hR
 have HBL := Hd h.lt
 have HS := Hd (fun w' (h' : PAt w' b n ts o k) => seesStmt_any w' b n o k ts h')
 rw [hy] at HS
 have H0 := Hd (h.keep ((Keeps.refl [] _).alloc (.cells #[.int .i64 0, .string .empty, .string .empty, .pointer none, .pointer none, .pointer none, .slice none 0 0, .slice none 0 0, .slice none 0 0, .int .i64 0] 60)))
 have HK0 := Hd ((Keeps.refl [b] w).alloc (.cells #[.int .i64 0, .string .empty, .string .empty, .pointer none, .pointer none, .pointer none, .slice none 0 0, .slice none 0 0, .slice none 0 0, .int .i64 0] 60))
 have HN := Hd (fun w' => pneed_no w' 51)
 clear h hy hR
 go_enter Tryz.func114, Tryz.ntmps114
 go_wp2_with fail
 refine (same (HS.out _ H0.out)) ?_
 go_wp2_with fail
 refine (same (HN.out _)) ?_
 go_wp2
 rw [HR.out]
 exact ⟨rfl, rfl, ⟨_, _, H0.out⟩, HK0.out⟩
theorem stmt_many (w : World) (b n o k : Nat) (ts : List Tok) (h : PAt w b n ts o k) (hy : Px.seesStmt ts = true) (hk : 200 ≤ k) :
 Calls Tryz.prog 114 #[pp b] w (RP (SmBAt w.heap.size) Prod.snd w b n o ((.err 53 ts : Px.R (Sm × Nat)))) := by
 obtain ⟨R, hR⟩ : ∃ R, R = ((.err 53 ts : Px.R (Sm × Nat))) := ⟨_, rfl⟩
 rw [← hR]
 have HR := Hd hR
 have HBL := Hd h.lt
 have HS := Hd (fun w' (h' : PAt w' b n ts o k) => seesStmt_any w' b n o k ts h')
 rw [hy] at HS
 have H0 := Hd (h.keep ((Keeps.refl [] _).alloc (.cells #[.int .i64 0, .string .empty, .string .empty, .pointer none, .pointer none, .pointer none, .slice none 0 0, .slice none 0 0, .slice none 0 0, .int .i64 0] 60)))
 have HK0 := Hd ((Keeps.refl [b] w).alloc (.cells #[.int .i64 0, .string .empty, .string .empty, .pointer none, .pointer none, .pointer none, .slice none 0 0, .slice none 0 0, .slice none 0 0, .int .i64 0] 60))
 have HN := Hd (fun w' => pneed_yes w' 51)
 have HN2 := Hd (fun w' => pneed_no w' 53)
 have HLT := Hd (show decide ((k : Int) < 200) = false from decide_eq_false (by omega))
 have c3 := H0.out.open.2.2.1
 clear h hy hR hk
 go_enter Tryz.func114, Tryz.ntmps114
 go_wp2_with fail
 refine (same (HS.out _ H0.out)) ?_
 go_wp2_with fail
 refine (same (HN.out _)) ?_
 go_wp2_with fail
 rw [HLT.out]
 refine (same (HN2.out _)) ?_
 go_wp2
 rw [HR.out]
 exact ⟨rfl, rfl, ⟨_, _, H0.out⟩, HK0.out⟩
theorem stmt_if (w : World) (b n o k : Nat) (ts : List Tok) (h : PAt w b n ts o k) (hy : Px.seesStmt ts = true) (hk : k < 200) (h0 : Px.sees ts [105, 102] = true) (rr : Px.R (Sm × Nat)) (hB : ∀ w1, PAt w1 b n ts o (k + 1) → Calls Tryz.prog 149 #[pp b] w1 (RP (SmBAt w1.heap.size) Prod.snd w1 b n o rr)) :
 Calls Tryz.prog 114 #[pp b] w (RP (SmBAt w.heap.size) Prod.snd w b n o (rr.bind fun p r => .ok (p.1.withAt k, p.2) r)) := by
 obtain ⟨R, hR⟩ : ∃ R, R = (rr.bind fun p r => .ok (p.1.withAt k, p.2) r) := ⟨_, rfl⟩
 rw [← hR]
 have HR := Hd hR
 have HBL := Hd h.lt
 have HS := Hd (fun w' (h' : PAt w' b n ts o k) => seesStmt_any w' b n o k ts h')
 rw [hy] at HS
 have H0 := Hd (h.keep ((Keeps.refl [] _).alloc (.cells #[.int .i64 0, .string .empty, .string .empty, .pointer none, .pointer none, .pointer none, .slice none 0 0, .slice none 0 0, .slice none 0 0, .int .i64 0] 60)))
 have HK0 := Hd ((Keeps.refl [b] w).alloc (.cells #[.int .i64 0, .string .empty, .string .empty, .pointer none, .pointer none, .pointer none, .slice none 0 0, .slice none 0 0, .slice none 0 0, .int .i64 0] 60))
 have HN := Hd (fun w' => pneed_yes w' 51)
 have HN2 := Hd (fun w' => pneed_yes w' 53)
 have HLT := Hd (show decide ((k : Int) < 200) = true from decide_eq_true (by omega))
 obtain ⟨-, -, c3, f3⟩ := H0.out.open
 have HT := Hd (fun w' k' (h' : PAt w' b n ts o k') => text_any w' b n o k' ts h' 0 (by omega))
 have hl := strO_toList (Px.txt ts 0)
 obtain ⟨x, hs⟩ : ∃ x, x = strO (Px.txt ts 0) := ⟨_, rfl⟩
 rw [← hs] at hl HT
 have hq0 : (x.toList == [105, 102]) = true := by rw [hl]; exact h0
 have HB := Hd hB
 clear h hy hR hl hs hB h0
 go_enter Tryz.func114, Tryz.ntmps114
 go_wp2_with fail
 refine (same (HS.out _ H0.out)) ?_
 go_wp2_with fail
 refine (same (HN.out _)) ?_
 go_wp2_with fail
 try rw [HLT.out]
 refine (same (HN2.out _)) ?_
 go_wp2_with fail
 have HP1 := Hd (show PAt (((w.alloc (.cells #[.int .i64 0, .string .empty, .string .empty, .pointer none, .pointer none, .pointer none, .slice none 0 0, .slice none 0 0, .slice none 0 0, .int .i64 0] 60)).setCell ⟨b, 3, none⟩ (.int .i64 (((k + 1 : Nat) : Int)))).alloc (.cells #[.int .i64 0, .string ⟨#[]⟩, .string ⟨#[]⟩, .pointer none, .pointer none, .pointer none, .slice none 0 0, .slice none 0 0, .slice none 0 0, .int .i64 0] 60)) b n ts o (k + 1) from (H0.out.setBegun (k + 1)).keep ((Keeps.refl [] _).alloc _))
 have HK1 := Hd (show Keeps [b] w (((w.alloc (.cells #[.int .i64 0, .string .empty, .string .empty, .pointer none, .pointer none, .pointer none, .slice none 0 0, .slice none 0 0, .slice none 0 0, .int .i64 0] 60)).setCell ⟨b, 3, none⟩ (.int .i64 (((k + 1 : Nat) : Int)))).alloc (.cells #[.int .i64 0, .string ⟨#[]⟩, .string ⟨#[]⟩, .pointer none, .pointer none, .pointer none, .slice none 0 0, .slice none 0 0, .slice none 0 0, .int .i64 0] 60)) from (HK0.out.setCell (by simp) _).alloc _)
 have hb0a : ((w.alloc (.cells #[.int .i64 0, .string .empty, .string .empty, .pointer none, .pointer none, .pointer none, .slice none 0 0, .slice none 0 0, .slice none 0 0, .int .i64 0] 60)).setCell ⟨b, 3, none⟩ (.int .i64 (((k + 1 : Nat) : Int)))).heap[w.heap.size]? = some (.cells #[.int .i64 0, .string .empty, .string .empty, .pointer none, .pointer none, .pointer none, .slice none 0 0, .slice none 0 0, .slice none 0 0, .int .i64 0] 60 (0, 0)) := by
  rw [set_other (by have := HBL.out; omega)]
  exact heap_alloc_new _ _
 have hsz0 : ((w.alloc (.cells #[.int .i64 0, .string .empty, .string .empty, .pointer none, .pointer none, .pointer none, .slice none 0 0, .slice none 0 0, .slice none 0 0, .int .i64 0] 60)).setCell ⟨b, 3, none⟩ (.int .i64 (((k + 1 : Nat) : Int)))).heap.size = w.heap.size + 1 := by simp [World.setCell]
 have HB0 := Hd (show (((w.alloc (.cells #[.int .i64 0, .string .empty, .string .empty, .pointer none, .pointer none, .pointer none, .slice none 0 0, .slice none 0 0, .slice none 0 0, .int .i64 0] 60)).setCell ⟨b, 3, none⟩ (.int .i64 (((k + 1 : Nat) : Int)))).alloc (.cells #[.int .i64 0, .string ⟨#[]⟩, .string ⟨#[]⟩, .pointer none, .pointer none, .pointer none, .slice none 0 0, .slice none 0 0, .slice none 0 0, .int .i64 0] 60)).heap[w.heap.size]? = some (.cells #[.int .i64 0, .string .empty, .string .empty, .pointer none, .pointer none, .pointer none, .slice none 0 0, .slice none 0 0, .slice none 0 0, .int .i64 0] 60 (0, 0)) from block_keep hb0a ((Keeps.refl [] _).alloc _) (by simp))
 have HB1 := Hd (show (((w.alloc (.cells #[.int .i64 0, .string .empty, .string .empty, .pointer none, .pointer none, .pointer none, .slice none 0 0, .slice none 0 0, .slice none 0 0, .int .i64 0] 60)).setCell ⟨b, 3, none⟩ (.int .i64 (((k + 1 : Nat) : Int)))).alloc (.cells #[.int .i64 0, .string ⟨#[]⟩, .string ⟨#[]⟩, .pointer none, .pointer none, .pointer none, .slice none 0 0, .slice none 0 0, .slice none 0 0, .int .i64 0] 60)).heap[w.heap.size + 1]? = some (.cells #[.int .i64 0, .string ⟨#[]⟩, .string ⟨#[]⟩, .pointer none, .pointer none, .pointer none, .slice none 0 0, .slice none 0 0, .slice none 0 0, .int .i64 0] 60 (0, 0)) by
  have := heap_alloc_new ((w.alloc (.cells #[.int .i64 0, .string .empty, .string .empty, .pointer none, .pointer none, .pointer none, .slice none 0 0, .slice none 0 0, .slice none 0 0, .int .i64 0] 60)).setCell ⟨b, 3, none⟩ (.int .i64 (((k + 1 : Nat) : Int)))) (.cells #[.int .i64 0, .string ⟨#[]⟩, .string ⟨#[]⟩, .pointer none, .pointer none, .pointer none, .slice none 0 0, .slice none 0 0, .slice none 0 0, .int .i64 0] 60)
  rw [hsz0] at this
  exact this)
 have HSZ1 := Hd (show (((w.alloc (.cells #[.int .i64 0, .string .empty, .string .empty, .pointer none, .pointer none, .pointer none, .slice none 0 0, .slice none 0 0, .slice none 0 0, .int .i64 0] 60)).setCell ⟨b, 3, none⟩ (.int .i64 (((k + 1 : Nat) : Int)))).alloc (.cells #[.int .i64 0, .string ⟨#[]⟩, .string ⟨#[]⟩, .pointer none, .pointer none, .pointer none, .slice none 0 0, .slice none 0 0, .slice none 0 0, .int .i64 0] 60)).heap.size = w.heap.size + 2 by simp [World.setCell])
 clear hb0a hsz0 c3 f3
 refine (same (HT.out _ (k + 1) HP1.out)) ?_
 go_wp2_with fail
 refine (HB.out _ HP1.out).mono ?_
 intro e w2 hr
 cases rr with
 | err z r =>
  obtain ⟨rfl, H4, H5⟩ := zE hr HK1
  go_wp2
  rw [HR.out]
  exact ⟨rfl, rfl, H4.out, H5.out⟩
 | ok a r =>
  obtain ⟨v, rfl, ⟨vs, B, hv, h3, hB⟩, h4, h5⟩ := hr
  have HEB := Hd (show ∀ g, B g → w.heap.size + 2 ≤ g ∧ g < w2.heap.size from fun g hg => by have := hB g hg; rw [HSZ1.out] at this; exact this)
  have HE := Hd h3
  obtain ⟨kd, sx, sy, qe, qf, qc, Aa, na, ca, At, nt, ct, Al, nl, cl, at_, rfl⟩ := h3.form
  subst hv
  have HP2 := Hd h4
  have HK2 := zV HK1 h5
  have HB0 := zL HB0 h5
  have HB1 := zL HB1 h5
  clear h3 h4 h5 hB
  obtain ⟨X0, hX0⟩ : ∃ x, x = w.heap.size := ⟨_, rfl⟩
  rw [← hX0] at HB0 HB1
  obtain ⟨X1, hX1⟩ : ∃ x, x = X0 + 1 := ⟨_, rfl⟩
  rw [← hX1] at HB1
  have hne1 : X0 ≠ X1 := by omega
  have hne2 : X1 ≠ X0 := by omega
  have HX := Hd (And.intro hX0 hX1)
  simp only [← hX0, ← hX1]
  clear hX0 hX1
  have hrow := HB1.out
  obtain ⟨c1_0, f1_0, c1_1, f1_1, c1_2, f1_2, c1_3, f1_3, c1_4, f1_4, c1_5, f1_5, c1_6, f1_6, c1_7, f1_7, c1_8, f1_8, c1_9, f1_9⟩ := row10 hrow
  clear hrow
  go_upto_region 13 with fail
  refine stage (S := [X1]) (w := w2) (x := X1) (cs := #[.int .i64 kd, .string sx, .string sy, .pointer qe, .pointer qf, .pointer qc, .slice Aa na ca, .slice At nt ct, .slice Al nl cl, .int .i64 at_]) (T := 60) ?_ ?_ ?_
  ·
   repeat (refine Keeps.setCell ?_ (by simp) _)
   exact Keeps.refl _ _
  · exact row_set10 HB1.out
  intro w3 hk3 hb3
  have nt1 := nt3 HB1
  have hx0 := HX.out.1
  have hx1 := HX.out.2
  have hoff3 : Off w2 b (B) [X1] := fun y hy => .inr (by
   obtain rfl : y = X1 := by simpa using hy
   exact ⟨fun h => by have h7 := HEB.out _ h; omega, nt1⟩)
  have HE := Hd (SmAt.keep hk3 hoff3 _ _ HE.out)
  have HP2 := Hd (HP2.out.keepHi hk3 (by have := HBL.out; simp; omega))
  have HK2 := Hd (HK2.out.hi hk3 (by simp; omega))
  have HSZ2 := Hd hk3.size
  have HB0 := Hd (block_keep HB0.out hk3 (by simp; omega))
  have HB1 := Hd hb3
  clear nt1 hoff3 hk3 hb3 hx0 hx1 f1_0 c1_0 f1_1 c1_1 f1_2 c1_2 f1_3 c1_3 f1_4 c1_4 f1_5 c1_5 f1_6 c1_6 f1_7 c1_7 f1_8 c1_8 f1_9 c1_9
  have hrow := HB0.out
  obtain ⟨c0_0, f0_0, c0_1, f0_1, c0_2, f0_2, c0_3, f0_3, c0_4, f0_4, c0_5, f0_5, c0_6, f0_6, c0_7, f0_7, c0_8, f0_8, c0_9, f0_9⟩ := row10 hrow
  clear hrow
  have hrow := HB1.out
  obtain ⟨c1_0, f1_0, c1_1, f1_1, c1_2, f1_2, c1_3, f1_3, c1_4, f1_4, c1_5, f1_5, c1_6, f1_6, c1_7, f1_7, c1_8, f1_8, c1_9, f1_9⟩ := row10 hrow
  clear hrow
  go_wp2_with fail
  refine bodyPost_ret (v := .agg #[.int .i64 kd, .string sx, .string sy, .pointer qe, .pointer qf, .pointer qc, .slice Aa na ca, .slice At nt ct, .slice Al nl cl, .int .i64 (k : Int)]) (by simp [results, Tryz.results114, go_sem, c0_0, c0_1, c0_2, c0_3, c0_4, c0_5, c0_6, c0_7, c0_8, c0_9, c1_0, c1_1, c1_2, c1_3, c1_4, c1_5, c1_6, c1_7, c1_8, c1_9]) rfl ?_
  refine setsEnd (S := [X0, X1]) (w := w3) ?_ ?_
  ·
   repeat (refine Keeps.setCell ?_ (by simp) _)
   exact Keeps.refl _ _
  ·
   intro W hk
   have hwk := HK2.out.size
   have hwk2 := hk.size
   have hx0 := HX.out.1
   have hx1 := HX.out.2
   have hbl := HBL.out
   have nt0 := nt3 HB0
   have nt1 := nt3 HB1
   have hoff : Off w3 b (B) [X0, X1] := fun y hy => .inr (by
    simp at hy
    rcases hy with rfl | rfl
    · exact ⟨fun h => by have h7 := HEB.out _ h; omega, nt0⟩
    · exact ⟨fun h => by have h7 := HEB.out _ h; omega, nt1⟩)
   rw [HR.out]
   have hex : SmAt w3 b B (a.1.withAt k) [.int .i64 kd, .string sx, .string sy, .pointer qe, .pointer qf, .pointer qc, .slice Aa na ca, .slice At nt ct, .slice Al nl cl, .int .i64 (k : Int)] := HE.out.withAt
   exact ⟨_, rfl, ⟨_, _, rfl, SmAt.keep hk hoff _ _ hex, fun g hg => ⟨by have := (HEB.out g hg).1; omega, by have := (HEB.out g hg).2; have := HSZ2.out; omega⟩⟩, HP2.out.keepHi hk (by simp; omega), HK2.out.hi hk (by simp; omega)⟩
theorem stmt_while (w : World) (b n o k : Nat) (ts : List Tok) (h : PAt w b n ts o k) (hy : Px.seesStmt ts = true) (hk : k < 200) (h0 : Px.sees ts [105, 102] = false) (h1 : Px.sees ts [119, 104, 105, 108, 101] = true) (rr : Px.R (Sm × Nat)) (hB : ∀ w1, PAt w1 b n ts o (k + 1) → Calls Tryz.prog 150 #[pp b] w1 (RP (SmBAt w1.heap.size) Prod.snd w1 b n o rr)) :
 Calls Tryz.prog 114 #[pp b] w (RP (SmBAt w.heap.size) Prod.snd w b n o (rr.bind fun p r => .ok (p.1.withAt k, p.2) r)) := by
 obtain ⟨R, hR⟩ : ∃ R, R = (rr.bind fun p r => .ok (p.1.withAt k, p.2) r) := ⟨_, rfl⟩
 rw [← hR]
 have HR := Hd hR
 have HBL := Hd h.lt
 have HS := Hd (fun w' (h' : PAt w' b n ts o k) => seesStmt_any w' b n o k ts h')
 rw [hy] at HS
 have H0 := Hd (h.keep ((Keeps.refl [] _).alloc (.cells #[.int .i64 0, .string .empty, .string .empty, .pointer none, .pointer none, .pointer none, .slice none 0 0, .slice none 0 0, .slice none 0 0, .int .i64 0] 60)))
 have HK0 := Hd ((Keeps.refl [b] w).alloc (.cells #[.int .i64 0, .string .empty, .string .empty, .pointer none, .pointer none, .pointer none, .slice none 0 0, .slice none 0 0, .slice none 0 0, .int .i64 0] 60))
 have HN := Hd (fun w' => pneed_yes w' 51)
 have HN2 := Hd (fun w' => pneed_yes w' 53)
 have HLT := Hd (show decide ((k : Int) < 200) = true from decide_eq_true (by omega))
 obtain ⟨-, -, c3, f3⟩ := H0.out.open
 have HT := Hd (fun w' k' (h' : PAt w' b n ts o k') => text_any w' b n o k' ts h' 0 (by omega))
 have hl := strO_toList (Px.txt ts 0)
 obtain ⟨x, hs⟩ : ∃ x, x = strO (Px.txt ts 0) := ⟨_, rfl⟩
 rw [← hs] at hl HT
 have hq0 : (x.toList == [105, 102]) = false := by rw [hl]; exact h0
 have hq1 : (x.toList == [119, 104, 105, 108, 101]) = true := by rw [hl]; exact h1
 have HB := Hd hB
 clear h hy hR hl hs hB h0 h1
 go_enter Tryz.func114, Tryz.ntmps114
 go_wp2_with fail
 refine (same (HS.out _ H0.out)) ?_
 go_wp2_with fail
 refine (same (HN.out _)) ?_
 go_wp2_with fail
 try rw [HLT.out]
 refine (same (HN2.out _)) ?_
 go_wp2_with fail
 have HP1 := Hd (show PAt (((w.alloc (.cells #[.int .i64 0, .string .empty, .string .empty, .pointer none, .pointer none, .pointer none, .slice none 0 0, .slice none 0 0, .slice none 0 0, .int .i64 0] 60)).setCell ⟨b, 3, none⟩ (.int .i64 (((k + 1 : Nat) : Int)))).alloc (.cells #[.int .i64 0, .string ⟨#[]⟩, .string ⟨#[]⟩, .pointer none, .pointer none, .pointer none, .slice none 0 0, .slice none 0 0, .slice none 0 0, .int .i64 0] 60)) b n ts o (k + 1) from (H0.out.setBegun (k + 1)).keep ((Keeps.refl [] _).alloc _))
 have HK1 := Hd (show Keeps [b] w (((w.alloc (.cells #[.int .i64 0, .string .empty, .string .empty, .pointer none, .pointer none, .pointer none, .slice none 0 0, .slice none 0 0, .slice none 0 0, .int .i64 0] 60)).setCell ⟨b, 3, none⟩ (.int .i64 (((k + 1 : Nat) : Int)))).alloc (.cells #[.int .i64 0, .string ⟨#[]⟩, .string ⟨#[]⟩, .pointer none, .pointer none, .pointer none, .slice none 0 0, .slice none 0 0, .slice none 0 0, .int .i64 0] 60)) from (HK0.out.setCell (by simp) _).alloc _)
 have hb0a : ((w.alloc (.cells #[.int .i64 0, .string .empty, .string .empty, .pointer none, .pointer none, .pointer none, .slice none 0 0, .slice none 0 0, .slice none 0 0, .int .i64 0] 60)).setCell ⟨b, 3, none⟩ (.int .i64 (((k + 1 : Nat) : Int)))).heap[w.heap.size]? = some (.cells #[.int .i64 0, .string .empty, .string .empty, .pointer none, .pointer none, .pointer none, .slice none 0 0, .slice none 0 0, .slice none 0 0, .int .i64 0] 60 (0, 0)) := by
  rw [set_other (by have := HBL.out; omega)]
  exact heap_alloc_new _ _
 have hsz0 : ((w.alloc (.cells #[.int .i64 0, .string .empty, .string .empty, .pointer none, .pointer none, .pointer none, .slice none 0 0, .slice none 0 0, .slice none 0 0, .int .i64 0] 60)).setCell ⟨b, 3, none⟩ (.int .i64 (((k + 1 : Nat) : Int)))).heap.size = w.heap.size + 1 := by simp [World.setCell]
 have HB0 := Hd (show (((w.alloc (.cells #[.int .i64 0, .string .empty, .string .empty, .pointer none, .pointer none, .pointer none, .slice none 0 0, .slice none 0 0, .slice none 0 0, .int .i64 0] 60)).setCell ⟨b, 3, none⟩ (.int .i64 (((k + 1 : Nat) : Int)))).alloc (.cells #[.int .i64 0, .string ⟨#[]⟩, .string ⟨#[]⟩, .pointer none, .pointer none, .pointer none, .slice none 0 0, .slice none 0 0, .slice none 0 0, .int .i64 0] 60)).heap[w.heap.size]? = some (.cells #[.int .i64 0, .string .empty, .string .empty, .pointer none, .pointer none, .pointer none, .slice none 0 0, .slice none 0 0, .slice none 0 0, .int .i64 0] 60 (0, 0)) from block_keep hb0a ((Keeps.refl [] _).alloc _) (by simp))
 have HB1 := Hd (show (((w.alloc (.cells #[.int .i64 0, .string .empty, .string .empty, .pointer none, .pointer none, .pointer none, .slice none 0 0, .slice none 0 0, .slice none 0 0, .int .i64 0] 60)).setCell ⟨b, 3, none⟩ (.int .i64 (((k + 1 : Nat) : Int)))).alloc (.cells #[.int .i64 0, .string ⟨#[]⟩, .string ⟨#[]⟩, .pointer none, .pointer none, .pointer none, .slice none 0 0, .slice none 0 0, .slice none 0 0, .int .i64 0] 60)).heap[w.heap.size + 1]? = some (.cells #[.int .i64 0, .string ⟨#[]⟩, .string ⟨#[]⟩, .pointer none, .pointer none, .pointer none, .slice none 0 0, .slice none 0 0, .slice none 0 0, .int .i64 0] 60 (0, 0)) by
  have := heap_alloc_new ((w.alloc (.cells #[.int .i64 0, .string .empty, .string .empty, .pointer none, .pointer none, .pointer none, .slice none 0 0, .slice none 0 0, .slice none 0 0, .int .i64 0] 60)).setCell ⟨b, 3, none⟩ (.int .i64 (((k + 1 : Nat) : Int)))) (.cells #[.int .i64 0, .string ⟨#[]⟩, .string ⟨#[]⟩, .pointer none, .pointer none, .pointer none, .slice none 0 0, .slice none 0 0, .slice none 0 0, .int .i64 0] 60)
  rw [hsz0] at this
  exact this)
 have HSZ1 := Hd (show (((w.alloc (.cells #[.int .i64 0, .string .empty, .string .empty, .pointer none, .pointer none, .pointer none, .slice none 0 0, .slice none 0 0, .slice none 0 0, .int .i64 0] 60)).setCell ⟨b, 3, none⟩ (.int .i64 (((k + 1 : Nat) : Int)))).alloc (.cells #[.int .i64 0, .string ⟨#[]⟩, .string ⟨#[]⟩, .pointer none, .pointer none, .pointer none, .slice none 0 0, .slice none 0 0, .slice none 0 0, .int .i64 0] 60)).heap.size = w.heap.size + 2 by simp [World.setCell])
 clear hb0a hsz0 c3 f3
 refine (same (HT.out _ (k + 1) HP1.out)) ?_
 go_wp2_with fail
 refine (HB.out _ HP1.out).mono ?_
 intro e w2 hr
 cases rr with
 | err z r =>
  obtain ⟨rfl, H4, H5⟩ := zE hr HK1
  go_wp2
  rw [HR.out]
  exact ⟨rfl, rfl, H4.out, H5.out⟩
 | ok a r =>
  obtain ⟨v, rfl, ⟨vs, B, hv, h3, hB⟩, h4, h5⟩ := hr
  have HEB := Hd (show ∀ g, B g → w.heap.size + 2 ≤ g ∧ g < w2.heap.size from fun g hg => by have := hB g hg; rw [HSZ1.out] at this; exact this)
  have HE := Hd h3
  obtain ⟨kd, sx, sy, qe, qf, qc, Aa, na, ca, At, nt, ct, Al, nl, cl, at_, rfl⟩ := h3.form
  subst hv
  have HP2 := Hd h4
  have HK2 := zV HK1 h5
  have HB0 := zL HB0 h5
  have HB1 := zL HB1 h5
  clear h3 h4 h5 hB
  obtain ⟨X0, hX0⟩ : ∃ x, x = w.heap.size := ⟨_, rfl⟩
  rw [← hX0] at HB0 HB1
  obtain ⟨X1, hX1⟩ : ∃ x, x = X0 + 1 := ⟨_, rfl⟩
  rw [← hX1] at HB1
  have hne1 : X0 ≠ X1 := by omega
  have hne2 : X1 ≠ X0 := by omega
  have HX := Hd (And.intro hX0 hX1)
  simp only [← hX0, ← hX1]
  clear hX0 hX1
  have hrow := HB1.out
  obtain ⟨c1_0, f1_0, c1_1, f1_1, c1_2, f1_2, c1_3, f1_3, c1_4, f1_4, c1_5, f1_5, c1_6, f1_6, c1_7, f1_7, c1_8, f1_8, c1_9, f1_9⟩ := row10 hrow
  clear hrow
  go_upto_region 13 with fail
  refine stage (S := [X1]) (w := w2) (x := X1) (cs := #[.int .i64 kd, .string sx, .string sy, .pointer qe, .pointer qf, .pointer qc, .slice Aa na ca, .slice At nt ct, .slice Al nl cl, .int .i64 at_]) (T := 60) ?_ ?_ ?_
  ·
   repeat (refine Keeps.setCell ?_ (by simp) _)
   exact Keeps.refl _ _
  · exact row_set10 HB1.out
  intro w3 hk3 hb3
  have nt1 := nt3 HB1
  have hx0 := HX.out.1
  have hx1 := HX.out.2
  have hoff3 : Off w2 b (B) [X1] := fun y hy => .inr (by
   obtain rfl : y = X1 := by simpa using hy
   exact ⟨fun h => by have h7 := HEB.out _ h; omega, nt1⟩)
  have HE := Hd (SmAt.keep hk3 hoff3 _ _ HE.out)
  have HP2 := Hd (HP2.out.keepHi hk3 (by have := HBL.out; simp; omega))
  have HK2 := Hd (HK2.out.hi hk3 (by simp; omega))
  have HSZ2 := Hd hk3.size
  have HB0 := Hd (block_keep HB0.out hk3 (by simp; omega))
  have HB1 := Hd hb3
  clear nt1 hoff3 hk3 hb3 hx0 hx1 f1_0 c1_0 f1_1 c1_1 f1_2 c1_2 f1_3 c1_3 f1_4 c1_4 f1_5 c1_5 f1_6 c1_6 f1_7 c1_7 f1_8 c1_8 f1_9 c1_9
  have hrow := HB0.out
  obtain ⟨c0_0, f0_0, c0_1, f0_1, c0_2, f0_2, c0_3, f0_3, c0_4, f0_4, c0_5, f0_5, c0_6, f0_6, c0_7, f0_7, c0_8, f0_8, c0_9, f0_9⟩ := row10 hrow
  clear hrow
  have hrow := HB1.out
  obtain ⟨c1_0, f1_0, c1_1, f1_1, c1_2, f1_2, c1_3, f1_3, c1_4, f1_4, c1_5, f1_5, c1_6, f1_6, c1_7, f1_7, c1_8, f1_8, c1_9, f1_9⟩ := row10 hrow
  clear hrow
  go_wp2_with fail
  refine bodyPost_ret (v := .agg #[.int .i64 kd, .string sx, .string sy, .pointer qe, .pointer qf, .pointer qc, .slice Aa na ca, .slice At nt ct, .slice Al nl cl, .int .i64 (k : Int)]) (by simp [results, Tryz.results114, go_sem, c0_0, c0_1, c0_2, c0_3, c0_4, c0_5, c0_6, c0_7, c0_8, c0_9, c1_0, c1_1, c1_2, c1_3, c1_4, c1_5, c1_6, c1_7, c1_8, c1_9]) rfl ?_
  refine setsEnd (S := [X0, X1]) (w := w3) ?_ ?_
  ·
   repeat (refine Keeps.setCell ?_ (by simp) _)
   exact Keeps.refl _ _
  ·
   intro W hk
   have hwk := HK2.out.size
   have hwk2 := hk.size
   have hx0 := HX.out.1
   have hx1 := HX.out.2
   have hbl := HBL.out
   have nt0 := nt3 HB0
   have nt1 := nt3 HB1
   have hoff : Off w3 b (B) [X0, X1] := fun y hy => .inr (by
    simp at hy
    rcases hy with rfl | rfl
    · exact ⟨fun h => by have h7 := HEB.out _ h; omega, nt0⟩
    · exact ⟨fun h => by have h7 := HEB.out _ h; omega, nt1⟩)
   rw [HR.out]
   have hex : SmAt w3 b B (a.1.withAt k) [.int .i64 kd, .string sx, .string sy, .pointer qe, .pointer qf, .pointer qc, .slice Aa na ca, .slice At nt ct, .slice Al nl cl, .int .i64 (k : Int)] := HE.out.withAt
   exact ⟨_, rfl, ⟨_, _, rfl, SmAt.keep hk hoff _ _ hex, fun g hg => ⟨by have := (HEB.out g hg).1; omega, by have := (HEB.out g hg).2; have := HSZ2.out; omega⟩⟩, HP2.out.keepHi hk (by simp; omega), HK2.out.hi hk (by simp; omega)⟩
theorem stmt_simple (w : World) (b n o k : Nat) (ts : List Tok) (h : PAt w b n ts o k) (hy : Px.seesStmt ts = true) (hk : k < 200) (h0 : Px.sees ts [105, 102] = false) (h1 : Px.sees ts [119, 104, 105, 108, 101] = false) (rr : Px.R Sm) (hB : ∀ w1, PAt w1 b n ts o (k + 1) → Calls Tryz.prog 151 #[pp b] w1 (RP Sm0At (fun _ => k + 1) w1 b n o rr)) :
 Calls Tryz.prog 114 #[pp b] w (RP (SmBAt w.heap.size) Prod.snd w b n o (rr.bind fun s r => Px.want [59] r fun r => .ok (s.withAt k, k + 1) r)) := by
 obtain ⟨R, hR⟩ : ∃ R, R = (rr.bind fun s r => Px.want [59] r fun r => .ok (s.withAt k, k + 1) r) := ⟨_, rfl⟩
 rw [← hR]
 have HR := Hd hR
 have HBL := Hd h.lt
 have HS := Hd (fun w' (h' : PAt w' b n ts o k) => seesStmt_any w' b n o k ts h')
 rw [hy] at HS
 have H0 := Hd (h.keep ((Keeps.refl [] _).alloc (.cells #[.int .i64 0, .string .empty, .string .empty, .pointer none, .pointer none, .pointer none, .slice none 0 0, .slice none 0 0, .slice none 0 0, .int .i64 0] 60)))
 have HK0 := Hd ((Keeps.refl [b] w).alloc (.cells #[.int .i64 0, .string .empty, .string .empty, .pointer none, .pointer none, .pointer none, .slice none 0 0, .slice none 0 0, .slice none 0 0, .int .i64 0] 60))
 have HN := Hd (fun w' => pneed_yes w' 51)
 have HN2 := Hd (fun w' => pneed_yes w' 53)
 have HLT := Hd (show decide ((k : Int) < 200) = true from decide_eq_true (by omega))
 obtain ⟨-, -, c3, f3⟩ := H0.out.open
 have HT := Hd (fun w' k' (h' : PAt w' b n ts o k') => text_any w' b n o k' ts h' 0 (by omega))
 have hl := strO_toList (Px.txt ts 0)
 obtain ⟨x, hs⟩ : ∃ x, x = strO (Px.txt ts 0) := ⟨_, rfl⟩
 rw [← hs] at hl HT
 have hq0 : (x.toList == [105, 102]) = false := by rw [hl]; exact h0
 have hq1 : (x.toList == [119, 104, 105, 108, 101]) = false := by rw [hl]; exact h1
 have HB := Hd hB
 clear h hy hR hl hs hB h0 h1
 go_enter Tryz.func114, Tryz.ntmps114
 go_wp2_with fail
 refine (same (HS.out _ H0.out)) ?_
 go_wp2_with fail
 refine (same (HN.out _)) ?_
 go_wp2_with fail
 try rw [HLT.out]
 refine (same (HN2.out _)) ?_
 go_wp2_with fail
 have HP1 := Hd (show PAt (((w.alloc (.cells #[.int .i64 0, .string .empty, .string .empty, .pointer none, .pointer none, .pointer none, .slice none 0 0, .slice none 0 0, .slice none 0 0, .int .i64 0] 60)).setCell ⟨b, 3, none⟩ (.int .i64 (((k + 1 : Nat) : Int)))).alloc (.cells #[.int .i64 0, .string ⟨#[]⟩, .string ⟨#[]⟩, .pointer none, .pointer none, .pointer none, .slice none 0 0, .slice none 0 0, .slice none 0 0, .int .i64 0] 60)) b n ts o (k + 1) from (H0.out.setBegun (k + 1)).keep ((Keeps.refl [] _).alloc _))
 have HK1 := Hd (show Keeps [b] w (((w.alloc (.cells #[.int .i64 0, .string .empty, .string .empty, .pointer none, .pointer none, .pointer none, .slice none 0 0, .slice none 0 0, .slice none 0 0, .int .i64 0] 60)).setCell ⟨b, 3, none⟩ (.int .i64 (((k + 1 : Nat) : Int)))).alloc (.cells #[.int .i64 0, .string ⟨#[]⟩, .string ⟨#[]⟩, .pointer none, .pointer none, .pointer none, .slice none 0 0, .slice none 0 0, .slice none 0 0, .int .i64 0] 60)) from (HK0.out.setCell (by simp) _).alloc _)
 have hb0a : ((w.alloc (.cells #[.int .i64 0, .string .empty, .string .empty, .pointer none, .pointer none, .pointer none, .slice none 0 0, .slice none 0 0, .slice none 0 0, .int .i64 0] 60)).setCell ⟨b, 3, none⟩ (.int .i64 (((k + 1 : Nat) : Int)))).heap[w.heap.size]? = some (.cells #[.int .i64 0, .string .empty, .string .empty, .pointer none, .pointer none, .pointer none, .slice none 0 0, .slice none 0 0, .slice none 0 0, .int .i64 0] 60 (0, 0)) := by
  rw [set_other (by have := HBL.out; omega)]
  exact heap_alloc_new _ _
 have hsz0 : ((w.alloc (.cells #[.int .i64 0, .string .empty, .string .empty, .pointer none, .pointer none, .pointer none, .slice none 0 0, .slice none 0 0, .slice none 0 0, .int .i64 0] 60)).setCell ⟨b, 3, none⟩ (.int .i64 (((k + 1 : Nat) : Int)))).heap.size = w.heap.size + 1 := by simp [World.setCell]
 have HB0 := Hd (show (((w.alloc (.cells #[.int .i64 0, .string .empty, .string .empty, .pointer none, .pointer none, .pointer none, .slice none 0 0, .slice none 0 0, .slice none 0 0, .int .i64 0] 60)).setCell ⟨b, 3, none⟩ (.int .i64 (((k + 1 : Nat) : Int)))).alloc (.cells #[.int .i64 0, .string ⟨#[]⟩, .string ⟨#[]⟩, .pointer none, .pointer none, .pointer none, .slice none 0 0, .slice none 0 0, .slice none 0 0, .int .i64 0] 60)).heap[w.heap.size]? = some (.cells #[.int .i64 0, .string .empty, .string .empty, .pointer none, .pointer none, .pointer none, .slice none 0 0, .slice none 0 0, .slice none 0 0, .int .i64 0] 60 (0, 0)) from block_keep hb0a ((Keeps.refl [] _).alloc _) (by simp))
 have HB1 := Hd (show (((w.alloc (.cells #[.int .i64 0, .string .empty, .string .empty, .pointer none, .pointer none, .pointer none, .slice none 0 0, .slice none 0 0, .slice none 0 0, .int .i64 0] 60)).setCell ⟨b, 3, none⟩ (.int .i64 (((k + 1 : Nat) : Int)))).alloc (.cells #[.int .i64 0, .string ⟨#[]⟩, .string ⟨#[]⟩, .pointer none, .pointer none, .pointer none, .slice none 0 0, .slice none 0 0, .slice none 0 0, .int .i64 0] 60)).heap[w.heap.size + 1]? = some (.cells #[.int .i64 0, .string ⟨#[]⟩, .string ⟨#[]⟩, .pointer none, .pointer none, .pointer none, .slice none 0 0, .slice none 0 0, .slice none 0 0, .int .i64 0] 60 (0, 0)) by
  have := heap_alloc_new ((w.alloc (.cells #[.int .i64 0, .string .empty, .string .empty, .pointer none, .pointer none, .pointer none, .slice none 0 0, .slice none 0 0, .slice none 0 0, .int .i64 0] 60)).setCell ⟨b, 3, none⟩ (.int .i64 (((k + 1 : Nat) : Int)))) (.cells #[.int .i64 0, .string ⟨#[]⟩, .string ⟨#[]⟩, .pointer none, .pointer none, .pointer none, .slice none 0 0, .slice none 0 0, .slice none 0 0, .int .i64 0] 60)
  rw [hsz0] at this
  exact this)
 have HSZ1 := Hd (show (((w.alloc (.cells #[.int .i64 0, .string .empty, .string .empty, .pointer none, .pointer none, .pointer none, .slice none 0 0, .slice none 0 0, .slice none 0 0, .int .i64 0] 60)).setCell ⟨b, 3, none⟩ (.int .i64 (((k + 1 : Nat) : Int)))).alloc (.cells #[.int .i64 0, .string ⟨#[]⟩, .string ⟨#[]⟩, .pointer none, .pointer none, .pointer none, .slice none 0 0, .slice none 0 0, .slice none 0 0, .int .i64 0] 60)).heap.size = w.heap.size + 2 by simp [World.setCell])
 clear hb0a hsz0 c3 f3
 refine (same (HT.out _ (k + 1) HP1.out)) ?_
 go_wp2_with fail
 refine (HB.out _ HP1.out).mono ?_
 intro e w2 hr
 cases rr with
 | err z r =>
  obtain ⟨rfl, H4, H5⟩ := zE hr HK1
  go_wp2
  rw [HR.out]
  exact ⟨rfl, rfl, H4.out, H5.out⟩
 | ok a r =>
  obtain ⟨v, rfl, ⟨vs, hv, h3⟩, h4, h5⟩ := hr
  have HE := Hd h3
  obtain ⟨kd, sx, sy, qe, qf, qc, Aa, na, ca, At, nt, ct, Al, nl, cl, at_, rfl⟩ := h3.form
  subst hv
  have HP2 := Hd h4
  have HK2 := zV HK1 h5
  have HB0 := zL HB0 h5
  have HB1 := zL HB1 h5
  clear h3 h4 h5
  obtain ⟨X0, hX0⟩ : ∃ x, x = w.heap.size := ⟨_, rfl⟩
  rw [← hX0] at HB0 HB1
  obtain ⟨X1, hX1⟩ : ∃ x, x = X0 + 1 := ⟨_, rfl⟩
  rw [← hX1] at HB1
  have hne1 : X0 ≠ X1 := by omega
  have hne2 : X1 ≠ X0 := by omega
  have HX := Hd (And.intro hX0 hX1)
  simp only [← hX0, ← hX1]
  clear hX0 hX1
  have hrow := HB1.out
  obtain ⟨c1_0, f1_0, c1_1, f1_1, c1_2, f1_2, c1_3, f1_3, c1_4, f1_4, c1_5, f1_5, c1_6, f1_6, c1_7, f1_7, c1_8, f1_8, c1_9, f1_9⟩ := row10 hrow
  clear hrow
  go_wp2_with fail
  refine stage (Q := fun W => Calls Tryz.prog _ _ W _) (S := [X1]) (w := w2) (x := X1) (cs := #[.int .i64 kd, .string sx, .string sy, .pointer qe, .pointer qf, .pointer qc, .slice Aa na ca, .slice At nt ct, .slice Al nl cl, .int .i64 at_]) (T := 60) ?_ ?_ ?_
  ·
   repeat (refine Keeps.setCell ?_ (by simp) _)
   exact Keeps.refl _ _
  · exact row_set10 HB1.out
  intro w3 hk3 hb3
  have nt1 := nt3 HB1
  have hx0 := HX.out.1
  have hx1 := HX.out.2
  have hoff3 : Off w2 b (fun _ => False) [X1] := fun y hy => .inr (by
   obtain rfl : y = X1 := by simpa using hy
   exact ⟨id, nt1⟩)
  have HE := Hd (SmAt.keep hk3 hoff3 _ _ HE.out)
  have HP2 := Hd (HP2.out.keepHi hk3 (by have := HBL.out; simp; omega))
  have HK2 := Hd (HK2.out.hi hk3 (by simp; omega))
  have HSZ2 := Hd hk3.size
  have HB0 := Hd (block_keep HB0.out hk3 (by simp; omega))
  have HB1 := Hd hb3
  clear nt1 hoff3 hk3 hb3 hx0 hx1 f1_0 c1_0 f1_1 c1_1 f1_2 c1_2 f1_3 c1_3 f1_4 c1_4 f1_5 c1_5 f1_6 c1_6 f1_7 c1_7 f1_8 c1_8 f1_9 c1_9
  have HPP := Hd (fun w' (h' : PAt w' b n r o (k + 1)) => pass_rp w' b n o (k + 1) r h' [59] (by simp))
  have hR := HR.out
  simp only [Px.bind_ok] at hR
  unfold Px.want at hR
  obtain ⟨rq, hrq⟩ : ∃ x, x = Px.passR [59] r := ⟨_, rfl⟩
  rw [← hrq] at HPP hR
  have HR := Hd hR
  clear hR hrq
  refine (HPP.out _ HP2.out).mono ?_
  intro e w4 hr
  cases rq with
  | err z r =>
   obtain ⟨rfl, h4, h5⟩ := hr
   have H6 := Hd h4
   have H7 := zV HK2 h5
   clear h4 h5
   go_wp2
   rw [HR.out]
   exact ⟨rfl, rfl, H6.out, H7.out⟩
  | ok u r =>
   obtain ⟨v3, rfl, h3, h4, h5⟩ := hr
   obtain rfl : v3 = .tuple #[] := h3
   have hx0 := HX.out.1
   have hx1 := HX.out.2
   have HP2 := Hd h4
   have HK2 := zV HK2 h5
   have HE := Hd (HE.out.keepb h5)
   have HB0 := zL HB0 h5
   have HB1 := zL HB1 h5
   clear h4 h5 hx0 hx1
   have hrow := HB0.out
   obtain ⟨c0_0, f0_0, c0_1, f0_1, c0_2, f0_2, c0_3, f0_3, c0_4, f0_4, c0_5, f0_5, c0_6, f0_6, c0_7, f0_7, c0_8, f0_8, c0_9, f0_9⟩ := row10 hrow
   clear hrow
   have hrow := HB1.out
   obtain ⟨c1_0, f1_0, c1_1, f1_1, c1_2, f1_2, c1_3, f1_3, c1_4, f1_4, c1_5, f1_5, c1_6, f1_6, c1_7, f1_7, c1_8, f1_8, c1_9, f1_9⟩ := row10 hrow
   clear hrow
   go_wp2_with fail
   refine bodyPost_ret (v := .agg #[.int .i64 kd, .string sx, .string sy, .pointer qe, .pointer qf, .pointer qc, .slice Aa na ca, .slice At nt ct, .slice Al nl cl, .int .i64 (k : Int)]) (by simp [results, Tryz.results114, go_sem, c0_0, c0_1, c0_2, c0_3, c0_4, c0_5, c0_6, c0_7, c0_8, c0_9, c1_0, c1_1, c1_2, c1_3, c1_4, c1_5, c1_6, c1_7, c1_8, c1_9]) rfl ?_
   refine setsEnd (S := [X0, X1]) (w := w4) ?_ ?_
   ·
    repeat (refine Keeps.setCell ?_ (by simp) _)
    exact Keeps.refl _ _
   ·
    intro W hk
    have hwk := HK2.out.size
    have hwk2 := hk.size
    have hx0 := HX.out.1
    have hx1 := HX.out.2
    have hbl := HBL.out
    have nt0 := nt3 HB0
    have nt1 := nt3 HB1
    have hoff : Off w4 b (fun _ => False) [X0, X1] := fun y hy => .inr (by
     simp at hy
     rcases hy with rfl | rfl
     · exact ⟨id, nt0⟩
     · exact ⟨id, nt1⟩)
    rw [HR.out]
    have hex : SmAt w4 b (fun _ => False) (a.withAt k) [.int .i64 kd, .string sx, .string sy, .pointer qe, .pointer qf, .pointer qc, .slice Aa na ca, .slice At nt ct, .slice Al nl cl, .int .i64 (k : Int)] := HE.out.withAt
    exact ⟨_, rfl, ⟨_, _, rfl, SmAt.keep hk hoff _ _ hex, fun g hg => hg.elim⟩, HP2.out.keepHi hk (by simp; omega), HK2.out.hi hk (by simp; omega)⟩
end Go.Proofs.YtbikifibfaaggaaGreatDoor
