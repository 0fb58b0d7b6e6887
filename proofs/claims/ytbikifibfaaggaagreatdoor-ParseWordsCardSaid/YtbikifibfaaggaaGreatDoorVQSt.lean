import Derived.Test.YtbikifibfaaggaaGreatDoorVMU
import Derived.Test.YtbikifibfaaggaaGreatDoorVPSt
import Derived.Deep.Cut
namespace Go.Proofs.YtbikifibfaaggaaGreatDoor
set_option maxHeartbeats 4000000
set_option maxRecDepth 100000
open Go.RowKit Go.Shelf
open Lx (Tok Tx)
open Px (Ex Cn Sm)
theorem fits_want {n f c : Nat} {s : Tx} {σ : St} (h : σ.fits f c) : (σ.want n s).fits f c := by
 unfold St.want
 split
 ·
  cases σ with
  | live ts o k => exact ⟨h.1, by have := h.2; simp; omega⟩
  | dead z p o => exact h
 ·
  cases σ with
  | live ts o k => exact h.1
  | dead z p o => exact h
theorem fits_name {n f c : Nat} {σ : St} (h : σ.fits f c) : (σ.name n).fits f c := by
 unfold St.name
 split
 ·
  cases σ with
  | live ts o k => exact ⟨h.1, by have := h.2; simp; omega⟩
  | dead z p o => exact h
 ·
  cases σ with
  | live ts o k => exact h.1
  | dead z p o => exact h
theorem fits_sum {n f c : Nat} {σ : St} (h : σ.fits f c) : (σ.lift n kI (esum f)).2.fits f c := by
 cases σ with
 | live ts o k =>
  rcases St.lift_cases n (esum f) ts o k with ⟨a, r, h1, h2⟩ | ⟨z, r, h1, h2⟩
  ·
   rw [h2]
   have := Px.sum_len (show Px.sum f o ts = .ok a r from h1)
   exact ⟨h.1, by have := h.2; omega⟩
  · rw [h2]; exact h.1
 | dead z p o => exact h
theorem lift_was {α : Type} {n : Nat} {kk : α → Nat → Nat} {g : List Tok → Nat → Nat → Px.R α} {σ : St} {a : α} (h : (σ.lift n kk g).1 = some a) : σ.ok = true := by
 cases σ with
 | live ts o k => rfl
 | dead z p o => cases h
theorem want_was {n : Nat} {s : Tx} {σ : St} (h : (σ.want n s).ok = true) : σ.ok = true := by
 cases σ with
 | live ts o k => rfl
 | dead z p o => exact h
theorem qval_any (f : Nat) (w : World) (b n X a : Nat) (x : Tx) (σ : St) (hs : SA w b n σ) (hX : b < X ∧ X < w.heap.size) (hb : w.heap[X]? = some (.cells (sRow 0 (strO x) ⟨#[]⟩ none none none (.slice none 0 0) (.slice none 0 0) (.slice none 0 0) (a : Int)).toArray 60 (0, 0))) (hf : σ.fits f 4) :
 Calls Tryz.prog 119 #[pp b, .pointer (some ⟨X, 0, none⟩)] w (QV w b n X x a (σ.lift n kI (vval f))) := by
 have hf3 : σ.fits f 3 := by
  cases σ with
  | live ts o k => exact ⟨hf.1, by have := hf.2; omega⟩
  | dead z p o => exact hf
 cases σ with
 | dead z p o =>
  have hv : VKind (.dead z p o) false false false := ⟨rfl, rfl, rfl⟩
  rw [vl_sum hv (fun ts o k h => by cases h)]
  exact qval_sum f w b n X a x (.dead z p o) hs hX hb hv (.inl rfl) hf3
 | live ts o k =>
  cases h0 : Px.sees ts [110, 117, 108, 108] with
  | true =>
   rw [vl_null h0]
   exact qval_null f w b n X a x ts o k hs hX hb ⟨h0, sees_other h0 (by decide), sees_other h0 (by decide)⟩
  | false =>
   cases h1 : Px.sees ts [38] with
   | true =>
    rw [vl_addr h0 h1]
    exact qval_addr f w b n X a x ts o k hs hX hb ⟨h0, h1, sees_other h1 (by decide)⟩
   | false =>
    cases h2 : Px.sees ts [42] with
    | true =>
     rw [vl_load h0 h1 h2]
     exact qval_load f w b n X a x ts o k hs hX hb ⟨h0, h1, h2⟩
    | false =>
     have hv : VKind (.live ts o k) false false false := ⟨h0, h1, h2⟩
     have hsum : NoIx (.live ts o k) → (∀ ts' o' k', St.live ts o k = .live ts' o' k' → ¬ (Px.isName ts' = true ∧ (Px.txt ts' 1 = [91] ∨ Px.txt ts' 1 = [40]))) → Calls Tryz.prog 119 #[pp b, .pointer (some ⟨X, 0, none⟩)] w (QV w b n X x a ((St.live ts o k).lift n kI (vval f))) := fun hn hn2 => by
      rw [vl_sum hv hn2]
      exact qval_sum f w b n X a x (.live ts o k) hs hX hb hv hn hf3
     cases hn : Px.isName ts with
     | false => exact hsum (.inl hn) (fun ts' o' k' h => by injection h with h; subst h; rw [hn]; simp)
     | true =>
      match ts, hn, hs, hv, hf, hsum with
      | [], hn, _, _, _, _ => cases hn
      | [t], hn, _, _, _, hsum => exact hsum (.inr ⟨_, _, _, rfl, hn, .inl (by simp)⟩) (fun ts' o' k' h => by injection h with h; subst h; simp [Px.txt])
      | t0 :: t1 :: r, hn, hs, hv, hf, hsum =>
       have hl := hf.2
       simp only [List.length_cons] at hl
       by_cases e1 : t1.text = [91]
       ·
        rw [vl_index hv hn e1]
        exact qval_index f w b n X a x t0 t1 r o k rfl hs hX hb hv hn e1 (by omega) hf.1
       ·
        by_cases e2 : t1.text = [40]
        ·
         rw [vl_call hv hn e2]
         exact qval_call f w b n X a x t0 t1 r o k rfl hs hX hb hv hn e2 (by omega) hf.1
        ·
         exact hsum (.inr ⟨_, _, _, rfl, hn, .inr ⟨t0, t1, r, rfl, e1, e2⟩⟩) (fun ts' o' k' h => by
          injection h with h; subst h
          rintro ⟨_, h | h⟩
          · exact e1 h
          · exact e2 h)
theorem stageS {w w' : World} {b n X0 X : Nat} {cs0 cs1 : Array Value} {σ : St} {Q : World → Prop} (hk : Keeps [] w w') (h0 : w'.heap[X0]? = some (.cells cs0 60 (0, 0))) (h1 : w'.heap[X]? = some (.cells cs1 60 (0, 0))) (hs : SA w' b n σ)
 (h : ∀ W, Keeps [] w W → W.heap[X0]? = some (.cells cs0 60 (0, 0)) → W.heap[X]? = some (.cells cs1 60 (0, 0)) → SA W b n σ → Q W) : Q w' := h w' hk h0 h1 hs
def IsAgg (v : Value) : Prop := ∃ vs, SmSh vs ∧ v = .agg vs.toArray
theorem SA.setN {w : World} {b n : Nat} {ts : List Tok} {o k : Nat} (h : SA w b n (.live ts o k)) (k' : Nat) : SA (w.setCell ⟨b, 6, none⟩ (.int .i64 (k' : Int))) b n (.live ts o k') := by
 obtain ⟨A, cap, g, all, j, h1, h2, h3, h4, h5, h6, h7, h8⟩ := h
 exact ⟨A, cap, g, all, j, by rw [row_set h1]; rfl, h2.keep (S := [b]) ((Keeps.refl _ _).setCell (by simp) _) (by simp; omega), h3, h4, h5, h6, h7, h8⟩
theorem stmt_done {w wv W' : World} {b n lo X0 X : Nat} {R : Option (Sm × Nat) × St} {vs : List Value} (hX0 : X0 = w.heap.size) (hX : X = X0 + 1) (hlo : lo < w.heap.size) (hb : b ≤ lo) (hk : Keeps [b] w wv) (hs : SA wv b n R.2) (hsh : SmSh vs)
 (ha : ∀ p, R.1 = some p → ∃ B, SmAt wv X B p.1 vs ∧ ∀ g, B g → X < g ∧ g < wv.heap.size) (hk2 : Keeps [X0] wv W') : QS (SmBAt w.heap.size) IsAgg lo w b n R (.returned (.agg vs.toArray)) W' := by
 refine ⟨_, rfl, ⟨_, hsh, rfl⟩, hk.hi hk2 (by simp; omega), hs.keepHi hk2 (by simp; omega), fun p h => ?_⟩
 obtain ⟨B, h1, h2⟩ := ha p h
 refine ⟨_, B, rfl, ?_, fun g hg => ⟨by have := (h2 g hg).1; omega, by have := (h2 g hg).2; have := hk2.size; omega⟩⟩
 exact SmAt.low (show lo ≤ X by omega) _ _ (SmAt.keep hk2 (fun y hy => .inl (by simp at hy; omega)) _ _ h1)
theorem stmt_doneX {w wv W' : World} {b n lo X0 X : Nat} {R : Option (Sm × Nat) × St} {vs : List Value} (h : Hid (X0 = w.heap.size ∧ X = X0 + 1 ∧ b ≤ lo ∧ lo < w.heap.size)) (hk : Hid (Keeps [b] w wv)) (hs : Hid (SA wv b n R.2)) (hsh : SmSh vs)
 (ha : ∀ p, R.1 = some p → ∃ B, SmAt wv X B p.1 vs ∧ ∀ g, B g → X < g ∧ g < wv.heap.size) (hk2 : Keeps [X0] wv W') : QS (SmBAt w.heap.size) IsAgg lo w b n R (.returned (.agg vs.toArray)) W' := stmt_done h.out.1 h.out.2.1 h.out.2.2.2 h.out.2.2.1 hk.out hs.out hsh ha hk2
theorem qst_ret (f : Nat) (w : World) (b n : Nat) (ts : List Tok) (o k lo : Nat) (h : SA w b n (.live ts o k)) (hb : b ≤ lo) (hlo : lo < w.heap.size) (hkk : k ≤ 100000) (hk : k < 200) (hname : Px.isName ts = false) (hstar : Px.sees ts [42] = false) (hret : Px.sees ts [114, 101, 116, 117, 114, 110] = true) (hf : 4 * ts.length + 3 ≤ f) (ho2 : o ≤ 1000) :
 Calls Tryz.prog 84 #[pp b] w (QS (SmBAt w.heap.size) IsAgg lo w b n ((((St.live ts.tail o (k + 1)).lift n kI (esum f)).2.want n [59]).gate (((St.live ts.tail o (k + 1)).lift n kI (esum f)).1.map fun e => (.mk 9 [] [] (some e) none none [] [] [] k, k + 1)), ((St.live ts.tail o (k + 1)).lift n kI (esum f)).2.want n [59])) := by
 have HNM := Hd (fun w' (h : SA w' b n (.live ts o k)) => qnamed_any w' b n _ h)
 have hnm : (St.live ts o k).named = false := hname
 rw [hnm] at HNM
 have HIstar := Hd (fun w' (h : SA w' b n (.live ts o k)) => qis_any w' b n _ h [42])
 have histar : (St.live ts o k).sees [42] = false := hstar
 rw [histar] at HIstar
 have HIret := Hd (fun w' (h : SA w' b n (.live ts o k)) => qis_any w' b n _ h [114, 101, 116, 117, 114, 110])
 have hiret : (St.live ts o k).sees [114, 101, 116, 117, 114, 110] = true := hret
 rw [hiret] at HIret
 have HT1 := Hd (fun w' (h : SA w' b n (.live ts o (k + 1))) => qtake_any w' b n _ h [114, 101, 116, 117, 114, 110])
 have hse : (St.live ts o (k + 1)).sees [114, 101, 116, 117, 114, 110] = true := hret
 unfold St.take at HT1
 rw [if_pos hse, hse] at HT1
 simp only [St.adv] at HT1
 have HQ := Hd (fun w' (h : SA w' b n (.live ts.tail o (k + 1))) (X : Nat) (hX : b ≤ X ∧ X < w'.heap.size) => (qe f).sum w' b n (.live ts.tail o (k + 1)) X h ⟨ho2, by simp; omega⟩ hX.1 hX.2)
 obtain ⟨P, hP⟩ : ∃ P, P = (St.live ts.tail o (k + 1)).lift n kI (esum f) := ⟨_, rfl⟩
 rw [← hP] at HQ ⊢
 have HW := Hd (fun w' (h : SA w' b n P.2) => qwant_any w' b n P.2 h [59])
 obtain ⟨X0, hX0⟩ : ∃ x, x = w.heap.size := ⟨_, rfl⟩
 obtain ⟨X, hX⟩ : ∃ x, x = X0 + 1 := ⟨_, rfl⟩
 obtain ⟨c6, H1, HB0, HB1⟩ := start_q h hX0 hX
 have HX := and4 hX0 hX hb hlo
 obtain ⟨z0, hz0⟩ : ∃ z, z = w.heap.size := ⟨_, rfl⟩
 rw [← hz0]
 have HZ := Hd hz0
 clear h hX hX0 hz0 hb hlo hname hstar hret hnm histar hiret hse hP
 go_enter Tryz.func84, Tryz.ntmps84
 go_upto_region 2 with fail
 refine stage_q HB0 HB1 H1 (((Keeps.refl _ _).alloc _).alloc _) ?_
 clear c6 H1 HB0 HB1
 intro v0 HK HB0 HB HS
 have hx0 : w.heap.size = X0 := HX.out.1.symm
 have hx1 : X0 + 1 = X := HX.out.2.1.symm
 simp only [hx0, hx1]
 clear hx0 hx1
 go_wp2_with fail
 refine (cT (HNM.out _ HS.out) HK HB HB0 HS) fun v1 HK HB HB0 HS => ?_
 go_wp2_with fail
 refine (cT (HIstar.out _ HS.out) HK HB HB0 HS) fun v2 HK HB HB0 HS => ?_
 go_wp2_with fail
 refine (cT (HIret.out _ HS.out) HK HB HB0 HS) fun v3 HK HB HB0 HS => ?_
 obtain ⟨cs9, hrow9, -, -, -, -, c6, hfz9⟩ := HS.out.row
 have f6 := hfz9 6
 have hlt9 : decide ((200 : Int) ≤ (k : Int)) = false := by simp; omega
 have HS := Hd (HS.out.setN (k + 1))
 clear hrow9 hfz9
 have hk : Keeps [b] v3 (v3.setCell ⟨b, 6, none⟩ (.int .i64 ((k + 1 : Nat) : Int))) := (Keeps.refl [b] _).set1 _ _
 have HK := zT HK hk
 have HB := zB HB hk
 have HB0 := zB HB0 hk
 clear hk
 go_wp2_with fail
 refine (cU (HT1.out _ HS.out) HK HB HB0) fun v4 HK HB HB0 HS => ?_
 clear c6 f6 hlt9
 go_wp2_with fail
 refine (HQ.out _ HS.out X ⟨by have := HX.out; omega, block_lt HB.out⟩).mono ?_
 rintro e v5 ⟨v, rfl, ⟨q, rfl⟩, hk, hs, ha⟩
 have HK := zT HK hk
 have HB := zB HB hk
 have HB0 := zB HB0 hk
 have HA := Hd ha
 have HS := Hd hs
 clear hk hs ha
 obtain ⟨cc0, ff0⟩ := rowi HB.out 0
 obtain ⟨cc3, ff3⟩ := rowi HB.out 3
 have hk : Keeps [X] v5 ((v5.setCell ⟨X, 0, none⟩ (.int .i64 9)).setCell ⟨X, 3, none⟩ (.pointer q)) := (((Keeps.refl [X] _).set1 _ _).set1 _ _)
 have HB := Hd (show ((v5.setCell ⟨X, 0, none⟩ (.int .i64 9)).setCell ⟨X, 3, none⟩ (.pointer q)).heap[X]? = some (.cells (sRow 9 ⟨#[]⟩ ⟨#[]⟩ q none none (.slice none 0 0) (.slice none 0 0) (.slice none 0 0) (k : Int)).toArray 60 (0, 0)) from by
  have h0 := row_set HB.out 0 (.int .i64 9)
  have h1 := row_set h0 3 (.pointer q)
  exact h1)
 have HB0 := zB HB0 hk
 have HK := zH HK hk
 have HS := zI HS hk
 have HA := Hd (fun q h => (HA.out q h).keep hk zY)
 clear hk
 go_wp2_with fail
 refine (HW.out _ HS.out).mono ?_
 rintro e v6 ⟨rfl, hs, hk⟩
 have HK := zT HK hk
 have HB := zB HB hk
 have HB0 := zB HB0 hk
 have HA := Hd (fun q h => (HA.out q h).keep hk zY)
 have HS := Hd hs
 clear hs hk cc0 ff0 cc3 ff3
 obtain ⟨cc0, ff0, cc1, ff1, cc2, ff2, cc3, ff3, cc4, ff4, cc5, ff5, cc6, ff6, cc7, ff7, cc8, ff8, cc9, ff9⟩ := row10 HB.out
 obtain ⟨c00, f00, c01, f01, c02, f02, c03, f03, c04, f04, c05, f05, c06, f06, c07, f07, c08, f08, c09, f09⟩ := row10 HB0.out
 have hne1 : X0 ≠ X := zX
 have hne2 : X ≠ X0 := zX
 go_wp2_with fail
 refine bodyPost_ret (v := .agg (sRow 9 ⟨#[]⟩ ⟨#[]⟩ q none none (.slice none 0 0) (.slice none 0 0) (.slice none 0 0) (k : Int)).toArray) (by simp [results, Tryz.results84, go_sem, cc0, cc1, cc2, cc3, cc4, cc5, cc6, cc7, cc8, cc9, c00, c01, c02, c03, c04, c05, c06, c07, c08, c09]) rfl ?_
 refine setsEnd (S := [X0]) (w := v6) ?_ ?_
 · exact (((((((((((Keeps.refl [X0] _).set1 _ _).set1 _ _).set1 _ _).set1 _ _).set1 _ _).set1 _ _).set1 _ _).set1 _ _).set1 _ _).set1 _ _)
 ·
  intro W9 hk
  rw [HZ.out]
  refine stmt_doneX HX HK HS ⟨_, _, _, _, _, _, _, _, _, _, _, _, _, _, _, _, rfl⟩ (fun p h => ?_) hk
  obtain ⟨e0, h1, rfl⟩ := Option.map_eq_some_iff.1 (gate_some h)
  exact ⟨fun _ => False, ⟨_, _, _, _, _, _, rfl, HA.out e0 h1, rfl, rfl, qnoArgs, qnoSs, qnoSs⟩, fun g hg => hg.elim⟩
theorem qst_assert (f : Nat) (w : World) (b n : Nat) (ts : List Tok) (o k lo : Nat) (h : SA w b n (.live ts o k)) (hb : b ≤ lo) (hlo : lo < w.heap.size) (hkk : k ≤ 100000) (hk : k < 200) (hname : Px.isName ts = false) (hstar : Px.sees ts [42] = false) (hret : Px.sees ts [114, 101, 116, 117, 114, 110] = false) (hassert : Px.sees ts [97, 115, 115, 101, 114, 116] = true) (hif : Px.sees ts [105, 102] = false) (hwhile : Px.sees ts [119, 104, 105, 108, 101] = false) (hf : 4 * ts.length + 7 ≤ f) (ho2 : o ≤ 1000) {P : Option Cn × St} (hP : P = ((St.live ts.tail o (k + 1)).want n [40]).lift n kI (ccond f)) :
 Calls Tryz.prog 84 #[pp b] w (QS (SmBAt w.heap.size) IsAgg lo w b n (((P.2.want n [41]).want n [59]).gate (P.1.map fun e => (.mk 12 [] [] none none (some e) [] [] [] k, k + 1)), (P.2.want n [41]).want n [59])) := by
 have HNM := Hd (fun w' (h : SA w' b n (.live ts o k)) => qnamed_any w' b n _ h)
 have hnm : (St.live ts o k).named = false := hname
 rw [hnm] at HNM
 have HIstar := Hd (fun w' (h : SA w' b n (.live ts o k)) => qis_any w' b n _ h [42])
 have histar : (St.live ts o k).sees [42] = false := hstar
 rw [histar] at HIstar
 have HIret := Hd (fun w' (h : SA w' b n (.live ts o k)) => qis_any w' b n _ h [114, 101, 116, 117, 114, 110])
 have hiret : (St.live ts o k).sees [114, 101, 116, 117, 114, 110] = false := hret
 rw [hiret] at HIret
 have HIassert := Hd (fun w' (h : SA w' b n (.live ts o k)) => qis_any w' b n _ h [97, 115, 115, 101, 114, 116])
 have hiassert : (St.live ts o k).sees [97, 115, 115, 101, 114, 116] = true := hassert
 rw [hiassert] at HIassert
 have HTret := Hd (fun w' (h : SA w' b n (.live ts o (k + 1))) => qtake_any w' b n _ h [114, 101, 116, 117, 114, 110])
 have htret : (St.live ts o (k + 1)).sees [114, 101, 116, 117, 114, 110] = false := hret
 unfold St.take at HTret
 rw [htret] at HTret
 simp only [Bool.false_eq_true, if_false] at HTret
 have HTassert := Hd (fun w' (h : SA w' b n (.live ts o (k + 1))) => qtake_any w' b n _ h [97, 115, 115, 101, 114, 116])
 have htassert : (St.live ts o (k + 1)).sees [97, 115, 115, 101, 114, 116] = true := hassert
 unfold St.take at HTassert
 rw [if_pos htassert, htassert] at HTassert
 simp only [St.adv] at HTassert
 have HW1 := Hd (fun w' (h : SA w' b n (.live ts.tail o (k + 1))) => qwant_any w' b n _ h [40])
 have hfit : ((St.live ts.tail o (k + 1)).want n [40]).fits f 7 := fits_want ⟨ho2, by simp; omega⟩
 have HQ := Hd (fun w' (h : SA w' b n ((St.live ts.tail o (k + 1)).want n [40])) (X : Nat) (hX : b ≤ X ∧ X < w'.heap.size) => (qc f).cond w' b n ((St.live ts.tail o (k + 1)).want n [40]) X h hfit hX.1 hX.2)
 rw [← hP] at HQ
 have HW2 := Hd (fun w' (h : SA w' b n P.2) => qwant_any w' b n _ h [41])
 have HW3 := Hd (fun w' (h : SA w' b n (P.2.want n [41])) => qwant_any w' b n _ h [59])
 obtain ⟨X0, hX0⟩ : ∃ x, x = w.heap.size := ⟨_, rfl⟩
 obtain ⟨X, hX⟩ : ∃ x, x = X0 + 1 := ⟨_, rfl⟩
 obtain ⟨c6, H1, HB0, HB1⟩ := start_q h hX0 hX
 have HX := and4 hX0 hX hb hlo
 obtain ⟨z0, hz0⟩ : ∃ z, z = w.heap.size := ⟨_, rfl⟩
 rw [← hz0]
 have HZ := Hd hz0
 clear h hX hX0 hz0 hb hlo hname hstar hret hassert hif hwhile hnm histar hiret hiassert htret htassert hP hfit
 go_enter Tryz.func84, Tryz.ntmps84
 go_upto_region 2 with fail
 refine stage_q HB0 HB1 H1 (((Keeps.refl _ _).alloc _).alloc _) ?_
 clear c6 H1 HB0 HB1
 intro v0 HK HB0 HB HS
 have hx0 : w.heap.size = X0 := HX.out.1.symm
 have hx1 : X0 + 1 = X := HX.out.2.1.symm
 simp only [hx0, hx1]
 clear hx0 hx1
 go_wp2_with fail
 refine (cT (HNM.out _ HS.out) HK HB HB0 HS) fun v1 HK HB HB0 HS => ?_
 go_wp2_with fail
 refine (cT (HIstar.out _ HS.out) HK HB HB0 HS) fun v2 HK HB HB0 HS => ?_
 go_wp2_with fail
 refine (cT (HIret.out _ HS.out) HK HB HB0 HS) fun v3 HK HB HB0 HS => ?_
 go_wp2_with fail
 refine (cT (HIassert.out _ HS.out) HK HB HB0 HS) fun v4 HK HB HB0 HS => ?_
 obtain ⟨cs9, hrow9, -, -, -, -, c6, hfz9⟩ := HS.out.row
 have f6 := hfz9 6
 have hlt9 : decide ((200 : Int) ≤ (k : Int)) = false := by simp; omega
 have HS := Hd (HS.out.setN (k + 1))
 clear hrow9 hfz9
 have hk : Keeps [b] v4 (v4.setCell ⟨b, 6, none⟩ (.int .i64 ((k + 1 : Nat) : Int))) := (Keeps.refl [b] _).set1 _ _
 have HK := zT HK hk
 have HB := zB HB hk
 have HB0 := zB HB0 hk
 clear hk
 go_wp2_with fail
 refine (cU (HTret.out _ HS.out) HK HB HB0) fun v5 HK HB HB0 HS => ?_
 clear c6 f6 hlt9
 go_wp2_with fail
 refine (cU (HTassert.out _ HS.out) HK HB HB0) fun v6 HK HB HB0 HS => ?_
 go_wp2_with fail
 refine (cU (HW1.out _ HS.out) HK HB HB0) fun v7 HK HB HB0 HS => ?_
 go_wp2_with fail
 refine (HQ.out _ HS.out X ⟨by have := HX.out; omega, block_lt HB.out⟩).mono ?_
 rintro e v8 ⟨v, rfl, ⟨q, rfl⟩, hk, hs, ha⟩
 have HK := zT HK hk
 have HB := zB HB hk
 have HB0 := zB HB0 hk
 have HA := Hd ha
 have HS := Hd hs
 clear hk hs ha
 obtain ⟨cc0, ff0⟩ := rowi HB.out 0
 obtain ⟨cc5, ff5⟩ := rowi HB.out 5
 have hk : Keeps [X] v8 ((v8.setCell ⟨X, 0, none⟩ (.int .i64 12)).setCell ⟨X, 5, none⟩ (.pointer q)) := (((Keeps.refl [X] _).set1 _ _).set1 _ _)
 have HB := Hd (show ((v8.setCell ⟨X, 0, none⟩ (.int .i64 12)).setCell ⟨X, 5, none⟩ (.pointer q)).heap[X]? = some (.cells (sRow 12 ⟨#[]⟩ ⟨#[]⟩ none none q (.slice none 0 0) (.slice none 0 0) (.slice none 0 0) (k : Int)).toArray 60 (0, 0)) from by
  have h0 := row_set HB.out 0 (.int .i64 12)
  have h1 := row_set h0 5 (.pointer q)
  exact h1)
 have HB0 := zB HB0 hk
 have HK := zH HK hk
 have HS := zI HS hk
 have HA := Hd (fun q h => (HA.out q h).keep hk zY)
 clear hk
 go_wp2_with fail
 refine (HW2.out _ HS.out).mono ?_
 rintro e v9 ⟨rfl, hs, hk⟩
 have HK := zT HK hk
 have HB := zB HB hk
 have HB0 := zB HB0 hk
 have HA := Hd (fun q h => (HA.out q h).keep hk zY)
 have HS := Hd hs
 clear hs hk
 clear cc0 ff0 cc5 ff5
 go_wp2_with fail
 refine (HW3.out _ HS.out).mono ?_
 rintro e v10 ⟨rfl, hs, hk⟩
 have HK := zT HK hk
 have HB := zB HB hk
 have HB0 := zB HB0 hk
 have HA := Hd (fun q h => (HA.out q h).keep hk zY)
 have HS := Hd hs
 clear hs hk
 obtain ⟨cc0, ff0, cc1, ff1, cc2, ff2, cc3, ff3, cc4, ff4, cc5, ff5, cc6, ff6, cc7, ff7, cc8, ff8, cc9, ff9⟩ := row10 HB.out
 obtain ⟨c00, f00, c01, f01, c02, f02, c03, f03, c04, f04, c05, f05, c06, f06, c07, f07, c08, f08, c09, f09⟩ := row10 HB0.out
 have hne1 : X0 ≠ X := zX
 have hne2 : X ≠ X0 := zX
 go_wp2_with fail
 refine bodyPost_ret (v := .agg (sRow 12 ⟨#[]⟩ ⟨#[]⟩ none none q (.slice none 0 0) (.slice none 0 0) (.slice none 0 0) (k : Int)).toArray) (by simp [results, Tryz.results84, go_sem, cc0, cc1, cc2, cc3, cc4, cc5, cc6, cc7, cc8, cc9, c00, c01, c02, c03, c04, c05, c06, c07, c08, c09]) rfl ?_
 refine setsEnd (S := [X0]) (w := v10) ?_ ?_
 · exact (((((((((((Keeps.refl [X0] _).set1 _ _).set1 _ _).set1 _ _).set1 _ _).set1 _ _).set1 _ _).set1 _ _).set1 _ _).set1 _ _).set1 _ _)
 ·
  intro W9 hk
  rw [HZ.out]
  refine stmt_doneX HX HK HS ⟨_, _, _, _, _, _, _, _, _, _, _, _, _, _, _, _, rfl⟩ (fun p h => ?_) hk
  obtain ⟨e0, h1, rfl⟩ := Option.map_eq_some_iff.1 (gate_some h)
  exact ⟨fun _ => False, ⟨_, _, _, _, _, _, rfl, rfl, rfl, HA.out e0 h1, qnoArgs, qnoSs, qnoSs⟩, fun g hg => hg.elim⟩
theorem qst_star (f : Nat) (w : World) (b n : Nat) (ts : List Tok) (o k lo : Nat) (h : SA w b n (.live ts o k)) (hb : b ≤ lo) (hlo : lo < w.heap.size) (hkk : k ≤ 100000) (hk : k < 200) (hname : Px.isName ts = false) (hstar : Px.sees ts [42] = true) (hret : Px.sees ts [114, 101, 116, 117, 114, 110] = false) (hassert : Px.sees ts [97, 115, 115, 101, 114, 116] = false) (hif : Px.sees ts [105, 102] = false) (hwhile : Px.sees ts [119, 104, 105, 108, 101] = false) (hf : 4 * ts.length + 7 ≤ f) (ho2 : o ≤ 1000) {P : Option Ex × St} (hP : P = (((St.live ts.tail o (k + 1)).name n).want n [61]).lift n kI (esum f)) :
 Calls Tryz.prog 84 #[pp b] w (QS (SmBAt w.heap.size) IsAgg lo w b n ((P.2.want n [59]).gate (P.1.map fun e => (.mk 5 (Px.txt ts.tail 0) [] (some e) none none [] [] [] k, k + 1)), P.2.want n [59])) := by
 have HNM := Hd (fun w' (h : SA w' b n (.live ts o k)) => qnamed_any w' b n _ h)
 have hnm : (St.live ts o k).named = false := hname
 rw [hnm] at HNM
 have HIstar := Hd (fun w' (h : SA w' b n (.live ts o k)) => qis_any w' b n _ h [42])
 have histar : (St.live ts o k).sees [42] = true := hstar
 rw [histar] at HIstar
 have HTret := Hd (fun w' (h : SA w' b n (.live ts o (k + 1))) => qtake_any w' b n _ h [114, 101, 116, 117, 114, 110])
 have htret : (St.live ts o (k + 1)).sees [114, 101, 116, 117, 114, 110] = false := hret
 unfold St.take at HTret
 rw [htret] at HTret
 simp only [Bool.false_eq_true, if_false] at HTret
 have HTassert := Hd (fun w' (h : SA w' b n (.live ts o (k + 1))) => qtake_any w' b n _ h [97, 115, 115, 101, 114, 116])
 have htassert : (St.live ts o (k + 1)).sees [97, 115, 115, 101, 114, 116] = false := hassert
 unfold St.take at HTassert
 rw [htassert] at HTassert
 simp only [Bool.false_eq_true, if_false] at HTassert
 have HJif := Hd (fun w' (h : SA w' b n (.live ts o (k + 1))) => qis_any w' b n _ h [105, 102])
 have hjif : (St.live ts o (k + 1)).sees [105, 102] = false := hif
 rw [hjif] at HJif
 have HJwhile := Hd (fun w' (h : SA w' b n (.live ts o (k + 1))) => qis_any w' b n _ h [119, 104, 105, 108, 101])
 have hjwhile : (St.live ts o (k + 1)).sees [119, 104, 105, 108, 101] = false := hwhile
 rw [hjwhile] at HJwhile
 have HTstar := Hd (fun w' (h : SA w' b n (.live ts o (k + 1))) => qtake_any w' b n _ h [42])
 have htstar : (St.live ts o (k + 1)).sees [42] = true := hstar
 unfold St.take at HTstar
 rw [if_pos htstar, htstar] at HTstar
 simp only [St.adv] at HTstar
 have HNA := Hd (fun w' (h : SA w' b n (.live ts.tail o (k + 1))) => qname_any w' b n _ h)
 have HW1 := Hd (fun w' (h : SA w' b n ((St.live ts.tail o (k + 1)).name n)) => qwant_any w' b n _ h [61])
 have hfit : (((St.live ts.tail o (k + 1)).name n).want n [61]).fits f 3 := fits_want (fits_name ⟨ho2, by simp; omega⟩)
 have hnm9 : ∀ a, P.1 = some a → Px.isName ts.tail = true := fun a h => by rw [hP] at h; exact name_ok (want_was (lift_was h))
 have HN9 := Hd hnm9
 have HQ := Hd (fun w' (h : SA w' b n (((St.live ts.tail o (k + 1)).name n).want n [61])) (X : Nat) (hX : b ≤ X ∧ X < w'.heap.size) => (qe f).sum w' b n (((St.live ts.tail o (k + 1)).name n).want n [61]) X h hfit hX.1 hX.2)
 rw [← hP] at HQ
 have HW3 := Hd (fun w' (h : SA w' b n P.2) => qwant_any w' b n _ h [59])
 obtain ⟨X0, hX0⟩ : ∃ x, x = w.heap.size := ⟨_, rfl⟩
 obtain ⟨X, hX⟩ : ∃ x, x = X0 + 1 := ⟨_, rfl⟩
 obtain ⟨c6, H1, HB0, HB1⟩ := start_q h hX0 hX
 have HX := and4 hX0 hX hb hlo
 obtain ⟨z0, hz0⟩ : ∃ z, z = w.heap.size := ⟨_, rfl⟩
 rw [← hz0]
 have HZ := Hd hz0
 clear h hX hX0 hz0 hb hlo hname hstar hret hassert hif hwhile hnm histar htret htassert hjif hjwhile htstar hP hfit hnm9
 go_enter Tryz.func84, Tryz.ntmps84
 go_upto_region 2 with fail
 refine stage_q HB0 HB1 H1 (((Keeps.refl _ _).alloc _).alloc _) ?_
 clear c6 H1 HB0 HB1
 intro v0 HK HB0 HB HS
 have hx0 : w.heap.size = X0 := HX.out.1.symm
 have hx1 : X0 + 1 = X := HX.out.2.1.symm
 simp only [hx0, hx1]
 clear hx0 hx1
 go_wp2_with fail
 refine (cT (HNM.out _ HS.out) HK HB HB0 HS) fun v1 HK HB HB0 HS => ?_
 go_wp2_with fail
 refine (cT (HIstar.out _ HS.out) HK HB HB0 HS) fun v2 HK HB HB0 HS => ?_
 obtain ⟨cs9, hrow9, -, -, -, -, c6, hfz9⟩ := HS.out.row
 have f6 := hfz9 6
 have hlt9 : decide ((200 : Int) ≤ (k : Int)) = false := by simp; omega
 have HS := Hd (HS.out.setN (k + 1))
 clear hrow9 hfz9
 have hk : Keeps [b] v2 (v2.setCell ⟨b, 6, none⟩ (.int .i64 ((k + 1 : Nat) : Int))) := (Keeps.refl [b] _).set1 _ _
 have HK := zT HK hk
 have HB := zB HB hk
 have HB0 := zB HB0 hk
 clear hk
 go_wp2_with fail
 refine (cU (HTret.out _ HS.out) HK HB HB0) fun v3 HK HB HB0 HS => ?_
 clear c6 f6 hlt9
 go_wp2_with fail
 refine (cU (HTassert.out _ HS.out) HK HB HB0) fun v4 HK HB HB0 HS => ?_
 go_wp2_with fail
 refine (cT (HJif.out _ HS.out) HK HB HB0 HS) fun v5 HK HB HB0 HS => ?_
 go_wp2_with fail
 refine (cT (HJwhile.out _ HS.out) HK HB HB0 HS) fun v6 HK HB HB0 HS => ?_
 go_wp2_with fail
 refine (cU (HTstar.out _ HS.out) HK HB HB0) fun v7 HK HB HB0 HS => ?_
 go_wp2_with fail
 refine (HNA.out _ HS.out).mono ?_
 rintro e v8 ⟨⟨s, rfl, hnm⟩, hs, hk⟩
 have HK := zT HK hk
 have HB := zB HB hk
 have HB0 := zB HB0 hk
 have HN := Hd hnm
 obtain ⟨sx, hsx⟩ : ∃ y, y = strO s := ⟨_, rfl⟩
 have HSX := Hd hsx
 rw [← hsx]
 have HS := Hd hs
 clear hs hk hnm hsx
 obtain ⟨cc0, ff0⟩ := rowi HB.out 0
 obtain ⟨cc1, ff1⟩ := rowi HB.out 1
 have hk : Keeps [X] v8 ((v8.setCell ⟨X, 0, none⟩ (.int .i64 5)).setCell ⟨X, 1, none⟩ (.string sx)) := (((Keeps.refl [X] _).set1 _ _).set1 _ _)
 have HB := Hd (show ((v8.setCell ⟨X, 0, none⟩ (.int .i64 5)).setCell ⟨X, 1, none⟩ (.string sx)).heap[X]? = some (.cells (sRow 5 sx ⟨#[]⟩ none none none (.slice none 0 0) (.slice none 0 0) (.slice none 0 0) (k : Int)).toArray 60 (0, 0)) from by
  have h0 := row_set HB.out 0 (.int .i64 5)
  have h1 := row_set h0 1 (.string sx)
  exact h1)
 have HB0 := zB HB0 hk
 have HK := zH HK hk
 have HS := zI HS hk
 clear hk
 go_wp2_with fail
 refine (cU (HW1.out _ HS.out) HK HB HB0) fun v9 HK HB HB0 HS => ?_
 clear cc0 ff0 cc1 ff1
 go_wp2_with fail
 refine (HQ.out _ HS.out X ⟨by have := HX.out; omega, block_lt HB.out⟩).mono ?_
 rintro e v10 ⟨v, rfl, ⟨q, rfl⟩, hk, hs, ha⟩
 have HK := zT HK hk
 have HB := zB HB hk
 have HB0 := zB HB0 hk
 have HA := Hd ha
 have HS := Hd hs
 clear hk hs ha
 obtain ⟨cc3, ff3⟩ := rowi HB.out 3
 have hk : Keeps [X] v10 (v10.setCell ⟨X, 3, none⟩ (.pointer q)) := ((Keeps.refl [X] _).set1 _ _)
 have HB := Hd (show (v10.setCell ⟨X, 3, none⟩ (.pointer q)).heap[X]? = some (.cells (sRow 5 sx ⟨#[]⟩ q none none (.slice none 0 0) (.slice none 0 0) (.slice none 0 0) (k : Int)).toArray 60 (0, 0)) from by
  have h0 := row_set HB.out 3 (.pointer q)
  exact h0)
 have HB0 := zB HB0 hk
 have HK := zH HK hk
 have HS := zI HS hk
 have HA := Hd (fun q h => (HA.out q h).keep hk zY)
 clear hk
 go_wp2_with fail
 refine (HW3.out _ HS.out).mono ?_
 rintro e v11 ⟨rfl, hs, hk⟩
 have HK := zT HK hk
 have HB := zB HB hk
 have HB0 := zB HB0 hk
 have HA := Hd (fun q h => (HA.out q h).keep hk zY)
 have HS := Hd hs
 clear hs hk
 clear cc3 ff3
 obtain ⟨cc0, ff0, cc1, ff1, cc2, ff2, cc3, ff3, cc4, ff4, cc5, ff5, cc6, ff6, cc7, ff7, cc8, ff8, cc9, ff9⟩ := row10 HB.out
 obtain ⟨c00, f00, c01, f01, c02, f02, c03, f03, c04, f04, c05, f05, c06, f06, c07, f07, c08, f08, c09, f09⟩ := row10 HB0.out
 have hne1 : X0 ≠ X := zX
 have hne2 : X ≠ X0 := zX
 go_wp2_with fail
 refine bodyPost_ret (v := .agg (sRow 5 sx ⟨#[]⟩ q none none (.slice none 0 0) (.slice none 0 0) (.slice none 0 0) (k : Int)).toArray) (by simp [results, Tryz.results84, go_sem, cc0, cc1, cc2, cc3, cc4, cc5, cc6, cc7, cc8, cc9, c00, c01, c02, c03, c04, c05, c06, c07, c08, c09]) rfl ?_
 refine setsEnd (S := [X0]) (w := v11) ?_ ?_
 · exact (((((((((((Keeps.refl [X0] _).set1 _ _).set1 _ _).set1 _ _).set1 _ _).set1 _ _).set1 _ _).set1 _ _).set1 _ _).set1 _ _).set1 _ _)
 ·
  intro W9 hk
  rw [HZ.out]
  refine stmt_doneX HX HK HS ⟨_, _, _, _, _, _, _, _, _, _, _, _, _, _, _, _, rfl⟩ (fun p h => ?_) hk
  obtain ⟨e0, h1, rfl⟩ := Option.map_eq_some_iff.1 (gate_some h)
  have hx9 := HN.out _ _ _ rfl (HN9.out e0 h1)
  rw [HSX.out, hx9]
  exact ⟨fun _ => False, ⟨_, _, _, _, _, _, rfl, HA.out e0 h1, rfl, rfl, qnoArgs, qnoSs, qnoSs⟩, fun g hg => hg.elim⟩
theorem qst_star2 (f : Nat) (w : World) (b n : Nat) (ts : List Tok) (o k lo : Nat) (h : SA w b n (.live ts o k)) (hb : b ≤ lo) (hlo : lo < w.heap.size) (hkk : k ≤ 100000) (hk : k < 200) (hname : Px.isName ts = true) (hstar : Px.sees ts [42] = true) (hret : Px.sees ts [114, 101, 116, 117, 114, 110] = false) (hassert : Px.sees ts [97, 115, 115, 101, 114, 116] = false) (hif : Px.sees ts [105, 102] = false) (hwhile : Px.sees ts [119, 104, 105, 108, 101] = false) (hf : 4 * ts.length + 7 ≤ f) (ho2 : o ≤ 1000) {P : Option Ex × St} (hP : P = (((St.live ts.tail o (k + 1)).name n).want n [61]).lift n kI (esum f)) :
 Calls Tryz.prog 84 #[pp b] w (QS (SmBAt w.heap.size) IsAgg lo w b n ((P.2.want n [59]).gate (P.1.map fun e => (.mk 5 (Px.txt ts.tail 0) [] (some e) none none [] [] [] k, k + 1)), P.2.want n [59])) := by
 have HNM := Hd (fun w' (h : SA w' b n (.live ts o k)) => qnamed_any w' b n _ h)
 have hnm : (St.live ts o k).named = true := hname
 rw [hnm] at HNM
 have HTret := Hd (fun w' (h : SA w' b n (.live ts o (k + 1))) => qtake_any w' b n _ h [114, 101, 116, 117, 114, 110])
 have htret : (St.live ts o (k + 1)).sees [114, 101, 116, 117, 114, 110] = false := hret
 unfold St.take at HTret
 rw [htret] at HTret
 simp only [Bool.false_eq_true, if_false] at HTret
 have HTassert := Hd (fun w' (h : SA w' b n (.live ts o (k + 1))) => qtake_any w' b n _ h [97, 115, 115, 101, 114, 116])
 have htassert : (St.live ts o (k + 1)).sees [97, 115, 115, 101, 114, 116] = false := hassert
 unfold St.take at HTassert
 rw [htassert] at HTassert
 simp only [Bool.false_eq_true, if_false] at HTassert
 have HJif := Hd (fun w' (h : SA w' b n (.live ts o (k + 1))) => qis_any w' b n _ h [105, 102])
 have hjif : (St.live ts o (k + 1)).sees [105, 102] = false := hif
 rw [hjif] at HJif
 have HJwhile := Hd (fun w' (h : SA w' b n (.live ts o (k + 1))) => qis_any w' b n _ h [119, 104, 105, 108, 101])
 have hjwhile : (St.live ts o (k + 1)).sees [119, 104, 105, 108, 101] = false := hwhile
 rw [hjwhile] at HJwhile
 have HTstar := Hd (fun w' (h : SA w' b n (.live ts o (k + 1))) => qtake_any w' b n _ h [42])
 have htstar : (St.live ts o (k + 1)).sees [42] = true := hstar
 unfold St.take at HTstar
 rw [if_pos htstar, htstar] at HTstar
 simp only [St.adv] at HTstar
 have HNA := Hd (fun w' (h : SA w' b n (.live ts.tail o (k + 1))) => qname_any w' b n _ h)
 have HW1 := Hd (fun w' (h : SA w' b n ((St.live ts.tail o (k + 1)).name n)) => qwant_any w' b n _ h [61])
 have hfit : (((St.live ts.tail o (k + 1)).name n).want n [61]).fits f 3 := fits_want (fits_name ⟨ho2, by simp; omega⟩)
 have hnm9 : ∀ a, P.1 = some a → Px.isName ts.tail = true := fun a h => by rw [hP] at h; exact name_ok (want_was (lift_was h))
 have HN9 := Hd hnm9
 have HQ := Hd (fun w' (h : SA w' b n (((St.live ts.tail o (k + 1)).name n).want n [61])) (X : Nat) (hX : b ≤ X ∧ X < w'.heap.size) => (qe f).sum w' b n (((St.live ts.tail o (k + 1)).name n).want n [61]) X h hfit hX.1 hX.2)
 rw [← hP] at HQ
 have HW3 := Hd (fun w' (h : SA w' b n P.2) => qwant_any w' b n _ h [59])
 obtain ⟨X0, hX0⟩ : ∃ x, x = w.heap.size := ⟨_, rfl⟩
 obtain ⟨X, hX⟩ : ∃ x, x = X0 + 1 := ⟨_, rfl⟩
 obtain ⟨c6, H1, HB0, HB1⟩ := start_q h hX0 hX
 have HX := and4 hX0 hX hb hlo
 obtain ⟨z0, hz0⟩ : ∃ z, z = w.heap.size := ⟨_, rfl⟩
 rw [← hz0]
 have HZ := Hd hz0
 clear h hX hX0 hz0 hb hlo hname hstar hret hassert hif hwhile hnm htret htassert hjif hjwhile htstar hP hfit hnm9
 go_enter Tryz.func84, Tryz.ntmps84
 go_upto_region 2 with fail
 refine stage_q HB0 HB1 H1 (((Keeps.refl _ _).alloc _).alloc _) ?_
 clear c6 H1 HB0 HB1
 intro v0 HK HB0 HB HS
 have hx0 : w.heap.size = X0 := HX.out.1.symm
 have hx1 : X0 + 1 = X := HX.out.2.1.symm
 simp only [hx0, hx1]
 clear hx0 hx1
 go_wp2_with fail
 refine (cT (HNM.out _ HS.out) HK HB HB0 HS) fun v1 HK HB HB0 HS => ?_
 obtain ⟨cs9, hrow9, -, -, -, -, c6, hfz9⟩ := HS.out.row
 have f6 := hfz9 6
 have hlt9 : decide ((200 : Int) ≤ (k : Int)) = false := by simp; omega
 have HS := Hd (HS.out.setN (k + 1))
 clear hrow9 hfz9
 have hk : Keeps [b] v1 (v1.setCell ⟨b, 6, none⟩ (.int .i64 ((k + 1 : Nat) : Int))) := (Keeps.refl [b] _).set1 _ _
 have HK := zT HK hk
 have HB := zB HB hk
 have HB0 := zB HB0 hk
 clear hk
 go_wp2_with fail
 refine (cU (HTret.out _ HS.out) HK HB HB0) fun v2 HK HB HB0 HS => ?_
 clear c6 f6 hlt9
 go_wp2_with fail
 refine (cU (HTassert.out _ HS.out) HK HB HB0) fun v3 HK HB HB0 HS => ?_
 go_wp2_with fail
 refine (cT (HJif.out _ HS.out) HK HB HB0 HS) fun v4 HK HB HB0 HS => ?_
 go_wp2_with fail
 refine (cT (HJwhile.out _ HS.out) HK HB HB0 HS) fun v5 HK HB HB0 HS => ?_
 go_wp2_with fail
 refine (cU (HTstar.out _ HS.out) HK HB HB0) fun v6 HK HB HB0 HS => ?_
 go_wp2_with fail
 refine (HNA.out _ HS.out).mono ?_
 rintro e v7 ⟨⟨s, rfl, hnm⟩, hs, hk⟩
 have HK := zT HK hk
 have HB := zB HB hk
 have HB0 := zB HB0 hk
 have HN := Hd hnm
 obtain ⟨sx, hsx⟩ : ∃ y, y = strO s := ⟨_, rfl⟩
 have HSX := Hd hsx
 rw [← hsx]
 have HS := Hd hs
 clear hs hk hnm hsx
 obtain ⟨cc0, ff0⟩ := rowi HB.out 0
 obtain ⟨cc1, ff1⟩ := rowi HB.out 1
 have hk : Keeps [X] v7 ((v7.setCell ⟨X, 0, none⟩ (.int .i64 5)).setCell ⟨X, 1, none⟩ (.string sx)) := (((Keeps.refl [X] _).set1 _ _).set1 _ _)
 have HB := Hd (show ((v7.setCell ⟨X, 0, none⟩ (.int .i64 5)).setCell ⟨X, 1, none⟩ (.string sx)).heap[X]? = some (.cells (sRow 5 sx ⟨#[]⟩ none none none (.slice none 0 0) (.slice none 0 0) (.slice none 0 0) (k : Int)).toArray 60 (0, 0)) from by
  have h0 := row_set HB.out 0 (.int .i64 5)
  have h1 := row_set h0 1 (.string sx)
  exact h1)
 have HB0 := zB HB0 hk
 have HK := zH HK hk
 have HS := zI HS hk
 clear hk
 go_wp2_with fail
 refine (cU (HW1.out _ HS.out) HK HB HB0) fun v8 HK HB HB0 HS => ?_
 clear cc0 ff0 cc1 ff1
 go_wp2_with fail
 refine (HQ.out _ HS.out X ⟨by have := HX.out; omega, block_lt HB.out⟩).mono ?_
 rintro e v9 ⟨v, rfl, ⟨q, rfl⟩, hk, hs, ha⟩
 have HK := zT HK hk
 have HB := zB HB hk
 have HB0 := zB HB0 hk
 have HA := Hd ha
 have HS := Hd hs
 clear hk hs ha
 obtain ⟨cc3, ff3⟩ := rowi HB.out 3
 have hk : Keeps [X] v9 (v9.setCell ⟨X, 3, none⟩ (.pointer q)) := ((Keeps.refl [X] _).set1 _ _)
 have HB := Hd (show (v9.setCell ⟨X, 3, none⟩ (.pointer q)).heap[X]? = some (.cells (sRow 5 sx ⟨#[]⟩ q none none (.slice none 0 0) (.slice none 0 0) (.slice none 0 0) (k : Int)).toArray 60 (0, 0)) from by
  have h0 := row_set HB.out 3 (.pointer q)
  exact h0)
 have HB0 := zB HB0 hk
 have HK := zH HK hk
 have HS := zI HS hk
 have HA := Hd (fun q h => (HA.out q h).keep hk zY)
 clear hk
 go_wp2_with fail
 refine (HW3.out _ HS.out).mono ?_
 rintro e v10 ⟨rfl, hs, hk⟩
 have HK := zT HK hk
 have HB := zB HB hk
 have HB0 := zB HB0 hk
 have HA := Hd (fun q h => (HA.out q h).keep hk zY)
 have HS := Hd hs
 clear hs hk
 clear cc3 ff3
 obtain ⟨cc0, ff0, cc1, ff1, cc2, ff2, cc3, ff3, cc4, ff4, cc5, ff5, cc6, ff6, cc7, ff7, cc8, ff8, cc9, ff9⟩ := row10 HB.out
 obtain ⟨c00, f00, c01, f01, c02, f02, c03, f03, c04, f04, c05, f05, c06, f06, c07, f07, c08, f08, c09, f09⟩ := row10 HB0.out
 have hne1 : X0 ≠ X := zX
 have hne2 : X ≠ X0 := zX
 go_wp2_with fail
 refine bodyPost_ret (v := .agg (sRow 5 sx ⟨#[]⟩ q none none (.slice none 0 0) (.slice none 0 0) (.slice none 0 0) (k : Int)).toArray) (by simp [results, Tryz.results84, go_sem, cc0, cc1, cc2, cc3, cc4, cc5, cc6, cc7, cc8, cc9, c00, c01, c02, c03, c04, c05, c06, c07, c08, c09]) rfl ?_
 refine setsEnd (S := [X0]) (w := v10) ?_ ?_
 · exact (((((((((((Keeps.refl [X0] _).set1 _ _).set1 _ _).set1 _ _).set1 _ _).set1 _ _).set1 _ _).set1 _ _).set1 _ _).set1 _ _).set1 _ _)
 ·
  intro W9 hk
  rw [HZ.out]
  refine stmt_doneX HX HK HS ⟨_, _, _, _, _, _, _, _, _, _, _, _, _, _, _, _, rfl⟩ (fun p h => ?_) hk
  obtain ⟨e0, h1, rfl⟩ := Option.map_eq_some_iff.1 (gate_some h)
  have hx9 := HN.out _ _ _ rfl (HN9.out e0 h1)
  rw [HSX.out, hx9]
  exact ⟨fun _ => False, ⟨_, _, _, _, _, _, rfl, HA.out e0 h1, rfl, rfl, qnoArgs, qnoSs, qnoSs⟩, fun g hg => hg.elim⟩
theorem qst_call (f : Nat) (w : World) (b n : Nat) (ts : List Tok) (o k lo : Nat) (h : SA w b n (.live ts o k)) (hb : b ≤ lo) (hlo : lo < w.heap.size) (hkk : k ≤ 100000) (hk : k < 200) (hname : Px.isName ts = true) (hstar : Px.sees ts [42] = false) (hret : Px.sees ts [114, 101, 116, 117, 114, 110] = false) (hassert : Px.sees ts [97, 115, 115, 101, 114, 116] = false) (hif : Px.sees ts [105, 102] = false) (hwhile : Px.sees ts [119, 104, 105, 108, 101] = false) (hf : 4 * ts.length + 7 ≤ f) (ho2 : o ≤ 1000) (hbr : Px.sees ts.tail [40] = true) {P : Option (List Ex) × St} (hP : P = (St.live ts.tail.tail o (k + 1)).lift n kI (aargs f)) :
 Calls Tryz.prog 84 #[pp b] w (QS (SmBAt w.heap.size) IsAgg lo w b n ((P.2.want n [59]).gate (P.1.map fun l => (.mk 8 [] (Px.txt ts 0) none none none l [] [] k, k + 1)), P.2.want n [59])) := by
 have HNM := Hd (fun w' (h : SA w' b n (.live ts o k)) => qnamed_any w' b n _ h)
 have hnm : (St.live ts o k).named = true := hname
 rw [hnm] at HNM
 have HTret := Hd (fun w' (h : SA w' b n (.live ts o (k + 1))) => qtake_any w' b n _ h [114, 101, 116, 117, 114, 110])
 have htret : (St.live ts o (k + 1)).sees [114, 101, 116, 117, 114, 110] = false := hret
 unfold St.take at HTret
 rw [htret] at HTret
 simp only [Bool.false_eq_true, if_false] at HTret
 have HTassert := Hd (fun w' (h : SA w' b n (.live ts o (k + 1))) => qtake_any w' b n _ h [97, 115, 115, 101, 114, 116])
 have htassert : (St.live ts o (k + 1)).sees [97, 115, 115, 101, 114, 116] = false := hassert
 unfold St.take at HTassert
 rw [htassert] at HTassert
 simp only [Bool.false_eq_true, if_false] at HTassert
 have HJif := Hd (fun w' (h : SA w' b n (.live ts o (k + 1))) => qis_any w' b n _ h [105, 102])
 have hjif : (St.live ts o (k + 1)).sees [105, 102] = false := hif
 rw [hjif] at HJif
 have HJwhile := Hd (fun w' (h : SA w' b n (.live ts o (k + 1))) => qis_any w' b n _ h [119, 104, 105, 108, 101])
 have hjwhile : (St.live ts o (k + 1)).sees [119, 104, 105, 108, 101] = false := hwhile
 rw [hjwhile] at HJwhile
 have HTstar := Hd (fun w' (h : SA w' b n (.live ts o (k + 1))) => qtake_any w' b n _ h [42])
 have htstar : (St.live ts o (k + 1)).sees [42] = false := hstar
 unfold St.take at HTstar
 rw [htstar] at HTstar
 simp only [Bool.false_eq_true, if_false] at HTstar
 have HNA := Hd (fun w' (h : SA w' b n (.live ts o (k + 1))) => qname_any w' b n _ h)
 have hnx : (St.live ts o (k + 1)).name n = .live ts.tail o (k + 1) := St.name_live hname
 rw [hnx] at HNA
 have HN9 := Hd hname
 have HC1 := Hd (fun w' (h : SA w' b n (.live ts.tail o (k + 1))) => qtake_any w' b n _ h [40])
 have hHC1 : St.sees (.live ts.tail o (k + 1)) [40] = true := hbr
 unfold St.take at HC1
 rw [if_pos hHC1, hHC1] at HC1
 simp only [St.adv] at HC1
 obtain ⟨f, rfl⟩ : ∃ g, f = g + 1 := ⟨f - 1, by omega⟩
 have hfit : (St.live ts.tail.tail o (k + 1)).fits (f + 1) 4 := ⟨ho2, by simp; omega⟩
 have HQ := Hd (fun w' (h : SA w' b n (.live ts.tail.tail o (k + 1))) (X : Nat) (hX : b ≤ X ∧ X < w'.heap.size) => qargs_any f w' b n (.live ts.tail.tail o (k + 1)) X h hfit hX.1 hX.2)
 rw [← hP] at HQ
 have HW3 := Hd (fun w' (h : SA w' b n P.2) => qwant_any w' b n _ h [59])
 obtain ⟨X0, hX0⟩ : ∃ x, x = w.heap.size := ⟨_, rfl⟩
 obtain ⟨X, hX⟩ : ∃ x, x = X0 + 1 := ⟨_, rfl⟩
 obtain ⟨c6, H1, HB0, HB1⟩ := start_q h hX0 hX
 have HX := and4 hX0 hX hb hlo
 obtain ⟨z0, hz0⟩ : ∃ z, z = w.heap.size := ⟨_, rfl⟩
 rw [← hz0]
 have HZ := Hd hz0
 clear h hX hX0 hz0 hb hlo hname hstar hret hassert hif hwhile hnm htret htassert hjif hjwhile htstar hnx hHC1 hP hfit hbr
 go_enter Tryz.func84, Tryz.ntmps84
 go_upto_region 2 with fail
 refine stage_q HB0 HB1 H1 (((Keeps.refl _ _).alloc _).alloc _) ?_
 clear c6 H1 HB0 HB1
 intro v0 HK HB0 HB HS
 have hx0 : w.heap.size = X0 := HX.out.1.symm
 have hx1 : X0 + 1 = X := HX.out.2.1.symm
 simp only [hx0, hx1]
 clear hx0 hx1
 go_wp2_with fail
 refine (cT (HNM.out _ HS.out) HK HB HB0 HS) fun v1 HK HB HB0 HS => ?_
 obtain ⟨cs9, hrow9, -, -, -, -, c6, hfz9⟩ := HS.out.row
 have f6 := hfz9 6
 have hlt9 : decide ((200 : Int) ≤ (k : Int)) = false := by simp; omega
 have HS := Hd (HS.out.setN (k + 1))
 clear hrow9 hfz9
 have hk : Keeps [b] v1 (v1.setCell ⟨b, 6, none⟩ (.int .i64 ((k + 1 : Nat) : Int))) := (Keeps.refl [b] _).set1 _ _
 have HK := zT HK hk
 have HB := zB HB hk
 have HB0 := zB HB0 hk
 clear hk
 go_wp2_with fail
 refine (cU (HTret.out _ HS.out) HK HB HB0) fun v2 HK HB HB0 HS => ?_
 clear c6 f6 hlt9
 go_wp2_with fail
 refine (cU (HTassert.out _ HS.out) HK HB HB0) fun v3 HK HB HB0 HS => ?_
 go_wp2_with fail
 refine (cT (HJif.out _ HS.out) HK HB HB0 HS) fun v4 HK HB HB0 HS => ?_
 go_wp2_with fail
 refine (cT (HJwhile.out _ HS.out) HK HB HB0 HS) fun v5 HK HB HB0 HS => ?_
 go_wp2_with fail
 refine (cU (HTstar.out _ HS.out) HK HB HB0) fun v6 HK HB HB0 HS => ?_
 go_wp2_with fail
 refine (HNA.out _ HS.out).mono ?_
 rintro e v7 ⟨⟨s, rfl, hnm⟩, hs, hk⟩
 have HK := zT HK hk
 have HB := zB HB hk
 have HB0 := zB HB0 hk
 have HN := Hd hnm
 have HS := Hd hs
 clear hs hk hnm
 have hx9 := HN.out _ _ _ rfl HN9.out
 subst hx9
 obtain ⟨sx, hsx⟩ : ∃ y, y = strO (Px.txt ts 0) := ⟨_, rfl⟩
 have HSX := Hd hsx
 rw [← hsx]
 clear hsx
 go_wp2_with fail
 refine (cU (HC1.out _ HS.out) HK HB HB0) fun v8 HK HB HB0 HS => ?_
 go_wp2_with fail
 refine (HQ.out _ HS.out X ⟨by have := HX.out; omega, block_lt HB.out⟩).mono ?_
 rintro e v9 ⟨v, rfl, ⟨Aa, na, ca, rfl⟩, hk, hs, ha⟩
 have HK := zT HK hk
 have HB := zB HB hk
 have HB0 := zB HB0 hk
 have HA := Hd ha
 have HS := Hd hs
 clear hk hs ha
 obtain ⟨cc0, ff0⟩ := rowi HB.out 0
 obtain ⟨cc2, ff2⟩ := rowi HB.out 2
 obtain ⟨cc6, ff6⟩ := rowi HB.out 6
 have hk : Keeps [X] v9 (((v9.setCell ⟨X, 0, none⟩ (.int .i64 8)).setCell ⟨X, 2, none⟩ (.string sx)).setCell ⟨X, 6, none⟩ (.slice Aa na ca)) := ((((Keeps.refl [X] _).set1 _ _).set1 _ _).set1 _ _)
 have HB := Hd (show (((v9.setCell ⟨X, 0, none⟩ (.int .i64 8)).setCell ⟨X, 2, none⟩ (.string sx)).setCell ⟨X, 6, none⟩ (.slice Aa na ca)).heap[X]? = some (.cells (sRow 8 ⟨#[]⟩ sx none none none (.slice Aa na ca) (.slice none 0 0) (.slice none 0 0) (k : Int)).toArray 60 (0, 0)) from by
  have h0 := row_set HB.out 0 (.int .i64 8)
  have h1 := row_set h0 2 (.string sx)
  have h2 := row_set h1 6 (.slice Aa na ca)
  exact h2)
 have HB0 := zB HB0 hk
 have HK := zH HK hk
 have HS := zI HS hk
 have HA := Hd (fun q h => (HA.out q h).keepT hk zY zY)
 clear hk
 go_wp2_with fail
 refine (HW3.out _ HS.out).mono ?_
 rintro e v10 ⟨rfl, hs, hk⟩
 have HK := zT HK hk
 have HB := zB HB hk
 have HB0 := zB HB0 hk
 have HA := Hd (fun q h => (HA.out q h).keepT hk zY zY)
 have HS := Hd hs
 clear hs hk
 clear cc0 ff0 cc2 ff2 cc6 ff6
 obtain ⟨cc0, ff0, cc1, ff1, cc2, ff2, cc3, ff3, cc4, ff4, cc5, ff5, cc6, ff6, cc7, ff7, cc8, ff8, cc9, ff9⟩ := row10 HB.out
 obtain ⟨c00, f00, c01, f01, c02, f02, c03, f03, c04, f04, c05, f05, c06, f06, c07, f07, c08, f08, c09, f09⟩ := row10 HB0.out
 have hne1 : X0 ≠ X := zX
 have hne2 : X ≠ X0 := zX
 go_wp2_with fail
 refine bodyPost_ret (v := .agg (sRow 8 ⟨#[]⟩ sx none none none (.slice Aa na ca) (.slice none 0 0) (.slice none 0 0) (k : Int)).toArray) (by simp [results, Tryz.results84, go_sem, cc0, cc1, cc2, cc3, cc4, cc5, cc6, cc7, cc8, cc9, c00, c01, c02, c03, c04, c05, c06, c07, c08, c09]) rfl ?_
 refine setsEnd (S := [X0]) (w := v10) ?_ ?_
 · exact (((((((((((Keeps.refl [X0] _).set1 _ _).set1 _ _).set1 _ _).set1 _ _).set1 _ _).set1 _ _).set1 _ _).set1 _ _).set1 _ _).set1 _ _)
 ·
  intro W9 hk
  rw [HZ.out]
  refine stmt_doneX HX HK HS ⟨_, _, _, _, _, _, _, _, _, _, _, _, _, _, _, _, rfl⟩ (fun p h => ?_) hk
  obtain ⟨e0, h1, rfl⟩ := Option.map_eq_some_iff.1 (gate_some h)
  rw [HSX.out]
  exact ⟨fun _ => False, ⟨_, _, _, _, _, _, rfl, rfl, rfl, rfl, HA.out e0 h1, qnoSs, qnoSs⟩, fun g hg => hg.elim⟩
theorem qst_put (f : Nat) (w : World) (b n : Nat) (ts : List Tok) (o k lo : Nat) (h : SA w b n (.live ts o k)) (hb : b ≤ lo) (hlo : lo < w.heap.size) (hkk : k ≤ 100000) (hk : k < 200) (hname : Px.isName ts = true) (hstar : Px.sees ts [42] = false) (hret : Px.sees ts [114, 101, 116, 117, 114, 110] = false) (hassert : Px.sees ts [97, 115, 115, 101, 114, 116] = false) (hif : Px.sees ts [105, 102] = false) (hwhile : Px.sees ts [119, 104, 105, 108, 101] = false) (hf : 4 * ts.length + 7 ≤ f) (ho2 : o ≤ 1000) (hbr0 : Px.sees ts.tail [40] = false) (hbr : Px.sees ts.tail [91] = true) {P Q : Option Ex × St} (hP : P = (St.live ts.tail.tail o (k + 1)).lift n kI (esum f)) (hQ : Q = ((P.2.want n [93]).want n [61]).lift n kI (esum f)) :
 Calls Tryz.prog 84 #[pp b] w (QS (SmBAt w.heap.size) IsAgg lo w b n ((Q.2.want n [59]).gate (P.1.bind fun e => Q.1.map fun x => (.mk 7 [] (Px.txt ts 0) (some e) (some x) none [] [] [] k, k + 1)), Q.2.want n [59])) := by
 have HNM := Hd (fun w' (h : SA w' b n (.live ts o k)) => qnamed_any w' b n _ h)
 have hnm : (St.live ts o k).named = true := hname
 rw [hnm] at HNM
 have HTret := Hd (fun w' (h : SA w' b n (.live ts o (k + 1))) => qtake_any w' b n _ h [114, 101, 116, 117, 114, 110])
 have htret : (St.live ts o (k + 1)).sees [114, 101, 116, 117, 114, 110] = false := hret
 unfold St.take at HTret
 rw [htret] at HTret
 simp only [Bool.false_eq_true, if_false] at HTret
 have HTassert := Hd (fun w' (h : SA w' b n (.live ts o (k + 1))) => qtake_any w' b n _ h [97, 115, 115, 101, 114, 116])
 have htassert : (St.live ts o (k + 1)).sees [97, 115, 115, 101, 114, 116] = false := hassert
 unfold St.take at HTassert
 rw [htassert] at HTassert
 simp only [Bool.false_eq_true, if_false] at HTassert
 have HJif := Hd (fun w' (h : SA w' b n (.live ts o (k + 1))) => qis_any w' b n _ h [105, 102])
 have hjif : (St.live ts o (k + 1)).sees [105, 102] = false := hif
 rw [hjif] at HJif
 have HJwhile := Hd (fun w' (h : SA w' b n (.live ts o (k + 1))) => qis_any w' b n _ h [119, 104, 105, 108, 101])
 have hjwhile : (St.live ts o (k + 1)).sees [119, 104, 105, 108, 101] = false := hwhile
 rw [hjwhile] at HJwhile
 have HTstar := Hd (fun w' (h : SA w' b n (.live ts o (k + 1))) => qtake_any w' b n _ h [42])
 have htstar : (St.live ts o (k + 1)).sees [42] = false := hstar
 unfold St.take at HTstar
 rw [htstar] at HTstar
 simp only [Bool.false_eq_true, if_false] at HTstar
 have HNA := Hd (fun w' (h : SA w' b n (.live ts o (k + 1))) => qname_any w' b n _ h)
 have hnx : (St.live ts o (k + 1)).name n = .live ts.tail o (k + 1) := St.name_live hname
 rw [hnx] at HNA
 have HN9 := Hd hname
 have HC0 := Hd (fun w' (h : SA w' b n (.live ts.tail o (k + 1))) => qtake_any w' b n _ h [40])
 have hHC0 : St.sees (.live ts.tail o (k + 1)) [40] = false := hbr0
 unfold St.take at HC0
 rw [hHC0] at HC0
 simp only [Bool.false_eq_true, if_false] at HC0
 have HC1 := Hd (fun w' (h : SA w' b n (.live ts.tail o (k + 1))) => qtake_any w' b n _ h [91])
 have hHC1 : St.sees (.live ts.tail o (k + 1)) [91] = true := hbr
 unfold St.take at HC1
 rw [if_pos hHC1, hHC1] at HC1
 simp only [St.adv] at HC1
 have hfit : (St.live ts.tail.tail o (k + 1)).fits f 3 := ⟨ho2, by simp; omega⟩
 have HQ := Hd (fun w' (h : SA w' b n (.live ts.tail.tail o (k + 1))) (X : Nat) (hX : b ≤ X ∧ X < w'.heap.size) => (qe f).sum w' b n (.live ts.tail.tail o (k + 1)) X h hfit hX.1 hX.2)
 have hfit2 : ((P.2.want n [93]).want n [61]).fits f 3 := by rw [hP]; exact fits_want (fits_want (fits_sum ⟨ho2, by simp; omega⟩))
 have HQ2 := Hd (fun w' (h : SA w' b n ((P.2.want n [93]).want n [61])) (X : Nat) (hX : b ≤ X ∧ X < w'.heap.size) => (qe f).sum w' b n ((P.2.want n [93]).want n [61]) X h hfit2 hX.1 hX.2)
 rw [← hP] at HQ
 rw [← hQ] at HQ2
 have HW1 := Hd (fun w' (h : SA w' b n P.2) => qwant_any w' b n _ h [93])
 have HW2 := Hd (fun w' (h : SA w' b n (P.2.want n [93])) => qwant_any w' b n _ h [61])
 have HW3 := Hd (fun w' (h : SA w' b n Q.2) => qwant_any w' b n _ h [59])
 obtain ⟨X0, hX0⟩ : ∃ x, x = w.heap.size := ⟨_, rfl⟩
 obtain ⟨X, hX⟩ : ∃ x, x = X0 + 1 := ⟨_, rfl⟩
 obtain ⟨c6, H1, HB0, HB1⟩ := start_q h hX0 hX
 have HX := and4 hX0 hX hb hlo
 obtain ⟨z0, hz0⟩ : ∃ z, z = w.heap.size := ⟨_, rfl⟩
 rw [← hz0]
 have HZ := Hd hz0
 clear h hX hX0 hz0 hb hlo hname hstar hret hassert hif hwhile hnm htret htassert hjif hjwhile htstar hnx hHC0 hHC1 hP hQ hfit hfit2 hbr hbr0
 go_enter Tryz.func84, Tryz.ntmps84
 go_upto_region 2 with fail
 refine stage_q HB0 HB1 H1 (((Keeps.refl _ _).alloc _).alloc _) ?_
 clear c6 H1 HB0 HB1
 intro v0 HK HB0 HB HS
 have hx0 : w.heap.size = X0 := HX.out.1.symm
 have hx1 : X0 + 1 = X := HX.out.2.1.symm
 simp only [hx0, hx1]
 clear hx0 hx1
 go_wp2_with fail
 refine (cT (HNM.out _ HS.out) HK HB HB0 HS) fun v1 HK HB HB0 HS => ?_
 obtain ⟨cs9, hrow9, -, -, -, -, c6, hfz9⟩ := HS.out.row
 have f6 := hfz9 6
 have hlt9 : decide ((200 : Int) ≤ (k : Int)) = false := by simp; omega
 have HS := Hd (HS.out.setN (k + 1))
 clear hrow9 hfz9
 have hk : Keeps [b] v1 (v1.setCell ⟨b, 6, none⟩ (.int .i64 ((k + 1 : Nat) : Int))) := (Keeps.refl [b] _).set1 _ _
 have HK := zT HK hk
 have HB := zB HB hk
 have HB0 := zB HB0 hk
 clear hk
 go_wp2_with fail
 refine (cU (HTret.out _ HS.out) HK HB HB0) fun v2 HK HB HB0 HS => ?_
 clear c6 f6 hlt9
 go_wp2_with fail
 refine (cU (HTassert.out _ HS.out) HK HB HB0) fun v3 HK HB HB0 HS => ?_
 go_wp2_with fail
 refine (cT (HJif.out _ HS.out) HK HB HB0 HS) fun v4 HK HB HB0 HS => ?_
 go_wp2_with fail
 refine (cT (HJwhile.out _ HS.out) HK HB HB0 HS) fun v5 HK HB HB0 HS => ?_
 go_wp2_with fail
 refine (cU (HTstar.out _ HS.out) HK HB HB0) fun v6 HK HB HB0 HS => ?_
 go_wp2_with fail
 refine (HNA.out _ HS.out).mono ?_
 rintro e v7 ⟨⟨s, rfl, hnm⟩, hs, hk⟩
 have HK := zT HK hk
 have HB := zB HB hk
 have HB0 := zB HB0 hk
 have HN := Hd hnm
 have HS := Hd hs
 clear hs hk hnm
 have hx9 := HN.out _ _ _ rfl HN9.out
 subst hx9
 obtain ⟨sx, hsx⟩ : ∃ y, y = strO (Px.txt ts 0) := ⟨_, rfl⟩
 have HSX := Hd hsx
 rw [← hsx]
 clear hsx
 go_wp2_with fail
 refine (cU (HC0.out _ HS.out) HK HB HB0) fun v8 HK HB HB0 HS => ?_
 go_wp2_with fail
 refine (cU (HC1.out _ HS.out) HK HB HB0) fun v9 HK HB HB0 HS => ?_
 go_wp2_with fail
 refine (HQ.out _ HS.out X ⟨by have := HX.out; omega, block_lt HB.out⟩).mono ?_
 rintro e v10 ⟨v, rfl, ⟨q, rfl⟩, hk, hs, ha⟩
 have HK := zT HK hk
 have HB := zB HB hk
 have HB0 := zB HB0 hk
 have HA := Hd ha
 have HS := Hd hs
 clear hk hs ha
 obtain ⟨cc0, ff0⟩ := rowi HB.out 0
 obtain ⟨cc2, ff2⟩ := rowi HB.out 2
 obtain ⟨cc3, ff3⟩ := rowi HB.out 3
 have hk : Keeps [X] v10 (((v10.setCell ⟨X, 0, none⟩ (.int .i64 7)).setCell ⟨X, 2, none⟩ (.string sx)).setCell ⟨X, 3, none⟩ (.pointer q)) := ((((Keeps.refl [X] _).set1 _ _).set1 _ _).set1 _ _)
 have HB := Hd (show (((v10.setCell ⟨X, 0, none⟩ (.int .i64 7)).setCell ⟨X, 2, none⟩ (.string sx)).setCell ⟨X, 3, none⟩ (.pointer q)).heap[X]? = some (.cells (sRow 7 ⟨#[]⟩ sx q none none (.slice none 0 0) (.slice none 0 0) (.slice none 0 0) (k : Int)).toArray 60 (0, 0)) from by
  have h0 := row_set HB.out 0 (.int .i64 7)
  have h1 := row_set h0 2 (.string sx)
  have h2 := row_set h1 3 (.pointer q)
  exact h2)
 have HB0 := zB HB0 hk
 have HK := zH HK hk
 have HS := zI HS hk
 have HA := Hd (fun q h => (HA.out q h).keep hk zY)
 clear hk
 go_wp2_with fail
 refine (HW1.out _ HS.out).mono ?_
 rintro e v11 ⟨rfl, hs, hk⟩
 have HK := zT HK hk
 have HB := zB HB hk
 have HB0 := zB HB0 hk
 have HA := Hd (fun q h => (HA.out q h).keep hk zY)
 have HS := Hd hs
 clear hs hk
 clear cc0 ff0 cc2 ff2 cc3 ff3
 go_wp2_with fail
 refine (HW2.out _ HS.out).mono ?_
 rintro e v12 ⟨rfl, hs, hk⟩
 have HK := zT HK hk
 have HB := zB HB hk
 have HB0 := zB HB0 hk
 have HA := Hd (fun q h => (HA.out q h).keep hk zY)
 have HS := Hd hs
 clear hs hk
 go_wp2_with fail
 refine (HQ2.out _ HS.out X ⟨by have := HX.out; omega, block_lt HB.out⟩).mono ?_
 rintro e v13 ⟨v, rfl, ⟨q2, rfl⟩, hk, hs, ha⟩
 have HK := zT HK hk
 have HB := zB HB hk
 have HB0 := zB HB0 hk
 have HA := Hd (fun q h => (HA.out q h).keep hk zY)
 have HA2 := Hd ha
 have HS := Hd hs
 clear hk hs ha
 obtain ⟨cc4, ff4⟩ := rowi HB.out 4
 have hk : Keeps [X] v13 (v13.setCell ⟨X, 4, none⟩ (.pointer q2)) := ((Keeps.refl [X] _).set1 _ _)
 have HB := Hd (show (v13.setCell ⟨X, 4, none⟩ (.pointer q2)).heap[X]? = some (.cells (sRow 7 ⟨#[]⟩ sx q q2 none (.slice none 0 0) (.slice none 0 0) (.slice none 0 0) (k : Int)).toArray 60 (0, 0)) from by
  have h0 := row_set HB.out 4 (.pointer q2)
  exact h0)
 have HB0 := zB HB0 hk
 have HK := zH HK hk
 have HS := zI HS hk
 have HA := Hd (fun q h => (HA.out q h).keep hk zY)
 have HA2 := Hd (fun q h => (HA2.out q h).keep hk zY)
 clear hk
 go_wp2_with fail
 refine (HW3.out _ HS.out).mono ?_
 rintro e v14 ⟨rfl, hs, hk⟩
 have HK := zT HK hk
 have HB := zB HB hk
 have HB0 := zB HB0 hk
 have HA := Hd (fun q h => (HA.out q h).keep hk zY)
 have HA2 := Hd (fun q h => (HA2.out q h).keep hk zY)
 have HS := Hd hs
 clear hs hk
 clear cc4 ff4
 obtain ⟨cc0, ff0, cc1, ff1, cc2, ff2, cc3, ff3, cc4, ff4, cc5, ff5, cc6, ff6, cc7, ff7, cc8, ff8, cc9, ff9⟩ := row10 HB.out
 obtain ⟨c00, f00, c01, f01, c02, f02, c03, f03, c04, f04, c05, f05, c06, f06, c07, f07, c08, f08, c09, f09⟩ := row10 HB0.out
 have hne1 : X0 ≠ X := zX
 have hne2 : X ≠ X0 := zX
 go_wp2_with fail
 refine bodyPost_ret (v := .agg (sRow 7 ⟨#[]⟩ sx q q2 none (.slice none 0 0) (.slice none 0 0) (.slice none 0 0) (k : Int)).toArray) (by simp [results, Tryz.results84, go_sem, cc0, cc1, cc2, cc3, cc4, cc5, cc6, cc7, cc8, cc9, c00, c01, c02, c03, c04, c05, c06, c07, c08, c09]) rfl ?_
 refine setsEnd (S := [X0]) (w := v14) ?_ ?_
 · exact (((((((((((Keeps.refl [X0] _).set1 _ _).set1 _ _).set1 _ _).set1 _ _).set1 _ _).set1 _ _).set1 _ _).set1 _ _).set1 _ _).set1 _ _)
 ·
  intro W9 hk
  rw [HZ.out]
  refine stmt_doneX HX HK HS ⟨_, _, _, _, _, _, _, _, _, _, _, _, _, _, _, _, rfl⟩ (fun p h => ?_) hk
  obtain ⟨e0, h1, h2⟩ := Option.bind_eq_some_iff.1 (gate_some h)
  obtain ⟨e1, h3, rfl⟩ := Option.map_eq_some_iff.1 h2
  rw [HSX.out]
  exact ⟨fun _ => False, ⟨_, _, _, _, _, _, rfl, HA.out e0 h1, HA2.out e1 h3, rfl, qnoArgs, qnoSs, qnoSs⟩, fun g hg => hg.elim⟩
theorem qst_set (f : Nat) (w : World) (b n : Nat) (ts : List Tok) (o k lo : Nat) (h : SA w b n (.live ts o k)) (hb : b ≤ lo) (hlo : lo < w.heap.size) (hkk : k ≤ 100000) (hk : k < 200) (hname : Px.isName ts = true) (hstar : Px.sees ts [42] = false) (hret : Px.sees ts [114, 101, 116, 117, 114, 110] = false) (hassert : Px.sees ts [97, 115, 115, 101, 114, 116] = false) (hif : Px.sees ts [105, 102] = false) (hwhile : Px.sees ts [119, 104, 105, 108, 101] = false) (hf : 4 * ts.length + 7 ≤ f) (ho2 : o ≤ 1000) (hbr0 : Px.sees ts.tail [40] = false) (hbr : Px.sees ts.tail [91] = false) {P : Option Sm × St} (hP : P = ((St.live ts.tail o (k + 1)).want n [61]).lift n kI (vval f)) :
 Calls Tryz.prog 84 #[pp b] w (QS (SmBAt w.heap.size) IsAgg lo w b n ((P.2.want n [59]).gate (P.1.map fun s => ((s.withX (Px.txt ts 0)).withAt k, k + 1)), P.2.want n [59])) := by
 have HNM := Hd (fun w' (h : SA w' b n (.live ts o k)) => qnamed_any w' b n _ h)
 have hnm : (St.live ts o k).named = true := hname
 rw [hnm] at HNM
 have HTret := Hd (fun w' (h : SA w' b n (.live ts o (k + 1))) => qtake_any w' b n _ h [114, 101, 116, 117, 114, 110])
 have htret : (St.live ts o (k + 1)).sees [114, 101, 116, 117, 114, 110] = false := hret
 unfold St.take at HTret
 rw [htret] at HTret
 simp only [Bool.false_eq_true, if_false] at HTret
 have HTassert := Hd (fun w' (h : SA w' b n (.live ts o (k + 1))) => qtake_any w' b n _ h [97, 115, 115, 101, 114, 116])
 have htassert : (St.live ts o (k + 1)).sees [97, 115, 115, 101, 114, 116] = false := hassert
 unfold St.take at HTassert
 rw [htassert] at HTassert
 simp only [Bool.false_eq_true, if_false] at HTassert
 have HJif := Hd (fun w' (h : SA w' b n (.live ts o (k + 1))) => qis_any w' b n _ h [105, 102])
 have hjif : (St.live ts o (k + 1)).sees [105, 102] = false := hif
 rw [hjif] at HJif
 have HJwhile := Hd (fun w' (h : SA w' b n (.live ts o (k + 1))) => qis_any w' b n _ h [119, 104, 105, 108, 101])
 have hjwhile : (St.live ts o (k + 1)).sees [119, 104, 105, 108, 101] = false := hwhile
 rw [hjwhile] at HJwhile
 have HTstar := Hd (fun w' (h : SA w' b n (.live ts o (k + 1))) => qtake_any w' b n _ h [42])
 have htstar : (St.live ts o (k + 1)).sees [42] = false := hstar
 unfold St.take at HTstar
 rw [htstar] at HTstar
 simp only [Bool.false_eq_true, if_false] at HTstar
 have HNA := Hd (fun w' (h : SA w' b n (.live ts o (k + 1))) => qname_any w' b n _ h)
 have hnx : (St.live ts o (k + 1)).name n = .live ts.tail o (k + 1) := St.name_live hname
 rw [hnx] at HNA
 have HN9 := Hd hname
 have HC0 := Hd (fun w' (h : SA w' b n (.live ts.tail o (k + 1))) => qtake_any w' b n _ h [40])
 have hHC0 : St.sees (.live ts.tail o (k + 1)) [40] = false := hbr0
 unfold St.take at HC0
 rw [hHC0] at HC0
 simp only [Bool.false_eq_true, if_false] at HC0
 have HC1 := Hd (fun w' (h : SA w' b n (.live ts.tail o (k + 1))) => qtake_any w' b n _ h [91])
 have hHC1 : St.sees (.live ts.tail o (k + 1)) [91] = false := hbr
 unfold St.take at HC1
 rw [hHC1] at HC1
 simp only [Bool.false_eq_true, if_false] at HC1
 have HW1 := Hd (fun w' (h : SA w' b n (.live ts.tail o (k + 1))) => qwant_any w' b n _ h [61])
 have hfit : ((St.live ts.tail o (k + 1)).want n [61]).fits f 4 := fits_want ⟨ho2, by simp; omega⟩
 have HV := Hd (fun w' (h : SA w' b n ((St.live ts.tail o (k + 1)).want n [61])) (X : Nat) (x : Tx) (a : Nat) (hX : b < X ∧ X < w'.heap.size) (hb : w'.heap[X]? = some (.cells (sRow 0 (strO x) ⟨#[]⟩ none none none (.slice none 0 0) (.slice none 0 0) (.slice none 0 0) (a : Int)).toArray 60 (0, 0))) => qval_any f w' b n X a x ((St.live ts.tail o (k + 1)).want n [61]) h hX hb hfit)
 rw [← hP] at HV
 have HW3 := Hd (fun w' (h : SA w' b n P.2) => qwant_any w' b n _ h [59])
 obtain ⟨X0, hX0⟩ : ∃ x, x = w.heap.size := ⟨_, rfl⟩
 obtain ⟨X, hX⟩ : ∃ x, x = X0 + 1 := ⟨_, rfl⟩
 obtain ⟨c6, H1, HB0, HB1⟩ := start_q h hX0 hX
 have HX := and4 hX0 hX hb hlo
 obtain ⟨z0, hz0⟩ : ∃ z, z = w.heap.size := ⟨_, rfl⟩
 rw [← hz0]
 have HZ := Hd hz0
 clear h hX hX0 hz0 hb hlo hname hstar hret hassert hif hwhile hnm htret htassert hjif hjwhile htstar hnx hHC0 hHC1 hP hfit hbr hbr0
 go_enter Tryz.func84, Tryz.ntmps84
 go_upto_region 2 with fail
 refine stage_q HB0 HB1 H1 (((Keeps.refl _ _).alloc _).alloc _) ?_
 clear c6 H1 HB0 HB1
 intro v0 HK HB0 HB HS
 have hx0 : w.heap.size = X0 := HX.out.1.symm
 have hx1 : X0 + 1 = X := HX.out.2.1.symm
 simp only [hx0, hx1]
 clear hx0 hx1
 go_wp2_with fail
 refine (cT (HNM.out _ HS.out) HK HB HB0 HS) fun v1 HK HB HB0 HS => ?_
 obtain ⟨cs9, hrow9, -, -, -, -, c6, hfz9⟩ := HS.out.row
 have f6 := hfz9 6
 have hlt9 : decide ((200 : Int) ≤ (k : Int)) = false := by simp; omega
 have HS := Hd (HS.out.setN (k + 1))
 clear hrow9 hfz9
 have hk : Keeps [b] v1 (v1.setCell ⟨b, 6, none⟩ (.int .i64 ((k + 1 : Nat) : Int))) := (Keeps.refl [b] _).set1 _ _
 have HK := zT HK hk
 have HB := zB HB hk
 have HB0 := zB HB0 hk
 clear hk
 go_wp2_with fail
 refine (cU (HTret.out _ HS.out) HK HB HB0) fun v2 HK HB HB0 HS => ?_
 clear c6 f6 hlt9
 go_wp2_with fail
 refine (cU (HTassert.out _ HS.out) HK HB HB0) fun v3 HK HB HB0 HS => ?_
 go_wp2_with fail
 refine (cT (HJif.out _ HS.out) HK HB HB0 HS) fun v4 HK HB HB0 HS => ?_
 go_wp2_with fail
 refine (cT (HJwhile.out _ HS.out) HK HB HB0 HS) fun v5 HK HB HB0 HS => ?_
 go_wp2_with fail
 refine (cU (HTstar.out _ HS.out) HK HB HB0) fun v6 HK HB HB0 HS => ?_
 go_wp2_with fail
 refine (HNA.out _ HS.out).mono ?_
 rintro e v7 ⟨⟨s, rfl, hnm⟩, hs, hk⟩
 have HK := zT HK hk
 have HB := zB HB hk
 have HB0 := zB HB0 hk
 have HN := Hd hnm
 have HS := Hd hs
 clear hs hk hnm
 have hx9 := HN.out _ _ _ rfl HN9.out
 subst hx9
 obtain ⟨sx, hsx⟩ : ∃ y, y = strO (Px.txt ts 0) := ⟨_, rfl⟩
 have HSX := Hd hsx
 rw [← hsx]
 clear hsx
 go_wp2_with fail
 refine (cU (HC0.out _ HS.out) HK HB HB0) fun v8 HK HB HB0 HS => ?_
 go_wp2_with fail
 refine (cU (HC1.out _ HS.out) HK HB HB0) fun v9 HK HB HB0 HS => ?_
 go_wp2_with fail
 refine (cU (HW1.out _ HS.out) HK HB HB0) fun v10 HK HB HB0 HS => ?_
 obtain ⟨cc1, ff1⟩ := rowi HB.out 1
 have hk : Keeps [X] v10 (v10.setCell ⟨X, 1, none⟩ (.string sx)) := ((Keeps.refl [X] _).set1 _ _)
 have HB := Hd (show (v10.setCell ⟨X, 1, none⟩ (.string sx)).heap[X]? = some (.cells (sRow 0 sx ⟨#[]⟩ none none none (.slice none 0 0) (.slice none 0 0) (.slice none 0 0) (k : Int)).toArray 60 (0, 0)) from by
  have h0 := row_set HB.out 1 (.string sx)
  exact h0)
 have HB0 := zB HB0 hk
 have HK := zH HK hk
 have HS := zI HS hk
 clear hk
 have HB9 := Hd (show (v10.setCell ⟨X, 1, none⟩ (.string sx)).heap[X]? = some (.cells (sRow 0 (strO (Px.txt ts 0)) ⟨#[]⟩ none none none (.slice none 0 0) (.slice none 0 0) (.slice none 0 0) (k : Int)).toArray 60 (0, 0)) from by rw [← HSX.out]; exact HB.out)
 go_wp2_with fail
 refine (HV.out _ HS.out X (Px.txt ts 0) k ⟨by have := HX.out; omega, block_lt HB.out⟩ HB9.out).mono ?_
 rintro e v11 ⟨rfl, hk, hs, vs, hsh, hbb, ha⟩
 have HB := Hd hbb
 have HA := Hd ha
 have HSH := Hd hsh
 have HS := Hd hs
 have HK := Hd (HK.out.trans (hk.mono (T := [b, X]) (fun i h _ => h)) (fun i h hl => by have := HX.out; simp at h; rcases h with rfl | rfl; (· simp); (· exfalso; omega)))
 have HB0 := zB HB0 hk
 clear hk hs ha hbb HB9 cc1 ff1
 go_wp2_with fail
 refine (HW3.out _ HS.out).mono ?_
 rintro e v12 ⟨rfl, hs, hk⟩
 have HK := zT HK hk
 have HB := zB HB hk
 have HB0 := zB HB0 hk
 have HA := Hd (fun s0 h => SmAt.keep hk (fun y hy => .inl (by have := HX.out; simp at hy; omega)) _ _ (HA.out s0 h))
 have HS := Hd hs
 clear hs hk
 obtain ⟨kd9, x9, y9, qe9, qf9, qc9, Aa9, na9, ca9, At9, nt9, ct9, Al9, nl9, cl9, a9, hvs⟩ := HSH.out
 subst hvs
 clear HSH
 have HB := Hd (show v12.heap[X]? = some (.cells ([.int .i64 kd9, .string x9, .string y9, .pointer qe9, .pointer qf9, .pointer qc9, .slice Aa9 na9 ca9, .slice At9 nt9 ct9, .slice Al9 nl9 cl9, .int .i64 a9] : List Value).toArray 60 (0, 0)) from HB.out)
 obtain ⟨cc0, ff0, cc1, ff1, cc2, ff2, cc3, ff3, cc4, ff4, cc5, ff5, cc6, ff6, cc7, ff7, cc8, ff8, cc9, ff9⟩ := row10 HB.out
 obtain ⟨c00, f00, c01, f01, c02, f02, c03, f03, c04, f04, c05, f05, c06, f06, c07, f07, c08, f08, c09, f09⟩ := row10 HB0.out
 have hne1 : X0 ≠ X := zX
 have hne2 : X ≠ X0 := zX
 go_wp2_with fail
 refine bodyPost_ret (v := .agg (([.int .i64 kd9, .string x9, .string y9, .pointer qe9, .pointer qf9, .pointer qc9, .slice Aa9 na9 ca9, .slice At9 nt9 ct9, .slice Al9 nl9 cl9, .int .i64 a9] : List Value)).toArray) (by simp [results, Tryz.results84, go_sem, cc0, cc1, cc2, cc3, cc4, cc5, cc6, cc7, cc8, cc9, c00, c01, c02, c03, c04, c05, c06, c07, c08, c09]) rfl ?_
 refine setsEnd (S := [X0]) (w := v12) ?_ ?_
 · exact (((((((((((Keeps.refl [X0] _).set1 _ _).set1 _ _).set1 _ _).set1 _ _).set1 _ _).set1 _ _).set1 _ _).set1 _ _).set1 _ _).set1 _ _)
 ·
  intro W9 hk
  rw [HZ.out]
  refine stmt_doneX HX HK HS ⟨_, _, _, _, _, _, _, _, _, _, _, _, _, _, _, _, rfl⟩ (fun p h => ?_) hk
  obtain ⟨e0, h1, rfl⟩ := Option.map_eq_some_iff.1 (gate_some h)
  exact ⟨fun _ => False, HA.out e0 h1, fun g hg => hg.elim⟩
theorem qst_none (f : Nat) (w : World) (b n : Nat) (ts : List Tok) (o k lo : Nat) (h : SA w b n (.live ts o k)) (hb : b ≤ lo) (hlo : lo < w.heap.size) (hkk : k ≤ 100000) (hname : Px.isName ts = false) (hstar : Px.sees ts [42] = false) (hret : Px.sees ts [114, 101, 116, 117, 114, 110] = false) (hassert : Px.sees ts [97, 115, 115, 101, 114, 116] = false) (hif : Px.sees ts [105, 102] = false) (hwhile : Px.sees ts [119, 104, 105, 108, 101] = false) (ho2 : o ≤ 1000) :
 Calls Tryz.prog 84 #[pp b] w (QS (SmBAt w.heap.size) IsAgg lo w b n (none, .dead 51 (Px.place n ts) o)) := by
 have HNM := Hd (fun w' (h : SA w' b n (.live ts o k)) => qnamed_any w' b n _ h)
 have hnm : (St.live ts o k).named = false := hname
 rw [hnm] at HNM
 have HIstar := Hd (fun w' (h : SA w' b n (.live ts o k)) => qis_any w' b n _ h [42])
 have histar : (St.live ts o k).sees [42] = false := hstar
 rw [histar] at HIstar
 have HIret := Hd (fun w' (h : SA w' b n (.live ts o k)) => qis_any w' b n _ h [114, 101, 116, 117, 114, 110])
 have hiret : (St.live ts o k).sees [114, 101, 116, 117, 114, 110] = false := hret
 rw [hiret] at HIret
 have HIassert := Hd (fun w' (h : SA w' b n (.live ts o k)) => qis_any w' b n _ h [97, 115, 115, 101, 114, 116])
 have hiassert : (St.live ts o k).sees [97, 115, 115, 101, 114, 116] = false := hassert
 rw [hiassert] at HIassert
 have HIif := Hd (fun w' (h : SA w' b n (.live ts o k)) => qis_any w' b n _ h [105, 102])
 have hiif : (St.live ts o k).sees [105, 102] = false := hif
 rw [hiif] at HIif
 have HIwhile := Hd (fun w' (h : SA w' b n (.live ts o k)) => qis_any w' b n _ h [119, 104, 105, 108, 101])
 have hiwhile : (St.live ts o k).sees [119, 104, 105, 108, 101] = false := hwhile
 rw [hiwhile] at HIwhile
 have HTret := Hd (fun w' (h : SA w' b n (.live ts o (k + 1))) => qtake_any w' b n _ h [114, 101, 116, 117, 114, 110])
 have htret : (St.live ts o (k + 1)).sees [114, 101, 116, 117, 114, 110] = false := hret
 unfold St.take at HTret
 rw [htret] at HTret
 simp only [Bool.false_eq_true, if_false] at HTret
 have HTassert := Hd (fun w' (h : SA w' b n (.live ts o (k + 1))) => qtake_any w' b n _ h [97, 115, 115, 101, 114, 116])
 have htassert : (St.live ts o (k + 1)).sees [97, 115, 115, 101, 114, 116] = false := hassert
 unfold St.take at HTassert
 rw [htassert] at HTassert
 simp only [Bool.false_eq_true, if_false] at HTassert
 have HJif := Hd (fun w' (h : SA w' b n (.live ts o (k + 1))) => qis_any w' b n _ h [105, 102])
 have hjif : (St.live ts o (k + 1)).sees [105, 102] = false := hif
 rw [hjif] at HJif
 have HJwhile := Hd (fun w' (h : SA w' b n (.live ts o (k + 1))) => qis_any w' b n _ h [119, 104, 105, 108, 101])
 have hjwhile : (St.live ts o (k + 1)).sees [119, 104, 105, 108, 101] = false := hwhile
 rw [hjwhile] at HJwhile
 have HTstar := Hd (fun w' (h : SA w' b n (.live ts o (k + 1))) => qtake_any w' b n _ h [42])
 have htstar : (St.live ts o (k + 1)).sees [42] = false := hstar
 unfold St.take at HTstar
 rw [htstar] at HTstar
 simp only [Bool.false_eq_true, if_false] at HTstar
 have HNA := Hd (fun w' (h : SA w' b n (.live ts o (k + 1))) => qname_any w' b n _ h)
 have hnx : (St.live ts o (k + 1)).name n = .dead 51 (Px.place n ts) o := St.name_no hname
 rw [hnx] at HNA
 obtain ⟨D, hD⟩ : ∃ D, D = St.dead 51 (Px.place n ts) o := ⟨_, rfl⟩
 have HC0 := Hd (fun w' (h : SA w' b n (.dead 51 (Px.place n ts) o)) => qtake_any w' b n _ h [40])
 have hHC0 : St.sees (.dead 51 (Px.place n ts) o) [40] = false := rfl
 unfold St.take at HC0
 rw [hHC0] at HC0
 simp only [Bool.false_eq_true, if_false] at HC0
 have HC1 := Hd (fun w' (h : SA w' b n (.dead 51 (Px.place n ts) o)) => qtake_any w' b n _ h [91])
 have hHC1 : St.sees (.dead 51 (Px.place n ts) o) [91] = false := rfl
 unfold St.take at HC1
 rw [hHC1] at HC1
 simp only [Bool.false_eq_true, if_false] at HC1
 have HW1 := Hd (fun w' (h : SA w' b n (.dead 51 (Px.place n ts) o)) => qwant_any w' b n _ h [61])
 simp only [St.want_dead] at HW1
 have HV := Hd (fun w' (h : SA w' b n (.dead 51 (Px.place n ts) o)) (X : Nat) (x : Tx) (a : Nat) (hX : b < X ∧ X < w'.heap.size) (hb : w'.heap[X]? = some (.cells (sRow 0 (strO x) ⟨#[]⟩ none none none (.slice none 0 0) (.slice none 0 0) (.slice none 0 0) (a : Int)).toArray 60 (0, 0))) => qval_any f w' b n X a x (.dead 51 (Px.place n ts) o) h hX hb ho2)
 simp only [St.lift_dead] at HV
 have HW3 := Hd (fun w' (h : SA w' b n (.dead 51 (Px.place n ts) o)) => qwant_any w' b n _ h [59])
 simp only [St.want_dead] at HW3
 obtain ⟨X0, hX0⟩ : ∃ x, x = w.heap.size := ⟨_, rfl⟩
 obtain ⟨X, hX⟩ : ∃ x, x = X0 + 1 := ⟨_, rfl⟩
 obtain ⟨c6, H1, HB0, HB1⟩ := start_q h hX0 hX
 have HX := and4 hX0 hX hb hlo
 obtain ⟨z0, hz0⟩ : ∃ z, z = w.heap.size := ⟨_, rfl⟩
 rw [← hz0]
 have HZ := Hd hz0
 clear h hX hX0 hz0 hb hlo hname hstar hret hassert hif hwhile hnm histar hiret hiassert hiif hiwhile htret htassert hjif hjwhile htstar hnx hHC0 hHC1 hD
 go_enter Tryz.func84, Tryz.ntmps84
 go_upto_region 2 with fail
 refine stage_q HB0 HB1 H1 (((Keeps.refl _ _).alloc _).alloc _) ?_
 clear c6 H1 HB0 HB1
 intro v0 HK HB0 HB HS
 have hx0 : w.heap.size = X0 := HX.out.1.symm
 have hx1 : X0 + 1 = X := HX.out.2.1.symm
 simp only [hx0, hx1]
 clear hx0 hx1
 go_wp2_with fail
 refine (cT (HNM.out _ HS.out) HK HB HB0 HS) fun v1 HK HB HB0 HS => ?_
 go_wp2_with fail
 refine (cT (HIstar.out _ HS.out) HK HB HB0 HS) fun v2 HK HB HB0 HS => ?_
 go_wp2_with fail
 refine (cT (HIret.out _ HS.out) HK HB HB0 HS) fun v3 HK HB HB0 HS => ?_
 go_wp2_with fail
 refine (cT (HIassert.out _ HS.out) HK HB HB0 HS) fun v4 HK HB HB0 HS => ?_
 go_wp2_with fail
 refine (cT (HIif.out _ HS.out) HK HB HB0 HS) fun v5 HK HB HB0 HS => ?_
 go_wp2_with fail
 refine (cT (HIwhile.out _ HS.out) HK HB HB0 HS) fun v6 HK HB HB0 HS => ?_
 obtain ⟨cs9, hrow9, -, -, -, -, c6, hfz9⟩ := HS.out.row
 have f6 := hfz9 6
 have hlt9 := True.intro
 have HS := Hd (HS.out.setN (k + 1))
 clear hrow9 hfz9
 have hk : Keeps [b] v6 (v6.setCell ⟨b, 6, none⟩ (.int .i64 ((k + 1 : Nat) : Int))) := (Keeps.refl [b] _).set1 _ _
 have HK := zT HK hk
 have HB := zB HB hk
 have HB0 := zB HB0 hk
 clear hk
 go_wp2_with fail
 refine (cU (HTret.out _ HS.out) HK HB HB0) fun v7 HK HB HB0 HS => ?_
 clear c6 f6 hlt9
 go_wp2_with fail
 refine (cU (HTassert.out _ HS.out) HK HB HB0) fun v8 HK HB HB0 HS => ?_
 go_wp2_with fail
 refine (cT (HJif.out _ HS.out) HK HB HB0 HS) fun v9 HK HB HB0 HS => ?_
 go_wp2_with fail
 refine (cT (HJwhile.out _ HS.out) HK HB HB0 HS) fun v10 HK HB HB0 HS => ?_
 go_wp2_with fail
 refine (cU (HTstar.out _ HS.out) HK HB HB0) fun v11 HK HB HB0 HS => ?_
 go_wp2_with fail
 refine (HNA.out _ HS.out).mono ?_
 rintro e v12 ⟨⟨s, rfl, hnm⟩, hs, hk⟩
 have HK := zT HK hk
 have HB := zB HB hk
 have HB0 := zB HB0 hk
 have HN := Hd hnm
 have HS := Hd hs
 clear hs hk hnm
 obtain ⟨sx, hsx⟩ : ∃ y, y = strO s := ⟨_, rfl⟩
 have HSX := Hd hsx
 rw [← hsx]
 clear hsx
 go_wp2_with fail
 refine (cU (HC0.out _ HS.out) HK HB HB0) fun v13 HK HB HB0 HS => ?_
 go_wp2_with fail
 refine (cU (HC1.out _ HS.out) HK HB HB0) fun v14 HK HB HB0 HS => ?_
 go_wp2_with fail
 refine (cU (HW1.out _ HS.out) HK HB HB0) fun v15 HK HB HB0 HS => ?_
 obtain ⟨cc1, ff1⟩ := rowi HB.out 1
 have hk : Keeps [X] v15 (v15.setCell ⟨X, 1, none⟩ (.string sx)) := ((Keeps.refl [X] _).set1 _ _)
 have HB := Hd (show (v15.setCell ⟨X, 1, none⟩ (.string sx)).heap[X]? = some (.cells (sRow 0 sx ⟨#[]⟩ none none none (.slice none 0 0) (.slice none 0 0) (.slice none 0 0) (k : Int)).toArray 60 (0, 0)) from by
  have h0 := row_set HB.out 1 (.string sx)
  exact h0)
 have HB0 := zB HB0 hk
 have HK := zH HK hk
 have HS := zI HS hk
 clear hk
 have HB9 := Hd (show (v15.setCell ⟨X, 1, none⟩ (.string sx)).heap[X]? = some (.cells (sRow 0 (strO s) ⟨#[]⟩ none none none (.slice none 0 0) (.slice none 0 0) (.slice none 0 0) (k : Int)).toArray 60 (0, 0)) from by rw [← HSX.out]; exact HB.out)
 go_wp2_with fail
 refine (HV.out _ HS.out X s k ⟨by have := HX.out; omega, block_lt HB.out⟩ HB9.out).mono ?_
 rintro e v16 ⟨rfl, hk, hs, vs, hsh, hbb, ha⟩
 have HB := Hd hbb
 have HA := Hd ha
 have HSH := Hd hsh
 have HS := Hd hs
 have HK := Hd (HK.out.trans (hk.mono (T := [b, X]) (fun i h _ => h)) (fun i h hl => by have := HX.out; simp at h; rcases h with rfl | rfl; (· simp); (· exfalso; omega)))
 have HB0 := zB HB0 hk
 clear hk hs ha hbb HB9 cc1 ff1
 go_wp2_with fail
 refine (HW3.out _ HS.out).mono ?_
 rintro e v17 ⟨rfl, hs, hk⟩
 have HK := zT HK hk
 have HB := zB HB hk
 have HB0 := zB HB0 hk
 have HA := Hd (fun s0 h => SmAt.keep hk (fun y hy => .inl (by have := HX.out; simp at hy; omega)) _ _ (HA.out s0 h))
 have HS := Hd hs
 clear hs hk
 obtain ⟨kd9, x9, y9, qe9, qf9, qc9, Aa9, na9, ca9, At9, nt9, ct9, Al9, nl9, cl9, a9, hvs⟩ := HSH.out
 subst hvs
 clear HSH
 have HB := Hd (show v17.heap[X]? = some (.cells ([.int .i64 kd9, .string x9, .string y9, .pointer qe9, .pointer qf9, .pointer qc9, .slice Aa9 na9 ca9, .slice At9 nt9 ct9, .slice Al9 nl9 cl9, .int .i64 a9] : List Value).toArray 60 (0, 0)) from HB.out)
 obtain ⟨cc0, ff0, cc1, ff1, cc2, ff2, cc3, ff3, cc4, ff4, cc5, ff5, cc6, ff6, cc7, ff7, cc8, ff8, cc9, ff9⟩ := row10 HB.out
 obtain ⟨c00, f00, c01, f01, c02, f02, c03, f03, c04, f04, c05, f05, c06, f06, c07, f07, c08, f08, c09, f09⟩ := row10 HB0.out
 have hne1 : X0 ≠ X := zX
 have hne2 : X ≠ X0 := zX
 go_wp2_with fail
 refine bodyPost_ret (v := .agg (([.int .i64 kd9, .string x9, .string y9, .pointer qe9, .pointer qf9, .pointer qc9, .slice Aa9 na9 ca9, .slice At9 nt9 ct9, .slice Al9 nl9 cl9, .int .i64 a9] : List Value)).toArray) (by simp [results, Tryz.results84, go_sem, cc0, cc1, cc2, cc3, cc4, cc5, cc6, cc7, cc8, cc9, c00, c01, c02, c03, c04, c05, c06, c07, c08, c09]) rfl ?_
 refine setsEnd (S := [X0]) (w := v17) ?_ ?_
 · exact (((((((((((Keeps.refl [X0] _).set1 _ _).set1 _ _).set1 _ _).set1 _ _).set1 _ _).set1 _ _).set1 _ _).set1 _ _).set1 _ _).set1 _ _)
 ·
  intro W9 hk
  rw [HZ.out]
  refine stmt_doneX HX HK HS ⟨_, _, _, _, _, _, _, _, _, _, _, _, _, _, _, _, rfl⟩ (fun p h => ?_) hk
  cases h
end Go.Proofs.YtbikifibfaaggaaGreatDoor
