import Derived.Test.YtbikifibfaaggaaGreatDoorVQSt
namespace Go.Proofs.YtbikifibfaaggaaGreatDoor
set_option maxHeartbeats 4000000
set_option maxRecDepth 100000
open Go.RowKit Go.Shelf
open Lx (Tok Tx)
open Px (Ex Cn Sm)
theorem fits_cond {n f c : Nat} {σ : St} (h : σ.fits f c) : (σ.lift n kI (ccond f)).2.fits f c := by
 cases σ with
 | live ts o k =>
  rcases St.lift_cases n (ccond f) ts o k with ⟨a, r, h1, h2⟩ | ⟨z, r, h1, h2⟩
  ·
   rw [h2]
   have := Px.cond_len (show Px.cond f o ts = .ok a r from h1)
   exact ⟨h.1, by have := h.2; omega⟩
  · rw [h2]; exact h.1
 | dead z p o => exact h
theorem fits_block {n f c : Nat} {σ : St} (h : σ.fits f c) : (σ.lift n kS (sblock f)).2.fits f c := by
 cases σ with
 | live ts o k =>
  rcases lift_kcases n kS (sblock f) ts o k with ⟨a, r, h1, h2⟩ | ⟨z, r, h1, h2⟩
  ·
   rw [h2]
   have := (Px.sm_len f).2.1 _ _ _ _ _ (show Px.block f o k ts = .ok a r from h1)
   exact ⟨h.1, by have := h.2; omega⟩
  · rw [h2]; exact h.1
 | dead z p o => exact h
theorem fits_low {f c c' : Nat} {σ : St} (h : σ.fits f c) (hc : c' ≤ c) : σ.fits f c' := by
 cases σ with
 | live ts o k => exact ⟨h.1, by have := h.2; omega⟩
 | dead z p o => exact h
theorem fits_take {f c : Nat} {s : Tx} {σ : St} (h : σ.fits f c) : (σ.take s).fits f c := by
 unfold St.take
 split
 ·
  cases σ with
  | live ts o k => exact ⟨h.1, by have := h.2; simp; omega⟩
  | dead z p o => exact h
 · exact h
def St.few : St → Prop | .live _ _ k => k ≤ 250 | .dead .. => True
theorem few_want {n : Nat} {s : Tx} {σ : St} (h : σ.few) : (σ.want n s).few := by
 unfold St.want
 split
 ·
  cases σ with
  | live ts o k => exact h
  | dead z p o => exact h
 ·
  cases σ with
  | live ts o k => trivial
  | dead z p o => exact h
theorem few_take {s : Tx} {σ : St} (h : σ.few) : (σ.take s).few := by
 unfold St.take
 split
 ·
  cases σ with
  | live ts o k => exact h
  | dead z p o => exact h
 · exact h
theorem few_lift {α : Type} {n : Nat} {g : List Tok → Nat → Nat → Px.R α} {σ : St} (h : σ.few) : (σ.lift n kI g).2.few := by
 cases σ with
 | live ts o k =>
  rcases St.lift_cases n g ts o k with ⟨a, r, h1, h2⟩ | ⟨z, r, h1, h2⟩
  · rw [h2]; exact h
  · rw [h2]; trivial
 | dead z p o => trivial
theorem sm_k : ∀ (f : Nat), (∀ o k ts a r, Px.stmt f o k ts = .ok a r → a.2 ≤ 200) ∧ (∀ o k ts a r, Px.block f o k ts = .ok a r → a.2 ≤ 200 ∨ a.2 = k) ∧ (∀ o k l ts a r, Px.stmts f o k l ts = .ok a r → a.2 ≤ 200 ∨ a.2 = k)
 | 0 => ⟨fun o k ts a r h => by simp [Px.stmt] at h, fun o k ts a r h => by simp [Px.block] at h, fun o k l ts a r h => by simp [Px.stmts] at h⟩
 | f + 1 => by
  obtain ⟨h1, h2, h3⟩ := sm_k f
  refine ⟨fun o k ts a r h => ?_, fun o k ts a r h => ?_, fun o k l ts a r h => ?_⟩
  ·
   unfold Px.stmt at h
   split at h
   ·
    split at h
    · cases h
    ·
     rename_i hk
     split at h
     ·
      obtain ⟨p, _, q1, h⟩ := Px.bind_inv h
      injection h with h _; subst h
      unfold Px.branch at q1
      obtain ⟨_, _, _, q1⟩ := Px.bind_inv q1
      obtain ⟨_, _, _, q1⟩ := Px.bind_inv q1
      obtain ⟨b1, _, q2, q1⟩ := Px.bind_inv q1
      have w1 := h2 _ _ _ _ _ q2
      split at q1
      ·
       obtain ⟨b2, _, q3, q1⟩ := Px.bind_inv q1
       have w2 := h2 _ _ _ _ _ q3
       injection q1 with q1 _; subst q1
       show b2.2 ≤ 200
       omega
      ·
       injection q1 with q1 _; subst q1
       show b1.2 ≤ 200
       omega
     ·
      split at h
      ·
       obtain ⟨p, _, q1, h⟩ := Px.bind_inv h
       injection h with h _; subst h
       unfold Px.loop at q1
       obtain ⟨_, _, _, q1⟩ := Px.bind_inv q1
       obtain ⟨_, _, _, q1⟩ := Px.bind_inv q1
       obtain ⟨b1, _, q2, q1⟩ := Px.bind_inv q1
       have w1 := h2 _ _ _ _ _ q2
       injection q1 with q1 _; subst q1
       show b1.2 ≤ 200
       omega
      ·
       obtain ⟨_, _, _, h⟩ := Px.bind_inv h
       obtain ⟨_, _, _, h⟩ := Px.bind_inv h
       injection h with h _; subst h
       show k + 1 ≤ 200
       omega
   · cases h
  ·
   unfold Px.block at h
   split at h
   ·
    split at h
    · cases h
    ·
     obtain ⟨p, _, q1, h⟩ := Px.bind_inv h
     obtain ⟨_, _, _, h⟩ := Px.bind_inv h
     injection h with h _; subst h
     exact h3 _ _ _ _ _ _ q1
   · cases h
  ·
   unfold Px.stmts at h
   split at h
   · injection h with h _; subst h; exact .inr rfl
   ·
    obtain ⟨p, _, q1, h⟩ := Px.bind_inv h
    have w1 := h1 _ _ _ _ _ q1
    have w2 := h3 _ _ _ _ _ _ h
    omega
theorem few_block {n f : Nat} {σ : St} (h : σ.few) : (σ.lift n kS (sblock f)).2.few := by
 cases σ with
 | live ts o k =>
  rcases lift_kcases n kS (sblock f) ts o k with ⟨a, r, h1, h2⟩ | ⟨z, r, h1, h2⟩
  ·
   rw [h2]
   have := (sm_k f).2.1 _ _ _ _ _ (show Px.block f o k ts = .ok a r from h1)
   show a.2 ≤ 250
   have h : k ≤ 250 := h
   omega
  · rw [h2]; trivial
 | dead z p o => trivial
theorem ss_from {lo X : Nat} {w : World} {p : List Sm × Nat} {v : Value} (h : SsAt lo w X p v) (hl : X < lo) : ∃ B, SsB w X B p.1 v ∧ ∀ g, B g → X < g ∧ g < w.heap.size := by
 obtain ⟨B, h1, h2⟩ := h
 exact ⟨B, h1, fun g hg => ⟨by have := (h2 g hg).1; omega, (h2 g hg).2⟩⟩
theorem ss_keep {w w' : World} {X : Nat} {l : List Sm} {v : Value} {S : List Nat} (h : ∃ B, SsB w X B l v ∧ ∀ g, B g → X < g ∧ g < w.heap.size) (hk : Keeps S w w') (hS : ∀ y ∈ S, y ≤ X) : ∃ B, SsB w' X B l v ∧ ∀ g, B g → X < g ∧ g < w'.heap.size := by
 obtain ⟨B, h1, h2⟩ := h
 exact ⟨B, h1.keep hk (fun y hy => .inl (hS y hy)), fun g hg => ⟨(h2 g hg).1, by have := (h2 g hg).2; have := hk.size; omega⟩⟩
theorem qst_most_name (f : Nat) (w : World) (b n : Nat) (ts : List Tok) (o k lo : Nat) (h : SA w b n (.live ts o k)) (hb : b ≤ lo) (hlo : lo < w.heap.size) (hkk : k ≤ 100000) (hk : 200 ≤ k) (hname : Px.isName ts = true) :
 Calls Tryz.prog 84 #[pp b] w (QS (SmBAt w.heap.size) IsAgg lo w b n (none, .dead 53 (Px.place n ts) o)) := by
 have HNM := Hd (fun w' (h : SA w' b n (.live ts o k)) => qnamed_any w' b n _ h)
 have hnm : (St.live ts o k).named = true := hname
 rw [hnm] at HNM
 have HF := Hd (fun w' (h : SA w' b n (.live ts o k)) => qfail_any w' b n _ h 53 (by omega) (by omega))
 obtain ⟨X0, hX0⟩ : ∃ x, x = w.heap.size := ⟨_, rfl⟩
 obtain ⟨X, hX⟩ : ∃ x, x = X0 + 1 := ⟨_, rfl⟩
 obtain ⟨c6, H1, HB0, HB1⟩ := start_q h hX0 hX
 have HX := and4 hX0 hX hb hlo
 obtain ⟨z0, hz0⟩ : ∃ z, z = w.heap.size := ⟨_, rfl⟩
 rw [← hz0]
 have HZ := Hd hz0
 clear h hX hX0 hz0 hb hlo hname  hnm
 go_enter Tryz.func84, Tryz.ntmps84
 go_upto_region 2 with fail
 refine stage_q HB0 HB1 H1 (((Keeps.refl _ _).alloc _).alloc _) ?_
 clear c6 H1 HB0 HB1
 intro v0 HK HB0 HB HS
 have hx0 : w.heap.size = X0 := HX.out.1.symm
 have hx1 : X0 + 1 = X := HX.out.2.1.symm
 simp only [hx0, hx1]
 clear hx0 hx1
 go_wp2_with fail
 refine (cT (HNM.out _ HS.out) HK HB HB0 HS) fun v1 HK HB HB0 HS => ?_
 obtain ⟨cs9, hrow9, -, -, -, -, c6, hfz9⟩ := HS.out.row
 have hlt9 : decide ((200 : Int) ≤ (k : Int)) = true := by simp; omega
 clear hrow9 hfz9
 go_wp2_with fail
 refine (cU (HF.out _ HS.out) HK HB HB0) fun v2 HK HB HB0 HS => ?_
 clear c6 hlt9
 obtain ⟨cc0, ff0, cc1, ff1, cc2, ff2, cc3, ff3, cc4, ff4, cc5, ff5, cc6, ff6, cc7, ff7, cc8, ff8, cc9, ff9⟩ := row10 HB.out
 obtain ⟨c00, f00, c01, f01, c02, f02, c03, f03, c04, f04, c05, f05, c06, f06, c07, f07, c08, f08, c09, f09⟩ := row10 HB0.out
 have hne1 : X0 ≠ X := zX
 have hne2 : X ≠ X0 := zX
 go_wp2_with fail
 refine bodyPost_ret (v := .agg (sRow 0 ⟨#[]⟩ ⟨#[]⟩ none none none (.slice none 0 0) (.slice none 0 0) (.slice none 0 0) (k : Int)).toArray) (by simp [results, Tryz.results84, go_sem, cc0, cc1, cc2, cc3, cc4, cc5, cc6, cc7, cc8, cc9, c00, c01, c02, c03, c04, c05, c06, c07, c08, c09]) rfl ?_
 refine setsEnd (S := [X0]) (w := v2) ?_ ?_
 · exact (((((((((((Keeps.refl [X0] _).set1 _ _).set1 _ _).set1 _ _).set1 _ _).set1 _ _).set1 _ _).set1 _ _).set1 _ _).set1 _ _).set1 _ _)
 ·
  intro W9 hk
  rw [HZ.out]
  refine stmt_doneX HX HK HS ⟨_, _, _, _, _, _, _, _, _, _, _, _, _, _, _, _, rfl⟩ (fun p h => ?_) hk
  cases h
theorem qst_most_star (f : Nat) (w : World) (b n : Nat) (ts : List Tok) (o k lo : Nat) (h : SA w b n (.live ts o k)) (hb : b ≤ lo) (hlo : lo < w.heap.size) (hkk : k ≤ 100000) (hk : 200 ≤ k) (hname : Px.isName ts = false) (hstar : Px.sees ts [42] = true) :
 Calls Tryz.prog 84 #[pp b] w (QS (SmBAt w.heap.size) IsAgg lo w b n (none, .dead 53 (Px.place n ts) o)) := by
 have HNM := Hd (fun w' (h : SA w' b n (.live ts o k)) => qnamed_any w' b n _ h)
 have hnm : (St.live ts o k).named = false := hname
 rw [hnm] at HNM
 have HIstar := Hd (fun w' (h : SA w' b n (.live ts o k)) => qis_any w' b n _ h [42])
 have histar : (St.live ts o k).sees [42] = true := hstar
 rw [histar] at HIstar
 have HF := Hd (fun w' (h : SA w' b n (.live ts o k)) => qfail_any w' b n _ h 53 (by omega) (by omega))
 obtain ⟨X0, hX0⟩ : ∃ x, x = w.heap.size := ⟨_, rfl⟩
 obtain ⟨X, hX⟩ : ∃ x, x = X0 + 1 := ⟨_, rfl⟩
 obtain ⟨c6, H1, HB0, HB1⟩ := start_q h hX0 hX
 have HX := and4 hX0 hX hb hlo
 obtain ⟨z0, hz0⟩ : ∃ z, z = w.heap.size := ⟨_, rfl⟩
 rw [← hz0]
 have HZ := Hd hz0
 clear h hX hX0 hz0 hb hlo hname hstar hnm histar
 go_enter Tryz.func84, Tryz.ntmps84
 go_upto_region 2 with fail
 refine stage_q HB0 HB1 H1 (((Keeps.refl _ _).alloc _).alloc _) ?_
 clear c6 H1 HB0 HB1
 intro v0 HK HB0 HB HS
 have hx0 : w.heap.size = X0 := HX.out.1.symm
 have hx1 : X0 + 1 = X := HX.out.2.1.symm
 simp only [hx0, hx1]
 clear hx0 hx1
 go_wp2_with fail
 refine (cT (HNM.out _ HS.out) HK HB HB0 HS) fun v1 HK HB HB0 HS => ?_
 go_wp2_with fail
 refine (cT (HIstar.out _ HS.out) HK HB HB0 HS) fun v2 HK HB HB0 HS => ?_
 obtain ⟨cs9, hrow9, -, -, -, -, c6, hfz9⟩ := HS.out.row
 have hlt9 : decide ((200 : Int) ≤ (k : Int)) = true := by simp; omega
 clear hrow9 hfz9
 go_wp2_with fail
 refine (cU (HF.out _ HS.out) HK HB HB0) fun v3 HK HB HB0 HS => ?_
 clear c6 hlt9
 obtain ⟨cc0, ff0, cc1, ff1, cc2, ff2, cc3, ff3, cc4, ff4, cc5, ff5, cc6, ff6, cc7, ff7, cc8, ff8, cc9, ff9⟩ := row10 HB.out
 obtain ⟨c00, f00, c01, f01, c02, f02, c03, f03, c04, f04, c05, f05, c06, f06, c07, f07, c08, f08, c09, f09⟩ := row10 HB0.out
 have hne1 : X0 ≠ X := zX
 have hne2 : X ≠ X0 := zX
 go_wp2_with fail
 refine bodyPost_ret (v := .agg (sRow 0 ⟨#[]⟩ ⟨#[]⟩ none none none (.slice none 0 0) (.slice none 0 0) (.slice none 0 0) (k : Int)).toArray) (by simp [results, Tryz.results84, go_sem, cc0, cc1, cc2, cc3, cc4, cc5, cc6, cc7, cc8, cc9, c00, c01, c02, c03, c04, c05, c06, c07, c08, c09]) rfl ?_
 refine setsEnd (S := [X0]) (w := v3) ?_ ?_
 · exact (((((((((((Keeps.refl [X0] _).set1 _ _).set1 _ _).set1 _ _).set1 _ _).set1 _ _).set1 _ _).set1 _ _).set1 _ _).set1 _ _).set1 _ _)
 ·
  intro W9 hk
  rw [HZ.out]
  refine stmt_doneX HX HK HS ⟨_, _, _, _, _, _, _, _, _, _, _, _, _, _, _, _, rfl⟩ (fun p h => ?_) hk
  cases h
theorem qst_most_ret (f : Nat) (w : World) (b n : Nat) (ts : List Tok) (o k lo : Nat) (h : SA w b n (.live ts o k)) (hb : b ≤ lo) (hlo : lo < w.heap.size) (hkk : k ≤ 100000) (hk : 200 ≤ k) (hname : Px.isName ts = false) (hstar : Px.sees ts [42] = false) (hret : Px.sees ts [114, 101, 116, 117, 114, 110] = true) :
 Calls Tryz.prog 84 #[pp b] w (QS (SmBAt w.heap.size) IsAgg lo w b n (none, .dead 53 (Px.place n ts) o)) := by
 have HNM := Hd (fun w' (h : SA w' b n (.live ts o k)) => qnamed_any w' b n _ h)
 have hnm : (St.live ts o k).named = false := hname
 rw [hnm] at HNM
 have HIstar := Hd (fun w' (h : SA w' b n (.live ts o k)) => qis_any w' b n _ h [42])
 have histar : (St.live ts o k).sees [42] = false := hstar
 rw [histar] at HIstar
 have HIret := Hd (fun w' (h : SA w' b n (.live ts o k)) => qis_any w' b n _ h [114, 101, 116, 117, 114, 110])
 have hiret : (St.live ts o k).sees [114, 101, 116, 117, 114, 110] = true := hret
 rw [hiret] at HIret
 have HF := Hd (fun w' (h : SA w' b n (.live ts o k)) => qfail_any w' b n _ h 53 (by omega) (by omega))
 obtain ⟨X0, hX0⟩ : ∃ x, x = w.heap.size := ⟨_, rfl⟩
 obtain ⟨X, hX⟩ : ∃ x, x = X0 + 1 := ⟨_, rfl⟩
 obtain ⟨c6, H1, HB0, HB1⟩ := start_q h hX0 hX
 have HX := and4 hX0 hX hb hlo
 obtain ⟨z0, hz0⟩ : ∃ z, z = w.heap.size := ⟨_, rfl⟩
 rw [← hz0]
 have HZ := Hd hz0
 clear h hX hX0 hz0 hb hlo hname hstar hret hnm histar hiret
 go_enter Tryz.func84, Tryz.ntmps84
 go_upto_region 2 with fail
 refine stage_q HB0 HB1 H1 (((Keeps.refl _ _).alloc _).alloc _) ?_
 clear c6 H1 HB0 HB1
 intro v0 HK HB0 HB HS
 have hx0 : w.heap.size = X0 := HX.out.1.symm
 have hx1 : X0 + 1 = X := HX.out.2.1.symm
 simp only [hx0, hx1]
 clear hx0 hx1
 go_wp2_with fail
 refine (cT (HNM.out _ HS.out) HK HB HB0 HS) fun v1 HK HB HB0 HS => ?_
 go_wp2_with fail
 refine (cT (HIstar.out _ HS.out) HK HB HB0 HS) fun v2 HK HB HB0 HS => ?_
 go_wp2_with fail
 refine (cT (HIret.out _ HS.out) HK HB HB0 HS) fun v3 HK HB HB0 HS => ?_
 obtain ⟨cs9, hrow9, -, -, -, -, c6, hfz9⟩ := HS.out.row
 have hlt9 : decide ((200 : Int) ≤ (k : Int)) = true := by simp; omega
 clear hrow9 hfz9
 go_wp2_with fail
 refine (cU (HF.out _ HS.out) HK HB HB0) fun v4 HK HB HB0 HS => ?_
 clear c6 hlt9
 obtain ⟨cc0, ff0, cc1, ff1, cc2, ff2, cc3, ff3, cc4, ff4, cc5, ff5, cc6, ff6, cc7, ff7, cc8, ff8, cc9, ff9⟩ := row10 HB.out
 obtain ⟨c00, f00, c01, f01, c02, f02, c03, f03, c04, f04, c05, f05, c06, f06, c07, f07, c08, f08, c09, f09⟩ := row10 HB0.out
 have hne1 : X0 ≠ X := zX
 have hne2 : X ≠ X0 := zX
 go_wp2_with fail
 refine bodyPost_ret (v := .agg (sRow 0 ⟨#[]⟩ ⟨#[]⟩ none none none (.slice none 0 0) (.slice none 0 0) (.slice none 0 0) (k : Int)).toArray) (by simp [results, Tryz.results84, go_sem, cc0, cc1, cc2, cc3, cc4, cc5, cc6, cc7, cc8, cc9, c00, c01, c02, c03, c04, c05, c06, c07, c08, c09]) rfl ?_
 refine setsEnd (S := [X0]) (w := v4) ?_ ?_
 · exact (((((((((((Keeps.refl [X0] _).set1 _ _).set1 _ _).set1 _ _).set1 _ _).set1 _ _).set1 _ _).set1 _ _).set1 _ _).set1 _ _).set1 _ _)
 ·
  intro W9 hk
  rw [HZ.out]
  refine stmt_doneX HX HK HS ⟨_, _, _, _, _, _, _, _, _, _, _, _, _, _, _, _, rfl⟩ (fun p h => ?_) hk
  cases h
theorem qst_most_assert (f : Nat) (w : World) (b n : Nat) (ts : List Tok) (o k lo : Nat) (h : SA w b n (.live ts o k)) (hb : b ≤ lo) (hlo : lo < w.heap.size) (hkk : k ≤ 100000) (hk : 200 ≤ k) (hname : Px.isName ts = false) (hstar : Px.sees ts [42] = false) (hret : Px.sees ts [114, 101, 116, 117, 114, 110] = false) (hassert : Px.sees ts [97, 115, 115, 101, 114, 116] = true) :
 Calls Tryz.prog 84 #[pp b] w (QS (SmBAt w.heap.size) IsAgg lo w b n (none, .dead 53 (Px.place n ts) o)) := by
 have HNM := Hd (fun w' (h : SA w' b n (.live ts o k)) => qnamed_any w' b n _ h)
 have hnm : (St.live ts o k).named = false := hname
 rw [hnm] at HNM
 have HIstar := Hd (fun w' (h : SA w' b n (.live ts o k)) => qis_any w' b n _ h [42])
 have histar : (St.live ts o k).sees [42] = false := hstar
 rw [histar] at HIstar
 have HIret := Hd (fun w' (h : SA w' b n (.live ts o k)) => qis_any w' b n _ h [114, 101, 116, 117, 114, 110])
 have hiret : (St.live ts o k).sees [114, 101, 116, 117, 114, 110] = false := hret
 rw [hiret] at HIret
 have HIassert := Hd (fun w' (h : SA w' b n (.live ts o k)) => qis_any w' b n _ h [97, 115, 115, 101, 114, 116])
 have hiassert : (St.live ts o k).sees [97, 115, 115, 101, 114, 116] = true := hassert
 rw [hiassert] at HIassert
 have HF := Hd (fun w' (h : SA w' b n (.live ts o k)) => qfail_any w' b n _ h 53 (by omega) (by omega))
 obtain ⟨X0, hX0⟩ : ∃ x, x = w.heap.size := ⟨_, rfl⟩
 obtain ⟨X, hX⟩ : ∃ x, x = X0 + 1 := ⟨_, rfl⟩
 obtain ⟨c6, H1, HB0, HB1⟩ := start_q h hX0 hX
 have HX := and4 hX0 hX hb hlo
 obtain ⟨z0, hz0⟩ : ∃ z, z = w.heap.size := ⟨_, rfl⟩
 rw [← hz0]
 have HZ := Hd hz0
 clear h hX hX0 hz0 hb hlo hname hstar hret hassert hnm histar hiret hiassert
 go_enter Tryz.func84, Tryz.ntmps84
 go_upto_region 2 with fail
 refine stage_q HB0 HB1 H1 (((Keeps.refl _ _).alloc _).alloc _) ?_
 clear c6 H1 HB0 HB1
 intro v0 HK HB0 HB HS
 have hx0 : w.heap.size = X0 := HX.out.1.symm
 have hx1 : X0 + 1 = X := HX.out.2.1.symm
 simp only [hx0, hx1]
 clear hx0 hx1
 go_wp2_with fail
 refine (cT (HNM.out _ HS.out) HK HB HB0 HS) fun v1 HK HB HB0 HS => ?_
 go_wp2_with fail
 refine (cT (HIstar.out _ HS.out) HK HB HB0 HS) fun v2 HK HB HB0 HS => ?_
 go_wp2_with fail
 refine (cT (HIret.out _ HS.out) HK HB HB0 HS) fun v3 HK HB HB0 HS => ?_
 go_wp2_with fail
 refine (cT (HIassert.out _ HS.out) HK HB HB0 HS) fun v4 HK HB HB0 HS => ?_
 obtain ⟨cs9, hrow9, -, -, -, -, c6, hfz9⟩ := HS.out.row
 have hlt9 : decide ((200 : Int) ≤ (k : Int)) = true := by simp; omega
 clear hrow9 hfz9
 go_wp2_with fail
 refine (cU (HF.out _ HS.out) HK HB HB0) fun v5 HK HB HB0 HS => ?_
 clear c6 hlt9
 obtain ⟨cc0, ff0, cc1, ff1, cc2, ff2, cc3, ff3, cc4, ff4, cc5, ff5, cc6, ff6, cc7, ff7, cc8, ff8, cc9, ff9⟩ := row10 HB.out
 obtain ⟨c00, f00, c01, f01, c02, f02, c03, f03, c04, f04, c05, f05, c06, f06, c07, f07, c08, f08, c09, f09⟩ := row10 HB0.out
 have hne1 : X0 ≠ X := zX
 have hne2 : X ≠ X0 := zX
 go_wp2_with fail
 refine bodyPost_ret (v := .agg (sRow 0 ⟨#[]⟩ ⟨#[]⟩ none none none (.slice none 0 0) (.slice none 0 0) (.slice none 0 0) (k : Int)).toArray) (by simp [results, Tryz.results84, go_sem, cc0, cc1, cc2, cc3, cc4, cc5, cc6, cc7, cc8, cc9, c00, c01, c02, c03, c04, c05, c06, c07, c08, c09]) rfl ?_
 refine setsEnd (S := [X0]) (w := v5) ?_ ?_
 · exact (((((((((((Keeps.refl [X0] _).set1 _ _).set1 _ _).set1 _ _).set1 _ _).set1 _ _).set1 _ _).set1 _ _).set1 _ _).set1 _ _).set1 _ _)
 ·
  intro W9 hk
  rw [HZ.out]
  refine stmt_doneX HX HK HS ⟨_, _, _, _, _, _, _, _, _, _, _, _, _, _, _, _, rfl⟩ (fun p h => ?_) hk
  cases h
theorem qst_most_if (f : Nat) (w : World) (b n : Nat) (ts : List Tok) (o k lo : Nat) (h : SA w b n (.live ts o k)) (hb : b ≤ lo) (hlo : lo < w.heap.size) (hkk : k ≤ 100000) (hk : 200 ≤ k) (hname : Px.isName ts = false) (hstar : Px.sees ts [42] = false) (hret : Px.sees ts [114, 101, 116, 117, 114, 110] = false) (hassert : Px.sees ts [97, 115, 115, 101, 114, 116] = false) (hif : Px.sees ts [105, 102] = true) :
 Calls Tryz.prog 84 #[pp b] w (QS (SmBAt w.heap.size) IsAgg lo w b n (none, .dead 53 (Px.place n ts) o)) := by
 have HNM := Hd (fun w' (h : SA w' b n (.live ts o k)) => qnamed_any w' b n _ h)
 have hnm : (St.live ts o k).named = false := hname
 rw [hnm] at HNM
 have HIstar := Hd (fun w' (h : SA w' b n (.live ts o k)) => qis_any w' b n _ h [42])
 have histar : (St.live ts o k).sees [42] = false := hstar
 rw [histar] at HIstar
 have HIret := Hd (fun w' (h : SA w' b n (.live ts o k)) => qis_any w' b n _ h [114, 101, 116, 117, 114, 110])
 have hiret : (St.live ts o k).sees [114, 101, 116, 117, 114, 110] = false := hret
 rw [hiret] at HIret
 have HIassert := Hd (fun w' (h : SA w' b n (.live ts o k)) => qis_any w' b n _ h [97, 115, 115, 101, 114, 116])
 have hiassert : (St.live ts o k).sees [97, 115, 115, 101, 114, 116] = false := hassert
 rw [hiassert] at HIassert
 have HIif := Hd (fun w' (h : SA w' b n (.live ts o k)) => qis_any w' b n _ h [105, 102])
 have hiif : (St.live ts o k).sees [105, 102] = true := hif
 rw [hiif] at HIif
 have HF := Hd (fun w' (h : SA w' b n (.live ts o k)) => qfail_any w' b n _ h 53 (by omega) (by omega))
 obtain ⟨X0, hX0⟩ : ∃ x, x = w.heap.size := ⟨_, rfl⟩
 obtain ⟨X, hX⟩ : ∃ x, x = X0 + 1 := ⟨_, rfl⟩
 obtain ⟨c6, H1, HB0, HB1⟩ := start_q h hX0 hX
 have HX := and4 hX0 hX hb hlo
 obtain ⟨z0, hz0⟩ : ∃ z, z = w.heap.size := ⟨_, rfl⟩
 rw [← hz0]
 have HZ := Hd hz0
 clear h hX hX0 hz0 hb hlo hname hstar hret hassert hif hnm histar hiret hiassert hiif
 go_enter Tryz.func84, Tryz.ntmps84
 go_upto_region 2 with fail
 refine stage_q HB0 HB1 H1 (((Keeps.refl _ _).alloc _).alloc _) ?_
 clear c6 H1 HB0 HB1
 intro v0 HK HB0 HB HS
 have hx0 : w.heap.size = X0 := HX.out.1.symm
 have hx1 : X0 + 1 = X := HX.out.2.1.symm
 simp only [hx0, hx1]
 clear hx0 hx1
 go_wp2_with fail
 refine (cT (HNM.out _ HS.out) HK HB HB0 HS) fun v1 HK HB HB0 HS => ?_
 go_wp2_with fail
 refine (cT (HIstar.out _ HS.out) HK HB HB0 HS) fun v2 HK HB HB0 HS => ?_
 go_wp2_with fail
 refine (cT (HIret.out _ HS.out) HK HB HB0 HS) fun v3 HK HB HB0 HS => ?_
 go_wp2_with fail
 refine (cT (HIassert.out _ HS.out) HK HB HB0 HS) fun v4 HK HB HB0 HS => ?_
 go_wp2_with fail
 refine (cT (HIif.out _ HS.out) HK HB HB0 HS) fun v5 HK HB HB0 HS => ?_
 obtain ⟨cs9, hrow9, -, -, -, -, c6, hfz9⟩ := HS.out.row
 have hlt9 : decide ((200 : Int) ≤ (k : Int)) = true := by simp; omega
 clear hrow9 hfz9
 go_wp2_with fail
 refine (cU (HF.out _ HS.out) HK HB HB0) fun v6 HK HB HB0 HS => ?_
 clear c6 hlt9
 obtain ⟨cc0, ff0, cc1, ff1, cc2, ff2, cc3, ff3, cc4, ff4, cc5, ff5, cc6, ff6, cc7, ff7, cc8, ff8, cc9, ff9⟩ := row10 HB.out
 obtain ⟨c00, f00, c01, f01, c02, f02, c03, f03, c04, f04, c05, f05, c06, f06, c07, f07, c08, f08, c09, f09⟩ := row10 HB0.out
 have hne1 : X0 ≠ X := zX
 have hne2 : X ≠ X0 := zX
 go_wp2_with fail
 refine bodyPost_ret (v := .agg (sRow 0 ⟨#[]⟩ ⟨#[]⟩ none none none (.slice none 0 0) (.slice none 0 0) (.slice none 0 0) (k : Int)).toArray) (by simp [results, Tryz.results84, go_sem, cc0, cc1, cc2, cc3, cc4, cc5, cc6, cc7, cc8, cc9, c00, c01, c02, c03, c04, c05, c06, c07, c08, c09]) rfl ?_
 refine setsEnd (S := [X0]) (w := v6) ?_ ?_
 · exact (((((((((((Keeps.refl [X0] _).set1 _ _).set1 _ _).set1 _ _).set1 _ _).set1 _ _).set1 _ _).set1 _ _).set1 _ _).set1 _ _).set1 _ _)
 ·
  intro W9 hk
  rw [HZ.out]
  refine stmt_doneX HX HK HS ⟨_, _, _, _, _, _, _, _, _, _, _, _, _, _, _, _, rfl⟩ (fun p h => ?_) hk
  cases h
theorem qst_most_while (f : Nat) (w : World) (b n : Nat) (ts : List Tok) (o k lo : Nat) (h : SA w b n (.live ts o k)) (hb : b ≤ lo) (hlo : lo < w.heap.size) (hkk : k ≤ 100000) (hk : 200 ≤ k) (hname : Px.isName ts = false) (hstar : Px.sees ts [42] = false) (hret : Px.sees ts [114, 101, 116, 117, 114, 110] = false) (hassert : Px.sees ts [97, 115, 115, 101, 114, 116] = false) (hif : Px.sees ts [105, 102] = false) (hwhile : Px.sees ts [119, 104, 105, 108, 101] = true) :
 Calls Tryz.prog 84 #[pp b] w (QS (SmBAt w.heap.size) IsAgg lo w b n (none, .dead 53 (Px.place n ts) o)) := by
 have HNM := Hd (fun w' (h : SA w' b n (.live ts o k)) => qnamed_any w' b n _ h)
 have hnm : (St.live ts o k).named = false := hname
 rw [hnm] at HNM
 have HIstar := Hd (fun w' (h : SA w' b n (.live ts o k)) => qis_any w' b n _ h [42])
 have histar : (St.live ts o k).sees [42] = false := hstar
 rw [histar] at HIstar
 have HIret := Hd (fun w' (h : SA w' b n (.live ts o k)) => qis_any w' b n _ h [114, 101, 116, 117, 114, 110])
 have hiret : (St.live ts o k).sees [114, 101, 116, 117, 114, 110] = false := hret
 rw [hiret] at HIret
 have HIassert := Hd (fun w' (h : SA w' b n (.live ts o k)) => qis_any w' b n _ h [97, 115, 115, 101, 114, 116])
 have hiassert : (St.live ts o k).sees [97, 115, 115, 101, 114, 116] = false := hassert
 rw [hiassert] at HIassert
 have HIif := Hd (fun w' (h : SA w' b n (.live ts o k)) => qis_any w' b n _ h [105, 102])
 have hiif : (St.live ts o k).sees [105, 102] = false := hif
 rw [hiif] at HIif
 have HIwhile := Hd (fun w' (h : SA w' b n (.live ts o k)) => qis_any w' b n _ h [119, 104, 105, 108, 101])
 have hiwhile : (St.live ts o k).sees [119, 104, 105, 108, 101] = true := hwhile
 rw [hiwhile] at HIwhile
 have HF := Hd (fun w' (h : SA w' b n (.live ts o k)) => qfail_any w' b n _ h 53 (by omega) (by omega))
 obtain ⟨X0, hX0⟩ : ∃ x, x = w.heap.size := ⟨_, rfl⟩
 obtain ⟨X, hX⟩ : ∃ x, x = X0 + 1 := ⟨_, rfl⟩
 obtain ⟨c6, H1, HB0, HB1⟩ := start_q h hX0 hX
 have HX := and4 hX0 hX hb hlo
 obtain ⟨z0, hz0⟩ : ∃ z, z = w.heap.size := ⟨_, rfl⟩
 rw [← hz0]
 have HZ := Hd hz0
 clear h hX hX0 hz0 hb hlo hname hstar hret hassert hif hwhile hnm histar hiret hiassert hiif hiwhile
 go_enter Tryz.func84, Tryz.ntmps84
 go_upto_region 2 with fail
 refine stage_q HB0 HB1 H1 (((Keeps.refl _ _).alloc _).alloc _) ?_
 clear c6 H1 HB0 HB1
 intro v0 HK HB0 HB HS
 have hx0 : w.heap.size = X0 := HX.out.1.symm
 have hx1 : X0 + 1 = X := HX.out.2.1.symm
 simp only [hx0, hx1]
 clear hx0 hx1
 go_wp2_with fail
 refine (cT (HNM.out _ HS.out) HK HB HB0 HS) fun v1 HK HB HB0 HS => ?_
 go_wp2_with fail
 refine (cT (HIstar.out _ HS.out) HK HB HB0 HS) fun v2 HK HB HB0 HS => ?_
 go_wp2_with fail
 refine (cT (HIret.out _ HS.out) HK HB HB0 HS) fun v3 HK HB HB0 HS => ?_
 go_wp2_with fail
 refine (cT (HIassert.out _ HS.out) HK HB HB0 HS) fun v4 HK HB HB0 HS => ?_
 go_wp2_with fail
 refine (cT (HIif.out _ HS.out) HK HB HB0 HS) fun v5 HK HB HB0 HS => ?_
 go_wp2_with fail
 refine (cT (HIwhile.out _ HS.out) HK HB HB0 HS) fun v6 HK HB HB0 HS => ?_
 obtain ⟨cs9, hrow9, -, -, -, -, c6, hfz9⟩ := HS.out.row
 have hlt9 : decide ((200 : Int) ≤ (k : Int)) = true := by simp; omega
 clear hrow9 hfz9
 go_wp2_with fail
 refine (cU (HF.out _ HS.out) HK HB HB0) fun v7 HK HB HB0 HS => ?_
 clear c6 hlt9
 obtain ⟨cc0, ff0, cc1, ff1, cc2, ff2, cc3, ff3, cc4, ff4, cc5, ff5, cc6, ff6, cc7, ff7, cc8, ff8, cc9, ff9⟩ := row10 HB.out
 obtain ⟨c00, f00, c01, f01, c02, f02, c03, f03, c04, f04, c05, f05, c06, f06, c07, f07, c08, f08, c09, f09⟩ := row10 HB0.out
 have hne1 : X0 ≠ X := zX
 have hne2 : X ≠ X0 := zX
 go_wp2_with fail
 refine bodyPost_ret (v := .agg (sRow 0 ⟨#[]⟩ ⟨#[]⟩ none none none (.slice none 0 0) (.slice none 0 0) (.slice none 0 0) (k : Int)).toArray) (by simp [results, Tryz.results84, go_sem, cc0, cc1, cc2, cc3, cc4, cc5, cc6, cc7, cc8, cc9, c00, c01, c02, c03, c04, c05, c06, c07, c08, c09]) rfl ?_
 refine setsEnd (S := [X0]) (w := v7) ?_ ?_
 · exact (((((((((((Keeps.refl [X0] _).set1 _ _).set1 _ _).set1 _ _).set1 _ _).set1 _ _).set1 _ _).set1 _ _).set1 _ _).set1 _ _).set1 _ _)
 ·
  intro W9 hk
  rw [HZ.out]
  refine stmt_doneX HX HK HS ⟨_, _, _, _, _, _, _, _, _, _, _, _, _, _, _, _, rfl⟩ (fun p h => ?_) hk
  cases h
theorem qst_while (f : Nat) (w : World) (b n : Nat) (ts : List Tok) (o k lo : Nat) (h : SA w b n (.live ts o k)) (hb : b ≤ lo) (hlo : lo < w.heap.size) (hkk : k ≤ 100000) (hk : k < 200) (hname : Px.isName ts = false) (hstar : Px.sees ts [42] = false) (hret : Px.sees ts [114, 101, 116, 117, 114, 110] = false) (hassert : Px.sees ts [97, 115, 115, 101, 114, 116] = false) (hif : Px.sees ts [105, 102] = false) (hwhile : Px.sees ts [119, 104, 105, 108, 101] = true) (hf : 4 * ts.length + 8 ≤ f + 1) (ho2 : o ≤ 1000) (hB : ∀ w' σ lo', SA w' b n σ → σ.fits f 6 → σ.few → b ≤ lo' → lo' < w'.heap.size → Calls Tryz.prog 117 #[pp b] w' (QS (SsAt w'.heap.size) IsSl lo' w' b n (σ.lift n kS (sblock f)))) {P : Option Cn × St} {Q : Option (List Sm × Nat) × St} (hP : P = ((St.live ts.tail o (k + 1)).want n [40]).lift n kI (ccond f)) (hQ : Q = (P.2.want n [41]).lift n kS (sblock f)) :
 Calls Tryz.prog 84 #[pp b] w (QS (SmBAt w.heap.size) IsAgg lo w b n (P.1.bind fun c => Q.1.map fun th => (.mk 11 [] [] none none (some c) [] th.1 [] k, th.2), Q.2)) := by
 have HNM := Hd (fun w' (h : SA w' b n (.live ts o k)) => qnamed_any w' b n _ h)
 have hnm : (St.live ts o k).named = false := hname
 rw [hnm] at HNM
 have HIstar := Hd (fun w' (h : SA w' b n (.live ts o k)) => qis_any w' b n _ h [42])
 have histar : (St.live ts o k).sees [42] = false := hstar
 rw [histar] at HIstar
 have HIret := Hd (fun w' (h : SA w' b n (.live ts o k)) => qis_any w' b n _ h [114, 101, 116, 117, 114, 110])
 have hiret : (St.live ts o k).sees [114, 101, 116, 117, 114, 110] = false := hret
 rw [hiret] at HIret
 have HIassert := Hd (fun w' (h : SA w' b n (.live ts o k)) => qis_any w' b n _ h [97, 115, 115, 101, 114, 116])
 have hiassert : (St.live ts o k).sees [97, 115, 115, 101, 114, 116] = false := hassert
 rw [hiassert] at HIassert
 have HIif := Hd (fun w' (h : SA w' b n (.live ts o k)) => qis_any w' b n _ h [105, 102])
 have hiif : (St.live ts o k).sees [105, 102] = false := hif
 rw [hiif] at HIif
 have HIwhile := Hd (fun w' (h : SA w' b n (.live ts o k)) => qis_any w' b n _ h [119, 104, 105, 108, 101])
 have hiwhile : (St.live ts o k).sees [119, 104, 105, 108, 101] = true := hwhile
 rw [hiwhile] at HIwhile
 have HTret := Hd (fun w' (h : SA w' b n (.live ts o (k + 1))) => qtake_any w' b n _ h [114, 101, 116, 117, 114, 110])
 have htret : (St.live ts o (k + 1)).sees [114, 101, 116, 117, 114, 110] = false := hret
 unfold St.take at HTret
 rw [htret] at HTret
 simp only [Bool.false_eq_true, if_false] at HTret
 have HTassert := Hd (fun w' (h : SA w' b n (.live ts o (k + 1))) => qtake_any w' b n _ h [97, 115, 115, 101, 114, 116])
 have htassert : (St.live ts o (k + 1)).sees [97, 115, 115, 101, 114, 116] = false := hassert
 unfold St.take at HTassert
 rw [htassert] at HTassert
 simp only [Bool.false_eq_true, if_false] at HTassert
 have HJif := Hd (fun w' (h : SA w' b n (.live ts o (k + 1))) => qis_any w' b n _ h [105, 102])
 have hjif : (St.live ts o (k + 1)).sees [105, 102] = false := hif
 rw [hjif] at HJif
 have HJwhile := Hd (fun w' (h : SA w' b n (.live ts o (k + 1))) => qis_any w' b n _ h [119, 104, 105, 108, 101])
 have hjwhile : (St.live ts o (k + 1)).sees [119, 104, 105, 108, 101] = true := hwhile
 rw [hjwhile] at HJwhile
 obtain ⟨t9, r9, hts, -⟩ := sees_cons (by simp) hwhile
 have hlen9 : 0 < ts.length := by rw [hts]; simp
 have HW1 := Hd (fun w' (h : SA w' b n (.live ts.tail o (k + 1))) => qwant_any w' b n _ h [40])
 have hfit : ((St.live ts.tail o (k + 1)).want n [40]).fits f 7 := fits_want ⟨ho2, by simp; omega⟩
 have HQ := Hd (fun w' (h : SA w' b n ((St.live ts.tail o (k + 1)).want n [40])) (X : Nat) (hX : b ≤ X ∧ X < w'.heap.size) => (qc f).cond w' b n ((St.live ts.tail o (k + 1)).want n [40]) X h hfit hX.1 hX.2)
 rw [← hP] at HQ
 have HW2 := Hd (fun w' (h : SA w' b n P.2) => qwant_any w' b n _ h [41])
 have hfit2 : (P.2.want n [41]).fits f 6 := by rw [hP]; exact fits_want (fits_low (fits_cond hfit) (by omega))
 have hfew2 : (P.2.want n [41]).few := by rw [hP]; exact few_want (few_lift (few_want (show k + 1 ≤ 250 by omega)))
 have HB1 := Hd (fun w' (h : SA w' b n (P.2.want n [41])) (X : Nat) (hX : b ≤ X ∧ X < w'.heap.size) => hB w' _ X h hfit2 hfew2 hX.1 hX.2)
 rw [← hQ] at HB1
 obtain ⟨X0, hX0⟩ : ∃ x, x = w.heap.size := ⟨_, rfl⟩
 obtain ⟨X, hX⟩ : ∃ x, x = X0 + 1 := ⟨_, rfl⟩
 obtain ⟨c6, H1, HB0, HB1⟩ := start_q h hX0 hX
 have HX := and4 hX0 hX hb hlo
 obtain ⟨z0, hz0⟩ : ∃ z, z = w.heap.size := ⟨_, rfl⟩
 rw [← hz0]
 have HZ := Hd hz0
 clear h hX hX0 hz0 hb hlo hname hstar hret hassert hif  hnm histar hiret hiassert hiif hiwhile htret htassert hjif hjwhile hP hQ hfit hfit2 hfew2 hB hwhile
 go_enter Tryz.func84, Tryz.ntmps84
 go_upto_region 2 with fail
 refine stage_q HB0 HB1 H1 (((Keeps.refl _ _).alloc _).alloc _) ?_
 clear c6 H1 HB0 HB1
 intro v0 HK HB0 HB HS
 have hx0 : w.heap.size = X0 := HX.out.1.symm
 have hx1 : X0 + 1 = X := HX.out.2.1.symm
 simp only [hx0, hx1]
 clear hx0 hx1
 go_wp2_with fail
 refine (cT (HNM.out _ HS.out) HK HB HB0 HS) fun v1 HK HB HB0 HS => ?_
 go_wp2_with fail
 refine (cT (HIstar.out _ HS.out) HK HB HB0 HS) fun v2 HK HB HB0 HS => ?_
 go_wp2_with fail
 refine (cT (HIret.out _ HS.out) HK HB HB0 HS) fun v3 HK HB HB0 HS => ?_
 go_wp2_with fail
 refine (cT (HIassert.out _ HS.out) HK HB HB0 HS) fun v4 HK HB HB0 HS => ?_
 go_wp2_with fail
 refine (cT (HIif.out _ HS.out) HK HB HB0 HS) fun v5 HK HB HB0 HS => ?_
 go_wp2_with fail
 refine (cT (HIwhile.out _ HS.out) HK HB HB0 HS) fun v6 HK HB HB0 HS => ?_
 obtain ⟨cs9, hrow9, -, -, -, -, c6, hfz9⟩ := HS.out.row
 have f6 := hfz9 6
 have hlt9 : decide ((200 : Int) ≤ (k : Int)) = false := by simp; omega
 have HS := Hd (HS.out.setN (k + 1))
 clear hrow9 hfz9
 have hk : Keeps [b] v6 (v6.setCell ⟨b, 6, none⟩ (.int .i64 ((k + 1 : Nat) : Int))) := (Keeps.refl [b] _).set1 _ _
 have HK := zT HK hk
 have HB := zB HB hk
 have HB0 := zB HB0 hk
 clear hk
 go_wp2_with fail
 refine (cU (HTret.out _ HS.out) HK HB HB0) fun v7 HK HB HB0 HS => ?_
 clear c6 f6 hlt9
 go_wp2_with fail
 refine (cU (HTassert.out _ HS.out) HK HB HB0) fun v8 HK HB HB0 HS => ?_
 go_wp2_with fail
 refine (cT (HJif.out _ HS.out) HK HB HB0 HS) fun v9 HK HB HB0 HS => ?_
 go_wp2_with fail
 refine (cT (HJwhile.out _ HS.out) HK HB HB0 HS) fun v10 HK HB HB0 HS => ?_
 obtain ⟨cc0, ff0⟩ := rowi HB.out 0
 have hk : Keeps [X] v10 (v10.setCell ⟨X, 0, none⟩ (.int .i64 10)) := ((Keeps.refl [X] _).set1 _ _)
 have HB := Hd (show (v10.setCell ⟨X, 0, none⟩ (.int .i64 10)).heap[X]? = some (.cells (sRow 10 ⟨#[]⟩ ⟨#[]⟩ none none none (.slice none 0 0) (.slice none 0 0) (.slice none 0 0) (k : Int)).toArray 60 (0, 0)) from by
  have h0 := row_set HB.out 0 (.int .i64 10)
  exact h0)
 have HB0 := zB HB0 hk
 have HK := zH HK hk
 have HS := zI HS hk
 clear hk
 go_wp2_with fail
 refine (cT (HJwhile.out _ HS.out) HK HB HB0 HS) fun v11 HK HB HB0 HS => ?_
 clear cc0 ff0
 obtain ⟨cc0, ff0⟩ := rowi HB.out 0
 have hk : Keeps [X] v11 (v11.setCell ⟨X, 0, none⟩ (.int .i64 11)) := ((Keeps.refl [X] _).set1 _ _)
 have HB := Hd (show (v11.setCell ⟨X, 0, none⟩ (.int .i64 11)).heap[X]? = some (.cells (sRow 11 ⟨#[]⟩ ⟨#[]⟩ none none none (.slice none 0 0) (.slice none 0 0) (.slice none 0 0) (k : Int)).toArray 60 (0, 0)) from by
  have h0 := row_set HB.out 0 (.int .i64 11)
  exact h0)
 have HB0 := zB HB0 hk
 have HK := zH HK hk
 have HS := zI HS hk
 clear hk
 subst hts
 obtain ⟨g2, off2, L2, cap2, i2, d0, d1, hi2, hL2, q0, q1, q2, qf, hq⟩ := HS.out.prev
 have HS := Hd hq
 have hk : Keeps [b] (v11.setCell ⟨X, 0, none⟩ (.int .i64 11)) ((v11.setCell ⟨X, 0, none⟩ (.int .i64 11)).setCell ⟨b, 1, none⟩ (.int .i64 ((i2 : Int) + 1))) := (Keeps.refl [b] _).set1 _ _
 have HK := zT HK hk
 have HB := zB HB hk
 have HB0 := zB HB0 hk
 clear hk hq q0 q1 q2 d0
 go_wp2_with fail
 refine (cU (HW1.out _ HS.out) HK HB HB0) fun v12 HK HB HB0 HS => ?_
 clear d1 qf cc0 ff0
 go_wp2_with fail
 refine (HQ.out _ HS.out X ⟨by have := HX.out; omega, block_lt HB.out⟩).mono ?_
 rintro e v13 ⟨v, rfl, ⟨q, rfl⟩, hk, hs, ha⟩
 have HK := zT HK hk
 have HB := zB HB hk
 have HB0 := zB HB0 hk
 have HA := Hd ha
 have HS := Hd hs
 clear hk hs ha
 obtain ⟨cc5, ff5⟩ := rowi HB.out 5
 have hk : Keeps [X] v13 (v13.setCell ⟨X, 5, none⟩ (.pointer q)) := ((Keeps.refl [X] _).set1 _ _)
 have HB := Hd (show (v13.setCell ⟨X, 5, none⟩ (.pointer q)).heap[X]? = some (.cells (sRow 11 ⟨#[]⟩ ⟨#[]⟩ none none q (.slice none 0 0) (.slice none 0 0) (.slice none 0 0) (k : Int)).toArray 60 (0, 0)) from by
  have h0 := row_set HB.out 5 (.pointer q)
  exact h0)
 have HB0 := zB HB0 hk
 have HK := zH HK hk
 have HS := zI HS hk
 have HA := Hd (fun q h => (HA.out q h).keep hk zY)
 clear hk
 go_wp2_with fail
 refine (HW2.out _ HS.out).mono ?_
 rintro e v14 ⟨rfl, hs, hk⟩
 have HK := zT HK hk
 have HB := zB HB hk
 have HB0 := zB HB0 hk
 have HA := Hd (fun q h => (HA.out q h).keep hk zY)
 have HS := Hd hs
 clear hs hk
 clear cc5 ff5
 have HZ1 := Hd (show X < v14.heap.size from block_lt HB.out)
 go_wp2_with fail
 refine (HB1.out _ HS.out X ⟨by have := HX.out; omega, block_lt HB.out⟩).mono ?_
 rintro e v15 ⟨v, rfl, ⟨At, nt, ct, rfl⟩, hk, hs, ha⟩
 have HK := zT HK hk
 have HB := zB HB hk
 have HB0 := zB HB0 hk
 have HA := Hd (fun q h => (HA.out q h).keep hk zY)
 have HA1 := Hd (fun q h => (show ∃ B, SsB v15 X B q.1 (.slice At nt ct) ∧ ∀ g, B g → X < g ∧ g < v15.heap.size from ss_from (ha q h) HZ1.out))
 have HS := Hd hs
 clear hk hs ha
 obtain ⟨cc7, ff7⟩ := rowi HB.out 7
 have hk : Keeps [X] v15 (v15.setCell ⟨X, 7, none⟩ (.slice At nt ct)) := ((Keeps.refl [X] _).set1 _ _)
 have HB := Hd (show (v15.setCell ⟨X, 7, none⟩ (.slice At nt ct)).heap[X]? = some (.cells (sRow 11 ⟨#[]⟩ ⟨#[]⟩ none none q (.slice none 0 0) (.slice At nt ct) (.slice none 0 0) (k : Int)).toArray 60 (0, 0)) from by
  have h0 := row_set HB.out 7 (.slice At nt ct)
  exact h0)
 have HB0 := zB HB0 hk
 have HK := zH HK hk
 have HS := zI HS hk
 have HA := Hd (fun q h => (HA.out q h).keep hk zY)
 have HA1 := Hd (fun q h => ss_keep (HA1.out q h) hk zY)
 clear hk
 obtain ⟨cc0, ff0⟩ := rowi HB.out 0
 obtain ⟨cc0, ff0, cc1, ff1, cc2, ff2, cc3, ff3, cc4, ff4, cc5, ff5, cc6, ff6, cc7, ff7, cc8, ff8, cc9, ff9⟩ := row10 HB.out
 obtain ⟨c00, f00, c01, f01, c02, f02, c03, f03, c04, f04, c05, f05, c06, f06, c07, f07, c08, f08, c09, f09⟩ := row10 HB0.out
 have hne1 : X0 ≠ X := zX
 have hne2 : X ≠ X0 := zX
 go_wp2_with fail
 refine bodyPost_ret (v := .agg (sRow 11 ⟨#[]⟩ ⟨#[]⟩ none none q (.slice none 0 0) (.slice At nt ct) (.slice none 0 0) (k : Int)).toArray) (by simp [results, Tryz.results84, go_sem, cc0, cc1, cc2, cc3, cc4, cc5, cc6, cc7, cc8, cc9, c00, c01, c02, c03, c04, c05, c06, c07, c08, c09]) rfl ?_
 refine setsEnd (S := [X0]) (w := (v15.setCell ⟨X, 7, none⟩ (.slice At nt ct))) ?_ ?_
 · exact (((((((((((Keeps.refl [X0] _).set1 _ _).set1 _ _).set1 _ _).set1 _ _).set1 _ _).set1 _ _).set1 _ _).set1 _ _).set1 _ _).set1 _ _)
 ·
  intro W9 hk
  rw [HZ.out]
  refine stmt_doneX HX HK HS ⟨_, _, _, _, _, _, _, _, _, _, _, _, _, _, _, _, rfl⟩ (fun p h => ?_) hk
  obtain ⟨c0, h1, h2⟩ := Option.bind_eq_some_iff.1 h
  obtain ⟨t0, h3, rfl⟩ := Option.map_eq_some_iff.1 h2
  obtain ⟨B, h4, h5⟩ := HA1.out t0 h3
  exact ⟨B, ⟨_, _, _, _, _, _, rfl, rfl, rfl, HA.out c0 h1, qnoArgs, h4, qnoSs⟩, h5⟩
theorem qst_if (f : Nat) (w : World) (b n : Nat) (ts : List Tok) (o k lo : Nat) (h : SA w b n (.live ts o k)) (hb : b ≤ lo) (hlo : lo < w.heap.size) (hkk : k ≤ 100000) (hk : k < 200) (hname : Px.isName ts = false) (hstar : Px.sees ts [42] = false) (hret : Px.sees ts [114, 101, 116, 117, 114, 110] = false) (hassert : Px.sees ts [97, 115, 115, 101, 114, 116] = false) (hif : Px.sees ts [105, 102] = true) (hwhile : Px.sees ts [119, 104, 105, 108, 101] = false) (hf : 4 * ts.length + 8 ≤ f + 1) (ho2 : o ≤ 1000) (hB : ∀ w' σ lo', SA w' b n σ → σ.fits f 6 → σ.few → b ≤ lo' → lo' < w'.heap.size → Calls Tryz.prog 117 #[pp b] w' (QS (SsAt w'.heap.size) IsSl lo' w' b n (σ.lift n kS (sblock f)))) {P : Option Cn × St} {Q T : Option (List Sm × Nat) × St} (hP : P = ((St.live ts.tail o (k + 1)).want n [40]).lift n kI (ccond f)) (hQ : Q = (P.2.want n [41]).lift n kS (sblock f)) (hT : T = (Q.2.take [101, 108, 115, 101]).lift n kS (sblock f)) {R : Option (Sm × Nat) × St} (hR : R = if Q.2.sees [101, 108, 115, 101] then (P.1.bind fun c => Q.1.bind fun th => T.1.map fun el => (.mk 10 [] [] none none (some c) [] th.1 el.1 k, el.2), T.2) else (P.1.bind fun c => Q.1.map fun th => (.mk 10 [] [] none none (some c) [] th.1 [] k, th.2), Q.2)) :
 Calls Tryz.prog 84 #[pp b] w (QS (SmBAt w.heap.size) IsAgg lo w b n R) := by
 have HNM := Hd (fun w' (h : SA w' b n (.live ts o k)) => qnamed_any w' b n _ h)
 have hnm : (St.live ts o k).named = false := hname
 rw [hnm] at HNM
 have HIstar := Hd (fun w' (h : SA w' b n (.live ts o k)) => qis_any w' b n _ h [42])
 have histar : (St.live ts o k).sees [42] = false := hstar
 rw [histar] at HIstar
 have HIret := Hd (fun w' (h : SA w' b n (.live ts o k)) => qis_any w' b n _ h [114, 101, 116, 117, 114, 110])
 have hiret : (St.live ts o k).sees [114, 101, 116, 117, 114, 110] = false := hret
 rw [hiret] at HIret
 have HIassert := Hd (fun w' (h : SA w' b n (.live ts o k)) => qis_any w' b n _ h [97, 115, 115, 101, 114, 116])
 have hiassert : (St.live ts o k).sees [97, 115, 115, 101, 114, 116] = false := hassert
 rw [hiassert] at HIassert
 have HIif := Hd (fun w' (h : SA w' b n (.live ts o k)) => qis_any w' b n _ h [105, 102])
 have hiif : (St.live ts o k).sees [105, 102] = true := hif
 rw [hiif] at HIif
 have HTret := Hd (fun w' (h : SA w' b n (.live ts o (k + 1))) => qtake_any w' b n _ h [114, 101, 116, 117, 114, 110])
 have htret : (St.live ts o (k + 1)).sees [114, 101, 116, 117, 114, 110] = false := hret
 unfold St.take at HTret
 rw [htret] at HTret
 simp only [Bool.false_eq_true, if_false] at HTret
 have HTassert := Hd (fun w' (h : SA w' b n (.live ts o (k + 1))) => qtake_any w' b n _ h [97, 115, 115, 101, 114, 116])
 have htassert : (St.live ts o (k + 1)).sees [97, 115, 115, 101, 114, 116] = false := hassert
 unfold St.take at HTassert
 rw [htassert] at HTassert
 simp only [Bool.false_eq_true, if_false] at HTassert
 have HJif := Hd (fun w' (h : SA w' b n (.live ts o (k + 1))) => qis_any w' b n _ h [105, 102])
 have hjif : (St.live ts o (k + 1)).sees [105, 102] = true := hif
 rw [hjif] at HJif
 have HJwhile := Hd (fun w' (h : SA w' b n (.live ts o (k + 1))) => qis_any w' b n _ h [119, 104, 105, 108, 101])
 have hjwhile : (St.live ts o (k + 1)).sees [119, 104, 105, 108, 101] = false := hwhile
 rw [hjwhile] at HJwhile
 obtain ⟨t9, r9, hts, -⟩ := sees_cons (by simp) hif
 have hlen9 : 0 < ts.length := by rw [hts]; simp
 have HW1 := Hd (fun w' (h : SA w' b n (.live ts.tail o (k + 1))) => qwant_any w' b n _ h [40])
 have hfit : ((St.live ts.tail o (k + 1)).want n [40]).fits f 7 := fits_want ⟨ho2, by simp; omega⟩
 have HQ := Hd (fun w' (h : SA w' b n ((St.live ts.tail o (k + 1)).want n [40])) (X : Nat) (hX : b ≤ X ∧ X < w'.heap.size) => (qc f).cond w' b n ((St.live ts.tail o (k + 1)).want n [40]) X h hfit hX.1 hX.2)
 rw [← hP] at HQ
 have HW2 := Hd (fun w' (h : SA w' b n P.2) => qwant_any w' b n _ h [41])
 have hfit2 : (P.2.want n [41]).fits f 6 := by rw [hP]; exact fits_want (fits_low (fits_cond hfit) (by omega))
 have hfew2 : (P.2.want n [41]).few := by rw [hP]; exact few_want (few_lift (few_want (show k + 1 ≤ 250 by omega)))
 have HB1 := Hd (fun w' (h : SA w' b n (P.2.want n [41])) (X : Nat) (hX : b ≤ X ∧ X < w'.heap.size) => hB w' _ X h hfit2 hfew2 hX.1 hX.2)
 rw [← hQ] at HB1
 have HT9 := Hd (fun w' (h : SA w' b n Q.2) => qtake_any w' b n Q.2 h [101, 108, 115, 101])
 have hfit3 : (Q.2.take [101, 108, 115, 101]).fits f 6 := by rw [hQ]; exact fits_take (fits_block hfit2)
 have hfew3 : (Q.2.take [101, 108, 115, 101]).few := by rw [hQ]; exact few_take (few_block hfew2)
 have HB2 := Hd (fun w' (h : SA w' b n (Q.2.take [101, 108, 115, 101])) (X : Nat) (hX : b ≤ X ∧ X < w'.heap.size) => hB w' _ X h hfit3 hfew3 hX.1 hX.2)
 rw [← hT] at HB2
 have HR0 := Hd hR
 clear hR
 obtain ⟨X0, hX0⟩ : ∃ x, x = w.heap.size := ⟨_, rfl⟩
 obtain ⟨X, hX⟩ : ∃ x, x = X0 + 1 := ⟨_, rfl⟩
 obtain ⟨c6, H1, HB0, HB1⟩ := start_q h hX0 hX
 have HX := and4 hX0 hX hb hlo
 obtain ⟨z0, hz0⟩ : ∃ z, z = w.heap.size := ⟨_, rfl⟩
 rw [← hz0]
 have HZ := Hd hz0
 clear h hX hX0 hz0 hb hlo hname hstar hret hassert  hwhile hnm histar hiret hiassert hiif htret htassert hjif hjwhile hP hQ hfit hfit2 hfew2 hB hT hfit3 hfew3 hif
 go_enter Tryz.func84, Tryz.ntmps84
 go_upto_region 2 with fail
 refine stage_q HB0 HB1 H1 (((Keeps.refl _ _).alloc _).alloc _) ?_
 clear c6 H1 HB0 HB1
 intro v0 HK HB0 HB HS
 have hx0 : w.heap.size = X0 := HX.out.1.symm
 have hx1 : X0 + 1 = X := HX.out.2.1.symm
 simp only [hx0, hx1]
 clear hx0 hx1
 go_wp2_with fail
 refine (cT (HNM.out _ HS.out) HK HB HB0 HS) fun v1 HK HB HB0 HS => ?_
 go_wp2_with fail
 refine (cT (HIstar.out _ HS.out) HK HB HB0 HS) fun v2 HK HB HB0 HS => ?_
 go_wp2_with fail
 refine (cT (HIret.out _ HS.out) HK HB HB0 HS) fun v3 HK HB HB0 HS => ?_
 go_wp2_with fail
 refine (cT (HIassert.out _ HS.out) HK HB HB0 HS) fun v4 HK HB HB0 HS => ?_
 go_wp2_with fail
 refine (cT (HIif.out _ HS.out) HK HB HB0 HS) fun v5 HK HB HB0 HS => ?_
 obtain ⟨cs9, hrow9, -, -, -, -, c6, hfz9⟩ := HS.out.row
 have f6 := hfz9 6
 have hlt9 : decide ((200 : Int) ≤ (k : Int)) = false := by simp; omega
 have HS := Hd (HS.out.setN (k + 1))
 clear hrow9 hfz9
 have hk : Keeps [b] v5 (v5.setCell ⟨b, 6, none⟩ (.int .i64 ((k + 1 : Nat) : Int))) := (Keeps.refl [b] _).set1 _ _
 have HK := zT HK hk
 have HB := zB HB hk
 have HB0 := zB HB0 hk
 clear hk
 go_wp2_with fail
 refine (cU (HTret.out _ HS.out) HK HB HB0) fun v6 HK HB HB0 HS => ?_
 clear c6 f6 hlt9
 go_wp2_with fail
 refine (cU (HTassert.out _ HS.out) HK HB HB0) fun v7 HK HB HB0 HS => ?_
 go_wp2_with fail
 refine (cT (HJif.out _ HS.out) HK HB HB0 HS) fun v8 HK HB HB0 HS => ?_
 obtain ⟨cc0, ff0⟩ := rowi HB.out 0
 have hk : Keeps [X] v8 (v8.setCell ⟨X, 0, none⟩ (.int .i64 10)) := ((Keeps.refl [X] _).set1 _ _)
 have HB := Hd (show (v8.setCell ⟨X, 0, none⟩ (.int .i64 10)).heap[X]? = some (.cells (sRow 10 ⟨#[]⟩ ⟨#[]⟩ none none none (.slice none 0 0) (.slice none 0 0) (.slice none 0 0) (k : Int)).toArray 60 (0, 0)) from by
  have h0 := row_set HB.out 0 (.int .i64 10)
  exact h0)
 have HB0 := zB HB0 hk
 have HK := zH HK hk
 have HS := zI HS hk
 clear hk
 go_wp2_with fail
 refine (cT (HJwhile.out _ HS.out) HK HB HB0 HS) fun v9 HK HB HB0 HS => ?_
 clear cc0 ff0
 subst hts
 obtain ⟨g2, off2, L2, cap2, i2, d0, d1, hi2, hL2, q0, q1, q2, qf, hq⟩ := HS.out.prev
 have HS := Hd hq
 have hk : Keeps [b] v9 (v9.setCell ⟨b, 1, none⟩ (.int .i64 ((i2 : Int) + 1))) := (Keeps.refl [b] _).set1 _ _
 have HK := zT HK hk
 have HB := zB HB hk
 have HB0 := zB HB0 hk
 clear hk hq q0 q1 q2 d0
 go_wp2_with fail
 refine (cU (HW1.out _ HS.out) HK HB HB0) fun v10 HK HB HB0 HS => ?_
 clear d1 qf
 go_wp2_with fail
 refine (HQ.out _ HS.out X ⟨by have := HX.out; omega, block_lt HB.out⟩).mono ?_
 rintro e v11 ⟨v, rfl, ⟨q, rfl⟩, hk, hs, ha⟩
 have HK := zT HK hk
 have HB := zB HB hk
 have HB0 := zB HB0 hk
 have HA := Hd ha
 have HS := Hd hs
 clear hk hs ha
 obtain ⟨cc5, ff5⟩ := rowi HB.out 5
 have hk : Keeps [X] v11 (v11.setCell ⟨X, 5, none⟩ (.pointer q)) := ((Keeps.refl [X] _).set1 _ _)
 have HB := Hd (show (v11.setCell ⟨X, 5, none⟩ (.pointer q)).heap[X]? = some (.cells (sRow 10 ⟨#[]⟩ ⟨#[]⟩ none none q (.slice none 0 0) (.slice none 0 0) (.slice none 0 0) (k : Int)).toArray 60 (0, 0)) from by
  have h0 := row_set HB.out 5 (.pointer q)
  exact h0)
 have HB0 := zB HB0 hk
 have HK := zH HK hk
 have HS := zI HS hk
 have HA := Hd (fun q h => (HA.out q h).keep hk zY)
 clear hk
 go_wp2_with fail
 refine (HW2.out _ HS.out).mono ?_
 rintro e v12 ⟨rfl, hs, hk⟩
 have HK := zT HK hk
 have HB := zB HB hk
 have HB0 := zB HB0 hk
 have HA := Hd (fun q h => (HA.out q h).keep hk zY)
 have HS := Hd hs
 clear hs hk
 clear cc5 ff5
 have HZ1 := Hd (show X < v12.heap.size from block_lt HB.out)
 go_wp2_with fail
 refine (HB1.out _ HS.out X ⟨by have := HX.out; omega, block_lt HB.out⟩).mono ?_
 rintro e v13 ⟨v, rfl, ⟨At, nt, ct, rfl⟩, hk, hs, ha⟩
 have HK := zT HK hk
 have HB := zB HB hk
 have HB0 := zB HB0 hk
 have HA := Hd (fun q h => (HA.out q h).keep hk zY)
 have HA1 := Hd (fun q h => (show ∃ B, SsB v13 X B q.1 (.slice At nt ct) ∧ ∀ g, B g → X < g ∧ g < v13.heap.size from ss_from (ha q h) HZ1.out))
 have HS := Hd hs
 clear hk hs ha
 obtain ⟨cc7, ff7⟩ := rowi HB.out 7
 have hk : Keeps [X] v13 (v13.setCell ⟨X, 7, none⟩ (.slice At nt ct)) := ((Keeps.refl [X] _).set1 _ _)
 have HB := Hd (show (v13.setCell ⟨X, 7, none⟩ (.slice At nt ct)).heap[X]? = some (.cells (sRow 10 ⟨#[]⟩ ⟨#[]⟩ none none q (.slice none 0 0) (.slice At nt ct) (.slice none 0 0) (k : Int)).toArray 60 (0, 0)) from by
  have h0 := row_set HB.out 7 (.slice At nt ct)
  exact h0)
 have HB0 := zB HB0 hk
 have HK := zH HK hk
 have HS := zI HS hk
 have HA := Hd (fun q h => (HA.out q h).keep hk zY)
 have HA1 := Hd (fun q h => ss_keep (HA1.out q h) hk zY)
 clear hk
 by_cases hy : Q.2.sees [101, 108, 115, 101] = true
 ·
  obtain ⟨cc0, ff0⟩ := rowi HB.out 0
  rw [hy] at HT9
  have hR := HR0.out
  rw [if_pos hy] at hR
  have HR := Hd hR
  clear hR hy
  go_wp2_with fail
  refine (HT9.out _ HS.out).mono ?_
  rintro e v14 ⟨rfl, hs, hk⟩
  have HK := zT HK hk
  have HB := zB HB hk
  have HB0 := zB HB0 hk
  have HA := Hd (fun q h => (HA.out q h).keep hk zY)
  have HA1 := Hd (fun q h => ss_keep (HA1.out q h) hk zY)
  have HS := Hd hs
  clear hs hk
  clear cc0 ff0 cc7 ff7
  have HZ1 := Hd (show X < v14.heap.size from block_lt HB.out)
  go_wp2_with fail
  refine (HB2.out _ HS.out X ⟨by have := HX.out; omega, block_lt HB.out⟩).mono ?_
  rintro e v15 ⟨v, rfl, ⟨Al, nl, cl, rfl⟩, hk, hs, ha⟩
  have HK := zT HK hk
  have HB := zB HB hk
  have HB0 := zB HB0 hk
  have HA := Hd (fun q h => (HA.out q h).keep hk zY)
  have HA1 := Hd (fun q h => ss_keep (HA1.out q h) hk zY)
  have HA2 := Hd (fun q h => (show ∃ B, SsB v15 X B q.1 (.slice Al nl cl) ∧ ∀ g, B g → X < g ∧ g < v15.heap.size from ss_from (ha q h) HZ1.out))
  have HS := Hd hs
  clear hk hs ha
  obtain ⟨cc8, ff8⟩ := rowi HB.out 8
  have hk : Keeps [X] v15 (v15.setCell ⟨X, 8, none⟩ (.slice Al nl cl)) := ((Keeps.refl [X] _).set1 _ _)
  have HB := Hd (show (v15.setCell ⟨X, 8, none⟩ (.slice Al nl cl)).heap[X]? = some (.cells (sRow 10 ⟨#[]⟩ ⟨#[]⟩ none none q (.slice none 0 0) (.slice At nt ct) (.slice Al nl cl) (k : Int)).toArray 60 (0, 0)) from by
   have h0 := row_set HB.out 8 (.slice Al nl cl)
   exact h0)
  have HB0 := zB HB0 hk
  have HK := zH HK hk
  have HS := zI HS hk
  have HA := Hd (fun q h => (HA.out q h).keep hk zY)
  have HA1 := Hd (fun q h => ss_keep (HA1.out q h) hk zY)
  have HA2 := Hd (fun q h => ss_keep (HA2.out q h) hk zY)
  clear hk
  obtain ⟨cc0, ff0, cc1, ff1, cc2, ff2, cc3, ff3, cc4, ff4, cc5, ff5, cc6, ff6, cc7, ff7, cc8, ff8, cc9, ff9⟩ := row10 HB.out
  obtain ⟨c00, f00, c01, f01, c02, f02, c03, f03, c04, f04, c05, f05, c06, f06, c07, f07, c08, f08, c09, f09⟩ := row10 HB0.out
  have hne1 : X0 ≠ X := zX
  have hne2 : X ≠ X0 := zX
  go_wp2_with fail
  refine bodyPost_ret (v := .agg (sRow 10 ⟨#[]⟩ ⟨#[]⟩ none none q (.slice none 0 0) (.slice At nt ct) (.slice Al nl cl) (k : Int)).toArray) (by simp [results, Tryz.results84, go_sem, cc0, cc1, cc2, cc3, cc4, cc5, cc6, cc7, cc8, cc9, c00, c01, c02, c03, c04, c05, c06, c07, c08, c09]) rfl ?_
  refine setsEnd (S := [X0]) (w := (v15.setCell ⟨X, 8, none⟩ (.slice Al nl cl))) ?_ ?_
  · exact (((((((((((Keeps.refl [X0] _).set1 _ _).set1 _ _).set1 _ _).set1 _ _).set1 _ _).set1 _ _).set1 _ _).set1 _ _).set1 _ _).set1 _ _)
  ·
   intro W9 hk
   rw [HR.out]
   rw [HZ.out]
   refine stmt_doneX HX HK HS ⟨_, _, _, _, _, _, _, _, _, _, _, _, _, _, _, _, rfl⟩ (fun p h => ?_) hk
   obtain ⟨c0, h1, h2⟩ := Option.bind_eq_some_iff.1 h
   obtain ⟨t0, h3, h2⟩ := Option.bind_eq_some_iff.1 h2
   obtain ⟨l0, h6, rfl⟩ := Option.map_eq_some_iff.1 h2
   obtain ⟨B, h4, h5⟩ := HA1.out t0 h3
   obtain ⟨B2, h7, h8⟩ := HA2.out l0 h6
   exact ⟨fun g => B g ∨ B2 g, ⟨_, _, _, _, _, _, rfl, rfl, rfl, HA.out c0 h1, qnoArgs, SsB.wider h4 (fun g h => .inl h), SsB.wider h7 (fun g h => .inr h)⟩, fun g hg => hg.elim (h5 g) (h8 g)⟩
 ·
  obtain ⟨cc0, ff0⟩ := rowi HB.out 0
  have hn : Q.2.sees [101, 108, 115, 101] = false := by simpa using hy
  rw [hn] at HT9
  have htk : Q.2.take [101, 108, 115, 101] = Q.2 := by unfold St.take; rw [hn]; rfl
  rw [htk] at HT9
  have hR := HR0.out
  rw [if_neg hy] at hR
  have HR := Hd hR
  clear hR hy hn htk
  go_wp2_with fail
  refine (HT9.out _ HS.out).mono ?_
  rintro e v14 ⟨rfl, hs, hk⟩
  have HK := zT HK hk
  have HB := zB HB hk
  have HB0 := zB HB0 hk
  have HA := Hd (fun q h => (HA.out q h).keep hk zY)
  have HA1 := Hd (fun q h => ss_keep (HA1.out q h) hk zY)
  have HS := Hd hs
  clear hs hk
  clear cc0 ff0 cc7 ff7
  obtain ⟨cc0, ff0, cc1, ff1, cc2, ff2, cc3, ff3, cc4, ff4, cc5, ff5, cc6, ff6, cc7, ff7, cc8, ff8, cc9, ff9⟩ := row10 HB.out
  obtain ⟨c00, f00, c01, f01, c02, f02, c03, f03, c04, f04, c05, f05, c06, f06, c07, f07, c08, f08, c09, f09⟩ := row10 HB0.out
  have hne1 : X0 ≠ X := zX
  have hne2 : X ≠ X0 := zX
  go_wp2_with fail
  refine bodyPost_ret (v := .agg (sRow 10 ⟨#[]⟩ ⟨#[]⟩ none none q (.slice none 0 0) (.slice At nt ct) (.slice none 0 0) (k : Int)).toArray) (by simp [results, Tryz.results84, go_sem, cc0, cc1, cc2, cc3, cc4, cc5, cc6, cc7, cc8, cc9, c00, c01, c02, c03, c04, c05, c06, c07, c08, c09]) rfl ?_
  refine setsEnd (S := [X0]) (w := v14) ?_ ?_
  · exact (((((((((((Keeps.refl [X0] _).set1 _ _).set1 _ _).set1 _ _).set1 _ _).set1 _ _).set1 _ _).set1 _ _).set1 _ _).set1 _ _).set1 _ _)
  ·
   intro W9 hk
   rw [HR.out]
   rw [HZ.out]
   refine stmt_doneX HX HK HS ⟨_, _, _, _, _, _, _, _, _, _, _, _, _, _, _, _, rfl⟩ (fun p h => ?_) hk
   obtain ⟨c0, h1, h2⟩ := Option.bind_eq_some_iff.1 h
   obtain ⟨t0, h3, rfl⟩ := Option.map_eq_some_iff.1 h2
   obtain ⟨B, h4, h5⟩ := HA1.out t0 h3
   exact ⟨B, ⟨_, _, _, _, _, _, rfl, rfl, rfl, HA.out c0 h1, qnoArgs, h4, qnoSs⟩, h5⟩
end Go.Proofs.YtbikifibfaaggaaGreatDoor
