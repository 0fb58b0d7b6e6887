import Derived.Test.YtbikifibfaaggaaGreatDoorVMS
namespace Go.Proofs.YtbikifibfaaggaaGreatDoor
set_option maxHeartbeats 8000000
set_option maxRecDepth 100000
open Go.RowKit Go.Shelf
open Lx (Tok Tx)
open Px (Ex Cn)
open Reg (Is Fact)
attribute [local go_sem] Reg.wantedV Reg.gives_value Reg.gives_skip Reg.gives_enter
theorem not_neg_lift {n f : Nat} {ts : List Tok} {o k : Nat} (h : Px.sees ts [33] = true) (ho : ¬ 40 ≤ o) :
 (St.live ts o k).lift n kI (cnot (f + 1)) = ((((St.live ts.tail (o + 1) k).lift n kI (cnot f)).1.map Cn.not), ((St.live ts.tail (o + 1) k).lift n kI (cnot f)).2.depthTo o) := by
 have hu : Px.not (f + 1) o ts = (Px.not f (o + 1) ts.tail).bind fun a r => .ok (.not a) r := by
  rw [Px.not]; simp only [h, if_true, if_neg ho]
  cases Px.not f (o + 1) ts.tail <;> rfl
 simp only [St.lift, cnot, hu]
 cases Px.not f (o + 1) ts.tail <;> rfl
theorem not_par_lift {n f : Nat} {ts : List Tok} {o k : Nat} (h0 : Px.sees ts [33] = false) (h : Px.sees ts [40] = true) (ho : ¬ 40 ≤ o) :
 (St.live ts o k).lift n kI (cnot (f + 1)) = ((((St.live ts.tail (o + 1) k).lift n kI (ccond f)).2.want n [41]).gate ((St.live ts.tail (o + 1) k).lift n kI (ccond f)).1, (((St.live ts.tail (o + 1) k).lift n kI (ccond f)).2.want n [41]).depthTo o) := by
 have hu : Px.not (f + 1) o ts = (Px.cond f (o + 1) ts.tail).bind fun a r => if Px.sees r [41] then .ok a r.tail else .err 51 r := by
  rw [Px.not]; simp only [h0, h, if_true, if_neg ho]
  cases Px.cond f (o + 1) ts.tail <;> rfl
 simp only [St.lift, cnot, ccond, hu]
 cases hs : Px.cond f (o + 1) ts.tail with
 | err z r => simp [St.want, St.sees, St.gate, St.fail, St.ok, St.depthTo, Px.R.bind]
 | ok a r =>
  by_cases hc : Px.sees r [41] = true
  · simp [St.want, St.sees, St.gate, St.ok, St.depthTo, St.adv, hc, kI, Px.R.bind]
  · simp [St.want, St.sees, St.gate, St.ok, St.depthTo, St.fail, hc, Px.R.bind]
theorem not_open_lift {n f : Nat} {ts : List Tok} {o k : Nat} (h : Px.sees ts [33] = true ∨ (Px.sees ts [33] = false ∧ Px.sees ts [40] = true)) (ho : 40 ≤ o) :
 (St.live ts o k).lift n kI (cnot (f + 1)) = (none, .dead 52 (Px.place n ts) o) := by
 have hu : Px.not (f + 1) o ts = .err 52 ts := by
  rw [Px.not]
  rcases h with h | ⟨h0, h⟩
  · simp only [h, if_true, if_pos ho]
  · simp only [h0, h, if_true, if_pos ho]; rfl
 simp only [St.lift, cnot, hu]
theorem not_cmp_lift {n f : Nat} {σ : St} (h0 : σ.sees [33] = false) (h1 : σ.sees [40] = false) (h2 : ∀ ts o k, σ = .live ts o k → Px.isNull ts = false) : σ.lift n kI (cnot (f + 1)) = σ.lift n kI (ccmp f) := by
 cases σ with
 | dead z p o => rfl
 | live ts o k =>
  have hu : Px.not (f + 1) o ts = Px.cmp f o ts := by
   have h0 : Px.sees ts [33] = false := h0
   have h1 : Px.sees ts [40] = false := h1
   rw [Px.not]; simp only [h0, h1, h2 ts o k rfl]; rfl
  simp only [St.lift, cnot, ccmp, hu]
def cmpTx : Nat → Tx
 | 0 => [61, 61] | 1 => [33, 61] | 2 => [60] | 3 => [60, 61] | 4 => [62] | _ => [62, 61]
def cmpCells : Array Value := #[.string ⟨#[61, 61]⟩, .string ⟨#[33, 61]⟩, .string ⟨#[60]⟩, .string ⟨#[60, 61]⟩, .string ⟨#[62]⟩, .string ⟨#[62, 61]⟩]
theorem cmpCells_get : ∀ (k : Nat), k < 6 → cmpCells[k]? = some (.string (strO (cmpTx k)))
 | 0, _ => rfl | 1, _ => rfl | 2, _ => rfl | 3, _ => rfl | 4, _ => rfl | 5, _ => rfl
 | n + 6, h => by omega
theorem cmpTx_sign : ∀ (k : Nat), Sign (cmpTx k)
 | 0 => ⟨by simp [cmpTx], by simp [cmpTx]; decide⟩ | 1 => ⟨by simp [cmpTx], by simp [cmpTx]; decide⟩ | 2 => ⟨by simp [cmpTx], by simp [cmpTx]; decide⟩ | 3 => ⟨by simp [cmpTx], by simp [cmpTx]; decide⟩ | 4 => ⟨by simp [cmpTx], by simp [cmpTx]; decide⟩
 | n + 5 => ⟨by simp [cmpTx], by simp [cmpTx]; decide⟩
theorem cmpOp_of {r : List Tok} {k : Nat} (hk : k < 6) (h : Px.sees r (cmpTx k) = true) : Px.cmpOp r = some k := by
 unfold Px.sees at h
 have h := eq_of_beq h
 unfold Px.cmpOp Px.sees
 rw [h]
 match k, hk with
 | 0, _ => rfl | 1, _ => rfl | 2, _ => rfl | 3, _ => rfl | 4, _ => rfl | 5, _ => rfl
theorem cmpOp_no {r : List Tok} (h : ∀ k, k < 6 → Px.sees r (cmpTx k) = false) : Px.cmpOp r = none := by
 have h0 := h 0 (by omega); have h1 := h 1 (by omega); have h2 := h 2 (by omega); have h3 := h 3 (by omega); have h4 := h 4 (by omega); have h5 := h 5 (by omega)
 simp only [cmpTx] at h0 h1 h2 h3 h4 h5
 unfold Px.cmpOp; simp only [h0, h1, h2, h3, h4, h5]; rfl
theorem cmp_yes {n f k : Nat} {σ : St} (hk : k < 6) (h : (σ.lift n kI (esum f)).2.sees (cmpTx k) = true) :
 σ.lift n kI (ccmp f) = (((σ.lift n kI (esum f)).2.adv.lift n kI (esum f)).1.bind (fun c => (σ.lift n kI (esum f)).1.map fun a => Cn.cmp k a c), ((σ.lift n kI (esum f)).2.adv.lift n kI (esum f)).2) := by
 cases σ with
 | dead z p o => cases h
 | live ts o kk =>
  rcases St.lift_cases n (esum f) ts o kk with ⟨a, r, h1, h2⟩ | ⟨z, r, h1, h2⟩
  ·
   rw [h2] at h ⊢
   have hop := cmpOp_of hk h
   rcases St.lift_cases n (esum f) r.tail o kk with ⟨c, r2, h3, h4⟩ | ⟨z, r2, h3, h4⟩
   ·
    simp only [St.adv]
    rw [h4]
    have hu : Px.cmp f o ts = .ok (.cmp k a c) r2 := by unfold Px.cmp; simp only [show Px.sum f o ts = _ from h1, hop, show Px.sum f o r.tail = _ from h3]
    simp only [St.lift, ccmp, hu]; rfl
   ·
    simp only [St.adv]
    rw [h4]
    have hu : Px.cmp f o ts = .err z r2 := by unfold Px.cmp; simp only [show Px.sum f o ts = _ from h1, hop, show Px.sum f o r.tail = _ from h3]
    simp only [St.lift, ccmp, hu]; rfl
  · rw [h2] at h; cases h
theorem cmp_no {n f : Nat} {σ : St} (h : ∀ k, k < 6 → (σ.lift n kI (esum f)).2.sees (cmpTx k) = false) :
 σ.lift n kI (ccmp f) = (none, (σ.lift n kI (esum f)).2.fail n 51) := by
 cases σ with
 | dead z p o => rfl
 | live ts o kk =>
  rcases St.lift_cases n (esum f) ts o kk with ⟨a, r, h1, h2⟩ | ⟨z, r, h1, h2⟩
  ·
   rw [h2] at h ⊢
   have hop := cmpOp_no h
   have hu : Px.cmp f o ts = .err 51 r := by unfold Px.cmp; simp only [show Px.sum f o ts = _ from h1, hop]
   simp only [St.lift, ccmp, hu]; rfl
  ·
   rw [h2]
   have hu : Px.cmp f o ts = .err z r := by unfold Px.cmp; simp only [show Px.sum f o ts = _ from h1]
   simp only [St.lift, ccmp, hu]; rfl
theorem qnot_neg (f : Nat) (w : World) (b n : Nat) (t : Tok) (r : List Tok) (o k lo : Nat) (h : SA w b n (.live (t :: r) o k)) (hb : b ≤ lo) (hlo : lo < w.heap.size) (hy : Px.sees (t :: r) [33] = true) (ho : ¬ 40 ≤ o)
 (hF : ∀ w1, SA w1 b n (.live r (o + 1) k) → lo < w1.heap.size → Calls Tryz.prog 184 #[pp b] w1 (QS CnAt IsPtr lo w1 b n ((St.live r (o + 1) k).lift n kI (cnot f)))) :
 Calls Tryz.prog 184 #[pp b] w (QS CnAt IsPtr lo w b n ((St.live (t :: r) o k).lift n kI (cnot (f + 1)))) := by
 have HR := Hd (not_neg_lift (n := n) (f := f) (k := k) hy ho)
 have hdp := St.lift_depth n kI (cnot f) (St.live r (o + 1) k)
 have HI := Hd (fun w' (h : SA w' b n (.live (t :: r) o k)) => qis_any w' b n _ h [33])
 have hse : (St.live (t :: r) o k).sees [33] = true := hy
 rw [hse] at HI
 have HO := Hd (fun w' (h : SA w' b n (.live (t :: r) o k)) => qopen_any w' b n _ h (fun ts o' k' e => by injection e; omega))
 have hop : (St.live (t :: r) o k).open n = (true, .live (t :: r) (o + 1) k) := by simp [St.open, ho]
 rw [hop] at HO
 obtain ⟨P, hP⟩ : ∃ P, P = (St.live r (o + 1) k).lift n kI (cnot f) := ⟨_, rfl⟩
 rw [List.tail_cons, ← hP] at HR
 rw [← hP] at hF hdp
 have H := Hd h
 have HFF := Hd hF
 have HDP := Hd (show P.2.depth = o + 1 from hdp)
 rw [HR.out]
 clear h hF hy hse hP hdp hop
 go_enter Tryz.func184, Tryz.ntmps184
 go_wp2_with fail
 refine (HI.out _ H.out).mono ?_
 rintro e w1 ⟨rfl, hk⟩
 have HK := Hd hk
 have H1 := Hd (H.out.keep HK.out)
 clear hk
 go_wp2_with fail
 refine (HO.out _ H1.out).mono ?_
 rintro e w2 ⟨rfl, h2, hk⟩
 obtain ⟨g', off', L', cap', i', c0', c1', hi', hL', e0, d1, e1, f1, hq⟩ := h2.prev
 have HK := Hd ((HK.out.mono (T := [b]) (by simp)).trans hk (fun _ h _ => h))
 have HQ := Hd hq
 clear h2 hk hq e0 d1 e1 c0'
 go_wp2_with fail
 refine (HFF.out _ HQ.out (by have := HK.out.size; simp; omega)).mono ?_
 rintro e w3 ⟨v, rfl, ⟨q, rfl⟩, hk, hs, ha⟩
 have HK := Hd ((HK.out.set1 1 _).trans hk (fun _ h _ => h))
 have HS := Hd hs
 have HA := Hd ha
 obtain ⟨c5, f5, hset⟩ := hs.deep
 have HSET := Hd hset
 rw [HDP.out] at c5
 clear hk hs ha hset c1'
 go_wp2
 go_ret
 refine ⟨.pointer (some ⟨w3.heap.size, 0, none⟩), rfl, ⟨_, rfl⟩, (HK.out.set1 5 _).alloc _, (HSET.out o).keep ((Keeps.refl _ _).alloc _), fun a h => ?_⟩
 obtain ⟨a0, h0, rfl⟩ := Option.map_eq_some_iff.1 h
 exact ⟨_, _, rfl, by have := HK.out.size; omega, new_set _ _ _ _ _, ((HA.out a0 h0).keep (S := [b]) ((Keeps.refl _ _).set1 5 _) (by simp; omega)).alloc _⟩
theorem qnot_open (f : Nat) (w : World) (b n : Nat) (t : Tok) (r : List Tok) (o k lo : Nat) (h : SA w b n (.live (t :: r) o k)) (ho2 : o ≤ 1000) (hy : Px.sees (t :: r) [33] = true ∨ (Px.sees (t :: r) [33] = false ∧ Px.sees (t :: r) [40] = true)) (ho : 40 ≤ o) :
 Calls Tryz.prog 184 #[pp b] w (QS CnAt IsPtr lo w b n ((St.live (t :: r) o k).lift n kI (cnot (f + 1)))) := by
 have HR := Hd (not_open_lift (n := n) (f := f) (k := k) hy ho)
 have HI := Hd (fun w' (h : SA w' b n (.live (t :: r) o k)) => qis_any w' b n _ h [33])
 have HI2 := Hd (fun w' (h : SA w' b n (.live (t :: r) o k)) => qis_any w' b n _ h [40])
 have HO := Hd (fun w' (h : SA w' b n (.live (t :: r) o k)) => qopen_any w' b n _ h (fun ts o' k' e => by injection e; omega))
 have hop : (St.live (t :: r) o k).open n = (false, .dead 52 (Px.place n (t :: r)) o) := by simp [St.open, ho]
 rw [hop] at HO
 rw [HR.out]
 have H := Hd h
 rcases hy with hy | ⟨hy, hy2⟩
 ·
  have hse : (St.live (t :: r) o k).sees [33] = true := hy
  rw [hse] at HI
  clear h hy hse hop HI2
  go_enter Tryz.func184, Tryz.ntmps184
  go_wp2_with fail
  refine (HI.out _ H.out).mono ?_
  rintro e w1 ⟨rfl, hk⟩
  have HK := Hd hk
  have H1 := Hd (H.out.keep HK.out)
  clear hk
  go_wp2_with fail
  refine (HO.out _ H1.out).mono ?_
  rintro e w2 ⟨rfl, h2, hk⟩
  have HK := Hd ((HK.out.mono (T := [b]) (by simp)).trans hk (fun _ h _ => h))
  have H2 := Hd h2
  clear hk h2
  go_wp2
  go_ret
  exact ⟨.pointer none, rfl, ⟨_, rfl⟩, HK.out, H2.out, fun _ h => by cases h⟩
 ·
  have hse : (St.live (t :: r) o k).sees [33] = false := hy
  rw [hse] at HI
  have hse2 : (St.live (t :: r) o k).sees [40] = true := hy2
  rw [hse2] at HI2
  clear h hy hy2 hse hse2 hop
  go_enter Tryz.func184, Tryz.ntmps184
  go_wp2_with fail
  refine (HI.out _ H.out).mono ?_
  rintro e w1 ⟨rfl, hk⟩
  have HK := Hd hk
  have H1 := Hd (H.out.keep HK.out)
  clear hk
  go_wp2_with fail
  refine (HI2.out _ H1.out).mono ?_
  rintro e w1b ⟨rfl, hk⟩
  have HK := zV HK hk
  have H1 := Hd (H1.out.keep hk)
  clear hk
  go_wp2_with fail
  refine (HO.out _ H1.out).mono ?_
  rintro e w2 ⟨rfl, h2, hk⟩
  have HK := Hd ((HK.out.mono (T := [b]) (by simp)).trans hk (fun _ h _ => h))
  have H2 := Hd h2
  clear hk h2
  go_wp2
  go_ret
  exact ⟨.pointer none, rfl, ⟨_, rfl⟩, HK.out, H2.out, fun _ h => by cases h⟩
theorem qnot_par (f : Nat) (w : World) (b n : Nat) (t : Tok) (r : List Tok) (o k lo : Nat) (h : SA w b n (.live (t :: r) o k)) (hb : b ≤ lo) (hlo : lo < w.heap.size) (hn : Px.sees (t :: r) [33] = false) (hy : Px.sees (t :: r) [40] = true) (ho : ¬ 40 ≤ o)
 (hF : ∀ w1, SA w1 b n (.live r (o + 1) k) → lo < w1.heap.size → Calls Tryz.prog 116 #[pp b] w1 (QS CnAt IsPtr lo w1 b n ((St.live r (o + 1) k).lift n kI (ccond f)))) :
 Calls Tryz.prog 184 #[pp b] w (QS CnAt IsPtr lo w b n ((St.live (t :: r) o k).lift n kI (cnot (f + 1)))) := by
 have HR := Hd (not_par_lift (n := n) (f := f) (k := k) hn hy ho)
 have hdp := St.lift_depth n kI (ccond f) (St.live r (o + 1) k)
 have HI := Hd (fun w' (h : SA w' b n (.live (t :: r) o k)) => qis_any w' b n _ h [33])
 have hse : (St.live (t :: r) o k).sees [33] = false := hn
 rw [hse] at HI
 have HI2 := Hd (fun w' (h : SA w' b n (.live (t :: r) o k)) => qis_any w' b n _ h [40])
 have hse2 : (St.live (t :: r) o k).sees [40] = true := hy
 rw [hse2] at HI2
 have HO := Hd (fun w' (h : SA w' b n (.live (t :: r) o k)) => qopen_any w' b n _ h (fun ts o' k' e => by injection e; omega))
 have hop : (St.live (t :: r) o k).open n = (true, .live (t :: r) (o + 1) k) := by simp [St.open, ho]
 rw [hop] at HO
 obtain ⟨P, hP⟩ : ∃ P, P = (St.live r (o + 1) k).lift n kI (ccond f) := ⟨_, rfl⟩
 rw [List.tail_cons, ← hP] at HR
 rw [← hP] at hF hdp
 have HW := Hd (fun w' (h : SA w' b n P.2) => qwant_any w' b n P.2 h [41])
 have H := Hd h
 have HFF := Hd hF
 have HDP := Hd (show (P.2.want n [41]).depth = o + 1 from (St.want_depth n [41] P.2).trans hdp)
 rw [HR.out]
 clear h hF hy hn hse hse2 hP hdp hop
 go_enter Tryz.func184, Tryz.ntmps184
 go_wp2_with fail
 refine (HI.out _ H.out).mono ?_
 rintro e w1 ⟨rfl, hk⟩
 have HK := Hd hk
 have H1 := Hd (H.out.keep HK.out)
 clear hk
 go_wp2_with fail
 refine (HI2.out _ H1.out).mono ?_
 rintro e w1b ⟨rfl, hk⟩
 have HK := zV HK hk
 have H1 := Hd (H1.out.keep hk)
 clear hk
 go_wp2_with fail
 refine (HO.out _ H1.out).mono ?_
 rintro e w2 ⟨rfl, h2, hk⟩
 obtain ⟨g', off', L', cap', i', c0', c1', hi', hL', e0, d1, e1, f1, hq⟩ := h2.prev
 have HK := Hd ((HK.out.mono (T := [b]) (by simp)).trans hk (fun _ h _ => h))
 have HQ := Hd hq
 clear h2 hk hq e0 d1 e1 c0'
 go_wp2_with fail
 refine (HFF.out _ HQ.out (by have := HK.out.size; simp; omega)).mono ?_
 rintro e w3 ⟨v, rfl, ⟨q, rfl⟩, hk, hs, ha⟩
 have HK := Hd ((HK.out.set1 1 _).trans hk (fun _ h _ => h))
 have HS := Hd hs
 have HA := Hd ha
 clear hk hs ha c1'
 go_wp2_with fail
 refine (HW.out _ HS.out).mono ?_
 rintro e w4 ⟨rfl, hs, hk⟩
 have HK := zV HK hk
 have HK2 := Hd hk
 obtain ⟨c5, f5, hset⟩ := hs.deep
 have HSET := Hd hset
 rw [HDP.out] at c5
 clear hk hs hset
 go_wp2
 go_ret
 refine ⟨.pointer q, rfl, ⟨_, rfl⟩, HK.out.set1 5 _, HSET.out o, fun a h => ?_⟩
 exact ((HA.out a (gate_some h)).keep (S := [b]) HK2.out (by simp; omega)).keep (S := [b]) ((Keeps.refl _ _).set1 5 _) (by simp; omega)
def NoNull (σ : St) : Prop := σ.named = false ∨ (∃ ts o k, σ = .live ts o k ∧ Px.isName ts = true ∧ (ts.length < 3 ∨ ∃ t0 t1 t2 r, ts = t0 :: t1 :: t2 :: r ∧ (t2.text ≠ [110, 117, 108, 108] ∨ (t2.text = [110, 117, 108, 108] ∧ t1.text ≠ [61, 61] ∧ t1.text ≠ [33, 61]))))
theorem noNull_of {ts : List Tok} {o k : Nat} (h : Px.isNull ts = false) : NoNull (.live ts o k) := by
 cases hn : Px.isName ts with
 | false => exact .inl hn
 | true =>
  refine .inr ⟨ts, o, k, rfl, hn, ?_⟩
  by_cases hl : ts.length < 3
  · exact .inl hl
  ·
   match ts, hl, hn, h with
   | t0 :: t1 :: t2 :: r, _, hn, h =>
    refine .inr ⟨t0, t1, t2, r, rfl, ?_⟩
    by_cases h2 : t2.text = [110, 117, 108, 108]
    ·
     refine .inr ⟨h2, fun h1 => ?_, fun h1 => ?_⟩ <;>
     ·
      unfold Px.isNull at h
      rw [hn] at h
      simp [Px.txt, h1, h2] at h
    · exact .inl h2
   | [], hl, _, _ => simp at hl
   | [_], hl, _, _ => simp at hl
   | [_, _], hl, _, _ => simp at hl
theorem SA.anyTwo {w : World} {b n : Nat} {t : Tok} {r : List Tok} {o k : Nat} (h : SA w b n (.live (t :: r) o k)) : ∃ g off L cap i, w.cell? ⟨b, 0, none⟩ = some (.slice (some ⟨g, off, none⟩) L cap) ∧ w.cell? ⟨b, 1, none⟩ = some (.int .i64 ((i : Nat) : Int)) ∧ i < L ∧ L ≤ 5000 ∧ L = i + 1 + r.length := by
 obtain ⟨g, off, L, cap, i, c0, c1, hi, hL, hcap, -, -, -, hlen, -⟩ := h.head
 exact ⟨g, off, L, cap, i, c0, c1, hi, hL, hlen⟩
theorem qnot_cmp (f : Nat) (w : World) (b n : Nat) (σ : St) (lo : Nat) (h : SA w b n σ) (hf : σ.fits (f + 1) 5) (hb : b ≤ lo) (hlo : lo < w.heap.size) (hse : σ.sees [33] = false) (hse2 : σ.sees [40] = false) (hno : NoNull σ) :
 Calls Tryz.prog 184 #[pp b] w (QS CnAt IsPtr lo w b n (σ.lift n kI (ccmp f))) := by
 obtain ⟨R, hR0⟩ : ∃ R, R = σ.lift n kI (ccmp f) := ⟨_, rfl⟩
 obtain ⟨P, hP0⟩ : ∃ P, P = σ.lift n kI (esum f) := ⟨_, rfl⟩
 have hyes : ∀ k, k < 6 → P.2.sees (cmpTx k) = true → R = ((P.2.adv.lift n kI (esum f)).1.bind (fun c => P.1.map fun a => Cn.cmp k a c), (P.2.adv.lift n kI (esum f)).2) := fun k hk h => by
  rw [hR0, hP0] at *; exact cmp_yes hk h
 have hnon : (∀ k, k < 6 → P.2.sees (cmpTx k) = false) → R = (none, P.2.fail n 51) := fun h => by
  rw [hR0, hP0] at *; exact cmp_no h
 have hfit : σ.fits f 3 := by
  cases σ with
  | live ts o k => exact ⟨hf.1, by have := hf.2; omega⟩
  | dead z p o => exact hf
 have hfit2 : P.2.adv.fits f 3 := by
  rw [hP0]
  cases σ with
  | live ts o k =>
   rcases St.lift_cases n (esum f) ts o k with ⟨a, r, h1, h2⟩ | ⟨z, r, h1, h2⟩
   ·
    rw [h2]
    have := Px.sum_len (show Px.sum f o ts = .ok a r from h1)
    exact ⟨hf.1, by have := hf.2; simp; omega⟩
   · rw [h2]; exact hf.1
  | dead z p o => exact hf
 have HQ := Hd (fun w' (h : SA w' b n σ) (hlo' : lo < w'.heap.size) => (qe f).sum w' b n σ lo h hfit hb hlo')
 rw [← hP0] at HQ
 have HQ2 := Hd (fun w' (h : SA w' b n P.2.adv) (hlo' : lo < w'.heap.size) => (qe f).sum w' b n P.2.adv lo h hfit2 hb hlo')
 have HYES := Hd hyes
 have HNON := Hd hnon
 rw [← hR0]
 have HT := Hd (fun w' (h : SA w' b n P.2) (k : Nat) => qtake_any w' b n P.2 h (cmpTx k) (cmpTx_sign k))
 have HF := Hd (fun w' (h : SA w' b n P.2) => qfail_any w' b n P.2 h 51 (by omega) (by omega))
 have HI := Hd (fun w' (h : SA w' b n σ) => qis_any w' b n _ h [33])
 rw [hse] at HI
 have HI2 := Hd (fun w' (h : SA w' b n σ) => qis_any w' b n _ h [40])
 rw [hse2] at HI2
 have HNM := Hd (fun w' (h : SA w' b n σ) => qnamed_any w' b n _ h)
 have H := Hd h
 have HNO := Hd hno
 clear h hf hse hse2 hR0 hP0 hyes hnon hfit hfit2 hno
 go_enter Tryz.func184, Tryz.ntmps184
 go_wp2_with fail
 refine (HI.out _ H.out).mono ?_
 rintro e w1 ⟨rfl, hk⟩
 have HK := Hd hk
 have H1 := Hd (H.out.keep hk)
 clear hk
 go_wp2_with fail
 refine (HI2.out _ H1.out).mono ?_
 rintro e w2 ⟨rfl, hk⟩
 have HK := zV HK hk
 have h2 := H1.out.keep hk
 have H2 := Hd h2
 clear hk
 rcases HNO.out with hnm | ⟨ts, o, kk, rfl, hnm, hcase⟩
 ·
  rw [hnm] at HNM
  clear h2 hnm HNO
  go_wp2_with fail
  refine Reg.wp_region_state (A := ?AA) (fun _ w' => Keeps [] w2 w') (fun _ _ => True)
   (Is (.pointer (some ⟨b, 0, none⟩)) :: Is (.bool false) :: Is (.bool false) :: Is undef :: Is undef :: Is undef :: Is undef :: Is undef :: Is undef :: Is undef :: Is undef :: Is undef :: Is undef :: Is undef :: Is (.bool false) :: Is (.bool false) :: Is undef :: Is undef :: Is undef :: Is undef :: Is undef :: Is undef :: Is undef :: Is undef :: Is undef :: Is undef :: Is undef :: Is undef :: Is undef :: Is (.bool false) :: Is (.bool false) :: Is undef :: Is undef :: Is undef :: Is undef :: Is undef :: Is undef :: Is undef :: Is undef :: Is undef :: Is undef :: Is undef :: Is undef :: Is undef :: Is undef :: Is undef :: Is undef :: Is undef :: Is undef :: Is undef :: Is undef :: Is undef :: Is undef :: Is undef :: Is undef :: Is undef :: Is undef :: Is undef :: Is undef :: Is (.bool false) :: [])
   (by kernel_rfl) (by kernel_rfl) rfl ?hrAA ?hrAC ?hrAo ?hrAlast ?hrAend
  case hrAA => intro vs; simp only [Reg.fill, if_true, Nat.zero_add, Nat.reduceAdd, Act.put, List.setIfInBounds_toArray, List.set_cons_succ, List.set_cons_zero]; exact rfl
  case hrAC => exact (Keeps.refl _ _).drew
  case hrAlast => repeat (first | exact trivial | refine ⟨fun _ _ _ h _ => h, ?_⟩)
  case hrAo =>
   repeat' apply And.intro
   all_goals
    first
     | exact trivial
     | (
      intro Ls vs w' hC hLs hd K hK
      try simp only [Reg.Deps, Reg.at_, List.getD_cons_zero, List.getD_cons_succ, Region.binds, true_implies, Is, and_true] at hd
      go_simp
      first
       | exact hK _ _ hC trivial rfl
       | skip)
   ·
    refine (HNM.out _ (H2.out.keep hC)).mono ?_
    rintro e w9 ⟨rfl, hk⟩
    exact ⟨_, rfl, hK _ _ (hC.trans hk (fun _ h _ => h)) trivial rfl⟩
  case hrAend =>
   intro vs w3 hC hall
   simp only [Reg.All, Is, and_true, Nat.zero_add, Nat.reduceAdd] at hall
   obtain ⟨-, -, -, -, -, -, -, -, -, -, -, -, -, -, -, -, -, -, -, -, -, -, -, -, -, -, -, -, -, -, -, -, -, -, -, -, -, -, -, -, -, -, -, -, -, -, -, -, -, -, -, -, -, -, -, -, -, -, -, eL⟩ := hall
   rw [eL]
   have HK3 := zV HK hC
   have HS3 := Hd (H2.out.keep hC)
   clear hC eL
   go_wp2_with fail
   refine (HQ.out _ HS3.out (by have := HK3.out.size; omega)).mono ?_
   rintro e w5 ⟨v, rfl, ⟨q, rfl⟩, hk, hs, ha⟩
   have HK := Hd ((HK3.out.mono (T := [b]) (by simp)).trans hk (fun _ h _ => h))
   have HS := Hd hs
   have HA := Hd ha
   clear hk hs ha
   go_wp2
   have hcell : ∀ k, (w5.alloc (.cells cmpCells 9)).cell? ⟨w5.heap.size, k, none⟩ = cmpCells[k]? := fun k => row_cell (heap_alloc_new w5 _) k
   have HC := Hd hcell
   have HX := Hd (show w5.heap.size < (w5.alloc (.cells cmpCells 9)).heap.size by simp)
   have HBX := Hd (show b ≠ w5.heap.size by have := HS.out.lt; omega)
   have HS5 := Hd (HS.out.keep ((Keeps.refl [] w5).alloc (.cells cmpCells 9)))
   have HA5 := Hd (fun a (h : P.1 = some a) => (HA.out a h).alloc (.cells cmpCells 9))
   have HK5 := Hd (HK.out.alloc (.cells cmpCells 9))
   clear hcell
   obtain ⟨X, hX⟩ : ∃ X, X = w5.heap.size := ⟨_, rfl⟩
   rw [← hX] at HC HX HBX
   have HXE := Hd hX
   clear hX
   go_loopw [8] (fun iv wr => ∃ k : Nat, k ≤ 6 ∧ iv = .int .i64 (k : Int) ∧ (∀ j, j < k → P.2.sees (cmpTx j) = false) ∧ Keeps [b] w wr ∧ SA wr b n P.2 ∧ (∀ j, wr.cell? ⟨w5.heap.size, j, none⟩ = cmpCells[j]?) ∧ X < wr.heap.size ∧ (∀ a, P.1 = some a → ExAt wr lo a (.pointer q))) (fun iv _ => 6 - (intOf iv).toNat)
   case atStart => exact ⟨0, by omega, rfl, fun j hj => by omega, HK5.out, HS5.out, by rw [← HXE.out]; exact HC.out, HX.out, HA5.out⟩
   case round =>
    obtain ⟨k, hk6, rfl, hno, hk, hs, hcell, hxs, ha⟩ := hrel
    have HNO := Hd hno
    have HKR := Hd hk
    have HSR := Hd hs
    have HCR := Hd hcell
    have HXR := Hd hxs
    have HAR := Hd ha
    have HTT := Hd (HT.out wr hs k)
    clear hno hk hs hcell hxs ha
    by_cases hlt : k < 6
    ·
     have hc := HCR.out k
     rw [cmpCells_get k hlt] at hc
     obtain ⟨x, hx⟩ : ∃ x, x = strO (cmpTx k) := ⟨_, rfl⟩
     rw [← hx] at hc HTT
     clear hx
     by_cases hy : P.2.sees (cmpTx k) = true
     ·
      rw [hy] at HTT
      have htk : P.2.take (cmpTx k) = P.2.adv := by unfold St.take; rw [if_pos hy]
      rw [htk] at HTT
      have HR := Hd (HYES.out k hlt hy)
      clear hy htk
      go_wp2_with fail
      refine (HTT.out).mono ?_
      rintro e w6 ⟨rfl, hs, hk⟩
      have HKR := zV HKR hk
      have HAR := Hd (fun a h => (HAR.out a h).keep hk (by simp; omega))
      have HSR := Hd hs
      clear hk hs hc
      go_wp2_with fail
      refine (HQ2.out _ HSR.out (by have := HKR.out.size; omega)).mono ?_
      rintro e w7 ⟨v, rfl, ⟨q2, rfl⟩, hk, hs, ha⟩
      have HKR := zV HKR hk
      have HAR := Hd (fun a h => (HAR.out a h).keep hk (by simp; omega))
      have HSR := Hd hs
      have HAC := Hd ha
      clear hk hs ha
      go_wp2
      go_ret
      refine ⟨.pointer (some ⟨w7.heap.size, 0, none⟩), rfl, ⟨_, rfl⟩, HKR.out.alloc _, by rw [HR.out]; exact HSR.out.keep ((Keeps.refl _ _).alloc _), fun a h => ?_⟩
      rw [HR.out] at h
      obtain ⟨c, h1, h2⟩ := Option.bind_eq_some_iff.1 h
      obtain ⟨a0, h3, rfl⟩ := Option.map_eq_some_iff.1 h2
      exact ⟨_, _, _, rfl, by have := HKR.out.size; omega, heap_alloc_new _ _, (HAR.out a0 h3).alloc _, (HAC.out c h1).alloc _⟩
     ·
      have hn : P.2.sees (cmpTx k) = false := by simpa using hy
      rw [hn] at HTT
      have htk : P.2.take (cmpTx k) = P.2 := by unfold St.take; rw [if_neg hy]
      rw [htk] at HTT
      have HN := Hd hn
      clear hn hy htk
      go_wp2_with fail
      refine (HTT.out).mono ?_
      rintro e w6 ⟨rfl, hs, hk⟩
      have HKK := Hd hk
      have HSR := Hd hs
      clear hk hs hc
      go_wp2
      go_roundw
      case rel =>
       refine ⟨k + 1, by omega, by go_num, fun j hj => ?_, HKR.out.trans HKK.out (fun _ h _ => h), HSR.out, fun j => ?_, by have := HKK.out.size; have := HXR.out; omega, fun a h => (HAR.out a h).keep HKK.out (by simp; omega)⟩
       ·
        by_cases hjk : j < k
        · exact HNO.out j hjk
        ·
         obtain rfl : j = k := by omega
         exact HN.out
       ·
        rw [← HCR.out j]
        exact HKK.out.cell (by rw [← HXE.out]; exact HXR.out) (by rw [← HXE.out]; simpa using Ne.symm HBX.out)
      case measure => simp [intOf]; omega
    ·
     have hk : k = 6 := by omega
     have HR := Hd (HNON.out (fun j hj => HNO.out j (by omega)))
     have hge : decide ((k : Int) < 6) = false := by simp; omega
     clear hk6 hlt hk
     go_wp2_with fail
     refine (HF.out _ HSR.out).mono ?_
     rintro e w6 ⟨rfl, hs, hk⟩
     have HKR := zV HKR hk
     have HSR := Hd hs
     clear hk hs
     go_wp2
     go_ret
     exact ⟨.pointer none, rfl, ⟨_, rfl⟩, HKR.out, by rw [HR.out]; exact HSR.out, fun a h => by rw [HR.out] at h; cases h⟩
 ·
  have hnm2 : (St.live ts o kk).named = true := hnm
  rw [hnm2] at HNM
  rcases hcase with hl | ⟨t0, t1, t2, r, rfl, hcase⟩
  ·
   obtain ⟨t, r, rfl⟩ := isName_cons hnm
   obtain ⟨g, off, L, cap, i, c0, c1, hi, hL, hlen⟩ := h2.anyTwo
   obtain ⟨j1, hj1⟩ : ∃ j, j = i + 1 := ⟨_, rfl⟩
   obtain ⟨j2, hj2⟩ : ∃ j, j = i + 2 := ⟨_, rfl⟩
   have hs1 : IntKind.i64.wrap ((i : Int) + 1) = (j1 : Int) := by rw [IntWalk.i64_in _ (by omega)]; omega
   have hs2 : IntKind.i64.wrap ((i : Int) + 2) = (j2 : Int) := by rw [IntWalk.i64_in _ (by omega)]; omega
   have hm2 : decide ((j2 : Int) < (L : Int)) = false := by simp at hl ⊢; omega
   have hn2 : decide (j2 < L) = false := by simp at hl ⊢; omega
   have hl2 : ¬ (j2 : Int) < (L : Int) := by simp at hl; omega
   clear h2 hnm hnm2 HNO hi hj1 hj2 hl hlen
   go_wp2_with fail
   refine Reg.wp_region_state (A := ?AB) (fun _ w' => Keeps [] w2 w') (fun _ _ => True)
    (Is (.pointer (some ⟨b, 0, none⟩)) :: Is (.bool true) :: Is (.bool true) :: Is (.pointer (some ⟨b, 0, none⟩)) :: Is (.pointer (some ⟨b, 0, none⟩)) :: Is (.pointer (some ⟨b, 1, none⟩)) :: Is (.int .i64 (i : Int)) :: Is (.int .i64 (j2 : Int)) :: Is (.pointer (some ⟨b, 0, none⟩)) :: Is (.pointer (some ⟨b, 0, none⟩)) :: Is (.pointer (some ⟨b, 0, none⟩)) :: Is (.slice (some ⟨g, off, none⟩) L cap) :: Is (.int .i64 (L : Int)) :: Is (.bool false) :: Is (.bool false) :: Is (.bool false) :: Is undef :: Is undef :: Is undef :: Is undef :: Is undef :: Is undef :: Is undef :: Is undef :: Is undef :: Is undef :: Is undef :: Is undef :: Is undef :: Is (.bool false) :: Is (.bool false) :: Is undef :: Is undef :: Is undef :: Is undef :: Is undef :: Is undef :: Is undef :: Is undef :: Is undef :: Is undef :: Is undef :: Is undef :: Is undef :: Is undef :: Is undef :: Is undef :: Is undef :: Is undef :: Is undef :: Is undef :: Is undef :: Is undef :: Is undef :: Is undef :: Is undef :: Is undef :: Is undef :: Is undef :: Is (.bool false) :: [])
    (by kernel_rfl) (by kernel_rfl) rfl ?hrBA ?hrBC ?hrBo ?hrBlast ?hrBend
   case hrBA => intro vs; simp only [Reg.fill, if_true, Nat.zero_add, Nat.reduceAdd, Act.put, List.setIfInBounds_toArray, List.set_cons_succ, List.set_cons_zero]; exact rfl
   case hrBC => exact (Keeps.refl _ _).drew
   case hrBlast => repeat (first | exact trivial | refine ⟨fun _ _ _ h _ => h, ?_⟩)
   case hrBo =>
    repeat' apply And.intro
    all_goals
     first
      | exact trivial
      | (
       intro Ls vs w' hC hLs hd K hK
       try simp only [Reg.Deps, Reg.at_, List.getD_cons_zero, List.getD_cons_succ, Region.binds, true_implies, Is, and_true] at hd
       have cx0 := hC.cell_some c0 (by simp)
       have cx1 := hC.cell_some c1 (by simp)
       go_simp
       first
        | exact hK _ _ hC trivial rfl
        | skip)
    ·
     refine (HNM.out _ (H2.out.keep hC)).mono ?_
     rintro e w9 ⟨rfl, hk⟩
     exact ⟨_, rfl, hK _ _ (hC.trans hk (fun _ h _ => h)) trivial rfl⟩
   case hrBend =>
    intro vs w3 hC hall
    simp only [Reg.All, Is, and_true, Nat.zero_add, Nat.reduceAdd] at hall
    obtain ⟨-, -, -, -, -, -, -, -, -, -, -, -, -, -, -, -, -, -, -, -, -, -, -, -, -, -, -, -, -, -, -, -, -, -, -, -, -, -, -, -, -, -, -, -, -, -, -, -, -, -, -, -, -, -, -, -, -, -, -, eL⟩ := hall
    rw [eL]
    have HK3 := zV HK hC
    have HS3 := Hd (H2.out.keep hC)
    clear hC eL
    go_wp2_with fail
    refine (HQ.out _ HS3.out (by have := HK3.out.size; omega)).mono ?_
    rintro e w5 ⟨v, rfl, ⟨q, rfl⟩, hk, hs, ha⟩
    have HK := Hd ((HK3.out.mono (T := [b]) (by simp)).trans hk (fun _ h _ => h))
    have HS := Hd hs
    have HA := Hd ha
    clear hk hs ha
    go_wp2
    have hcell : ∀ k, (w5.alloc (.cells cmpCells 9)).cell? ⟨w5.heap.size, k, none⟩ = cmpCells[k]? := fun k => row_cell (heap_alloc_new w5 _) k
    have HC := Hd hcell
    have HX := Hd (show w5.heap.size < (w5.alloc (.cells cmpCells 9)).heap.size by simp)
    have HBX := Hd (show b ≠ w5.heap.size by have := HS.out.lt; omega)
    have HS5 := Hd (HS.out.keep ((Keeps.refl [] w5).alloc (.cells cmpCells 9)))
    have HA5 := Hd (fun a (h : P.1 = some a) => (HA.out a h).alloc (.cells cmpCells 9))
    have HK5 := Hd (HK.out.alloc (.cells cmpCells 9))
    clear hcell
    obtain ⟨X, hX⟩ : ∃ X, X = w5.heap.size := ⟨_, rfl⟩
    rw [← hX] at HC HX HBX
    have HXE := Hd hX
    clear hX
    go_loopw [8] (fun iv wr => ∃ k : Nat, k ≤ 6 ∧ iv = .int .i64 (k : Int) ∧ (∀ j, j < k → P.2.sees (cmpTx j) = false) ∧ Keeps [b] w wr ∧ SA wr b n P.2 ∧ (∀ j, wr.cell? ⟨w5.heap.size, j, none⟩ = cmpCells[j]?) ∧ X < wr.heap.size ∧ (∀ a, P.1 = some a → ExAt wr lo a (.pointer q))) (fun iv _ => 6 - (intOf iv).toNat)
    case atStart => exact ⟨0, by omega, rfl, fun j hj => by omega, HK5.out, HS5.out, by rw [← HXE.out]; exact HC.out, HX.out, HA5.out⟩
    case round =>
     obtain ⟨k, hk6, rfl, hno, hk, hs, hcell, hxs, ha⟩ := hrel
     have HNO := Hd hno
     have HKR := Hd hk
     have HSR := Hd hs
     have HCR := Hd hcell
     have HXR := Hd hxs
     have HAR := Hd ha
     have HTT := Hd (HT.out wr hs k)
     clear hno hk hs hcell hxs ha
     by_cases hlt : k < 6
     ·
      have hc := HCR.out k
      rw [cmpCells_get k hlt] at hc
      obtain ⟨x, hx⟩ : ∃ x, x = strO (cmpTx k) := ⟨_, rfl⟩
      rw [← hx] at hc HTT
      clear hx
      by_cases hy : P.2.sees (cmpTx k) = true
      ·
       rw [hy] at HTT
       have htk : P.2.take (cmpTx k) = P.2.adv := by unfold St.take; rw [if_pos hy]
       rw [htk] at HTT
       have HR := Hd (HYES.out k hlt hy)
       clear hy htk
       go_wp2_with fail
       refine (HTT.out).mono ?_
       rintro e w6 ⟨rfl, hs, hk⟩
       have HKR := zV HKR hk
       have HAR := Hd (fun a h => (HAR.out a h).keep hk (by simp; omega))
       have HSR := Hd hs
       clear hk hs hc
       go_wp2_with fail
       refine (HQ2.out _ HSR.out (by have := HKR.out.size; omega)).mono ?_
       rintro e w7 ⟨v, rfl, ⟨q2, rfl⟩, hk, hs, ha⟩
       have HKR := zV HKR hk
       have HAR := Hd (fun a h => (HAR.out a h).keep hk (by simp; omega))
       have HSR := Hd hs
       have HAC := Hd ha
       clear hk hs ha
       go_wp2
       go_ret
       refine ⟨.pointer (some ⟨w7.heap.size, 0, none⟩), rfl, ⟨_, rfl⟩, HKR.out.alloc _, by rw [HR.out]; exact HSR.out.keep ((Keeps.refl _ _).alloc _), fun a h => ?_⟩
       rw [HR.out] at h
       obtain ⟨c, h1, h2⟩ := Option.bind_eq_some_iff.1 h
       obtain ⟨a0, h3, rfl⟩ := Option.map_eq_some_iff.1 h2
       exact ⟨_, _, _, rfl, by have := HKR.out.size; omega, heap_alloc_new _ _, (HAR.out a0 h3).alloc _, (HAC.out c h1).alloc _⟩
      ·
       have hn : P.2.sees (cmpTx k) = false := by simpa using hy
       rw [hn] at HTT
       have htk : P.2.take (cmpTx k) = P.2 := by unfold St.take; rw [if_neg hy]
       rw [htk] at HTT
       have HN := Hd hn
       clear hn hy htk
       go_wp2_with fail
       refine (HTT.out).mono ?_
       rintro e w6 ⟨rfl, hs, hk⟩
       have HKK := Hd hk
       have HSR := Hd hs
       clear hk hs hc
       go_wp2
       go_roundw
       case rel =>
        refine ⟨k + 1, by omega, by go_num, fun j hj => ?_, HKR.out.trans HKK.out (fun _ h _ => h), HSR.out, fun j => ?_, by have := HKK.out.size; have := HXR.out; omega, fun a h => (HAR.out a h).keep HKK.out (by simp; omega)⟩
        ·
         by_cases hjk : j < k
         · exact HNO.out j hjk
         ·
          obtain rfl : j = k := by omega
          exact HN.out
        ·
         rw [← HCR.out j]
         exact HKK.out.cell (by rw [← HXE.out]; exact HXR.out) (by rw [← HXE.out]; simpa using Ne.symm HBX.out)
       case measure => simp [intOf]; omega
     ·
      have hk : k = 6 := by omega
      have HR := Hd (HNON.out (fun j hj => HNO.out j (by omega)))
      have hge : decide ((k : Int) < 6) = false := by simp; omega
      clear hk6 hlt hk
      go_wp2_with fail
      refine (HF.out _ HSR.out).mono ?_
      rintro e w6 ⟨rfl, hs, hk⟩
      have HKR := zV HKR hk
      have HSR := Hd hs
      clear hk hs
      go_wp2
      go_ret
      exact ⟨.pointer none, rfl, ⟨_, rfl⟩, HKR.out, by rw [HR.out]; exact HSR.out, fun a h => by rw [HR.out] at h; cases h⟩
  obtain ⟨g, off, L, cap, i, c0, c1, hi, hL, hgb, d0, d1, d2⟩ := h2.three
  obtain ⟨j1, hj1⟩ : ∃ j, j = i + 1 := ⟨_, rfl⟩
  obtain ⟨j2, hj2⟩ : ∃ j, j = i + 2 := ⟨_, rfl⟩
  have hs1 : IntKind.i64.wrap ((i : Int) + 1) = (j1 : Int) := by rw [IntWalk.i64_in _ (by omega)]; omega
  have hs2 : IntKind.i64.wrap ((i : Int) + 2) = (j2 : Int) := by rw [IntWalk.i64_in _ (by omega)]; omega
  rw [← hj1] at d1
  rw [← hj2] at d2
  obtain ⟨x1, hx1⟩ : ∃ x, x = strO t1.text := ⟨_, rfl⟩
  obtain ⟨x2, hx2⟩ : ∃ x, x = strO t2.text := ⟨_, rfl⟩
  have e1 : w2.cell? ⟨g, off + j1 * 3 + 1, none⟩ = some (.string x1) := by rw [hx1]; exact d1
  have e2 : w2.cell? ⟨g, off + j2 * 3 + 1, none⟩ = some (.string x2) := by rw [hx2]; exact d2
  have hl1 : (j1 : Int) < (L : Int) := by omega
  have hl2 : (j2 : Int) < (L : Int) := by omega
  have hl0 : (i : Int) < (L : Int) := by omega
  have hm2 : decide ((j2 : Int) < (L : Int)) = true := by simp; omega
  have hn2 : decide (j2 < L) = true := by simp; omega
  have hp1 : (0 : Int) ≤ (j1 : Int) := by omega
  have hp2 : (0 : Int) ≤ (j2 : Int) := by omega
  have hne : g ≠ b := by omega
  rcases hcase with hq | ⟨hq2, hqa, hqb⟩
  ·
   have y2 : (x2.toList == [110, 117, 108, 108]) = false := by rw [hx2, strO_toList]; simpa using hq
   clear h2 hi d0 d1 d2 hx1 hx2 hj1 hj2 hq hnm hnm2 HNO e1
   go_wp2_with fail
   refine Reg.wp_region_state (A := ?AC) (fun _ w' => Keeps [] w2 w') (fun _ _ => True)
    (Is (.pointer (some ⟨b, 0, none⟩)) :: Is (.bool true) :: Is (.bool true) :: Is (.pointer (some ⟨b, 0, none⟩)) :: Is (.pointer (some ⟨b, 0, none⟩)) :: Is (.pointer (some ⟨b, 1, none⟩)) :: Is (.int .i64 (i : Int)) :: Is (.int .i64 (j2 : Int)) :: Is (.pointer (some ⟨b, 0, none⟩)) :: Is (.pointer (some ⟨b, 0, none⟩)) :: Is (.pointer (some ⟨b, 0, none⟩)) :: Is (.slice (some ⟨g, off, none⟩) L cap) :: Is (.int .i64 (L : Int)) :: Is (.bool true) :: Is (.bool true) :: Is (.bool true) :: Is (.pointer (some ⟨b, 0, none⟩)) :: Is (.pointer (some ⟨b, 0, none⟩)) :: Is (.pointer (some ⟨b, 0, none⟩)) :: Is (.slice (some ⟨g, off, none⟩) L cap) :: Is (.pointer (some ⟨b, 0, none⟩)) :: Is (.pointer (some ⟨b, 0, none⟩)) :: Is (.pointer (some ⟨b, 1, none⟩)) :: Is (.int .i64 (i : Int)) :: Is (.int .i64 (j2 : Int)) :: Is (.pointer (some ⟨g, off + j2 * 3, none⟩)) :: Is (.pointer (some ⟨g, off + j2 * 3 + 1, none⟩)) :: Is (.string x2) :: Is (.bool false) :: Is (.bool false) :: Is (.bool false) :: Is undef :: Is undef :: Is undef :: Is undef :: Is undef :: Is undef :: Is undef :: Is undef :: Is undef :: Is undef :: Is undef :: Is undef :: Is undef :: Is undef :: Is undef :: Is undef :: Is undef :: Is undef :: Is undef :: Is undef :: Is undef :: Is undef :: Is undef :: Is undef :: Is undef :: Is undef :: Is undef :: Is undef :: Is (.bool false) :: [])
    (by kernel_rfl) (by kernel_rfl) rfl ?hrCA ?hrCC ?hrCo ?hrClast ?hrCend
   case hrCA => intro vs; simp only [Reg.fill, if_true, Nat.zero_add, Nat.reduceAdd, Act.put, List.setIfInBounds_toArray, List.set_cons_succ, List.set_cons_zero]; exact rfl
   case hrCC => exact (Keeps.refl _ _).drew
   case hrClast => repeat (first | exact trivial | refine ⟨fun _ _ _ h _ => h, ?_⟩)
   case hrCo =>
    repeat' apply And.intro
    all_goals
     first
      | exact trivial
      | (
       intro Ls vs w' hC hLs hd K hK
       try simp only [Reg.Deps, Reg.at_, List.getD_cons_zero, List.getD_cons_succ, Region.binds, true_implies, Is, and_true] at hd
       have cx0 := hC.cell_some c0 (by simp)
       have cx1 := hC.cell_some c1 (by simp)
       have cx2 := hC.cell_some e2 (by simp)
       go_simp
       first
        | exact hK _ _ hC trivial rfl
        | skip)
    ·
     refine (HNM.out _ (H2.out.keep hC)).mono ?_
     rintro e w9 ⟨rfl, hk⟩
     exact ⟨_, rfl, hK _ _ (hC.trans hk (fun _ h _ => h)) trivial rfl⟩
   case hrCend =>
    intro vs w3 hC hall
    simp only [Reg.All, Is, and_true, Nat.zero_add, Nat.reduceAdd] at hall
    obtain ⟨-, -, -, -, -, -, -, -, -, -, -, -, -, -, -, -, -, -, -, -, -, -, -, -, -, -, -, -, -, -, -, -, -, -, -, -, -, -, -, -, -, -, -, -, -, -, -, -, -, -, -, -, -, -, -, -, -, -, -, eL⟩ := hall
    rw [eL]
    have HK3 := zV HK hC
    have HS3 := Hd (H2.out.keep hC)
    clear hC eL
    go_wp2_with fail
    refine (HQ.out _ HS3.out (by have := HK3.out.size; omega)).mono ?_
    rintro e w5 ⟨v, rfl, ⟨q, rfl⟩, hk, hs, ha⟩
    have HK := Hd ((HK3.out.mono (T := [b]) (by simp)).trans hk (fun _ h _ => h))
    have HS := Hd hs
    have HA := Hd ha
    clear hk hs ha
    go_wp2
    have hcell : ∀ k, (w5.alloc (.cells cmpCells 9)).cell? ⟨w5.heap.size, k, none⟩ = cmpCells[k]? := fun k => row_cell (heap_alloc_new w5 _) k
    have HC := Hd hcell
    have HX := Hd (show w5.heap.size < (w5.alloc (.cells cmpCells 9)).heap.size by simp)
    have HBX := Hd (show b ≠ w5.heap.size by have := HS.out.lt; omega)
    have HS5 := Hd (HS.out.keep ((Keeps.refl [] w5).alloc (.cells cmpCells 9)))
    have HA5 := Hd (fun a (h : P.1 = some a) => (HA.out a h).alloc (.cells cmpCells 9))
    have HK5 := Hd (HK.out.alloc (.cells cmpCells 9))
    clear hcell
    obtain ⟨X, hX⟩ : ∃ X, X = w5.heap.size := ⟨_, rfl⟩
    rw [← hX] at HC HX HBX
    have HXE := Hd hX
    clear hX
    go_loopw [8] (fun iv wr => ∃ k : Nat, k ≤ 6 ∧ iv = .int .i64 (k : Int) ∧ (∀ j, j < k → P.2.sees (cmpTx j) = false) ∧ Keeps [b] w wr ∧ SA wr b n P.2 ∧ (∀ j, wr.cell? ⟨w5.heap.size, j, none⟩ = cmpCells[j]?) ∧ X < wr.heap.size ∧ (∀ a, P.1 = some a → ExAt wr lo a (.pointer q))) (fun iv _ => 6 - (intOf iv).toNat)
    case atStart => exact ⟨0, by omega, rfl, fun j hj => by omega, HK5.out, HS5.out, by rw [← HXE.out]; exact HC.out, HX.out, HA5.out⟩
    case round =>
     obtain ⟨k, hk6, rfl, hno, hk, hs, hcell, hxs, ha⟩ := hrel
     have HNO := Hd hno
     have HKR := Hd hk
     have HSR := Hd hs
     have HCR := Hd hcell
     have HXR := Hd hxs
     have HAR := Hd ha
     have HTT := Hd (HT.out wr hs k)
     clear hno hk hs hcell hxs ha
     by_cases hlt : k < 6
     ·
      have hc := HCR.out k
      rw [cmpCells_get k hlt] at hc
      obtain ⟨x, hx⟩ : ∃ x, x = strO (cmpTx k) := ⟨_, rfl⟩
      rw [← hx] at hc HTT
      clear hx
      by_cases hy : P.2.sees (cmpTx k) = true
      ·
       rw [hy] at HTT
       have htk : P.2.take (cmpTx k) = P.2.adv := by unfold St.take; rw [if_pos hy]
       rw [htk] at HTT
       have HR := Hd (HYES.out k hlt hy)
       clear hy htk
       go_wp2_with fail
       refine (HTT.out).mono ?_
       rintro e w6 ⟨rfl, hs, hk⟩
       have HKR := zV HKR hk
       have HAR := Hd (fun a h => (HAR.out a h).keep hk (by simp; omega))
       have HSR := Hd hs
       clear hk hs hc
       go_wp2_with fail
       refine (HQ2.out _ HSR.out (by have := HKR.out.size; omega)).mono ?_
       rintro e w7 ⟨v, rfl, ⟨q2, rfl⟩, hk, hs, ha⟩
       have HKR := zV HKR hk
       have HAR := Hd (fun a h => (HAR.out a h).keep hk (by simp; omega))
       have HSR := Hd hs
       have HAC := Hd ha
       clear hk hs ha
       go_wp2
       go_ret
       refine ⟨.pointer (some ⟨w7.heap.size, 0, none⟩), rfl, ⟨_, rfl⟩, HKR.out.alloc _, by rw [HR.out]; exact HSR.out.keep ((Keeps.refl _ _).alloc _), fun a h => ?_⟩
       rw [HR.out] at h
       obtain ⟨c, h1, h2⟩ := Option.bind_eq_some_iff.1 h
       obtain ⟨a0, h3, rfl⟩ := Option.map_eq_some_iff.1 h2
       exact ⟨_, _, _, rfl, by have := HKR.out.size; omega, heap_alloc_new _ _, (HAR.out a0 h3).alloc _, (HAC.out c h1).alloc _⟩
      ·
       have hn : P.2.sees (cmpTx k) = false := by simpa using hy
       rw [hn] at HTT
       have htk : P.2.take (cmpTx k) = P.2 := by unfold St.take; rw [if_neg hy]
       rw [htk] at HTT
       have HN := Hd hn
       clear hn hy htk
       go_wp2_with fail
       refine (HTT.out).mono ?_
       rintro e w6 ⟨rfl, hs, hk⟩
       have HKK := Hd hk
       have HSR := Hd hs
       clear hk hs hc
       go_wp2
       go_roundw
       case rel =>
        refine ⟨k + 1, by omega, by go_num, fun j hj => ?_, HKR.out.trans HKK.out (fun _ h _ => h), HSR.out, fun j => ?_, by have := HKK.out.size; have := HXR.out; omega, fun a h => (HAR.out a h).keep HKK.out (by simp; omega)⟩
        ·
         by_cases hjk : j < k
         · exact HNO.out j hjk
         ·
          obtain rfl : j = k := by omega
          exact HN.out
        ·
         rw [← HCR.out j]
         exact HKK.out.cell (by rw [← HXE.out]; exact HXR.out) (by rw [← HXE.out]; simpa using Ne.symm HBX.out)
       case measure => simp [intOf]; omega
     ·
      have hk : k = 6 := by omega
      have HR := Hd (HNON.out (fun j hj => HNO.out j (by omega)))
      have hge : decide ((k : Int) < 6) = false := by simp; omega
      clear hk6 hlt hk
      go_wp2_with fail
      refine (HF.out _ HSR.out).mono ?_
      rintro e w6 ⟨rfl, hs, hk⟩
      have HKR := zV HKR hk
      have HSR := Hd hs
      clear hk hs
      go_wp2
      go_ret
      exact ⟨.pointer none, rfl, ⟨_, rfl⟩, HKR.out, by rw [HR.out]; exact HSR.out, fun a h => by rw [HR.out] at h; cases h⟩
  ·
   have y2 : (x2.toList == [110, 117, 108, 108]) = true := by rw [hx2, strO_toList, hq2]; rfl
   have y1 : (x1.toList == [61, 61]) = false := by rw [hx1, strO_toList]; simpa using hqa
   have y1' : (x1.toList == [33, 61]) = false := by rw [hx1, strO_toList]; simpa using hqb
   clear h2 hi d0 d1 d2 hx1 hx2 hj1 hj2 hq2 hqa hqb hnm hnm2 HNO
   go_wp2_with fail
   refine Reg.wp_region_state (A := ?AD) (fun _ w' => Keeps [] w2 w') (fun _ _ => True)
    (Is (.pointer (some ⟨b, 0, none⟩)) :: Is (.bool true) :: Is (.bool true) :: Is (.pointer (some ⟨b, 0, none⟩)) :: Is (.pointer (some ⟨b, 0, none⟩)) :: Is (.pointer (some ⟨b, 1, none⟩)) :: Is (.int .i64 (i : Int)) :: Is (.int .i64 (j2 : Int)) :: Is (.pointer (some ⟨b, 0, none⟩)) :: Is (.pointer (some ⟨b, 0, none⟩)) :: Is (.pointer (some ⟨b, 0, none⟩)) :: Is (.slice (some ⟨g, off, none⟩) L cap) :: Is (.int .i64 (L : Int)) :: Is (.bool true) :: Is (.bool true) :: Is (.bool true) :: Is (.pointer (some ⟨b, 0, none⟩)) :: Is (.pointer (some ⟨b, 0, none⟩)) :: Is (.pointer (some ⟨b, 0, none⟩)) :: Is (.slice (some ⟨g, off, none⟩) L cap) :: Is (.pointer (some ⟨b, 0, none⟩)) :: Is (.pointer (some ⟨b, 0, none⟩)) :: Is (.pointer (some ⟨b, 1, none⟩)) :: Is (.int .i64 (i : Int)) :: Is (.int .i64 (j2 : Int)) :: Is (.pointer (some ⟨g, off + j2 * 3, none⟩)) :: Is (.pointer (some ⟨g, off + j2 * 3 + 1, none⟩)) :: Is (.string x2) :: Is (.bool true) :: Is (.bool true) :: Is (.bool true) :: Is (.pointer (some ⟨b, 0, none⟩)) :: Is (.pointer (some ⟨b, 0, none⟩)) :: Is (.pointer (some ⟨b, 0, none⟩)) :: Is (.slice (some ⟨g, off, none⟩) L cap) :: Is (.pointer (some ⟨b, 0, none⟩)) :: Is (.pointer (some ⟨b, 0, none⟩)) :: Is (.pointer (some ⟨b, 1, none⟩)) :: Is (.int .i64 (i : Int)) :: Is (.int .i64 (j1 : Int)) :: Is (.pointer (some ⟨g, off + j1 * 3, none⟩)) :: Is (.pointer (some ⟨g, off + j1 * 3 + 1, none⟩)) :: Is (.string x1) :: Is (.bool false) :: Is (.bool false) :: Is (.pointer (some ⟨b, 0, none⟩)) :: Is (.pointer (some ⟨b, 0, none⟩)) :: Is (.pointer (some ⟨b, 0, none⟩)) :: Is (.slice (some ⟨g, off, none⟩) L cap) :: Is (.pointer (some ⟨b, 0, none⟩)) :: Is (.pointer (some ⟨b, 0, none⟩)) :: Is (.pointer (some ⟨b, 1, none⟩)) :: Is (.int .i64 (i : Int)) :: Is (.int .i64 (j1 : Int)) :: Is (.pointer (some ⟨g, off + j1 * 3, none⟩)) :: Is (.pointer (some ⟨g, off + j1 * 3 + 1, none⟩)) :: Is (.string x1) :: Is (.bool false) :: Is (.bool false) :: Is (.bool false) :: [])
    (by kernel_rfl) (by kernel_rfl) rfl ?hrDA ?hrDC ?hrDo ?hrDlast ?hrDend
   case hrDA => intro vs; simp only [Reg.fill, if_true, Nat.zero_add, Nat.reduceAdd, Act.put, List.setIfInBounds_toArray, List.set_cons_succ, List.set_cons_zero]; exact rfl
   case hrDC => exact (Keeps.refl _ _).drew
   case hrDlast => repeat (first | exact trivial | refine ⟨fun _ _ _ h _ => h, ?_⟩)
   case hrDo =>
    repeat' apply And.intro
    all_goals
     first
      | exact trivial
      | (
       intro Ls vs w' hC hLs hd K hK
       try simp only [Reg.Deps, Reg.at_, List.getD_cons_zero, List.getD_cons_succ, Region.binds, true_implies, Is, and_true] at hd
       have cx0 := hC.cell_some c0 (by simp)
       have cx1 := hC.cell_some c1 (by simp)
       have cx2 := hC.cell_some e1 (by simp)
       have cx3 := hC.cell_some e2 (by simp)
       go_simp
       first
        | exact hK _ _ hC trivial rfl
        | skip)
    ·
     refine (HNM.out _ (H2.out.keep hC)).mono ?_
     rintro e w9 ⟨rfl, hk⟩
     exact ⟨_, rfl, hK _ _ (hC.trans hk (fun _ h _ => h)) trivial rfl⟩
   case hrDend =>
    intro vs w3 hC hall
    simp only [Reg.All, Is, and_true, Nat.zero_add, Nat.reduceAdd] at hall
    obtain ⟨-, -, -, -, -, -, -, -, -, -, -, -, -, -, -, -, -, -, -, -, -, -, -, -, -, -, -, -, -, -, -, -, -, -, -, -, -, -, -, -, -, -, -, -, -, -, -, -, -, -, -, -, -, -, -, -, -, -, -, eL⟩ := hall
    rw [eL]
    have HK3 := zV HK hC
    have HS3 := Hd (H2.out.keep hC)
    clear hC eL
    go_wp2_with fail
    refine (HQ.out _ HS3.out (by have := HK3.out.size; omega)).mono ?_
    rintro e w5 ⟨v, rfl, ⟨q, rfl⟩, hk, hs, ha⟩
    have HK := Hd ((HK3.out.mono (T := [b]) (by simp)).trans hk (fun _ h _ => h))
    have HS := Hd hs
    have HA := Hd ha
    clear hk hs ha
    go_wp2
    have hcell : ∀ k, (w5.alloc (.cells cmpCells 9)).cell? ⟨w5.heap.size, k, none⟩ = cmpCells[k]? := fun k => row_cell (heap_alloc_new w5 _) k
    have HC := Hd hcell
    have HX := Hd (show w5.heap.size < (w5.alloc (.cells cmpCells 9)).heap.size by simp)
    have HBX := Hd (show b ≠ w5.heap.size by have := HS.out.lt; omega)
    have HS5 := Hd (HS.out.keep ((Keeps.refl [] w5).alloc (.cells cmpCells 9)))
    have HA5 := Hd (fun a (h : P.1 = some a) => (HA.out a h).alloc (.cells cmpCells 9))
    have HK5 := Hd (HK.out.alloc (.cells cmpCells 9))
    clear hcell
    obtain ⟨X, hX⟩ : ∃ X, X = w5.heap.size := ⟨_, rfl⟩
    rw [← hX] at HC HX HBX
    have HXE := Hd hX
    clear hX
    go_loopw [8] (fun iv wr => ∃ k : Nat, k ≤ 6 ∧ iv = .int .i64 (k : Int) ∧ (∀ j, j < k → P.2.sees (cmpTx j) = false) ∧ Keeps [b] w wr ∧ SA wr b n P.2 ∧ (∀ j, wr.cell? ⟨w5.heap.size, j, none⟩ = cmpCells[j]?) ∧ X < wr.heap.size ∧ (∀ a, P.1 = some a → ExAt wr lo a (.pointer q))) (fun iv _ => 6 - (intOf iv).toNat)
    case atStart => exact ⟨0, by omega, rfl, fun j hj => by omega, HK5.out, HS5.out, by rw [← HXE.out]; exact HC.out, HX.out, HA5.out⟩
    case round =>
     obtain ⟨k, hk6, rfl, hno, hk, hs, hcell, hxs, ha⟩ := hrel
     have HNO := Hd hno
     have HKR := Hd hk
     have HSR := Hd hs
     have HCR := Hd hcell
     have HXR := Hd hxs
     have HAR := Hd ha
     have HTT := Hd (HT.out wr hs k)
     clear hno hk hs hcell hxs ha
     by_cases hlt : k < 6
     ·
      have hc := HCR.out k
      rw [cmpCells_get k hlt] at hc
      obtain ⟨x, hx⟩ : ∃ x, x = strO (cmpTx k) := ⟨_, rfl⟩
      rw [← hx] at hc HTT
      clear hx
      by_cases hy : P.2.sees (cmpTx k) = true
      ·
       rw [hy] at HTT
       have htk : P.2.take (cmpTx k) = P.2.adv := by unfold St.take; rw [if_pos hy]
       rw [htk] at HTT
       have HR := Hd (HYES.out k hlt hy)
       clear hy htk
       go_wp2_with fail
       refine (HTT.out).mono ?_
       rintro e w6 ⟨rfl, hs, hk⟩
       have HKR := zV HKR hk
       have HAR := Hd (fun a h => (HAR.out a h).keep hk (by simp; omega))
       have HSR := Hd hs
       clear hk hs hc
       go_wp2_with fail
       refine (HQ2.out _ HSR.out (by have := HKR.out.size; omega)).mono ?_
       rintro e w7 ⟨v, rfl, ⟨q2, rfl⟩, hk, hs, ha⟩
       have HKR := zV HKR hk
       have HAR := Hd (fun a h => (HAR.out a h).keep hk (by simp; omega))
       have HSR := Hd hs
       have HAC := Hd ha
       clear hk hs ha
       go_wp2
       go_ret
       refine ⟨.pointer (some ⟨w7.heap.size, 0, none⟩), rfl, ⟨_, rfl⟩, HKR.out.alloc _, by rw [HR.out]; exact HSR.out.keep ((Keeps.refl _ _).alloc _), fun a h => ?_⟩
       rw [HR.out] at h
       obtain ⟨c, h1, h2⟩ := Option.bind_eq_some_iff.1 h
       obtain ⟨a0, h3, rfl⟩ := Option.map_eq_some_iff.1 h2
       exact ⟨_, _, _, rfl, by have := HKR.out.size; omega, heap_alloc_new _ _, (HAR.out a0 h3).alloc _, (HAC.out c h1).alloc _⟩
      ·
       have hn : P.2.sees (cmpTx k) = false := by simpa using hy
       rw [hn] at HTT
       have htk : P.2.take (cmpTx k) = P.2 := by unfold St.take; rw [if_neg hy]
       rw [htk] at HTT
       have HN := Hd hn
       clear hn hy htk
       go_wp2_with fail
       refine (HTT.out).mono ?_
       rintro e w6 ⟨rfl, hs, hk⟩
       have HKK := Hd hk
       have HSR := Hd hs
       clear hk hs hc
       go_wp2
       go_roundw
       case rel =>
        refine ⟨k + 1, by omega, by go_num, fun j hj => ?_, HKR.out.trans HKK.out (fun _ h _ => h), HSR.out, fun j => ?_, by have := HKK.out.size; have := HXR.out; omega, fun a h => (HAR.out a h).keep HKK.out (by simp; omega)⟩
        ·
         by_cases hjk : j < k
         · exact HNO.out j hjk
         ·
          obtain rfl : j = k := by omega
          exact HN.out
        ·
         rw [← HCR.out j]
         exact HKK.out.cell (by rw [← HXE.out]; exact HXR.out) (by rw [← HXE.out]; simpa using Ne.symm HBX.out)
       case measure => simp [intOf]; omega
     ·
      have hk : k = 6 := by omega
      have HR := Hd (HNON.out (fun j hj => HNO.out j (by omega)))
      have hge : decide ((k : Int) < 6) = false := by simp; omega
      clear hk6 hlt hk
      go_wp2_with fail
      refine (HF.out _ HSR.out).mono ?_
      rintro e w6 ⟨rfl, hs, hk⟩
      have HKR := zV HKR hk
      have HSR := Hd hs
      clear hk hs
      go_wp2
      go_ret
      exact ⟨.pointer none, rfl, ⟨_, rfl⟩, HKR.out, by rw [HR.out]; exact HSR.out, fun a h => by rw [HR.out] at h; cases h⟩
end Go.Proofs.YtbikifibfaaggaaGreatDoor
