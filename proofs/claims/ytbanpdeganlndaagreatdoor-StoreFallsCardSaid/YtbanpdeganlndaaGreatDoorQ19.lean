/- Merged: SCompact SLight SPlays -/
import Derived.Test.YtbanpdeganlndaaGreatDoorQ17
import Derived.Test.YtbanpdeganlndaaGreatDoorQ14
import Derived.Test.YtbanpdeganlndaaGreatDoorQ18
namespace Go.Proofs.YtbanpdeganlndaaGreatDoor
open Go.RowKit
open Reg (Is Fact)
open St (Tx As Ch)

/-- The pairs, in blocks of their own. -/
def PrF (W : Nat) (l : As) : Fact := fun v w => ∃ A c b xs, v = .slice A (St.news xs).length c ∧ List.Perm xs l ∧ PairsIn w b A (St.news xs) ∧ (xs ≠ [] → W ≤ b)
theorem PrF.last {S : List Nat} {W : Nat} {l : As} (hS : ∀ x ∈ S, x < W) : ∀ v w w', PrF W l v w → GA S w w' → PrF W l v w' := fun v w w' ⟨A, c, b, xs, h1, h2, h3, h4⟩ hg => by
  by_cases hx : xs = []
  · subst hx
    exact ⟨A, c, b, [], h1, h2, .inl rfl, h4⟩
  · exact ⟨A, c, b, xs, h1, h2, h3.keep hg (fun hm => by have := hS b hm; have := h4 hx; omega), h4⟩
/-- Ahead of the change and behind it. -/
def CP (S : List Nat) (wr : World) (T : Value → World → Prop) (L : Nat → Bool) (vs : Nat → Value) (w : World) : Prop :=
  Keeps S wr w ∧ (L 8 = false → Keeps [] wr w) ∧ (L 8 = true → T (vs 8) w) ∧ (L 9 = true → T (vs 9) w) ∧ (L 7 = true → L 6 = true) ∧ (L 8 = true → L 7 = true) ∧ (L 9 = true → L 8 = true)
theorem CP.lay {S : List Nat} {wr w w' : World} {T : Value → World → Prop} {L : Nat → Bool} {vs : Nat → Value} {i : Nat} {v : Value} (x : CP S wr T L vs w) (h : i < 8) (h67 : i = 7 → L 6 = true) (hk : Keeps [] w w') (hT : ∀ v w1 w2, T v w1 → Keeps [] w1 w2 → T v w2) : CP S wr T (Reg.lay L i) (Reg.upd vs i v) w' := by
  have e : ∀ j, 8 ≤ j → Reg.lay L i j = L j := fun j hj => lay_ne (by omega)
  have u : ∀ j, 8 ≤ j → Reg.upd vs i v j = vs j := fun j hj => by unfold Reg.upd; rw [if_neg (by omega)]
  obtain ⟨h1, h2, h3, h4, h5, h6, h7⟩ := x
  unfold CP
  rw [e 8 (by omega), e 9 (by omega), u 8 (by omega), u 9 (by omega)]
  refine ⟨h1.trans hk (by simp), fun hl => (h2 hl).trans hk (by simp), fun hl => hT _ _ _ (h3 hl) hk, fun hl => hT _ _ _ (h4 hl) hk, fun hl => ?_, fun hl => lay_up (h6 hl), h7⟩
  by_cases hi : i = 7
  · exact lay_up (h67 hi)
  · rw [lay_ne hi] at hl
    exact lay_up (h5 hl)
theorem CP.eight {S : List Nat} {wr w w' : World} {T : Value → World → Prop} {L : Nat → Bool} {vs : Nat → Value} {v : Value} (x : CP S wr T L vs w) (h8 : L 8 = false) (h7 : L 7 = true) (hk : Keeps S w w') (h : T v w') : CP S wr T (Reg.lay L 8) (Reg.upd vs 8 v) w' := by
  have h9 : L 9 = false := by cases h : L 9 with | false => rfl | true => rw [x.2.2.2.2.2.2 h] at h8; cases h8
  refine ⟨x.1.trans hk (fun _ h _ => h), fun hl => ?_, fun _ => by rw [show Reg.upd vs 8 v 8 = v by simp [Reg.upd]]; exact h, fun hl => ?_, fun _ => lay_up (x.2.2.2.2.1 h7), fun _ => lay_up h7, fun hl => lay_eq⟩
  · rw [lay_eq] at hl; cases hl
  · rw [lay_ne (by decide), h9] at hl; cases hl
theorem CP.nine {S : List Nat} {wr w : World} {T : Value → World → Prop} {L : Nat → Bool} {vs : Nat → Value} (x : CP S wr T L vs w) (h8 : L 8 = true) : CP S wr T (Reg.lay L 9) (Reg.upd vs 9 (vs 8)) w := by
  have h := x.2.2.1 h8
  have c7 := x.2.2.2.2.2.1 h8
  refine ⟨x.1, fun hl => ?_, fun _ => ?_, fun _ => ?_, fun _ => lay_up (x.2.2.2.2.1 c7), fun _ => lay_up c7, fun _ => lay_up h8⟩
  · rw [lay_ne (by decide), h8] at hl; cases hl
  · rw [show Reg.upd vs 9 (vs 8) 8 = vs 8 by simp [Reg.upd]]; exact h
  · rw [show Reg.upd vs 9 (vs 8) 9 = vs 8 by simp [Reg.upd]]; exact h
attribute [local go_sem] Reg.wantedV Reg.gives_value Reg.gives_skip Reg.gives_enter in
set_option maxRecDepth 100000 in
set_option maxHeartbeats 4000000 in
theorem compact_gen (w : World) (S : List Nat) (sp mb lp : Nat) (l : As) (T0 T32 : As → World → Prop) (h : StAt w sp mb lp false l) (hll : l.length ≤ 1000000) (hS : ∀ x ∈ S, x < w.heap.size)
    (k0 : ∀ xs w1 w2, T0 xs w1 → Keeps [] w1 w2 → T0 xs w2) (k32 : ∀ xs w1 w2, T32 xs w1 → Keeps [] w1 w2 → T32 xs w2)
    (hrep : ∀ w' A c b xs, Keeps [] w w' → List.Perm xs l → PairsIn w' b A (St.news xs) → (xs ≠ [] → w.heap.size ≤ b) → Calls Tryz.prog 31 #[.pointer (some ⟨sp, 1, none⟩), .slice A (St.news xs).length c] w' fun e w2 => ∃ m : Nat, e = .returned (.int .i64 (m : Int)) ∧ DoneP sp mb lp l l (T0 xs) (T32 xs) m w2 ∧ Keeps S w' w2) :
    Calls Tryz.prog 13 #[.pointer (some ⟨sp, 0, none⟩)] w fun e w' => ∃ (m : Nat) (xs : As), e = .returned (.int .i64 (m : Int)) ∧ List.Perm xs l ∧ DoneP sp mb lp l l (T0 xs) (T32 xs) m w' ∧ Keeps S w w' := by
  have h2 := h.c2
  have HC0 := Lib.hid h.c0
  have HR := Lib.hid hrep
  have HS := Lib.hid hS
  have HP := Lib.hid (fun w' (hk : Keeps [] w w') => sprs_any w' mb l (h.map.keep hk (by simp)) hll)
  obtain ⟨T, hTd⟩ : ∃ T : Value → World → Prop, T = fun v w' => ∃ (m : Nat) (xs : As), v = .int .i64 (m : Int) ∧ List.Perm xs l ∧ DoneP sp mb lp l l (T0 xs) (T32 xs) m w' := ⟨_, rfl⟩
  have HTD := Lib.hid hTd
  have HT := Lib.hid (show ∀ v w1 w2, T v w1 → Keeps [] w1 w2 → T v w2 from by
    rw [hTd]
    rintro v w1 w2 ⟨m, xs, e1, e2, ⟨q1, q2, q3⟩ | ⟨q1, q2, q3⟩⟩ hk
    · exact ⟨m, xs, e1, e2, .inl ⟨q1, q2.keep0 hk, k0 _ _ _ q3 hk⟩⟩
    · exact ⟨m, xs, e1, e2, .inr ⟨q1, q2.keep0 hk, k32 _ _ _ q3 hk⟩⟩)
  clear h hrep hS k0 k32 hTd
  go_enter Tryz.func13, Tryz.ntmps13
  go_wp2_with fail
  refine Reg.wp_region_free (A := ?A) (CP S w T) (GA S)
    [Is (.pointer (some ⟨sp, 0, none⟩)), Is (.pointer (some ⟨sp, 0, none⟩)), Is (.pointer (some ⟨sp, 1, none⟩)), Is (.pointer (some ⟨sp, 0, none⟩)), Is (.pointer (some ⟨sp, 0, none⟩)), Is (.pointer (some ⟨sp, 0, none⟩)), Is (.map (some mb)), PrF w.heap.size l, fun _ _ => True, fun _ _ => True]
    (by kernel_rfl) (by kernel_rfl) rfl ?hA ?hC ?ho ?hlast ?hend
  case hA => intro vs; simp only [Reg.fill, if_true, Nat.zero_add, Nat.reduceAdd, Act.put, List.setIfInBounds_toArray, List.set_cons_succ, List.set_cons_zero]; exact rfl
  case hC => exact fun vs => ⟨(Keeps.refl _ _).drew, fun _ => (Keeps.refl _ _).drew, by simp, by simp, by simp, by simp, by simp⟩
  case hlast => repeat (first | exact trivial | refine ⟨Is.lastA, ?_⟩ | refine ⟨PrF.last HS.out, ?_⟩ | refine ⟨fun _ _ _ _ _ => trivial, ?_⟩)
  case ho =>
    repeat' apply And.intro
    all_goals
      first
        | exact trivial
        | (intro L vs w' hC hL hd ha K hK
           try simp only [Reg.Deps, Reg.at_, List.getD_cons_zero, List.getD_cons_succ, Region.binds, true_implies, Is, and_true] at hd
           try simp only [Reg.Aw, Region.binds, true_implies, and_true] at ha
           go_simp
           first
             | exact hK _ _ (hC.lay (by decide) (fun e => absurd e (by decide)) (Keeps.refl _ _) HT.out) (Keeps.refl _ _) rfl
             | skip)
    · have h8 : L 8 = false := by
        cases h : L 8 with
        | false => rfl
        | true => have := hC.2.2.2.2.1 (hC.2.2.2.2.2.1 h); rw [hL] at this; cases this
      rw [(hC.2.1 h8).cell_some HC0.out (by simp)]
      exact hK _ _ (hC.lay (by decide) (fun e => absurd e (by decide)) (Keeps.refl _ _) HT.out) (Keeps.refl _ _) rfl
    · have h8 : L 8 = false := by
        cases h : L 8 with
        | false => rfl
        | true => have := hC.2.2.2.2.2.1 h; rw [hL] at this; cases this
      have hsz := (hC.2.1 h8).size
      refine (HP.out _ (hC.2.1 h8)).mono ?_
      rintro e w2 ⟨Ar, c, b, xs, rfl, hp, hpi, hb, hk⟩
      exact ⟨_, rfl, hK _ _ (hC.lay (by decide) (fun _ => ha) hk HT.out) (hk.mono (by simp)) ⟨Ar, c, b, xs, rfl, hp, hpi, fun hne => Nat.le_trans hsz (hb hne)⟩⟩
    · obtain ⟨-, ⟨Ar, c, b, xs, hv, hp, hpi, hb⟩, -⟩ := hd
      rw [hv]
      refine (HR.out _ Ar c b xs (hC.2.1 hL) hp hpi hb).mono ?_
      rintro e w2 ⟨m, rfl, hr, hk⟩
      exact ⟨_, rfl, hK _ _ (hC.eight hL ha.2.1 hk (by rw [HTD.out]; exact ⟨m, xs, rfl, hp, hr⟩)) hk trivial⟩
    · exact hK _ _ (hC.nine ha.1) (Keeps.refl _ _) trivial
  case hend =>
    intro vs w2 hC hall
    have ht := hC.2.2.2.1 rfl
    rw [HTD.out] at ht
    obtain ⟨m, xs, hv, hp, hd⟩ := ht
    have HPM := Lib.hid hp
    have HD := Lib.hid hd
    have HKK := Lib.hid hC.1
    have HV := Lib.hid hv
    clear hC hall hv hp hd
    rw [HV.out]
    go_wp2_with fail
    go_ret
    exact ⟨m, xs, rfl, HPM.out, HD.out, HKK.out⟩
theorem news_small {xs l : As} (hp : List.Perm xs l) (hs : ∀ p ∈ l, p.1.length ≤ 40 ∧ p.2.length ≤ 255) : ∀ c ∈ St.news xs, c.key.length ≤ 40 ∧ c.val.length ≤ 255 := fun c hc => by
  obtain ⟨p, hpm, rfl⟩ := List.mem_map.1 hc
  exact hs p (hp.mem_iff.1 hpm)
section
variable {w0 w w' : World} {h : DH} {B : Nat → Prop} {lp sp mb : Nat} {d : Dk} {g : Lg} {cs : List Ch} {l : As} {N s : Nat}
theorem SR.compact (r : SR w0 w h B lp d g sp mb cs l N s) (hs0 : 0 < s) (hs : ∀ p ∈ l, p.1.length ≤ 40 ∧ p.2.length ≤ 255) (hll : l.length ≤ 1000) (hfit : 9 + 308 * l.length + s - 1 < (L.cap N + 1) * s) :
    Calls Tryz.prog 13 #[.pointer (some ⟨sp, 0, none⟩)] w fun e w' => ∃ (m : Nat) (xs : As), e = .returned (.int .i64 (m : Int)) ∧ List.Perm xs l ∧ Keeps (sp :: lp :: h.l) w w' ∧
      SOut w0 w' h lp d (1 - g.area) (L.nsec ((St.news xs).map St.rec) s) sp mb cs (St.news xs) l l N s m := by
  have hsl := r.sep.2.2.1
  have hml := r.sep.2.2.2
  have hspl : sp ∉ h.l := fun hm => hsl (by simp [hm])
  have hmpl : mb ∉ h.l := fun hm => hml (by simp [hm])
  obtain ⟨T0, hT0⟩ : ∃ T : As → World → Prop, T = fun xs w' => ∃ B' d', (Lit_ d → Lit_ d') ∧ GR w0 w' h B' lp d' ⟨1 - g.area, L.nsec ((St.news xs).map St.rec) s, (St.news xs).length, true⟩ ((St.news xs).map St.rec) N s ∧ ¬ B' sp ∧ ¬ B' mb := ⟨_, rfl⟩
  obtain ⟨T32, hT32⟩ : ∃ T : As → World → Prop, T = fun xs w' => ¬ Lit_ d ∧ ∃ B' d', d'.dead = true ∧ GD w0 w' h B' d' (cs.map St.rec) ((St.news xs).map St.rec) N s ∧ ¬ B' sp ∧ ¬ B' mb := ⟨_, rfl⟩
  have k0 : ∀ xs w1 w2, T0 xs w1 → Keeps [] w1 w2 → T0 xs w2 := by
    intro xs w1 w2 h1 hk
    rw [hT0] at h1 ⊢
    obtain ⟨B', d', q1, q2, q3⟩ := h1
    exact ⟨B', d', q1, q2.step hk, q3⟩
  have k32 : ∀ xs w1 w2, T32 xs w1 → Keeps [] w1 w2 → T32 xs w2 := by
    intro xs w1 w2 h1 hk
    rw [hT32] at h1 ⊢
    obtain ⟨q0, B', d', q1, q2, q3⟩ := h1
    exact ⟨q0, B', d', q1, q2.beside hk (by simp), q3⟩
  refine (compact_gen w (sp :: lp :: h.l) sp mb lp l T0 T32 r.st (by omega) (fun x hx => r.low x (by simp at hx ⊢; exact .inr hx)) k0 k32 ?_).mono ?_
  · intro wa A cap gp xs hka hpm hpi hgp
    have hnl : (St.news xs).length ≤ 1000 := by rw [news_len, hpm.length_eq]; exact hll
    have hns := news_small hpm hs
    refine (replace_gen wa (sp :: lp :: h.l) sp mb lp (St.news xs).length cap false l A ((St.news xs).map St.rec)
      (fun m w2 => (m = 0 ∧ StAt w2 sp mb lp false l ∧ T0 xs w2) ∨ (m = 32 ∧ StAt w2 sp mb lp false l ∧ T32 xs w2)) (fun m w2 => DoneP sp mb lp l l (T0 xs) (T32 xs) m w2) (r.st.keep0 hka) (fun x hx => Nat.lt_of_lt_of_le (r.low x (by simp at hx ⊢; exact .inr hx)) hka.size) ?_ ?_ (.inr (by simp)) ?_ ?_ ?_).mono ?_
    · rintro m w1 w2 (⟨q1, q2, q3⟩ | ⟨q1, q2, q3⟩) hk
      · exact .inl ⟨q1, q2.keep0 hk, k0 _ _ _ q3 hk⟩
      · exact .inr ⟨q1, q2.keep0 hk, k32 _ _ _ q3 hk⟩
    · rintro m w1 w2 (⟨q1, q2, q3⟩ | ⟨q1, q2, q3⟩) hk
      · exact .inl ⟨q1, q2.keep0 hk, k0 _ _ _ q3 hk⟩
      · exact .inr ⟨q1, q2.keep0 hk, k32 _ _ _ q3 hk⟩
    · intro wb hkb
      refine (records_any wb gp A (St.news xs) cap (hpi.keep hkb (by simp)) (fun c hc => by have := hns c hc; unfold St.Ch.size; omega) (by omega)).mono ?_
      rintro e w2 ⟨v, rfl, ho, hk⟩
      obtain ⟨Ar, c, rfl, hrow⟩ := ho.fits
      exact ⟨Ar, c, by rw [List.length_map], hrow.keep (Keeps.refl [] _) (by simp) (fun x hx => Nat.le_trans hkb.size hx), hk⟩
    · intro wb Ar c hkb hrow
      have hkk := hka.trans hkb (by simp)
      have hbody := body_recs hns (by omega)
      have hc := (r.gr.step hkk).reset c hrow (by have := Nat.mul_le_mul_left 308 hnl; omega) (fit_recs (k := l.length) hs0 hns (by rw [news_len, hpm.length_eq]; exact Nat.le_refl _) hfit)
      rw [List.length_map] at hc
      refine hc.mono ?_
      rintro e w2 ⟨m, rfl, hk, B', d', hB, ho⟩
      have hst2 : StAt w2 sp mb lp false l := (r.st.keep0 hkk).keep hk hsl hml
      have hBsp : ¬ B' sp := fun hq => by rcases hB sp hq with h1 | h1; exact r.sep.1 h1; have := r.st.lt.1; have := hkk.size; omega
      have hBmb : ¬ B' mb := fun hq => by rcases hB mb hq with h1 | h1; exact r.sep.2.1 h1; have := r.st.lt.2; have := hkk.size; omega
      refine ⟨m, rfl, ?_, hk.mono (fun i hi _ => by simp at hi ⊢; exact .inr hi)⟩
      rcases ho with ⟨q1, q2, q3⟩ | ⟨q1, q2, q3, q4⟩
      · refine .inl ⟨q1, hst2, ?_⟩
        rw [hT0]
        exact ⟨B', d', q2, by simpa using q3, hBsp, hBmb⟩
      · refine .inr ⟨q1, hst2, ?_⟩
        rw [hT32]
        exact ⟨q2, B', d', q3, q4, hBsp, hBmb⟩
    · rintro wb m (⟨rfl, q2, q3⟩ | ⟨rfl, q2, q3⟩)
      · refine (told_no wb sp 0 (by omega) (by omega)).mono ?_
        rintro e w2 ⟨rfl, rfl⟩
        exact ⟨rfl, .inl ⟨rfl, q2, q3⟩, Keeps.refl _ _⟩
      · refine (told_yes wb sp mb lp false l q2).mono ?_
        rintro e w2 ⟨rfl, rfl⟩
        have hk1 : Keeps [sp] wb (wb.setCell ⟨sp, 2, none⟩ (.bool true)) := (Keeps.refl _ _).setCell (by simp) _
        refine ⟨rfl, .inr ⟨rfl, q2.downs, ?_⟩, hk1.mono (fun i hi _ => by simp at hi ⊢; exact .inl hi)⟩
        rw [hT32] at q3 ⊢
        obtain ⟨p0, B', d', p1, p2, p3, p4⟩ := q3
        exact ⟨p0, B', d', p1, p2.beside hk1 (fun y hy => by
          obtain rfl : y = sp := by simpa using hy
          exact ⟨hspl, p3, r.new.1⟩), p3, p4⟩
    · rintro e w2 ⟨m, rfl, hd, hk⟩
      exact ⟨m, rfl, hd, hk⟩
  · rintro e w2 ⟨m, xs, rfl, hpm, hd, hk⟩
    refine ⟨m, xs, rfl, hpm, hk, ?_⟩
    have hkx : St.Keyed ([] ++ xs) := St.keyed_perm r.keyed hpm.symm
    have hperm : l.Perm (St.apps [] (St.news xs)) := hpm.symm.trans (by simpa using (St.apps_news hkx).symm)
    rcases hd with ⟨q1, q2, q3⟩ | ⟨q1, q2, q3⟩
    · rw [hT0] at q3
      obtain ⟨B', d', p1, p2, p3, p4⟩ := q3
      exact .inl ⟨q1, B', d', p1, p2, q2, hperm, r.new, p3, p4, hsl, hml⟩
    · rw [hT32] at q3
      obtain ⟨p0, B', d', p1, p2, p3, p4⟩ := q3
      exact .inr ⟨q1, p0, B', d', p1, p2, q2, r.eq, r.new, p3, p4, hspl, hmpl⟩
end
end Go.Proofs.YtbanpdeganlndaaGreatDoor
namespace Go.Proofs.YtbanpdeganlndaaGreatDoor
open Go.RowKit
open Reg (Is Fact)
open St (Tx As Ch)

def SActsIn (w : World) (A : Option Addr) (l : List (Int × List LP)) : Prop :=
  l = [] ∨ ∃ b off, A = some ⟨b, off, none⟩ ∧ ∀ k (h : k < l.length), ∃ B cap g, w.cell? ⟨b, off + k * 2, none⟩ = some (.int .i64 l[k].1) ∧ w.cell? ⟨b, off + k * 2 + 1, none⟩ = some (.slice B l[k].2.length cap) ∧ LPsIn w g B l[k].2
theorem SActsIn.keep0 {w w' : World} {A : Option Addr} {l : List (Int × List LP)} (h : SActsIn w A l) (hk : Keeps [] w w') : SActsIn w' A l := by
  rcases h with h | ⟨b, off, hA, hc⟩
  · exact .inl h
  · refine .inr ⟨b, off, hA, fun k hk' => ?_⟩
    obtain ⟨B, cap, g, h1, h2, h3⟩ := hc k hk'
    exact ⟨B, cap, g, hk.cell_some h1 (by simp), hk.cell_some h2 (by simp), h3.keep hk (by simp)⟩
def SLight (l : List (Int × List LP)) : Prop := l.length ≤ 30 ∧ ∀ a ∈ l, List.length a.2 ≤ 5
instance (l : List (Int × List LP)) : Decidable (SLight l) := by unfold SLight; exact inferInstance
set_option maxRecDepth 100000 in
set_option maxHeartbeats 1000000 in
theorem slight_any (w : World) (A : Option Addr) (cap : Nat) (l : List (Int × List LP)) (hr : SActsIn w A l) : Calls Tryz.prog 10 #[.slice A l.length cap] w fun e w' => e = .returned (.bool (decide (SLight l))) ∧ Keeps [] w w' := by
  have HR := Lib.hid hr
  clear hr
  by_cases hl : l.length ≤ 30
  · have e1 : decide ((30 : Int) < (l.length : Int)) = false := by simp; omega
    go_enter Tryz.func10, Tryz.ntmps10
    go_wp2_with fail
    go_loopw [3] (fun kv wr => ∃ k : Nat, k ≤ l.length ∧ kv = .int .i64 (k : Int) ∧ (∀ a ∈ l.take k, List.length a.2 ≤ 5) ∧ Keeps [] w wr) (fun kv _ => l.length - (RowKit.intOf kv).toNat)
    case atStart => exact ⟨0, by omega, rfl, by simp, Keeps.refl _ _⟩
    case round =>
      obtain ⟨k, hk, rfl, hall, hkk⟩ := hrel
      have HA := Lib.hid hall
      have HK := Lib.hid hkk
      clear hall hkk
      by_cases hlt : k < l.length
      · rcases HR.out.keep0 HK.out with h0 | ⟨b, off, rfl, hc⟩
        · rw [h0] at hlt; simp at hlt
        · obtain ⟨Bl, cp, g, q1, q2, _⟩ := hc k hlt
          obtain ⟨n, hn⟩ : ∃ n, n = (l[k]).2.length := ⟨_, rfl⟩
          rw [← hn] at q2
          have HN := Lib.hid hn
          have ek : IntKind.i64.wrap ((k : Int) + 1) = (k : Int) + 1 := IntWalk.i64_in _ ⟨by omega, by omega⟩
          clear hc hn q1
          by_cases hn6 : n ≤ 5
          · have e6 : decide ((5 : Int) < (n : Int)) = false := by simp; omega
            have HA2 := Lib.hid (show ∀ a ∈ l.take (k + 1), List.length a.2 ≤ 5 from fun a ha => by
              rw [List.take_succ_eq_append_getElem hlt] at ha
              rcases List.mem_append.1 ha with h | h
              · exact HA.out a h
              · have : a = l[k] := by simpa using h
                rw [this, ← HN.out]; exact hn6)
            clear hn6
            go_wp2_with fail
            go_roundw
            case rel => exact ⟨k + 1, by omega, by push_cast; rfl, HA2.out, HK.out⟩
            case measure => simp [RowKit.intOf]; omega
          · have e6 : decide ((5 : Int) < (n : Int)) = true := by simp; omega
            have HF := Lib.hid (show decide (SLight l) = false by
              rw [decide_eq_false_iff_not]
              rintro ⟨_, h⟩
              have := h _ (List.getElem_mem hlt)
              rw [← HN.out] at this
              omega)
            clear hn6
            go_wp2_with fail
            go_ret
            exact ⟨by rw [HF.out]; rfl, HK.out⟩
      · have HT := Lib.hid (show decide (SLight l) = true by
          rw [decide_eq_true_iff]
          refine ⟨hl, fun a ha => HA.out a ?_⟩
          rw [List.take_of_length_le (by omega)]; exact ha)
        go_wp2_with fail
        go_ret
        exact ⟨by rw [HT.out]; rfl, HK.out⟩
  · have e1 : decide ((30 : Int) < (l.length : Int)) = true := by simp; omega
    have HF := Lib.hid (show decide (SLight l) = false by
      rw [decide_eq_false_iff_not]
      rintro ⟨h, _⟩
      exact hl h)
    clear hl
    go_enter Tryz.func10, Tryz.ntmps10
    go_wp2_with fail
    go_ret
    exact ⟨by rw [HF.out]; rfl, Keeps.refl _ _⟩

/-! ### A map beside a store -/
theorem bytes_not {w : World} {g y off : Nat} {b : List UInt8} (h : BytesIn w g (some ⟨g, off, none⟩) b) (hb : 0 < b.length) (hy : ∃ es c, w.heap[y]? = some (.map es c)) : g ≠ y := fun e => by
  subst e
  obtain ⟨es, c, hy⟩ := hy
  rcases h with h | ⟨o, hA, hc⟩
  · rw [h] at hb; simp at hb
  · have := hc 0 hb
    simp [World.cell?, hy] at this
theorem DskAt.less {w : World} {h : DH} {B : Nat → Prop} {d : Dk} (x : DskAt w h B d) {y : Nat} (hy : ∃ es c, w.heap[y]? = some (.map es c)) : DskAt w h (fun z => B z ∧ z ≠ y) d := by
  have hsec : ∀ v b, 0 < List.length b → SecV w B v b → SecV w (fun z => B z ∧ z ≠ y) v b := fun v b hb ⟨g, off, cap, h1, h2, h3, h4, h5⟩ => ⟨g, off, cap, h1, h2, h3, h4, h5, bytes_not h2 hb hy⟩
  have hpos := x.ok.size.1
  refine ⟨x.ok, x.box, ?_, ?_, ⟨fun hq => x.sep.1 hq.1, fun hq => x.sep.2.1 hq.1, fun hq => x.sep.2.2 hq.1⟩, fun z hz => x.low z hz.1⟩
  · obtain ⟨vs, h1, h2⟩ := x.rows
    refine ⟨vs, h1, fun i hi => ?_⟩
    obtain ⟨v, q1, q2⟩ := h2 i hi
    exact ⟨v, q1, hsec _ _ (by rw [x.ok.len _ (List.getElem_mem hi)]; omega) q2⟩
  · obtain ⟨k, D, h1, h2, h3⟩ := x.fresh
    refine ⟨k, D, h1, h2, fun i b hi => ?_⟩
    obtain ⟨q1, v, q2, q3⟩ := h3 i b hi
    exact ⟨q1, v, q2, hsec _ _ (by rw [(x.ok.fr i b hi).2]; omega) q3⟩
theorem MapAt.obj {w : World} {b : Nat} {E : Tx → Tx → Value} {l : As} (h : MapAt w b E l) : ∃ es c, w.heap[b]? = some (.map es c) := by
  obtain ⟨_, _, n, L, ⟨es, c, hb, _⟩, _⟩ := h
  exact ⟨es, c, hb⟩
section
variable {w0 w w' : World} {h : DH} {B : Nat → Prop} {lp sp mb mm : Nat} {d : Dk} {g : Lg} {cs next : List Ch} {l m : As} {N s : Nat}
/-- A map of one's own lies apart from the store. -/
theorem SR.apart (r : SR w0 w h B lp d g sp mb cs l N s) (hm : MapAt w mm ES m) (h1 : mb ≠ mm) (h2 : mm ∉ h.l) : mm ∉ mb :: sp :: lp :: h.l ∧ SR w0 w h (fun z => B z ∧ z ≠ mm) lp d g sp mb cs l N s := by
  have hyy := hm.obj
  obtain ⟨es, c, hy⟩ := hm.obj
  have hsp : mm ≠ sp := fun e => by have := r.st.box; rw [← e, hy] at this; simp at this
  have hlp : mm ≠ lp := fun e => by have h9 : w.heap[lp]? = some _ := r.gr.live.log; rw [← e, hy] at h9; simp at h9
  refine ⟨fun hq => ?_, ⟨⟨⟨r.gr.live.disk.less hyy, r.gr.live.log, fun hq => r.gr.live.sep hq.1, r.gr.live.good⟩, r.gr.alive, r.gr.secs, r.gr.size, r.gr.keeps, r.gr.new, r.gr.tab0, r.gr.pos⟩, r.st, r.eq, r.new, ⟨fun hq => r.sep.1 hq.1, fun hq => r.sep.2.1 hq.1, r.sep.2.2.1, r.sep.2.2.2⟩⟩⟩
  rcases List.mem_cons.1 hq with e | hq
  · exact h1 e.symm
  · rcases List.mem_cons.1 hq with e | hq
    · exact hsp e
    · rcases List.mem_cons.1 hq with e | hq
      · exact hlp e
      · exact h2 hq
end
end Go.Proofs.YtbanpdeganlndaaGreatDoor
namespace Go.Proofs.YtbanpdeganlndaaGreatDoor
open Go.RowKit
open Reg (Is Fact)
open St (Tx As Ch)

theorem size_le {k : Nat} : ∀ (l : As), (∀ p ∈ l, p.1.length + p.2.length ≤ k) → St.size l ≤ k * l.length
  | [], _ => by simp [St.size]
  | p :: l, h => by
    have h1 := size_le l (fun q hq => h q (by simp [hq]))
    have h2 := h p (by simp)
    rw [ssize_cons, List.length_cons, Nat.mul_succ]
    omega
def Small (l : As) : Prop := ∀ p ∈ l, p.1 ∈ St.ks ∧ p.2.length ≤ 255
theorem Small.facts {l : As} (h : Small l) (hk : St.Keyed l) : l.length ≤ 7 ∧ St.size l ≤ 1000000 ∧ ∀ p ∈ l, p.1 ∈ St.ks := by
  have h0 : ∀ p ∈ l, p.1 ∈ St.ks := fun p hp => (h p hp).1
  have h1 := (St.found_perm St.ks_nodup hk h0).length_eq
  have h2 : (St.found St.ks l).length ≤ 7 := Nat.le_trans (List.length_filterMap_le _ _) (by decide)
  have h3 := size_le (k := 258) l (fun p hp => by
    have := St.ks_len _ (h p hp).1
    have := (h p hp).2
    omega)
  have h4 : 258 * l.length ≤ 258 * 7 := Nat.mul_le_mul_left _ (by omega)
  exact ⟨by omega, by omega, h0⟩
theorem Small.app {l : As} (h : Small l) {c : Ch} (hc : c.key ∈ St.ks ∧ c.val.length ≤ 255) : Small (St.app l c) := by
  intro p hp
  unfold St.app at hp
  split at hp
  · exact h p (St.mem_del.1 hp).1
  · rcases List.mem_cons.1 hp with rfl | hp
    · exact hc
    · exact h p (St.mem_del.1 hp).1
theorem Small.apps {l : As} : ∀ {cs : List Ch}, Small l → (∀ c ∈ cs, c.key ∈ St.ks ∧ c.val.length ≤ 255) → Small (St.apps l cs) := by
  intro cs
  induction cs generalizing l with
  | nil => exact fun h _ => h
  | cons c cs ih => exact fun h hc => ih (h.app (hc c (by simp))) (fun c' hc' => hc c' (by simp [hc']))
theorem Small.perm {l m : As} (h : Small l) (p : l.Perm m) : Small m := fun q hq => h q (p.mem_iff.2 hq)
theorem mkc_sm {i : Nat} {ps : List LP} : ∀ c ∈ mkc i ps, c.key ∈ St.ks ∧ c.val.length ≤ 255 := fun c hc => ⟨(mkc_ok c hc).1, (mkc_ok c hc).2.2⟩
/-- Between two acts. -/
structure PI (w wr : World) (h : DH) (mm i sp mb lp : Nat) (B : Nat → Prop) (d : Dk) (g : Lg) (cs : List Ch) (l m : As) : Prop where
  sr : SR w wr h B lp d g sp mb cs l 400 512
  lit : Lit_ d
  used : g.used ≤ 5 + 4 * i
  map : MapAt wr mm ES m
  same : l.Perm m
  ne : mb ≠ mm
  small : Small l
  sz : ∀ c ∈ cs, c.size ≤ 258
  len : cs.length ≤ 7 + 5 * i
section
variable {w wr : World} {h : DH} {mm i sp mb lp : Nat} {B : Nat → Prop} {d : Dk} {g : Lg} {cs : List Ch} {l m : As}
theorem PI.step (x : PI w wr h mm i sp mb lp B d g cs l m) {w' : World} (hk : Keeps [] wr w') : PI w w' h mm i sp mb lp B d g cs l m :=
  ⟨x.sr.step hk, x.lit, x.used, x.map.keep hk (by simp), x.same, x.ne, x.small, x.sz, x.len⟩
theorem PI.up (x : PI w wr h mm i sp mb lp B d g cs l m) : PI w wr h mm (i + 1) sp mb lp B d g cs l m :=
  ⟨x.sr, x.lit, by have := x.used; omega, x.map, x.same, x.ne, x.small, x.sz, by have := x.len; omega⟩
theorem PI.alike (x : PI w wr h mm i sp mb lp B d g cs l m) : Calls Tryz.prog 16 #[.pointer (some ⟨sp, 0, none⟩), .map (some mm)] wr fun e w' => e = .returned (.bool true) ∧ Keeps [] wr w' := by
  obtain ⟨f1, f2, f3⟩ := x.small.facts x.sr.keyed
  obtain ⟨g1, g2, g3⟩ := (x.small.perm x.same).facts (St.keyed_perm x.sr.keyed x.same)
  have := alike_any wr sp mb lp mm false l m x.sr.st x.map f3 g3 f2 (by omega) g2
  rw [same_perm x.sr.keyed x.same] at this
  exact this
theorem PI.opens (x : PI w wr h mm i sp mb lp B d g cs l m) (hmh : mm ∉ h.l) (hi : i ≤ 1000) : Calls Tryz.prog 12 #[.pointer (some ⟨h.p, 0, none⟩)] wr fun e w' => ∃ sp' mb' lp' B' d' g', e = .returned (.tuple #[.pointer (some ⟨sp', 0, none⟩), .int .i64 0]) ∧ PI w w' h mm i sp' mb' lp' B' d' g' cs (St.apps [] cs) m := by
  refine (x.sr.opens x.lit (fun c hc => by have := x.sz c hc; omega) (by have := x.len; omega)).mono ?_
  rintro e w' ⟨sp', mb', lp', B', d', g', rfl, hl, hu, hr, hk, h1, h2⟩
  have hmlt := x.map.lt
  exact ⟨sp', mb', lp', B', d', g', rfl, hr, hl, by rw [hu]; exact x.used, x.map.keep hk hmh, x.sr.eq.symm.trans x.same, by omega, x.small.perm x.sr.eq, x.sz, x.len⟩
theorem PI.compact (x : PI w wr h mm i sp mb lp B d g cs l m) (hmh : mm ∉ h.l) : Calls Tryz.prog 13 #[.pointer (some ⟨sp, 0, none⟩)] wr fun e w' => ∃ B' d' g' cs', e = .returned (.int .i64 0) ∧ PI w w' h mm i sp mb lp B' d' g' cs' l m := by
  obtain ⟨f1, f2, f3⟩ := x.small.facts x.sr.keyed
  have hs : ∀ p ∈ l, p.1.length ≤ 40 ∧ p.2.length ≤ 255 := fun p hp => ⟨by have := St.ks_len _ (x.small p hp).1; omega, (x.small p hp).2⟩
  refine (x.sr.compact (by omega) hs (by omega) (by rw [scap400]; omega)).mono ?_
  rintro e w' ⟨k, xs, rfl, hp, hk, ho⟩
  obtain ⟨rfl, B', d', hl, hr⟩ := ho.lit x.lit
  obtain ⟨hap, _⟩ := x.sr.apart x.map x.ne hmh
  have hns := news_small hp hs
  have hln : (St.news xs).length ≤ 7 := by rw [news_len, hp.length_eq]; exact f1
  refine ⟨B', d', _, _, rfl, hr, hl, ?_, x.map.keep hk (fun hm => hap (by simp at hm ⊢; exact .inr hm)), x.same, x.ne, x.small, fun c hc => ?_, by omega⟩
  · have h1 := L.nsec_bound (s := 512) (rs := (St.news xs).map St.rec) (by omega)
    have h2 := body_recs hns (by omega)
    show L.nsec ((St.news xs).map St.rec) 512 ≤ 5 + 4 * i
    omega
  · obtain ⟨p, hpm, rfl⟩ := List.mem_map.1 hc
    have h1 := x.small p (hp.mem_iff.1 hpm)
    have := St.ks_len _ h1.1
    show p.1.length + p.2.length ≤ 258
    omega
/-- A batch: the pairs, then their change. -/
theorem PI.pairs (x : PI w wr h mm i sp mb lp B d g cs l m) (hmh : mm ∉ h.l) (hi : i ≤ 30) (hw : w.heap.size ≤ mm) {g0 cap : Nat} {A : Option Addr} {ps : List LP} (hr : LPsIn wr g0 A ps) (hg0 : ps = [] ∨ g0 < mm) (hps : ps.length ≤ 5) :
    Calls Tryz.prog 15 #[.int .i64 (i : Int), .slice A ps.length cap, .map (some mm)] wr fun e w4 => ∃ A5 c5, e = .returned (.slice A5 ps.length c5) ∧
      Calls Tryz.prog 14 #[.pointer (some ⟨sp, 0, none⟩), .slice A5 ps.length c5] w4 fun e w' => ∃ B' d' g' cs' l', e = .returned (.int .i64 0) ∧ PI w w' h mm (i + 1) sp mb lp B' d' g' cs' l' (St.apps m (mkc i ps)) := by
  obtain ⟨hap, hsr⟩ := x.sr.apart x.map x.ne hmh
  obtain ⟨f1, f2, f3⟩ := x.small.facts x.sr.keyed
  refine (pairs_any wr i g0 mm cap A ps m hr x.map (by omega) (by omega) (by rw [← x.same.length_eq]; omega) (hg0.imp id (fun hg => by omega))).mono ?_
  rintro e w4 ⟨A5, c5, g5, rfl, hpi, hg5, hm4, hk4⟩
  refine ⟨A5, c5, by rw [mkc_len], ?_⟩
  have hs4 := hsr.beside hk4 hap (fun hq => hq.2 rfl) hw
  have hlow := x.sr.low
  have hu := x.used
  have hn := hs4.apply c5 hpi ((Classical.em (mkc i ps = [])).imp id (fun hne hm => by have := hlow _ hm; have := hg5 hne; omega)) mkc_size (by rw [mkc_len]; omega) (by have := x.len; omega) (by omega)
    (by have := body_recs (cs := mkc i ps) mkc_small (by rw [mkc_len]; omega); rw [mkc_len] at this; omega)
    (by rw [scap400]; exact fit_recs (k := 5) (by omega) mkc_small (by rw [mkc_len]; omega) (by omega))
  rw [mkc_len] at hn
  refine hn.mono ?_
  rintro e w' ⟨k, rfl, hk, ho⟩
  obtain ⟨rfl, B', d', hl, hr'⟩ := ho.lit x.lit
  refine ⟨B', d', _, _, _, rfl, hr', hl, ?_, hm4.keep hk hap, St.apps_perm x.same _, x.ne, x.small.apps mkc_sm, fun c hc => ?_, ?_⟩
  · have h1 := L.nsec_bound (s := 512) (rs := (mkc i ps).map St.rec) (by omega)
    have h2 := body_recs (cs := mkc i ps) mkc_small (by rw [mkc_len]; omega)
    rw [mkc_len] at h2
    show g.used + L.nsec ((mkc i ps).map St.rec) 512 ≤ 5 + 4 * (i + 1)
    omega
  · rcases List.mem_append.1 hc with hc | hc
    · exact x.sz c hc
    · exact mkc_csize c hc
  · rw [List.length_append, mkc_len]
    have := x.len
    omega
end
end Go.Proofs.YtbanpdeganlndaaGreatDoor
