/- Merged: SFull SFullR SRounds -/
import Derived.Test.YtbanpdeganlndaaGreatDoorQ16
namespace Go.Proofs.YtbanpdeganlndaaGreatDoor
open Go.RowKit Go.Shelf
open Reg (Is Fact)
open St (Tx As Ch)

theorem cclone_any (w : World) (mb : Nat) (l : As) (h : MapAt w mb EP l) :
    Calls Tryz.prog 36 #[.map (some mb)] w fun e w' => e = .returned (.map (some w.heap.size)) ∧ MapAt w' w.heap.size EP l ∧ Keeps [] w w' := by
  obtain ⟨h1, h2, n, L, ho, hp⟩ := h
  refine (AnyW.maps_Clone_owns Tryz.cloneC 9 Raw mb n (.map L) w ho).mono ?_
  rintro e w' ⟨rfl, q1, _, q3⟩
  exact ⟨rfl, ⟨h1, h2, n, L, q1, hp⟩, Keeps.of_below q3 []⟩
section
variable {w0 w w' : World} {h : DH} {B : Nat → Prop} {lp : Nat} {d : Dk} {g : Lg} {rs ls : List (List UInt8)} {N s : Nat}
theorem GR.commit_no {G : Nat → Prop} {A : Option Addr} (cap : Nat) (x : GR w0 w h B lp d g rs N s) (hr : RowsIn w G A ls) (hb : (L.body ls).length < 4294967296) (hf : fitErr (L.cap N - g.used) s ls ≠ 0) (hc : rs.length ≤ 1000000) :
    Calls Tryz.prog 60 #[.pointer (some ⟨lp, 0, none⟩), .slice A ls.length cap] w fun e w' => e = .returned (.int .i64 ((fitErr (L.cap N - g.used) s ls : Nat) : Int)) ∧ Keeps (lp :: h.l) w w' ∧ ∃ B', (∀ y, B' y → B y ∨ w.heap.size ≤ y) ∧ GR w0 w' h B' lp d g rs N s := by
  refine (commit_live x.live x.tab hr hb (by omega)).mono ?_
  rintro e w' ⟨he, hk, hlog, B', hx, _, hB⟩
  have hcd : commitD d g ls = (fitErr (L.cap N - g.used) s ls, d, g) := by
    rcases commit_did x.live.good (ls := ls) hb with ⟨_, e2⟩ | ⟨e1, _⟩
    · rw [x.size, x.secs] at e2; exact e2
    · rw [x.size, x.secs] at e1; exact absurd e1 hf
  rw [hcd] at he hlog hx
  have hsep : ¬ B' lp := fun hq => by rcases hB lp hq with h1 | h1; exact x.live.sep h1; have := x.live.log.lt; omega
  exact ⟨he, hk, B', hB, ⟨hx, hlog, hsep, x.live.good⟩, x.alive, x.secs, x.size, x.on hk, x.new, x.tab0, x.pos⟩
end
theorem fit_forty {cs : List Ch} {s free : Nat} (h : ∀ c ∈ cs, c.key.length ≤ 40 ∧ c.val.length ≤ 255) (hf : fitErr free s (cs.map St.rec) ≠ 0) : fitErr free s (cs.map St.rec) = 40 := by
  unfold fitErr at hf ⊢
  have hn : ¬ ∃ r ∈ cs.map St.rec, 1048576 < List.length r := by
    rintro ⟨r, hr, hl⟩
    obtain ⟨c, hc, rfl⟩ := List.mem_map.1 hr
    have h1 := h c hc
    have := St.rec_short (c := c) (by omega) (by omega)
    omega
  rw [if_neg hn] at hf ⊢
  split at hf
  · rename_i hh; rw [if_pos hh]
  · exact absurd rfl hf
/-- Ahead of the change and behind it, where the pairs come of a clone. -/
def CQ (S : List Nat) (wr : World) (T : Value → World → Prop) (L : Nat → Bool) (vs : Nat → Value) (w : World) : Prop :=
  Keeps S wr w ∧ (L 5 = false → Keeps [] wr w) ∧ (L 5 = true → T (vs 5) w) ∧ (L 6 = true → T (vs 6) w) ∧ (L 5 = true → L 4 = true) ∧ (L 6 = true → L 5 = true)
theorem CQ.lay {S : List Nat} {wr w w' : World} {T : Value → World → Prop} {L : Nat → Bool} {vs : Nat → Value} {i : Nat} {v : Value} (x : CQ S wr T L vs w) (h : i < 5) (hk : Keeps [] w w') (hT : ∀ v w1 w2, T v w1 → Keeps [] w1 w2 → T v w2) : CQ S wr T (Reg.lay L i) (Reg.upd vs i v) w' := by
  have e : ∀ j, 5 ≤ j → Reg.lay L i j = L j := fun j hj => lay_ne (by omega)
  have u : ∀ j, 5 ≤ j → Reg.upd vs i v j = vs j := fun j hj => by unfold Reg.upd; rw [if_neg (by omega)]
  obtain ⟨h1, h2, h3, h4, h6, h7⟩ := x
  unfold CQ
  rw [e 5 (by omega), e 6 (by omega), u 5 (by omega), u 6 (by omega)]
  exact ⟨h1.trans hk (by simp), fun hl => (h2 hl).trans hk (by simp), fun hl => hT _ _ _ (h3 hl) hk, fun hl => hT _ _ _ (h4 hl) hk, fun hl => lay_up (h6 hl), h7⟩
theorem CQ.five {S : List Nat} {wr w w' : World} {T : Value → World → Prop} {L : Nat → Bool} {vs : Nat → Value} {v : Value} (x : CQ S wr T L vs w) (h5 : L 5 = false) (h4 : L 4 = true) (hk : Keeps S w w') (h : T v w') : CQ S wr T (Reg.lay L 5) (Reg.upd vs 5 v) w' := by
  have h6 : L 6 = false := by cases h : L 6 with | false => rfl | true => rw [x.2.2.2.2.2 h] at h5; cases h5
  refine ⟨x.1.trans hk (fun _ h _ => h), fun hl => ?_, fun _ => by rw [show Reg.upd vs 5 v 5 = v by simp [Reg.upd]]; exact h, fun hl => ?_, fun _ => lay_up h4, fun hl => lay_eq⟩
  · rw [lay_eq] at hl; cases hl
  · rw [lay_ne (by decide), h6] at hl; cases hl
theorem CQ.six {S : List Nat} {wr w : World} {T : Value → World → Prop} {L : Nat → Bool} {vs : Nat → Value} (x : CQ S wr T L vs w) (h5 : L 5 = true) : CQ S wr T (Reg.lay L 6) (Reg.upd vs 6 (vs 5)) w := by
  have h := x.2.2.1 h5
  refine ⟨x.1, fun hl => ?_, fun _ => ?_, fun _ => ?_, fun _ => lay_up (x.2.2.2.2.1 h5), fun _ => lay_up h5⟩
  · rw [lay_ne (by decide), h5] at hl; cases hl
  · rw [show Reg.upd vs 6 (vs 5) 5 = vs 5 by simp [Reg.upd]]; exact h
  · rw [show Reg.upd vs 6 (vs 5) 6 = vs 5 by simp [Reg.upd]]; exact h
attribute [local go_sem] Reg.wantedV Reg.gives_value Reg.gives_skip Reg.gives_enter in
set_option maxRecDepth 100000 in
set_option maxHeartbeats 4000000 in
theorem apply_full (w : World) (S : List Nat) (sp mb lp : Nat) (l : As) (g : Nat) (A : Option Addr) (cs : List Ch) (cap : Nat) (F : World → Prop) (T0 T32 : As → World → Prop) (h : StAt w sp mb lp false l) (hp : PairsIn w g A cs) (hg : cs = [] ∨ (g ∉ S ∧ g ≠ mb)) (hS : ∀ x ∈ S, x < w.heap.size) (hgl : g < w.heap.size)
    (hs : ∀ c ∈ cs, c.size ≤ 1048512) (hl : cs.length ≤ 100000) (hll : l.length ≤ 900000) (hF : ∀ w1 w2, F w1 → Keeps [] w1 w2 → F w2)
    (k0 : ∀ xs w1 w2, T0 xs w1 → Keeps [] w1 w2 → T0 xs w2) (k32 : ∀ xs w1 w2, T32 xs w1 → Keeps [] w1 w2 → T32 xs w2) (km : ∀ xs w1 w2, T0 xs w1 → Keeps [mb] w1 w2 → T0 xs w2)
    (hadd : ∀ w', Keeps [] w w' → Calls Tryz.prog 35 #[.pointer (some ⟨sp, 1, none⟩), .slice A cs.length cap] w' fun e w2 => e = .returned (.int .i64 40) ∧ StAt w2 sp mb lp false l ∧ F w2 ∧ Keeps S w' w2)
    (hrep : ∀ w' A c b xs, StAt w' sp mb lp false l → F w' → List.Perm xs (St.apps l cs) → PairsIn w' b A (St.news xs) → Calls Tryz.prog 31 #[.pointer (some ⟨sp, 1, none⟩), .slice A (St.news xs).length c] w' fun e w2 => ∃ m : Nat, e = .returned (.int .i64 (m : Int)) ∧ DoneP sp mb lp l l (T0 xs) (T32 xs) m w2 ∧ Keeps S w' w2) :
    Calls Tryz.prog 14 #[.pointer (some ⟨sp, 0, none⟩), .slice A cs.length cap] w fun e w' => ∃ (m : Nat) (xs : As), e = .returned (.int .i64 (m : Int)) ∧ List.Perm xs (St.apps l cs) ∧ DoneP sp mb lp l (St.apps l cs) (T0 xs) (T32 xs) m w' ∧ Keeps (mb :: S) w w' := by
  have h2 := h.c2
  have HST := Lib.hid h
  have HP := Lib.hid hp
  have HG := Lib.hid hg
  have HS := Lib.hid hs
  have HA := Lib.hid hadd
  have HR := Lib.hid hrep
  have HF := Lib.hid hF
  have HK0 := Lib.hid (And.intro k0 k32)
  have HKM := Lib.hid km
  have HS0 := Lib.hid hS
  have HCO := Lib.hid (contains_no w g A cs cap hp hs (by omega))
  clear h hp hg hs hadd hrep hF k0 k32 km hS
  go_enter Tryz.func14, Tryz.ntmps14
  go_wp2_with fail
  refine HCO.out.mono ?_
  rintro e w1 ⟨rfl, hk1⟩
  have HADD := Lib.hid (HA.out w1 hk1)
  have HK1 := Lib.hid hk1
  clear hk1 h2
  go_wp2_with fail
  refine HADD.out.mono ?_
  rintro e w2 ⟨rfl, hst2, hf2, hk2⟩
  have HST2 := Lib.hid hst2
  have HF2 := Lib.hid hf2
  have HK2 := Lib.hid ((HK1.out.mono (T := S) (by simp)).trans hk2 (fun _ hi _ => hi))
  have hc0 := hst2.c0
  have HCL := Lib.hid (cclone_any w2 mb l hst2.map)
  clear hst2 hf2 hk2
  go_wp2_with fail
  refine HCL.out.mono ?_
  rintro e w3 ⟨rfl, hm3, hk3⟩
  have HM3 := Lib.hid hm3
  have HK3 := Lib.hid hk3
  clear hm3 hk3
  have hsz2 : w.heap.size ≤ w2.heap.size := HK2.out.size
  have HP3 := Lib.hid (show ∃ g', PairsIn w3 g' A cs ∧ g' ≠ w2.heap.size ∧ (cs = [] ∨ g' = g) from by
    rcases HG.out with h | ⟨h1, h2⟩
    · exact ⟨w2.heap.size + 1, .inl h, by omega, .inl h⟩
    · exact ⟨g, (HP.out.keep HK2.out h1).keep HK3.out (by simp), by omega, .inr rfl⟩)
  obtain ⟨g', hp3, hg3, _⟩ := HP3.out
  have HCH := Lib.hid (change_any' w3 w2.heap.size l HM3.out g' A cs cap hp3 hg3 HS.out hl (by omega))
  clear hp3 hg3
  go_wp2_with fail
  refine HCH.out.mono ?_
  rintro e w4 ⟨rfl, hm4, hk4⟩
  have HM4 := Lib.hid hm4
  have HK24 := Lib.hid (HK3.out.fresh hk4 (by simp))
  clear hm4 hk4
  go_wp2_with fail
  obtain ⟨T, hTd⟩ : ∃ T : Value → World → Prop, T = fun v w' => ∃ (m : Nat) (xs : As), v = .int .i64 (m : Int) ∧ List.Perm xs (St.apps l cs) ∧ DoneP sp mb lp l l (T0 xs) (T32 xs) m w' := ⟨_, rfl⟩
  have HTD := Lib.hid hTd
  have HT := Lib.hid (show ∀ v w1 w2, T v w1 → Keeps [] w1 w2 → T v w2 from by
    rw [hTd]
    rintro v w1 w2 ⟨m, xs, e1, e2, ⟨q1, q2, q3⟩ | ⟨q1, q2, q3⟩⟩ hk
    · exact ⟨m, xs, e1, e2, .inl ⟨q1, q2.keep0 hk, HK0.out.1 _ _ _ q3 hk⟩⟩
    · exact ⟨m, xs, e1, e2, .inr ⟨q1, q2.keep0 hk, HK0.out.2 _ _ _ q3 hk⟩⟩)
  have HLL := Lib.hid (show (St.apps l cs).length ≤ 1000000 by have := len_apps cs l; omega)
  have HW4 := Lib.hid (show w.heap.size ≤ w4.heap.size from Nat.le_trans hsz2 HK24.out.size)
  clear hTd
  refine Reg.wp_region_free (A := ?A) (CQ S w4 T) (GA S)
    [Is (.pointer (some ⟨sp, 0, none⟩)), Is (.pointer (some ⟨sp, 0, none⟩)), Is (.pointer (some ⟨sp, 1, none⟩)), Is (.map (some w2.heap.size)), PrF w.heap.size (St.apps l cs), fun _ _ => True, fun _ _ => True]
    (by kernel_rfl) (by kernel_rfl) rfl ?hA ?hC ?ho ?hlast ?hend
  case hA => intro vs; simp only [Reg.fill, if_true, Nat.zero_add, Nat.reduceAdd, Act.put, List.setIfInBounds_toArray, List.set_cons_succ, List.set_cons_zero]; exact rfl
  case hC => exact fun vs => ⟨(Keeps.refl _ _).drew, fun _ => (Keeps.refl _ _).drew, by simp, by simp, by simp, by simp⟩
  case hlast => repeat (first | exact trivial | refine ⟨Is.lastA, ?_⟩ | refine ⟨PrF.last HS0.out, ?_⟩ | refine ⟨fun _ _ _ _ _ => trivial, ?_⟩)
  case ho =>
    repeat' apply And.intro
    all_goals
      first
        | exact trivial
        | (intro L vs w' hC hL hd ha K hK
           try simp only [Reg.Deps, Reg.at_, List.getD_cons_zero, List.getD_cons_succ, Region.binds, true_implies, Is, and_true] at hd
           try simp only [Reg.Aw, Region.binds, true_implies, and_true] at ha
           go_simp
           first
             | exact hK _ _ (hC.lay (by decide) (Keeps.refl _ _) HT.out) (Keeps.refl _ _) rfl
             | skip)
    · have h5 : L 5 = false := by
        cases h : L 5 with
        | false => rfl
        | true => have := hC.2.2.2.2.1 h; rw [hL] at this; cases this
      have hsz := (hC.2.1 h5).size
      refine (sprs_any w' w2.heap.size (St.apps l cs) (HM4.out.keep (hC.2.1 h5) (by simp)) HLL.out).mono ?_
      rintro e w5 ⟨Ar, c, b, xs, rfl, hp, hpi, hb, hk⟩
      exact ⟨_, rfl, hK _ _ (hC.lay (by decide) hk HT.out) (hk.mono (by simp)) ⟨Ar, c, b, xs, rfl, hp, hpi, fun hne => Nat.le_trans (Nat.le_trans HW4.out hsz) (hb hne)⟩⟩
    · obtain ⟨-, ⟨Ar, c, b, xs, hv, hp, hpi, hb⟩, -⟩ := hd
      rw [hv]
      have hkk := HK24.out.trans (hC.2.1 hL) (by simp)
      refine (HR.out _ Ar c b xs (HST2.out.keep0 hkk) (HF.out _ _ HF2.out hkk) hp hpi).mono ?_
      rintro e w5 ⟨m, rfl, hr, hk⟩
      exact ⟨_, rfl, hK _ _ (hC.five hL ha.2.1 hk (by rw [HTD.out]; exact ⟨m, xs, rfl, hp, hr⟩)) hk trivial⟩
    · exact hK _ _ (hC.six ha.1) (Keeps.refl _ _) trivial
  case hend =>
    intro vs w5 hC hall
    have ht := hC.2.2.2.1 rfl
    rw [HTD.out] at ht
    obtain ⟨m, xs, hv, hp, hd⟩ := ht
    have HPM := Lib.hid hp
    have HK5 := Lib.hid (HK2.out.trans ((HK24.out.mono (T := S) (by simp)).trans hC.1 (fun _ hi _ => hi)) (fun _ hi _ => hi))
    have HV := Lib.hid hv
    clear hC hall hv hp
    rw [HV.out]
    rcases hd with ⟨rfl, hst, ht⟩ | ⟨rfl, hst, ht⟩
    · have c0 := hst.c0
      have HTT := Lib.hid ht
      have HST5 := Lib.hid hst
      have HP5 := Lib.hid (show ∃ g', PairsIn w5 g' A cs ∧ g' ≠ mb from by
        rcases HG.out with h | ⟨h1, h2⟩
        · exact ⟨mb + 1, .inl h, by omega⟩
        · exact ⟨g, HP.out.keep HK5.out h1, h2⟩)
      obtain ⟨g5, hp5, hg5⟩ := HP5.out
      have HCH5 := Lib.hid (change_any' w5 mb l hst.map g5 A cs cap hp5 hg5 HS.out hl (by omega))
      clear hst ht hp5
      go_wp2_with fail
      refine HCH5.out.mono ?_
      rintro e w6 ⟨rfl, hm6, hk6⟩
      have HM6 := Lib.hid hm6
      have HK6 := Lib.hid hk6
      clear hm6 hk6
      go_wp2_with fail
      go_ret
      exact ⟨0, xs, rfl, HPM.out, .inl ⟨rfl, ⟨block_keep HST5.out.box HK6.out (by simpa using HST5.out.ne), HM6.out⟩, HKM.out _ _ _ HTT.out HK6.out⟩, (HK5.out.mono (T := mb :: S) (fun i hi _ => by simp [hi])).trans HK6.out (fun i hi _ => by simp at hi ⊢; exact .inl hi)⟩
    · have HTT := Lib.hid ht
      have HST5 := Lib.hid hst
      clear hst ht
      go_wp2_with fail
      go_ret
      exact ⟨32, xs, rfl, HPM.out, .inr ⟨rfl, HST5.out, HTT.out⟩, HK5.out.mono (fun i hi _ => by simp [hi])⟩
end Go.Proofs.YtbanpdeganlndaaGreatDoor
namespace Go.Proofs.YtbanpdeganlndaaGreatDoor
open Go.RowKit
open St (Tx As Ch)

section
variable {w0 w w' : World} {h : DH} {B : Nat → Prop} {lp sp mb : Nat} {d : Dk} {g : Lg} {cs ds : List Ch} {l : As} {N s : Nat}
theorem SR.applyFull {gp : Nat} {A : Option Addr} (cap : Nat) (r : SR w0 w h B lp d g sp mb cs l N s) (hs0 : 0 < s) (hp : PairsIn w gp A ds) (hg : ds = [] ∨ gp ∉ mb :: sp :: lp :: h.l) (hgl : gp < w.heap.size) (hds : ∀ c ∈ ds, c.key.length ≤ 40 ∧ c.val.length ≤ 255) (hl : ds.length ≤ 1000) (hcl : cs.length ≤ 1000000) (hll : l.length ≤ 1000)
    (hf : fitErr (L.cap N - g.used) s (ds.map St.rec) ≠ 0) (hs : ∀ p ∈ St.apps l ds, p.1.length ≤ 40 ∧ p.2.length ≤ 255) (hfit : 9 + 308 * (St.apps l ds).length + s - 1 < (L.cap N + 1) * s) :
    Calls Tryz.prog 14 #[.pointer (some ⟨sp, 0, none⟩), .slice A ds.length cap] w fun e w' => ∃ (m : Nat) (xs : As), e = .returned (.int .i64 (m : Int)) ∧ List.Perm xs (St.apps l ds) ∧ Keeps (mb :: sp :: lp :: h.l) w w' ∧
      SOut w0 w' h lp d (1 - g.area) (L.nsec ((St.news xs).map St.rec) s) sp mb cs (St.news xs) l (St.apps l ds) N s m := by
  have hsl := r.sep.2.2.1
  have hml := r.sep.2.2.2
  have hspl : sp ∉ h.l := fun hm => hsl (by simp [hm])
  have hmpl : mb ∉ h.l := fun hm => hml (by simp [hm])
  have hall : (St.apps l ds).length ≤ 2000 := by have := len_apps ds l; omega
  obtain ⟨F, hFd⟩ : ∃ F : World → Prop, F = fun w' => ∃ B', GR w0 w' h B' lp d g (cs.map St.rec) N s ∧ ¬ B' sp ∧ ¬ B' mb := ⟨_, rfl⟩
  obtain ⟨T0, hT0⟩ : ∃ T : As → World → Prop, T = fun xs w' => ∃ B' d', (Lit_ d → Lit_ d') ∧ GR w0 w' h B' lp d' ⟨1 - g.area, L.nsec ((St.news xs).map St.rec) s, (St.news xs).length, true⟩ ((St.news xs).map St.rec) N s ∧ ¬ B' sp ∧ ¬ B' mb := ⟨_, rfl⟩
  obtain ⟨T32, hT32⟩ : ∃ T : As → World → Prop, T = fun xs w' => ¬ Lit_ d ∧ ∃ B' d', d'.dead = true ∧ GD w0 w' h B' d' (cs.map St.rec) ((St.news xs).map St.rec) N s ∧ ¬ B' sp ∧ ¬ B' mb := ⟨_, rfl⟩
  have kF : ∀ w1 w2, F w1 → Keeps [] w1 w2 → F w2 := by
    intro w1 w2 h1 hk
    rw [hFd] at h1 ⊢
    obtain ⟨B', q1, q2⟩ := h1
    exact ⟨B', q1.step hk, q2⟩
  have k0 : ∀ xs w1 w2, T0 xs w1 → Keeps [] w1 w2 → T0 xs w2 := by
    intro xs w1 w2 h1 hk
    rw [hT0] at h1 ⊢
    obtain ⟨B', d', q1, q2, q3⟩ := h1
    exact ⟨B', d', q1, q2.step hk, q3⟩
  have k32 : ∀ xs w1 w2, T32 xs w1 → Keeps [] w1 w2 → T32 xs w2 := by
    intro xs w1 w2 h1 hk
    rw [hT32] at h1 ⊢
    obtain ⟨q0, B', d', q1, q2, q3⟩ := h1
    exact ⟨q0, B', d', q1, q2.beside hk (by simp), q3⟩
  have km : ∀ xs w1 w2, T0 xs w1 → Keeps [mb] w1 w2 → T0 xs w2 := by
    intro xs w1 w2 h1 hk
    rw [hT0] at h1 ⊢
    obtain ⟨B', d', q1, q2, q3, q4⟩ := h1
    exact ⟨B', d', q1, q2.beside hk hml q4 r.new.2, q3, q4⟩
  have hbody := body_recs hds (by omega)
  have hbl : (L.body (ds.map St.rec)).length < 4294967296 := by have := Nat.mul_le_mul_left 308 hl; omega
  have hcsz : ∀ c ∈ ds, c.size ≤ 1048512 := fun c hc => by have := hds c hc; unfold St.Ch.size; omega
  refine (apply_full w (sp :: lp :: h.l) sp mb lp l gp A ds cap F T0 T32 r.st hp (hg.imp id (fun hn => ⟨fun hm => hn (by simp [hm]), fun e => hn (by simp [e])⟩)) (fun x hx => r.low x (by simp at hx ⊢; exact .inr hx)) hgl hcsz (by omega) (by omega) kF k0 k32 km ?_ ?_).mono ?_
  · intro wa hka
    refine (add_gen wa (sp :: lp :: h.l) sp mb lp ds.length cap false l A (ds.map St.rec)
      (fun m w2 => m = 40 ∧ StAt w2 sp mb lp false l ∧ F w2) (fun m w2 => m = 40 ∧ StAt w2 sp mb lp false l ∧ F w2) (r.st.keep0 hka) (fun x hx => Nat.lt_of_lt_of_le (r.low x (by simp at hx ⊢; exact .inr hx)) hka.size) ?_ ?_ (.inr (by simp)) ?_ ?_ ?_).mono ?_
    · rintro m w1 w2 ⟨q1, q2, q3⟩ hk
      exact ⟨q1, q2.keep0 hk, kF _ _ q3 hk⟩
    · rintro m w1 w2 ⟨q1, q2, q3⟩ hk
      exact ⟨q1, q2.keep0 hk, kF _ _ q3 hk⟩
    · intro wb hkb
      refine (records_any wb gp A ds cap ((hp.keep hka (by simp)).keep hkb (by simp)) hcsz (by omega)).mono ?_
      rintro e w2 ⟨v, rfl, ho, hk⟩
      obtain ⟨Ar, c, rfl, hrow⟩ := ho.fits
      exact ⟨Ar, c, by rw [List.length_map], hrow.keep (Keeps.refl [] _) (by simp) (fun x hx => Nat.le_trans hkb.size hx), hk⟩
    · intro wb Ar c hkb hrow
      have hkk := hka.trans hkb (by simp)
      have hc := (r.gr.step hkk).commit_no c hrow hbl hf (by simpa using hcl)
      rw [List.length_map, fit_forty hds hf] at hc
      refine hc.mono ?_
      rintro e w2 ⟨rfl, hk, B', hB, ho⟩
      have hst2 : StAt w2 sp mb lp false l := (r.st.keep0 hkk).keep hk hsl hml
      have hBsp : ¬ B' sp := fun hq => by rcases hB sp hq with h1 | h1; exact r.sep.1 h1; have := r.st.lt.1; have := hkk.size; omega
      have hBmb : ¬ B' mb := fun hq => by rcases hB mb hq with h1 | h1; exact r.sep.2.1 h1; have := r.st.lt.2; have := hkk.size; omega
      exact ⟨40, rfl, ⟨rfl, hst2, by rw [hFd]; exact ⟨B', ho, hBsp, hBmb⟩⟩, hk.mono (fun i hi _ => by simp at hi ⊢; exact .inr hi)⟩
    · rintro wb m ⟨rfl, q2, q3⟩
      refine (told_no wb sp 40 (by omega) (by omega)).mono ?_
      rintro e w2 ⟨rfl, rfl⟩
      exact ⟨rfl, ⟨rfl, q2, q3⟩, Keeps.refl _ _⟩
    · rintro e w2 ⟨m, rfl, ⟨rfl, q2, q3⟩, hk⟩
      exact ⟨rfl, q2, q3, hk⟩
  · intro wa A2 cap2 gp2 xs hst hF hpm hpi
    rw [hFd] at hF
    obtain ⟨B1, hgr, hBs, hBm⟩ := hF
    have hnl : (St.news xs).length ≤ 2000 := by rw [news_len, hpm.length_eq]; exact hall
    have hns := news_small hpm hs
    refine (replace_gen wa (sp :: lp :: h.l) sp mb lp (St.news xs).length cap2 false l A2 ((St.news xs).map St.rec)
      (fun m w2 => (m = 0 ∧ StAt w2 sp mb lp false l ∧ T0 xs w2) ∨ (m = 32 ∧ StAt w2 sp mb lp false l ∧ T32 xs w2)) (fun m w2 => DoneP sp mb lp l l (T0 xs) (T32 xs) m w2) hst (fun x hx => by
        rcases List.mem_cons.1 hx with rfl | hx
        · exact hst.lt.1
        · exact hgr.low x hx) ?_ ?_ (.inr (by simp)) ?_ ?_ ?_).mono ?_
    · rintro m w1 w2 (⟨q1, q2, q3⟩ | ⟨q1, q2, q3⟩) hk
      · exact .inl ⟨q1, q2.keep0 hk, k0 _ _ _ q3 hk⟩
      · exact .inr ⟨q1, q2.keep0 hk, k32 _ _ _ q3 hk⟩
    · rintro m w1 w2 (⟨q1, q2, q3⟩ | ⟨q1, q2, q3⟩) hk
      · exact .inl ⟨q1, q2.keep0 hk, k0 _ _ _ q3 hk⟩
      · exact .inr ⟨q1, q2.keep0 hk, k32 _ _ _ q3 hk⟩
    · intro wb hkb
      refine (records_any wb gp2 A2 (St.news xs) cap2 (hpi.keep hkb (by simp)) (fun c hc => by have := hns c hc; unfold St.Ch.size; omega) (by omega)).mono ?_
      rintro e w2 ⟨v, rfl, ho, hk⟩
      obtain ⟨Ar, c, rfl, hrow⟩ := ho.fits
      exact ⟨Ar, c, by rw [List.length_map], hrow.keep (Keeps.refl [] _) (by simp) (fun x hx => Nat.le_trans hkb.size hx), hk⟩
    · intro wb Ar c hkk hrow
      have hbody2 : (L.body ((St.news xs).map St.rec)).length ≤ 308 * (St.news xs).length := by
        have hr : ∀ r ∈ (St.news xs).map St.rec, List.length r ≤ 304 := fun r hr => by
          obtain ⟨c, hc, rfl⟩ := List.mem_map.1 hr
          have h1 := hns c hc
          have := St.rec_short (c := c) (by omega) (by omega)
          omega
        have hb := body_small hr
        rw [List.length_map] at hb
        exact hb
      have hc := (hgr.step hkk).reset c hrow (by have := Nat.mul_le_mul_left 308 hnl; omega) (fit_recs (k := (St.apps l ds).length) hs0 hns (by rw [news_len, hpm.length_eq]; exact Nat.le_refl _) hfit)
      rw [List.length_map] at hc
      refine hc.mono ?_
      rintro e w2 ⟨m, rfl, hk, B', d', hB, ho⟩
      have hst2 : StAt w2 sp mb lp false l := (hst.keep0 hkk).keep hk hsl hml
      have hBsp : ¬ B' sp := fun hq => by rcases hB sp hq with h1 | h1; exact hBs h1; have := hst.lt.1; have := hkk.size; omega
      have hBmb : ¬ B' mb := fun hq => by rcases hB mb hq with h1 | h1; exact hBm h1; have := hst.lt.2; have := hkk.size; omega
      refine ⟨m, rfl, ?_, hk.mono (fun i hi _ => by simp at hi ⊢; exact .inr hi)⟩
      rcases ho with ⟨q1, q2, q3⟩ | ⟨q1, q2, q3, q4⟩
      · refine .inl ⟨q1, hst2, ?_⟩
        rw [hT0]
        exact ⟨B', d', q2, by simpa using q3, hBsp, hBmb⟩
      · refine .inr ⟨q1, hst2, ?_⟩
        rw [hT32]
        exact ⟨q2, B', d', q3, q4, hBsp, hBmb⟩
    · rintro wb m (⟨rfl, q2, q3⟩ | ⟨rfl, q2, q3⟩)
      · refine (told_no wb sp 0 (by omega) (by omega)).mono ?_
        rintro e w2 ⟨rfl, rfl⟩
        exact ⟨rfl, .inl ⟨rfl, q2, q3⟩, Keeps.refl _ _⟩
      · refine (told_yes wb sp mb lp false l q2).mono ?_
        rintro e w2 ⟨rfl, rfl⟩
        have hk1 : Keeps [sp] wb (wb.setCell ⟨sp, 2, none⟩ (.bool true)) := (Keeps.refl _ _).setCell (by simp) _
        refine ⟨rfl, .inr ⟨rfl, q2.downs, ?_⟩, hk1.mono (fun i hi _ => by simp at hi ⊢; exact .inl hi)⟩
        rw [hT32] at q3 ⊢
        obtain ⟨p0, B', d', p1, p2, p3, p4⟩ := q3
        exact ⟨p0, B', d', p1, p2.beside hk1 (fun y hy => by
          obtain rfl : y = sp := by simpa using hy
          exact ⟨hspl, p3, r.new.1⟩), p3, p4⟩
    · rintro e w2 ⟨m, rfl, hd, hk⟩
      exact ⟨m, rfl, hd, hk⟩
  · rintro e w2 ⟨m, xs, rfl, hpm, hd, hk⟩
    refine ⟨m, xs, rfl, hpm, hk, ?_⟩
    have hkx : St.Keyed ([] ++ xs) := St.keyed_perm (St.keyed_apps r.keyed ds) hpm.symm
    have hperm : (St.apps l ds).Perm (St.apps [] (St.news xs)) := hpm.symm.trans (by simpa using (St.apps_news hkx).symm)
    rcases hd with ⟨q1, q2, q3⟩ | ⟨q1, q2, q3⟩
    · rw [hT0] at q3
      obtain ⟨B', d', p1, p2, p3, p4⟩ := q3
      exact .inl ⟨q1, B', d', p1, p2, q2, hperm, r.new, p3, p4, hsl, hml⟩
    · rw [hT32] at q3
      obtain ⟨p0, B', d', p1, p2, p3, p4⟩ := q3
      exact .inr ⟨q1, p0, B', d', p1, p2, q2, r.eq, r.new, p3, p4, hspl, hmpl⟩
end
end Go.Proofs.YtbanpdeganlndaaGreatDoor
namespace Go.Proofs.YtbanpdeganlndaaGreatDoor
open Go.RowKit
open Reg (Is Fact)
open St (Tx As Ch)

/-- Between two changes. -/
structure RI (w wr : World) (h : DH) (mm i sp mb lp : Nat) (B : Nat → Prop) (d : Dk) (g : Lg) (cs : List Ch) (l m : As) : Prop where
  sr : SR w wr h B lp d g sp mb cs l 200 256
  lit : Lit_ d
  map : MapAt wr mm ES m
  same : l.Perm m
  ne : mb ≠ mm
  small : Small l
  sz : ∀ c ∈ cs, c.size ≤ 258
  len : cs.length ≤ 7 + i
section
variable {w wr : World} {h : DH} {mm i sp mb lp : Nat} {B : Nat → Prop} {d : Dk} {g : Lg} {cs : List Ch} {l m : As}
theorem RI.step (x : RI w wr h mm i sp mb lp B d g cs l m) {w' : World} (hk : Keeps [] wr w') : RI w w' h mm i sp mb lp B d g cs l m :=
  ⟨x.sr.step hk, x.lit, x.map.keep hk (by simp), x.same, x.ne, x.small, x.sz, x.len⟩
theorem RI.alike (x : RI w wr h mm i sp mb lp B d g cs l m) : Calls Tryz.prog 16 #[.pointer (some ⟨sp, 0, none⟩), .map (some mm)] wr fun e w' => e = .returned (.bool true) ∧ Keeps [] wr w' := by
  obtain ⟨f1, f2, f3⟩ := x.small.facts x.sr.keyed
  obtain ⟨g1, g2, g3⟩ := (x.small.perm x.same).facts (St.keyed_perm x.sr.keyed x.same)
  have := alike_any wr sp mb lp mm false l m x.sr.st x.map f3 g3 f2 (by omega) g2
  rw [same_perm x.sr.keyed x.same] at this
  exact this
theorem RI.opens (x : RI w wr h mm i sp mb lp B d g cs l m) (hmh : mm ∉ h.l) (hi : i ≤ 1000) : Calls Tryz.prog 12 #[.pointer (some ⟨h.p, 0, none⟩)] wr fun e w' => ∃ sp' mb' lp' B' d' g', e = .returned (.tuple #[.pointer (some ⟨sp', 0, none⟩), .int .i64 0]) ∧ RI w w' h mm i sp' mb' lp' B' d' g' cs (St.apps [] cs) m := by
  refine (x.sr.opens x.lit (fun c hc => by have := x.sz c hc; omega) (by have := x.len; omega)).mono ?_
  rintro e w' ⟨sp', mb', lp', B', d', g', rfl, hl, hu, hr, hk, h1, h2⟩
  have hmlt := x.map.lt
  exact ⟨sp', mb', lp', B', d', g', rfl, hr, hl, x.map.keep hk hmh, x.sr.eq.symm.trans x.same, by omega, x.small.perm x.sr.eq, x.sz, x.len⟩
theorem RI.change (x : RI w wr h mm i sp mb lp B d g cs l m) (hmh : mm ∉ h.l) (hw : w.heap.size ≤ mm) (hi : i ≤ 1000) {gp : Nat} {A : Option Addr} {k v : Tx} (hk : k ∈ St.ks) (hv : v.length ≤ 255) (hp : PairsIn wr gp A [⟨k, v, false⟩]) (hg : gp ∉ mb :: sp :: lp :: h.l) (hgl : gp < wr.heap.size) :
    Calls Tryz.prog 14 #[.pointer (some ⟨sp, 0, none⟩), .slice A 1 1] wr fun e w' => e = .returned (.int .i64 0) ∧ MapAt w' mm ES m ∧
      ∀ w2, Keeps [mm] w' w2 → MapAt w2 mm ES (St.put m k v) → ∃ B2 d2 g2 cs2, RI w w2 h mm (i + 1) sp mb lp B2 d2 g2 cs2 (St.put l k v) (St.put m k v) := by
  obtain ⟨hap, _⟩ := x.sr.apart x.map x.ne hmh
  obtain ⟨f1, f2, f3⟩ := x.small.facts x.sr.keyed
  have hk3 := St.ks_len _ hk
  have hsm2 : Small (St.put l k v) := x.small.app (c := ⟨k, v, false⟩) ⟨hk, hv⟩
  have hky2 : St.Keyed (St.put l k v) := St.keyed_put x.sr.keyed k v
  obtain ⟨e1, e2, e3⟩ := hsm2.facts hky2
  have hds : ∀ c ∈ ([⟨k, v, false⟩] : List Ch), c.key.length ≤ 40 ∧ c.val.length ≤ 255 := fun c hc => by
    obtain rfl := List.mem_singleton.1 hc
    exact ⟨by show k.length ≤ 40; omega, hv⟩
  have hsz : ∀ c ∈ ([⟨k, v, false⟩] : List Ch), c.size ≤ 258 := fun c hc => by
    obtain rfl := List.mem_singleton.1 hc
    show k.length + v.length ≤ 258
    omega
  have hrest : ∀ w' B' d' g' cs', SR w w' h B' lp d' g' sp mb cs' (St.put l k v) 200 256 → Lit_ d' → (∀ c ∈ cs', c.size ≤ 258) → cs'.length ≤ 7 + (i + 1) → MapAt w' mm ES m →
      ∀ w2, Keeps [mm] w' w2 → MapAt w2 mm ES (St.put m k v) → ∃ B2 d2 g2 cs2, RI w w2 h mm (i + 1) sp mb lp B2 d2 g2 cs2 (St.put l k v) (St.put m k v) := by
    intro w' B' d' g' cs' hr hl hz hn hm w2 hk2 hm2
    obtain ⟨hap', hr'⟩ := hr.apart hm x.ne hmh
    exact ⟨_, d', g', cs', hr'.beside hk2 hap' (fun hq => hq.2 rfl) hw, hl, hm2, St.app_perm x.same ⟨k, v, false⟩, x.ne, hsm2, hz, hn⟩
  have hlen := x.len
  by_cases hf : fitErr (L.cap 200 - g.used) 256 (([⟨k, v, false⟩] : List Ch).map St.rec) = 0
  · refine (x.sr.apply 1 hp (.inr hg) (fun c hc => by have := hsz c hc; omega) (by simp) (by omega) (by omega) (by have := body_recs hds (by simp); simp at this ⊢; omega) hf).mono ?_
    rintro e w' ⟨n, rfl, hkk, ho⟩
    obtain ⟨rfl, B', d', hl, hr'⟩ := ho.lit x.lit
    have hm' := x.map.keep hkk hap
    refine ⟨rfl, hm', hrest w' B' d' _ _ hr' hl (fun c hc => ?_) (by simp; omega) hm'⟩
    rcases List.mem_append.1 hc with hc | hc
    · exact x.sz c hc
    · exact hsz c hc
  · refine (x.sr.applyFull 1 (by omega) hp (.inr hg) hgl hds (by simp) (by omega) (by omega) hf (fun p hp => ⟨by have := St.ks_len _ (hsm2 p hp).1; omega, (hsm2 p hp).2⟩) (by rw [scap200]; show 9 + 308 * (St.put l k v).length + 256 - 1 < _; omega)).mono ?_
    rintro e w' ⟨n, xs, rfl, hpm, hkk, ho⟩
    obtain ⟨rfl, B', d', hl, hr'⟩ := ho.lit x.lit
    have hm' := x.map.keep hkk hap
    have hxl : (St.news xs).length ≤ 7 := by rw [news_len, hpm.length_eq]; exact e1
    refine ⟨rfl, hm', hrest w' B' d' _ _ hr' hl (fun c hc => ?_) (by omega) hm'⟩
    obtain ⟨p, hpp, rfl⟩ := List.mem_map.1 hc
    have h1 := hsm2 p (hpm.mem_iff.1 hpp)
    have := St.ks_len _ h1.1
    show p.1.length + p.2.length ≤ 258
    omega
end
end Go.Proofs.YtbanpdeganlndaaGreatDoor
