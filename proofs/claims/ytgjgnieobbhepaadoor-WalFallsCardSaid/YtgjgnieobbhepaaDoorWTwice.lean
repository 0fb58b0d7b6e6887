/- WalTwice. -/
import Derived.Test.YtgjgnieobbhepaaDoorWApp
namespace Go.Proofs.YtgjgnieobbhepaaDoor
open Go.RowKit
open Reg (Is Fact CB)

theorem cap120 : L.cap 120 = 58 := by decide
theorem loads_eq {N s a u : Nat} {v v' : Nat → List UInt8} {rs : List (List UInt8)} (h : L.Loads N s v a u rs) (e : v' = v) : L.Loads N s v' a u rs := by rw [e]; exact h
/-- Good goes on under a scheduled failure. -/
theorem Good.cut {d : Dk} {g : Lg} {rs : List (List UInt8)} (h : Good d g rs) (n : Nat) (hn : n ≤ 1000) : Good (d.cutIn n) g rs := by
  obtain ⟨h1, h2, h3, h4, h5⟩ := cutIn_facts h.ok n hn
  exact ⟨h1, by rw [h3]; exact h.secs, by rw [h4]; exact h.size, fun i => by rw [h5]; exact h.flat i, by rw [h2, h3, h4]; exact h.loads, fun e => by rw [h2, h3, h4]; exact h.sure e, h.count⟩
/-- What a change of a log may have left, before a crash. -/
def Mid (d : Dk) (N s : Nat) (P : (Nat → List UInt8) → Prop) : Prop := d.Ok ∧ d.dur.length = N ∧ d.size = s ∧ ∀ v, L.Mix d v → P v
theorem Mid.crash {d : Dk} {N s : Nat} {P : (Nat → List UInt8) → Prop} (h : Mid d N s P) (keep : Nat) : P (d.crash keep).last := h.2.2.2 _ (L.mix_crash h.1 keep)
theorem mid_flat {d : Dk} {N s : Nat} {P : (Nat → List UInt8) → Prop} (ok : d.Ok) (hN : d.dur.length = N) (hs : d.size = s) (hf : ∀ i, d.fr i = none) (hp : P d.last) : Mid d N s P := ⟨ok, hN, hs, fun v hv => by
  have e : v = d.last := by
    funext i
    rcases hv i with h | h
    · rw [h, L.last_none (hf i)]
    · rw [hf i] at h; cases h
  rw [e]; exact hp⟩
/-- A commit that fits, whatever the power: it is done, or power went and all or none of it is there. -/
theorem commit_mid {d : Dk} {g : Lg} {rs ls : List (List UInt8)} (h : Good d g rs) (hb : (L.body ls).length < 4294967296) (hf : fitErr (L.cap d.dur.length - g.used) d.size ls = 0) :
    ((commitD d g ls).1 = 0 ∧ Mid (commitD d g ls).2.1 d.dur.length d.size (fun v => ∃ a u, L.Loads d.dur.length d.size v a u (rs ++ ls))) ∨
    ((commitD d g ls).1 = 32 ∧ Mid (commitD d g ls).2.1 d.dur.length d.size (fun v => (∃ a u, L.Loads d.dur.length d.size v a u rs) ∨ ∃ a u, L.Loads d.dur.length d.size v a u (rs ++ ls))) := by
  rcases commit_did h hb (ls := ls) with ⟨e1, _⟩ | ⟨_, e2⟩
  · exact absurd hf e1
  · rcases e2 with ⟨n0, F, _, _, G⟩ | ⟨n0, G⟩
    · exact .inl ⟨n0, mid_flat F.ok F.len F.size F.fr ⟨_, _, by have := G.loads; rw [F.len, F.size] at this; exact this⟩⟩
    · exact .inr ⟨n0, G.ok, G.len, G.size, fun v hv => by
        rcases G.safe v hv with h | h
        · exact .inl ⟨_, _, h⟩
        · exact .inr ⟨_, _, h⟩⟩
/-- Open, whatever the power. -/
theorem open_some {w : World} {h : DH} {B : Nat → Prop} {d : Dk} (x : DskAt w h B d) (ht : TabAt w) (hh0 : 0 ∉ h.l) (hN : 16 ≤ d.dur.length) (hs : 128 ≤ d.size) :
    Calls Tryd.prog 13 #[.pointer (some ⟨h.p, 0, none⟩)] w fun e w' => ∃ p v n, e = .returned (.tuple #[p, v, .int .i64 n]) ∧ DskAt w' h B d.flush ∧ Keeps h.l w w' := by
  refine (open_any w h B d x ht x.low hh0).mono ?_
  intro e w' ho
  unfold OpenP at ho
  rw [if_neg (by omega)] at ho
  split at ho
  · obtain ⟨rfl, h1, h2⟩ := ho
    exact ⟨_, _, _, rfl, h1, h2⟩
  · obtain ⟨lp, a, u, rs, v, rfl, h1, _, _, _, _, h2⟩ := ho
    exact ⟨_, _, _, rfl, h1, h2⟩
set_option maxRecDepth 100000 in
set_option maxHeartbeats 2000000 in
theorem twice_any (w : World) (ht : TabAt w) (hw : 0 < w.heap.size) (g1 cap1 g2 cap2 cut again keep more : Nat) (A1 A2 : Option Addr) (l1 l2 : List UInt8) (hr1 : BytesIn w g1 A1 l1) (hr2 : BytesIn w g2 A2 l2) (hc : cut < 256) (ha : again < 256) (hkp : keep < 18446744073709551616) (hmo : more < 18446744073709551616) :
    Calls Tryd.prog 5 #[.slice A1 l1.length cap1, .slice A2 l2.length cap2, .int .u8 (cut : Int), .int .u8 (again : Int), .int .u64 (keep : Int), .int .u64 (more : Int)] w fun e w' => e = .returned (.bool true) ∧ Keeps [] w w' := by
  have HT := Lib.hid ht
  have HR1 := Lib.hid hr1
  have HR2 := Lib.hid hr2
  have HKP := Lib.hid hkp
  have HMO := Lib.hid hmo
  have HKN := Lib.hid (known_any w ht hw)
  clear ht hr1 hr2 hkp hmo
  by_cases hl : l1.length ≤ 6
  · have e1 : decide ((6 : Int) < (l1.length : Int)) = false := by simp; omega
    by_cases hp : l2.length ≤ 6
    · have e2 : decide ((6 : Int) < (l2.length : Int)) = false := by simp; omega
      go_enter Tryd.func5, Tryd.ntmps5
      go_wp2_with fail
      refine HKN.out.mono ?_
      rintro e w1 ⟨rfl, hk1⟩
      have HK1 := Lib.hid hk1
      have HN1 := Lib.hid (newD_any w1 120 256 (by omega) (by omega))
      clear hk1
      go_wp2_with fail
      refine HN1.out.mono ?_
      intro e w2 hnew
      obtain ⟨h, B, rfl, ho⟩ := run_new HK1.out HT.out hw hnew (by omega) (by omega)
      have HO := Lib.hid ho
      clear hnew ho
      go_wp2_with fail
      refine HO.out.mono ?_
      rintro e w3 ⟨lp, A3, c3, d3, rfl, hd3, hs3, hrun⟩
      have HB := Lib.hid (batch_any w3 g1 cap1 1 A1 l1 (HR1.out.keep hrun.keeps (by simp)) (by omega) (by omega))
      have HRU3 := Lib.hid hrun
      have HD3 := Lib.hid hd3
      have HS3 := Lib.hid hs3
      have HLOW := Lib.hid hrun.low
      obtain ⟨W, hW⟩ : ∃ W, W = w3.heap.size := ⟨_, rfl⟩
      rw [← hW] at HLOW
      clear hrun hd3 hs3
      go_wp2_with fail
      refine HB.out.mono ?_
      rintro e w4 ⟨v4, x1, rfl, hrl1, hrs1, hro1, hk4⟩
      obtain ⟨Ax, cx, rfl, hnx, hrx, _⟩ := hro1.form
      have HRU4 := Lib.hid (HRU3.out.step hk4)
      have HBY := Lib.hid (batch_any w4 g2 cap2 2 A2 l2 (HR2.out.keep HRU4.out.keeps (by simp)) (by omega) (by omega))
      rw [← hW] at hrx
      have HRX := Lib.hid hrx
      have HNX := Lib.hid hnx
      have HL1 := Lib.hid hrl1
      have HS1 := Lib.hid hrs1
      have HW4 := Lib.hid (show W ≤ w4.heap.size by rw [hW]; exact hk4.size)
      clear hrl1 hrs1 hro1 hk4 hrx hnx hW
      go_wp2_with fail
      refine HBY.out.mono ?_
      rintro e w5 ⟨v5, x2, rfl, hrl2, hrs2, hro2, hk5⟩
      obtain ⟨Ay, cy, rfl, hny, hry, _⟩ := hro2.form
      have HRU5 := Lib.hid (HRU4.out.step hk5)
      have HRX5 := Lib.hid (HRX.out.keep hk5 (G' := fun x => W ≤ x) (by simp) (fun _ h => h))
      have HRY5 := Lib.hid (hry.keep (Keeps.refl [] w5) (G' := fun x => W ≤ x) (by simp) (fun x hx => by have := HW4.out; omega))
      have HNY := Lib.hid hny
      have HW5 := Lib.hid (show W ≤ w5.heap.size from Nat.le_trans HW4.out hk5.size)
      have HL2 := Lib.hid hrl2
      have HS2 := Lib.hid hrs2
      have hb1 := body_small HS1.out
      have hb2 := body_small hrs2
      have HB1 := Lib.hid (show (L.body x1).length < 4294967296 by have := HL1.out; omega)
      have HB2 := Lib.hid (show (L.body x2).length < 4294967296 by omega)
      have HC5 := Lib.hid (commit_go cx HRU5.out.live HRU5.out.lit HRU5.out.tab HRX5.out HB1.out (by simp))
      have HF5 := Lib.hid (show fitErr (L.cap d3.dur.length - 0) d3.size x1 = 0 by rw [HD3.out, HS3.out, cap120]; exact fit_small (k := 6) (by omega) HS1.out (by have := HL1.out; omega) (by decide))
      have HU5 := Lib.hid (show L.nsec x1 256 ≤ 8 by have := L.nsec_bound (rs := x1) (s := 256) (by omega); have := HL1.out; omega)
      clear hrl2 hrs2 hro2 hk5 hry hny hb1 hb2
      go_wp2_with fail
      refine HC5.out.mono ?_
      intro e w6 hcm
      obtain ⟨B6, d6, rfl, hk6, hd6, hs6, hrun⟩ := HRU5.out.cyes hcm HF5.out
      have hD6 := hd6.trans HD3.out
      have hS6 := hs6.trans HS3.out
      obtain ⟨g6, hg6⟩ : ∃ g6 : Lg, Run w w6 h B6 lp d6 g6 x1 ∧ g6.used ≤ 8 := by
        have r := hrun
        rw [List.nil_append, HS3.out] at r
        exact ⟨_, r, by simp only [Nat.zero_add]; exact HU5.out⟩
      have HRU6 := Lib.hid hg6.1
      have HG6 := Lib.hid hg6.2
      have HW6 := Lib.hid (show W ≤ w6.heap.size from Nat.le_trans HW5.out hk6.size)
      have HD6 := Lib.hid hD6
      have HS6 := Lib.hid hS6
      have HRX6 := Lib.hid (HRX5.out.keep hk6 (G' := fun x => W ≤ x) (fun x hx => by have := HLOW.out x hx; omega) (fun _ h => h))
      have HRY6 := Lib.hid (HRY5.out.keep hk6 (G' := fun x => W ≤ x) (fun x hx => by have := HLOW.out x hx; omega) (fun _ h => h))
      obtain ⟨c, hcc⟩ : ∃ c, c = cut % 12 := ⟨_, rfl⟩
      have ec : (cut : Int) % 12 = (c : Int) := by omega
      have hc12 : c < 12 := by omega
      have HCU := Lib.hid (cut_any w6 h B6 d6 HRU6.out.live.disk (c : Int) (by unfold Wide; omega))
      clear hcm hk6 hd6 hs6 hrun hD6 hS6 hg6 hcc
      go_wp2_with fail
      refine HCU.out.mono ?_
      rintro e w7 ⟨rfl, hx7, hk7⟩
      have hpl : ∀ y ∈ [h.p], y ∈ lp :: h.l := by simp [DH.l]
      have hk7' : Keeps (lp :: h.l) w6 w7 := hk7.mono (fun y hy _ => hpl y hy)
      have HG7 := Lib.hid (HRU6.out.live.good.cut c (by omega))
      have HL7 := Lib.hid (show Live w7 h B6 lp (d6.cutIn c) g6 x1 from ⟨hx7, HRU6.out.live.log.keep hk7 (by simpa using (HRU6.out.live.log.ne HRU6.out.live.disk).1), HRU6.out.live.sep, HG7.out⟩)
      have HK7 := Lib.hid hk7'
      have HRY7 := Lib.hid (HRY6.out.keep hk7' (G' := fun x => W ≤ x) (fun x hx => by have := HLOW.out x hx; omega) (fun _ h => h))
      have HCY := Lib.hid (commit_live (cap := cy) HL7.out (HT.out.keep (HRU6.out.on hk7') (by simp)) HRY7.out HB2.out (by have := HL1.out; omega))
      have HMID := Lib.hid (commit_mid (ls := x2) HG7.out HB2.out (by
        rw [show (d6.cutIn c).dur.length = 120 from HD6.out, show (d6.cutIn c).size = 256 from HS6.out, cap120]
        have h6 := HG6.out
        have h9 : 51 * 256 ≤ (58 - g6.used + 1) * 256 := Nat.mul_le_mul_right _ (by omega)
        exact fit_small (k := 6) (by omega) HS2.out (by have := HL2.out; omega) (by omega)))
      rw [show (d6.cutIn c).dur.length = 120 from HD6.out, show (d6.cutIn c).size = 256 from HS6.out] at HMID
      obtain ⟨r, hr⟩ : ∃ r, r = commitD (d6.cutIn c) g6 x2 := ⟨_, rfl⟩
      rw [← hr] at HMID HCY
      obtain ⟨n8, d8, g8⟩ := r
      clear hx7 hk7 hk7' hr
      go_wp2_with fail
      refine HCY.out.mono ?_
      rintro e w8 ⟨rfl, hk8, _, B8, hx8, _, _⟩
      have HK8 := Lib.hid (HK7.out.trans hk8 (fun _ hi _ => hi))
      have HX8 := Lib.hid hx8
      have HCR := Lib.hid (crash_any w8 h B8 d8 hx8 keep HKP.out (-1) (by omega))
      clear hk8 hx8
      go_wp2_with fail
      refine HCR.out.mono ?_
      rintro e w9 ⟨rfl, hx9, hk9⟩
      have hok8 : d8.Ok ∧ d8.dur.length = 120 ∧ d8.size = 256 := by
        rcases HMID.out with ⟨_, h1⟩ | ⟨_, h1⟩
        · exact ⟨h1.1, h1.2.1, h1.2.2.1⟩
        · exact ⟨h1.1, h1.2.1, h1.2.2.1⟩
      obtain ⟨hq1, hq2, hq3, hq4, hq5⟩ := crash_facts hok8.1 keep
      obtain ⟨d9, hd9⟩ : ∃ d9, d9 = d8.crash keep := ⟨_, rfl⟩
      have HREC := Lib.hid (show ∃ a u rec, L.Loads 120 256 d9.last a u rec ∧ ((n8 = 0 ∧ rec = x1 ++ x2) ∨ (n8 = 32 ∧ (rec = x1 ∨ rec = x1 ++ x2))) by
        rw [hd9]
        rcases HMID.out with ⟨h0, h1⟩ | ⟨h0, h1⟩
        · obtain ⟨a, u, h2⟩ := h1.crash keep
          exact ⟨a, u, _, h2, .inl ⟨h0, rfl⟩⟩
        · rcases h1.crash keep with ⟨a, u, h2⟩ | ⟨a, u, h2⟩
          · exact ⟨a, u, _, h2, .inr ⟨h0, .inl rfl⟩⟩
          · exact ⟨a, u, _, h2, .inr ⟨h0, .inr rfl⟩⟩)
      rw [← hd9] at hx9 hq1 hq2 hq3 hq4 hq5
      have HF9 := Lib.hid (show d9.Ok ∧ d9.dur.length = 120 ∧ d9.size = 256 ∧ (∀ i, d9.fr i = none) from ⟨hq1, hq2.trans hok8.2.1, hq3.trans hok8.2.2, hq4⟩)
      have HK9 := Lib.hid (HK8.out.trans hk9 (fun y hy _ => by simp [hy]))
      have HX9 := Lib.hid hx9
      obtain ⟨c', hcc'⟩ : ∃ c', c' = again % 6 := ⟨_, rfl⟩
      have ec' : (again : Int) % 6 = (c' : Int) := by omega
      have hc6 : c' < 6 := by omega
      have HCU9 := Lib.hid (cut_any w9 h B8 d9 hx9 (c' : Int) (by unfold Wide; omega))
      clear hx9 hk9 hok8 hq1 hq2 hq3 hq4 hq5 hd9 hcc'
      go_wp2_with fail
      refine HCU9.out.mono ?_
      rintro e w10 ⟨rfl, hx10, hk10⟩
      have HK10 := Lib.hid (HK9.out.trans hk10 (fun y hy _ => hpl y hy))
      obtain ⟨p1, p2, p3, p4, p5⟩ := cutIn_facts HF9.out.1 c' (by omega)
      have HO10 := Lib.hid (open_some hx10 (HT.out.keep (HRU6.out.on HK10.out) (by simp)) HRU6.out.zero (by rw [p3, HF9.out.2.1]; omega) (by rw [p4, HF9.out.2.2.1]; omega))
      have HP := Lib.hid (flush_facts p1 (fun i => by rw [p5]; exact HF9.out.2.2.2 i))
      have HP2 := Lib.hid (show (d9.cutIn c').dur.length = 120 ∧ (d9.cutIn c').size = 256 ∧ (d9.cutIn c').last = d9.last from ⟨by rw [p3]; exact HF9.out.2.1, by rw [p4]; exact HF9.out.2.2.1, p2⟩)
      clear hx10 hk10 p1 p2 p3 p4 p5
      go_wp2_with fail
      refine HO10.out.mono ?_
      rintro e w11 ⟨pv, vv, nn, rfl, hx11, hk11⟩
      have HK11 := Lib.hid (HK10.out.trans hk11 (fun y hy _ => by simp [hy]))
      have HX11 := Lib.hid hx11
      have HCR11 := Lib.hid (crash_any w11 h B8 _ hx11 more HMO.out (-1) (by omega))
      clear hx11 hk11
      go_wp2_with fail
      refine HCR11.out.mono ?_
      rintro e w12 ⟨rfl, hx12, hk12⟩
      obtain ⟨hq1, hq2, hq3, hq4, hq5⟩ := crash_facts HP.out.1 more
      have hlast := crash_flat HP.out.1 HP.out.2.2.2.2 more
      obtain ⟨a9, u9, rec, hld, hrec⟩ := HREC.out
      have HK12 := Lib.hid (HK11.out.trans hk12 (fun y hy _ => by simp [hy]))
      have HO12 := Lib.hid (open_go hx12 (HT.out.keep (HRU6.out.on HK12.out) (by simp)) HRU6.out.zero hq5.power (by rw [hq2, HP.out.2.2.1, HP2.out.1]; omega) (by rw [hq3, HP.out.2.2.2.1, HP2.out.2.1]; omega) (a := a9) (u := u9) (rs := rec) (by
        rw [hq2, hq3, HP.out.2.2.1, HP2.out.1, HP.out.2.2.2.1, HP2.out.2.1]
        exact loads_eq hld (by rw [hlast, HP.out.2.1, HP2.out.2.2])))
      have HRE := Lib.hid hrec
      clear hx12 hk12 hq1 hq2 hq3 hq4 hq5 hlast hld hrec HREC
      go_wp2_with fail
      refine HO12.out.mono ?_
      rintro e w13 ⟨lp13, v13, d13, rfl, _, _, _, _, hro13, _, hk13⟩
      obtain ⟨A13, c13, rfl, hrow13⟩ := hro13.fits
      have HK13 := Lib.hid (HK12.out.trans hk13 (fun y hy _ => by simp [hy]))
      have HR13 := Lib.hid hrow13.low
      have HRX13 := Lib.hid (HRX6.out.keep HK13.out (G' := fun x => W ≤ x) (fun x hx => by have := HLOW.out x hx; omega) (fun _ h => h)).low
      have HRY13 := Lib.hid (HRY6.out.keep HK13.out (G' := fun x => W ≤ x) (fun x hx => by have := HLOW.out x hx; omega) (fun _ h => h)).low
      have hw13 : W ≤ w13.heap.size := Nat.le_trans HW6.out HK13.out.size
      clear hro13 hk13 hrow13
      go_wp2_with (at_builtin; refine wpList_append_rows rfl _ _ rfl rfl W (.slice none 0 0) [] x1 Ax cx _ rfl rfl (RowsOwn.nil _ _) HRX13.out (fun y hy => ⟨hy.1, by simp [Value.ownBlock]⟩) HNX.out (by have := HL1.out; simp; omega) hw13 ?_)
      intro v14 w14 ho14 hg14 hat14
      have hk14 : Keeps [] w13 w14 := (Keeps.of_grown hg14).mono (by simp [Value.ownBlock])
      have hne14 : ∀ y, (W ≤ y ∧ y < w13.heap.size) → W ≤ y ∧ v14.ownBlock ≠ some y := fun y hy => ⟨hy.1, fun e => by
        rcases hat14 with h | h
        · rw [h] at e; simp [Value.ownBlock] at e
        · rw [h] at e
          have : w13.heap.size = y := by simpa using e
          omega⟩
      have HS14 := Lib.hid (show ∀ y ∈ v14.ownBlock.toList, w13.heap.size ≤ y from fun y hy => by
        rcases hat14 with h | h
        · rw [h] at hy; simp [Value.ownBlock] at hy
        · rw [h] at hy
          have : y = w13.heap.size := by simpa using hy
          omega)
      have HK14 := Lib.hid hk14
      have HO14 := Lib.hid (show RowsOwn w14 W v14 x1 from ho14)
      have HRY14 := Lib.hid (HRY13.out.keep hk14 (G' := fun y => W ≤ y ∧ y < w13.heap.size) (by simp) (fun _ h => h))
      have HNE14 := Lib.hid hne14
      have hw14 : W ≤ w14.heap.size := Nat.le_trans hw13 hk14.size
      clear ho14 hg14 hat14 hk14 hne14
      go_wp2_with (at_builtin; refine wpList_append_rows rfl _ _ rfl rfl W v14 x1 x2 Ay cy _ rfl rfl HO14.out HRY14.out HNE14.out HNY.out (by have := HL1.out; have := HL2.out; omega) hw14 ?_)
      intro v15 w15 ho15 hg15 _
      obtain ⟨Ab, cb, rfl, _, hrb, _⟩ := ho15.form
      have hk15 : Keeps v14.ownBlock.toList w13 w15 := (HK14.out.mono (T := v14.ownBlock.toList) (by simp)).trans (Keeps.of_grown hg15) (fun _ hi _ => hi)
      have HRr := Lib.hid (HR13.out.keep hk15 (G' := fun _ => True) (fun y hy hG => by have := HS14.out y hy; omega) (fun _ _ => trivial))
      have HRx := Lib.hid (HRX13.out.keep hk15 (G' := fun _ => True) (fun y hy hG => by have := HS14.out y hy; omega) (fun _ _ => trivial))
      have HRb := Lib.hid hrb
      have HK15 := Lib.hid (show Keeps [] w w15 from (((HRU6.out.on HK13.out).mono (T := v14.ownBlock.toList) (by simp)).trans hk15 (fun _ hi _ => hi)).mono (fun y hy hlt => by
        have := HS14.out y hy
        have := (HRU6.out.on HK13.out).size
        omega))
      clear ho15 hg15 hrb hk15
      rcases HRE.out with ⟨rfl, hre⟩ | ⟨rfl, hre⟩
      · have hm : rec.length ≤ maxLen := by rw [hre, List.length_append]; have := HL1.out; have := HL2.out; unfold maxLen; omega
        have HSA := Lib.hid (same_any w15 _ _ A13 Ab rec (x1 ++ x2) c13 cb HRr.out HRb.out hm)
        rw [List.length_append] at HSA
        have hdd : decide (rec = x1 ++ x2) = true := by simpa using hre
        clear hm hre HRE
        go_wp2_with fail
        refine HSA.out.mono ?_
        rintro e w16 ⟨rfl, hk16⟩
        have HK16 := Lib.hid (HK15.out.trans hk16 (by simp))
        clear hk16
        go_wp2_with fail
        go_ret
        exact ⟨by rw [← hdd]; rfl, HK16.out⟩
      · have hm : rec.length ≤ maxLen := by
          have := HL1.out; have := HL2.out
          unfold maxLen
          rcases hre with h | h
          · rw [h]; omega
          · rw [h, List.length_append]; omega
        have HSA := Lib.hid (same_any w15 _ _ A13 Ax rec x1 c13 cx HRr.out HRx.out hm)
        have HSB := Lib.hid (fun w' (hk : Keeps [] w15 w') => same_any w' _ _ A13 Ab rec (x1 ++ x2) c13 cb (HRr.out.keep hk (by simp) (fun _ h => h)) (HRb.out.keep hk (by simp) (fun _ h => h)) hm)
        simp only [List.length_append] at HSB
        have HRE2 := Lib.hid hre
        clear hm hre HRE
        by_cases hx : rec = x1
        · have hdd : decide (rec = x1) = true := by simpa using hx
          clear hx
          go_wp2_with fail
          refine HSA.out.mono ?_
          rintro e w16 ⟨rfl, hk16⟩
          have HK16 := Lib.hid (HK15.out.trans hk16 (by simp))
          clear hk16
          go_wp2_with fail
          go_ret
          exact ⟨rfl, HK16.out⟩
        · have hdd : decide (rec = x1) = false := by simpa using hx
          have hdb : decide (rec = x1 ++ x2) = true := by
            rcases HRE2.out with h | h
            · exact absurd h hx
            · simpa using h
          clear hx
          go_wp2_with fail
          refine HSA.out.mono ?_
          rintro e w16 ⟨rfl, hk16⟩
          have HSB' := Lib.hid (HSB.out w16 hk16)
          have HK16 := Lib.hid (HK15.out.trans hk16 (by simp))
          clear hk16
          go_wp2_with fail
          refine HSB'.out.mono ?_
          rintro e w17 ⟨rfl, hk17⟩
          have HK17 := Lib.hid (HK16.out.trans hk17 (by simp))
          clear hk17
          go_wp2_with fail
          go_ret
          exact ⟨rfl, HK17.out⟩
    · have e2 : decide ((6 : Int) < (l2.length : Int)) = true := by simp; omega
      go_enter Tryd.func5, Tryd.ntmps5
      go_wp2_with fail
      refine HKN.out.mono ?_
      rintro e w1 ⟨rfl, hk1⟩
      go_wp2_with fail
      go_ret
      exact ⟨rfl, hk1⟩
  · have e1 : decide ((6 : Int) < (l1.length : Int)) = true := by simp; omega
    go_enter Tryd.func5, Tryd.ntmps5
    go_wp2_with fail
    refine HKN.out.mono ?_
    rintro e w1 ⟨rfl, hk1⟩
    go_wp2_with fail
    go_ret
    exact ⟨rfl, hk1⟩
end Go.Proofs.YtgjgnieobbhepaaDoor
