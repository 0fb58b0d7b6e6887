/- WalTogether. -/
import Derived.Test.YtgjgnieobbhepaaDoorWPair
namespace Go.Proofs.YtgjgnieobbhepaaDoor
open Go.RowKit
open Reg (Is Fact CB)

theorem RowsOwn.fits2 {w : World} {W : Nat} {v : Value} {rs : List (List UInt8)} (h : RowsOwn w W v rs) : ∃ A cap, v = .slice A rs.length cap ∧ RowsIn w (fun g => W ≤ g) A rs ∧ rs.length ≤ cap := by
  obtain ⟨A, cap, hv, h2⟩ := h.fits
  refine ⟨A, cap, hv, h2, ?_⟩
  obtain ⟨xs, ho, _⟩ := h
  rcases ho.2 with ⟨_, h0⟩ | ⟨g, cap', cur, hv', _, _, hn, _⟩
  · omega
  · rw [hv] at hv'
    injection hv' with _ _ hc
    rw [hc]; exact hn
theorem rows_part {b off len cap i n : Nat} (h1 : i + n ≤ cap) (h0 : i < cap) (w : World) : (Instr.slice 28 (.slice (some ⟨b, off, none⟩) len cap) (some (.int .i64 (i : Int))) (some (.int .i64 ((i : Int) + (n : Int)))) none).run Tryd.prog w = .ok (.slice (some ⟨b, off + i, none⟩) n (cap - i)) w := by
  have := run_slice_lh (P := Tryd.prog) w 28 (some ⟨b, off, none⟩) len cap elemRows .i64 .i64 (i : Int) ((i : Int) + (n : Int)) (by omega) (by omega) (by omega)
  rw [this]
  have hs : (sizeOf (Tryd.prog.elem 28)).run Tryd.prog w = .ok 1 w := by kernel_rfl
  rw [hs]
  have hne : ¬ cap = i := by omega
  have e1 : ((i : Int) + (n : Int) - (i : Int)).toNat = n := by omega
  simp [Result.andThen, sliced, hne, Addr.add_lit]
  omega
theorem RowsIn.part {w : World} {G : Nat → Prop} {b off : Nat} {ls : List (List UInt8)} (h : RowsIn w G (some ⟨b, off, none⟩) ls) (i n : Nat) : RowsIn w G (some ⟨b, off + i, none⟩) ((ls.drop i).take n) := by
  rcases h with h | ⟨b', off', hA, hb, hc⟩
  · subst h; exact .inl (by simp)
  · cases hA
    refine .inr ⟨b, off + i, rfl, hb, fun j hj => ?_⟩
    have hj' : i + j < ls.length := by simp at hj; omega
    obtain ⟨v, h1, h2⟩ := hc (i + j) hj'
    refine ⟨v, by rw [Nat.add_assoc]; exact h1, ?_⟩
    have e : ((ls.drop i).take n)[j] = ls[i + j] := by simp
    rw [e]; exact h2
theorem take_part {rs : List (List UInt8)} {i n : Nat} : rs.take i ++ (rs.drop i).take n = rs.take (i + n) := by
  rw [List.take_add]
theorem cap200 (u k : Nat) (h : u ≤ 48) (hk : k ≤ 12) : 9 + 259 * k + 256 - 1 < (L.cap 200 - u + 1) * 256 := by
  have : L.cap 200 = 98 := by decide
  have : 50 * 256 ≤ (L.cap 200 - u + 1) * 256 := Nat.mul_le_mul_right _ (by omega)
  omega
theorem nsec_few {rs : List (List UInt8)} (h : ∀ r ∈ rs, List.length r ≤ 255) (hk : rs.length ≤ 3) : L.nsec rs 256 ≤ 4 := by
  have hb := body_small h
  have h1 := L.nsec_bound (rs := rs) (s := 256) (by omega)
  omega
set_option maxRecDepth 100000 in
set_option maxHeartbeats 1000000 in
theorem together_any (w : World) (ht : TabAt w) (hw : 0 < w.heap.size) (g1 cap1 g2 cap2 : Nat) (A1 A2 : Option Addr) (lens parts : List UInt8) (hr1 : BytesIn w g1 A1 lens) (hr2 : BytesIn w g2 A2 parts) :
    Calls Tryd.prog 7 #[.slice A1 lens.length cap1, .slice A2 parts.length cap2] w fun e w' => e = .returned (.bool true) ∧ Keeps [] w w' := by
  have HT := Lib.hid ht
  have HR1 := Lib.hid hr1
  have HR2 := Lib.hid hr2
  have HKN := Lib.hid (known_any w ht hw)
  clear ht hr1 hr2
  by_cases hl : lens.length ≤ 12
  · have e1 : decide ((12 : Int) < (lens.length : Int)) = false := by simp; omega
    by_cases hp : parts.length < lens.length
    · have e2 : decide ((parts.length : Int) < (lens.length : Int)) = true := by simp; omega
      go_enter Tryd.func7, Tryd.ntmps7
      go_wp2_with fail
      refine HKN.out.mono ?_
      rintro e w1 ⟨rfl, hk1⟩
      go_wp2_with fail
      go_ret
      exact ⟨rfl, hk1⟩
    · have e2 : decide ((parts.length : Int) < (lens.length : Int)) = false := by simp; omega
      go_enter Tryd.func7, Tryd.ntmps7
      go_wp2_with fail
      refine HKN.out.mono ?_
      rintro e w1 ⟨rfl, hk1⟩
      have HK1 := Lib.hid hk1
      have HN1 := Lib.hid (newD_any w1 200 256 (by omega) (by omega))
      clear hk1
      go_wp2_with fail
      refine HN1.out.mono ?_
      rintro e wA ⟨h1, B1, rfl, x1, l1, b1, k1⟩
      have HN2 := Lib.hid (newD_any wA 200 256 (by omega) (by omega))
      have HX1 := Lib.hid x1
      have HL1 := Lib.hid l1
      have HB1 := Lib.hid b1
      have HKA := Lib.hid k1
      clear x1 l1 b1 k1
      go_wp2_with fail
      refine HN2.out.mono ?_
      rintro e wB ⟨h2, B2, rfl, x2, l2, b2, k2⟩
      have HO := Lib.hid (two_start HK1.out HT.out hw HX1.out HL1.out HB1.out HKA.out x2 l2 b2 k2 (by omega) (by omega))
      clear x2 l2 b2 k2
      go_wp2_with fail
      refine HO.out.mono ?_
      rintro e wC ⟨lp1, A3, c3, rfl, ho⟩
      have HO2 := Lib.hid ho
      clear ho
      go_wp2_with fail
      refine HO2.out.mono ?_
      rintro e wD ⟨lp2, A4, c4, d1, d2, rfl, hd1, hs1, hd2, hs2, r1, r2, o1, o2⟩
      have HB := Lib.hid (batch_any wD g1 cap1 5 A1 lens (HR1.out.keep r1.keeps (by simp)) (by omega) (by omega))
      have HD1 := Lib.hid hd1
      have HS1 := Lib.hid hs1
      have HD2 := Lib.hid hd2
      have HS2 := Lib.hid hs2
      have HU1 := Lib.hid r1
      have HU2 := Lib.hid r2
      have HF1 := Lib.hid o1
      have HF2 := Lib.hid o2
      have HLO1 := Lib.hid r1.low
      have HLO2 := Lib.hid r2.low
      obtain ⟨W, hW⟩ : ∃ W, W = wD.heap.size := ⟨_, rfl⟩
      rw [← hW] at HLO1 HLO2
      clear hd1 hs1 hd2 hs2 r1 r2 o1 o2
      go_wp2_with fail
      refine HB.out.mono ?_
      rintro e wE ⟨v5, rs, rfl, hrl, hrs, hro, hk5⟩
      obtain ⟨A5, c5, rfl, hrow, hcap⟩ := hro.fits2
      rw [← hW] at hrow
      have hbody := body_small hrs
      have hb2 : (L.body rs).length ≤ 3108 := by omega
      have HU1E := Lib.hid (HU1.out.step hk5)
      have HU2E := Lib.hid (HU2.out.step hk5)
      have HRW := Lib.hid hrow
      have HRL := Lib.hid hrl
      have HRS := Lib.hid hrs
      have HB2 := Lib.hid hb2
      have HCAP := Lib.hid hcap
      have HC1 := Lib.hid (commit_go c5 HU1E.out.live HU1E.out.lit HU1E.out.tab hrow (by omega) (by simp))
      clear hrl hrs hro hk5 hrow hbody hb2 hW hcap
      go_wp2_with fail
      refine HC1.out.mono ?_
      intro e wF hc
      obtain ⟨B1F, d1F, rfl, hkF, hdF, hsF, r1F, hgF⟩ := HU1E.out.cyes' hc (by rw [HD1.out, HS1.out]; exact fit_small (k := 12) (by omega) HRS.out (by have := HRL.out; omega) (cap200 0 12 (by omega) (by omega)))
      have HU1F := Lib.hid r1F
      have HU2F := Lib.hid (HU2E.out.other hkF HF1.out r1F.keeps)
      have HF2F := Lib.hid (HF2.out.grow hgF HU2E.out.low)
      have HRWF := Lib.hid (HRW.out.keep hkF (G' := fun x => W ≤ x) (fun x hx => by have := HLO1.out x hx; omega) (fun _ h => h))
      have HC2 := Lib.hid (commit_go (ls := []) (G := fun _ => True) (A := none) 0 r1F.live r1F.lit r1F.tab (.inl rfl) (by simp [L.body]) (by have := HRL.out; simp; omega))
      clear hc hkF hdF hsF r1F hgF
      go_wp2_with fail
      refine HC2.out.mono ?_
      intro e wG hc
      obtain ⟨B1G, d1G, rfl, hkG, hdG, hsG, r1G, hgG⟩ := HU1F.out.cyes' hc (fit_nil _ _)
      have HU2G := Lib.hid (HU2F.out.other hkG HF1.out r1G.keeps)
      have HF2G := Lib.hid (HF2F.out.grow hgG HU2F.out.low)
      have HRWG := Lib.hid (HRWF.out.keep hkG (G' := fun x => W ≤ x) (fun x hx => by have := HLO1.out x hx; omega) (fun _ h => h))
      obtain ⟨g1G, hg1⟩ : ∃ g1G : Lg, Run w wG h1 B1G lp1 d1G g1G rs ∧ g1G.count = rs.length := by
        have e : rs ++ [] = rs := List.append_nil rs
        have r := r1G
        rw [List.nil_append, e] at r
        exact ⟨_, r, r.live.good.count⟩
      have HG1 := Lib.hid hg1
      clear hc hkG hdG hsG r1G hgG hg1
      go_wp2_with fail
      go_loopw [14] (fun iv wr => ∃ (i : Nat) (B2 : Nat → Prop) (d2 : Dk) (g2 : Lg), i ≤ rs.length ∧ iv = .int .i64 (i : Int) ∧ d2.dur.length = 200 ∧ d2.size = 256 ∧ Run w wr h2 B2 lp2 d2 g2 (rs.take i) ∧ g2.used ≤ 4 * i ∧ Run w wr h1 B1G lp1 d1G g1G rs ∧ RowsIn wr (fun x => W ≤ x) A5 rs ∧ Off (lp1 :: h1.l) h2 B2 lp2) (fun iv _ => rs.length - (RowKit.intOf iv).toNat)
      case atStart => exact ⟨0, B2, d2, _, by omega, rfl, HD2.out, HS2.out, HU2G.out, Nat.zero_le _, HG1.out.1, HRWG.out, HF1.out⟩
      case round =>
        obtain ⟨i, B2', d2', g2', hi, rfl, hd, hs, r2, hu, r1, hrows, hoff⟩ := hrel
        have HDD := Lib.hid hd
        have HSS := Lib.hid hs
        have HR2' := Lib.hid r2
        have HR1' := Lib.hid r1
        have HROW := Lib.hid hrows
        have HOFF := Lib.hid hoff
        have HUU := Lib.hid hu
        clear hd hs r2 r1 hrows hoff hu
        by_cases hin : i < rs.length
        · have HRR := HROW.out
          rcases HRR with h0 | ⟨b5, o5, rfl, hb5, hc5⟩
          · rw [h0] at hin; simp at hin
          · have hpi : i < parts.length := by have := HRL.out; omega
            have hp2 := HR2.out.keep HR1'.out.keeps (by simp)
            rcases hp2 with h0 | ⟨o2, rfl, hcell⟩
            · subst h0; simp at hpi
            · have hck := hcell i hpi
              obtain ⟨p, hp3⟩ : ∃ p, p = (parts[i]).toNat := ⟨_, rfl⟩
              have hp8 : p < 256 := by rw [hp3]; exact (parts[i]).toNat_lt
              rw [← hp3] at hck
              clear hcell hp3 hc5
              obtain ⟨n, hn⟩ : ∃ n : Nat, n = min (1 + p % 3) (rs.length - i) := ⟨_, rfl⟩
              have hn1 : 1 ≤ n ∧ n ≤ 3 ∧ i + n ≤ rs.length := by omega
              have hrl12 : rs.length ≤ 12 := by have := HRL.out; omega
              obtain ⟨m2, hm2⟩ : ∃ m2 : Nat, m2 = rs.length - i := ⟨_, rfl⟩
              have esub : IntKind.i64.wrap ((rs.length : Int) - (i : Int)) = (m2 : Int) := by
                rw [show (rs.length : Int) - (i : Int) = (m2 : Int) by omega]; exact IntWalk.i64_in _ ⟨by omega, by omega⟩
              have hmin : min (1 + (p : Int) % 3) (m2 : Int) = (n : Int) := by omega
              obtain ⟨hi2, hh2⟩ : ∃ hi2, hi2 = i + n := ⟨_, rfl⟩
              have ea : IntKind.i64.wrap ((i : Int) + (n : Int)) = (hi2 : Int) := by
                rw [hh2, show ((i + n : Nat) : Int) = (i : Int) + (n : Int) by push_cast; rfl]; exact IntWalk.i64_in _ ⟨by omega, by have := HRL.out; omega⟩
              have hlen : hi2 - i = n := by omega
              have hcl : ¬ c5 = i := by have := HCAP.out; omega
              have q5 : (i : Int) ≤ (hi2 : Int) := by omega
              have q6 : (hi2 : Int) ≤ (c5 : Int) := by have := HCAP.out; omega
              obtain ⟨ps, hps⟩ : ∃ ps, ps = (rs.drop i).take n := ⟨_, rfl⟩
              have hpl : ps.length = n := by rw [hps, List.length_take, List.length_drop]; omega
              have hpr : ∀ r ∈ ps, List.length r ≤ 255 := fun r hr => by
                rw [hps] at hr
                exact HRS.out r (List.mem_of_mem_drop (List.mem_of_mem_take hr))
              have HPART := Lib.hid (show RowsIn wr (fun x => W ≤ x) (some ⟨b5, o5 + i, none⟩) ps by rw [hps]; exact HROW.out.part i n)
              have hpb := body_small hpr
              have HCM := Lib.hid (commit_go (c5 - i) HR2'.out.live HR2'.out.lit HR2'.out.tab HPART.out (by omega) (by simp; omega))
              rw [hpl] at HCM
              have HFE := Lib.hid (show fitErr (L.cap d2'.dur.length - g2'.used) d2'.size ps = 0 by
                rw [HDD.out, HSS.out]
                exact fit_small (k := 12) (by omega) hpr (by omega) (cap200 g2'.used 12 (by have := HUU.out; omega) (by omega)))
              have HFW := Lib.hid (nsec_few hpr (by omega))
              have HTK := Lib.hid (show rs.take i ++ ps = rs.take (i + n) by rw [hps]; exact take_part)
              have HN1 := Lib.hid hn1
              have HHI := Lib.hid hh2
              clear hn hm2 hh2 hps hpl hpr hpb hn1 hrl12
              go_wp2_with fail
              refine HCM.out.mono ?_
              intro e w6 hc
              obtain ⟨B6, d6, rfl, hk6, hd6, hs6, r6, hg6⟩ := HR2'.out.cyes' hc HFE.out
              rw [HTK.out, HSS.out] at r6
              have HR6 := Lib.hid r6
              have HD6 := Lib.hid (hd6.trans HDD.out)
              have HS6 := Lib.hid (hs6.trans HSS.out)
              have HR16 := Lib.hid (HR1'.out.other hk6 HF2G.out r6.keeps)
              have HROW6 := Lib.hid (HROW.out.keep hk6 (G' := fun x => W ≤ x) (fun x hx => by have := HLO2.out x hx; omega) (fun _ h => h))
              have HOFF6 := Lib.hid (HOFF.out.grow hg6 HR1'.out.low)
              clear hc hk6 hd6 hs6 r6 hg6
              go_wp2_with fail
              go_roundw
              case rel =>
                have := HN1.out
                exact ⟨i + n, B6, d6, _, by omega, by rw [HHI.out], HD6.out, HS6.out, HR6.out, by have := HFW.out; have := HUU.out; simp only []; omega, HR16.out, HROW6.out, HOFF6.out⟩
              case measure => have := HN1.out; have := HHI.out; simp [RowKit.intOf]; omega
        · have hie : i = rs.length := by omega
          have HO1 := Lib.hid HR1'.out.opens
          have r2e := HR2'.out
          rw [hie, List.take_length] at r2e
          have HR2E := Lib.hid r2e
          clear r2e hie
          go_wp2_with fail
          refine HO1.out.mono ?_
          rintro e wX ⟨lpX, AX, cX, dX, rfl, hrowX, hkX, _, _, r1X, _⟩
          have HR1X := Lib.hid r1X
          have r2X := HR2E.out.other hkX HOFF.out r1X.keeps
          have HRX := Lib.hid hrowX
          have HO2 := Lib.hid r2X.opens
          have HR2X := Lib.hid r2X
          have HROWX := Lib.hid (HROW.out.keep hkX (G' := fun x => W ≤ x) (fun x hx => by have := HLO1.out x hx; omega) (fun _ h => h))
          clear hrowX hkX r1X r2X
          go_wp2_with fail
          refine HO2.out.mono ?_
          rintro e wY ⟨lpY, AY, cY, dY, rfl, hrowY, hkY, _, _, r2Y, _⟩
          have HR2Y := Lib.hid r2Y
          have HR1Y := Lib.hid (HR1X.out.other hkY HF2G.out r2Y.keeps)
          have HROWY := Lib.hid (HROWX.out.keep hkY (G' := fun x => W ≤ x) (fun x hx => by have := HLO2.out x hx; omega) (fun _ h => h))
          have hmx : rs.length ≤ maxLen := by have := HRL.out; unfold maxLen; omega
          have HSX := Lib.hid (same_any wY _ _ AX A5 rs rs cX c5 (HRX.out.keep hkY (G' := fun x => wr.heap.size ≤ x) (fun x hx => by have := HR2'.out.low x hx; omega) (fun _ h => h)) HROWY.out hmx)
          have HSY := Lib.hid (fun w' (hk : Keeps [] wY w') => same_any w' _ _ AY A5 rs rs cY c5 (hrowY.keep hk (by simp) (fun _ h => h)) (HROWY.out.keep hk (by simp) (fun _ h => h)) hmx)
          have hdd : decide (rs = rs) = true := by simp
          clear hrowY hkY r2Y
          go_wp2_with fail
          refine HSX.out.mono ?_
          rintro e wZ ⟨rfl, hkZ⟩
          have HKZ := Lib.hid hkZ
          have HSY' := Lib.hid (HSY.out wZ hkZ)
          clear hkZ
          go_wp2_with fail
          refine HSY'.out.mono ?_
          rintro e wU ⟨rfl, hkU⟩
          have HR1U := Lib.hid ((HR1Y.out.step HKZ.out).step hkU)
          have HR2U := Lib.hid ((HR2Y.out.step HKZ.out).step hkU)
          have HC1U : Hid (Calls Tryd.prog 20 #[.pointer (some ⟨lp1, 0, none⟩)] wU fun e w' => e = .returned (.int .i64 (rs.length : Int)) ∧ wU = w') := Lib.hid (by
            have := count_any wU h1 lp1 _ HR1U.out.live.log
            rw [HG1.out.2] at this
            exact this)
          have HC2U : Hid (Calls Tryd.prog 20 #[.pointer (some ⟨lp2, 0, none⟩)] wU fun e w' => e = .returned (.int .i64 (rs.length : Int)) ∧ wU = w') := Lib.hid (by
            have := count_any wU h2 lp2 _ HR2U.out.live.log
            rw [HR2U.out.live.good.count] at this
            exact this)
          clear hkU
          go_wp2_with fail
          refine HC1U.out.mono ?_
          rintro e w' ⟨rfl, rfl⟩
          go_wp2_with fail
          refine HC2U.out.mono ?_
          rintro e w' ⟨rfl, rfl⟩
          go_wp2_with fail
          go_ret
          exact ⟨rfl, HR1U.out.keeps⟩
  · have e1 : decide ((12 : Int) < (lens.length : Int)) = true := by simp; omega
    go_enter Tryd.func7, Tryd.ntmps7
    go_wp2_with fail
    refine HKN.out.mono ?_
    rintro e w1 ⟨rfl, hk1⟩
    go_wp2_with fail
    go_ret
    exact ⟨rfl, hk1⟩
end Go.Proofs.YtgjgnieobbhepaaDoor
