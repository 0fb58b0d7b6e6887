/- WalGreat. -/
import Derived.Test.YtgjgnieobbhepaaDoorWLawC
namespace Go.Proofs.YtgjgnieobbhepaaDoor
open Go.RowKit
open Reg (Is Fact CB)

theorem cap80 (u : Nat) : L.cap 80 - u ≤ 38 := by
  have : L.cap 80 = 38 := by decide
  omega
set_option maxRecDepth 100000 in
set_option maxHeartbeats 8000000 in
theorem great_any (w : World) (ht : TabAt w) (hw : 0 < w.heap.size) (n g cap : Nat) (A : Option Addr) (lens : List UInt8) (hn : n < 256) (hr : BytesIn w g A lens) :
    Calls Tryd.prog 9 #[.int .u8 (n : Int), .slice A lens.length cap] w fun e w' => e = .returned (.bool true) ∧ Keeps [] w w' := by
  have kc := fun (w : World) (C : Array Value) (n c : Nat) => Lib.run_convert_bytes_const (P := Tryd.prog) w 34 5 C n c Tryd.underlying34 Tryd.underlying5
  have HT := Lib.hid ht
  have HR := Lib.hid hr
  have HKN := Lib.hid (known_any w ht hw)
  clear ht hr
  by_cases hl : lens.length ≤ 4
  · have e1 : decide ((4 : Int) < (lens.length : Int)) = false := by simp; omega
    go_enter Tryd.func9, Tryd.ntmps9
    go_wp2_with fail
    refine HKN.out.mono ?_
    rintro e w1 ⟨rfl, hk1⟩
    have HK1 := Lib.hid hk1
    have HN1 := Lib.hid (newD_any w1 80 256 (by omega) (by omega))
    clear hk1
    go_wp2_with fail
    refine HN1.out.mono ?_
    intro e w2 hnew
    obtain ⟨h, B, rfl, ho⟩ := run_new HK1.out HT.out hw hnew (by omega) (by omega)
    have HO := Lib.hid ho
    clear hnew ho
    go_wp2_with fail
    refine HO.out.mono ?_
    rintro e w3 ⟨lp, A3, c3, d3, rfl, hd3, hs3, hrun⟩
    have HB := Lib.hid (batch_any w3 g cap 1 A lens (HR.out.keep hrun.keeps (by simp)) (by omega) (by omega))
    have HR3 := Lib.hid hrun
    have HD3 := Lib.hid hd3
    have HS3 := Lib.hid hs3
    clear hrun hd3 hs3
    go_wp2_with fail
    refine HB.out.mono ?_
    rintro e w4 ⟨v4, rs, rfl, hrl, hrs, hro, hk4⟩
    obtain ⟨A4, c4, rfl, hrow⟩ := hro.fits
    have hbody := body_small hrs
    have hb2 : (L.body rs).length ≤ 1036 := by omega
    have HR4 := Lib.hid (HR3.out.step hk4)
    have HC4 := Lib.hid (commit_go c4 HR4.out.live HR4.out.lit HR4.out.tab hrow (by omega) (by simp))
    have HF4 := Lib.hid (show fitErr (L.cap d3.dur.length - 0) d3.size rs = 0 by rw [HD3.out, HS3.out]; exact fit_small (k := 4) (by omega) hrs (by omega) (by decide))
    have HRW := Lib.hid hrow
    have HRL := Lib.hid hrl
    have HB2 := Lib.hid hb2
    clear hrs hro hk4 hrow hbody hb2 hrl
    go_wp2_with fail
    refine HC4.out.mono ?_
    intro e w5 hc
    obtain ⟨B5, d5, rfl, hk5, hd5, hs5, hrun⟩ := HR4.out.cyes hc HF4.out
    obtain ⟨g5, hg5⟩ : ∃ g5 : Lg, g5 = ⟨(⟨0, 0, 0, false⟩ : Lg).area, (⟨0, 0, 0, false⟩ : Lg).used + L.nsec rs d3.size, ([] ++ rs).length, true⟩ := ⟨_, rfl⟩
    rw [← hg5] at hrun
    have hcnt : g5.count = rs.length := by rw [hg5]; rfl
    have hk5' : Keeps (lp :: h.l) w4 w5 := hk5
    have HR5 := Lib.hid (show Run w w5 h B5 lp d5 g5 rs from hrun)
    have HD5 := Lib.hid (hd5.trans HD3.out)
    have HS5 := Lib.hid (hs5.trans HS3.out)
    have HCN := Lib.hid hcnt
    have HRW5 := Lib.hid (HRW.out.keep hk5 (G' := fun x => w3.heap.size ≤ x) (fun x hx => by have := HR3.out.low x hx; omega) (fun _ h => h))
    clear hc hk5 hd5 hs5 hrun hg5 hcnt hk5'
    obtain ⟨m, hm⟩ : ∃ m, m = 1048575 + n % 4 := ⟨_, rfl⟩
    obtain ⟨w6, hmk, lb, hlb, hub, hk6⟩ := run_big (w5.alloc (.cells #[.int .u8 97] 5 (1, 2))) m (by omega)
    have hmk' : (Instr.makeSlice 34 (.int .i64 (1048575 + (n : Int) % 4)) (.int .i64 (1048575 + (n : Int) % 4))).run Tryd.prog (w5.alloc (.cells #[.int .u8 97] 5 (1, 2))) = .ok (.slice (some ⟨w5.heap.size + 1, 0, none⟩) m m) w6 := by
      have e : 1048575 + (n : Int) % 4 = (m : Int) := by omega
      rw [e]; simpa using hmk
    have HLB := Lib.hid hlb
    have HUB := Lib.hid (show U8At w6 (w5.heap.size + 1) lb by simpa using hub)
    have HK6 := Lib.hid hk6
    have HM := Lib.hid hm
    clear hmk hlb hub hk6 hm
    go_wp2_with fail
    refine (commit_a_big HR5.out.live HR5.out.lit HR5.out.tab (by have := HRL.out; omega) _ _ HLB.out (by have := HM.out; omega) HK6.out HUB.out).mono ?_
    obtain ⟨q, hq⟩ : ∃ q, q = decide (1 < n % 4) := ⟨_, rfl⟩
    obtain ⟨want, hwant⟩ : ∃ want : Nat, want = if q then 42 else 40 := ⟨_, rfl⟩
    intro e w7 hc
    obtain ⟨B7, rfl, hk7, hrun⟩ := (HR5.out.step ((((Keeps.refl [] w5).alloc _).trans HK6.out (by simp)).alloc _)).cno hc (n := want) (by
      rw [HD5.out, HS5.out, hwant]
      have hle := cap80 g5.used
      cases hqq : q with
      | true =>
        rw [hqq] at hq
        have := of_decide_eq_true hq.symm
        exact fit_long ⟨lb, by simp, by rw [HLB.out, HM.out]; omega⟩
      | false =>
        rw [hqq] at hq
        have := of_decide_eq_false hq.symm
        refine fit_full (by omega) (by simp) (fun r hr => ?_) ?_
        · simp only [List.mem_cons, List.not_mem_nil, or_false] at hr
          rcases hr with rfl | rfl
          · simp
          · rw [HLB.out, HM.out]; omega
        · rw [L.body_cons_len, L.body_cons_len, HLB.out, HM.out]
          have := Nat.mul_le_mul_right 256 hle
          omega) (by rw [hwant]; split <;> omega)
    have HR7 := Lib.hid hrun
    have HRW7 := Lib.hid (HRW5.out.keep (((((Keeps.refl [] w5).alloc _).trans HK6.out (by simp)).alloc _).mono (T := lp :: h.l) (by simp) |>.trans hk7 (fun _ hi _ => hi)) (G' := fun x => w3.heap.size ≤ x) (fun x hx => by have := HR3.out.low x hx; omega) (fun _ h => h))
    have HQ := Lib.hid hq
    have HW := Lib.hid hwant
    clear hc hk7 hrun hq hwant hmk'
    obtain ⟨w8, hmk, l8, hl8, hu8, hk8⟩ := run_big w7 1048577 (by omega)
    have hmk' : (Instr.makeSlice 34 (.int .i64 1048577) (.int .i64 1048577)).run Tryd.prog w7 = .ok (.slice (some ⟨w7.heap.size, 0, none⟩) 1048577 1048577) w8 := hmk
    have HL8 := Lib.hid hl8
    have HU8 := Lib.hid hu8
    have HK8 := Lib.hid hk8
    clear hmk hl8 hu8 hk8
    go_wp2_with fail
    refine (reset_big (HR7.out.step HK8.out).live (HR7.out.step HK8.out).lit (HR7.out.step HK8.out).tab _ _ HL8.out (by omega) HU8.out).mono ?_
    intro e w9 hc
    obtain ⟨B9, rfl, hk9, hrun⟩ := (HR7.out.step (HK8.out.alloc _)).rno hc (n := 42) (fit_long ⟨l8, by simp, by rw [HL8.out]; omega⟩) (by omega)
    have HR9 := Lib.hid hrun
    have HRW9 := Lib.hid (HRW7.out.keep ((HK8.out.alloc _).mono (T := lp :: h.l) (by simp) |>.trans hk9 (fun _ hi _ => hi)) (G' := fun x => w3.heap.size ≤ x) (fun x hx => by have := HR3.out.low x hx; omega) (fun _ h => h))
    clear hc hk9 hrun hmk'
    obtain ⟨w10, hmk, l10, hl10, hu10, hk10⟩ := run_big w9 20480 (by omega)
    have hmk' : (Instr.makeSlice 34 (.int .i64 20480) (.int .i64 20480)).run Tryd.prog w9 = .ok (.slice (some ⟨w9.heap.size, 0, none⟩) 20480 20480) w10 := hmk
    have HL10 := Lib.hid hl10
    have HU10 := Lib.hid hu10
    have HK10 := Lib.hid hk10
    clear hmk hl10 hu10 hk10
    go_wp2_with fail
    refine (commit_big (HR9.out.step HK10.out).live (HR9.out.step HK10.out).lit (HR9.out.step HK10.out).tab (by have := HRL.out; omega) _ _ HL10.out (by omega) HU10.out).mono ?_
    intro e w11 hc
    obtain ⟨B11, rfl, hk11, hrun⟩ := (HR9.out.step (HK10.out.alloc _)).cno hc (n := 40) (by
      rw [HD5.out, HS5.out]
      have hle := cap80 g5.used
      refine fit_full (by omega) (by simp) (fun r hr => ?_) ?_
      · have : r = l10 := by simpa using hr
        rw [this, HL10.out]; omega
      · rw [L.body_cons_len, HL10.out]
        have := Nat.mul_le_mul_right 256 hle
        omega) (by omega)
    have HR11 := Lib.hid hrun
    have HRW11 := Lib.hid (HRW9.out.keep ((HK10.out.alloc _).mono (T := lp :: h.l) (by simp) |>.trans hk11 (fun _ hi _ => hi)) (G' := fun x => w3.heap.size ≤ x) (fun x hx => by have := HR3.out.low x hx; omega) (fun _ h => h))
    have HO11 := Lib.hid hrun.opens
    clear hc hk11 hrun hmk'
    go_wp2_with fail
    refine HO11.out.mono ?_
    rintro e w12 ⟨lp12, A12, c12, d12, rfl, hrow, hk12, _, _, hrun, _⟩
    have HR12 := Lib.hid hrun
    have HRW12 := Lib.hid (HRW11.out.keep hk12 (G' := fun x => w3.heap.size ≤ x) (fun x hx => by have := HR3.out.low x hx; omega) (fun _ h => h))
    have HS12 := Lib.hid (same_any w12 _ _ A12 A4 rs rs c12 c4 hrow HRW12.out (by have := HRL.out; unfold maxLen; omega))
    have hq2 : decide ((1 : Int) < (n : Int) % 4) = q := by rw [HQ.out, decide_eq_decide]; omega
    have hq3 : decide (1 < n % 4) = q := HQ.out.symm
    clear hrow hk12 hrun
    cases q with
    | true =>
      have hv := HW.out
      simp only [if_true, if_false, Bool.false_eq_true] at hv
      subst hv
      have hq2' : decide ((1 : Int) < (n : Int) % 4) = true := hq2
      have hq3' : decide (1 < n % 4) = true := hq3
      clear hq2 hq3
      go_wp2_with fail
      refine HS12.out.mono ?_
      rintro e w13 ⟨rfl, hk13⟩
      have HR13 := Lib.hid (HR12.out.step hk13)
      have HC13 : Hid (Calls Tryd.prog 20 #[.pointer (some ⟨lp, 0, none⟩)] w13 fun e w' => e = .returned (.int .i64 (rs.length : Int)) ∧ w13 = w') := Lib.hid (by
        have := count_any w13 h lp g5 HR13.out.live.log
        rw [HCN.out] at this
        exact this)
      clear hk13
      have hdd : decide (rs = rs) = true := by simp
      go_wp2_with fail
      refine HC13.out.mono ?_
      rintro e w14 ⟨rfl, rfl⟩
      go_wp2_with fail
      go_ret
      exact ⟨rfl, HR13.out.keeps⟩
    | false =>
      have hv := HW.out
      simp only [if_true, if_false, Bool.false_eq_true] at hv
      subst hv
      have hq2' : decide ((1 : Int) < (n : Int) % 4) = false := hq2
      have hq3' : decide (1 < n % 4) = false := hq3
      clear hq2 hq3
      go_wp2_with fail
      refine HS12.out.mono ?_
      rintro e w13 ⟨rfl, hk13⟩
      have HR13 := Lib.hid (HR12.out.step hk13)
      have HC13 : Hid (Calls Tryd.prog 20 #[.pointer (some ⟨lp, 0, none⟩)] w13 fun e w' => e = .returned (.int .i64 (rs.length : Int)) ∧ w13 = w') := Lib.hid (by
        have := count_any w13 h lp g5 HR13.out.live.log
        rw [HCN.out] at this
        exact this)
      clear hk13
      have hdd : decide (rs = rs) = true := by simp
      go_wp2_with fail
      refine HC13.out.mono ?_
      rintro e w14 ⟨rfl, rfl⟩
      go_wp2_with fail
      go_ret
      exact ⟨rfl, HR13.out.keeps⟩
  · have e1 : decide ((4 : Int) < (lens.length : Int)) = true := by simp; omega
    go_enter Tryd.func9, Tryd.ntmps9
    go_wp2_with fail
    refine HKN.out.mono ?_
    rintro e w1 ⟨rfl, hk1⟩
    go_wp2_with fail
    go_ret
    exact ⟨rfl, hk1⟩
end Go.Proofs.YtgjgnieobbhepaaDoor
