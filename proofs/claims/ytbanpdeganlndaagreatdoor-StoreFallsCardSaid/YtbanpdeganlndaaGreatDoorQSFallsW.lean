/- With the merged texts: SFallsW -/
import Derived.Test.YtbanpdeganlndaaGreatDoorQ21
namespace Go.Proofs.YtbanpdeganlndaaGreatDoor
open Go.RowKit
open Reg (Is Fact)
open St (Tx As Ch)

set_option maxRecDepth 100000 in
set_option maxHeartbeats 8000000 in
theorem sfalls_any (w : World) (ht : TabAt w) (hp : 1 < w.heap.size) (cap cut keep : Nat) (torn pos : Int) (A : Option Addr) (l : List (Int × List LP)) (hr : SActsIn w A l) (hcut : cut < 256) (hkeep : keep < 18446744073709551616) :
    Calls Tryz.prog 4 #[.slice A l.length cap, .int .u8 (cut : Int), .int .u64 (keep : Int), .int .i64 torn, .int .i64 pos] w fun e w' => e = .returned (.bool true) ∧ Keeps [] w w' := by
  have HT := Lib.hid ht
  have HR := Lib.hid hr
  have HKP := Lib.hid hkeep
  have HKN := Lib.hid (sknown_any w ht hp)
  have HLI := Lib.hid (fun w' (hk : Keeps [] w w') => slight_any w' A cap l (hr.keep0 hk))
  clear ht hr hkeep
  have hmm := @run_makeMap Tryz.prog
  by_cases hl : SLight l
  · have e1 : decide (SLight l) = true := by simpa using hl
    rw [e1] at HLI
    go_enter Tryz.func4, Tryz.ntmps4
    go_wp2_with fail
    refine HKN.out.mono ?_
    rintro e w1 ⟨rfl, hk1⟩
    have HK1 := Lib.hid hk1
    have HLI1 := Lib.hid (HLI.out w1 hk1)
    clear hk1 e1
    go_wp2_with fail
    refine HLI1.out.mono ?_
    rintro e w1b ⟨rfl, hk1b⟩
    have HK1b := Lib.hid (HK1.out.trans hk1b (by simp))
    have HN := Lib.hid (newD_any w1b 400 512 (by omega) (by omega))
    clear hk1b
    go_wp2_with fail
    refine HN.out.mono ?_
    intro e w2 hnew
    obtain ⟨h, rfl, ho⟩ := sr_new HK1b.out HT.out hp hnew (by omega) (by omega)
    have HO := Lib.hid ho
    clear hnew ho
    go_wp2_with fail
    refine HO.out.mono ?_
    rintro e w3 ⟨sp, mb, lp, B0, d0, g0, rfl, hlit, hu, hsr, hk3⟩
    obtain ⟨c, hcc⟩ : ∃ c, c = cut % 60 := ⟨_, rfl⟩
    have ec : (cut : Int) % 60 = (c : Int) := by omega
    have hc3 : c < 60 := by omega
    have HCU := Lib.hid (hsr.cut c (by omega))
    have HU := Lib.hid hu
    clear hcc hlit hsr hk3 hu
    go_wp2_with fail
    refine HCU.out.mono ?_
    rintro e w4 ⟨rfl, hk4, hsr4⟩
    have hu4 := HU.out
    have hkm : Keeps [] w4 ((w4.alloc (.map #[] 0)).alloc (.map #[] 0)) := ((Keeps.refl _ _).alloc _).alloc _
    have hlow := hsr4.low
    have HMH := Lib.hid (show w4.heap.size ∉ h.l from fun hm => by have := hlow w4.heap.size (by simp [hm]); omega)
    have HW := Lib.hid (show w.heap.size ≤ w4.heap.size from hsr4.gr.keeps.size)
    have HPU := Lib.hid (show PU w ((w4.alloc (.map #[] 0)).alloc (.map #[] 0)) h w4.heap.size 0 sp mb lp B0 (d0.cutIn c) g0 [] [] [] from
      ⟨hsr4.step hkm, by omega, (MapAt.made w4 ES).keep ((Keeps.refl [] _).alloc _) (by simp), List.Perm.refl _, fun e => by have := hlow mb (by simp); omega, by intro p hp; simp at hp, by simp, by simp⟩)
    clear hsr4 hk4 hkm hlow hu4
    go_wp2_with fail
    obtain ⟨hl1, hl2⟩ := hl
    have HL2 := Lib.hid hl2
    clear hl2
    go_loopw [15, 16] (fun wv iv wr => ∃ (k : Nat) (m : As), k ≤ l.length ∧ iv = .int .i64 (k : Int) ∧ ((∃ B d g cs q, PU w wr h w4.heap.size k sp mb lp B d g cs q m) ∨ (∃ nb B d cs next q a, wv = .map (some nb) ∧ PD w wr h w4.heap.size nb sp mb lp B d cs next q m a))) (fun _ iv _ => l.length - (RowKit.intOf iv).toNat)
    case atStart => exact ⟨0, [], by omega, rfl, .inl ⟨_, _, _, _, _, HPU.out⟩⟩
    case round =>
      obtain ⟨k, m, hk, rfl, hx⟩ := hrel
      rcases hx with ⟨B, d, g, cs, q, hx⟩ | ⟨nb, B, d, cs, next, q, a, rfl, hx⟩
      · have HX0 := Lib.hid hx
        have HDN := Lib.hid (down_any wr sp mb lp false _ hx.sr.st)
        clear hx
        by_cases hlt : k < l.length
        · rcases HR.out with h0 | ⟨b, off, rfl, hc⟩
          · rw [h0] at hlt; simp at hlt
          · go_wp2_with fail
            refine HDN.out.mono ?_
            rintro e w9 ⟨rfl, rfl⟩
            have HCL := Lib.hid (clone_map wr w4.heap.size m HX0.out.map (by have := ((HX0.out.small.perm HX0.out.same).facts HX0.out.map.1).1; omega))
            go_wp2_with fail
            refine HCL.out.mono ?_
            rintro e w5 ⟨nb, rfl, hnb, hn5, hk5⟩
            have HX5 := Lib.hid (HX0.out.step hk5)
            have HN5 := Lib.hid hn5
            have HNN := Lib.hid (show nb ∉ mb :: sp :: lp :: h.l from fun hm => by have := HX0.out.sr.low nb hm; omega)
            have HNM := Lib.hid (show nb ≠ w4.heap.size from fun e => by have := HX0.out.map.lt; omega)
            obtain ⟨Bl, cp, gl, q1, q2, q3⟩ := hc k hlt
            obtain ⟨n, hn⟩ : ∃ n, n = (l[k]).1 := ⟨_, rfl⟩
            obtain ⟨ps, hps⟩ : ∃ ps, ps = (l[k]).2 := ⟨_, rfl⟩
            have hp5 : ps.length ≤ 5 := by rw [hps]; exact HL2.out _ (List.getElem_mem hlt)
            rw [← hn] at q1
            rw [← hps] at q2 q3
            have hkk := HX5.out.sr.gr.keeps
            have Q3 := Lib.hid (And.intro q3.low (q3.keep hkk (by simp)))
            replace q1 := hkk.cell_some q1 (by simp)
            replace q2 := hkk.cell_some q2 (by simp)
            clear hc hn hps q3 hkk hnb hn5 hk5
            by_cases h5 : n = 5
            · subst h5
              have HCO := Lib.hid (HX5.out.compact HMH.out (by omega) HN5.out HNN.out)
              go_wp2_with fail
              refine HCO.out.mono ?_
              rintro e w6 (⟨rfl, B6, d6, g6, cs6, q6, hx6⟩ | ⟨rfl, B6, d6, cs6, next6, q6, hx6⟩)
              · have HX6 := Lib.hid hx6
                have HD6 := Lib.hid (down_any w6 sp mb lp false _ hx6.sr.st)
                clear hx6
                go_wp2_with fail
                refine HD6.out.mono ?_
                rintro e w7 ⟨rfl, rfl⟩
                go_wp2_with fail
                go_roundw
                case rel => exact ⟨k + 1, m, by omega, by go_num, .inl ⟨_, _, _, _, _, HX6.out⟩⟩
                case measure => simp [RowKit.intOf]; omega
              · have HX6 := Lib.hid hx6
                have HD6 := Lib.hid (down_any w6 sp mb lp true _ hx6.sn.st)
                have HA6 := Lib.hid hx6.alike
                clear hx6
                go_wp2_with fail
                refine HD6.out.mono ?_
                rintro e w7 ⟨rfl, rfl⟩
                go_wp2_with fail
                refine HA6.out.mono ?_
                rintro e w8 ⟨rfl, hk8⟩
                have HX8 := Lib.hid (HX6.out.step hk8)
                have HAP := Lib.hid (apply_down w8 sp mb lp _ (.slice none 0 0) HX8.out.sn.st)
                have HCD := Lib.hid (compact_down w8 sp mb lp _ HX8.out.sn.st)
                clear hk8
                go_wp2_with fail
                refine HAP.out.mono ?_
                rintro e w9 ⟨rfl, rfl⟩
                go_wp2_with fail
                refine HCD.out.mono ?_
                rintro e w9 ⟨rfl, rfl⟩
                go_wp2_with fail
                go_roundw
                case rel => exact ⟨k + 1, m, by omega, by go_num, .inr ⟨nb, _, _, _, _, _, m, rfl, HX8.out⟩⟩
                case measure => simp [RowKit.intOf]; omega
            · have n5 : decide (n = 5) = false := by simpa using h5
              have n5b : (n == 5) = false := by simpa using h5
              clear h5
              have HPA := Lib.hid (HX5.out.pairs HMH.out (by omega) HW.out HN5.out HNN.out HNM.out (cap := cp) Q3.out.2 (Q3.out.1.imp id (fun hg => Nat.lt_of_lt_of_le hg HW.out)) hp5)
              go_wp2_with fail
              refine HPA.out.mono ?_
              rintro e w5a ⟨A5, c5, rfl, hap⟩
              have HAP5 := Lib.hid hap
              clear hap
              go_wp2_with fail
              refine HAP5.out.mono ?_
              rintro e w6 (⟨rfl, B6, d6, g6, cs6, q6, hx6⟩ | ⟨rfl, B6, d6, cs6, next6, q6, hx6⟩)
              · have HX6 := Lib.hid hx6
                have HD6 := Lib.hid (down_any w6 sp mb lp false _ hx6.sr.st)
                clear hx6
                go_wp2_with fail
                refine HD6.out.mono ?_
                rintro e w7 ⟨rfl, rfl⟩
                go_wp2_with fail
                go_roundw
                case rel => exact ⟨k + 1, St.apps m (mkc k ps), by omega, by go_num, .inl ⟨_, _, _, _, _, HX6.out⟩⟩
                case measure => simp [RowKit.intOf]; omega
              · have HX6 := Lib.hid hx6
                have HD6 := Lib.hid (down_any w6 sp mb lp true _ hx6.sn.st)
                have HA6 := Lib.hid hx6.alike
                clear hx6
                go_wp2_with fail
                refine HD6.out.mono ?_
                rintro e w7 ⟨rfl, rfl⟩
                go_wp2_with fail
                refine HA6.out.mono ?_
                rintro e w8 ⟨rfl, hk8⟩
                have HX8 := Lib.hid (HX6.out.step hk8)
                have HAP := Lib.hid (apply_down w8 sp mb lp _ (.slice none 0 0) HX8.out.sn.st)
                have HCD := Lib.hid (compact_down w8 sp mb lp _ HX8.out.sn.st)
                clear hk8
                go_wp2_with fail
                refine HAP.out.mono ?_
                rintro e w9 ⟨rfl, rfl⟩
                go_wp2_with fail
                refine HCD.out.mono ?_
                rintro e w9 ⟨rfl, rfl⟩
                go_wp2_with fail
                go_roundw
                case rel => exact ⟨k + 1, St.apps m (mkc k ps), by omega, by go_num, .inr ⟨nb, _, _, _, _, _, m, rfl, HX8.out⟩⟩
                case measure => simp [RowKit.intOf]; omega
        · go_wp2_with fail
          refine HDN.out.mono ?_
          rintro e w9 ⟨rfl, rfl⟩
          have HCR := Lib.hid (HX0.out.wakes HMH.out (by omega) keep HKP.out torn pos)
          go_wp2_with fail
          refine HCR.out.mono ?_
          rintro e w10 ⟨rfl, hop⟩
          have HOP := Lib.hid hop
          clear hop
          go_wp2_with fail
          refine HOP.out.mono ?_
          rintro e w11 ⟨sp2, mb2, lp2, q2, rfl, hpw, _, _, hor⟩
          have HPW := Lib.hid hpw
          have HD2 := Lib.hid (down_any w11 sp2 mb2 lp2 false _ hpw.st)
          have HAL := Lib.hid (fsame_any hpw.st hpw.map hpw.small.1 hpw.small.2)
          rw [same_perm hpw.st.map.1 (hor.elim id id)] at HAL
          clear hpw hor
          go_wp2_with fail
          refine HD2.out.mono ?_
          rintro e w12 ⟨rfl, rfl⟩
          go_wp2_with fail
          refine HAL.out.mono ?_
          rintro e w13 ⟨rfl, hk13⟩
          go_wp2_with fail
          go_ret
          exact ⟨rfl, HPW.out.keeps.trans hk13 (by simp)⟩
      · have HX0 := Lib.hid hx
        have HDN := Lib.hid (down_any wr sp mb lp true _ hx.sn.st)
        clear hx
        by_cases hlt : k < l.length
        · go_wp2_with fail
          refine HDN.out.mono ?_
          rintro e w9 ⟨rfl, rfl⟩
          go_wp2_with fail
          refine HDN.out.mono ?_
          rintro e w9 ⟨rfl, rfl⟩
          have HCR := Lib.hid (HX0.out.wakes keep HKP.out torn pos)
          go_wp2_with fail
          refine HCR.out.mono ?_
          rintro e w10 ⟨rfl, hop⟩
          have HOP := Lib.hid hop
          clear hop
          go_wp2_with fail
          refine HOP.out.mono ?_
          rintro e w11 ⟨sp2, mb2, lp2, q2, rfl, hpw, hwas, hsa, hor⟩
          have HPW := Lib.hid hpw
          have HWAS := Lib.hid hwas
          have HSA := Lib.hid hsa
          have HD2 := Lib.hid (down_any w11 sp2 mb2 lp2 false _ hpw.st)
          have HAL := Lib.hid (fsame_any hpw.st hpw.map hpw.small.1 hpw.small.2)
          obtain ⟨r, hr⟩ : ∃ r, r = same7 q2 m := ⟨_, rfl⟩
          rw [← hr] at HAL
          have hrr : r = false → q2.Perm a := fun e => hor.elim (fun hp => by rw [e, same_perm hpw.st.map.1 hp] at hr; cases hr) id
          have HRR := Lib.hid hrr
          clear hpw hwas hsa hor hr hrr
          cases r with
          | true =>
            go_wp2_with fail
            refine HD2.out.mono ?_
            rintro e w12 ⟨rfl, rfl⟩
            go_wp2_with fail
            refine HAL.out.mono ?_
            rintro e w13 ⟨rfl, hk13⟩
            go_wp2_with fail
            go_ret
            exact ⟨rfl, HPW.out.keeps.trans hk13 (by simp)⟩
          | false =>
            have HQA := Lib.hid (HRR.out rfl)
            go_wp2_with fail
            refine HD2.out.mono ?_
            rintro e w12 ⟨rfl, rfl⟩
            go_wp2_with fail
            refine HAL.out.mono ?_
            rintro e w13 ⟨rfl, hk13⟩
            have HAL2 := Lib.hid (fsame_any (HPW.out.st.keep0 hk13) (HWAS.out.keep hk13 (by simp)) HPW.out.small.1 HSA.out)
            rw [same_perm HPW.out.st.map.1 HQA.out] at HAL2
            have HK13 := Lib.hid (HPW.out.keeps.trans hk13 (by simp))
            clear hk13
            go_wp2_with fail
            refine HAL2.out.mono ?_
            rintro e w14 ⟨rfl, hk14⟩
            go_wp2_with fail
            go_ret
            exact ⟨rfl, HK13.out.trans hk14 (by simp)⟩
        · go_wp2_with fail
          refine HDN.out.mono ?_
          rintro e w9 ⟨rfl, rfl⟩
          have HCR := Lib.hid (HX0.out.wakes keep HKP.out torn pos)
          go_wp2_with fail
          refine HCR.out.mono ?_
          rintro e w10 ⟨rfl, hop⟩
          have HOP := Lib.hid hop
          clear hop
          go_wp2_with fail
          refine HOP.out.mono ?_
          rintro e w11 ⟨sp2, mb2, lp2, q2, rfl, hpw, hwas, hsa, hor⟩
          have HPW := Lib.hid hpw
          have HWAS := Lib.hid hwas
          have HSA := Lib.hid hsa
          have HD2 := Lib.hid (down_any w11 sp2 mb2 lp2 false _ hpw.st)
          have HAL := Lib.hid (fsame_any hpw.st hpw.map hpw.small.1 hpw.small.2)
          obtain ⟨r, hr⟩ : ∃ r, r = same7 q2 m := ⟨_, rfl⟩
          rw [← hr] at HAL
          have hrr : r = false → q2.Perm a := fun e => hor.elim (fun hp => by rw [e, same_perm hpw.st.map.1 hp] at hr; cases hr) id
          have HRR := Lib.hid hrr
          clear hpw hwas hsa hor hr hrr
          cases r with
          | true =>
            go_wp2_with fail
            refine HD2.out.mono ?_
            rintro e w12 ⟨rfl, rfl⟩
            go_wp2_with fail
            refine HAL.out.mono ?_
            rintro e w13 ⟨rfl, hk13⟩
            go_wp2_with fail
            go_ret
            exact ⟨rfl, HPW.out.keeps.trans hk13 (by simp)⟩
          | false =>
            have HQA := Lib.hid (HRR.out rfl)
            go_wp2_with fail
            refine HD2.out.mono ?_
            rintro e w12 ⟨rfl, rfl⟩
            go_wp2_with fail
            refine HAL.out.mono ?_
            rintro e w13 ⟨rfl, hk13⟩
            have HAL2 := Lib.hid (fsame_any (HPW.out.st.keep0 hk13) (HWAS.out.keep hk13 (by simp)) HPW.out.small.1 HSA.out)
            rw [same_perm HPW.out.st.map.1 HQA.out] at HAL2
            have HK13 := Lib.hid (HPW.out.keeps.trans hk13 (by simp))
            clear hk13
            go_wp2_with fail
            refine HAL2.out.mono ?_
            rintro e w14 ⟨rfl, hk14⟩
            go_wp2_with fail
            go_ret
            exact ⟨rfl, HK13.out.trans hk14 (by simp)⟩
  · have e1 : decide (SLight l) = false := by simpa using hl
    rw [e1] at HLI
    clear hl e1
    go_enter Tryz.func4, Tryz.ntmps4
    go_wp2_with fail
    refine HKN.out.mono ?_
    rintro e w1 ⟨rfl, hk1⟩
    have HK1 := Lib.hid hk1
    have HLI1 := Lib.hid (HLI.out w1 hk1)
    clear hk1
    go_wp2_with fail
    refine HLI1.out.mono ?_
    rintro e w1b ⟨rfl, hk1b⟩
    have HK1b := Lib.hid (HK1.out.trans hk1b (by simp))
    clear hk1b
    go_wp2_with fail
    go_ret
    exact ⟨rfl, HK1b.out⟩
end Go.Proofs.YtbanpdeganlndaaGreatDoor
