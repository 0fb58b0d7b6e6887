/- With the merged texts: SPlaysW -/
import Derived.Test.YtbanpdeganlndaaGreatDoorQ16
namespace Go.Proofs.YtbanpdeganlndaaGreatDoor
open Go.RowKit
open Reg (Is Fact)
open St (Tx As Ch)

set_option maxRecDepth 100000 in
set_option maxHeartbeats 2000000 in
theorem splays_any (w : World) (ht : TabAt w) (hp : 1 < w.heap.size) (cap : Nat) (A : Option Addr) (l : List (Int × List LP)) (hr : SActsIn w A l) :
    Calls Tryz.prog 3 #[.slice A l.length cap] w fun e w' => e = .returned (.bool true) ∧ Keeps [] w w' := by
  have HT := Lib.hid ht
  have HR := Lib.hid hr
  have HKN := Lib.hid (sknown_any w ht hp)
  have HLI := Lib.hid (fun w' (hk : Keeps [] w w') => slight_any w' A cap l (hr.keep0 hk))
  clear ht hr
  have hmm := @run_makeMap Tryz.prog
  by_cases hl : SLight l
  · have e1 : decide (SLight l) = true := by simpa using hl
    rw [e1] at HLI
    go_enter Tryz.func3, Tryz.ntmps3
    go_wp2_with fail
    refine HKN.out.mono ?_
    rintro e w1 ⟨rfl, hk1⟩
    have HK1 := Lib.hid hk1
    have HLI1 := Lib.hid (HLI.out w1 hk1)
    clear hk1 e1
    go_wp2_with fail
    refine HLI1.out.mono ?_
    rintro e w1b ⟨rfl, hk1b⟩
    have HK1b := Lib.hid (HK1.out.trans hk1b (by simp))
    have HN := Lib.hid (newD_any w1b 400 512 (by omega) (by omega))
    clear hk1b
    go_wp2_with fail
    refine HN.out.mono ?_
    intro e w2 hnew
    obtain ⟨h, rfl, ho⟩ := sr_new HK1b.out HT.out hp hnew (by omega) (by omega)
    have HO := Lib.hid ho
    clear hnew ho
    go_wp2_with fail
    refine HO.out.mono ?_
    rintro e w3 ⟨sp0, mb0, lp0, B0, d0, g0, rfl, hlit, hu, hsr, hk3⟩
    have hkm : Keeps [] w3 (w3.alloc (.map #[] 0)) := (Keeps.refl _ _).alloc _
    have hlow := hsr.low
    have HMH := Lib.hid (show w3.heap.size ∉ h.l from fun hm => by have := hlow w3.heap.size (by simp [hm]); omega)
    have HW := Lib.hid hk3.size
    have HPI := Lib.hid (show PI w (w3.alloc (.map #[] 0)) h w3.heap.size 0 sp0 mb0 lp0 B0 d0 g0 [] [] [] from
      ⟨hsr.step hkm, hlit, by omega, MapAt.made w3 ES, List.Perm.refl _, fun e => by have := hlow mb0 (by simp); omega, by intro p hp; simp at hp, by simp, by simp⟩)
    clear hlit hu hsr hk3 hkm hlow
    obtain ⟨hl1, hl2⟩ := hl
    have HL2 := Lib.hid hl2
    clear hl2
    go_wp2_with fail
    go_loopw [4, 7] (fun sv iv wr => ∃ k : Nat, k ≤ l.length ∧ iv = .int .i64 (k : Int) ∧ ∃ sp mb lp B d g cs q m, sv = .pointer (some ⟨sp, 0, none⟩) ∧ PI w wr h w3.heap.size k sp mb lp B d g cs q m) (fun _ iv _ => l.length - (RowKit.intOf iv).toNat)
    case atStart => exact ⟨0, by omega, rfl, _, _, _, _, _, _, _, _, _, rfl, HPI.out⟩
    case round =>
      obtain ⟨k, hk, rfl, sp, mb, lp, B, d, g, cs, q, m, rfl, hx⟩ := hrel
      have HX0 := Lib.hid hx
      clear hx
      by_cases hlt : k < l.length
      · rcases HR.out with h0 | ⟨b, off, rfl, hc⟩
        · rw [h0] at hlt; simp at hlt
        · obtain ⟨Bl, cp, gl, q1, q2, q3⟩ := hc k hlt
          obtain ⟨n, hn⟩ : ∃ n, n = (l[k]).1 := ⟨_, rfl⟩
          obtain ⟨ps, hps⟩ : ∃ ps, ps = (l[k]).2 := ⟨_, rfl⟩
          have hp5 : ps.length ≤ 5 := by rw [hps]; exact HL2.out _ (List.getElem_mem hlt)
          rw [← hn] at q1
          rw [← hps] at q2 q3
          have hkk := HX0.out.sr.gr.keeps
          have Q3 := Lib.hid (And.intro q3.low (q3.keep hkk (by simp)))
          replace q1 := hkk.cell_some q1 (by simp)
          replace q2 := hkk.cell_some q2 (by simp)
          clear hc hn hps q3 hkk
          by_cases h5 : n = 5
          · subst h5
            have HCO := Lib.hid (HX0.out.compact HMH.out)
            go_wp2_with fail
            refine HCO.out.mono ?_
            rintro e w5 ⟨B5, d5, g5, cs5, rfl, hx5⟩
            have HX := Lib.hid hx5.up
            clear hx5
            go_wp2_with fail
            have HAL := Lib.hid (HX.out.alike)
            go_wp2_with fail
            refine HAL.out.mono ?_
            rintro e wz ⟨rfl, hkz⟩
            have HXZ := Lib.hid (HX.out.step hkz)
            clear hkz
            go_wp2_with fail
            go_roundw
            case rel => exact ⟨k + 1, by omega, by go_num, sp, mb, lp, B5, d5, g5, cs5, q, m, by first | rfl | trace_state, HXZ.out⟩
            case measure => simp [RowKit.intOf]; omega
          · have n5 : decide (n = 5) = false := by simpa using h5
            have n5b : (n == 5) = false := by simpa using h5
            by_cases h6 : n = 6
            · subst h6
              have HOP := Lib.hid (HX0.out.opens HMH.out (by omega))
              clear n5 n5b h5
              go_wp2_with fail
              refine HOP.out.mono ?_
              rintro e w5 ⟨sp5, mb5, lp5, B5, d5, g5, rfl, hx5⟩
              have HX := Lib.hid hx5.up
              clear hx5
              go_wp2_with fail
              have HAL := Lib.hid (HX.out.alike)
              go_wp2_with fail
              refine HAL.out.mono ?_
              rintro e wz ⟨rfl, hkz⟩
              have HXZ := Lib.hid (HX.out.step hkz)
              clear hkz
              go_wp2_with fail
              go_roundw
              case rel => exact ⟨k + 1, by omega, by go_num, sp5, mb5, lp5, B5, d5, g5, cs, St.apps [] cs, m, by first | rfl | trace_state, HXZ.out⟩
              case measure => simp [RowKit.intOf]; omega
            · have n6 : decide (n = 6) = false := by simpa using h6
              have n6b : (n == 6) = false := by simpa using h6
              clear h5 h6
              have HPA := Lib.hid (HX0.out.pairs HMH.out (by omega) HW.out (cap := cp) Q3.out.2 (Q3.out.1.imp id (fun hg => Nat.lt_of_lt_of_le hg HW.out)) hp5)
              go_wp2_with fail
              refine HPA.out.mono ?_
              rintro e w4 ⟨A5, c5, rfl, hap⟩
              have HAP := Lib.hid hap
              clear hap
              go_wp2_with fail
              refine HAP.out.mono ?_
              rintro e w5 ⟨B5, d5, g5, cs5, l5, rfl, hx5⟩
              have HX := Lib.hid hx5
              clear hx5
              go_wp2_with fail
              have HAL := Lib.hid (HX.out.alike)
              go_wp2_with fail
              refine HAL.out.mono ?_
              rintro e wz ⟨rfl, hkz⟩
              have HXZ := Lib.hid (HX.out.step hkz)
              clear hkz
              go_wp2_with fail
              go_roundw
              case rel => exact ⟨k + 1, by omega, by go_num, sp, mb, lp, B5, d5, g5, cs5, l5, St.apps m (mkc k ps), by first | rfl | trace_state, HXZ.out⟩
              case measure => simp [RowKit.intOf]; omega
      · have HDN := Lib.hid (down_any wr sp mb lp false _ HX0.out.sr.st)
        go_wp2_with fail
        refine HDN.out.mono ?_
        rintro e w9 ⟨rfl, rfl⟩
        go_wp2_with fail
        go_ret
        exact ⟨rfl, HX0.out.sr.gr.keeps⟩
  · have e1 : decide (SLight l) = false := by simpa using hl
    rw [e1] at HLI
    clear hl e1
    go_enter Tryz.func3, Tryz.ntmps3
    go_wp2_with fail
    refine HKN.out.mono ?_
    rintro e w1 ⟨rfl, hk1⟩
    have HK1 := Lib.hid hk1
    have HLI1 := Lib.hid (HLI.out w1 hk1)
    clear hk1
    go_wp2_with fail
    refine HLI1.out.mono ?_
    rintro e w1b ⟨rfl, hk1b⟩
    have HK1b := Lib.hid (HK1.out.trans hk1b (by simp))
    clear hk1b
    go_wp2_with fail
    go_ret
    exact ⟨rfl, HK1b.out⟩
end Go.Proofs.YtbanpdeganlndaaGreatDoor
