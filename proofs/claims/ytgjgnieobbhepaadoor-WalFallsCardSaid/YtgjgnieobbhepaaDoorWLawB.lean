/- The laws' helper same. -/
import Derived.Test.YtgjgnieobbhepaaDoorWLawA
namespace Go.Proofs.YtgjgnieobbhepaaDoor
open Go.RowKit
open Reg (Is Fact CB)

attribute [local go_sem] Reg.lateFr Reg.wantedV Reg.gives_value Reg.gives_skip Reg.gives_enter
theorem text_ne (l m : List UInt8) : (!((strOf l).toList == (strOf m).toList)) = decide (l ≠ m) := by
  rw [ByteArray.toList_eq, ByteArray.toList_eq, Bool.eq_iff_iff]
  simp [strOf]
set_option maxRecDepth 100000 in
set_option maxHeartbeats 4000000 in
theorem same_any (w : World) (G1 G2 : Nat → Prop) (A1 A2 : Option Addr) (l1 l2 : List (List UInt8)) (c1 c2 : Nat) (h1 : RowsIn w G1 A1 l1) (h2 : RowsIn w G2 A2 l2) (hm : l1.length ≤ maxLen) :
    Calls Tryd.prog 16 #[.slice A1 l1.length c1, .slice A2 l2.length c2] w fun e w' => e = .returned (.bool (decide (l1 = l2))) ∧ Keeps [] w w' := by
  have H1 := Lib.hid h1
  have H2 := Lib.hid h2
  unfold maxLen at hm
  clear h1 h2
  by_cases hlen : l1.length = l2.length
  · have el : decide ((l1.length : Int) = (l2.length : Int)) = true := by simp; omega
    have HL := Lib.hid hlen
    obtain ⟨n, hn⟩ : ∃ n, n = l2.length := ⟨_, rfl⟩
    have HN := Lib.hid hn
    rw [← hn] at hlen el ⊢
    rw [hlen] at hm el ⊢
    clear hn
    go_enter Tryd.func16, Tryd.ntmps16
    go_wp2_with fail
    go_loopw [5] (fun kv wr => ∃ k : Nat, k ≤ n ∧ kv = .int .i64 (k : Int) ∧ l1.take k = l2.take k ∧ Keeps [] w wr) (fun kv _ => n - (RowKit.intOf kv).toNat)
    case atStart => exact ⟨0, by omega, rfl, by simp, Keeps.refl _ _⟩
    case round =>
      obtain ⟨k, hk, rfl, htk, hkk⟩ := hrel
      have HTK := Lib.hid htk
      have HKK := Lib.hid hkk
      have HLEN := Lib.hid hlen
      clear htk hkk hlen
      by_cases hlt : k < n
      · have HNN := HN.out
        have hk1' : k < l1.length := by have := HLEN.out; omega
        have hk2 : k < l2.length := by omega
        have ek : IntKind.i64.wrap ((k : Int) + 1) = (k : Int) + 1 := IntWalk.i64_in _ ⟨by omega, by omega⟩
        rcases H1.out.keep HKK.out (by simp) (fun _ h => h) with h0 | ⟨b1, o1, rfl, _, hc1⟩
        · rw [h0] at hk1'; simp at hk1'
        rcases H2.out.keep HKK.out (by simp) (fun _ h => h) with h0 | ⟨b2, o2, rfl, _, hc2⟩
        · rw [h0] at hk2; simp at hk2
        obtain ⟨x1, d1, E1⟩ := hc1 k hk1'
        obtain ⟨x2, d2, E2⟩ := hc2 k hk2
        obtain ⟨Aa, ga, ca, rfl, ba, _⟩ := E1
        obtain ⟨Ab, gb, cb, rfl, bb, _⟩ := E2
        obtain ⟨la, hla⟩ : ∃ la, la = l1[k] := ⟨_, rfl⟩
        obtain ⟨lb, hlb⟩ : ∃ lb, lb = l2[k] := ⟨_, rfl⟩
        rw [← hla] at d1 ba
        rw [← hlb] at d2 bb
        have HBA := Lib.hid ba
        have HBB := Lib.hid bb
        have HLA := Lib.hid hla
        have HLB := Lib.hid hlb
        clear hc1 hc2 ba bb hla hlb HNN
        go_wp2_with fail
        refine Reg.wp_region_state (A := ?A) (fun _ w' => Keeps [] wr w') (Keeps [])
          [Is (.slice (some ⟨b1, o1, none⟩) n c1), Is (.int .i64 (k : Int)), Is (.pointer (some ⟨b1, o1 + k, none⟩)), Is (.slice Aa la.length ca), Is (.string (strOf la)),
           Is (.slice (some ⟨b2, o2, none⟩) n c2), Is (.int .i64 (k : Int)), Is (.pointer (some ⟨b2, o2 + k, none⟩)), Is (.slice Ab lb.length cb), Is (.string (strOf lb)), Is (.bool (decide (la ≠ lb)))]
          (by kernel_rfl) (by kernel_rfl) rfl ?hA ?hC ?ho ?hlast ?hend
        case hA => intro vs; simp only [Reg.fill, if_true, Nat.zero_add, Nat.reduceAdd, Act.put, List.setIfInBounds_toArray, List.set_cons_succ, List.set_cons_zero]; exact rfl
        case hC => exact (Keeps.refl _ _).drew
        case hlast => repeat (first | exact trivial | refine ⟨Is.keep0, ?_⟩)
        case ho =>
          repeat' apply And.intro
          all_goals
            first
              | exact trivial
              | (intro Ls vs w' hC hL hd K hK
                 try simp only [Reg.Deps, Reg.at_, List.getD_cons_zero, List.getD_cons_succ, Region.binds, true_implies, Is, and_true] at hd
                 have q1 := hC.cell_some d1 (by simp)
                 have q2 := hC.cell_some d2 (by simp)
                 go_simp
                 first
                   | exact hK _ _ hC (Keeps.refl _ _) rfl
                   | skip)
          · rw [conv_text w' ga Aa la ca (HBA.out.keep hC (by simp))]
            exact hK _ _ hC (Keeps.refl _ _) rfl
          · rw [conv_text w' gb Ab lb cb (HBB.out.keep hC (by simp))]
            exact hK _ _ hC (Keeps.refl _ _) rfl
          · refine hK _ _ hC (Keeps.refl _ _) ?_
            rw [text_ne]; rfl
        case hend =>
          intro vs w1 hk1 hall
          simp only [Reg.All, Is, and_true, Nat.zero_add, Nat.reduceAdd] at hall
          have hv : vs 10 = Value.bool (decide (la ≠ lb)) := by simp only [hall]
          have HK1 := Lib.hid hk1
          clear hall hk1
          by_cases he : la = lb
          · have e5 : decide (la ≠ lb) = false := by simpa using he
            rw [e5] at hv
            have HT2 := Lib.hid (show l1.take (k + 1) = l2.take (k + 1) by
              rw [List.take_succ_eq_append_getElem hk1', List.take_succ_eq_append_getElem hk2, HTK.out, ← HLA.out, ← HLB.out, he])
            clear he e5
            simp only [hv]
            go_wp2_with fail
            go_roundw
            case rel => exact ⟨k + 1, by omega, by push_cast; rfl, HT2.out, HKK.out.trans HK1.out (by simp)⟩
            case measure => simp [RowKit.intOf]; omega
          · have e5 : decide (la ≠ lb) = true := by simpa using he
            rw [e5] at hv
            have HNE := Lib.hid (show decide (l1 = l2) = false by
              rw [decide_eq_false_iff_not]
              intro e
              apply he
              rw [HLA.out, HLB.out]
              simp only [e])
            clear he e5
            simp only [hv]
            go_wp2_with fail
            go_ret
            exact ⟨by rw [HNE.out]; rfl, HKK.out.trans HK1.out (by simp)⟩
      · have hkn : k = n := by omega
        have HEQ := Lib.hid (show decide (l1 = l2) = true by
          rw [decide_eq_true_iff]
          have := HTK.out
          rwa [hkn, List.take_of_length_le (by have := HLEN.out; omega), List.take_of_length_le (by have := HN.out; omega)] at this)
        clear hkn
        go_wp2_with fail
        go_ret
        exact ⟨by rw [HEQ.out]; rfl, HKK.out⟩
  · have el : ((l1.length : Int) != (l2.length : Int)) = true := by simp; omega
    have HNE := Lib.hid (show decide (l1 = l2) = false by
      rw [decide_eq_false_iff_not]
      intro e
      apply hlen; rw [e])
    clear hlen
    go_enter Tryd.func16, Tryd.ntmps16
    go_wp2_with fail
    go_ret
    exact ⟨by rw [HNE.out]; rfl, Keeps.refl _ _⟩
end Go.Proofs.YtgjgnieobbhepaaDoor
