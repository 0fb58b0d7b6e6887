/- With the merged texts: SRoundsW -/
import Derived.Test.YtbanpdeganlndaaGreatDoorQ17
namespace Go.Proofs.YtbanpdeganlndaaGreatDoor
open Go.RowKit
open Reg (Is Fact)
open St (Tx As Ch)

attribute [local go_sem] Reg.lateFr Reg.wantedV Reg.gives_value Reg.gives_skip Reg.gives_enter in
set_option maxRecDepth 100000 in
set_option maxHeartbeats 4000000 in
theorem srounds_any (w : World) (ht : TabAt w) (hp : 1 < w.heap.size) (n g0 cap : Nat) (A : Option Addr) (ls : List UInt8) (hr : BytesIn w g0 A ls) (hn : n < 65536) :
    Calls Tryz.prog 6 #[.int .u16 (n : Int), .slice A ls.length cap] w fun e w' => e = .returned (.bool true) ∧ Keeps [] w w' := by
  have HT := Lib.hid ht
  have HR := Lib.hid hr
  have HKN := Lib.hid (sknown_any w ht hp)
  clear ht hr
  have hmm := @run_makeMap Tryz.prog
  by_cases hz : ls.length = 0
  · have e0 : ((ls.length : Int) == 0) = true := by simpa using hz
    have e0d : decide ((ls.length : Int) = 0) = true := by simpa using hz
    have e0n : decide (ls.length = 0) = true := by simpa using hz
    go_enter Tryz.func6, Tryz.ntmps6
    go_wp2_with fail
    refine HKN.out.mono ?_
    rintro e w1 ⟨rfl, hk1⟩
    have HK1 := Lib.hid hk1
    clear hk1
    go_wp2_with fail
    go_ret
    exact ⟨rfl, HK1.out⟩
  · have e0 : ((ls.length : Int) == 0) = false := by simpa using hz
    have e0d : decide ((ls.length : Int) = 0) = false := by simpa using hz
    have e0n : decide (ls.length = 0) = false := by simpa using hz
    by_cases hl : ls.length ≤ 10
    · have e1 : decide ((10 : Int) < (ls.length : Int)) = false := by simp; omega
      obtain ⟨c, hc⟩ : ∃ c, c = n % 300 := ⟨_, rfl⟩
      have ec : (n : Int) % 300 = (c : Int) := by omega
      have hc3 : c < 300 := by omega
      clear hc
      go_enter Tryz.func6, Tryz.ntmps6
      go_wp2_with fail
      refine HKN.out.mono ?_
      rintro e w1 ⟨rfl, hk1⟩
      have HK1 := Lib.hid hk1
      have HN := Lib.hid (newD_any w1 200 256 (by omega) (by omega))
      clear hk1
      go_wp2_with fail
      refine HN.out.mono ?_
      intro e w2 hnew
      obtain ⟨h, rfl, ho⟩ := sr_new HK1.out HT.out hp hnew (by omega) (by omega)
      have HO := Lib.hid ho
      clear hnew ho
      go_wp2_with fail
      refine HO.out.mono ?_
      rintro e w3 ⟨sp, mb, lp, B0, d0, g3, rfl, hlit, hu, hsr, hk3⟩
      have hkm : Keeps [] w3 (w3.alloc (.map #[] 0)) := (Keeps.refl _ _).alloc _
      have hlow := hsr.low
      have HMH := Lib.hid (show w3.heap.size ∉ h.l from fun hm => by have := hlow w3.heap.size (by simp [hm]); omega)
      have HW := Lib.hid hk3.size
      have HPI := Lib.hid (show RI w (w3.alloc (.map #[] 0)) h w3.heap.size 0 sp mb lp B0 d0 g3 [] [] [] from
        ⟨hsr.step hkm, hlit, MapAt.made w3 ES, List.Perm.refl _, fun e => by have := hlow mb (by simp); omega, by intro p hp; simp at hp, by simp, by simp⟩)
      clear hlit hu hsr hk3 hkm hlow
      go_wp2_with fail
      go_loopw [9] (fun iv wr => ∃ k : Nat, k ≤ c ∧ iv = .int .i64 (k : Int) ∧ ∃ B d g cs q m, RI w wr h w3.heap.size k sp mb lp B d g cs q m) (fun iv _ => c - (RowKit.intOf iv).toNat)
      case atStart => exact ⟨0, by omega, rfl, _, _, _, _, _, _, HPI.out⟩
      case round =>
        obtain ⟨k, hk, rfl, B, d, g, cs, q, m, hx⟩ := hrel
        have HX0 := Lib.hid hx
        clear hx
        by_cases hlt : k < c
        · rcases HR.out.keep HX0.out.sr.gr.keeps (by simp) with h0 | ⟨off, rfl, hcell⟩
          · rw [h0] at hz; simp at hz
          · obtain ⟨k3, hk3⟩ : ∃ x, x = k % 3 := ⟨_, rfl⟩
            obtain ⟨j, hj⟩ : ∃ x, x = k % ls.length := ⟨_, rfl⟩
            have hjl : j < ls.length := by rw [hj]; exact Nat.mod_lt _ (by omega)
            have e3 : (k : Int) % 3 = (k3 : Int) := by omega
            have e3t : Int.tmod (k : Int) 3 = (k3 : Int) := by rw [Int.tmod_eq_emod_of_nonneg (by omega)]; exact e3
            have ej : (k : Int) % (ls.length : Int) = (j : Int) := by rw [hj]; exact (Int.natCast_emod k ls.length).symm
            have ejt : Int.tmod (k : Int) (ls.length : Int) = (j : Int) := by rw [Int.tmod_eq_emod_of_nonneg (by omega)]; exact ej
            have hk33 : k3 < 3 := by omega
            have w8 : IntKind.u8.wrap (k3 : Int) = (k3 : Int) := by simp [IntKind.wrap, IntKind.bits, IntKind.signed]; omega
            have c0 := Lib.hid (hcell j hjl)
            obtain ⟨b, hb⟩ : ∃ b, b = (ls[j]'hjl).toNat := ⟨_, rfl⟩
            have hb2 : b < 256 := by rw [hb]; exact (ls[j]'hjl).toNat_lt
            rw [← hb] at c0
            have w64 : IntKind.i64.wrap (b : Int) = (b : Int) := IntWalk.i64_in _ ⟨by omega, by omega⟩
            have hvl := St.vst_len k b
            have HKY := Lib.hid (fun w' => key_any k3 w' (by omega))
            have HVA := Lib.hid (fun w' => value_any k b w' (by omega) (by omega))
            obtain ⟨ka, hka⟩ : ∃ a, a = strO (St.kst k3) := ⟨_, rfl⟩
            obtain ⟨va, hva⟩ : ∃ a, a = strO (St.vst k b) := ⟨_, rfl⟩
            rw [← hka] at HKY
            rw [← hva] at HVA
            have HKA := Lib.hid hka
            have HVV := Lib.hid hva
            have HVL := Lib.hid (show (St.vst k b).length ≤ 255 by omega)
            have e300 : decide ((k : Int) < (c : Int)) = true := by simp; omega
            clear hcell hka hva hb hk3 hj hvl
            go_wp2_with fail
            refine Reg.wp_region_state (A := ?A) (fun _ w' => Keeps [] wr w') (fun _ _ => True)
              (Is (.int .i64 (k : Int)) :: Is (.int .i64 (k3 : Int)) :: Is (.int .u8 (k3 : Int)) :: Is (.string ka) :: Is (.int .i64 (k : Int)) :: Is (.slice (some ⟨g0, off, none⟩) ls.length cap) :: Is (.int .i64 (k : Int)) :: Is (.slice (some ⟨g0, off, none⟩) ls.length cap) :: Is (.int .i64 (ls.length : Int)) :: Is (.int .i64 (j : Int)) :: Is (.pointer (some ⟨g0, off + j, none⟩)) :: Is (.int .u8 (b : Int)) :: Is (.int .i64 (b : Int)) :: Is (.string va) :: Is (.string ka) :: Is (.string va) :: [])
              (by kernel_rfl) (by kernel_rfl) rfl ?hA ?hC ?ho ?hlast ?hend
            case hA => intro vs; simp only [Reg.fill, if_true, Nat.zero_add, Nat.reduceAdd, Act.put, List.setIfInBounds_toArray, List.set_cons_succ, List.set_cons_zero]; exact rfl
            case hC => exact (Keeps.refl _ _).drew
            case hlast => repeat (first | exact trivial | refine ⟨fun _ _ _ h _ => h, ?_⟩)
            case ho =>
              repeat' apply And.intro
              all_goals
                first
                  | exact trivial
                  | (intro L vs w' hC hL hd K hK
                     try simp only [Reg.Deps, Reg.at_, List.getD_cons_zero, List.getD_cons_succ, Region.binds, true_implies, Is, and_true] at hd
                     have hx0' := hC.cell_some c0.out (by simp)
                     go_simp
                     first
                       | exact hK _ _ hC trivial rfl
                       | skip)
              · refine (HKY.out w').mono ?_
                rintro e w2 ⟨rfl, hk⟩
                exact ⟨_, rfl, hK _ _ (hC.trans hk (by simp)) trivial rfl⟩
              · refine (HVA.out w').mono ?_
                rintro e w2 ⟨rfl, hk⟩
                exact ⟨_, rfl, hK _ _ (hC.trans hk (by simp)) trivial rfl⟩
            case hend =>
              intro vs w2 hC hall
              simp only [Reg.All, Is, and_true, Nat.zero_add, Nat.reduceAdd] at hall
              obtain ⟨-, -, -, -, -, -, -, -, -, -, -, -, -, -, e14, e15⟩ := hall
              rw [e14, e15]
              have HX2 := Lib.hid (HX0.out.step hC)
              clear hC e14 e15
              have hka2 : Keeps [] w2 (w2.alloc (.cells #[.string ka, .string va, .bool false] 66)) := (Keeps.refl _ _).alloc _
              have hlow := HX2.out.sr.low
              have HCG := Lib.hid ((HX2.out.step hka2).change HMH.out HW.out (by omega) (gp := w2.heap.size) (A := some ⟨w2.heap.size, 0, none⟩) (St.kst_mem k3) HVL.out
                (.inr ⟨0, rfl, fun i hi => by
                  have hi0 : i = 0 := by simpa using hi
                  subst hi0
                  refine ⟨?_, ?_, ?_⟩
                  · rw [row_cell (heap_alloc_new w2 _), HKA.out]; rfl
                  · rw [row_cell (heap_alloc_new w2 _), HVV.out]; rfl
                  · rw [row_cell (heap_alloc_new w2 _)]; rfl⟩) (fun hm => by have := hlow _ hm; omega) (by simp))
              clear hka2 hlow w8 w64 e3 e3t ej ejt
              go_wp2_with fail
              refine HCG.out.mono ?_
              rintro e w5 ⟨rfl, hm5, hnext⟩
              have HM5 := Lib.hid hm5
              have HNX := Lib.hid hnext
              have HQL := Lib.hid (show List.length m < maxLen by
                have := ((HX0.out.small.perm HX0.out.same).facts (St.keyed_perm HX0.out.sr.keyed HX0.out.same)).1
                unfold maxLen; omega)
              clear hm5 hnext
              go_wp2_with (at_mapUpdate; refine wpList_store_map rfl _ rfl _ _ _ 31 rfl 9 Tryz.underlying31 w3.heap.size ES m rfl HM5.out HQL.out (St.kst k3) (St.vst k b) (congrArg Value.string HKA.out) (congrArg Value.string HVV.out) (by have := St.ks_len _ (St.kst_mem k3); unfold maxLen; omega) ?_)
              intro w6 hm6 hk6
              obtain ⟨B6, d6, g6, cs6, hx6⟩ := HNX.out w6 hk6 hm6
              have HX6 := Lib.hid hx6
              clear hm6 hk6 hx6
              go_wp2_with fail
              go_roundw
              case rel => exact ⟨k + 1, by omega, by go_num, B6, d6, g6, cs6, _, _, HX6.out⟩
              case measure => simp [RowKit.intOf]; omega
        · have e300 : decide ((k : Int) < (c : Int)) = false := by simp; omega
          have HAL := Lib.hid HX0.out.alike
          have hk1000 : k ≤ 1000 := by omega
          go_wp2_with fail
          refine HAL.out.mono ?_
          rintro e w5 ⟨rfl, hk5⟩
          have HOP := Lib.hid ((HX0.out.step hk5).opens HMH.out hk1000)
          clear hk5
          go_wp2_with fail
          refine HOP.out.mono ?_
          rintro e w6 ⟨sp6, mb6, lp6, B6, d6, g6, rfl, hx6⟩
          have HX6 := Lib.hid hx6
          have HAL6 := Lib.hid hx6.alike
          clear hx6
          go_wp2_with fail
          refine HAL6.out.mono ?_
          rintro e w7 ⟨rfl, hk7⟩
          go_wp2_with fail
          go_ret
          exact ⟨rfl, HX6.out.sr.gr.keeps.trans hk7 (by simp)⟩
    · have e1 : decide ((10 : Int) < (ls.length : Int)) = true := by simp; omega
      go_enter Tryz.func6, Tryz.ntmps6
      go_wp2_with fail
      refine HKN.out.mono ?_
      rintro e w1 ⟨rfl, hk1⟩
      have HK1 := Lib.hid hk1
      clear hk1
      go_wp2_with fail
      go_ret
      exact ⟨rfl, HK1.out⟩
end Go.Proofs.YtbanpdeganlndaaGreatDoor
