/- SumLong: many parts, the same bytes each, then empty ones: the checksum is the reference's and does not see the empty parts; the fingerprint is the reference's. -/
import Derived.Test.YtfkkbpiphcpljaaDoorTwo
namespace Go.Proofs.YtfkkbpiphcpljaaDoor.sumLong
open Go.ChangeShapes Go.WideShapes Go.ChangeAt Go.RowKit
open B (StrsAt texts)
open Two (Inv Roles)
open sumParts (crc_two)

attribute [local go_sem] Reg.lateFr Reg.wantedV Reg.gives_value Reg.gives_skip Reg.gives_enter

theorem slices_info : (Tryd.prog.info? 33).map (fun i => (i.zero, i.size, i.bytes)) = some (some (.slice none 0 0), 1, 24) := by kernel_rfl

def rp (k : Nat) (X : Value) : List Value := List.replicate k X
theorem rp_next (k : Nat) (X : Value) : rp (k + 1) X = rp k X ++ [X] := List.replicate_succ'
theorem rp_more (xs : List Value) (k : Nat) (X : Value) : xs ++ rp (k + 1) X = (xs ++ rp k X) ++ [X] := by rw [rp_next, List.append_assoc]

theorem rows_of_own {w : World} {base n : Nat} {v : Value} {cells : List Value} {ls : List (List UInt8)} (h : w.ownsRow base 33 1 v n cells) (hl : cells.length = ls.length)
    (hc : ∀ j (hj : j < ls.length), ∃ Aj cap, cells[j]? = some (.slice Aj ls[j].length cap) ∧ BytesAt w Aj ls[j] ∧ ls[j].length ≤ maxLen) : ∃ A cap, v = .slice A ls.length cap ∧ RowsAt w A ls := by
  have hn : cells.length = n := by simpa using h.1
  rcases h.2 with ⟨rfl, h0⟩ | ⟨g, cap, cur, rfl, hb, hg, hle, hm, hsz, htake⟩
  · have : ls = [] := List.eq_nil_of_length_eq_zero (by omega)
    subst this
    exact ⟨none, 0, rfl, .inl rfl⟩
  · refine ⟨some ⟨g, 0, none⟩, cap, by rw [← hl, hn], .inr ⟨g, 0, rfl, fun j hj => ?_⟩⟩
    obtain ⟨Aj, cj, k1, k2, k3⟩ := hc j hj
    refine ⟨Aj, cj, ?_, k2, k3⟩
    rw [Nat.zero_add, cell_of_row w g j cur _ (0, 0) hg]
    have h1 : (cur.toList.take (n * 1))[j]? = cells[j]? := by rw [htake]
    rw [List.getElem?_take_of_lt (by omega), k1] at h1
    simpa using h1

/-- t parts of the bytes l, then j empty ones. -/
def parts (l : List UInt8) (t j : Nat) : List (List UInt8) := List.replicate t l ++ List.replicate j []
theorem parts_length (l : List UInt8) (t j : Nat) : (parts l t j).length = t + j := by simp [parts]
theorem parts_low {l : List UInt8} {t j i : Nat} (hi : i < (parts l t j).length) (h : i < t) : (parts l t j)[i] = l := by
  have h1 : (parts l t j)[i]? = some l := by
    unfold parts
    rw [List.getElem?_append_left (by simpa using h)]
    simp [h]
  rw [List.getElem?_eq_getElem hi] at h1
  exact Option.some.inj h1
theorem parts_high {l : List UInt8} {t j i : Nat} (hi : i < (parts l t j).length) (h : ¬ i < t) : (parts l t j)[i] = [] := by
  have hi' := hi
  have h1 : (parts l t j)[i]? = some [] := by
    rw [parts_length] at hi
    unfold parts
    rw [List.getElem?_append_right (by simp; omega)]
    have : i - t < j := by omega
    simp [this]
  rw [List.getElem?_eq_getElem hi'] at h1
  exact Option.some.inj h1
theorem rows_parts {w : World} {base : Nat} {v : Value} {A : Option Addr} {l : List UInt8} {cap t j : Nat} (h : w.ownsRow base 33 1 v (t + j) (rp t (.slice A l.length cap) ++ rp j (.slice none 0 0))) (hb : BytesAt w A l) (hl : l.length ≤ maxLen) :
    ∃ A' cap', v = .slice A' (t + j) cap' ∧ RowsAt w A' (parts l t j) := by
  obtain ⟨A', cap', hv, hr⟩ := rows_of_own (ls := parts l t j) h (by simp [rp, parts]) (fun i hi => by
    by_cases hit : i < t
    · have he := parts_low hi hit
      refine ⟨A, cap, ?_, by rw [he]; exact hb, by rw [he]; exact hl⟩
      rw [List.getElem?_append_left (by simpa [rp] using hit), he]
      simp [rp, hit]
    · have hij : i - t < j := by rw [parts_length] at hi; omega
      have he := parts_high hi hit
      refine ⟨none, 0, ?_, by rw [he]; exact .inl rfl, by rw [he]; exact Nat.zero_le _⟩
      rw [List.getElem?_append_right (by simp [rp]; omega), he]
      simp [rp, hij])
  rw [parts_length] at hv
  exact ⟨A', cap', hv, hr⟩
theorem strs_parts {w : World} {base : Nat} {v : Value} {l : List UInt8} {t j : Nat} (h : w.ownsRow base 9 1 v (t + j) (rp t (.string (strOf l)) ++ rp j (.string ⟨#[]⟩))) (hl : l.length ≤ maxLen) :
    ∃ A' cap', v = .slice A' (t + j) cap' ∧ StrsAt w A' ((parts l t j).map strOf) := by
  have e : rp t (.string (strOf l)) ++ rp j (.string ⟨#[]⟩) = ((parts l t j).map strOf).map Value.string := by simp [rp, parts, strOf]
  rw [e] at h
  obtain ⟨A', cap', hv, hr⟩ := strs_of_own h (by
    intro s hs
    obtain ⟨x, hx, rfl⟩ := List.mem_map.1 hs
    rw [sumParts.strOf_size]
    rcases List.mem_append.1 hx with hx | hx
    · rw [(List.mem_replicate.1 hx).2]; exact hl
    · rw [(List.mem_replicate.1 hx).2]; exact Nat.zero_le _)
  rw [List.length_map, parts_length] at hv
  exact ⟨A', cap', hv, hr⟩

def r10 (lv sv X Y : Value) : Roles := ⟨2, 3, 9, 7, 8, 10, fun | 0 => some lv | 1 => some X | 4 => some sv | 5 => some X | 6 => some Y | _ => none⟩
theorem r10_ok (lv sv X Y : Value) : (r10 lv sv X Y).ok := ⟨(by decide : [2, 3, 9, 7, 8, 10].Nodup), rfl, rfl, rfl, rfl, rfl, rfl⟩
theorem r10_in (lv sv X Y : Value) : 2 < 11 ∧ 3 < 11 ∧ 9 < 11 ∧ 7 < 11 ∧ 8 < 11 ∧ 10 < 11 ∧ ∀ m, 11 ≤ m → (r10 lv sv X Y).E m = none :=
  ⟨by decide, by decide, by decide, by decide, by decide, by decide, fun m hm => match m, hm with | m + 11, _ => rfl⟩

def r16 (lv sv : Value) : Roles := ⟨1, 2, 6, 4, 5, 7, fun | 0 => some lv | 3 => some sv | _ => none⟩
theorem r16_ok (lv sv : Value) : (r16 lv sv).ok := ⟨(by decide : [1, 2, 6, 4, 5, 7].Nodup), rfl, rfl, rfl, rfl, rfl, rfl⟩
theorem r16_in (lv sv : Value) : 1 < 8 ∧ 2 < 8 ∧ 6 < 8 ∧ 4 < 8 ∧ 5 < 8 ∧ 7 < 8 ∧ ∀ m, 8 ≤ m → (r16 lv sv).E m = none :=
  ⟨by decide, by decide, by decide, by decide, by decide, by decide, fun m hm => match m, hm with | m + 8, _ => rfl⟩
theorem parts_crc (l : List UInt8) (t j : Nat) : M.crc (parts l t j) = M.crc (List.replicate t l) := M.crc_nils _ _
theorem rp_zero (X : Value) : rp 0 X = [] := rfl
theorem crc_parts {w : World} {A : Option Addr} {l : List UInt8} {t j c n : Nat} (hn : n = t + j) (h : RowsAt w A (parts l t j)) (ht : TabAt w) (hm : t + j ≤ maxLen) :
    Calls Tryd.prog 9 #[.slice A n c] w fun e w' => e = .returned (.int .u32 ((M.crc (List.replicate t l) : Nat) : Int)) ∧ w = w' := by
  have hp := crc_any A (parts l t j) c w (by rw [parts_length]; exact hm) h ht
  rw [parts_length, parts_crc, ← hn] at hp
  exact hp
theorem refCrc_parts {w : World} {A : Option Addr} {l : List UInt8} {t j c n : Nat} (hn : n = t + j) (h : RowsAt w A (parts l t j)) (hm : t + j ≤ maxLen) :
    Calls Tryd.prog 10 #[.slice A n c] w fun e w' => e = .returned (.int .u32 ((M.crc (List.replicate t l) : Nat) : Int)) ∧ w = w' := by
  have hp := refCrc_any A (parts l t j) c w (by rw [parts_length]; exact hm) h
  rw [parts_length, parts_crc, ← hn] at hp
  exact hp
theorem print_parts {w : World} {A : Option Addr} {l : List UInt8} {t j c n : Nat} (hn : n = t + j) (h : StrsAt w A ((parts l t j).map strOf)) (hm : t + j ≤ maxLen) :
    Calls Tryd.prog 11 #[.slice A n c] w fun e w' => e = .returned (.int .u64 ((M.fnv (parts l t j) : Nat) : Int)) ∧ w = w' := by
  have hp := B.print_any A ((parts l t j).map strOf) c w (by rw [List.length_map, parts_length]; exact hm) h
  rw [List.length_map, parts_length, texts_strOf, ← hn] at hp
  exact hp
theorem refPrint_parts {w : World} {A : Option Addr} {l : List UInt8} {t j c n : Nat} (hn : n = t + j) (h : StrsAt w A ((parts l t j).map strOf)) (hm : t + j ≤ maxLen) :
    Calls Tryd.prog 13 #[.slice A n c] w fun e w' => e = .returned (.int .u64 ((M.fnv (parts l t j) : Nat) : Int)) ∧ w = w' := by
  have hp := refPrint_any A ((parts l t j).map strOf) c w (by rw [List.length_map, parts_length]; exact hm) h
  rw [List.length_map, parts_length, texts_strOf, ← hn] at hp
  exact hp

set_option maxRecDepth 100000 in
set_option maxHeartbeats 4000000 in
theorem walk (A : Option Addr) (l : List UInt8) (cap t m : Nat) (w : World) (hl : l.length ≤ maxLen) (ht8 : t < 256) (hm8 : m < 256) (hr : BytesAt w A l) (ht : TabAt w) (hs : 0 < w.heap.size) :
    Calls Tryd.prog 6 #[.slice A l.length cap, .int .u8 (t : Int), .int .u8 (m : Int)] w fun e w' => e = .returned (.bool true) ∧ Below w.heap.size w w' := by
  have HR := Lib.hid hr
  have HT := Lib.hid ht
  have HL := Lib.hid hl
  clear hr ht hl
  by_cases h50 : l.length ≤ 50
  · have h50' : (l.length : Int) ≤ 50 := by omega
    obtain ⟨q, hq, hq4, hqm⟩ : ∃ q : Nat, (m : Int) % 4 = (q : Int) ∧ q < 4 ∧ q = m % 4 := ⟨_, by simp, by omega, rfl⟩
    clear hqm
    obtain ⟨i33, hi33, hz33, hs33, hb33⟩ := info_parts slices_info
    obtain ⟨i9, hi9, hz9, hs9, hb9⟩ := info_parts string_info
    have HI : Hid (Tryd.prog.info? 33 = some i33 ∧ i33.zero = some (.slice none 0 0) ∧ i33.size = 1 ∧ i33.bytes = 24) := Lib.hid ⟨hi33, hz33, hs33, hb33⟩
    have HJ : Hid (Tryd.prog.info? 9 = some i9 ∧ i9.zero = some (.string .empty) ∧ i9.size = 1 ∧ i9.bytes = 16) := Lib.hid ⟨hi9, hz9, hs9, hb9⟩
    clear hi33 hz33 hs33 hb33 hi9 hz9 hs9 hb9
    go_enter Tryd.func6, Tryd.ntmps6
    go_wp2_with fail
    refine (known_any w HT.out hs).mono ?_
    rintro e w1 ⟨rfl, hb1⟩
    have HB1 := Lib.hid hb1
    clear hb1
    go_wp2_with fail
    have HRw : Hid (∀ w', Below w1.heap.size w1 w' → BytesAt w' A l) := Lib.hid fun w' hb => (HR.out.keep HB1.out).keep hb
    have HTw : Hid (∀ w', Below w1.heap.size w1 w' → TabAt w') := Lib.hid fun w' hb => (HT.out.below HB1.out hs).below hb (Nat.lt_of_lt_of_le hs HB1.out.size)
    go_loopw [7, 8, 9] (fun lv sv i wr => ∃ k : Nat, k ≤ t ∧ i = .int .i64 k ∧ wr.ownsRow w1.heap.size 33 1 lv k (rp k (.slice A l.length cap)) ∧ wr.ownsRow w1.heap.size 9 1 sv k (rp k (.string (strOf l))) ∧ Below w1.heap.size w1 wr) (fun _ _ i _ => t - (intOf i).toNat)
    case atStart => exact ⟨0, Nat.zero_le _, rfl, World.ownsRow_nil _ _ _ _, World.ownsRow_nil _ _ _ _, Below.refl _ _⟩
    case round =>
      obtain ⟨k, hk, rfl, hown1, hown2, hbel⟩ := hrel
      have HO1 := Lib.hid hown1
      have HO2 := Lib.hid hown2
      have HBE := Lib.hid hbel
      clear hown1 hown2 hbel
      by_cases hlt : k < t
      · go_wp2_with fail
        have own1 := HO1.out.lt
        have own2 := HO2.out.lt
        have HOL := Lib.hid own1
        have HOS := Lib.hid own2
        clear own1 own2
        refine Reg.wp_region_inv (A := ?A) (fr := Reg.lateFr [0, 4] ?A ?B) (Inv (r10 u7 u8 (.slice A l.length cap) (.string (strOf l))) w1 w1.heap.size wr.heap.size k 33 9 u7 u8 (.slice A l.length cap) (.string (strOf l)) (rp k (.slice A l.length cap)) (rp k (.string (strOf l))))
          (by kernel_rfl) (by kernel_rfl) ?hA (Reg.frames_late [0, 4] [9, 10] (by kernel_rfl) ?hA ?hB) ?hI ?ho ?hend
        case hA => intro vs; simp only [Reg.fill, if_true, Nat.zero_add, Nat.reduceAdd, Act.put, List.setIfInBounds_toArray, List.set_cons_succ, List.set_cons_zero]; exact rfl
        case hB => intro vs; simp [Reg.fill, Act.put, List.setIfInBounds_toArray, List.set_cons_succ, List.set_cons_zero]; exact rfl
        case hI => exact fun vs => Inv.start HBE.out HBE.out.size HO1.out HO2.out (r10_in _ _ _ _)
        case ho =>
          refine ⟨?_, ?_, ?_, ?_, ?_, ?_, ?_, ?_, ?_, ?_, ?_, trivial⟩
          · intro L vs w' hI hL hdep K hK
            go_simp
            exact hK _ _ (hI.step_pure (r10_ok _ _ _ _) rfl)
          · intro L vs w' hI hL hdep K hK
            go_simp
            exact hK _ _ (hI.step_pure (r10_ok _ _ _ _) rfl)
          · intro L vs w' hI hL hdep K hK
            have d1 : L 1 = true := hdep ⟨1, .data⟩ (by simp) rfl
            have p1 := hI.pure 1 _ rfl d1
            clear hdep
            go_simp
            exact hK _ _ (hI.step_newL (r10_ok _ _ _ _) _)
          · intro L vs w' hI hL hdep K hK
            have d0 : L 0 = true := hdep ⟨0, .data⟩ (by simp) rfl
            have p0 := hI.pure 0 _ rfl d0
            have d2 : L 2 = true := hdep ⟨2, .data⟩ (by simp) rfl
            have hnew := hI.newL d2
            rw [if_pos (show Reg.wantedV _ vs = true from rfl)]
            refine Two.gives_append (.tmp 24) (.tmp 26) 22 rfl w1.heap.size 33 i33 (.slice none 0 0) 24 Tryd.underlying22 HI.out.1 HI.out.2.1 HI.out.2.2.1 HI.out.2.2.2 rfl u7 k _ (by exact p0) (hI.preL hL) _ _ _ (by rfl) hnew rfl (by unfold maxLen; omega) (by omega) hI.bas ?_
            intro v' w2 hown hg
            exact hK _ _ (hI.step_appL (r10_ok _ _ _ _) (by decide) (fun b hb => HOL.out b hb) hL hown hg)
          · intro L vs w' hI hL hdep K hK
            go_simp
            exact hK _ _ (hI.step_pure (r10_ok _ _ _ _) rfl)
          · intro L vs w' hI hL hdep K hK
            go_simp
            exact hK _ _ (hI.step_pure (r10_ok _ _ _ _) rfl)
          · intro L vs w' hI hL hdep K hK
            have d5 : L 5 = true := hdep ⟨5, .data⟩ (by simp) rfl
            have p5 := hI.pure 5 _ rfl d5
            have hcv := conv_text w' A l cap (HRw.out w' hI.bel)
            clear hdep
            go_simp
            exact hK _ _ (hI.step_pure (r10_ok _ _ _ _) rfl)
          · intro L vs w' hI hL hdep K hK
            have d6 : L 6 = true := hdep ⟨6, .data⟩ (by simp) rfl
            have p6 := hI.pure 6 _ rfl d6
            clear hdep
            go_simp
            exact hK _ _ (hI.step_newS (r10_ok _ _ _ _) _)
          · intro L vs w' hI hL hdep K hK
            have d4 : L 4 = true := hdep ⟨4, .data⟩ (by simp) rfl
            have p4 := hI.pure 4 _ rfl d4
            have d7 : L 7 = true := hdep ⟨7, .data⟩ (by simp) rfl
            have hnew := hI.newS d7
            rw [if_pos (show Reg.wantedV _ vs = true from rfl)]
            refine Two.gives_append (.tmp 28) (.tmp 31) 30 rfl w1.heap.size 9 i9 (.string .empty) 16 Tryd.underlying30 HJ.out.1 HJ.out.2.1 HJ.out.2.2.1 HJ.out.2.2.2 rfl u8 k _ (by exact p4) (hI.preS hL) _ _ _ (by rfl) hnew rfl (by unfold maxLen; omega) (by omega) hI.bas ?_
            intro v' w2 hown hg
            exact hK _ _ (hI.step_appS (r10_ok _ _ _ _) (by decide) (fun b hb => HOS.out b hb) hL hown hg)
          · intro L vs w' hI hL hdep K hK
            have d3 : L 3 = true := hdep ⟨3, .data⟩ (by simp) rfl
            clear hdep
            go_simp
            exact hK _ _ (hI.step_asgL (r10_ok _ _ _ _) d3)
          · intro L vs w' hI hL hdep K hK
            have d8 : L 8 = true := hdep ⟨8, .data⟩ (by simp) rfl
            clear hdep
            go_simp
            exact hK _ _ (hI.step_asgS (r10_ok _ _ _ _) d8)
        case hend =>
          intro vs w' hI
          have z9 := (hI.asgL rfl).2
          have z10 := (hI.asgS rfl).2
          have o1 := hI.appL rfl
          have o2 := hI.appS rfl
          have HX1 : Hid (w'.ownsRow w1.heap.size 33 1 (vs 9) (k + 1) (rp (k + 1) (.slice A l.length cap))) := Lib.hid (by rw [rp_next]; rw [show vs 9 = _ from z9]; exact o1)
          have HX2 : Hid (w'.ownsRow w1.heap.size 9 1 (vs 10) (k + 1) (rp (k + 1) (.string (strOf l)))) := Lib.hid (by rw [rp_next]; rw [show vs 10 = _ from z10]; exact o2)
          have HBE2 := Lib.hid hI.bel
          clear z9 z10 o1 o2 hI
          go_wp2
          go_roundw
          case rel => exact ⟨k + 1, by omega, by go_num, HX1.out, HX2.out, HBE2.out⟩
          case measure => simp [intOf]; omega
      · obtain rfl : k = t := by omega
        obtain ⟨A1, c1, hv1, hr1⟩ := rows_parts (j := 0) (by simpa [rp_zero] using HO1.out) (HRw.out wr HBE.out) HL.out
        obtain ⟨A2, c2, hv2, hr2⟩ := strs_parts (j := 0) (by simpa [rp_zero] using HO2.out) HL.out
        simp only [Nat.add_zero] at hv1 hv2
        subst hv1
        subst hv2
        have HRR := Lib.hid hr1
        have HSS := Lib.hid hr2
        clear hr1 hr2 hlt hk
        go_wp2_with fail
        refine (crc_parts (j := 0) rfl HRR.out (HTw.out wr HBE.out) (by unfold maxLen; omega)).mono ?_
        rintro e w' ⟨rfl, rfl⟩
        obtain ⟨c0, hc0⟩ : ∃ c, c = M.crc (List.replicate k l) := ⟨_, rfl⟩
        rw [← hc0]
        have HC0 := Lib.hid hc0
        clear hc0
        go_wp2_with fail
        refine (print_parts (j := 0) rfl HSS.out (by unfold maxLen; omega)).mono ?_
        rintro e w' ⟨rfl, rfl⟩
        obtain ⟨p0, hp0⟩ : ∃ c, c = M.fnv (parts l k 0) := ⟨_, rfl⟩
        rw [← hp0]
        have HP0 := Lib.hid hp0
        clear hp0
        go_wp2_with fail
        obtain ⟨wo, rfl⟩ : ∃ wo : World, wo = wr := ⟨_, rfl⟩
        go_loopw [7, 8, 12] (fun lv sv i wr => ∃ j : Nat, j ≤ q ∧ i = .int .i64 j ∧ wr.ownsRow w1.heap.size 33 1 lv (k + j) (rp k (.slice A l.length cap) ++ rp j (.slice none 0 0)) ∧ wr.ownsRow w1.heap.size 9 1 sv (k + j) (rp k (.string (strOf l)) ++ rp j (.string ⟨#[]⟩)) ∧ Below w1.heap.size w1 wr) (fun _ _ i _ => q - (intOf i).toNat)
        case atStart => exact ⟨0, Nat.zero_le _, rfl, by simpa [rp_zero] using HO1.out, by simpa [rp_zero] using HO2.out, HBE.out⟩
        case round =>
          obtain ⟨j, hj, rfl, hown1, hown2, hbel⟩ := hrel
          have HO1 := Lib.hid hown1
          have HO2 := Lib.hid hown2
          have HBE := Lib.hid hbel
          clear hown1 hown2 hbel
          by_cases hlt : j < q
          · have n1 : rp k (.slice A l.length cap) ++ rp (j + 1) (.slice none 0 0) = (rp k (.slice A l.length cap) ++ rp j (.slice none 0 0)) ++ [.slice none 0 0] := rp_more _ _ _
            have n2 : rp k (.string (strOf l)) ++ rp (j + 1) (.string ⟨#[]⟩) = (rp k (.string (strOf l)) ++ rp j (.string ⟨#[]⟩)) ++ [.string ⟨#[]⟩] := rp_more _ _ _
            have N1 := Lib.hid n1
            have N2 := Lib.hid n2
            clear n1 n2
            go_wp2_with (at_builtin; refine wpList_append_own _ rfl (.tmp 44) (.tmp 45) 22 rfl w1.heap.size 33 i33 (.slice none 0 0) 1 24 Tryd.underlying22 HI.out.1 HI.out.2.1 HI.out.2.2.1 HI.out.2.2.2 rfl (by decide) u7 (k + j) _ rfl (HO1.out.alloc _) ⟨wr.heap.size, 0, none⟩ 1 1 [.slice none 0 0] rfl rfl (cell_one_new _ _ _) ?c2 ?c3 ?c4 ?c5 ?_)
            case c2 => intro u hu; simp at hu; subst hu; rfl
            case c3 => unfold maxLen; omega
            case c4 => omega
            case c5 => have := HBE.out.size; simp; omega
            intro v1 w2 hown1 hg1 _
            have hb2 : Below w1.heap.size w1 w2 := (HBE.out.alloc HBE.out.size _).grown hg1 (by have := HBE.out.size; simp; omega) (fun x hx => (HO1.out.lt x hx).1)
            have hown2 := (HO2.out.alloc (.cells #[.slice none 0 0] 33)).kept hg1 (Two.own_ne HO2.out HO1.out (by decide))
            have HP1 := Lib.hid hown1
            have HP2 := Lib.hid hown2
            have HB2 := Lib.hid hb2
            clear hown1 hown2 hb2 hg1
            go_wp2_with (at_builtin; refine wpList_append_own _ rfl (.tmp 47) (.tmp 48) 30 rfl w1.heap.size 9 i9 (.string .empty) 1 16 Tryd.underlying30 HJ.out.1 HJ.out.2.1 HJ.out.2.2.1 HJ.out.2.2.2 rfl (by decide) u8 (k + j) _ rfl (HP2.out.alloc _) ⟨w2.heap.size, 0, none⟩ 1 1 [.string ⟨#[]⟩] rfl rfl (cell_one_new _ _ _) ?d2 ?d3 ?d4 ?d5 ?_)
            case d2 => intro u hu; simp at hu; subst hu; rfl
            case d3 => unfold maxLen; omega
            case d4 => omega
            case d5 => have := HB2.out.size; simp; omega
            intro v2 w3 hown2 hg2 _
            have hb3 : Below w1.heap.size w1 w3 := (HB2.out.alloc HB2.out.size _).grown hg2 (by have := HB2.out.size; simp; omega) (fun x hx => (HO2.out.lt x hx).1)
            have hown1 := (HP1.out.alloc (.cells #[.string ⟨#[]⟩] 9)).kept hg2 (Two.own_ne HP1.out HP2.out (by decide))
            have HX1 : Hid (w3.ownsRow w1.heap.size 33 1 v1 (k + (j + 1)) (rp k (.slice A l.length cap) ++ rp (j + 1) (.slice none 0 0))) := Lib.hid (by rw [N1.out, List.append_assoc]; exact hown1)
            have HX2 : Hid (w3.ownsRow w1.heap.size 9 1 v2 (k + (j + 1)) (rp k (.string (strOf l)) ++ rp (j + 1) (.string ⟨#[]⟩))) := Lib.hid (by rw [N2.out, List.append_assoc]; exact hown2)
            have HB3 := Lib.hid hb3
            clear hown1 hown2 hg2 hb3
            go_wp2
            go_roundw
            case rel => exact ⟨j + 1, by omega, by go_num, HX1.out, HX2.out, HB3.out⟩
            case measure => simp [intOf]; omega
          · obtain rfl : j = q := by omega
            obtain ⟨A3, c3, hv3, hr3⟩ := rows_parts HO1.out (HRw.out wr HBE.out) HL.out
            obtain ⟨A4, c4, hv4, hr4⟩ := strs_parts HO2.out HL.out
            subst hv3
            subst hv4
            have HRR3 := Lib.hid hr3
            have HSS3 := Lib.hid hr4
            clear hr3 hr4 hlt hj
            have HBF : Hid (Below w.heap.size w wr) := Lib.hid (HB1.out.trans (HBE.out.mono HB1.out.size))
            by_cases hq0 : j = 0
            · subst hq0
              go_wp2_with fail
              refine (refCrc_parts rfl HRR3.out (by unfold maxLen; omega)).mono ?_
              rintro e w' ⟨rfl, rfl⟩
              rw [← HC0.out]
              go_wp2_with fail
              refine (crc_parts rfl HRR3.out (HTw.out wr HBE.out) (by unfold maxLen; omega)).mono ?_
              rintro e w' ⟨rfl, rfl⟩
              rw [← HC0.out]
              go_wp2_with fail
              refine (print_parts rfl HSS3.out (by unfold maxLen; omega)).mono ?_
              rintro e w' ⟨rfl, rfl⟩
              go_wp2_with fail
              refine (refPrint_parts rfl HSS3.out (by unfold maxLen; omega)).mono ?_
              rintro e w' ⟨rfl, rfl⟩
              go_wp2_with fail
              refine (print_parts (j := 0) rfl HSS3.out (by unfold maxLen; omega)).mono ?_
              rintro e w' ⟨rfl, rfl⟩
              rw [← HP0.out]
              go_wp2_with fail
              go_ret
              exact ⟨rfl, HBF.out⟩
            · have hqp : 0 < (j : Int) := by omega
              go_wp2_with fail
              refine (refCrc_parts rfl HRR3.out (by unfold maxLen; omega)).mono ?_
              rintro e w' ⟨rfl, rfl⟩
              rw [← HC0.out]
              go_wp2_with fail
              refine (crc_parts rfl HRR3.out (HTw.out wr HBE.out) (by unfold maxLen; omega)).mono ?_
              rintro e w' ⟨rfl, rfl⟩
              rw [← HC0.out]
              go_wp2_with fail
              refine (print_parts rfl HSS3.out (by unfold maxLen; omega)).mono ?_
              rintro e w' ⟨rfl, rfl⟩
              go_wp2_with fail
              refine (refPrint_parts rfl HSS3.out (by unfold maxLen; omega)).mono ?_
              rintro e w' ⟨rfl, rfl⟩
              go_wp2_with fail
              go_ret
              exact ⟨rfl, HBF.out⟩
  · have h50' : 50 < (l.length : Int) := by omega
    go_enter Tryd.func6, Tryd.ntmps6
    go_wp2_with fail
    refine (known_any w HT.out hs).mono ?_
    rintro e w1 ⟨rfl, hb1⟩
    have HB1 := Lib.hid hb1
    clear hb1
    go_wp2_with fail
    go_ret
    exact ⟨rfl, HB1.out⟩

/-- The walk, over the numbers as they come in. -/
theorem walkInts (A : Option Addr) (l : List UInt8) (cap : Nat) (t m : Int) (w : World) (hl : l.length ≤ maxLen) (_hc : l.length ≤ cap) (_hm : cap ≤ maxLen) (hr : BytesAt w A l) (wt : (Lit.int .u8 t).wf = true) (wm : (Lit.int .u8 m).wf = true) (ht : TabAt w) (hs : 0 < w.heap.size) :
    Calls Tryd.prog 6 #[.slice A l.length cap, .int .u8 t, .int .u8 m] w fun e w' => e = .returned (.bool true) ∧ Below w.heap.size w w' := by
  have bt := bounds_u8 wt
  have bm := bounds_u8 wm
  obtain ⟨t', rfl⟩ : ∃ n : Nat, t = (n : Int) := ⟨t.toNat, by omega⟩
  obtain ⟨m', rfl⟩ : ∃ n : Nat, m = (n : Int) := ⟨m.toNat, by omega⟩
  exact walk A l cap t' m' w hl (by omega) (by omega) hr ht hs

/-- The row's step: the arguments opened, the walk, the arguments read again. -/
theorem contract (H : Type) (enc : TypeId × Value → H) (W : World) (base : Nat) (args : Array Value) (ds gs : List (DataW H)) (before : List MemPlace)
    (hval : ∀ (j : Nat) t v, Tryd.f6.params[j]? = some t → args[j]? = some v → Value.okWide Tryd.prog W .any base t v)
    (hW : DataW.Whole enc Tryd.prog Tryd.f6.params.toList Rows.sumLongSpec.vars false W args.toList ds gs before) (hL : laidMetH Tryd.prog Rows.sumLongRow.laid W) :
    Calls Tryd.prog 6 args W fun e W' => ∃ v, e = .returned v ∧ Rows.sumLongSpec.post enc Tryd.prog Tryd.f6 false true false false W args v W' := by
  have hW' := hW
  obtain ⟨p, q, hA0, hV, rfl, hfz, hnd⟩ := hW
  have hA : DataW.TrodAll enc Tryd.prog W 0 (fun _ => true) true Tryd.f6.params.toList args.toList ds p := hA0
  rw [Tryd.params6] at hA hval
  obtain ⟨v0, vs0, d0, ds0, p0, q0, hargs, rfl, rfl, h0, r0⟩ := trodAll_cons hA
  obtain ⟨v1, vs1, d1, ds1, p1, q1, rfl, rfl, rfl, h1, r1⟩ := trodAll_cons r0
  obtain ⟨v2, vs2, d2, ds2, p2, q2, rfl, rfl, rfl, h2, r2⟩ := trodAll_cons r1
  obtain ⟨rfl, rfl, rfl⟩ := trodAll_nil r2
  obtain rfl : args = #[v0, v1, v2] := by cases args; simp_all
  obtain ⟨rfl, rfl⟩ := trodVars_none hV
  have hsl0 := okWide_slice Tryd.underlying33 (hval 0 33 v0 rfl rfl)
  have k0 := h0
  have lt0 : ∀ x ∈ p0, x.block < W.heap.size := by obtain ⟨m, hm⟩ := k0; exact DataW.trod_lt m _ _ _ hm
  obtain ⟨A0, l0, cap0, rfl, hr0, hl0, hc0, hm0⟩ := open_bytes hsl0 h0
  obtain ⟨n1, rfl, rfl, rfl, wf1⟩ := open_int Tryd.underlying5 (hval 1 5 v1 rfl rfl) h1
  obtain ⟨n2, rfl, rfl, rfl, wf2⟩ := open_int Tryd.underlying5 (hval 2 5 v2 rfl rfl) h2
  obtain ⟨ht, hs⟩ := tab_of hL
  clear hA0
  refine (walkInts A0 l0 cap0 n1 n2 W hl0 hc0 hm0 hr0 wf1 wf2 ht hs).mono fun e W' ⟨he, bel⟩ => ?_
  subst he
  exact ⟨_, rfl, _, _, _, [], _, [], hW', trodAll_mk1 (shut_bool Tryd.underlying4 _), (trodAll_cons_mk (Below.trod laidOut (by kernel_rfl) (of_decide_eq_true (by kernel_rfl)) k0 bel lt0) (trodAll_cons_mk (shut_int Tryd.underlying5 wf1) (trodAll_cons_mk (shut_int Tryd.underlying5 wf2) trodAll_mk0))), rfl, bel.frame _, fun h => by cases h⟩

theorem laid_met (os : Os) : laidMet Tryd.prog Rows.sumLongRow.laid ((laidWorld os).forCall (fun _ _ => 0) ⟨#[], #[.slice none 0 0, .int .u8 0, .int .u8 0], []⟩).memory :=
  laidMet_of_run' 8 (by kernel_rfl) (by kernel_rfl)
theorem reads (os : Os) {H : Type} (enc : TypeId × Value → H) : ∃ places, DataW.whole enc Tryd.prog ((laidWorld os).forCall (fun _ _ => 0) ⟨#[], #[.slice none 0 0, .int .u8 0, .int .u8 0], []⟩).memory Tryd.f6.params.toList Rows.sumLongSpec.vars false (#[.slice none 0 0, .int .u8 0, .int .u8 0] : Array Value).toList 8 = some ([.nil, .lit (.int .u8 0), .lit (.int .u8 0)], [], places) :=
  ⟨[], by kernel_rfl⟩

set_option maxRecDepth 100000 in
theorem lifted (os : Os) (started : os.Started) (H : Type) (enc : TypeId × Value → H) (F : Stop.Interp) :
    ReturnsInHanded {} Tryd.checked os 6 .any ((OpenSpec.ofChange Rows.sumLongSpec).preRow enc Tryd.prog Tryd.f6 Rows.sumLongRow.domain false Rows.sumLongRow.laid) (((OpenSpec.ofChange Rows.sumLongSpec).at F).post enc Tryd.prog Tryd.f6 false true false false) := by
  obtain ⟨places, hx⟩ := reads os enc
  refine returnsInHanded_of_row (C := Tryd.checked) (s := OpenSpec.ofChange Rows.sumLongSpec) own started (by kernel_rfl) Tryd.func6
    (witness_row_at (enc := enc) (C := Tryd.checked) false (laidWorld os) #[.slice none 0 0, .int .u8 0, .int .u8 0] rfl (by kernel_rfl) (by kernel_rfl) (by kernel_rfl)
      (OpenSpec.preRow_of_cond 8 hx (by kernel_rfl) (fun k hk => by cases hk) (by kernel_rfl) (laid_met os))) ?_
  intro W base args ds gs before hval hW _ _ _ hL _ _
  exact contract H enc W base args ds gs before hval hW hL

theorem said : Rows.SumLongSaid :=
  OpenClaim.holds_of_cond 6 Tryd.f6 rfl rfl rfl rfl rfl rfl rfl ⟨rfl, rfl, rfl, rfl, rfl⟩ rfl rfl rfl rfl rfl (by kernel_rfl) Tryd.func6 (by kernel_rfl)
    (of_decide_eq_true (by kernel_rfl)) (by unfold Func.isWrapper; first | (rw [if_pos (by decide +kernel)]; kernel_rfl) | (rw [if_neg (by decide +kernel)]; exact ⟨rfl, rfl⟩))
    (fun os started H enc _ F => by rw [OpenClaim.pre_eq_preRow]; exact lifted os started H enc F)

theorem plain (f : FuncId) (fn : Func) (hf : Tryd.pinned.checked.prog.funcNamed "augur/augurlaw1.SumLong" = some f) (hfn : Tryd.pinned.checked.prog.funcs[f]? = some fn) :
    false = Tryd.pinned.checked.prog.looks [] ∧ ∀ (j : Nat) t, fn.params[j]? = some t → Tryd.pinned.checked.prog.wantsStandIn t = false := by
  obtain rfl : f = 6 := Option.some.inj ((show Tryd.prog.funcNamed "augur/augurlaw1.SumLong" = some 6 by kernel_rfl).symm.trans hf) |>.symm
  obtain rfl : fn = Tryd.f6 := (Option.some.inj (Tryd.func6.symm.trans hfn)).symm
  refine ⟨by kernel_rfl, fun j t ht => ?_⟩
  rw [Tryd.params6] at ht
  have hm := Array.mem_of_getElem? ht
  simp only [List.mem_toArray, List.mem_cons, List.not_mem_nil, or_false] at hm
  rcases hm with rfl | rfl | rfl
  · exact (show Tryd.prog.wantsStandIn 33 = false by kernel_rfl)
  · exact (show Tryd.prog.wantsStandIn 5 = false by kernel_rfl)
  · exact (show Tryd.prog.wantsStandIn 5 = false by kernel_rfl)

/-- THE CARD. -/
theorem card : Rows.SumLongCardSaid :=
  Claim7.holds_tied_plain_at .later [] _ _ _ _ said (fun _ h => by cases h) (by kernel_rfl) (fun _ h => by cases h) sumLong_row_tie rfl ⟨rfl, rfl⟩ (by kernel_rfl) rfl plain (by kernel_rfl)
end Go.Proofs.YtfkkbpiphcpljaaDoor.sumLong
