/- ParseMany. -/
import Derived.Test.YtllnebbcnbnbmaaGreatDoorPKnown
import Derived.Test.YtllnebbcnbnbmaaGreatDoorPDeep
import Derived.Test.YtllnebbcnbnbmaaGreatDoorPManyG
import Derived.IntWalk
namespace Go.Proofs.YtllnebbcnbnbmaaGreatDoor
open Go.RowKit Go.Shelf
open Lx (Tok Tx)
theorem hd_len (p : Nat) (hp : p < 9) : (Px.hdTx p).length ≤ 24 := by
  match p, hp with
  | 0, _ => decide
  | 1, _ => decide
  | 2, _ => decide
  | 3, _ => decide
  | 4, _ => decide
  | 5, _ => decide
  | 6, _ => decide
  | 7, _ => decide
  | 8, _ => decide
set_option maxHeartbeats 4000000 in
set_option maxRecDepth 100000 in
theorem many_walk (w : World) (he : ErrAt w) (a b c d : Nat) (ha : a < 256) (hb : b < 256) (hc : c < 65536) (hd : d < 256) :
    Calls Tryz.prog 7 #[.int .u8 (a : Int), .int .u8 (b : Int), .int .u16 (c : Int), .int .u8 (d : Int)] w (Yes w) := by
  have HK0 := Lib.hid (pknown_any w he)
  have HE := Lib.hid he
  obtain ⟨p, hp⟩ : ∃ m, m = a % 9 := ⟨_, rfl⟩
  obtain ⟨l, hl⟩ : ∃ m, m = b % 24 := ⟨_, rfl⟩
  obtain ⟨n, hn⟩ : ∃ m, m = c % 205 := ⟨_, rfl⟩
  obtain ⟨g, hg⟩ : ∃ m, m = d % 24 := ⟨_, rfl⟩
  have r1 : ((a : Nat) : Int) % 9 = (p : Int) := by omega
  have r2 : ((b : Nat) : Int) % 24 = (l : Int) := by omega
  have r3 : ((c : Nat) : Int) % 205 = (n : Int) := by omega
  have r4 : ((d : Nat) : Int) % 24 = (g : Int) := by omega
  have t1 : ((a : Nat) : Int).tmod 9 = (p : Int) := by rw [Int.tmod_eq_emod_of_nonneg (by omega)]; omega
  have t2 : ((b : Nat) : Int).tmod 24 = (l : Int) := by rw [Int.tmod_eq_emod_of_nonneg (by omega)]; omega
  have t3 : ((c : Nat) : Int).tmod 205 = (n : Int) := by rw [Int.tmod_eq_emod_of_nonneg (by omega)]; omega
  have t4 : ((d : Nat) : Int).tmod 24 = (g : Int) := by rw [Int.tmod_eq_emod_of_nonneg (by omega)]; omega
  have hp9 : p < 9 := by omega
  have hl24 : l < 24 := by omega
  have hn205 : n < 205 := by omega
  have hg24 : g < 24 := by omega
  have HM := Lib.hid (Px.many_all p l n hp9 hl24 hn205)
  have HG := Lib.hid (Px.glob_many g hg24)
  have HL := Lib.hid (hd_len p hp9)
  obtain ⟨X1, hX1⟩ : ∃ X : Nat → ByteArray, X = fun j => strO ([102, 110, 32, 102, 40] ++ Px.ps j) := ⟨_, rfl⟩
  obtain ⟨X2, hX2⟩ : ∃ X : Nat → ByteArray, X = fun j => strO (Px.hdTx p ++ Px.rep [118, 97, 114, 32, 118, 59] j) := ⟨_, rfl⟩
  obtain ⟨X3, hX3⟩ : ∃ X : Nat → ByteArray, X = fun j => strO ((Px.hdTx p ++ Px.rep [118, 97, 114, 32, 118, 59] l) ++ Px.rep [120, 61, 49, 59] j) := ⟨_, rfl⟩
  obtain ⟨X4, hX4⟩ : ∃ X : Nat → ByteArray, X = fun j => strO (Px.rep [99, 101, 108, 108, 32, 99, 59] j) := ⟨_, rfl⟩
  have HA0 : Hid ((⟨#[102, 110, 32, 102, 40]⟩ : ByteArray) = X1 0) := Lib.hid (by rw [hX1]; rfl)
  have HA1 : Hid (X1 0 ++ (⟨#[112]⟩ : ByteArray) = X1 1) := Lib.hid (by rw [hX1]; rfl)
  have HA2 : Hid (∀ j, (X1 (j + 1) ++ (⟨#[44]⟩ : ByteArray)) ++ (⟨#[112]⟩ : ByteArray) = X1 (j + 2)) := Lib.hid fun j => by
    rw [hX1]; simp only
    rw [show (⟨#[44]⟩ : ByteArray) = strO [44] from rfl, show (⟨#[112]⟩ : ByteArray) = strO [112] from rfl, strO_cat, strO_cat, List.append_assoc, List.append_assoc]
    rw [show Px.ps (j + 2) = (Px.ps (j + 1) ++ [44]) ++ [112] from rfl, List.append_assoc]
  have HA3 : Hid (X1 p ++ (⟨#[41, 123]⟩ : ByteArray) = X2 0) := Lib.hid (by
    rw [hX1, hX2, show (⟨#[41, 123]⟩ : ByteArray) = strO [41, 123] from rfl, strO_cat]; simp [Px.rep, Px.hdTx])
  have HZ1 : Hid ((X1 6).size = 16 ∧ ∀ j, j < 9 → (X1 j).size ≤ 30) := Lib.hid (by
    rw [hX1]
    refine ⟨rfl, fun j hj => ?_⟩
    match j, hj with
    | 0, _ => decide
    | 1, _ => decide
    | 2, _ => decide
    | 3, _ => decide
    | 4, _ => decide
    | 5, _ => decide
    | 6, _ => decide
    | 7, _ => decide
    | 8, _ => decide)
  have HB1 : Hid (∀ j, X2 j ++ (⟨#[118, 97, 114, 32, 118, 59]⟩ : ByteArray) = X2 (j + 1)) := Lib.hid fun j => by
    rw [hX2, show (⟨#[118, 97, 114, 32, 118, 59]⟩ : ByteArray) = strO [118, 97, 114, 32, 118, 59] from rfl, strO_cat, List.append_assoc]; rfl
  have HZ2 : Hid (∀ j, (X2 j).size = (Px.hdTx p).length + j * 6) := Lib.hid fun j => by
    rw [hX2, strO_len, List.length_append, Px.rep_len]; rfl
  have HB2 : Hid (X2 l = X3 0) := Lib.hid (by rw [hX2, hX3]; simp [Px.rep])
  have HC1 : Hid (∀ j, X3 j ++ (⟨#[120, 61, 49, 59]⟩ : ByteArray) = X3 (j + 1)) := Lib.hid fun j => by
    rw [hX3, show (⟨#[120, 61, 49, 59]⟩ : ByteArray) = strO [120, 61, 49, 59] from rfl, strO_cat, List.append_assoc]; rfl
  have HZ3 : Hid (∀ j, (X3 j).size = (Px.hdTx p).length + l * 6 + j * 4) := Lib.hid fun j => by
    rw [hX3, strO_len, List.length_append, List.length_append, Px.rep_len, Px.rep_len]; rfl
  have HC2 : Hid (X3 n ++ (⟨#[125]⟩ : ByteArray) = strO (Px.manyS p l n)) := Lib.hid (by
    rw [hX3, show (⟨#[125]⟩ : ByteArray) = strO [125] from rfl, strO_cat]; rfl)
  have HD0 : Hid ((⟨#[]⟩ : ByteArray) = X4 0) := Lib.hid (by rw [hX4]; rfl)
  have HD1 : Hid (∀ j, X4 j ++ (⟨#[99, 101, 108, 108, 32, 99, 59]⟩ : ByteArray) = X4 (j + 1)) := Lib.hid fun j => by
    rw [hX4, show (⟨#[99, 101, 108, 108, 32, 99, 59]⟩ : ByteArray) = strO [99, 101, 108, 108, 32, 99, 59] from rfl, strO_cat]; rfl
  have HZ4 : Hid (∀ j, (X4 j).size = j * 7) := Lib.hid fun j => by
    rw [hX4, strO_len, Px.rep_len]; rfl
  have HD2 : Hid (X4 g = strO (Px.rep [99, 101, 108, 108, 32, 99, 59] g)) := Lib.hid (by rw [hX4])
  obtain ⟨L, hLL⟩ : ∃ L, L = (Px.hdTx p).length := ⟨_, rfl⟩
  rw [← hLL] at HL HZ2 HZ3
  have HLL := Lib.hid hLL
  clear he hp hl hn hg hX1 hX2 hX3 hX4 hLL ha hb hc hd
  go_enter Tryz.func7, Tryz.ntmps7
  go_wp2_with fail
  refine (HK0.out).mono ?_
  rintro e w1 ⟨rfl, hk1⟩
  have HK1 := Lib.hid hk1
  clear hk1
  go_wp2_with fail
  go_loopw [13, 14, 15] (fun sv fv iv wq => ∃ (j : Nat) (z : Int), j ≤ p ∧ sv = .string (X1 j) ∧ fv = .int .i64 z ∧ (6 < j → z = 17) ∧ (j ≤ 6 → z = 0) ∧ iv = .int .i64 (j : Int) ∧ wq = w1) (fun _ _ iv _ => p - (intOf iv).toNat)
  case atStart => exact ⟨0, 0, Nat.zero_le _, by rw [← HA0.out], rfl, fun h => by omega, fun _ => rfl, rfl, rfl⟩
  case round =>
    obtain ⟨j, z, hj, rfl, rfl, hz1, hz2, rfl, rfl⟩ := hrel
    have hsz := HZ1.out.2 j (by omega)
    by_cases hjn : j < p
    · by_cases h0 : j = 0
      · subst h0
        obtain rfl : z = 0 := hz2 (by omega)
        clear hz1 hz2
        go_wp2_with fail
        go_roundw
        case rel => exact ⟨1, 0, by omega, congrArg Value.string HA1.out, rfl, fun h => by omega, fun _ => rfl, by go_num, trivial⟩
        case measure => simp [intOf]; omega
      · obtain ⟨i, rfl⟩ : ∃ i, j = i + 1 := ⟨j - 1, by omega⟩
        have hcat := HA2.out i
        by_cases h6 : i = 5
        · subst h6
          have hs6 := HZ1.out.1
          obtain rfl : z = 0 := hz2 (by omega)
          clear hz1 hz2
          go_wp2_with fail
          go_roundw
          case rel => exact ⟨7, 17, by omega, rfl, by go_num, fun _ => rfl, fun h => by omega, by go_num, trivial⟩
          case measure => simp [intOf]; omega
        · have hz3 : (6 < i + 1 + 1 → z = 17) ∧ (i + 1 + 1 ≤ 6 → z = 0) := ⟨fun h => hz1 (by omega), fun h => hz2 (by omega)⟩
          have HZZ := Lib.hid hz3
          clear hz1 hz2 hz3
          go_wp2_with fail
          go_roundw
          case rel => exact ⟨i + 2, z, by omega, rfl, rfl, HZZ.out.1, HZZ.out.2, by go_num, trivial⟩
          case measure => simp [intOf]; omega
    · obtain rfl : p = j := by omega
      have HZP : Hid (z = if 6 < p then 17 else 0) := Lib.hid (by
        split
        · exact hz1 ‹_›
        · exact hz2 (by omega))
      have hcat := HA3.out
      clear hz1 hz2
      go_wp2_with fail
      go_loopw [13, 14, 16] (fun sv fv iv wq => ∃ (j : Nat) (y : Int), j ≤ l ∧ sv = .string (X2 j) ∧ fv = .int .i64 y ∧ y = (if 6 < p then 17 else if 20 < j then ((L + 124 : Nat) : Int) else 0) ∧ iv = .int .i64 (j : Int) ∧ wq = wr) (fun _ _ iv _ => l - (intOf iv).toNat)
      case atStart => exact ⟨0, z, Nat.zero_le _, rfl, rfl, by rw [HZP.out]; simp, rfl, rfl⟩
      case round =>
        obtain ⟨j, y, hj, rfl, rfl, hy, rfl, rfl⟩ := hrel
        have hs2 := HZ2.out j
        have hL := HL.out
        obtain ⟨s2, hs2d⟩ : ∃ s, s = X2 j := ⟨_, rfl⟩
        by_cases hjn : j < l
        · have hcat := HB1.out j
          by_cases h6 : 6 < p
          · rw [if_pos h6] at hy
            subst hy
            by_cases h20 : j = 20
            · subst h20
              go_wp2_with fail
              go_roundw
              case rel => exact ⟨21, 17, by omega, rfl, rfl, by rw [if_pos h6], by go_num, trivial⟩
              case measure => simp [intOf]; omega
            · go_wp2_with fail
              go_roundw
              case rel => exact ⟨j + 1, 17, by omega, rfl, rfl, by rw [if_pos h6], by go_num, trivial⟩
              case measure => simp [intOf]; omega
          · rw [if_neg h6] at hy
            by_cases h20 : j = 20
            · subst h20
              rw [if_neg (by omega)] at hy
              subst hy
              go_wp2_with fail
              go_roundw
              case rel => exact ⟨21, (L : Int) + 120 + 4, by omega, rfl, rfl, by rw [if_neg h6, if_pos (by omega)]; omega, by go_num, trivial⟩
              case measure => simp [intOf]; omega
            · have HY : Hid (y = if 20 < j + 1 then ((L + 124 : Nat) : Int) else 0) := Lib.hid (by
                rw [hy]
                by_cases q : 20 < j
                · rw [if_pos q, if_pos (by omega)]
                · rw [if_neg q, if_neg (by omega)])
              clear hy
              go_wp2_with fail
              go_roundw
              case rel => exact ⟨j + 1, y, by omega, rfl, rfl, by rw [if_neg h6]; exact HY.out, by go_num, trivial⟩
              case measure => simp [intOf]; omega
        · obtain rfl : l = j := by omega
          have HYP : Hid (y = if 6 < p then 17 else if 20 < l then ((L + 124 : Nat) : Int) else if 200 < 0 then ((L + 6 * l + 800 : Nat) : Int) else 0) := Lib.hid (by rw [hy, if_neg (show ¬ 200 < 0 by omega)])
          clear hy
          rw [HB2.out]
          go_wp2_with fail
          go_loopw [13, 14, 17] (fun sv fv iv wq => ∃ (j : Nat) (y : Int), j ≤ n ∧ sv = .string (X3 j) ∧ fv = .int .i64 y ∧ y = (if 6 < p then 17 else if 20 < l then ((L + 124 : Nat) : Int) else if 200 < j then ((L + 6 * l + 800 : Nat) : Int) else 0) ∧ iv = .int .i64 (j : Int) ∧ wq = wr) (fun _ _ iv _ => n - (intOf iv).toNat)
          case atStart => exact ⟨0, y, Nat.zero_le _, rfl, rfl, HYP.out, rfl, rfl⟩
          case round =>
            obtain ⟨j, y, hj, rfl, rfl, hy, rfl, rfl⟩ := hrel
            have hs3 := HZ3.out j
            have hL := HL.out
            by_cases hjn : j < n
            · have hcat := HC1.out j
              by_cases h200 : j = 200
              · subst h200
                by_cases hz : y = 0
                · subst hz
                  have h6 : ¬ 6 < p := fun h => by rw [if_pos h] at hy; omega
                  have hl20 : ¬ 20 < l := fun h => by rw [if_neg h6, if_pos h] at hy; omega
                  clear hy
                  go_wp2_with fail
                  go_roundw
                  case rel => exact ⟨201, (L : Int) + (l : Int) * 6 + 800, by omega, rfl, by go_num, by rw [if_neg h6, if_neg hl20, if_pos (by omega)]; omega, by go_num, trivial⟩
                  case measure => simp [intOf]; omega
                · have HY : Hid (y = (if 6 < p then 17 else if 20 < l then ((L + 124 : Nat) : Int) else if 200 < 200 + 1 then ((L + 6 * l + 800 : Nat) : Int) else 0)) := Lib.hid (by
                    rw [hy]
                    by_cases q6 : 6 < p
                    · rw [if_pos q6, if_pos q6]
                    · rw [if_neg q6, if_neg q6]
                      by_cases q20 : 20 < l
                      · rw [if_pos q20, if_pos q20]
                      · rw [if_neg q6, if_neg q20, if_neg (by omega)] at hy
                        exact absurd hy hz)
                  have dz : decide (y = 0) = false := by simp [hz]
                  clear hy
                  go_wp2_with fail
                  go_roundw
                  case rel => exact ⟨201, y, by omega, rfl, rfl, HY.out, by go_num, trivial⟩
                  case measure => simp [intOf]; omega
              · have HY : Hid (y = (if 6 < p then 17 else if 20 < l then ((L + 124 : Nat) : Int) else if 200 < j + 1 then ((L + 6 * l + 800 : Nat) : Int) else 0)) := Lib.hid (by
                  rw [hy]
                  by_cases q : 200 < j
                  · rw [if_pos q, if_pos (show 200 < j + 1 by omega)]
                  · rw [if_neg q, if_neg (show ¬ 200 < j + 1 by omega)])
                clear hy
                go_wp2_with fail
                go_roundw
                case rel => exact ⟨j + 1, y, by omega, rfl, rfl, HY.out, by go_num, trivial⟩
                case measure => simp [intOf]; omega
            · obtain rfl : n = j := by omega
              have HYN : Hid (y = ((Px.firstErr p l n : Nat) : Int)) := Lib.hid (by
                rw [hy, HLL.out, Px.firstErr]
                repeat' split
                all_goals first | rfl | omega)
              have HF := Lib.hid (fun w' (h : ErrAt w') => func_any w' (Px.manyS p l n) (by have h := congrArg ByteArray.size HC2.out; rw [strO_len, ByteArray.size_append, HZ3.out n] at h; have : (⟨#[125]⟩ : ByteArray).size = 1 := rfl; omega) h)
              rw [← HC2.out] at HF
              clear hy
              go_wp2_with fail
              have hye := HYN.out
              subst hye
              by_cases hfe : 0 < Px.firstErr p l n
              · skip
                rw [HM.out.1 hfe] at HF
                refine (HF.out _ (HE.out.keep HK1.out)).mono ?_
                rintro e w2 ⟨v, rfl, hk2, rfl⟩
                have hy0 : ((Px.firstErr p l n : Nat) : Int) ≠ 0 := by omega
                have hy1 : (0 : Int) < ((Px.firstErr p l n : Nat) : Int) := by omega
                have HK2 := Lib.hid ((HK1.out.trans hk2 (by simp)).trans ((Keeps.refl [] w2).alloc (.cells #[.string .empty, .slice none 0 0, .slice none 0 0, .slice none 0 0] 26)) (by simp))
                have HB := Lib.hid (show (w2.alloc (.cells #[.string .empty, .slice none 0 0, .slice none 0 0, .slice none 0 0] 26)).heap[w2.heap.size]? = some (.cells #[.string .empty, .slice none 0 0, .slice none 0 0, .slice none 0 0] 26 (0, 0)) from heap_alloc_new _ _)
                clear hk2
                obtain ⟨fe, hfe2⟩ : ∃ x, x = ((Px.firstErr p l n : Nat) : Int) := ⟨_, rfl⟩
                simp only [← hfe2]
                rw [← hfe2] at hy0 hy1
                go_wp2_with fail
                go_loopw [21, 22, 23] (fun sv fv iv wq => ∃ (j : Nat) (y : Int), j ≤ g ∧ sv = .string (X4 j) ∧ fv = .int .i64 y ∧ y = (if 20 < j then 145 else 0) ∧ iv = .int .i64 (j : Int) ∧ wq = w2.alloc (.cells #[.string .empty, .slice none 0 0, .slice none 0 0, .slice none 0 0] 26)) (fun _ _ iv _ => g - (intOf iv).toNat)
                case atStart => exact ⟨0, 0, Nat.zero_le _, congrArg Value.string HD0.out, rfl, rfl, rfl, rfl⟩
                case round =>
                  obtain ⟨j, y, hj, rfl, rfl, hy, rfl, rfl⟩ := hrel
                  have hs4 := HZ4.out j
                  by_cases hjn : j < g
                  · have hcat := HD1.out j
                    by_cases h20 : j = 20
                    · subst h20
                      rw [if_neg (by omega)] at hy
                      subst hy
                      go_wp2_with fail
                      go_roundw
                      case rel => exact ⟨21, 145, by omega, rfl, by go_num, by rw [if_pos (by omega)], by go_num, trivial⟩
                      case measure => simp [intOf]; omega
                    · have HY : Hid (y = if 20 < j + 1 then 145 else 0) := Lib.hid (by
                        rw [hy]
                        by_cases q : 20 < j
                        · rw [if_pos q, if_pos (by omega)]
                        · rw [if_neg q, if_neg (by omega)])
                      clear hy
                      go_wp2_with fail
                      go_roundw
                      case rel => exact ⟨j + 1, y, by omega, rfl, rfl, HY.out, by go_num, trivial⟩
                      case measure => simp [intOf]; omega
                  · obtain rfl : g = j := by omega
                    have HGF := Lib.hid (fun w' (h : ErrAt w') => globs_any w' (Px.rep [99, 101, 108, 108, 32, 99, 59] g) (by rw [Px.rep_len]; simp only [List.length_cons, List.length_nil]; omega) h)
                    rw [← HD2.out] at HGF
                    by_cases h20 : 20 < g
                    · rw [if_pos h20] at hy
                      subst hy
                      rw [HG.out.2 h20] at HGF
                      go_wp2_with fail
                      refine (HGF.out _ (HE.out.keep HK2.out)).mono ?_
                      rintro e w3 ⟨v, rfl, hk3, rfl⟩
                      have HK4 := Lib.hid ((HK2.out.trans hk3 (by simp)).trans ((Keeps.refl [] w3).alloc (.cells #[.slice none 0 0, .slice none 0 0] 35)) (by simp))
                      have hb3 := block_keep HB.out hk3 (by simp)
                      have hb4 := block_keep hb3 ((Keeps.refl [] w3).alloc (.cells #[.slice none 0 0, .slice none 0 0] 35)) (by simp)
                      have c0 := row_cell hb4 0
                      have d0 := row_cell hb3 0
                      have c1 := row_cell hb4 1
                      have d1 := row_cell hb3 1
                      have c2 := row_cell hb4 2
                      have d2 := row_cell hb3 2
                      have c3 := row_cell hb4 3
                      have d3 := row_cell hb3 3
                      simp only [List.getElem?_toArray, List.getElem?_cons_zero, List.getElem?_cons_succ] at c0 c1 c2 c3 d0 d1 d2 d3
                      clear hb3 hb4 hk3
                      go_wp2_with fail
                      go_ret
                      exact ⟨rfl, HK4.out⟩
                    · rw [if_neg h20] at hy
                      subst hy
                      obtain ⟨gg, hg1, hg2⟩ := HG.out.1 (by omega)
                      rw [hg1] at HGF
                      go_wp2_with fail
                      refine (HGF.out _ (HE.out.keep HK2.out)).mono ?_
                      rintro e w3 ⟨v, rfl, hk3, b3, -, vc3, va3, rfl, hc3, ha3⟩
                      obtain ⟨Ac, cc, hvc⟩ : ∃ A c, vc3 = .slice A gg.cells.length c := row_slice hc3
                      obtain ⟨Aa, cca, hva⟩ : ∃ A c, va3 = .slice A gg.arrays.length c := row_slice ha3
                      subst hvc hva
                      rw [hg2]
                      obtain ⟨na, hna⟩ : ∃ x, x = gg.arrays.length := ⟨_, rfl⟩
                      rw [← hna]
                      clear hc3 ha3 hna hg1 hg2
                      have HK4 := Lib.hid ((HK2.out.trans hk3 (by simp)).trans ((Keeps.refl [] w3).alloc (.cells #[.slice Ac g cc, .slice Aa na cca] 35)) (by simp))
                      have hb3 := block_keep HB.out hk3 (by simp)
                      have hb4 := block_keep hb3 ((Keeps.refl [] w3).alloc (.cells #[.slice Ac g cc, .slice Aa na cca] 35)) (by simp)
                      have c0 := row_cell hb4 0
                      have d0 := row_cell hb3 0
                      have c1 := row_cell hb4 1
                      have d1 := row_cell hb3 1
                      have c2 := row_cell hb4 2
                      have d2 := row_cell hb3 2
                      have c3 := row_cell hb4 3
                      have d3 := row_cell hb3 3
                      simp only [List.getElem?_toArray, List.getElem?_cons_zero, List.getElem?_cons_succ] at c0 c1 c2 c3 d0 d1 d2 d3
                      clear hb3 hb4 hk3
                      go_wp2_with fail
                      go_ret
                      exact ⟨rfl, HK4.out⟩
              · skip
                obtain ⟨f, m, hf, hfp, hfl, hfb⟩ := HM.out.2 (by omega)
                rw [hf] at HF
                refine (HF.out _ (HE.out.keep HK1.out)).mono ?_
                rintro e w2 ⟨v, rfl, hk2, b1, -, vp, vl, vb, rfl, hpp, hll, B, ⟨cs, hown, -⟩, -⟩
                obtain ⟨A, ca, hvb⟩ : ∃ A c, vb = .slice A f.body.length c := row_slice hown
                obtain ⟨Ap, cp, hvp⟩ : ∃ A c, vp = .slice A f.params.length c := hpp.form
                obtain ⟨Al, cl, hvl⟩ : ∃ A c, vl = .slice A f.locals.length c := hll.form
                subst hvb hvp hvl
                rw [hfp, hfl, hfb]
                obtain ⟨nm, hnm⟩ : ∃ x, x = strO f.name := ⟨_, rfl⟩
                rw [← hnm]
                clear hpp hll hown hfp hfl hfb hnm hf
                have HK2 := Lib.hid ((HK1.out.trans hk2 (by simp)).trans ((Keeps.refl [] w2).alloc (.cells #[.string nm, .slice Ap p cp, .slice Al l cl, .slice A n ca] 26)) (by simp))
                have HB := Lib.hid (show (w2.alloc (.cells #[.string nm, .slice Ap p cp, .slice Al l cl, .slice A n ca] 26)).heap[w2.heap.size]? = some (.cells #[.string nm, .slice Ap p cp, .slice Al l cl, .slice A n ca] 26 (0, 0)) from heap_alloc_new _ _)
                clear hk2
                obtain ⟨fe, hfe2⟩ : ∃ x, x = ((Px.firstErr p l n : Nat) : Int) := ⟨_, rfl⟩
                skip
                have hfz : ((Px.firstErr p l n : Nat) : Int) = 0 := by omega
                try rw [hfz]
                go_wp2_with fail
                go_loopw [21, 22, 23] (fun sv fv iv wq => ∃ (j : Nat) (y : Int), j ≤ g ∧ sv = .string (X4 j) ∧ fv = .int .i64 y ∧ y = (if 20 < j then 145 else 0) ∧ iv = .int .i64 (j : Int) ∧ wq = w2.alloc (.cells #[.string nm, .slice Ap p cp, .slice Al l cl, .slice A n ca] 26)) (fun _ _ iv _ => g - (intOf iv).toNat)
                case atStart => exact ⟨0, 0, Nat.zero_le _, congrArg Value.string HD0.out, rfl, rfl, rfl, rfl⟩
                case round =>
                  obtain ⟨j, y, hj, rfl, rfl, hy, rfl, rfl⟩ := hrel
                  have hs4 := HZ4.out j
                  by_cases hjn : j < g
                  · have hcat := HD1.out j
                    by_cases h20 : j = 20
                    · subst h20
                      rw [if_neg (by omega)] at hy
                      subst hy
                      go_wp2_with fail
                      go_roundw
                      case rel => exact ⟨21, 145, by omega, rfl, by go_num, by rw [if_pos (by omega)], by go_num, trivial⟩
                      case measure => simp [intOf]; omega
                    · have HY : Hid (y = if 20 < j + 1 then 145 else 0) := Lib.hid (by
                        rw [hy]
                        by_cases q : 20 < j
                        · rw [if_pos q, if_pos (by omega)]
                        · rw [if_neg q, if_neg (by omega)])
                      clear hy
                      go_wp2_with fail
                      go_roundw
                      case rel => exact ⟨j + 1, y, by omega, rfl, rfl, HY.out, by go_num, trivial⟩
                      case measure => simp [intOf]; omega
                  · obtain rfl : g = j := by omega
                    have HGF := Lib.hid (fun w' (h : ErrAt w') => globs_any w' (Px.rep [99, 101, 108, 108, 32, 99, 59] g) (by rw [Px.rep_len]; simp only [List.length_cons, List.length_nil]; omega) h)
                    rw [← HD2.out] at HGF
                    by_cases h20 : 20 < g
                    · rw [if_pos h20] at hy
                      subst hy
                      rw [HG.out.2 h20] at HGF
                      go_wp2_with fail
                      refine (HGF.out _ (HE.out.keep HK2.out)).mono ?_
                      rintro e w3 ⟨v, rfl, hk3, rfl⟩
                      have HK4 := Lib.hid ((HK2.out.trans hk3 (by simp)).trans ((Keeps.refl [] w3).alloc (.cells #[.slice none 0 0, .slice none 0 0] 35)) (by simp))
                      have hb3 := block_keep HB.out hk3 (by simp)
                      have hb4 := block_keep hb3 ((Keeps.refl [] w3).alloc (.cells #[.slice none 0 0, .slice none 0 0] 35)) (by simp)
                      have c0 := row_cell hb4 0
                      have d0 := row_cell hb3 0
                      have c1 := row_cell hb4 1
                      have d1 := row_cell hb3 1
                      have c2 := row_cell hb4 2
                      have d2 := row_cell hb3 2
                      have c3 := row_cell hb4 3
                      have d3 := row_cell hb3 3
                      simp only [List.getElem?_toArray, List.getElem?_cons_zero, List.getElem?_cons_succ] at c0 c1 c2 c3 d0 d1 d2 d3
                      clear hb3 hb4 hk3
                      go_wp2_with fail
                      go_ret
                      exact ⟨rfl, HK4.out⟩
                    · rw [if_neg h20] at hy
                      subst hy
                      obtain ⟨gg, hg1, hg2⟩ := HG.out.1 (by omega)
                      rw [hg1] at HGF
                      go_wp2_with fail
                      refine (HGF.out _ (HE.out.keep HK2.out)).mono ?_
                      rintro e w3 ⟨v, rfl, hk3, b3, -, vc3, va3, rfl, hc3, ha3⟩
                      obtain ⟨Ac, cc, hvc⟩ : ∃ A c, vc3 = .slice A gg.cells.length c := row_slice hc3
                      obtain ⟨Aa, cca, hva⟩ : ∃ A c, va3 = .slice A gg.arrays.length c := row_slice ha3
                      subst hvc hva
                      rw [hg2]
                      obtain ⟨na, hna⟩ : ∃ x, x = gg.arrays.length := ⟨_, rfl⟩
                      rw [← hna]
                      clear hc3 ha3 hna hg1 hg2
                      have HK4 := Lib.hid ((HK2.out.trans hk3 (by simp)).trans ((Keeps.refl [] w3).alloc (.cells #[.slice Ac g cc, .slice Aa na cca] 35)) (by simp))
                      have hb3 := block_keep HB.out hk3 (by simp)
                      have hb4 := block_keep hb3 ((Keeps.refl [] w3).alloc (.cells #[.slice Ac g cc, .slice Aa na cca] 35)) (by simp)
                      have c0 := row_cell hb4 0
                      have d0 := row_cell hb3 0
                      have c1 := row_cell hb4 1
                      have d1 := row_cell hb3 1
                      have c2 := row_cell hb4 2
                      have d2 := row_cell hb3 2
                      have c3 := row_cell hb4 3
                      have d3 := row_cell hb3 3
                      simp only [List.getElem?_toArray, List.getElem?_cons_zero, List.getElem?_cons_succ] at c0 c1 c2 c3 d0 d1 d2 d3
                      clear hb3 hb4 hk3
                      go_wp2_with fail
                      go_ret
                      exact ⟨rfl, HK4.out⟩
theorem nat_u16 {n : Int} (wf : (Lit.int .u16 n).wf = true) : ∃ m : Nat, n = (m : Int) ∧ m < 65536 := by
  have hb : 0 ≤ n ∧ n ≤ 65535 := by
    simpa [Lit.wf, IntKind.min, IntKind.max, IntKind.bits, IntKind.signed] using wf
  exact ⟨n.toNat, by omega, by omega⟩
theorem pmany_any (w : World) (he : ErrAt w) (n0 : Int) (wf0 : (Lit.int .u8 n0).wf = true) (n1 : Int) (wf1 : (Lit.int .u8 n1).wf = true) (n2 : Int) (wf2 : (Lit.int .u16 n2).wf = true) (n3 : Int) (wf3 : (Lit.int .u8 n3).wf = true) :
    Calls Tryz.prog 7 #[.int .u8 n0, .int .u8 n1, .int .u16 n2, .int .u8 n3] w (Yes w) := by
  obtain ⟨a, rfl, ha⟩ := nat_u8 wf0
  obtain ⟨b, rfl, hb⟩ := nat_u8 wf1
  obtain ⟨c, rfl, hc⟩ := nat_u16 wf2
  obtain ⟨d, rfl, hd⟩ := nat_u8 wf3
  exact many_walk w he a b c d ha hb hc hd
end Go.Proofs.YtllnebbcnbnbmaaGreatDoor
