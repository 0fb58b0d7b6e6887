/- Bytes: which are letters, digits, words; the lexer's and the reference's small functions. -/
import Derived.Test.YtbikifibfaaggaaGreatDoorLMath
import Derived.Test.YtbikifibfaaggaaGreatDoorKBase
import Derived.Lib.Hide
namespace Go.Proofs.YtbikifibfaaggaaGreatDoor
open Go.RowKit

theorem ret_bool {a b : Bool} (h : a = b) : Ending.returned (.bool a) = .returned (.bool b) := by rw [h]
theorem u8_256 (b : UInt8) : b.toNat < 256 := b.toNat_lt
theorem beq_nat (a b : UInt8) : (a == b) = decide (a.toNat = b.toNat) := by
  rw [Bool.eq_iff_iff]; simp [← UInt8.toNat_inj]

set_option maxHeartbeats 1000000 in
theorem digit_any (w : World) (b : UInt8) :
    Calls Tryz.prog 142 #[.int .u8 ((b.toNat : Nat) : Int)] w fun e w' => e = .returned (.bool (Lx.digit b)) ∧ w = w' := by
  have hd : Lx.digit b = (decide (48 ≤ b.toNat) && decide (b.toNat ≤ 57)) := rfl
  rw [hd]
  obtain ⟨n, hn⟩ : ∃ n, n = b.toNat := ⟨_, rfl⟩
  rw [← hn]
  clear hn hd
  go_enter Tryz.func142, Tryz.ntmps142
  go_wp2
  all_goals
    go_ret
    refine ⟨ret_bool ?_, rfl⟩
    rw [Bool.eq_iff_iff]; simp; omega
set_option maxHeartbeats 1000000 in
theorem rdigit_any (w : World) (b : UInt8) :
    Calls Tryz.prog 55 #[.int .u8 ((b.toNat : Nat) : Int)] w fun e w' => e = .returned (.bool (Lx.digit b)) ∧ w = w' := by
  have hd : Lx.digit b = (decide (48 ≤ b.toNat) && decide (b.toNat ≤ 57)) := rfl
  rw [hd]
  obtain ⟨n, hn⟩ : ∃ n, n = b.toNat := ⟨_, rfl⟩
  rw [← hn]
  clear hn hd
  go_enter Tryz.func55, Tryz.ntmps55
  go_wp2
  all_goals
    go_ret
    refine ⟨ret_bool ?_, rfl⟩
    rw [Bool.eq_iff_iff]; simp; omega
set_option maxHeartbeats 1000000 in
theorem rletter_any (w : World) (b : UInt8) :
    Calls Tryz.prog 54 #[.int .u8 ((b.toNat : Nat) : Int)] w fun e w' => e = .returned (.bool (Lx.letter b)) ∧ w = w' := by
  have hd : Lx.letter b = (decide (b.toNat = 95) || ((decide (97 ≤ b.toNat) && decide (b.toNat ≤ 122)) || (decide (65 ≤ b.toNat) && decide (b.toNat ≤ 90)))) := by unfold Lx.letter; rw [beq_nat]; rfl
  rw [hd]
  obtain ⟨n, hn⟩ : ∃ n, n = b.toNat := ⟨_, rfl⟩
  rw [← hn]
  clear hn hd
  go_enter Tryz.func54, Tryz.ntmps54
  go_wp2
  all_goals
    go_ret
    refine ⟨ret_bool ?_, rfl⟩
    rw [Bool.eq_iff_iff]; simp; omega
set_option maxHeartbeats 1000000 in
theorem inWord_any (w : World) (b : UInt8) :
    Calls Tryz.prog 139 #[.int .u8 ((b.toNat : Nat) : Int)] w fun e w' => e = .returned (.bool (Lx.inWord b)) ∧ w = w' := by
  have hd : Lx.inWord b = ((decide (b.toNat = 95) || ((decide (97 ≤ b.toNat) && decide (b.toNat ≤ 122)) || (decide (65 ≤ b.toNat) && decide (b.toNat ≤ 90)))) || (decide (48 ≤ b.toNat) && decide (b.toNat ≤ 57))) := by unfold Lx.inWord Lx.letter; rw [beq_nat]; rfl
  have HD := Lib.hid (digit_any w b)
  rw [hd]
  obtain ⟨m, hm⟩ : ∃ m, m = Lx.digit b := ⟨_, rfl⟩
  have hd2 : m = (decide (48 ≤ b.toNat) && decide (b.toNat ≤ 57)) := hm
  rw [← hd2]
  rw [← hm] at HD
  obtain ⟨n, hn⟩ : ∃ n, n = b.toNat := ⟨_, rfl⟩
  rw [← hn] at HD ⊢
  clear hn hd hm hd2
  go_enter Tryz.func139, Tryz.ntmps139
  go_wp2_with ((with_reducible refine (HD.out).mono ?_); rintro e w' ⟨rfl, rfl⟩)
  all_goals
    go_ret
    refine ⟨ret_bool ?_, rfl⟩
    cases m <;> first | contradiction | (rw [Bool.eq_iff_iff]; simp; done) | (rw [Bool.eq_iff_iff]; simp; omega)

/-! ### Strings -/
def strO (l : List UInt8) : ByteArray := ⟨l.toArray⟩
theorem strO_len (k : List UInt8) : (strO k).size = k.length := by simp [strO, ByteArray.size]
theorem strO_list (k : List UInt8) : (strO k).data.toList = k := by simp [strO]
theorem strO_back (s : ByteArray) : strO s.data.toList = s := by cases s; simp [strO]
theorem strO_toList (l : List UInt8) : (strO l).toList = l := by rw [Lib.toList_data, strO_list]
theorem strO_extract (l : List UInt8) (i j : Nat) : (strO l).extract i j = strO ((l.drop i).take (j - i)) := ByteArray.extract_mk l i j
theorem strO_get (l : List UInt8) (k : Nat) (h : k < (strO l).size) : (strO l)[k] = l[k]'(by rwa [strO_len] at h) := by
  show (strO l).data[k] = _
  simp [strO]

set_option maxHeartbeats 4000000 in
theorem operator_any (w : World) (l : List UInt8) :
    Calls Tryz.prog 140 #[.string (strO l)] w fun e w' => e = .returned (.bool (Lx.isOp l)) ∧ w = w' := by
  have hl := strO_toList l
  obtain ⟨s, hs⟩ : ∃ s, s = strO l := ⟨_, rfl⟩
  rw [← hs] at hl ⊢
  have HL := Lib.hid hl
  clear hl hs
  go_enter Tryz.func140, Tryz.ntmps140
  go_wp2
  all_goals
    go_ret
    refine ⟨ret_bool ?_, rfl⟩
    rw [HL.out] at *
    first
      | contradiction
      | (have h0 := by assumption
         simp only [*] at h0; done)
      | (simp [Lx.isOp_or, *]; done)
      | (exfalso; simp_all; done)
end Go.Proofs.YtbikifibfaaggaaGreatDoor
