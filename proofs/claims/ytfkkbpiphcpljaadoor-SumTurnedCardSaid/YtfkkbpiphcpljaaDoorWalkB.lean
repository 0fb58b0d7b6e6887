/- The walks of the fingerprint's functions: a byte, a length, many parts; and the reference's. -/
import Derived.Test.YtfkkbpiphcpljaaDoorChecked
import Derived.Test.YtfkkbpiphcpljaaDoorMath
import Derived.WalkKit
import Derived.ProofKit
import Derived.Laws.BitsAllLaws
import Derived.Below
import Derived.Lib.Hide
namespace Go.Proofs.YtfkkbpiphcpljaaDoor
open Go.RowKit
namespace B
theorem ret_nat {k : IntKind} {a b : Nat} (h : a = b) : Ending.returned (.int k (a : Int)) = .returned (.int k (b : Int)) := by rw [h]

/-- Rows of strings. -/
def StrsAt (w : World) (A : Option Addr) (ss : List ByteArray) : Prop :=
  ss = [] ∨ ∃ b off, A = some ⟨b, off, none⟩ ∧ ∀ j (h : j < ss.length), w.cell? ⟨b, off + j, none⟩ = some (.string ss[j]) ∧ ss[j].size ≤ maxLen
def texts (ss : List ByteArray) : List (List UInt8) := ss.map fun s => s.data.toList

theorem printByte_any (h b : Nat) (hh : h < 18446744073709551616) (hb : b < 256) (w : World) :
    Calls Tryd.prog 16 #[.int .u64 (h : Int), .int .u8 (b : Int)] w fun e w' => e = .returned (.int .u64 ((M.fb h b : Nat) : Int)) ∧ w = w' := by
  have e1 := u64_xor_nat h b hh (by omega)
  have hh' : (h : Int) ≤ 18446744073709551615 := by omega
  clear hh
  go_enter Tryd.func16, Tryd.ntmps16
  go_wp2
  go_ret
  exact ⟨rfl, rfl⟩

set_option maxHeartbeats 800000 in
theorem printLength_any (h n : Nat) (hh : h < 18446744073709551616) (_hn : n ≤ maxLen) (w : World) :
    Calls Tryd.prog 15 #[.int .u64 (h : Int), .int .i64 (n : Int)] w fun e w' => e = .returned (.int .u64 ((M.flen h n : Nat) : Int)) ∧ w = w' := by
  unfold maxLen at _hn
  have HH := Lib.hid hh
  clear hh
  obtain ⟨b3, e3, k3⟩ : ∃ b : Nat, (n : Int) / 16777216 % 256 = (b : Int) ∧ b = n / 16777216 % 256 := ⟨_, by simp, rfl⟩
  obtain ⟨b2, e2, k2⟩ : ∃ b : Nat, (n : Int) / 65536 % 256 = (b : Int) ∧ b = n / 65536 % 256 := ⟨_, by simp, rfl⟩
  obtain ⟨b1, e1, k1⟩ : ∃ b : Nat, (n : Int) / 256 % 256 = (b : Int) ∧ b = n / 256 % 256 := ⟨_, by simp, rfl⟩
  obtain ⟨b0, e0, k0⟩ : ∃ b : Nat, (n : Int) % 256 = (b : Int) ∧ b = n % 256 := ⟨_, by simp, rfl⟩
  have l3 : b3 < 256 := by omega
  have l2 : b2 < 256 := by omega
  have l1 : b1 < 256 := by omega
  have l0 : b0 < 256 := by omega
  have HF := Lib.hid (show M.flen h n = M.fb (M.fb (M.fb (M.fb h b3) b2) b1) b0 by rw [k3, k2, k1, k0]; rfl)
  clear k3 k2 k1 k0
  go_enter Tryd.func15, Tryd.ntmps15
  go_wp2
  go_loop [0, 5] (fun hv i => ∃ h' : Nat, hv = .int .u64 (h' : Int) ∧ h' < 18446744073709551616 ∧
      ((i = .int .i64 24 ∧ h' = h) ∨ (i = .int .i64 16 ∧ h' = M.fb h b3) ∨ (i = .int .i64 8 ∧ h' = M.fb (M.fb h b3) b2) ∨ (i = .int .i64 0 ∧ h' = M.fb (M.fb (M.fb h b3) b2) b1) ∨ (i = .int .i64 (-8) ∧ h' = M.flen h n))) (fun _ i => (intOf i + 8).toNat)
  case atStart => exact ⟨h, rfl, HH.out, .inl ⟨rfl, rfl⟩⟩
  case round =>
    obtain ⟨h', rfl, hl', hrel⟩ := hrel
    have HL := Lib.hid hl'
    clear hl'
    rcases hrel with ⟨rfl, hr⟩ | ⟨rfl, hr⟩ | ⟨rfl, hr⟩ | ⟨rfl, hr⟩ | ⟨rfl, hr⟩
    all_goals
      have HRR := Lib.hid hr
      clear hr
    · go_wp2_with (go_at_call 16; refine (printByte_any h' b3 HL.out l3 _).mono ?_; rintro e w' ⟨rfl, rfl⟩)
      go_round
      case rel => exact ⟨_, rfl, M.fb_lt _ _, .inr (.inl ⟨rfl, by rw [HRR.out]⟩)⟩
      case measure => simp [intOf]
    · go_wp2_with (go_at_call 16; refine (printByte_any h' b2 HL.out l2 _).mono ?_; rintro e w' ⟨rfl, rfl⟩)
      go_round
      case rel => exact ⟨_, rfl, M.fb_lt _ _, .inr (.inr (.inl ⟨rfl, by rw [HRR.out]⟩))⟩
      case measure => simp [intOf]
    · go_wp2_with (go_at_call 16; refine (printByte_any h' b1 HL.out l1 _).mono ?_; rintro e w' ⟨rfl, rfl⟩)
      go_round
      case rel => exact ⟨_, rfl, M.fb_lt _ _, .inr (.inr (.inr (.inl ⟨rfl, by rw [HRR.out]⟩)))⟩
      case measure => simp [intOf]
    · go_wp2_with (go_at_call 16; refine (printByte_any h' b0 HL.out l0 _).mono ?_; rintro e w' ⟨rfl, rfl⟩)
      go_round
      case rel => exact ⟨_, rfl, M.fb_lt _ _, .inr (.inr (.inr (.inr ⟨rfl, by rw [HRR.out, HF.out]⟩)))⟩
      case measure => simp [intOf]
    · go_wp2
      go_ret
      exact ⟨ret_nat HRR.out, rfl⟩

theorem fruns_none (h : Nat) (ls : List (List UInt8)) : h = M.fruns h (ls.take 0) := by rw [List.take_zero]; unfold M.fruns; rw [List.foldl_nil]
theorem frun_none (h : Nat) (l : List UInt8) : h = M.frun h (l.take 0) := by rw [List.take_zero]; unfold M.frun; rw [List.foldl_nil]
theorem fnv_def (ls : List (List UInt8)) : M.fruns 14695981039346656037 ls = M.fnv ls := by unfold M.fnv; rfl
theorem fpart_text (h : Nat) (s : ByteArray) : M.frun (M.flen h s.size) s.data.toList = M.fpart h s.data.toList := by
  unfold M.fpart
  rw [Array.length_toList]
  rfl
theorem take_text (s : ByteArray) (k : Nat) (h : k < s.size) (g : Nat) : M.frun g (s.data.toList.take (k + 1)) = M.fb (M.frun g (s.data.toList.take k)) s[k].toNat :=
  M.frun_take (l := s.data.toList) (by simpa using h) g

set_option maxHeartbeats 800000 in
theorem print_any (A : Option Addr) (ss : List ByteArray) (cap : Nat) (w : World) (hl : ss.length ≤ maxLen) (hr : StrsAt w A ss) :
    Calls Tryd.prog 11 #[.slice A ss.length cap] w fun e w' => e = .returned (.int .u64 ((M.fnv (texts ss) : Nat) : Int)) ∧ w = w' := by
  unfold maxLen at hl
  have HR := Lib.hid hr
  clear hr
  have HB : ∃ T : Nat, T = M.fnv (texts ss) := ⟨_, rfl⟩
  obtain ⟨T, hT⟩ := HB
  rw [← hT]
  have HT := Lib.hid hT
  clear hT
  go_enter Tryd.func11, Tryd.ntmps11
  go_wp2
  go_loop [3, 9] (fun hv i => ∃ k h' : Nat, k ≤ ss.length ∧ i = .int .i64 k ∧ hv = .int .u64 (h' : Int) ∧ h' < 18446744073709551616 ∧ h' = M.fruns 14695981039346656037 ((texts ss).take k)) (fun _ i => ss.length - (intOf i).toNat)
  case atStart => exact ⟨0, 14695981039346656037, Nat.zero_le _, rfl, rfl, by omega, fruns_none _ _⟩
  case round =>
    obtain ⟨k, h', hk, rfl, rfl, hl', hc'⟩ := hrel
    have HC := Lib.hid hc'
    have HL := Lib.hid hl'
    clear hc' hl'
    by_cases hlt : k < ss.length
    · rcases HR.out with h0 | ⟨b, off, rfl, hcell⟩
      · subst h0; simp at hlt
      · obtain ⟨hck, hlk⟩ := hcell k hlt
        have HLK := Lib.hid hlk
        unfold maxLen at hlk
        have HE := Lib.hid (M.fruns_take (ls := texts ss) (k := k) (by simpa [texts] using hlt) 14695981039346656037)
        have HS : Hid ((texts ss)[k]'(by simpa [texts] using hlt) = ss[k].data.toList) := Lib.hid (by simp [texts])
        obtain ⟨s, hs⟩ : ∃ s, s = ss[k] := ⟨_, rfl⟩
        rw [← hs] at hck hlk HLK HS
        clear hcell hs
        go_wp2_with (go_at_call 15; refine (printLength_any h' s.size HL.out HLK.out _).mono ?_; rintro e w' ⟨rfl, rfl⟩)
        go_loop [3, 19] (fun hv i => ∃ k' h2 : Nat, k' ≤ s.size ∧ i = .int .i64 k' ∧ hv = .int .u64 (h2 : Int) ∧ h2 < 18446744073709551616 ∧ h2 = M.frun (M.flen h' s.size) (s.data.toList.take k')) (fun _ i => s.size - (intOf i).toNat)
        case atStart => exact ⟨0, _, Nat.zero_le _, rfl, rfl, M.flen_lt _ _, frun_none _ _⟩
        case round =>
          obtain ⟨k', h2, hk', rfl, rfl, hl2, hc2⟩ := hrel
          have HC2 := Lib.hid hc2
          have HL2 := Lib.hid hl2
          clear hc2 hl2
          by_cases hlt2 : k' < s.size
          · have HE2 := Lib.hid (take_text s k' hlt2 (M.flen h' s.size))
            have hbl := M.u8_lt s[k']
            go_wp2_with (go_at_call 16; refine (printByte_any h2 s[k'].toNat HL2.out hbl _).mono ?_; rintro e w' ⟨rfl, rfl⟩)
            go_round
            case rel => exact ⟨k' + 1, _, by omega, by go_num, rfl, M.fb_lt _ _, by rw [HE2.out, HC2.out]⟩
            case measure => simp [intOf]; omega
          · have HD := Lib.hid (show h2 = M.frun (M.flen h' s.size) s.data.toList by rw [HC2.out, List.take_of_length_le (by simp; omega)])
            go_wp2
            go_round
            case rel => exact ⟨k + 1, h2, by omega, by go_num, rfl, HL2.out, by rw [HE.out, HS.out, HD.out, HC.out]; exact fpart_text _ _⟩
            case measure => simp [intOf]; omega
    · have HE := Lib.hid (show h' = T by rw [HT.out, HC.out, List.take_of_length_le (by simp [texts]; omega)]; exact fnv_def _)
      go_wp2
      go_ret
      exact ⟨ret_nat HE.out, rfl⟩
end B
end Go.Proofs.YtfkkbpiphcpljaaDoor
