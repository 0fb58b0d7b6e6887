/- The lexer's pieces: what joins, what a piece is. -/
import Derived.Test.YtbikifibfaaggaaGreatDoorLBase
import Derived.Test.YtbikifibfaaggaaGreatDoorLShelf
import Derived.IntWalk
namespace Go.Proofs.YtbikifibfaaggaaGreatDoor
open Go.RowKit Go.Shelf

theorem idx0 {s : ByteArray} {l : List UInt8} {b : UInt8} (hs : s = strO l) (h : l[0]? = some b) (w : World) : (Instr.index 9 (.string s) (.int .i64 0)).run Tryz.prog w = .ok (.int .u8 ((b.toNat : Nat) : Int)) w := by
  subst hs
  obtain ⟨h0, hb⟩ := List.getElem?_eq_some_iff.1 h
  have hz : 0 < (strO l).size := by rw [strO_len]; exact h0
  rw [run_index_string w 9 (strO l) .i64 0 Tryz.underlying9, dif_pos ⟨by omega, by omega⟩]
  show Result.ok (Value.int .u8 ((((strO l)[0]'hz).toNat : Nat) : Int)) w = _
  rw [strO_get, hb]
theorem idxN {s : ByteArray} {l : List UInt8} {b : UInt8} {k : Nat} (hs : s = strO l) (h : l[k]? = some b) (w : World) : (Instr.index 9 (.string s) (.int .i64 (k : Int))).run Tryz.prog w = .ok (.int .u8 ((b.toNat : Nat) : Int)) w := by
  subst hs
  obtain ⟨h0, hb⟩ := List.getElem?_eq_some_iff.1 h
  have hz : k < (strO l).size := by rw [strO_len]; exact h0
  rw [run_index_string w 9 (strO l) .i64 (k : Int) Tryz.underlying9, dif_pos ⟨by omega, by omega⟩]
  show Result.ok (Value.int .u8 ((((strO l)[((k : Int)).toNat]'(by omega)).toNat : Nat) : Int)) w = _
  rw [strO_get]
  simp only [Int.toNat_natCast]
  rw [hb]
theorem i8eq (b : UInt8) (k : Nat) (hk : k < 256) : ((((b.toNat : Nat) : Int) == (k : Int)) = (b == UInt8.ofNat k)) := by
  rw [Bool.eq_iff_iff]
  simp only [beq_iff_eq, ← UInt8.toNat_inj, UInt8.toNat_ofNat']
  omega
theorem i8ne (b : UInt8) (k : Nat) (hk : k < 256) : ((((b.toNat : Nat) : Int) != (k : Int)) = (b != UInt8.ofNat k)) := by
  show (!_) = (!_)
  rw [i8eq b k hk]
theorem same_bool {a b : Bool} (h : a = b) {w : World} : (Ending.returned (.bool a) = .returned (.bool b)) ∧ w = w := ⟨by rw [h], rfl⟩
set_option maxHeartbeats 1000000 in
theorem joins_any (w : World) (l : List UInt8) (b c : UInt8) (hb : l[0]? = some b) (n : Nat) (hn : l.length = n + 1) (hc : l[n]? = some c) (hl : n ≤ 5000) :
    Calls Tryz.prog 108 #[.string (strO l)] w fun e w' => e = .returned (.bool (Lx.joinB b c l)) ∧ w = w' := by
  have HO := Lib.hid (operator_any w l)
  have HB := Lib.hid (inWord_any w b)
  have HC := Lib.hid (inWord_any w c)
  have HJ := Lib.hid (show Lx.joinB b c l = if b == 35 then c != 10 else if Lx.inWord b then Lx.inWord c else Lx.isOp l from rfl)
  obtain ⟨r, hr⟩ : ∃ r, r = Lx.joinB b c l := ⟨_, rfl⟩
  rw [← hr] at HJ ⊢
  clear hr
  obtain ⟨s, hs⟩ : ∃ s, s = strO l := ⟨_, rfl⟩
  have hsz : s.size = n + 1 := by rw [hs, strO_len, hn]
  have i0 := idx0 hs hb
  have iN := idxN hs hc
  have HN := Lib.hid (i8ne c 10 (by omega))
  rw [← hs] at HO ⊢
  clear hs hb hc hn
  by_cases hb : (b == 35) = true
  · have e1 : (((b.toNat : Nat) : Int) == 35) = true := by rw [← hb]; exact i8eq b 35 (by omega)
    go_enter Tryz.func108, Tryz.ntmps108
    go_wp2_with fail
    go_ret
    refine same_bool ?_
    rw [HJ.out, if_pos hb]
    exact HN.out
  · have e1 : (((b.toNat : Nat) : Int) == 35) = false := by rw [show (((b.toNat : Nat) : Int) == 35) = (b == 35) from i8eq b 35 (by omega)]; simpa using hb
    by_cases hw : Lx.inWord b = true
    · go_enter Tryz.func108, Tryz.ntmps108
      go_wp2_with fail
      refine (HB.out).mono ?_
      rintro e w' ⟨rfl, rfl⟩
      go_wp2_with fail
      refine (HC.out).mono ?_
      rintro e w' ⟨rfl, rfl⟩
      go_wp2_with fail
      go_ret
      refine same_bool ?_
      rw [HJ.out, if_neg hb, if_pos hw]
    · have hw' : Lx.inWord b = false := by simpa using hw
      go_enter Tryz.func108, Tryz.ntmps108
      go_wp2_with fail
      refine (HB.out).mono ?_
      rintro e w' ⟨rfl, rfl⟩
      go_wp2_with fail
      refine (HO.out).mono ?_
      rintro e w' ⟨rfl, rfl⟩
      go_wp2_with fail
      go_ret
      refine same_bool ?_
      rw [HJ.out, if_neg hb, if_neg hw]

set_option maxHeartbeats 1000000 in
theorem name_any (w : World) (l : List UInt8) (hl : l.length ≤ 5000) :
    Calls Tryz.prog 144 #[.string (strO l)] w fun e w' => e = .returned (.int .i64 (if 32 < l.length then 53 else 0)) ∧ w = w' := by
  obtain ⟨s, hs⟩ : ∃ s, s = strO l := ⟨_, rfl⟩
  have hsz : s.size = l.length := by rw [hs, strO_len]
  obtain ⟨n, hn⟩ : ∃ n, n = l.length := ⟨_, rfl⟩
  rw [← hn] at hl hsz ⊢
  rw [← hs]
  clear hs hn
  go_enter Tryz.func144, Tryz.ntmps144
  go_wp2
  all_goals
    go_ret
    exact ⟨rfl, rfl⟩

/-! ### The library's functions at a piece -/
/-- The variable that ParseInt's error reads. -/
def ErrAt (w : World) : Prop := ∃ te pe, w.cell? ⟨3, 0, none⟩ = some (.iface te pe)
theorem ErrAt.keep {w w' : World} (h : ErrAt w) (hk : Keeps [] w w') : ErrAt w' := by
  obtain ⟨te, pe, h⟩ := h
  exact ⟨te, pe, hk.cell_some h (by simp)⟩
def digs : ByteArray := ⟨#[48, 49, 50, 51, 52, 53, 54, 55, 56, 57]⟩
theorem digs_list : digs.data.toList = [48, 49, 50, 51, 52, 53, 54, 55, 56, 57] := rfl
theorem trimLeft_at (w : World) (l : List UInt8) :
    Calls Tryz.prog 175 #[.string (strO l), .string ⟨#[48, 49, 50, 51, 52, 53, 54, 55, 56, 57]⟩] w fun e w' => e = .returned (.string (strO (l.dropWhile Lx.digit))) ∧ Keeps [] w w' := by
  have h := Any.strings_TrimLeft_laid Tryz.lTrimLeft (by kernel_rfl) (strO l) digs w (by decide) (ascii_of_all (by decide))
  refine Calls.mono (f := 175) h ?_
  rintro e w' ⟨rfl, hb⟩
  refine ⟨?_, Keeps.of_below hb []⟩
  rw [strO_list, digs_list, Lx.trim_left]; rfl
theorem trimSuffix_at (w : World) (l : List UInt8) (hl : l.length ≤ 5000) :
    Calls Tryz.prog 176 #[.string (strO l), .string (strO (l.dropWhile Lx.digit))] w fun e w' => e = .returned (.string (strO (l.takeWhile Lx.digit))) ∧ w = w' := by
  have h := Any.strings_TrimSuffix Tryz.lTrimSuffix (strO l) (strO (l.dropWhile Lx.digit)) w (by rw [strO_len]; omega)
  refine Calls.mono (f := 176) h ?_
  rintro e w' ⟨rfl, rfl⟩
  refine ⟨?_, rfl⟩
  rw [strO_list, strO_list, Lx.trim_suffix]; rfl
theorem parse_yes (w : World) (l : List UInt8) (hl : l.length ≤ 5000) (h0 : l ≠ []) (hd : ∀ b ∈ l, Lx.digit b = true) (hv : Lx.val l ≤ 9223372036854775807) :
    Calls Tryz.prog 155 #[.string (strO l), .int .i64 10, .int .i64 64] w fun e w' => e = .returned (.tuple #[.int .i64 ((Lx.val l : Nat) : Int), .nilIface]) ∧ Keeps [] w w' := by
  have h := Any.strconv_ParseInt_10_at64_ok Tryz.lParseInt (strO l) (by rw [strO_len]; omega) ((Lx.val l : Nat) : Int) (by rw [strO_list]; exact Lx.parse_ok h0 hd hv) w
  refine Calls.mono (f := 155) h ?_
  rintro e w' ⟨rfl, h | ⟨t, h⟩⟩
  · subst h; exact ⟨rfl, Keeps.refl _ _⟩
  · subst h; exact ⟨rfl, Keeps.of_below (Lib.bytesWorld_below w _ t) []⟩
theorem parse_no (w : World) (l : List UInt8) (he : ErrAt w) (hl : l.length ≤ 5000) (hd : ∀ b ∈ l, Lx.digit b = true) (hv : 9223372036854775807 < Lx.val l) :
    Calls Tryz.prog 155 #[.string (strO l), .int .i64 10, .int .i64 64] w fun e w' => ∃ n t p, e = .returned (.tuple #[.int .i64 n, .iface t (.pointer (some p))]) ∧ Keeps [] w w' := by
  obtain ⟨te, pe, he⟩ := he
  have h := Any.strconv_ParseInt_10_at64_range Tryz.lParseInt (strO l) (by rw [strO_len]; omega) (by rw [strO_list]; exact Lx.parse_range hd hv) (.iface te pe) w he (.inr ⟨_, _, rfl⟩)
  refine Calls.mono (f := 155) h ?_
  rintro e w' ⟨N, rfl, _, _, hb⟩
  exact ⟨_, _, _, rfl, Keeps.of_below hb []⟩
theorem indexByte_at (w : World) (b : UInt8) :
    Calls Tryz.prog 141 #[.string ⟨#[32, 9, 13, 10]⟩, .int .u8 ((b.toNat : Nat) : Int)] w fun e w' => e = .returned (.int .i64 (Lib.indexByte [32, 9, 13, 10] b)) ∧ w = w' := by
  have h := Any.strings_IndexByte Tryz.lIndexByte ⟨#[32, 9, 13, 10]⟩ ((b.toNat : Nat) : Int) w
  refine Calls.mono (f := 141) h ?_
  rintro e w' ⟨rfl, rfl⟩
  refine ⟨?_, rfl⟩
  have : ((b.toNat : Nat) : Int).toNat.toUInt8 = b := by simp
  rw [this]
theorem indexByte_mem (c : UInt8) : ∀ (l : List UInt8), 0 ≤ Lib.indexByte l c ↔ c ∈ l
  | [] => by simp [Lib.indexByte]
  | b :: l => by
    have ih := indexByte_mem c l
    have hg := Lib.indexByte_ge l c
    rw [Lib.indexByte, List.mem_cons]
    by_cases hb : (b == c) = true
    · rw [if_pos hb]
      have := beq_iff_eq.1 hb
      simp [this]
    · rw [if_neg hb]
      have hc : ¬ c = b := fun h => hb (by rw [h]; simp)
      by_cases hi : (Lib.indexByte l c == -1) = true
      · have := beq_iff_eq.1 hi
        rw [if_pos hi]
        simp [hc, ← ih]; omega
      · have : Lib.indexByte l c ≠ -1 := fun h => hi (by rw [h]; rfl)
        rw [if_neg hi]
        simp only [hc, false_or, ← ih]; omega
theorem indexByte_blank (b : UInt8) : decide (0 ≤ Lib.indexByte [32, 9, 13, 10] b) = Lx.blank b := by
  rw [Bool.eq_iff_iff, decide_eq_true_iff, indexByte_mem]
  simp [Lx.blank]
theorem clone_at (w : World) (l : List UInt8) (hl : l.length ≤ 5000) :
    Calls Tryz.prog 145 #[.string (strO l)] w fun e w' => e = .returned (.string (strO l)) ∧ Keeps [] w w' := by
  have h := Any.stringslite_Clone Tryz.lClone (strO l) w (by rw [strO_len]; omega)
  refine Calls.mono (f := 145) h ?_
  rintro e w' ⟨rfl, hb⟩
  exact ⟨rfl, Keeps.of_below hb []⟩
set_option maxHeartbeats 1000000 in
theorem sclone_any (w : World) (l : List UInt8) (hl : l.length ≤ 5000) :
    Calls Tryz.prog 110 #[.string (strO l)] w fun e w' => e = .returned (.string (strO l)) ∧ Keeps [] w w' := by
  have H := Lib.hid (clone_at w l hl)
  obtain ⟨s, hs⟩ : ∃ s, s = strO l := ⟨_, rfl⟩
  rw [← hs] at H ⊢
  clear hs
  go_enter Tryz.func110, Tryz.ntmps110
  go_wp2_with fail
  refine (H.out).mono ?_
  rintro e w1 ⟨rfl, hk⟩
  have HK := Lib.hid hk
  clear hk
  go_wp2_with fail
  go_ret
  exact ⟨rfl, HK.out⟩
end Go.Proofs.YtbikifibfaaggaaGreatDoor
