import Derived.Test.YtbikifibfaaggaaGreatDoorVMA
import Derived.Test.YtbikifibfaaggaaGreatDoorVLShelf
import Derived.IntWalk
namespace Go.Proofs.YtbikifibfaaggaaGreatDoor
section
set_option maxHeartbeats 1000000
open Go.RowKit Go.Shelf
theorem idx0 {s : ByteArray} {l : List UInt8} {b : UInt8} (hs : s = strO l) (h : l[0]? = some b) (w : World) : (Instr.index 9 (.string s) (.int .i64 0)).run Tryz.prog w = .ok (.int .u8 ((b.toNat : Nat) : Int)) w := by
 subst hs
 obtain ⟨h0, hb⟩ := List.getElem?_eq_some_iff.1 h
 have hz : 0 < (strO l).size := by rw [strO_len]; exact h0
 rw [run_index_string w 9 (strO l) .i64 0 Tryz.underlying9, dif_pos ⟨by omega, by omega⟩]
 show Result.ok (Value.int .u8 ((((strO l)[0]'hz).toNat : Nat) : Int)) w = _
 rw [strO_get, hb]
theorem idxN {s : ByteArray} {l : List UInt8} {b : UInt8} {k : Nat} (hs : s = strO l) (h : l[k]? = some b) (w : World) : (Instr.index 9 (.string s) (.int .i64 (k : Int))).run Tryz.prog w = .ok (.int .u8 ((b.toNat : Nat) : Int)) w := by
 subst hs
 obtain ⟨h0, hb⟩ := List.getElem?_eq_some_iff.1 h
 have hz : k < (strO l).size := by rw [strO_len]; exact h0
 rw [run_index_string w 9 (strO l) .i64 (k : Int) Tryz.underlying9, dif_pos ⟨by omega, by omega⟩]
 show Result.ok (Value.int .u8 ((((strO l)[((k : Int)).toNat]'(by omega)).toNat : Nat) : Int)) w = _
 rw [strO_get]
 simp only [Int.toNat_natCast]
 rw [hb]
theorem i8eq (b : UInt8) (k : Nat) (hk : k < 256) : ((((b.toNat : Nat) : Int) == (k : Int)) = (b == UInt8.ofNat k)) := by
 rw [Bool.eq_iff_iff]
 simp only [beq_iff_eq, ← UInt8.toNat_inj, UInt8.toNat_ofNat']
 omega
theorem i8ne (b : UInt8) (k : Nat) (hk : k < 256) : ((((b.toNat : Nat) : Int) != (k : Int)) = (b != UInt8.ofNat k)) := by
 show (!_) = (!_)
 rw [i8eq b k hk]
theorem same_bool {a b : Bool} (h : a = b) {w : World} : (Ending.returned (.bool a) = .returned (.bool b)) ∧ w = w := ⟨by rw [h], rfl⟩
theorem joins_any (w : World) (l : List UInt8) (b c : UInt8) (hb : l[0]? = some b) (n : Nat) (hn : l.length = n + 1) (hc : l[n]? = some c) (hl : n ≤ 5000) :
 Calls Tryz.prog 108 #[.string (strO l)] w fun e w' => e = .returned (.bool (Lx.joinB b c l)) ∧ w = w' := by
 have HO := Hd (operator_any w l)
 have HB := Hd (inWord_any w b)
 have HC := Hd (inWord_any w c)
 have HJ := Hd (show Lx.joinB b c l = if b == 35 then c != 10 else if Lx.inWord b then Lx.inWord c else Lx.isOp l from rfl)
 obtain ⟨r, hr⟩ : ∃ r, r = Lx.joinB b c l := ⟨_, rfl⟩
 rw [← hr] at HJ ⊢
 clear hr
 obtain ⟨s, hs⟩ : ∃ s, s = strO l := ⟨_, rfl⟩
 have hsz : s.size = n + 1 := by rw [hs, strO_len, hn]
 have i0 := idx0 hs hb
 have iN := idxN hs hc
 have HN := Hd (i8ne c 10 (by omega))
 rw [← hs] at HO ⊢
 clear hs hb hc hn
 by_cases hb : (b == 35) = true
 ·
  have e1 : (((b.toNat : Nat) : Int) == 35) = true := by rw [← hb]; exact i8eq b 35 (by omega)
  go_enter Tryz.func108, Tryz.ntmps108
  go_wp2_with fail
  go_ret
  refine same_bool ?_
  rw [HJ.out, if_pos hb]
  exact HN.out
 ·
  have e1 : (((b.toNat : Nat) : Int) == 35) = false := by rw [show (((b.toNat : Nat) : Int) == 35) = (b == 35) from i8eq b 35 (by omega)]; simpa using hb
  by_cases hw : Lx.inWord b = true
  ·
   go_enter Tryz.func108, Tryz.ntmps108
   go_wp2_with fail
   refine (same (HB.out)) ?_
   go_wp2_with fail
   refine (same (HC.out)) ?_
   go_wp2_with fail
   go_ret
   refine same_bool ?_
   rw [HJ.out, if_neg hb, if_pos hw]
  ·
   have hw' : Lx.inWord b = false := by simpa using hw
   go_enter Tryz.func108, Tryz.ntmps108
   go_wp2_with fail
   refine (same (HB.out)) ?_
   go_wp2_with fail
   refine (same (HO.out)) ?_
   go_wp2_with fail
   go_ret
   refine same_bool ?_
   rw [HJ.out, if_neg hb, if_neg hw]
theorem name_any (w : World) (l : List UInt8) (hl : l.length ≤ 5000) :
 Calls Tryz.prog 144 #[.string (strO l)] w fun e w' => e = .returned (.int .i64 (if 32 < l.length then 53 else 0)) ∧ w = w' := by
 obtain ⟨s, hs⟩ : ∃ s, s = strO l := ⟨_, rfl⟩
 have hsz : s.size = l.length := by rw [hs, strO_len]
 obtain ⟨n, hn⟩ : ∃ n, n = l.length := ⟨_, rfl⟩
 rw [← hn] at hl hsz ⊢
 rw [← hs]
 clear hs hn
 go_enter Tryz.func144, Tryz.ntmps144
 go_wp2
 all_goals
  go_ret
  exact ⟨rfl, rfl⟩
def ErrAt (w : World) : Prop := ∃ te pe, w.cell? ⟨3, 0, none⟩ = some (.iface te pe)
theorem ErrAt.keep {w w' : World} (h : ErrAt w) (hk : Keeps [] w w') : ErrAt w' := by
 obtain ⟨te, pe, h⟩ := h
 exact ⟨te, pe, hk.cell_some h (by simp)⟩
def digs : ByteArray := ⟨#[48, 49, 50, 51, 52, 53, 54, 55, 56, 57]⟩
theorem digs_list : digs.data.toList = [48, 49, 50, 51, 52, 53, 54, 55, 56, 57] := rfl
theorem trimLeft_at (w : World) (l : List UInt8) :
 Calls Tryz.prog 175 #[.string (strO l), .string ⟨#[48, 49, 50, 51, 52, 53, 54, 55, 56, 57]⟩] w fun e w' => e = .returned (.string (strO (l.dropWhile Lx.digit))) ∧ Keeps [] w w' := by
 have h := Any.strings_TrimLeft_laid Tryz.lTrimLeft (by kernel_rfl) (strO l) digs w (by decide) (ascii_of_all (by decide))
 refine Calls.mono (f := 175) h ?_
 rintro e w' ⟨rfl, hb⟩
 refine ⟨?_, Keeps.of_below hb []⟩
 rw [strO_list, digs_list, Lx.trim_left]; rfl
theorem trimSuffix_at (w : World) (l : List UInt8) (hl : l.length ≤ 5000) :
 Calls Tryz.prog 176 #[.string (strO l), .string (strO (l.dropWhile Lx.digit))] w fun e w' => e = .returned (.string (strO (l.takeWhile Lx.digit))) ∧ w = w' := by
 have h := Any.strings_TrimSuffix Tryz.lTrimSuffix (strO l) (strO (l.dropWhile Lx.digit)) w (by rw [strO_len]; omega)
 refine Calls.mono (f := 176) h ?_
 rintro e w' ⟨rfl, rfl⟩
 refine ⟨?_, rfl⟩
 rw [strO_list, strO_list, Lx.trim_suffix]; rfl
theorem parse_yes (w : World) (l : List UInt8) (hl : l.length ≤ 5000) (h0 : l ≠ []) (hd : ∀ b ∈ l, Lx.digit b = true) (hv : Lx.val l ≤ 9223372036854775807) :
 Calls Tryz.prog 155 #[.string (strO l), .int .i64 10, .int .i64 64] w fun e w' => e = .returned (.tuple #[.int .i64 ((Lx.val l : Nat) : Int), .nilIface]) ∧ Keeps [] w w' := by
 have h := Any.strconv_ParseInt_10_at64_ok Tryz.lParseInt (strO l) (by rw [strO_len]; omega) ((Lx.val l : Nat) : Int) (by rw [strO_list]; exact Lx.parse_ok h0 hd hv) w
 refine Calls.mono (f := 155) h ?_
 rintro e w' ⟨rfl, h | ⟨t, h⟩⟩
 · subst h; exact ⟨rfl, Keeps.refl _ _⟩
 · subst h; exact ⟨rfl, Keeps.of_below (Lib.bytesWorld_below w _ t) []⟩
theorem parse_no (w : World) (l : List UInt8) (he : ErrAt w) (hl : l.length ≤ 5000) (hd : ∀ b ∈ l, Lx.digit b = true) (hv : 9223372036854775807 < Lx.val l) :
 Calls Tryz.prog 155 #[.string (strO l), .int .i64 10, .int .i64 64] w fun e w' => ∃ n t p, e = .returned (.tuple #[.int .i64 n, .iface t (.pointer (some p))]) ∧ Keeps [] w w' := by
 obtain ⟨te, pe, he⟩ := he
 have h := Any.strconv_ParseInt_10_at64_range Tryz.lParseInt (strO l) (by rw [strO_len]; omega) (by rw [strO_list]; exact Lx.parse_range hd hv) (.iface te pe) w he (.inr ⟨_, _, rfl⟩)
 refine Calls.mono (f := 155) h ?_
 rintro e w' ⟨N, rfl, _, _, hb⟩
 exact ⟨_, _, _, rfl, Keeps.of_below hb []⟩
theorem indexByte_at (w : World) (b : UInt8) :
 Calls Tryz.prog 141 #[.string ⟨#[32, 9, 13, 10]⟩, .int .u8 ((b.toNat : Nat) : Int)] w fun e w' => e = .returned (.int .i64 (Lib.indexByte [32, 9, 13, 10] b)) ∧ w = w' := by
 have h := Any.strings_IndexByte Tryz.lIndexByte ⟨#[32, 9, 13, 10]⟩ ((b.toNat : Nat) : Int) w
 refine Calls.mono (f := 141) h ?_
 rintro e w' ⟨rfl, rfl⟩
 refine ⟨?_, rfl⟩
 have : ((b.toNat : Nat) : Int).toNat.toUInt8 = b := by simp
 rw [this]
theorem indexByte_mem (c : UInt8) : ∀ (l : List UInt8), 0 ≤ Lib.indexByte l c ↔ c ∈ l
 | [] => by simp [Lib.indexByte]
 | b :: l => by
  have ih := indexByte_mem c l
  have hg := Lib.indexByte_ge l c
  rw [Lib.indexByte, List.mem_cons]
  by_cases hb : (b == c) = true
  ·
   rw [if_pos hb]
   have := beq_iff_eq.1 hb
   simp [this]
  ·
   rw [if_neg hb]
   have hc : ¬ c = b := fun h => hb (by rw [h]; simp)
   by_cases hi : (Lib.indexByte l c == -1) = true
   ·
    have := beq_iff_eq.1 hi
    rw [if_pos hi]
    simp [hc, ← ih]; omega
   ·
    have : Lib.indexByte l c ≠ -1 := fun h => hi (by rw [h]; rfl)
    rw [if_neg hi]
    simp only [hc, false_or, ← ih]; omega
theorem indexByte_blank (b : UInt8) : decide (0 ≤ Lib.indexByte [32, 9, 13, 10] b) = Lx.blank b := by
 rw [Bool.eq_iff_iff, decide_eq_true_iff, indexByte_mem]
 simp [Lx.blank]
theorem clone_at (w : World) (l : List UInt8) (hl : l.length ≤ 5000) :
 Calls Tryz.prog 145 #[.string (strO l)] w fun e w' => e = .returned (.string (strO l)) ∧ Keeps [] w w' := by
 have h := Any.stringslite_Clone Tryz.lClone (strO l) w (by rw [strO_len]; omega)
 refine Calls.mono (f := 145) h ?_
 rintro e w' ⟨rfl, hb⟩
 exact ⟨rfl, Keeps.of_below hb []⟩
theorem sclone_any (w : World) (l : List UInt8) (hl : l.length ≤ 5000) :
 Calls Tryz.prog 110 #[.string (strO l)] w fun e w' => e = .returned (.string (strO l)) ∧ Keeps [] w w' := by
 have H := Hd (clone_at w l hl)
 obtain ⟨s, hs⟩ : ∃ s, s = strO l := ⟨_, rfl⟩
 rw [← hs] at H ⊢
 clear hs
 go_enter Tryz.func110, Tryz.ntmps110
 go_wp2_with fail
 refine (H.out).mono ?_
 rintro e w1 ⟨rfl, hk⟩
 have HK := Hd hk
 clear hk
 go_wp2_with fail
 go_ret
 exact ⟨rfl, HK.out⟩
end
section
set_option maxHeartbeats 2000000
open Go.RowKit Go.Shelf
theorem number_any (w : World) (l : List UInt8) (b : UInt8) (t : List UInt8) (hl : l = b :: t) (hd : Lx.digit b = true) (hn : l.length ≤ 5000) (he : ErrAt w) :
 Calls Tryz.prog 143 #[.string (strO l)] w fun e w' => e = .returned (.int .i64 ((Lx.num l : Nat) : Int)) ∧ Keeps [] w w' := by
 have HNUM := Hd (show Lx.num l = if 9223372036854775807 < Lx.val (l.takeWhile Lx.digit) then 53 else if (l.takeWhile Lx.digit).length < l.length ∨ (l.head? = some 48 ∧ 1 < (l.takeWhile Lx.digit).length) then 50 else 0 from rfl)
 obtain ⟨r, hr⟩ : ∃ r, r = Lx.num l := ⟨_, rfl⟩
 rw [← hr] at HNUM ⊢
 clear hr
 have htl := (List.takeWhile_prefix (l := l) Lx.digit).length_le
 have HT := Hd (trimLeft_at w l)
 have HS := Hd (fun w' => trimSuffix_at w' l hn)
 have hne : l.takeWhile Lx.digit ≠ [] := by rw [hl, List.takeWhile_cons_of_pos hd]; simp
 have hall := Lx.takeWhile_all l
 have hlen : (l.takeWhile Lx.digit).length + (l.dropWhile Lx.digit).length = l.length := by rw [← List.length_append, List.takeWhile_append_dropWhile]
 have hh : (l.takeWhile Lx.digit)[0]? = some b := by rw [hl, List.takeWhile_cons_of_pos hd]; rfl
 have hh2 : l.head? = some b := by rw [hl]; rfl
 rw [hh2] at HNUM
 obtain ⟨tw, htw⟩ : ∃ x, x = l.takeWhile Lx.digit := ⟨_, rfl⟩
 obtain ⟨dw, hdw⟩ : ∃ x, x = l.dropWhile Lx.digit := ⟨_, rfl⟩
 rw [← htw] at hne hall hlen hh HNUM htl
 rw [← hdw] at HT hlen
 have HS' : Hid (∀ w', Calls Tryz.prog 176 #[.string (strO l), .string (strO dw)] w' fun e w2 => e = .returned (.string (strO tw)) ∧ w' = w2) := Hd (by rw [htw, hdw]; exact HS.out)
 have HLEN := Hd hlen
 have HPN := Hd (fun w' (h1 : ErrAt w') (h2 : 9223372036854775807 < Lx.val tw) => parse_no w' tw h1 (by omega) hall h2)
 have HPY := Hd (fun w' (h2 : Lx.val tw ≤ 9223372036854775807) => parse_yes w' tw (by omega) hne hall h2)
 have HE := Hd he
 clear hl HS htw hdw hall hlen hh2 he hd
 obtain ⟨n, hnn⟩ : ∃ n, n = l.length := ⟨_, rfl⟩
 rw [← hnn] at HNUM HLEN htl hn
 obtain ⟨s, hs⟩ : ∃ s, s = strO l := ⟨_, rfl⟩
 rw [← hs] at HT HS' ⊢
 obtain ⟨v, hv⟩ : ∃ s, s = strO tw := ⟨_, rfl⟩
 have iv := idx0 hv hh
 have hvl : v.toList = tw := by rw [hv, strO_toList]
 have hvs : v.size = tw.length := by rw [hv, strO_len]
 rw [← hv] at HS' HPN HPY
 obtain ⟨u, hu⟩ : ∃ s, s = strO dw := ⟨_, rfl⟩
 have hul : u.toList = dw := by rw [hu, strO_toList]
 rw [← hu] at HT HS'
 have HVL := Hd hvl
 have HUL := Hd hul
 have HNE := Hd hne
 have HH := Hd hh
 have HVS := Hd hvs
 have htn := htl
 clear hnn hs hv hu hvl hul hne hh hvs htl
 by_cases hval : 9223372036854775807 < Lx.val tw
 ·
  have HPN' := Hd (fun w' h1 => HPN.out w' h1 hval)
  have HR := HNUM.out
  rw [if_pos hval] at HR
  clear hval HPN HPY HNUM
  subst HR
  go_enter Tryz.func143, Tryz.ntmps143
  go_wp2_with fail
  refine (HT.out).mono ?_
  rintro e w1 ⟨rfl, hk⟩
  have HK := Hd hk
  clear hk
  go_wp2_with fail
  refine (same (HS'.out w1)) ?_
  go_wp2_with fail
  refine (HPN'.out w1 (HE.out.keep HK.out)).mono ?_
  rintro e w2 ⟨n1, t1, p1, rfl, hk2⟩
  have HK2 := Hd (HK.out.trans hk2 (by simp))
  clear hk2
  go_wp2_with fail
  go_ret
  exact ⟨rfl, HK2.out⟩
 ·
  have HPY' := Hd (fun w' => HPY.out w' (by omega))
  have HR := Hd (HNUM.out.trans (if_neg hval))
  obtain ⟨m, hm⟩ : ∃ m, m = Lx.val tw := ⟨_, rfl⟩
  rw [← hm] at HPY'
  clear hval HPN HPY HNUM hm
  go_enter Tryz.func143, Tryz.ntmps143
  go_wp2_with fail
  refine (HT.out).mono ?_
  rintro e w1 ⟨rfl, hk⟩
  have HK := Hd hk
  clear hk
  go_wp2_with fail
  refine (same (HS'.out w1)) ?_
  go_wp2_with fail
  refine (HPY'.out w1).mono ?_
  rintro e w2 ⟨rfl, hk2⟩
  have HK2 := Hd (HK.out.trans hk2 (by simp))
  clear hk2
  go_wp2_with fail
  ·
   rename_i h1 h2 h3
   go_ret
   have hb : b = 48 := UInt8.toNat_inj.1 (by simp; omega)
   have hv1 : tw ≠ [48] := fun h => by rw [HVL.out, h] at h3; simp at h3
   have h1t : 1 < tw.length := by
    have h0 := HH.out
    match tw, h0, hv1 with
    | [c], h0, hv1 => simp at h0; subst h0; exact absurd (by rw [hb]) hv1
    | _ :: _ :: _, _, _ => simp
   refine ⟨?_, HK2.out⟩
   rw [HR.out, if_pos (.inr ⟨by rw [hb], h1t⟩)]; rfl
  ·
   rename_i h1 h2 h3
   go_ret
   have hv1 : tw = [48] := by rw [HVL.out] at h3; simpa using h3
   have hd0 : dw = [] := by rw [← HUL.out]; exact h1
   have hlen := HLEN.out
   rw [hv1, hd0] at hlen
   simp at hlen
   refine ⟨?_, HK2.out⟩
   rw [HR.out, if_neg (by rw [hv1]; simp; omega)]; rfl
  ·
   rename_i h1 h2
   go_ret
   have hb : ¬ (some b = some (48 : UInt8)) := fun h => h2 (by have := Option.some.inj h; rw [this]; rfl)
   have hd0 : dw = [] := by rw [← HUL.out]; exact h1
   have hlen := HLEN.out
   rw [hd0] at hlen
   simp at hlen
   refine ⟨?_, HK2.out⟩
   rw [HR.out, if_neg (by rintro (h | ⟨h, _⟩); omega; exact hb h)]; rfl
  ·
   rename_i h1
   go_ret
   have hd0 : dw ≠ [] := by rw [← HUL.out]; exact h1
   have := List.length_pos_iff.2 hd0
   have hlen := HLEN.out
   refine ⟨?_, HK2.out⟩
   rw [HR.out, if_pos (.inl (by omega))]; rfl
def kindI (k : Option Nat) : Int := match k with | none => -1 | some k => (k : Int)
theorem read_any (w : World) (l : List UInt8) (h0 : l ≠ []) (hn : l.length ≤ 5000) (he : ErrAt w) :
 Calls Tryz.prog 109 #[.string (strO l)] w fun e w' => e = .returned (.tuple #[.int .i64 (kindI (Lx.judge l).1), .int .i64 (((Lx.judge l).2 : Nat) : Int)]) ∧ Keeps [] w w' := by
 match l, h0 with
 | b :: t, _ =>
  have HJ := Hd (show Lx.judge (b :: t) = if b == 35 || Lx.blank b then (none, 0) else if Lx.digit b then (some 1, Lx.num (b :: t)) else if Lx.letter b then (some 0, if 32 < (b :: t).length then 53 else 0) else if Lx.isOp (b :: t) then (some 2, 0) else (none, 50) from rfl)
  have HNUM := Hd (fun h => number_any w (b :: t) b t rfl h hn he)
  have HNAME := Hd (name_any w (b :: t) hn)
  have HO := Hd (operator_any w (b :: t))
  have HW := Hd (inWord_any w b)
  have HD := Hd (digit_any w b)
  have HI := Hd (indexByte_at w b)
  obtain ⟨s, hs⟩ : ∃ s, s = strO (b :: t) := ⟨_, rfl⟩
  have i0 := idx0 hs (b := b) rfl
  have hsz : 0 < s.size := by rw [hs, strO_len]; simp
  rw [← hs] at HNUM HNAME HO ⊢
  obtain ⟨k, hk⟩ : ∃ k, k = kindI (Lx.judge (b :: t)).1 := ⟨_, rfl⟩
  obtain ⟨r, hr⟩ : ∃ k, k = (((Lx.judge (b :: t)).2 : Nat) : Int) := ⟨_, rfl⟩
  rw [← hk, ← hr]
  have HKR := Hd (And.intro hk hr)
  clear hs hk hr he
  have hgap : (b == 35) = false → (b == 35 || Lx.blank b) = Lx.blank b := fun h => by rw [h]; rfl
  by_cases hb : (b == 35) = true
  ·
   have e1 : (((b.toNat : Nat) : Int) == 35) = true := by rw [← hb]; exact i8eq b 35 (by omega)
   have hj := HJ.out
   rw [if_pos (by rw [hb]; rfl)] at hj
   obtain ⟨rfl, rfl⟩ := HKR.out
   rw [hj]
   clear hj HJ HNUM HKR
   go_enter Tryz.func109, Tryz.ntmps109
   go_wp2_with fail
   go_ret2
   exact ⟨rfl, Keeps.refl _ _⟩
  ·
   have hb' : (b == 35) = false := by simpa using hb
   have e1 : (((b.toNat : Nat) : Int) == 35) = false := by rw [show (((b.toNat : Nat) : Int) == 35) = (b == 35) from i8eq b 35 (by omega)]; exact hb'
   have hj := HJ.out
   rw [hgap hb'] at hj
   have hbl := indexByte_blank b
   by_cases hbk : Lx.blank b = true
   ·
    rw [if_pos hbk] at hj
    rw [hbk] at hbl
    obtain ⟨rfl, rfl⟩ := HKR.out
    rw [hj]
    obtain ⟨i, hi⟩ : ∃ i, i = Lib.indexByte [32, 9, 13, 10] b := ⟨_, rfl⟩
    rw [← hi] at HI hbl
    clear hj HJ HNUM HKR hi hgap
    go_enter Tryz.func109, Tryz.ntmps109
    go_wp2_with fail
    refine (same (HI.out)) ?_
    go_wp2_with fail
    go_ret2
    exact ⟨rfl, Keeps.refl _ _⟩
   ·
    rw [if_neg hbk] at hj
    have hbk' : Lx.blank b = false := by simpa using hbk
    rw [hbk'] at hbl
    obtain ⟨i, hi⟩ : ∃ i, i = Lib.indexByte [32, 9, 13, 10] b := ⟨_, rfl⟩
    rw [← hi] at HI hbl
    by_cases hdg : Lx.digit b = true
    ·
     rw [if_pos hdg] at hj
     obtain ⟨rfl, rfl⟩ := HKR.out
     rw [hj]
     have HNUM' := Hd (HNUM.out hdg)
     rw [hdg] at HD
     obtain ⟨m, hm⟩ : ∃ m, m = Lx.num (b :: t) := ⟨_, rfl⟩
     rw [← hm] at HNUM' ⊢
     clear hj HJ HNUM HKR hi hgap hm
     go_enter Tryz.func109, Tryz.ntmps109
     go_wp2_with fail
     refine (same (HI.out)) ?_
     go_wp2_with fail
     refine (same (HD.out)) ?_
     go_wp2_with fail
     refine (HNUM'.out).mono ?_
     rintro e w1 ⟨rfl, hk⟩
     have HK := Hd hk
     clear hk
     go_wp2_with fail
     go_ret2
     exact ⟨rfl, HK.out⟩
    ·
     rw [if_neg hdg] at hj
     have hdg' : Lx.digit b = false := by simpa using hdg
     have hw : Lx.inWord b = Lx.letter b := by unfold Lx.inWord; rw [hdg']; simp
     rw [hdg'] at HD
     rw [hw] at HW
     by_cases hlt : Lx.letter b = true
     ·
      rw [if_pos hlt] at hj
      obtain ⟨rfl, rfl⟩ := HKR.out
      rw [hj]
      rw [hlt] at HW
      have hc : (((if 32 < (b :: t).length then 53 else 0 : Nat)) : Int) = if 32 < (b :: t).length then 53 else 0 := by split <;> rfl
      have HC := Hd hc
      obtain ⟨m, hm⟩ : ∃ m : Int, m = if 32 < (b :: t).length then 53 else 0 := ⟨_, rfl⟩
      show Calls _ _ _ _ (fun e w' => e = .returned (.tuple #[.int .i64 0, .int .i64 (((if 32 < (b :: t).length then 53 else 0 : Nat)) : Int)]) ∧ Keeps [] w w')
      rw [HC.out]
      rw [← hm] at HNAME ⊢
      clear hj HJ HNUM HKR hi hgap hm hc HC
      go_enter Tryz.func109, Tryz.ntmps109
      go_wp2_with fail
      refine (same (HI.out)) ?_
      go_wp2_with fail
      refine (same (HD.out)) ?_
      go_wp2_with fail
      refine (same (HW.out)) ?_
      go_wp2_with fail
      refine (same (HNAME.out)) ?_
      go_wp2_with fail
      go_ret2
      exact ⟨rfl, Keeps.refl _ _⟩
     ·
      rw [if_neg hlt] at hj
      have hlt' : Lx.letter b = false := by simpa using hlt
      rw [hlt'] at HW
      by_cases hop : Lx.isOp (b :: t) = true
      ·
       rw [if_pos hop] at hj
       obtain ⟨rfl, rfl⟩ := HKR.out
       rw [hj]
       rw [hop] at HO
       clear hj HJ HNUM HKR hi hgap hop
       go_enter Tryz.func109, Tryz.ntmps109
       go_wp2_with fail
       refine (same (HI.out)) ?_
       go_wp2_with fail
       refine (same (HD.out)) ?_
       go_wp2_with fail
       refine (same (HW.out)) ?_
       go_wp2_with fail
       refine (same (HO.out)) ?_
       go_wp2_with fail
       go_ret2
       exact ⟨rfl, Keeps.refl _ _⟩
      ·
       rw [if_neg hop] at hj
       have hop' : Lx.isOp (b :: t) = false := by simpa using hop
       obtain ⟨rfl, rfl⟩ := HKR.out
       rw [hj]
       rw [hop'] at HO
       clear hj HJ HNUM HKR hi hgap hop hop'
       go_enter Tryz.func109, Tryz.ntmps109
       go_wp2_with fail
       refine (same (HI.out)) ?_
       go_wp2_with fail
       refine (same (HD.out)) ?_
       go_wp2_with fail
       refine (same (HW.out)) ?_
       go_wp2_with fail
       refine (same (HO.out)) ?_
       go_wp2_with fail
       go_ret2
       exact ⟨rfl, Keeps.refl _ _⟩
end
section
open Go.RowKit Go.Shelf
def ToksIn (w : World) (g : Nat) (A : Option Addr) (ts : List Lx.Tok) : Prop :=
 ts = [] ∨ ∃ off, A = some ⟨g, off, none⟩ ∧ ∀ k (hk : k < ts.length), w.cell? ⟨g, off + k * 3, none⟩ = some (.int .i64 ((ts[k].kind : Nat) : Int)) ∧ w.cell? ⟨g, off + k * 3 + 1, none⟩ = some (.string (strO ts[k].text)) ∧ w.cell? ⟨g, off + k * 3 + 2, none⟩ = some (.int .i64 ((ts[k].at_ : Nat) : Int))
theorem ToksIn.keep {S : List Nat} {w w' : World} {g : Nat} {A : Option Addr} {l : List Lx.Tok} (h : ToksIn w g A l) (hk : Keeps S w w') (hn : g ∉ S) : ToksIn w' g A l := by
 rcases h with h | ⟨off, hA, hc⟩
 · exact .inl h
 · exact .inr ⟨off, hA, fun k hl => ⟨hk.cell_some (hc k hl).1 hn, hk.cell_some (hc k hl).2.1 hn, hk.cell_some (hc k hl).2.2 hn⟩⟩
def tcells (ts : List Lx.Tok) : List Value := ts.flatMap fun c => [.int .i64 ((c.kind : Nat) : Int), .string (strO c.text), .int .i64 ((c.at_ : Nat) : Int)]
theorem tcells_get : ∀ (cs : List Lx.Tok) (k : Nat) (hk : k < cs.length), (tcells cs)[k * 3]? = some (.int .i64 ((cs[k].kind : Nat) : Int)) ∧ (tcells cs)[k * 3 + 1]? = some (.string (strO cs[k].text)) ∧ (tcells cs)[k * 3 + 2]? = some (.int .i64 ((cs[k].at_ : Nat) : Int))
 | [], k, hk => by simp at hk
 | c :: cs, 0, _ => ⟨rfl, rfl, rfl⟩
 | c :: cs, k + 1, hk => by
  have h := tcells_get cs k (by simpa using hk)
  have e : tcells (c :: cs) = [.int .i64 ((c.kind : Nat) : Int), .string (strO c.text), .int .i64 ((c.at_ : Nat) : Int)] ++ tcells cs := rfl
  have e0 : (k + 1) * 3 = k * 3 + 3 := by omega
  rw [e, e0]
  refine ⟨?_, ?_, ?_⟩
  · rw [List.getElem?_append_right (by simp)]; simpa using h.1
  · rw [List.getElem?_append_right (by simp)]; simpa using h.2.1
  · rw [List.getElem?_append_right (by simp)]; simpa using h.2.2
theorem tcells_snoc (cs : List Lx.Tok) (c : Lx.Tok) : tcells (cs ++ [c]) = tcells cs ++ [.int .i64 ((c.kind : Nat) : Int), .string (strO c.text), .int .i64 ((c.at_ : Nat) : Int)] := by simp [tcells]
theorem toks_of_own {w : World} {base : Nat} {t : TypeId} {v : Value} {cs : List Lx.Tok} (h : w.ownsRow base t 3 v cs.length (tcells cs)) : ∃ A c g, v = .slice A cs.length c ∧ ToksIn w g A cs ∧ (cs ≠ [] → base ≤ g) := by
 rcases h.2 with ⟨rfl, h0⟩ | ⟨g, cap, cur, rfl, hb, hg, hn, hm, hcs, ht⟩
 ·
  have h0' : cs = [] := List.eq_nil_of_length_eq_zero h0
  exact ⟨none, 0, 0, by rw [h0], .inl h0', fun hne => absurd h0' hne⟩
 ·
  refine ⟨_, cap, g, rfl, .inr ⟨0, rfl, fun k hk => ?_⟩, fun _ => hb⟩
  have hx : ∀ j, j < cs.length * 3 → w.cell? ⟨g, j, none⟩ = (tcells cs)[j]? := fun j hj => by
   rw [row_cell hg, ← ht, List.getElem?_take, if_pos hj, Array.getElem?_toList]
  obtain ⟨q1, q2, q3⟩ := tcells_get cs k hk
  rw [Nat.zero_add]
  exact ⟨by rw [hx _ (by omega)]; exact q1, by rw [hx _ (by omega)]; exact q2, by rw [hx _ (by omega)]; exact q3⟩
theorem infoTok : (Tryz.prog.info? 53).map (fun i => (i.zero, i.size, i.bytes)) = some (some (.agg #[.int .i64 0, .string .empty, .int .i64 0]), 3, 32) := by kernel_rfl
theorem owned_keep3 {w w' : World} {base : Nat} {e : TypeId} {size n : Nat} {v : Value} {xs : List Value} (h : w.ownsRow base e size v n xs) (hk : Keeps [] w w') : w'.ownsRow base e size v n xs := owned_keep h hk (fun _ _ h => by cases h)
theorem Keeps.fresh {S : List Nat} {w a b : World} (h : Keeps [] w a) (k : Keeps S a b) (hs : ∀ x ∈ S, w.heap.size ≤ x) : Keeps [] w b :=
 ((h.mono (T := S) (by simp)).trans k (fun _ hi _ => hi)).mono (fun i hi hl => by have := hs i hi; omega)
def TokRow (w0 w : World) (v : Value) (ts : List Lx.Tok) : Prop := w.ownsRow w0.heap.size 53 3 v ts.length (tcells ts)
theorem wp_tok {ops : Array Oper} {rest : List Oper} {o : Oper} {a : Act} {Q : Exit → Act → World → Prop} {w w0 : World} (hgd : o.guard = none) (s x : Operand)
 (ho : o.op = .call { callee := .builtin .append, args := #[s, x], argTypes := #[49, 49] }) (v : Value) (ts : List Lx.Tok) (hs : a.eval s = v)
 (hown : w.ownsRow w0.heap.size 53 3 v ts.length (tcells ts)) (k f : Nat) (st : ByteArray) (c : Nat) (hx : a.eval x = .slice (some ⟨w.heap.size, 0, none⟩) 1 c) (p : List UInt8) (hp : st = strO p) (hlen : ts.length ≤ 100000) (hk : Keeps [] w0 w)
 (h : ∀ v' w', Hid (TokRow w0 w' v' (ts ++ [Lx.Tok.mk k p f])) → Hid (Keeps [] w0 w') → wpList Tryz.prog ops Q rest (a.put o.dst v') w') :
 wpList Tryz.prog ops Q (o :: rest) a (w.alloc (.cells #[.int .i64 ((k : Nat) : Int), .string st, .int .i64 ((f : Nat) : Int)] 53)) := by
 obtain ⟨iP, hP, hP0, hP1, hP2⟩ := info_parts infoTok
 refine wpList_append_own _ hgd s x 49 ho w0.heap.size 53 iP (.agg #[.int .i64 0, .string .empty, .int .i64 0]) 3 32 Tryz.underlying49 hP hP0 hP1 hP2 rfl (by decide) v ts.length (tcells ts) hs (hown.alloc _) ⟨w.heap.size, 0, none⟩ 1 c [.int .i64 ((k : Nat) : Int), .string st, .int .i64 ((f : Nat) : Int)] hx rfl ?_ ?_ ?_ ?_ ?_ ?_
 ·
  intro j u hj
  rw [Addr.add_lit, Nat.zero_add, row_cell (heap_alloc_new w _)]
  match j, hj with
  | 0, hj => simpa using hj
  | 1, hj => simpa using hj
  | 2, hj => simpa using hj
  | j + 3, hj => simp at hj
 · intro u hu; simp at hu; rcases hu with rfl | rfl | rfl <;> rfl
 · unfold maxLen; omega
 · omega
 · have := hk.size; simp; omega
 ·
  intro v' w' h1 h2 _
  refine h v' w' (Hd ?_) (Hd ((hk.alloc _).fresh (Keeps.of_grown h2) (fun y hy => (hown.lt y (by simpa using hy)).1)))
  unfold TokRow
  rw [tcells_snoc, List.length_append, ← hp]
  exact h1
def LexP (w : World) (o : Lx.Out) (e : Ending) (w' : World) : Prop :=
 ∃ A c g, e = .returned (.tuple #[.slice A o.toks.length c, .int .i64 ((o.pos : Nat) : Int), .int .i64 ((o.err : Nat) : Int)]) ∧ ToksIn w' g A o.toks ∧ (o.toks ≠ [] → w.heap.size ≤ g) ∧ Keeps [] w w'
end
end Go.Proofs.YtbikifibfaaggaaGreatDoor
