/- Merged: Math WMath WLog WSafe WSum WBase WNum -/
import Derived.Test.YtbanpdeganlndaaGreatDoorQ1
import Derived.Test.YtbanpdeganlndaaGreatDoorQ0
import Derived.Test.YtbanpdeganlndaaGreatDoorQ3
import Derived.IntWalk
namespace Go.Proofs.YtbanpdeganlndaaGreatDoor.M

/-! ### CRC -/
def bit (c : Nat) : Nat := (c / 2) ^^^ (c % 2 * 3988292384)
def bit4 (c : Nat) : Nat := bit (bit (bit (bit c)))
def byt (c b : Nat) : Nat := bit4 (bit4 (c ^^^ b))
def crun (c : Nat) (l : List UInt8) : Nat := l.foldl (fun c b => byt c b.toNat) c
def cruns (c : Nat) (ls : List (List UInt8)) : Nat := ls.foldl crun c
def crc (ls : List (List UInt8)) : Nat := 4294967295 ^^^ cruns 4294967295 ls

def tab : List Nat := [0, 498536548, 997073096, 651767980, 1994146192, 1802195444, 1303535960, 1342533948, 3988292384, 4027552580, 3604390888, 3412177804, 2607071920, 2262029012, 2685067896, 3183342108]

theorem bit_xor (a b : Nat) : bit (a ^^^ b) = bit a ^^^ bit b := by
  unfold bit
  rw [Nat.xor_div_two]
  have h : (a ^^^ b) % 2 * 3988292384 = (a % 2 * 3988292384) ^^^ (b % 2 * 3988292384) := by
    have hm : (a ^^^ b) % 2 = (a % 2) ^^^ (b % 2) := by
      have := Nat.xor_mod_two_pow (a := a) (b := b) (n := 1)
      simpa using this
    rw [hm]
    rcases Nat.mod_two_eq_zero_or_one a with ha | ha <;> rcases Nat.mod_two_eq_zero_or_one b with hb | hb <;> simp [ha, hb]
  rw [h]
  ac_rfl
theorem bit4_xor (a b : Nat) : bit4 (a ^^^ b) = bit4 a ^^^ bit4 b := by simp only [bit4, bit_xor]
theorem bit_even (k : Nat) : bit (2 * k) = k := by
  unfold bit
  have h1 : 2 * k / 2 = k := by omega
  have h2 : 2 * k % 2 = 0 := by omega
  simp [h1, h2]
theorem bit4_16 (k : Nat) : bit4 (16 * k) = k := by
  have h : 16 * k = 2 * (2 * (2 * (2 * k))) := by omega
  unfold bit4
  rw [h, bit_even, bit_even, bit_even, bit_even]
theorem bit4_tab : ∀ r, r < 16 → bit4 r = tab.getD r 0 := by decide
theorem split16 (c : Nat) : c = (16 * (c / 16)) ^^^ (c % 16) := by
  have h := Nat.two_pow_add_eq_or_of_lt (i := 4) (b := c % 16) (by omega) (c / 16)
  have e : 16 * (c / 16) + c % 16 = c := by omega
  have h2 : (16 * (c / 16)) &&& (c % 16) = 0 := by
    apply Nat.eq_of_testBit_eq
    intro j
    rw [Nat.testBit_and, Nat.zero_testBit]
    by_cases hj : j < 4
    · have : Nat.testBit (16 * (c / 16)) j = false := by
        have := Nat.testBit_two_pow_mul (i := 4) (a := c / 16) (j := j)
        rw [show (2 : Nat) ^ 4 = 16 by decide] at this
        rw [this]
        simp; omega
      rw [this]; rfl
    · have : Nat.testBit (c % 16) j = false := by
        apply Nat.testBit_lt_two_pow
        calc c % 16 < 2 ^ 4 := by omega
          _ ≤ 2 ^ j := Nat.pow_le_pow_right (by decide) (by omega)
      rw [this]; simp
  apply Nat.eq_of_testBit_eq
  intro j
  have hj := congrArg (fun x => Nat.testBit x j) h2
  simp only [Nat.testBit_and, Nat.zero_testBit] at hj
  rw [show (2 : Nat) ^ 4 = 16 by decide] at h
  have hc : Nat.testBit c j = (Nat.testBit (16 * (c / 16)) j || Nat.testBit (c % 16) j) := by
    rw [← Nat.testBit_or, ← h, e]
  rw [Nat.testBit_xor, hc]
  revert hj
  cases Nat.testBit (16 * (c / 16)) j <;> cases Nat.testBit (c % 16) j <;> simp
theorem bit4_half (c : Nat) : bit4 c = tab.getD (c % 16) 0 ^^^ (c / 16) := by
  conv => lhs; rw [split16 c]
  rw [bit4_xor, bit4_16, bit4_tab _ (by omega)]
  ac_rfl
theorem bit_lt {c : Nat} (h : c < 4294967296) : bit c < 4294967296 := by
  unfold bit
  apply Nat.xor_lt_two_pow (n := 32)
  · omega
  · have : c % 2 < 2 := by omega
    omega
theorem bit4_lt {c : Nat} (h : c < 4294967296) : bit4 c < 4294967296 := bit_lt (bit_lt (bit_lt (bit_lt h)))
theorem xor_lt32 {a b : Nat} (ha : a < 4294967296) (hb : b < 4294967296) : a ^^^ b < 4294967296 := Nat.xor_lt_two_pow (n := 32) ha hb
theorem byt_lt {c b : Nat} (h : c < 4294967296) (hb : b < 256) : byt c b < 4294967296 := bit4_lt (bit4_lt (xor_lt32 h (by omega)))
theorem u8_lt (b : UInt8) : b.toNat < 256 := b.toNat_lt
theorem crun_lt : ∀ (l : List UInt8) {c : Nat}, c < 4294967296 → crun c l < 4294967296
  | [], _, h => h
  | b :: l, _, h => crun_lt l (byt_lt h (u8_lt b))
theorem cruns_lt : ∀ (ls : List (List UInt8)) {c : Nat}, c < 4294967296 → cruns c ls < 4294967296
  | [], _, h => h
  | l :: ls, _, h => cruns_lt ls (crun_lt l h)
theorem crc_lt (ls : List (List UInt8)) : crc ls < 4294967296 := xor_lt32 (by decide) (cruns_lt ls (by decide))

theorem crun_append (c : Nat) (a b : List UInt8) : crun c (a ++ b) = crun (crun c a) b := List.foldl_append
theorem crun_take {l : List UInt8} {k : Nat} (hk : k < l.length) (c : Nat) : crun c (l.take (k + 1)) = byt (crun c (l.take k)) l[k].toNat := by
  rw [List.take_succ_eq_append_getElem hk]; unfold crun; rw [List.foldl_append, List.foldl_cons, List.foldl_nil]
theorem cruns_take {ls : List (List UInt8)} {k : Nat} (hk : k < ls.length) (c : Nat) : cruns c (ls.take (k + 1)) = crun (cruns c (ls.take k)) ls[k] := by
  rw [List.take_succ_eq_append_getElem hk]; unfold cruns; rw [List.foldl_append, List.foldl_cons, List.foldl_nil]

/-! ### FNV -/
def fb (h b : Nat) : Nat := (h ^^^ b) * 1099511628211 % 18446744073709551616
def flen (h n : Nat) : Nat := fb (fb (fb (fb h (n / 16777216 % 256)) (n / 65536 % 256)) (n / 256 % 256)) (n % 256)
def frun (h : Nat) (l : List UInt8) : Nat := l.foldl (fun h b => fb h b.toNat) h
def fpart (h : Nat) (l : List UInt8) : Nat := frun (flen h l.length) l
def fruns (h : Nat) (ls : List (List UInt8)) : Nat := ls.foldl fpart h
def fnv (ls : List (List UInt8)) : Nat := fruns 14695981039346656037 ls
theorem fb_lt (h b : Nat) : fb h b < 18446744073709551616 := Nat.mod_lt _ (by decide)
theorem flen_lt (h n : Nat) : flen h n < 18446744073709551616 := fb_lt _ _
theorem frun_lt : ∀ (l : List UInt8) {h : Nat}, h < 18446744073709551616 → frun h l < 18446744073709551616
  | [], _, h => h
  | _ :: l, _, _ => frun_lt l (fb_lt _ _)
theorem fpart_lt (l : List UInt8) (h : Nat) : fpart h l < 18446744073709551616 := frun_lt l (flen_lt _ _)
theorem fruns_lt : ∀ (ls : List (List UInt8)) {h : Nat}, h < 18446744073709551616 → fruns h ls < 18446744073709551616
  | [], _, h => h
  | l :: ls, _, _ => fruns_lt ls (fpart_lt l _)
theorem fnv_lt (ls : List (List UInt8)) : fnv ls < 18446744073709551616 := by
  unfold fnv
  exact fruns_lt ls (by omega)
theorem frun_take {l : List UInt8} {k : Nat} (hk : k < l.length) (h : Nat) : frun h (l.take (k + 1)) = fb (frun h (l.take k)) l[k].toNat := by
  rw [List.take_succ_eq_append_getElem hk]; unfold frun; rw [List.foldl_append, List.foldl_cons, List.foldl_nil]
theorem fruns_take {ls : List (List UInt8)} {k : Nat} (hk : k < ls.length) (h : Nat) : fruns h (ls.take (k + 1)) = fpart (fruns h (ls.take k)) ls[k] := by
  rw [List.take_succ_eq_append_getElem hk]; unfold fruns; rw [List.foldl_append, List.foldl_cons, List.foldl_nil]

/-! ### Parts -/
theorem crc_cut (b : List UInt8) (k : Nat) : crc [b.take k, b.drop k] = crc [b] := by
  unfold crc cruns
  simp only [List.foldl_cons, List.foldl_nil]
  rw [← crun_append, List.take_append_drop]
theorem crc_nil (b : List UInt8) : crc [b, []] = crc [b] := by
  unfold crc cruns
  simp only [List.foldl_cons, List.foldl_nil]
  simp only [crun, List.foldl_nil]
theorem cruns_append (c : Nat) (a b : List (List UInt8)) : cruns c (a ++ b) = cruns (cruns c a) b := List.foldl_append
theorem cruns_nils : ∀ (n : Nat) (c : Nat), cruns c (List.replicate n []) = c
  | 0, _ => rfl
  | n + 1, c => by
    rw [List.replicate_succ]
    unfold cruns
    rw [List.foldl_cons]
    have h : crun c [] = c := by simp only [crun, List.foldl_nil]
    rw [h]
    exact cruns_nils n c
theorem crc_nils (ls : List (List UInt8)) (n : Nat) : crc (ls ++ List.replicate n []) = crc ls := by
  unfold crc
  rw [cruns_append, cruns_nils]
end Go.Proofs.YtbanpdeganlndaaGreatDoor.M
namespace Go.Proofs.YtbanpdeganlndaaGreatDoor
namespace L

def le32 (n : Nat) : List UInt8 := [UInt8.ofNat n, UInt8.ofNat (n / 256), UInt8.ofNat (n / 65536), UInt8.ofNat (n / 16777216)]
def de32 (l : List UInt8) : Nat := (l.getD 0 0).toNat + 256 * (l.getD 1 0).toNat + 65536 * (l.getD 2 0).toNat + 16777216 * (l.getD 3 0).toNat
theorem le32_length (n : Nat) : (le32 n).length = 4 := rfl
theorem de32_lt (l : List UInt8) : de32 l < 4294967296 := by
  unfold de32
  have := M.u8_lt (l.getD 0 0); have := M.u8_lt (l.getD 1 0); have := M.u8_lt (l.getD 2 0); have := M.u8_lt (l.getD 3 0)
  omega
theorem ofNat_toNat (n : Nat) : (UInt8.ofNat n).toNat = n % 256 := by simp
theorem de_le (n : Nat) (h : n < 4294967296) (r : List UInt8) : de32 (le32 n ++ r) = n := by
  unfold de32 le32
  simp only [List.cons_append, List.getD_cons_zero, List.getD_cons_succ, ofNat_toNat]
  omega
theorem de_prefix {a b : List UInt8} (h : 4 ≤ a.length) : de32 (a ++ b) = de32 a := by
  match a, h with
  | x :: y :: z :: u :: a, _ => rfl
theorem de_take {a : List UInt8} {k : Nat} (h : 4 ≤ k) (hk : k ≤ a.length) : de32 (a.take k) = de32 a := by
  have := de_prefix (a := a.take k) (b := a.drop k) (by rw [List.length_take]; omega)
  rw [List.take_append_drop] at this
  exact this.symm

/-! ### Records -/
def body : List (List UInt8) → List UInt8
  | [] => []
  | r :: rs => le32 r.length ++ (r ++ body rs)
theorem body_append (a b : List (List UInt8)) : body (a ++ b) = body a ++ body b := by
  induction a with
  | nil => rfl
  | cons r rs ih => simp only [List.cons_append, body, ih, List.append_assoc]
theorem body_cons_len (r : List UInt8) (rs : List (List UInt8)) : (body (r :: rs)).length = 4 + r.length + (body rs).length := by
  simp only [body, List.length_append, le32_length]; omega
def split (b : List UInt8) : Option (List (List UInt8)) :=
  if _h0 : b = [] then some []
  else if _h4 : b.length < 4 then none
  else if (b.drop 4).length < de32 b then none
  else (split ((b.drop 4).drop (de32 b))).map fun rs => (b.drop 4).take (de32 b) :: rs
termination_by b.length
decreasing_by simp only [List.length_drop]; omega
theorem split_nil : split [] = some [] := by rw [split]; simp
theorem split_short {b : List UInt8} (h0 : b ≠ []) (h : b.length < 4) : split b = none := by rw [split, dif_neg h0, dif_pos h]
theorem split_cut {b : List UInt8} (h4 : 4 ≤ b.length) (h : b.length - 4 < de32 b) : split b = none := by
  have h0 : b ≠ [] := by rintro rfl; simp at h4
  rw [split, dif_neg h0, dif_neg (by omega), if_pos (by rw [List.length_drop]; exact h)]
theorem split_next {b : List UInt8} (h4 : 4 ≤ b.length) (h : de32 b ≤ b.length - 4) : split b = (split ((b.drop 4).drop (de32 b))).map fun rs => (b.drop 4).take (de32 b) :: rs := by
  have h0 : b ≠ [] := by rintro rfl; simp at h4
  rw [split, dif_neg h0, dif_neg (by omega), if_neg (by rw [List.length_drop]; omega)]
theorem split_body : ∀ {rs : List (List UInt8)}, (∀ r ∈ rs, r.length < 4294967296) → split (body rs) = some rs
  | [], _ => split_nil
  | r :: rs, h => by
    have hr := h r (by simp)
    have e1 : de32 (body (r :: rs)) = r.length := de_le _ hr _
    have e2 : (body (r :: rs)).drop 4 = r ++ body rs := rfl
    rw [split_next (by rw [body_cons_len]; omega) (by rw [e1, body_cons_len]; omega), e1, e2, List.drop_left, List.take_left, split_body (fun x hx => h x (by simp [hx]))]
    rfl

/-! ### Frames -/
def nsec (rs : List (List UInt8)) (s : Nat) : Nat := if rs = [] then 0 else (9 + (body rs).length + s - 1) / s
theorem nsec_nil (s : Nat) : nsec [] s = 0 := if_pos rfl
theorem nsec_some {rs : List (List UInt8)} (h : rs ≠ []) (s : Nat) : nsec rs s = (9 + (body rs).length + s - 1) / s := if_neg h
theorem nsec_bound {rs : List (List UInt8)} {s : Nat} (hs : 0 < s) : nsec rs s * s ≤ 9 + (body rs).length + s - 1 := by
  unfold nsec; split
  · omega
  · exact Nat.div_mul_le_self _ _
theorem nsec_room {rs : List (List UInt8)} {s : Nat} (h : rs ≠ []) (hs : 0 < s) : 9 + (body rs).length ≤ nsec rs s * s := by
  rw [nsec_some h]
  have h1 := Nat.div_add_mod (9 + (body rs).length + s - 1) s
  have h2 := Nat.mod_lt (9 + (body rs).length + s - 1) hs
  rw [Nat.mul_comm] at h1
  omega
theorem nsec_pos {rs : List (List UInt8)} {s : Nat} (h : rs ≠ []) (hs : 0 < s) : 1 ≤ nsec rs s := by
  have := nsec_room h hs
  rcases Nat.eq_zero_or_pos (nsec rs s) with h0 | h0
  · rw [h0] at this; omega
  · exact h0
def check (b : List UInt8) : Nat := M.crc [le32 b.length, b]
/-- A frame of some records: its mark, and all else but the padding. -/
def core (mark : UInt8) (rs : List (List UInt8)) : List UInt8 := mark :: (le32 (body rs).length ++ (le32 (check (body rs)) ++ body rs))
theorem core_length (mark : UInt8) (rs : List (List UInt8)) : (core mark rs).length = 9 + (body rs).length := by
  simp only [core, List.length_cons, List.length_append, le32_length]; omega
/-- A frame, and a sector of zeros. -/
def frame (mark : UInt8) (rs : List (List UInt8)) (s : Nat) : List UInt8 :=
  if rs = [] then List.replicate s 0 else core mark rs ++ List.replicate ((nsec rs s + 1) * s - (9 + (body rs).length)) 0
theorem frame_length (mark : UInt8) (rs : List (List UInt8)) {s : Nat} (hs : 0 < s) : (frame mark rs s).length = (nsec rs s + 1) * s := by
  unfold frame
  split
  · rename_i h; subst h; simp [nsec_nil]
  · rename_i h
    have := nsec_room h hs
    rw [List.length_append, core_length, List.length_replicate, Nat.add_mul]; omega
def readF (s : Nat) (S : List UInt8) : Option (List (List UInt8) × Nat) :=
  if S.length < 9 then none
  else if S.getD 0 0 ≠ 1 then none
  else if S.length - 9 < de32 (S.drop 1) then none
  else if M.crc [(S.drop 1).take 4, (S.drop 9).take (de32 (S.drop 1))] ≠ de32 (S.drop 5) then none
  else (split ((S.drop 9).take (de32 (S.drop 1)))).map fun rs => (rs, (9 + de32 (S.drop 1) + s - 1) / s)
theorem readF_short {s : Nat} {S : List UInt8} (h : S.length < 9) : readF s S = none := if_pos h
theorem readF_unmarked {s : Nat} {S : List UInt8} (h : S.getD 0 0 ≠ 1) : readF s S = none := by
  unfold readF; repeat (first | rfl | split | contradiction)
theorem readF_long {s : Nat} {S : List UInt8} (h : S.length - 9 < de32 (S.drop 1)) : readF s S = none := by
  unfold readF; repeat (first | rfl | split | contradiction)
theorem readF_sum {s : Nat} {S : List UInt8} (h : M.crc [(S.drop 1).take 4, (S.drop 9).take (de32 (S.drop 1))] ≠ de32 (S.drop 5)) : readF s S = none := by
  unfold readF; repeat (first | rfl | split | contradiction)
theorem readF_ok {s : Nat} {S : List UInt8} (h1 : 9 ≤ S.length) (h2 : S.getD 0 0 = 1) (h3 : de32 (S.drop 1) ≤ S.length - 9) (h4 : M.crc [(S.drop 1).take 4, (S.drop 9).take (de32 (S.drop 1))] = de32 (S.drop 5)) :
    readF s S = (split ((S.drop 9).take (de32 (S.drop 1)))).map fun rs => (rs, (9 + de32 (S.drop 1) + s - 1) / s) := by
  unfold readF
  rw [if_neg (by omega), if_neg (by rw [h2]; simp), if_neg (by omega), if_neg (by rw [h4]; simp)]
theorem readF_parts {s : Nat} {S : List UInt8} {rs : List (List UInt8)} {k : Nat} (h : readF s S = some (rs, k)) : 9 ≤ S.length ∧ S.getD 0 0 = 1 ∧ de32 (S.drop 1) ≤ S.length - 9 ∧
    M.crc [(S.drop 1).take 4, (S.drop 9).take (de32 (S.drop 1))] = de32 (S.drop 5) ∧ split ((S.drop 9).take (de32 (S.drop 1))) = some rs ∧ k = (9 + de32 (S.drop 1) + s - 1) / s := by
  unfold readF at h
  split at h
  · cases h
  split at h
  · cases h
  split at h
  · cases h
  split at h
  · cases h
  rename_i h1 h2 h3 h4
  rw [Option.map_eq_some_iff] at h
  obtain ⟨a, ha, he⟩ := h
  simp only [Prod.mk.injEq] at he
  refine ⟨by omega, by simpa using h2, by omega, by simpa using h4, ?_, he.2.symm⟩
  rw [ha, he.1]
theorem readF_pos {s : Nat} {S : List UInt8} {rs : List (List UInt8)} {k : Nat} (hs : 0 < s) (h : readF s S = some (rs, k)) : 1 ≤ k ∧ 9 + de32 (S.drop 1) ≤ k * s ∧ k * s ≤ 9 + de32 (S.drop 1) + s - 1 := by
  obtain ⟨_, _, _, _, _, hk⟩ := readF_parts h
  have h1 := Nat.div_add_mod (9 + de32 (S.drop 1) + s - 1) s
  have h2 := Nat.mod_lt (9 + de32 (S.drop 1) + s - 1) hs
  rw [Nat.mul_comm, ← hk] at h1
  refine ⟨?_, by omega, by omega⟩
  rcases Nat.eq_zero_or_pos k with h0 | h0
  · subst h0; omega
  · exact h0
theorem readF_fits {s c : Nat} {S : List UInt8} {rs : List (List UInt8)} {k : Nat} (hs : 0 < s) (hl : S.length = c * s) (h : readF s S = some (rs, k)) : k ≤ c := by
  obtain ⟨h1, h2, h3⟩ := readF_pos hs h
  obtain ⟨h9, _, h4, _⟩ := readF_parts h
  have : k * s < (c + 1) * s := by rw [Nat.add_mul]; omega
  have := Nat.lt_of_mul_lt_mul_right this
  omega
/-- What is read hangs on the frame's own bytes alone. -/
theorem readF_prefix {s : Nat} {P Q Q' : List UInt8} {rs : List (List UInt8)} {k : Nat} (h : readF s (P ++ Q) = some (rs, k)) (hP : 9 + de32 ((P ++ Q).drop 1) ≤ P.length) : readF s (P ++ Q') = some (rs, k) := by
  obtain ⟨h1, h2, h3, h4, h5, h6⟩ := readF_parts h
  have h9 : 9 ≤ P.length := by omega
  have e0 : ∀ X : List UInt8, (P ++ X).getD 0 0 = P.getD 0 0 := fun X => by
    match P, h9 with
    | x :: P, _ => rfl
  have ed : ∀ (X : List UInt8) (j : Nat), j ≤ 9 → (P ++ X).drop j = P.drop j ++ X := fun X j hj => List.drop_append_of_le_length (by omega)
  have e1 : ∀ X : List UInt8, de32 ((P ++ X).drop 1) = de32 (P.drop 1) := fun X => by rw [ed X 1 (by omega), de_prefix (by rw [List.length_drop]; omega)]
  have e5 : ∀ X : List UInt8, de32 ((P ++ X).drop 5) = de32 (P.drop 5) := fun X => by rw [ed X 5 (by omega), de_prefix (by rw [List.length_drop]; omega)]
  have e4 : ∀ X : List UInt8, ((P ++ X).drop 1).take 4 = (P.drop 1).take 4 := fun X => by rw [ed X 1 (by omega), List.take_append_of_le_length (by rw [List.length_drop]; omega)]
  rw [e1] at hP
  have e9 : ∀ X : List UInt8, ((P ++ X).drop 9).take (de32 (P.drop 1)) = (P.drop 9).take (de32 (P.drop 1)) := fun X => by rw [ed X 9 (by omega), List.take_append_of_le_length (by rw [List.length_drop]; omega)]
  rw [e0] at h2
  rw [e4, e1, e5, e9] at h4
  rw [e1, e9] at h5
  rw [e1] at h6
  rw [readF_ok (by rw [List.length_append]; omega) (by rw [e0]; exact h2) (by rw [e1, List.length_append]; omega) (by rw [e4, e1, e5, e9]; exact h4), e1, e9, h5, h6]
  rfl
theorem readF_core {rs : List (List UInt8)} {s : Nat} (h0 : rs ≠ []) (hb : (body rs).length < 4294967296) (hl : ∀ r ∈ rs, r.length < 4294967296) (Q : List UInt8) : readF s (core 1 rs ++ Q) = some (rs, nsec rs s) := by
  have hc : M.crc [le32 (body rs).length, body rs] < 4294967296 := M.crc_lt _
  have e1 : (core 1 rs ++ Q).drop 1 = le32 (body rs).length ++ (le32 (check (body rs)) ++ body rs ++ Q) := by simp [core]
  have e5 : (core 1 rs ++ Q).drop 5 = le32 (check (body rs)) ++ (body rs ++ Q) := by
    rw [show (5 : Nat) = 1 + 4 by rfl, ← List.drop_drop, e1]; simp [le32]
  have e9 : (core 1 rs ++ Q).drop 9 = body rs ++ Q := by
    rw [show (9 : Nat) = 5 + 4 by rfl, ← List.drop_drop, e5]; simp [le32]
  have d1 : de32 ((core 1 rs ++ Q).drop 1) = (body rs).length := by rw [e1]; exact de_le _ hb _
  have d5 : de32 ((core 1 rs ++ Q).drop 5) = check (body rs) := by rw [e5]; exact de_le _ hc _
  have t4 : ((core 1 rs ++ Q).drop 1).take 4 = le32 (body rs).length := by rw [e1]; rfl
  have t9 : ((core 1 rs ++ Q).drop 9).take (body rs).length = body rs := by rw [e9, List.take_left]
  rw [readF_ok (by rw [List.length_append, core_length]; omega) rfl (by rw [d1, List.length_append, core_length]; omega) (by rw [d1, t4, t9, d5]; rfl), d1, t9, split_body hl, nsec_some h0]
  rfl

/-! ### What an area reads as -/
inductive Reads (s : Nat) : List UInt8 → List (List UInt8) → Nat → Prop
  | stop {S : List UInt8} : readF s S = none → Reads s S [] 0
  | more {S : List UInt8} {r rs : List (List UInt8)} {k u : Nat} : readF s S = some (r, k) → Reads s (S.drop (k * s)) rs u → Reads s S (r ++ rs) (k + u)
theorem Reads.unique {s : Nat} {S : List UInt8} {rs rs' : List (List UInt8)} {u u' : Nat} (h : Reads s S rs u) (h' : Reads s S rs' u') : rs = rs' ∧ u = u' := by
  induction h generalizing rs' u' with
  | stop h =>
    cases h' with
    | stop _ => exact ⟨rfl, rfl⟩
    | more h2 _ => rw [h] at h2; cases h2
  | more h _ ih =>
    cases h' with
    | stop h2 => rw [h] at h2; cases h2
    | more h2 h3 =>
      rw [h] at h2
      cases h2
      obtain ⟨rfl, rfl⟩ := ih h3
      exact ⟨rfl, rfl⟩
theorem Reads.all {s : Nat} (hs : 0 < s) : ∀ (c : Nat) (S : List UInt8), S.length = c * s → ∃ rs u, Reads s S rs u ∧ u ≤ c := by
  intro c
  induction c using Nat.strongRecOn with
  | ind c ih =>
    intro S hS
    cases hr : readF s S with
    | none => exact ⟨[], 0, .stop hr, Nat.zero_le _⟩
    | some p =>
      obtain ⟨r, k⟩ := p
      have hk := readF_pos hs hr
      have hf := readF_fits hs hS hr
      obtain ⟨rs, u, h1, h2⟩ := ih (c - k) (by omega) (S.drop (k * s)) (by rw [List.length_drop, hS, Nat.sub_mul])
      exact ⟨_, _, .more hr h1, by omega⟩
theorem Reads.bound {s c : Nat} (hs : 0 < s) {S : List UInt8} {rs : List (List UInt8)} {u : Nat} (h : Reads s S rs u) (hS : S.length = c * s) : u ≤ c := by
  obtain ⟨rs', u', h', hu⟩ := Reads.all hs c S hS
  obtain ⟨_, rfl⟩ := h.unique h'
  exact hu
/-- Where the frames end nothing can be read. -/
theorem Reads.ends {s : Nat} {S : List UInt8} {rs : List (List UInt8)} {u : Nat} (h : Reads s S rs u) : readF s (S.drop (u * s)) = none := by
  induction h with
  | stop h => simpa using h
  | more _ _ ih => rw [Nat.add_mul, ← List.drop_drop]; exact ih
/-- The frames stay as they are where their own sectors do; what comes behind them follows. -/
theorem Reads.again {s c : Nat} (hs : 0 < s) {S : List UInt8} {rs : List (List UInt8)} {u : Nat} (h : Reads s S rs u) : ∀ {S' : List UInt8} {rs' : List (List UInt8)} {u' : Nat}, S.length = c * s → S.take (u * s) = S'.take (u * s) → S'.length = S.length →
    Reads s (S'.drop (u * s)) rs' u' → Reads s S' (rs ++ rs') (u + u') := by
  induction h generalizing c with
  | stop h => intro S' rs' u' _ _ _ h'; simpa using h'
  | @more S r rs k u hr hrs ih =>
    intro S' rs' u' hS ht hl h'
    have hp := readF_pos hs hr
    have hf := readF_fits hs hS hr
    have hks : k * s ≤ S.length := by rw [hS]; exact Nat.mul_le_mul_right _ hf
    have ht1 : S.take (k * s) = S'.take (k * s) := by
      have := congrArg (List.take (k * s)) ht
      rw [List.take_take, List.take_take, Nat.min_eq_left (by rw [Nat.add_mul]; omega)] at this
      exact this
    have hr' : readF s S' = some (r, k) := by
      rw [← List.take_append_drop (k * s) S'] 
      rw [← ht1]
      refine readF_prefix (Q := S.drop (k * s)) (by rw [List.take_append_drop]; exact hr) ?_
      rw [List.take_append_drop, List.length_take]
      omega
    rw [List.append_assoc, Nat.add_assoc]
    refine .more hr' (ih (c := c - k) (by rw [List.length_drop, hS, Nat.sub_mul]) ?_ (by rw [List.length_drop, List.length_drop, hl]) (by rw [List.drop_drop, ← Nat.add_mul]; exact h'))
    rw [List.take_drop, List.take_drop, ← Nat.add_mul, ht]
end L
end Go.Proofs.YtbanpdeganlndaaGreatDoor
namespace Go.Proofs.YtbanpdeganlndaaGreatDoor
namespace L

/-! ### Sectors in a row -/
def cat (v : Nat → List UInt8) : Nat → Nat → List UInt8
  | _, 0 => []
  | i, n + 1 => v i ++ cat v (i + 1) n
def Siz (N s : Nat) (v : Nat → List UInt8) : Prop := ∀ i, i < N → (v i).length = s
theorem cat_length {v : Nat → List UInt8} {s : Nat} : ∀ {n i : Nat}, (∀ j, i ≤ j → j < i + n → (v j).length = s) → (cat v i n).length = n * s
  | 0, _, _ => by simp [cat]
  | n + 1, i, h => by
    rw [cat, List.length_append, h i (Nat.le_refl _) (by omega), cat_length (fun j h1 h2 => h j (by omega) (by omega)), Nat.add_mul]; omega
theorem cat_congr {v v' : Nat → List UInt8} : ∀ {n i : Nat}, (∀ j, i ≤ j → j < i + n → v j = v' j) → cat v i n = cat v' i n
  | 0, _, _ => rfl
  | n + 1, i, h => by rw [cat, cat, h i (Nat.le_refl _) (by omega), cat_congr (fun j h1 h2 => h j (by omega) (by omega))]
theorem cat_add {v : Nat → List UInt8} : ∀ (a b i : Nat), cat v i (a + b) = cat v i a ++ cat v (i + a) b
  | 0, b, i => by simp [cat]
  | a + 1, b, i => by rw [Nat.add_right_comm, cat, cat, cat_add a b (i + 1), List.append_assoc, show i + 1 + a = i + (a + 1) by omega]
theorem cat_drop {v : Nat → List UInt8} {s i k n : Nat} (hk : k ≤ n) (h : ∀ j, i ≤ j → j < i + n → (v j).length = s) : (cat v i n).drop (k * s) = cat v (i + k) (n - k) := by
  obtain ⟨m, rfl⟩ : ∃ m, n = k + m := ⟨n - k, by omega⟩
  have hl : (cat v i k).length = k * s := cat_length fun j h1 h2 => h j h1 (by omega)
  rw [cat_add, ← hl, List.drop_left, show k + m - k = m by omega]
theorem cat_take {v : Nat → List UInt8} {s i k n : Nat} (hk : k ≤ n) (h : ∀ j, i ≤ j → j < i + n → (v j).length = s) : (cat v i n).take (k * s) = cat v i k := by
  obtain ⟨m, rfl⟩ : ∃ m, n = k + m := ⟨n - k, by omega⟩
  have hl : (cat v i k).length = k * s := cat_length fun j h1 h2 => h j h1 (by omega)
  rw [cat_add, ← hl, List.take_left]
theorem cat_one (v : Nat → List UInt8) (i : Nat) : cat v i 1 = v i := by simp [cat]
def chunk (b : List UInt8) (s i : Nat) : List UInt8 := (b.drop (i * s)).take s
theorem chunk_length {b : List UInt8} {s i : Nat} (h : (i + 1) * s ≤ b.length) : (chunk b s i).length = s := by
  rw [Nat.add_mul] at h
  rw [chunk, List.length_take, List.length_drop]; omega
theorem cat_chunks (b : List UInt8) (s : Nat) : ∀ (k i a : Nat), a ≤ i → (i - a + k) * s ≤ b.length → cat (fun j => chunk b s (j - a)) i k = (b.drop ((i - a) * s)).take (k * s)
  | 0, i, a, _, _ => by simp [cat]
  | k + 1, i, a, h, hl => by
    rw [cat, cat_chunks b s k (i + 1) a (by omega) (by rw [show i + 1 - a + k = i - a + (k + 1) by omega]; exact hl), chunk, show i + 1 - a = (i - a) + 1 by omega, Nat.add_mul (i - a), ← List.drop_drop, Nat.add_mul k, Nat.add_comm (k * s)]
    rw [Nat.one_mul, List.take_add]

/-! ### Areas -/
def sp (N : Nat) : Nat := (N - 1) / 2
def st (N a : Nat) : Nat := 1 + a * sp N
def cap (N : Nat) : Nat := sp N - 1
theorem st_fits {N a : Nat} (hN : 1 ≤ N) (ha : a ≤ 1) : st N a + sp N ≤ N := by
  unfold st sp
  obtain rfl | rfl : a = 0 ∨ a = 1 := by omega
  · omega
  · omega
theorem cap_room {N : Nat} (hN : 16 ≤ N) : 6 ≤ cap N ∧ cap N + 1 = sp N := by unfold cap sp; omega
def magic : List UInt8 := [97, 117, 103, 117, 114, 32, 119, 97, 108, 32, 49]
def hd (a s : Nat) : List UInt8 := UInt8.ofNat (a + 1) :: (magic ++ List.replicate (s - 12) 0)
theorem hd_length {a s : Nat} (hs : 12 ≤ s) : (hd a s).length = s := by simp [hd, magic]; omega
theorem hd_ne (s : Nat) : hd 0 s ≠ hd 1 s := by intro h; have := (List.cons.inj h).1; revert this; decide
theorem hd_inj {a b s : Nat} (ha : a ≤ 1) (hb : b ≤ 1) (h : hd a s = hd b s) : a = b := by
  obtain rfl | rfl : a = 0 ∨ a = 1 := by omega
  · obtain rfl | rfl : b = 0 ∨ b = 1 := by omega
    · rfl
    · exact absurd h (hd_ne s)
  · obtain rfl | rfl : b = 0 ∨ b = 1 := by omega
    · exact absurd h.symm (hd_ne s)
    · rfl

/-! ### What a disk holds -/
def Loads (N s : Nat) (v : Nat → List UInt8) (a u : Nat) (rs : List (List UInt8)) : Prop :=
  (a ≤ 1 ∧ v 0 = hd a s ∧ Reads s (cat v (st N a) (cap N)) rs u) ∨ (v 0 ≠ hd 0 s ∧ v 0 ≠ hd 1 s ∧ a = 0 ∧ u = 0 ∧ rs = [])
theorem Loads.area {N s a u : Nat} {v : Nat → List UInt8} {rs : List (List UInt8)} (h : Loads N s v a u rs) : a ≤ 1 := by
  rcases h with ⟨h, _⟩ | ⟨_, _, h, _⟩ <;> omega
theorem Loads.unique {N s a u a' u' : Nat} {v : Nat → List UInt8} {rs rs' : List (List UInt8)} (h : Loads N s v a u rs) (h' : Loads N s v a' u' rs') : a = a' ∧ u = u' ∧ rs = rs' := by
  rcases h with ⟨h1, h2, h3⟩ | ⟨h1, h2, rfl, rfl, rfl⟩
  · rcases h' with ⟨k1, k2, k3⟩ | ⟨k1, k2, _⟩
    · obtain rfl := hd_inj h1 k1 (h2.symm.trans k2)
      obtain ⟨rfl, rfl⟩ := h3.unique k3
      exact ⟨rfl, rfl, rfl⟩
    · obtain rfl | rfl : a = 0 ∨ a = 1 := by omega
      · exact absurd h2 k1
      · exact absurd h2 k2
  · rcases h' with ⟨k1, k2, k3⟩ | ⟨_, _, rfl, rfl, rfl⟩
    · obtain rfl | rfl : a' = 0 ∨ a' = 1 := by omega
      · exact absurd k2 h1
      · exact absurd k2 h2
    · exact ⟨rfl, rfl, rfl⟩
theorem siz_area {N s a : Nat} {v : Nat → List UInt8} (hN : 16 ≤ N) (ha : a ≤ 1) (hv : Siz N s v) : ∀ j, st N a ≤ j → j < st N a + cap N → (v j).length = s := fun j _ h2 => hv j (by
  have := st_fits (N := N) (by omega) ha; have := cap_room hN; omega)
theorem Loads.used {N s a u : Nat} {v : Nat → List UInt8} {rs : List (List UInt8)} (hN : 16 ≤ N) (hs : 0 < s) (hv : Siz N s v) (h : Loads N s v a u rs) : u ≤ cap N := by
  rcases h with ⟨h1, _, h3⟩ | ⟨_, _, _, rfl, _⟩
  · exact h3.bound hs (cat_length (siz_area hN h1 hv))
  · exact Nat.zero_le _
theorem Loads.all {N s : Nat} {v : Nat → List UInt8} (hN : 16 ≤ N) (hs : 0 < s) (hv : Siz N s v) : ∃ a u rs, Loads N s v a u rs := by
  by_cases h0 : v 0 = hd 0 s
  · obtain ⟨rs, u, h, _⟩ := Reads.all hs (cap N) _ (cat_length (siz_area hN (a := 0) (by omega) hv))
    exact ⟨0, u, rs, .inl ⟨by omega, h0, h⟩⟩
  · by_cases h1 : v 0 = hd 1 s
    · obtain ⟨rs, u, h, _⟩ := Reads.all hs (cap N) _ (cat_length (siz_area hN (a := 1) (by omega) hv))
      exact ⟨1, u, rs, .inl ⟨by omega, h1, h⟩⟩
    · exact ⟨0, 0, [], .inr ⟨h0, h1, rfl, rfl, rfl⟩⟩
theorem zeros_unmarked {s : Nat} (hs : 0 < s) (X : List UInt8) : readF s (List.replicate s 0 ++ X) = none := by
  obtain ⟨n, rfl⟩ : ∃ n, s = n + 1 := ⟨s - 1, by omega⟩
  exact readF_unmarked (by simp [List.replicate_succ])
/-- Behind a first sector that is no marked frame nothing is read. -/
theorem stops {s n i : Nat} {v : Nat → List UInt8} (h : n = 0 ∨ (v i ≠ [] ∧ (v i).getD 0 0 ≠ 1)) : readF s (cat v i n) = none := by
  rcases Nat.eq_zero_or_pos n with rfl | hn
  · exact readF_short (by simp [cat])
  · obtain ⟨n, rfl⟩ : ∃ m, n = m + 1 := ⟨n - 1, by omega⟩
    rcases h with h | ⟨h0, h⟩
    · omega
    · refine readF_unmarked ?_
      rw [cat]
      cases hv : v i with
      | nil => exact absurd hv h0
      | cons x l => rw [hv] at h; simpa using h
/-- The frames that an area holds, where their own sectors stay, and what is read behind them. -/
theorem area_again {N s a u u' : Nat} {v v' : Nat → List UInt8} {rs rs' : List (List UInt8)} (hN : 16 ≤ N) (hs : 0 < s) (ha : a ≤ 1) (hv : Siz N s v) (hv' : Siz N s v') (h : Reads s (cat v (st N a) (cap N)) rs u)
    (hk : ∀ j, st N a ≤ j → j < st N a + u → v' j = v j) (h' : Reads s (cat v' (st N a + u) (cap N - u)) rs' u') : Reads s (cat v' (st N a) (cap N)) (rs ++ rs') (u + u') := by
  have hl := cat_length (siz_area hN ha hv)
  have hl' := cat_length (siz_area hN ha hv')
  have hu : u ≤ cap N := h.bound hs hl
  refine h.again hs hl ?_ (hl'.trans hl.symm) ?_
  · rw [cat_take hu (siz_area hN ha hv), cat_take hu (siz_area hN ha hv')]
    exact cat_congr fun j h1 h2 => (hk j h1 h2).symm
  · rw [cat_drop hu (siz_area hN ha hv')]; exact h'
theorem area_same {N s a u : Nat} {v v' : Nat → List UInt8} {rs : List (List UInt8)} (hN : 16 ≤ N) (hs : 0 < s) (ha : a ≤ 1) (hv : Siz N s v) (hv' : Siz N s v') (h : Reads s (cat v (st N a) (cap N)) rs u)
    (hk : ∀ j, st N a ≤ j → j < st N a + u → v' j = v j) (h' : readF s (cat v' (st N a + u) (cap N - u)) = none) : Reads s (cat v' (st N a) (cap N)) rs u := by
  have := area_again hN hs ha hv hv' h hk (.stop h')
  simpa using this
/-- A frame that lies marked behind the others, with no frame behind it. -/
theorem area_more {N s a u : Nat} {v v' : Nat → List UInt8} {rs new : List (List UInt8)} (hN : 16 ≤ N) (hs : 0 < s) (ha : a ≤ 1) (hv : Siz N s v) (hv' : Siz N s v') (h : Reads s (cat v (st N a) (cap N)) rs u)
    (hk : ∀ j, st N a ≤ j → j < st N a + u → v' j = v j) (h0 : new ≠ []) (hb : (body new).length < 4294967296) (hl : ∀ r ∈ new, r.length < 4294967296) (hfit : u + nsec new s ≤ cap N)
    (hf : ∀ j, j < nsec new s → v' (st N a + u + j) = chunk (frame 1 new s) s j) (hz : v' (st N a + u + nsec new s) = List.replicate s 0) : Reads s (cat v' (st N a) (cap N)) (rs ++ new) (u + nsec new s) := by
  refine area_again hN hs ha hv hv' h hk ?_
  have hfl := frame_length 1 new hs
  obtain ⟨m, hm⟩ : ∃ m, cap N - u = nsec new s + m := ⟨cap N - u - nsec new s, by omega⟩
  have e1 : cat v' (st N a + u) (nsec new s) = (frame 1 new s).take (nsec new s * s) := by
    have e2 : cat v' (st N a + u) (nsec new s) = cat (fun j => chunk (frame 1 new s) s (j - (st N a + u))) (st N a + u) (nsec new s) := cat_congr fun j h1 h2 => by
      have := hf (j - (st N a + u)) (by omega)
      rw [show st N a + u + (j - (st N a + u)) = j by omega] at this
      exact this
    rw [e2, cat_chunks _ _ _ _ _ (Nat.le_refl _) (by rw [hfl, Nat.sub_self, Nat.zero_add, Nat.add_mul]; omega)]
    simp
  have hroom := nsec_room h0 hs
  have e3 : cat v' (st N a + u) (cap N - u) = core 1 new ++ (List.replicate (nsec new s * s - (9 + (body new).length)) 0 ++ cat v' (st N a + u + nsec new s) m) := by
    rw [hm, cat_add, e1, frame, if_neg h0, List.take_append, List.take_of_length_le (by rw [core_length]; omega), core_length, List.take_replicate, List.append_assoc]
    congr 3
    rw [Nat.add_mul]; omega
  rw [e3]
  have hr := readF_core h0 hb hl (List.replicate (nsec new s * s - (9 + (body new).length)) 0 ++ cat v' (st N a + u + nsec new s) m) (s := s)
  have := Reads.more hr (rs := []) (u := 0) (.stop (by
    rw [← e3, cat_drop (by omega) (fun j h1 h2 => siz_area hN ha hv' j (by omega) (by omega)), show cap N - u - nsec new s = m by omega]
    refine stops (.inr ?_)
    obtain ⟨n, rfl⟩ : ∃ n, s = n + 1 := ⟨s - 1, by omega⟩
    rw [hz]; simp [List.replicate_succ]))
  simpa using this

/-! ### A log that the disk is sure to hold -/
structure Set (N s : Nat) (v : Nat → List UInt8) (a u : Nat) (rs : List (List UInt8)) : Prop where
  low : a ≤ 1
  head : v 0 = hd a s
  area : Reads s (cat v (st N a) (cap N)) rs u
  stop : v (st N a + u) = List.replicate s 0
theorem Set.loads {N s a u : Nat} {v : Nat → List UInt8} {rs : List (List UInt8)} (h : Set N s v a u rs) : Loads N s v a u rs := .inl ⟨h.low, h.head, h.area⟩

/-! ### Steps -/
def upd (s : Nat) (v : Nat → List UInt8) (t : Nat × List UInt8) : Nat → List UInt8 := fun i => if t.1 ≤ i ∧ i < t.1 + t.2.length / s then chunk t.2 s (i - t.1) else v i
/-- A step of which some sectors have been written. -/
def Part (s : Nat) (v : Nat → List UInt8) (t : Nat × List UInt8) (v' : Nat → List UInt8) : Prop := ∀ i, v' i = v i ∨ (t.1 ≤ i ∧ i < t.1 + t.2.length / s ∧ (v' i = chunk t.2 s (i - t.1) ∨ ∃ k, v' i = (chunk t.2 s (i - t.1)).take k ++ (v i).drop k))
def SafeRun (N s : Nat) (P Q : (Nat → List UInt8) → Prop) : (Nat → List UInt8) → List (Nat × List UInt8) → Prop
  | v, [] => Q v
  | v, t :: r => t.2.length % s = 0 ∧ t.1 + t.2.length / s ≤ N ∧ (∀ v', Siz N s v' → Part s v t v' → P v') ∧ SafeRun N s P Q (upd s v t) r
theorem SafeRun.append {N s : Nat} {P Q R : (Nat → List UInt8) → Prop} : ∀ {l m : List (Nat × List UInt8)} {v : Nat → List UInt8}, SafeRun N s P R v l → (∀ v', R v' → SafeRun N s P Q v' m) → SafeRun N s P Q v (l ++ m)
  | [], _, _, h, k => k _ h
  | _ :: _, _, _, ⟨h1, h2, h3, h4⟩, k => ⟨h1, h2, h3, SafeRun.append h4 k⟩
theorem SafeRun.mono {N s : Nat} {P P' Q Q' : (Nat → List UInt8) → Prop} (hP : ∀ v, P v → P' v) (hQ : ∀ v, Q v → Q' v) : ∀ {l : List (Nat × List UInt8)} {v : Nat → List UInt8}, SafeRun N s P Q v l → SafeRun N s P' Q' v l
  | [], _, h => hQ _ h
  | _ :: _, _, ⟨h1, h2, h3, h4⟩ => ⟨h1, h2, fun v' a b => hP _ (h3 v' a b), SafeRun.mono hP hQ h4⟩
theorem upd_siz {N s : Nat} {v : Nat → List UInt8} {t : Nat × List UInt8} (hs : 0 < s) (hv : Siz N s v) : Siz N s (upd s v t) := fun i hi => by
  unfold upd; split
  · rename_i h
    refine chunk_length ?_
    have h1 : i - t.1 + 1 ≤ t.2.length / s := by omega
    have := Nat.mul_le_mul_right s h1
    have := Nat.div_mul_le_self t.2.length s
    omega
  · exact hv i hi
theorem one_sector {s : Nat} (hs : 0 < s) {b : List UInt8} (hb : b.length = s) : b.length / s = 1 ∧ b.length % s = 0 ∧ chunk b s 0 = b := by
  rw [hb]
  refine ⟨Nat.div_self hs, Nat.mod_self s, ?_⟩
  rw [chunk, Nat.zero_mul, List.drop_zero, List.take_of_length_le (by omega)]
/-- A step of one sector: it was written, or not, or in part. -/
theorem Part.near {s : Nat} (hs : 0 < s) {v v' : Nat → List UInt8} {i : Nat} {b : List UInt8} (hb : b.length = s) (h : Part s v (i, b) v') : (∀ j, j ≠ i → v' j = v j) ∧ (v' i = v i ∨ v' i = b ∨ ∃ k, v' i = b.take k ++ (v i).drop k) := by
  obtain ⟨e1, _, e3⟩ := one_sector hs hb
  unfold Part at h
  simp only [e1] at h
  refine ⟨fun j hj => ?_, ?_⟩
  · rcases h j with h2 | ⟨h2, h3, _⟩
    · exact h2
    · omega
  · rcases h i with h1 | ⟨_, _, h1 | ⟨k, h1⟩⟩
    · exact .inl h1
    · exact .inr (.inl (by rw [h1, Nat.sub_self, e3]))
    · exact .inr (.inr ⟨k, by rw [h1, Nat.sub_self, e3]⟩)
/-- A step of one sector that turns the first byte alone: it was written or not. -/
theorem Part.one {s : Nat} (hs : 0 < s) {v v' : Nat → List UInt8} {i : Nat} {b : List UInt8} (hb : b.length = s) (ht : ∃ x y t, v i = x :: t ∧ b = y :: t) (h : Part s v (i, b) v') : (∀ j, v' j = v j) ∨ (∀ j, v' j = if j = i then b else v j) := by
  obtain ⟨h1, h2⟩ := h.near hs hb
  have old : v' i = v i → (∀ j, v' j = v j) := fun e j => by
    by_cases hj : j = i
    · rw [hj]; exact e
    · exact h1 j hj
  have new : v' i = b → (∀ j, v' j = if j = i then b else v j) := fun e j => by
    by_cases hj : j = i
    · rw [if_pos hj, hj]; exact e
    · rw [if_neg hj]; exact h1 j hj
  rcases h2 with e | e | ⟨k, e⟩
  · exact .inl (old e)
  · exact .inr (new e)
  · obtain ⟨x, y, t, q1, q2⟩ := ht
    cases k with
    | zero => exact .inl (old (by rw [e]; simp))
    | succ k => exact .inr (new (by rw [e, q1, q2]; simp))
theorem upd_one {s : Nat} (hs : 0 < s) {v : Nat → List UInt8} {i : Nat} {b : List UInt8} (hb : b.length = s) (j : Nat) : upd s v (i, b) j = if j = i then b else v j := by
  obtain ⟨e1, _, e3⟩ := one_sector hs hb
  unfold upd
  simp only [e1]
  by_cases hj : j = i
  · subst hj; rw [if_pos (by omega), if_pos rfl, Nat.sub_self, e3]
  · rw [if_neg (by omega), if_neg hj]
theorem Loads.congr {N s a u : Nat} {v v' : Nat → List UInt8} {rs : List (List UInt8)} (h : Loads N s v a u rs) (h0 : v' 0 = v 0) (hk : ∀ j, st N a ≤ j → j < st N a + cap N → v' j = v j) : Loads N s v' a u rs := by
  rcases h with ⟨h1, h2, h3⟩ | ⟨h1, h2, h3⟩
  · exact .inl ⟨h1, h0.trans h2, by rw [cat_congr hk]; exact h3⟩
  · exact .inr ⟨by rw [h0]; exact h1, by rw [h0]; exact h2, h3⟩

section
variable {N s a u : Nat} {v : Nat → List UInt8} {rs : List (List UInt8)}
/-- The end of a log's frames is written over by zeros. -/
theorem Loads.zeroed {v' : Nat → List UInt8} (hN : 16 ≤ N) (hs : 0 < s) (hv : Siz N s v) (hv' : Siz N s v') (h : Loads N s v a u rs) (hk : ∀ j, j ≠ st N a + u → v' j = v j) (hz : v' (st N a + u) = v (st N a + u) ∨ ∃ t, v' (st N a + u) = 0 :: t) : Loads N s v' a u rs := by
  have hne : st N a + u ≠ 0 := by unfold st; omega
  rcases h with ⟨h1, h2, h3⟩ | ⟨h1, h2, h3⟩
  · refine .inl ⟨h1, by rw [hk 0 (Ne.symm hne)]; exact h2, area_same hN hs h1 hv hv' h3 (fun j _ hj => hk j (by omega)) ?_⟩
    rcases hz with hz | hz
    · have e : ∀ j, v' j = v j := fun j => by
        by_cases hj : j = st N a + u
        · rw [hj]; exact hz
        · exact hk j hj
      rw [cat_congr (v' := v) (fun j _ _ => e j)]
      have := h3.ends
      rwa [cat_drop (h3.bound hs (cat_length (siz_area hN h1 hv))) (siz_area hN h1 hv)] at this
    · refine stops (.inr ?_)
      obtain ⟨t, hz⟩ := hz
      rw [hz]; simp
  · have e0 := hk 0 (Ne.symm hne)
    exact .inr ⟨by rw [e0]; exact h1, by rw [e0]; exact h2, h3⟩
def settleSteps (N s a u : Nat) : List (Nat × List UInt8) := [(st N a + u, List.replicate s 0), (0, hd a s)]
theorem settle_safe (hN : 16 ≤ N) (hs : 12 ≤ s) (hv : Siz N s v) (h : Loads N s v a u rs) : SafeRun N s (fun v' => Loads N s v' a u rs) (fun v' => Siz N s v' ∧ Set N s v' a u rs) v (settleSteps N s a u) := by
  have hs0 : 0 < s := by omega
  have ha := h.area
  have hu := h.used hN hs0 hv
  have hst := st_fits (N := N) (by omega) ha
  have hcap := cap_room hN
  have hlz : (List.replicate s (0 : UInt8)).length = s := by simp
  have hlh : (hd a s).length = s := hd_length hs
  have hne : st N a + u ≠ 0 := by unfold st; omega
  obtain ⟨z1, z2, _⟩ := one_sector hs0 hlz
  obtain ⟨k1, k2, _⟩ := one_sector hs0 hlh
  have hv1 : Siz N s (upd s v (st N a + u, List.replicate s 0)) := upd_siz hs0 hv
  have e1 := fun j => upd_one hs0 (v := v) (i := st N a + u) hlz j
  have hl1 : Loads N s (upd s v (st N a + u, List.replicate s 0)) a u rs := h.zeroed hN hs0 hv hv1 (fun j hj => by rw [e1, if_neg hj]) (.inr (by rw [e1, if_pos rfl]; exact ⟨List.replicate (s - 1) 0, by rw [← List.replicate_succ]; congr 1; omega⟩))
  have hv2 : Siz N s (upd s (upd s v (st N a + u, List.replicate s 0)) (0, hd a s)) := upd_siz hs0 hv1
  have e2 := fun j => upd_one hs0 (v := upd s v (st N a + u, List.replicate s 0)) (i := 0) hlh j
  -- what the area reads as behind the head
  have hset : ∀ v', Siz N s v' → (∀ j, v' j = if j = 0 then hd a s else upd s v (st N a + u, List.replicate s 0) j) → Set N s v' a u rs := by
    intro v' hv' e
    have hz : v' (st N a + u) = List.replicate s 0 := by rw [e, if_neg hne, e1, if_pos rfl]
    refine ⟨ha, by rw [e, if_pos rfl], ?_, hz⟩
    rcases hl1 with ⟨_, _, h3⟩ | ⟨_, _, rfl, rfl, rfl⟩
    · rw [cat_congr (v' := upd s v (st N a + u, List.replicate s 0)) (fun j h1 _ => by rw [e, if_neg (by unfold st at h1; omega)])]
      exact h3
    · refine .stop (stops (.inr ?_))
      obtain ⟨n, rfl⟩ : ∃ n, s = n + 1 := ⟨s - 1, by omega⟩
      rw [Nat.add_zero] at hz
      rw [hz]; simp [List.replicate_succ]
  refine ⟨z2, by simp only [z1]; omega, fun v' hs' hp => ?_, k2, by simp only [k1]; omega, fun v' hs' hp => ?_, hv2, hset _ hv2 e2⟩
  · obtain ⟨p1, p2⟩ := hp.near hs0 hlz
    obtain ⟨z, hz⟩ : ∃ z, List.replicate s (0 : UInt8) = 0 :: z := ⟨List.replicate (s - 1) 0, by rw [← List.replicate_succ]; congr 1; omega⟩
    refine h.zeroed hN hs0 hv hs' p1 ?_
    rcases p2 with e | e | ⟨k, e⟩
    · exact .inl e
    · exact .inr ⟨z, by rw [e, hz]⟩
    · cases k with
      | zero => exact .inl (by rw [e]; simp)
      | succ k => exact .inr ⟨_, by rw [e, hz, List.take_succ_cons, List.cons_append]⟩
  · obtain ⟨p1, p2⟩ := hp.near hs0 hlh
    have new : v' 0 = hd a s → Loads N s v' a u rs := fun e => (hset v' hs' fun j => by
      by_cases hj : j = 0
      · rw [if_pos hj, hj]; exact e
      · rw [if_neg hj]; exact p1 j hj).loads
    have old : v' 0 = upd s v (st N a + u, List.replicate s 0) 0 → Loads N s v' a u rs := fun e => hl1.congr e (fun j h1 _ => p1 j (by unfold st at h1; omega))
    rcases p2 with e | e | ⟨k, e⟩
    · exact old e
    · exact new e
    · cases k with
      | zero => exact old (by rw [e]; simp)
      | succ k =>
        rcases hl1 with ⟨q1, q2, q3⟩ | ⟨q1, q2, q3⟩
        · exact new (by rw [e, q2, List.take_append_drop])
        · by_cases hh : v' 0 = hd a s
          · exact new hh
          · have hother : v' 0 ≠ hd (1 - a) s := by
              intro h9
              rw [e] at h9
              obtain rfl | rfl : a = 0 ∨ a = 1 := by omega
              · simp [hd] at h9
              · simp [hd] at h9
            obtain rfl | rfl : a = 0 ∨ a = 1 := by omega
            · exact .inr ⟨hh, hother, q3⟩
            · exact .inr ⟨hother, hh, q3⟩
end
/-! ### A frame's sectors -/
section
variable {new : List (List UInt8)} {s : Nat}
theorem frame_chunk_last (mark : UInt8) (hs : 0 < s) : chunk (frame mark new s) s (nsec new s) = List.replicate s 0 := by
  unfold chunk frame
  split
  · rename_i h; subst h; simp [nsec_nil]
  · rename_i h
    have hr := nsec_room h hs
    rw [List.drop_append, List.drop_eq_nil_of_le (by rw [core_length]; omega), List.nil_append, core_length, List.drop_replicate, List.take_replicate]
    congr 1
    rw [Nat.add_mul]; omega
theorem frame_div (mark : UInt8) (hs : 0 < s) : (frame mark new s).length / s = nsec new s + 1 ∧ (frame mark new s).length % s = 0 := by
  rw [frame_length mark new hs]
  exact ⟨Nat.mul_div_cancel _ hs, Nat.mul_mod_left _ _⟩
/-- The mark stands in the first byte alone. -/
theorem frame_marks (h : new ≠ []) : ∃ X : List UInt8, ∀ mark, frame mark new s = mark :: X := ⟨_, fun mark => by rw [frame, if_neg h]; rfl⟩
theorem frame_chunk_mark (hs : 0 < s) (j : Nat) (hj : 0 < j) (m m' : UInt8) : chunk (frame m new s) s j = chunk (frame m' new s) s j := by
  by_cases h : new = []
  · subst h; rfl
  · obtain ⟨X, hX⟩ := frame_marks (s := s) h
    unfold chunk
    rw [hX m, hX m']
    obtain ⟨n, hn⟩ : ∃ n, j * s = n + 1 := ⟨j * s - 1, by have := Nat.mul_le_mul_right s hj; omega⟩
    rw [hn, List.drop_succ_cons, List.drop_succ_cons]
theorem frame_first (hs : 0 < s) (h : new ≠ []) (mark : UInt8) : chunk (frame mark new s) s 0 = (frame mark new s).take s ∧ ((frame mark new s).take s).length = s ∧ ((frame mark new s).take s).getD 0 0 = mark := by
  refine ⟨by simp [chunk], ?_, ?_⟩
  · rw [List.length_take, frame_length mark new hs, Nat.add_mul]; omega
  · obtain ⟨X, hX⟩ := frame_marks (s := s) h
    obtain ⟨n, rfl⟩ : ∃ n, s = n + 1 := ⟨s - 1, by omega⟩
    rw [hX]; rfl
end
end L
end Go.Proofs.YtbanpdeganlndaaGreatDoor
namespace Go.Proofs.YtbanpdeganlndaaGreatDoor
namespace L

section
variable {N s a u : Nat} {v : Nat → List UInt8} {rs new : List (List UInt8)}
def commitSteps (N s a u : Nat) (new : List (List UInt8)) : List (Nat × List UInt8) := [(st N a + u, frame 0 new s), (st N a + u, (frame 1 new s).take s)]
theorem commit_safe (hN : 16 ≤ N) (hs : 12 ≤ s) (hv : Siz N s v) (h : Set N s v a u rs) (h0 : new ≠ []) (hb : (body new).length < 4294967296) (hl : ∀ r ∈ new, r.length < 4294967296) (hfit : u + nsec new s ≤ cap N) :
    SafeRun N s (fun v' => Loads N s v' a u rs ∨ Loads N s v' a (u + nsec new s) (rs ++ new)) (fun v' => Siz N s v' ∧ Set N s v' a (u + nsec new s) (rs ++ new)) v (commitSteps N s a u new) := by
  have hs0 : 0 < s := by omega
  have hst := st_fits (N := N) (by omega) h.low
  have hcap := cap_room hN
  have hpos := nsec_pos h0 hs0
  obtain ⟨d1, d2⟩ := frame_div (new := new) 0 hs0
  obtain ⟨f1, f2, f3⟩ := frame_first (new := new) hs0 h0 1
  obtain ⟨g1, g2, g3⟩ := frame_first (new := new) hs0 h0 0
  obtain ⟨k1, k2, _⟩ := one_sector hs0 f2
  have hst0 : 1 ≤ st N a := by unfold st; omega
  have hv1 : Siz N s (upd s v (st N a + u, frame 0 new s)) := upd_siz hs0 hv
  have hv2 : Siz N s (upd s (upd s v (st N a + u, frame 0 new s)) (st N a + u, (frame 1 new s).take s)) := upd_siz hs0 hv1
  have e2 := fun j => upd_one hs0 (v := upd s v (st N a + u, frame 0 new s)) (i := st N a + u) f2 j
  have e1 : ∀ j, upd s v (st N a + u, frame 0 new s) j = if st N a + u ≤ j ∧ j < st N a + u + (nsec new s + 1) then chunk (frame 0 new s) s (j - (st N a + u)) else v j := fun j => by unfold upd; simp only [d1]
  -- part of the unmarked frame
  have hpart : ∀ v', Siz N s v' → Part s v (st N a + u, frame 0 new s) v' → Loads N s v' a u rs := by
    intro v' hs' hp
    unfold Part at hp
    simp only [d1] at hp
    have hlow : ∀ j, j < st N a + u → v' j = v j := fun j hj => by
      rcases hp j with h1 | ⟨h1, _⟩
      · exact h1
      · omega
    refine .inl ⟨h.low, by rw [hlow 0 (by omega)]; exact h.head, area_same hN hs0 h.low hv hs' h.area (fun j _ h2 => hlow j h2) (stops ?_)⟩
    by_cases hc : cap N - u = 0
    · exact .inl hc
    · right
      have hlen := hs' (st N a + u) (by omega)
      refine ⟨fun e => by rw [e] at hlen; simp at hlen; omega, ?_⟩
      rcases hp (st N a + u) with h1 | ⟨_, _, h1 | ⟨k, h1⟩⟩
      · rw [h1, h.stop]
        obtain ⟨n, rfl⟩ : ∃ n, s = n + 1 := ⟨s - 1, by omega⟩
        simp [List.replicate_succ]
      · rw [h1, Nat.sub_self, g1, g3]; decide
      · rw [h1, Nat.sub_self, g1]
        cases k with
        | zero =>
          rw [List.take_zero, List.nil_append, List.drop_zero, h.stop]
          obtain ⟨n, rfl⟩ : ∃ n, s = n + 1 := ⟨s - 1, by omega⟩
          simp [List.replicate_succ]
        | succ k =>
          obtain ⟨X, hX⟩ := frame_marks (s := s) h0
          obtain ⟨n, hn⟩ : ∃ n, s = n + 1 := ⟨s - 1, by omega⟩
          rw [hX 0, hn, List.take_succ_cons, List.take_succ_cons, List.cons_append]
          simp
  -- behind the mark
  have hset : ∀ v', Siz N s v' → (∀ j, v' j = if j = st N a + u then (frame 1 new s).take s else upd s v (st N a + u, frame 0 new s) j) → Set N s v' a (u + nsec new s) (rs ++ new) := by
    intro v' hs' e
    have hlow : ∀ j, j < st N a + u → v' j = v j := fun j hj => by rw [e, if_neg (by omega), e1, if_neg (by omega)]
    have hz : v' (st N a + u + nsec new s) = List.replicate s 0 := by
      rw [e, if_neg (by omega), e1, if_pos (by omega), show st N a + u + nsec new s - (st N a + u) = nsec new s by omega]
      exact frame_chunk_last 0 hs0
    refine ⟨h.low, by rw [hlow 0 (by omega)]; exact h.head, area_more hN hs0 h.low hv hs' h.area (fun j _ h2 => hlow j h2) h0 hb hl hfit (fun j hj => ?_) hz, by rw [← Nat.add_assoc]; exact hz⟩
    by_cases hj0 : j = 0
    · subst hj0; rw [Nat.add_zero, e, if_pos rfl, f1]
    · rw [e, if_neg (by omega), e1, if_pos (by omega), show st N a + u + j - (st N a + u) = j by omega]
      exact frame_chunk_mark hs0 j (by omega) 0 1
  refine ⟨d2, by simp only [d1]; omega, fun v' hs' hp => .inl (hpart v' hs' hp), k2, by simp only [k1]; omega, fun v' hs' hp => ?_, hv2, hset _ hv2 e2⟩
  have htorn : ∃ x y t, upd s v (st N a + u, frame 0 new s) (st N a + u) = x :: t ∧ (frame 1 new s).take s = y :: t := by
    obtain ⟨X, hX⟩ := frame_marks (s := s) h0
    obtain ⟨n, hn⟩ : ∃ n, s = n + 1 := ⟨s - 1, by omega⟩
    refine ⟨0, 1, X.take n, ?_, ?_⟩
    · rw [e1, if_pos (by omega), Nat.sub_self, g1, hX 0, hn, List.take_succ_cons]
    · rw [hX 1, hn, List.take_succ_cons]
  rcases hp.one hs0 f2 htorn with hp | hp
  · refine .inl (hpart v' hs' fun j => ?_)
    rw [hp, e1]
    by_cases hj : st N a + u ≤ j ∧ j < st N a + u + (nsec new s + 1)
    · rw [if_pos hj]; exact .inr ⟨hj.1, by simp only [d1]; exact hj.2, .inl rfl⟩
    · rw [if_neg hj]; exact .inl rfl
  · exact .inr (hset v' hs' hp).loads
def resetSteps (N s b : Nat) (new : List (List UInt8)) : List (Nat × List UInt8) := [(st N b, frame 1 new s), (0, hd b s)]
theorem reset_safe (hN : 16 ≤ N) (hs : 12 ≤ s) (hv : Siz N s v) (h : Set N s v a u rs) (hb : (body new).length < 4294967296) (hl : ∀ r ∈ new, r.length < 4294967296) (hfit : nsec new s ≤ cap N) :
    SafeRun N s (fun v' => Loads N s v' a u rs ∨ Loads N s v' (1 - a) (nsec new s) new) (fun v' => Siz N s v' ∧ Set N s v' (1 - a) (nsec new s) new) v (resetSteps N s (1 - a) new) := by
  have hs0 : 0 < s := by omega
  have ha := h.low
  have hst := st_fits (N := N) (a := 1 - a) (by omega) (by omega)
  have hcap := cap_room hN
  obtain ⟨d1, d2⟩ := frame_div (new := new) 1 hs0
  have hlh : (hd (1 - a) s).length = s := hd_length hs
  obtain ⟨k1, k2, _⟩ := one_sector hs0 hlh
  have hst0 : 1 ≤ st N (1 - a) := by unfold st; omega
  have happart : ∀ j, st N a ≤ j → j < st N a + cap N → j < st N (1 - a) ∨ st N (1 - a) + (nsec new s + 1) ≤ j := by
    intro j h1 h2
    unfold st at *
    obtain rfl | rfl : a = 0 ∨ a = 1 := by omega
    · left; simp at *; omega
    · right; simp at *; omega
  have hv1 : Siz N s (upd s v (st N (1 - a), frame 1 new s)) := upd_siz hs0 hv
  have hv2 : Siz N s (upd s (upd s v (st N (1 - a), frame 1 new s)) (0, hd (1 - a) s)) := upd_siz hs0 hv1
  have e2 := fun j => upd_one hs0 (v := upd s v (st N (1 - a), frame 1 new s)) (i := 0) hlh j
  have e1 : ∀ j, upd s v (st N (1 - a), frame 1 new s) j = if st N (1 - a) ≤ j ∧ j < st N (1 - a) + (nsec new s + 1) then chunk (frame 1 new s) s (j - st N (1 - a)) else v j := fun j => by unfold upd; simp only [d1]
  have hpart : ∀ v', Part s v (st N (1 - a), frame 1 new s) v' → Loads N s v' a u rs := by
    intro v' hp
    unfold Part at hp
    simp only [d1] at hp
    refine h.loads.congr ?_ (fun j h1 h2 => ?_)
    · rcases hp 0 with h1 | ⟨h1, _⟩
      · exact h1
      · omega
    · rcases hp j with h3 | ⟨h3, h4, _⟩
      · exact h3
      · have := happart j h1 h2; omega
  have hset : ∀ v', Siz N s v' → (∀ j, v' j = if j = 0 then hd (1 - a) s else upd s v (st N (1 - a), frame 1 new s) j) → Set N s v' (1 - a) (nsec new s) new := by
    intro v' hs' e
    have hch : ∀ j, j ≤ nsec new s → v' (st N (1 - a) + j) = chunk (frame 1 new s) s j := fun j hj => by
      rw [e, if_neg (by omega), e1, if_pos (by omega), show st N (1 - a) + j - st N (1 - a) = j by omega]
    have hz : v' (st N (1 - a) + nsec new s) = List.replicate s 0 := by rw [hch _ (Nat.le_refl _)]; exact frame_chunk_last 1 hs0
    refine ⟨by omega, by rw [e, if_pos rfl], ?_, hz⟩
    by_cases h0 : new = []
    · subst h0
      rw [nsec_nil]
      refine .stop (stops (.inr ?_))
      rw [nsec_nil, Nat.add_zero] at hz
      obtain ⟨n, rfl⟩ : ∃ n, s = n + 1 := ⟨s - 1, by omega⟩
      rw [hz]; simp [List.replicate_succ]
    · obtain ⟨X, hX⟩ : ∃ X : Nat → List UInt8, X = fun j => if j = st N (1 - a) then List.replicate s 0 else v' j := ⟨_, rfl⟩
      have hXs : Siz N s X := fun i hi => by
        rw [hX]; simp only []
        split
        · simp
        · exact hs' i hi
      have hXr : Reads s (cat X (st N (1 - a)) (cap N)) [] 0 := .stop (stops (.inr (by
        obtain ⟨n, rfl⟩ : ∃ n, s = n + 1 := ⟨s - 1, by omega⟩
        rw [hX]; simp [List.replicate_succ])))
      have := area_more (v := X) (v' := v') hN hs0 (by omega) hXs hs' hXr (fun j h1 h2 => by omega) h0 hb hl (by omega) (fun j hj => by rw [Nat.add_zero]; exact hch j (by omega)) (by rw [Nat.add_zero]; exact hz)
      simpa using this
  refine ⟨d2, by simp only [d1]; omega, fun v' _ hp => .inl (hpart v' hp), k2, by simp only [k1]; omega, fun v' hs' hp => ?_, hv2, hset _ hv2 e2⟩
  rcases hp.one hs0 hlh ⟨_, _, _, by rw [e1, if_neg (by omega), h.head]; rfl, rfl⟩ with hp | hp
  · refine .inl (hpart v' fun j => ?_)
    rw [hp, e1]
    by_cases hj : st N (1 - a) ≤ j ∧ j < st N (1 - a) + (nsec new s + 1)
    · rw [if_pos hj]; exact .inr ⟨hj.1, by simp only [d1]; exact hj.2, .inl rfl⟩
    · rw [if_neg hj]; exact .inl rfl
  · exact .inr (hset v' hs' hp).loads
end

/-! ### A disk that is written -/
def wr (d : Dk) (a : Nat) (b : List UInt8) : Nat → Nat × Dk
  | 0 => (0, d)
  | i + 1 => if (wr d a b i).1 ≠ 0 then wr d a b i else ((wr d a b i).2.writeErr ((a + i : Nat) : Int) (chunk b d.size i), (wr d a b i).2.write ((a + i : Nat) : Int) (chunk b d.size i))
def perform (d : Dk) (a : Nat) (b : List UInt8) : Nat × Dk :=
  if (wr d a b (b.length / d.size)).1 ≠ 0 then wr d a b (b.length / d.size) else ((wr d a b (b.length / d.size)).2.flushErr, (wr d a b (b.length / d.size)).2.flush)
def runSteps : Dk → List (Nat × List UInt8) → Nat × Dk
  | d, [] => (0, d)
  | d, t :: r => if (perform d t.1 t.2).1 ≠ 0 then perform d t.1 t.2 else runSteps (perform d t.1 t.2).2 r
theorem wr_stuck {d : Dk} {a : Nat} {b : List UInt8} {i : Nat} (h : (wr d a b i).1 ≠ 0) : ∀ k, i ≤ k → wr d a b k = wr d a b i
  | 0, hk => by rw [show i = 0 by omega]
  | k + 1, hk => by
    by_cases e : i = k + 1
    · rw [e]
    · have ih := wr_stuck h k (by omega)
      rw [wr, ih, if_pos h]
theorem perform_stuck {d : Dk} {a : Nat} {b : List UInt8} {i : Nat} (h : (wr d a b i).1 ≠ 0) (hi : i ≤ b.length / d.size) : perform d a b = wr d a b i := by
  have := wr_stuck h _ hi
  unfold perform
  rw [this, if_pos h]
theorem perform_full {d : Dk} {a : Nat} {b : List UInt8} (h : (wr d a b (b.length / d.size)).1 = 0) : perform d a b = ((wr d a b (b.length / d.size)).2.flushErr, (wr d a b (b.length / d.size)).2.flush) := by
  unfold perform; rw [if_neg (by rw [h]; simp)]
theorem wr_next {d : Dk} {a : Nat} {b : List UInt8} {i : Nat} (h : (wr d a b i).1 = 0) : wr d a b (i + 1) = ((wr d a b i).2.writeErr ((a + i : Nat) : Int) (chunk b d.size i), (wr d a b i).2.write ((a + i : Nat) : Int) (chunk b d.size i)) := by
  rw [wr, if_neg (by rw [h]; simp)]
/-- What has been written of a step, none of it durable. -/
structure Wrote (d : Dk) (a : Nat) (b : List UInt8) (j : Nat) (d' : Dk) : Prop where
  ok : d'.Ok
  size : d'.size = d.size
  dur : d'.dur = d.dur
  fr : ∀ i, d'.fr i = if a ≤ i ∧ i < a + j then some (chunk b d.size (i - a)) else none
  cut : d'.cut = d.cut
theorem power_live {d : Dk} (h : d.power = true) : d.dead = false ∧ d.drawn.dead = false ∧ d.drawn.cut = d.cut := by
  unfold Dk.power at h
  rw [Bool.and_eq_true] at h
  have hd : d.dead = false := by simpa using h.1
  have h2 := h.2
  refine ⟨hd, ?_, ?_⟩ <;> (unfold Dk.drawn; rw [if_neg (by rw [hd]; simp)])
  · cases hc : d.cut with
    | false => rw [if_neg (by simp)]; exact hd
    | true =>
      rw [if_pos rfl]
      rw [hc] at h2
      rw [if_neg (by simpa using h2)]
      exact hd
  · split
    · split <;> rfl
    · rfl
theorem power_gone {d : Dk} (h : d.power = false) : d.drawn.dead = true ∧ d.drawn.cut = d.cut ∧ (d.dead = true ∨ d.cut = true) := by
  unfold Dk.power at h
  cases hd : d.dead with
  | true => 
    have e : d.drawn = d := by unfold Dk.drawn; rw [if_pos hd]
    rw [e]; exact ⟨hd, rfl, .inl rfl⟩
  | false =>
    rw [hd] at h
    have h' : d.cut = true ∧ d.left = 0 := by simpa using h
    have e : d.drawn = { d with dead := true } := by unfold Dk.drawn; rw [if_neg (by rw [hd]; simp), if_pos h'.1, if_pos h'.2]
    rw [e]; exact ⟨rfl, rfl, .inr h'.1⟩
theorem wr_live {d : Dk} (hd0 : d.dead = false) (hc : d.cut = false) (a : Nat) (b : List UInt8) : ∀ j, (wr d a b j).2.dead = false ∧ (wr d a b j).2.cut = false := by
  intro j
  induction j with
  | zero => exact ⟨hd0, hc⟩
  | succ j ih =>
    rw [wr]
    split
    · exact ih
    · obtain ⟨i1, i2⟩ := ih
      unfold Dk.write
      have hd1 : (wr d a b j).2.drawn = (wr d a b j).2 := by unfold Dk.drawn; rw [if_neg (by rw [i1]; simp), if_neg (by rw [i2]; simp)]
      repeat' split
      all_goals first | exact ⟨i1, i2⟩ | (rw [hd1]; exact ⟨i1, i2⟩)
theorem wr_cases {d : Dk} (hok : d.Ok) (hfr : ∀ i, d.fr i = none) {a : Nat} {b : List UInt8} : ∀ (j : Nat), a + j ≤ d.dur.length → j * d.size ≤ b.length →
    ((wr d a b j).1 = 0 ∧ Wrote d a b j (wr d a b j).2) ∨ ((wr d a b j).1 = 32 ∧ (wr d a b j).2.dead = true ∧ (d.dead = true ∨ d.cut = true) ∧ ∃ j', j' ≤ j ∧ Wrote d a b j' (wr d a b j).2)
  | 0, _, _ => .inl ⟨rfl, hok, rfl, rfl, fun i => by rw [if_neg (by omega)]; exact hfr i, rfl⟩
  | j + 1, h1, h2 => by
    have h2' : j * d.size ≤ b.length := by rw [Nat.add_mul] at h2; omega
    rcases wr_cases hok hfr (a := a) (b := b) j (by omega) h2' with ⟨e, W⟩ | ⟨e, k1, k2, j', k3, W⟩
    · have hlen : (chunk b d.size j).length = d.size := chunk_length h2
      obtain ⟨D, hD⟩ : ∃ D, D = (wr d a b j).2 := ⟨_, rfl⟩
      have es : wr d a b (j + 1) = (D.writeErr ((a + j : Nat) : Int) (chunk b d.size j), D.write ((a + j : Nat) : Int) (chunk b d.size j)) := by rw [wr, if_neg (by rw [e]; simp), hD]
      rw [← hD] at W
      have hin : ¬ ¬ (0 ≤ ((a + j : Nat) : Int) ∧ ((a + j : Nat) : Int) < (D.dur.length : Int)) := by rw [W.dur]; omega
      have hsz : ¬ (chunk b d.size j).length ≠ D.size := by rw [W.size, hlen]; simp
      rw [es]
      cases hp : D.power with
      | true =>
        obtain ⟨p1, p2, p3⟩ := power_live hp
        left
        have ew : D.write ((a + j : Nat) : Int) (chunk b d.size j) = D.drawn.put (a + j) (chunk b d.size j) := by unfold Dk.write; rw [if_neg (by rw [p1]; simp), if_neg hin, if_neg hsz, if_pos hp, Int.toNat_natCast]
        have ee : D.writeErr ((a + j : Nat) : Int) (chunk b d.size j) = 0 := by unfold Dk.writeErr; rw [if_neg (by rw [p1]; simp), if_neg hin, if_neg hsz, if_pos hp]
        obtain ⟨s1, s2, s3⟩ := Dk.drawn_same D
        have hok2 : (D.drawn.put (a + j) (chunk b d.size j)).Ok := Dk.ok_put (Dk.ok_drawn W.ok) (by rw [s2, W.dur]; omega) (by rw [s1, W.size]; exact hlen)
        refine ⟨ee, ?_⟩
        simp only []
        rw [ew]
        refine ⟨hok2, s1.trans W.size, s2.trans W.dur, fun i => ?_, p3.trans W.cut⟩
        show (if i = a + j then some (chunk b d.size j) else D.drawn.fr i) = _
        by_cases hi : i = a + j
        · subst hi; rw [if_pos rfl, if_pos (by omega), show a + j - a = j by omega]
        · rw [if_neg hi, s3, W.fr]
          by_cases hi2 : a ≤ i ∧ i < a + j
          · rw [if_pos hi2, if_pos (by omega)]
          · rw [if_neg hi2, if_neg (by omega)]
      | false =>
        obtain ⟨p1, p2, p3⟩ := power_gone hp
        right
        rw [W.cut] at p3
        cases hd : D.dead with
        | true =>
          have ew : D.write ((a + j : Nat) : Int) (chunk b d.size j) = D := by unfold Dk.write; rw [if_pos hd]
          have ee : D.writeErr ((a + j : Nat) : Int) (chunk b d.size j) = 32 := by unfold Dk.writeErr; rw [if_pos hd]
          refine ⟨ee, by simp only []; rw [ew]; exact hd, ?_, j, by omega, by simp only []; rw [ew]; exact W⟩
          -- a dead disk from the start on
          rcases p3 with _ | p3
          · by_cases hc : d.cut = true
            · exact .inr hc
            · left
              cases hd0 : d.dead with
              | true => rfl
              | false =>
                exfalso
                have := (wr_live hd0 (by simpa using hc) a b j).1
                rw [← hD, hd] at this
                cases this
          · exact .inr p3
        | false =>
          have ew : D.write ((a + j : Nat) : Int) (chunk b d.size j) = D.drawn := by unfold Dk.write; rw [if_neg (by rw [hd]; simp), if_neg hin, if_neg hsz, if_neg (by rw [hp]; simp)]
          have ee : D.writeErr ((a + j : Nat) : Int) (chunk b d.size j) = 32 := by unfold Dk.writeErr; rw [if_neg (by rw [hd]; simp), if_neg hin, if_neg hsz, if_neg (by rw [hp]; simp)]
          obtain ⟨s1, s2, s3⟩ := Dk.drawn_same D
          rw [hd] at p3
          refine ⟨ee, by simp only []; rw [ew]; exact p1, p3.imp (fun h => by cases h) id, j, by omega, ?_⟩
          simp only []
          rw [ew]
          exact ⟨Dk.ok_drawn W.ok, s1.trans W.size, s2.trans W.dur, fun i => by rw [s3, W.fr], p2.trans W.cut⟩
    · right
      have es : wr d a b (j + 1) = wr d a b j := by rw [wr, if_pos (by rw [e]; simp)]
      rw [es]
      exact ⟨e, k1, k2, j', by omega, W⟩
/-- What a crash may leave: of each sector what was durable, or what was written since, or some first bytes of this and the rest of that. -/
def Mix (d : Dk) (v : Nat → List UInt8) : Prop := ∀ i, v i = d.dur.getD i [] ∨ d.fr i = some (v i) ∨ ∃ k b, d.fr i = some b ∧ v i = b.take k ++ (d.dur.getD i []).drop k
theorem last_none {d : Dk} {i : Nat} (h : d.fr i = none) : d.last i = d.dur.getD i [] := by unfold Dk.last; rw [h]
theorem last_out {d : Dk} (h : d.Ok) {i : Nat} (hi : d.dur.length ≤ i) : d.last i = [] := by
  have hf : d.fr i = none := by
    cases hf : d.fr i with
    | none => rfl
    | some b => have := (h.fr i b hf).1; omega
  rw [last_none hf, List.getD_eq_getElem?_getD, List.getElem?_eq_none hi]; rfl
theorem last_settle {d : Dk} (h : d.Ok) (i : Nat) : d.settle.last i = d.last i := by
  rw [last_none rfl]
  by_cases hi : i < d.dur.length
  · rw [List.getD_eq_getElem?_getD]; simp [Dk.settle, hi]
  · rw [last_out h (by omega), List.getD_eq_getElem?_getD, List.getElem?_eq_none (by simp [Dk.settle]; omega)]; rfl
theorem mix_crash {d : Dk} (h : d.Ok) (keep : Nat) : Mix d (d.crash keep).last := fun i => by
  have e : (d.crash keep).last i = (d.lose keep).last i := last_settle (Dk.ok_lose h keep) i
  rw [e]
  unfold Dk.last Dk.lose
  simp only []
  split
  · rename_i b hb
    split at hb
    · cases hb
    · exact .inr (.inl hb)
  · exact .inl rfl
theorem siz_last {d : Dk} (h : d.Ok) : Siz d.dur.length d.size d.last := fun _ hi => Dk.last_len h hi
theorem siz_mix {d : Dk} (h : d.Ok) {v : Nat → List UInt8} (hm : Mix d v) : Siz d.dur.length d.size v := fun i hi => by
  rcases hm i with e | e | ⟨k, b, e, e2⟩
  · rw [e, List.getD_eq_getElem?_getD, List.getElem?_eq_getElem hi, Option.getD_some]; exact h.len _ (List.getElem_mem hi)
  · exact (h.fr i _ e).2
  · have h1 := (h.fr i b e).2
    have h2 : (d.dur.getD i []).length = d.size := by rw [List.getD_eq_getElem?_getD, List.getElem?_eq_getElem hi, Option.getD_some]; exact h.len _ (List.getElem_mem hi)
    rw [e2, List.length_append, List.length_take, List.length_drop, h1, h2]
    omega
/-- A disk on which all is durable; it is as large as the other. -/
structure Flat (d d' : Dk) : Prop where
  ok : d'.Ok
  size : d'.size = d.size
  len : d'.dur.length = d.dur.length
  fr : ∀ i, d'.fr i = none
  cut : d'.cut = d.cut
theorem Flat.trans {a b c : Dk} (h : Flat a b) (k : Flat b c) : Flat a c := ⟨k.ok, k.size.trans h.size, k.len.trans h.len, k.fr, k.cut.trans h.cut⟩
/-- A disk whose power went under a call: what a crash may leave keeps P. -/
structure Gone (P : (Nat → List UInt8) → Prop) (d d' : Dk) : Prop where
  ok : d'.Ok
  size : d'.size = d.size
  len : d'.dur.length = d.dur.length
  dead : d'.dead = true
  why : d.dead = true ∨ d.cut = true
  safe : ∀ v, Mix d' v → P v
theorem flush_flat {d : Dk} (h : d.Ok) (hp : d.power = true) : d.flushErr = 0 ∧ d.flush.Ok ∧ d.flush.size = d.size ∧ d.flush.dur.length = d.dur.length ∧ (∀ i, d.flush.fr i = none) ∧ d.flush.cut = d.cut ∧ d.flush.dead = false ∧ ∀ i, d.flush.last i = d.last i := by
  obtain ⟨s1, s2, s3⟩ := Dk.drawn_same d
  obtain ⟨_, p2, p3⟩ := power_live hp
  have e : d.flush = d.drawn.settle := by unfold Dk.flush; rw [if_pos hp]
  refine ⟨by unfold Dk.flushErr; rw [if_pos hp], Dk.ok_flush h, by rw [e]; exact s1, by rw [e]; simp [Dk.settle, s2], fun i => by rw [e]; rfl, by rw [e]; exact p3, by rw [e]; exact p2, fun i => ?_⟩
  rw [e, last_settle (Dk.ok_drawn h)]
  unfold Dk.last; rw [s2, s3]
theorem perform_cases {d : Dk} (hok : d.Ok) (hfr : ∀ i, d.fr i = none) {a : Nat} {b : List UInt8} (hfit : a + b.length / d.size ≤ d.dur.length) :
    ((perform d a b).1 = 0 ∧ Flat d (perform d a b).2 ∧ (perform d a b).2.dead = false ∧ ∀ i, (perform d a b).2.last i = upd d.size d.last (a, b) i) ∨
    ((perform d a b).1 = 32 ∧ Gone (fun v => Siz d.dur.length d.size v ∧ Part d.size d.last (a, b) v) d (perform d a b).2) := by
  have hmix : ∀ {j : Nat} {D D' : Dk}, j ≤ b.length / d.size → Wrote d a b j D → D'.dur = D.dur → D'.fr = D.fr → D'.size = D.size → D'.Ok → ∀ v, Mix D' v → Siz d.dur.length d.size v ∧ Part d.size d.last (a, b) v := by
    intro j D D' hj W e1 e2 e3 hok' v hv
    refine ⟨by have := siz_mix hok' hv; rwa [e1, W.dur, e3, W.size] at this, fun i => ?_⟩
    rcases hv i with h1 | h1 | ⟨k, b', h1, h2⟩
    · left; rw [h1, e1, W.dur, last_none (hfr i)]
    · rw [e2, W.fr] at h1
      split at h1
      · rename_i hi
        right
        exact ⟨hi.1, by simp only []; omega, .inl (Option.some.inj h1).symm⟩
      · cases h1
    · rw [e2, W.fr] at h1
      split at h1
      · rename_i hi
        right
        refine ⟨hi.1, by simp only []; omega, .inr ⟨k, ?_⟩⟩
        rw [h2, ← Option.some.inj h1, e1, W.dur, last_none (hfr i)]
      · cases h1
  rcases wr_cases hok hfr (a := a) (b := b) (b.length / d.size) hfit (Nat.div_mul_le_self _ _) with ⟨e, W⟩ | ⟨e, k1, k2, j', k3, W⟩
  · have ep : perform d a b = ((wr d a b (b.length / d.size)).2.flushErr, (wr d a b (b.length / d.size)).2.flush) := by unfold perform; rw [if_neg (by rw [e]; simp)]
    rw [ep]
    obtain ⟨D, hD⟩ : ∃ D, D = (wr d a b (b.length / d.size)).2 := ⟨_, rfl⟩
    rw [← hD] at W ⊢
    cases hp : D.power with
    | true =>
      left
      obtain ⟨q1, q2, q3, q4, q5, q6, q7, q8⟩ := flush_flat W.ok hp
      refine ⟨q1, ⟨q2, q3.trans W.size, by rw [q4, W.dur], q5, q6.trans W.cut⟩, q7, fun i => ?_⟩
      rw [q8]
      unfold upd
      by_cases hi : a ≤ i ∧ i < a + b.length / d.size
      · rw [if_pos hi]
        unfold Dk.last
        rw [W.fr, if_pos hi]
      · rw [if_neg hi, last_none (by rw [W.fr, if_neg hi]), W.dur, last_none (hfr i)]
    | false =>
      right
      obtain ⟨p1, p2, p3⟩ := power_gone hp
      obtain ⟨s1, s2, s3⟩ := Dk.drawn_same D
      have ef : D.flush = D.drawn := by unfold Dk.flush; rw [if_neg (by rw [hp]; simp)]
      refine ⟨by unfold Dk.flushErr; rw [if_neg (by rw [hp]; simp)], ?_⟩
      simp only []
      rw [ef]
      refine ⟨Dk.ok_drawn W.ok, s1.trans W.size, by rw [s2, W.dur], p1, ?_, hmix (Nat.le_refl _) W s2 s3 s1 (Dk.ok_drawn W.ok)⟩
      rw [W.cut] at p3
      rcases p3 with p3 | p3
      · by_cases hc : d.cut = true
        · exact .inr hc
        · left
          cases hd0 : d.dead with
          | true => rfl
          | false =>
            exfalso
            have := (wr_live hd0 (by simpa using hc) a b (b.length / d.size)).1
            rw [← hD, p3] at this
            cases this
      · exact .inr p3
  · right
    have ep : perform d a b = wr d a b (b.length / d.size) := by unfold perform; rw [if_pos (by rw [e]; simp)]
    rw [ep]
    exact ⟨e, W.ok, W.size, by rw [W.dur], k1, k2, hmix k3 W rfl rfl rfl W.ok⟩
theorem run_safe {P Q : (Nat → List UInt8) → Prop} : ∀ {l : List (Nat × List UInt8)} {d : Dk}, d.Ok → (∀ i, d.fr i = none) → SafeRun d.dur.length d.size P Q d.last l →
    ((runSteps d l).1 = 0 ∧ Flat d (runSteps d l).2 ∧ (l = [] ∨ (runSteps d l).2.dead = false) ∧ Q (runSteps d l).2.last) ∨ ((runSteps d l).1 = 32 ∧ Gone P d (runSteps d l).2)
  | [], d, hok, hfr, h => .inl ⟨rfl, ⟨hok, rfl, rfl, hfr, rfl⟩, .inl rfl, h⟩
  | t :: r, d, hok, hfr, ⟨h1, h2, h3, h4⟩ => by
    rcases perform_cases hok hfr (a := t.1) (b := t.2) h2 with ⟨e, F, q1, q2⟩ | ⟨e, G⟩
    · have es : runSteps d (t :: r) = runSteps (perform d t.1 t.2).2 r := by rw [runSteps, if_neg (by rw [e]; simp)]
      have hv : (perform d t.1 t.2).2.last = upd d.size d.last t := funext q2
      rw [es]
      have h4' : SafeRun (perform d t.1 t.2).2.dur.length (perform d t.1 t.2).2.size P Q (perform d t.1 t.2).2.last r := by rw [F.len, F.size, hv]; exact h4
      rcases run_safe F.ok F.fr h4' with ⟨k1, k2, k3, k4⟩ | ⟨k1, k2⟩
      · refine .inl ⟨k1, F.trans k2, .inr ?_, k4⟩
        rcases k3 with rfl | k3
        · exact q1
        · exact k3
      · refine .inr ⟨k1, k2.ok, k2.size.trans F.size, k2.len.trans F.len, k2.dead, ?_, k2.safe⟩
        rcases k2.why with hw | hw
        · rw [q1] at hw; cases hw
        · rw [F.cut] at hw; exact .inr hw
    · have es : runSteps d (t :: r) = perform d t.1 t.2 := by rw [runSteps, if_pos (by rw [e]; simp)]
      rw [es]
      exact .inr ⟨e, G.ok, G.size, G.len, G.dead, G.why, fun v hv => h3 v (G.safe v hv).1 (G.safe v hv).2⟩
end L
end Go.Proofs.YtbanpdeganlndaaGreatDoor
namespace Go.Proofs.YtbanpdeganlndaaGreatDoor
open Go.RowKit

theorem ret_nat {k : IntKind} {a b : Nat} (h : a = b) : Ending.returned (.int k (a : Int)) = .returned (.int k (b : Int)) := by rw [h]
theorem val_nat {k : IntKind} {a b : Nat} (h : a = b) : Value.int k (a : Int) = .int k (b : Int) := by rw [h]
/-- A slice of bytes that reads as l: nothing is asked of an empty one. -/
def BytesAt (w : World) (A : Option Addr) (l : List UInt8) : Prop :=
  l = [] ∨ ∃ b off, A = some ⟨b, off, none⟩ ∧ ∀ k (h : k < l.length), w.cell? ⟨b, off + k, none⟩ = some (.int .u8 ((l[k].toNat : Nat) : Int))
/-- The table of half bytes, as it is laid at the start. -/
def TabAt (w : World) : Prop := ∀ m, m < 16 → w.cell? ⟨1, m, none⟩ = some (.int .u32 ((M.tab.getD m 0 : Nat) : Int))

/-- What one byte does, in the steps that the text takes. -/
theorem byte_steps {c b : Nat} (hc : c < 4294967296) (hb : b < 256) : ∃ x m1 t1 y m2 t2 z : Nat,
    bits .xor .u32 (c : Int) (b : Int) = (x : Int) ∧ bits .and .u32 (x : Int) 15 = (m1 : Int) ∧ m1 < 16 ∧ t1 = M.tab.getD m1 0 ∧
    bits .xor .u32 (t1 : Int) ((x : Int) / 16) = (y : Int) ∧ bits .and .u32 (y : Int) 15 = (m2 : Int) ∧ m2 < 16 ∧ t2 = M.tab.getD m2 0 ∧
    bits .xor .u32 (t2 : Int) ((y : Int) / 16) = (z : Int) ∧ z = M.byt c b ∧ x < 4294967296 ∧ y < 4294967296 ∧ z < 4294967296 := by
  have tl : ∀ m, M.tab.getD m 0 < 4294967296 := fun m => by
    by_cases h : m < 16
    · revert h; revert m; decide
    · have : M.tab[m]? = none := List.getElem?_eq_none (by simp [M.tab]; omega)
      simp [List.getD, this]
  have hx : c ^^^ b < 4294967296 := M.xor_lt32 hc (by omega)
  have hy := M.bit4_lt hx
  have hz := M.bit4_lt hy
  refine ⟨c ^^^ b, (c ^^^ b) % 16, M.tab.getD ((c ^^^ b) % 16) 0, M.bit4 (c ^^^ b), M.bit4 (c ^^^ b) % 16, M.tab.getD (M.bit4 (c ^^^ b) % 16) 0, M.byt c b, ?_, ?_, by omega, rfl, ?_, ?_, by omega, rfl, ?_, rfl, hx, hy, hz⟩
  · exact u32_xor_nat c b hc (by omega)
  · have := u32_and_nat (c ^^^ b) 15 hx (by omega)
    rw [nat_mask4] at this
    exact this
  · have := u32_xor_nat (M.tab.getD ((c ^^^ b) % 16) 0) ((c ^^^ b) / 16) (tl _) (by omega)
    rw [← M.bit4_half] at this
    rw [← this]
    simp
  · have := u32_and_nat (M.bit4 (c ^^^ b)) 15 hy (by omega)
    rw [nat_mask4] at this
    exact this
  · have := u32_xor_nat (M.tab.getD (M.bit4 (c ^^^ b) % 16) 0) (M.bit4 (c ^^^ b) / 16) (tl _) (by omega)
    rw [← M.bit4_half] at this
    show _ = ((M.bit4 (M.bit4 (c ^^^ b)) : Nat) : Int)
    rw [← this]
    simp

set_option maxHeartbeats 400000 in
theorem crcMore_any (c : Nat) (hc : c < 4294967296) (A : Option Addr) (l : List UInt8) (cap : Nat) (w : World) (hl : l.length ≤ maxLen) (hr : BytesAt w A l) (ht : TabAt w) :
    Calls Tryz.prog 143 #[.int .u32 (c : Int), .slice A l.length cap] w fun e w' => e = .returned (.int .u32 ((M.crun c l : Nat) : Int)) ∧ w = w' := by
  unfold maxLen at hl
  have HT := Lib.hid ht
  have HR := Lib.hid hr
  clear ht hr
  go_enter Tryz.func143, Tryz.ntmps143
  go_wp2
  go_loop [0, 9] (fun cv i => ∃ k c' : Nat, k ≤ l.length ∧ i = .int .i64 k ∧ cv = .int .u32 (c' : Int) ∧ c' = M.crun c (l.take k)) (fun _ i => l.length - (Go.RowKit.intOf i).toNat)
  case atStart => exact ⟨0, c, Nat.zero_le _, rfl, rfl, rfl⟩
  case round =>
    obtain ⟨k, c', hk, rfl, rfl, hc'⟩ := hrel
    have hlt' : c' < 4294967296 := by rw [hc']; exact M.crun_lt _ hc
    have HC := Lib.hid hc'
    clear hc'
    by_cases hlt : k < l.length
    · rcases HR.out with h0 | ⟨b, off, rfl, hcell⟩
      · subst h0; simp at hlt
      · have hb := hcell k hlt
        have hbl := M.u8_lt l[k]
        have HE := Lib.hid (M.crun_take hlt c)
        obtain ⟨bv, hbv⟩ : ∃ bv : Nat, bv = l[k].toNat := ⟨_, rfl⟩
        rw [← hbv] at hb hbl
        have HB := Lib.hid hbv
        clear hbv hcell
        obtain ⟨x, m1, t1, y, m2, t2, z, e1, e2, hm1, ht1, e3, e4, hm2, ht2, e5, hz, hx, hy, hz'⟩ := byte_steps hlt' hbl
        have c1 := HT.out m1 hm1
        have c2 := HT.out m2 hm2
        rw [← ht1] at c1
        rw [← ht2] at c2
        have HZ := Lib.hid hz
        clear ht1 ht2 hz
        go_wp2
        go_round
        case rel => exact ⟨k + 1, z, by omega, by go_num, rfl, by rw [HE.out, HZ.out, HC.out, HB.out]⟩
        case measure => simp [Go.RowKit.intOf]; omega
    · go_wp2
      go_ret
      exact ⟨ret_nat (by rw [HC.out, List.take_of_length_le (by omega)]), rfl⟩

/-- Rows of bytes. -/
def RowsAt (w : World) (A : Option Addr) (ls : List (List UInt8)) : Prop :=
  ls = [] ∨ ∃ b off, A = some ⟨b, off, none⟩ ∧ ∀ j (h : j < ls.length), ∃ Aj cap, w.cell? ⟨b, off + j, none⟩ = some (.slice Aj ls[j].length cap) ∧ BytesAt w Aj ls[j] ∧ ls[j].length ≤ maxLen

theorem not32 {c : Nat} (hc : c < 4294967296) : bits .xor .u32 IntKind.u32.max (c : Int) = ((4294967295 ^^^ c : Nat) : Int) := by
  have := u32_xor_nat 4294967295 c (by omega) hc
  rw [← this]
  rfl

set_option maxHeartbeats 400000 in
theorem crc_any (A : Option Addr) (ls : List (List UInt8)) (cap : Nat) (w : World) (hl : ls.length ≤ maxLen) (hr : RowsAt w A ls) (ht : TabAt w) :
    Calls Tryz.prog 120 #[.slice A ls.length cap] w fun e w' => e = .returned (.int .u32 ((M.crc ls : Nat) : Int)) ∧ w = w' := by
  unfold maxLen at hl
  have HT := Lib.hid ht
  have HR := Lib.hid hr
  clear ht hr
  go_enter Tryz.func120, Tryz.ntmps120
  go_wp2
  go_loop [3, 8] (fun cv i => ∃ k c' : Nat, k ≤ ls.length ∧ i = .int .i64 k ∧ cv = .int .u32 (c' : Int) ∧ c' = M.cruns 4294967295 (ls.take k)) (fun _ i => ls.length - (Go.RowKit.intOf i).toNat)
  case atStart => exact ⟨0, 4294967295, Nat.zero_le _, rfl, rfl, rfl⟩
  case round =>
    obtain ⟨k, c', hk, rfl, rfl, hc'⟩ := hrel
    have hlt' : c' < 4294967296 := by rw [hc']; exact M.cruns_lt _ (by omega)
    have HC := Lib.hid hc'
    clear hc'
    by_cases hlt : k < ls.length
    · rcases HR.out with h0 | ⟨b, off, rfl, hcell⟩
      · subst h0; simp at hlt
      · obtain ⟨Ak, capk, hck, hbk, hlk⟩ := hcell k hlt
        have HE := Lib.hid (M.cruns_take hlt 4294967295)
        have HLK := Lib.hid hlk
        have HBK := Lib.hid hbk
        clear hcell hlk hbk
        go_wp2_with (go_at_call 143; refine (crcMore_any c' hlt' _ _ _ _ HLK.out HBK.out HT.out).mono ?_; rintro e w' ⟨rfl, rfl⟩)
        go_round
        case rel => exact ⟨k + 1, _, by omega, by go_num, rfl, by rw [HE.out, HC.out]⟩
        case measure => simp [Go.RowKit.intOf]; omega
    · have e1 := not32 hlt'
      have HE := Lib.hid (show 4294967295 ^^^ c' = M.crc ls by rw [HC.out, List.take_of_length_le (by omega)]; rfl)
      go_wp2
      go_ret
      exact ⟨ret_nat HE.out, rfl⟩

theorem BytesIn.at {w : World} {g : Nat} {A : Option Addr} {l : List UInt8} (h : BytesIn w g A l) : BytesAt w A l := by
  rcases h with h | ⟨off, h1, h2⟩
  · exact .inl h
  · exact .inr ⟨g, off, h1, h2⟩
theorem TabAt.keep {S : List Nat} {w w' : World} (h : TabAt w) (hk : Keeps S w w') (h0 : 1 ∉ S) : TabAt w' := fun m hm => hk.cell_some (h m hm) h0
theorem TabAt.pos {w : World} (h : TabAt w) : 1 < w.heap.size := World.block_lt_of_cell? w _ (h 0 (by omega))
end Go.Proofs.YtbanpdeganlndaaGreatDoor
namespace Go.Proofs.YtbanpdeganlndaaGreatDoor
open Go.RowKit

/-- A log's own fields. -/
structure Lg where
  area : Nat
  used : Nat
  count : Nat
  settled : Bool
/-- A log lies in block lp; its disk in dp. -/
def LogAt (w : World) (lp dp : Nat) (g : Lg) : Prop :=
  w.heap[lp]? = some (.cells #[.pointer (some ⟨dp, 0, none⟩), .int .i64 (g.area : Int), .int .i64 (g.used : Int), .int .i64 (g.count : Int), .bool g.settled] 100 (0, 0))
theorem LogAt.keep {S : List Nat} {w w' : World} {lp dp : Nat} {g : Lg} (h : LogAt w lp dp g) (hk : Keeps S w w') (hn : lp ∉ S) : LogAt w' lp dp g := block_keep h hk hn
theorem LogAt.lt {w : World} {lp dp : Nat} {g : Lg} (h : LogAt w lp dp g) : lp < w.heap.size := block_lt h
theorem LogAt.cells {w : World} {lp dp : Nat} {g : Lg} (h : LogAt w lp dp g) : w.cell? ⟨lp, 0, none⟩ = some (.pointer (some ⟨dp, 0, none⟩)) ∧ w.cell? ⟨lp, 1, none⟩ = some (.int .i64 (g.area : Int)) ∧
    w.cell? ⟨lp, 2, none⟩ = some (.int .i64 (g.used : Int)) ∧ w.cell? ⟨lp, 3, none⟩ = some (.int .i64 (g.count : Int)) ∧ w.cell? ⟨lp, 4, none⟩ = some (.bool g.settled) :=
  ⟨row_cell h 0, row_cell h 1, row_cell h 2, row_cell h 3, row_cell h 4⟩
theorem LogAt.free {w : World} {lp dp : Nat} {g : Lg} (h : LogAt w lp dp g) (j : Nat) : w.frozen? ⟨lp, j, none⟩ = false := row_free h j
/-- The log's block is none of the disk's. -/
theorem LogAt.ne {w : World} {lp : Nat} {h : DH} {B : Nat → Prop} {d : Dk} {g : Lg} (y : LogAt w lp h.p g) (x : DskAt w h B d) : lp ≠ h.p ∧ lp ≠ h.gd ∧ lp ≠ h.gm ∧ lp ∉ h.l := by
  obtain ⟨cap, hb⟩ := x.box
  obtain ⟨vs, hr, _⟩ := x.rows
  obtain ⟨k, D, ⟨es, c, hm, _⟩, _⟩ := x.fresh
  have h1 : lp ≠ h.p := fun e => by rw [e] at y; rw [y] at hb; simp at hb
  have h2 : lp ≠ h.gd := fun e => by rw [e] at y; rw [y] at hr; simp at hr
  have h3 : lp ≠ h.gm := fun e => by rw [e] at y; rw [y] at hm; simp at hm
  exact ⟨h1, h2, h3, by simp [DH.l, h1, h2, h3]⟩
theorem ret_int {k : IntKind} {a b : Int} (h : a = b) : Ending.returned (.int k a) = .returned (.int k b) := by rw [h]
/-- A contract that only reads, whatever it draws. -/
def Only (w : World) (v : Value) (e : Ending) (w' : World) : Prop := e = .returned v ∧ ∃ n, w' = w.drewN n
theorem Only.keeps {w w' : World} {v : Value} {e : Ending} (h : Only w v e w') : e = .returned v ∧ Keeps [] w w' := by
  obtain ⟨h1, n, rfl⟩ := h
  exact ⟨h1, (Keeps.refl [] w).drewN n⟩
theorem Only.zero {w : World} {v : Value} : Only w v (.returned v) w := ⟨rfl, 0, rfl⟩
theorem Only.n {w : World} {v v' : Value} (n : Nat) (h : v' = v) : Only w v (.returned v') (w.drewN n) := ⟨by rw [h], n, rfl⟩
section
variable (w : World) (h : DH) (B : Nat → Prop) (d : Dk) (lp : Nat) (g : Lg)
theorem drewN_dsk {w : World} {h : DH} {B : Nat → Prop} {d : Dk} (x : DskAt w h B d) (n : Nat) : DskAt (w.drewN n) h B d := x.keep0 ((Keeps.refl [] w).drewN n)
theorem drewN_log {w : World} {lp dp : Nat} {g : Lg} (y : LogAt w lp dp g) (n : Nat) : LogAt (w.drewN n) lp dp g := y.keep ((Keeps.refl [] w).drewN n) (by simp)
theorem sp_le {d : Dk} (h : d.Ok) : L.sp d.dur.length ≤ 2048 := by have := h.secs; unfold L.sp; omega
set_option maxHeartbeats 400000 in
theorem span_any (x : DskAt w h B d) (y : LogAt w lp h.p g) : Calls Tryz.prog 118 #[.pointer (some ⟨lp, 0, none⟩)] w fun e w' => e = .returned (.int .i64 (L.sp d.dur.length : Int)) ∧ w = w' := by
  obtain ⟨c0, _⟩ := y.cells
  have hn := x.ok.secs
  have HX := Lib.hid x
  have HR := Lib.hid (show ((d.dur.length : Int) - 1) / 2 = (L.sp d.dur.length : Int) by unfold L.sp; omega)
  clear x y
  go_enter Tryz.func118, Tryz.ntmps118
  go_wp2_with fail
  refine (sectors_any w h B d HX.out).mono ?_
  rintro e w' ⟨rfl, rfl⟩
  go_wp2_with fail
  go_ret
  exact ⟨ret_int HR.out, rfl⟩
set_option maxHeartbeats 400000 in
theorem start_any (x : DskAt w h B d) (y : LogAt w lp h.p g) (a : Nat) (ha : a ≤ 1) : Calls Tryz.prog 86 #[.pointer (some ⟨lp, 0, none⟩), .int .i64 (a : Int)] w fun e w' => e = .returned (.int .i64 (L.st d.dur.length a : Int)) ∧ w = w' := by
  have hn := sp_le x.ok
  have HX := Lib.hid x
  have HY := Lib.hid y
  clear x y
  have HR := Lib.hid (show (1 : Int) + (a : Int) * (L.sp d.dur.length : Int) = (L.st d.dur.length a : Int) by unfold L.st; push_cast; rfl)
  have h1 : (0 : Int) ≤ (a : Int) * (L.sp d.dur.length : Int) := Int.mul_nonneg (by omega) (by omega)
  have h2 : (a : Int) * (L.sp d.dur.length : Int) ≤ 2048 := by
    obtain rfl | rfl : a = 0 ∨ a = 1 := by omega
    · simp
    · simp; omega
  go_enter Tryz.func86, Tryz.ntmps86
  go_wp2_with fail
  refine (span_any w h B d lp g HX.out HY.out).mono ?_
  rintro e w' ⟨rfl, rfl⟩
  go_wp2_with fail
  go_ret
  exact ⟨ret_int HR.out, rfl⟩
set_option maxHeartbeats 400000 in
theorem capacity_any (x : DskAt w h B d) (y : LogAt w lp h.p g) (hN : 16 ≤ d.dur.length) : Calls Tryz.prog 82 #[.pointer (some ⟨lp, 0, none⟩)] w fun e w' => e = .returned (.int .i64 (L.cap d.dur.length : Int)) ∧ w = w' := by
  have hn := sp_le x.ok
  have hc := L.cap_room hN
  have HX := Lib.hid x
  have HY := Lib.hid y
  have HR := Lib.hid (show ((L.sp d.dur.length : Int) - 1) = (L.cap d.dur.length : Int) by omega)
  clear x y hc
  go_enter Tryz.func82, Tryz.ntmps82
  go_wp2_with fail
  refine (span_any w h B d lp g HX.out HY.out).mono ?_
  rintro e w' ⟨rfl, rfl⟩
  go_wp2_with fail
  go_ret
  exact ⟨ret_int HR.out, rfl⟩
set_option maxHeartbeats 400000 in
theorem end_any (x : DskAt w h B d) (y : LogAt w lp h.p g) (ha : g.area ≤ 1) (hu : g.used ≤ 4096) : Calls Tryz.prog 93 #[.pointer (some ⟨lp, 0, none⟩)] w (Only w (.int .i64 ((L.st d.dur.length g.area + g.used : Nat) : Int))) := by
  obtain ⟨c0, c1, c2, _⟩ := y.cells
  have hn := sp_le x.ok
  have h2 : L.st d.dur.length g.area ≤ 2049 := by
    unfold L.st
    obtain e | e : g.area = 0 ∨ g.area = 1 := by omega
    · rw [e]; omega
    · rw [e]; omega
  have HX := Lib.hid x
  have HY := Lib.hid y
  have HR := Lib.hid (show ((L.st d.dur.length g.area : Int) + (g.used : Int)) = ((L.st d.dur.length g.area + g.used : Nat) : Int) by omega)
  obtain ⟨a, hae⟩ : ∃ a, a = g.area := ⟨_, rfl⟩
  obtain ⟨u, hue⟩ : ∃ u, u = g.used := ⟨_, rfl⟩
  rw [← hae] at c1 ha h2 HR ⊢
  rw [← hue] at c2 hu HR ⊢
  have e1 : IntKind.i64.wrap ((L.st d.dur.length a : Int) + (u : Int)) = (L.st d.dur.length a : Int) + (u : Int) := IntWalk.i64_in _ ⟨by omega, by omega⟩
  clear x y hae hue
  go_enter Tryz.func93, Tryz.ntmps93
  go_wp2_with fail
  go_quiet ((go_at_call 86; exact Calls.quiet_of_same ((start_any _ h B d lp g (drewN_dsk HX.out _) (drewN_log HY.out _) a ha).mono fun _ _ hq => ⟨hq.1, hq.2.symm⟩)))
  go_wp2_with fail
  go_ret
  exact Only.n _ (by first | rfl | (rw [← HR.out]; rfl))
set_option maxHeartbeats 400000 in
theorem free_any (x : DskAt w h B d) (y : LogAt w lp h.p g) (hN : 16 ≤ d.dur.length) (hu : g.used ≤ L.cap d.dur.length) : Calls Tryz.prog 92 #[.pointer (some ⟨lp, 0, none⟩)] w (Only w (.int .i64 ((L.cap d.dur.length - g.used : Nat) : Int))) := by
  obtain ⟨c0, c1, c2, _⟩ := y.cells
  have hn := sp_le x.ok
  have hc := L.cap_room hN
  have HX := Lib.hid x
  have HY := Lib.hid y
  have HN := Lib.hid hN
  have HR := Lib.hid (show ((L.cap d.dur.length : Int) - (g.used : Int)) = ((L.cap d.dur.length - g.used : Nat) : Int) by omega)
  obtain ⟨u, hue⟩ : ∃ u, u = g.used := ⟨_, rfl⟩
  rw [← hue] at c2 hu HR ⊢
  have e1 : IntKind.i64.wrap ((L.cap d.dur.length : Int) - (u : Int)) = (L.cap d.dur.length : Int) - (u : Int) := IntWalk.i64_in _ ⟨by omega, by omega⟩
  clear x y hue hN hc
  go_enter Tryz.func92, Tryz.ntmps92
  go_wp2_with fail
  go_quiet ((go_at_call 82; exact Calls.quiet_of_same ((capacity_any _ h B d lp g (drewN_dsk HX.out _) (drewN_log HY.out _) HN.out).mono fun _ _ hq => ⟨hq.1, hq.2.symm⟩)))
  go_wp2_with fail
  go_ret
  exact Only.n _ (by first | rfl | (rw [← HR.out]; rfl))
end
end Go.Proofs.YtbanpdeganlndaaGreatDoor
namespace Go.Proofs.YtbanpdeganlndaaGreatDoor
open Go.RowKit

/-! ### A block of bytes known whole -/
def U8At (w : World) (g : Nat) (l : List UInt8) : Prop := w.heap[g]? = some (.cells (u8s l).toArray 5 (0, 0))
theorem U8At.cell {w : World} {g : Nat} {l : List UInt8} (h : U8At w g l) {i : Nat} (hi : i < l.length) : w.cell? ⟨g, i, none⟩ = some (.int .u8 ((l[i].toNat : Nat) : Int)) := by
  rw [row_cell h]; simp [u8s_get hi]
theorem U8At.bytes {w : World} {g : Nat} {l : List UInt8} (h : U8At w g l) : BytesIn w g (some ⟨g, 0, none⟩) l := .inr ⟨0, rfl, fun k hk => by rw [Nat.zero_add]; exact h.cell hk⟩
theorem U8At.part {w : World} {g : Nat} {l : List UInt8} (h : U8At w g l) (a n : Nat) (ha : a + n ≤ l.length) : BytesIn w g (some ⟨g, a, none⟩) ((l.drop a).take n) := .inr ⟨a, rfl, fun k hk => by
  have hk' : k < n := by simp at hk; omega
  rw [h.cell (by omega)]; simp⟩
theorem U8At.set {w : World} {g : Nat} {l : List UInt8} (h : U8At w g l) (i : Nat) (b : UInt8) : U8At (w.setCell ⟨g, i, none⟩ (.int .u8 ((b.toNat : Nat) : Int))) g (l.set i b) := by
  unfold U8At
  rw [row_set h]
  simp [u8s, List.map_set]
theorem U8At.put {w : World} {g : Nat} {l : List UInt8} (h : U8At w g l) (i : Nat) (b : UInt8) (v : Value) (hv : v = .int .u8 ((b.toNat : Nat) : Int)) : U8At (w.setCell ⟨g, i, none⟩ v) g (l.set i b) := by rw [hv]; exact h.set i b
theorem U8At.keep {S : List Nat} {w w' : World} {g : Nat} {l : List UInt8} (h : U8At w g l) (hk : Keeps S w w') (hn : g ∉ S) : U8At w' g l := block_keep h hk hn
theorem u8_val {n : Nat} : ((UInt8.ofNat n).toNat : Int) = ((n % 256 : Nat) : Int) := by rw [L.ofNat_toNat]
/-- m written over l from off on. -/
def over (l : List UInt8) (off : Nat) (m : List UInt8) : List UInt8 := l.take off ++ m ++ l.drop (off + m.length)
theorem over_nil (l : List UInt8) (off : Nat) : over l off [] = l := by simp [over]
theorem over_length {l m : List UInt8} {off : Nat} (h : off + m.length ≤ l.length) : (over l off m).length = l.length := by simp [over]; omega
theorem set_mid {X Z : List UInt8} {y b : UInt8} {k : Nat} (h : X.length = k) : (X ++ y :: Z).set k b = X ++ b :: Z := by subst h; simp
theorem over_next {l m : List UInt8} {off : Nat} (b : UInt8) (h : off + m.length < l.length) : (over l off m).set (off + m.length) b = over l off (m ++ [b]) := by
  have e1 : over l off m = (l.take off ++ m) ++ l[off + m.length]'h :: l.drop (off + m.length + 1) := by
    unfold over; rw [List.drop_eq_getElem_cons h]
  have e2 : over l off (m ++ [b]) = (l.take off ++ m) ++ b :: l.drop (off + m.length + 1) := by
    unfold over; simp [Nat.add_assoc]
  rw [e1, e2]
  exact set_mid (by simp; omega)
theorem over_part {l m : List UInt8} {off : Nat} (h : off + m.length ≤ l.length) : ((over l off m).drop off).take m.length = m := by
  have h1 : (l.take off).length = off := by simp; omega
  unfold over
  rw [List.append_assoc, ← h1]
  simp [List.drop_left, List.take_append]

/-! ### need -/
set_option maxHeartbeats 400000 in
theorem need_yes (w : World) : Calls Tryz.prog 139 #[.bool true] w fun e w' => e = .returned (.tuple #[]) ∧ w = w' := by
  go_enter Tryz.func139, Tryz.ntmps139
  go_wp2
  go_end0
  exact ⟨rfl, rfl⟩
/-- The panic that ends the reading. -/
def stopped : List PanicEntry := [{ v := .iface 169 (.agg #[.int .i64 0]), recovered := false }]
set_option maxHeartbeats 400000 in
theorem need_no (w : World) : Calls Tryz.prog 139 #[.bool false] w fun e w' => e = .panicked stopped ∧ w = w' := by
  go_enter Tryz.func139, Tryz.ntmps139
  go_wp2
  exact ⟨rfl, rfl, rfl⟩

/-! ### number, putNumber -/
/-- The first i bytes' worth of a number. -/
def low32 (l : List UInt8) (i : Nat) : Nat := ((List.range i).map fun j => (l.getD j 0).toNat * 256 ^ j).sum
theorem low32_step (l : List UInt8) (i : Nat) : low32 l (i + 1) = low32 l i + (l.getD i 0).toNat * 256 ^ i := by simp [low32, List.range_succ]
theorem low32_zero (l : List UInt8) : low32 l 0 = 0 := rfl
theorem low32_four (l : List UInt8) : low32 l 4 = L.de32 l := by
  have e1 : (256 : Nat) ^ 1 = 256 := Nat.pow_one _
  have e2 : (256 : Nat) ^ 2 = 65536 := by decide
  have e3 : (256 : Nat) ^ 3 = 16777216 := by decide
  rw [low32_step, low32_step, low32_step, low32_step, low32_zero, Nat.pow_zero, e1, e2, e3, Nat.mul_one, Nat.zero_add, Nat.mul_comm _ 256, Nat.mul_comm _ 65536, Nat.mul_comm _ 16777216]
  rfl
theorem low32_lt (l : List UInt8) : ∀ i, low32 l i < 256 ^ i
  | 0 => by simp [low32]
  | i + 1 => by
    have := low32_lt l i
    have hb := M.u8_lt (l.getD i 0)
    have h2 : (l.getD i 0).toNat * 256 ^ i ≤ 255 * 256 ^ i := Nat.mul_le_mul_right _ (by omega)
    rw [low32_step, Nat.pow_succ]; omega
theorem or_low {n b i : Nat} (hn : n < 256 ^ i) (hi : i < 4) (hb : b < 256) : bits .or .u32 (n : Int) ((b * 256 ^ i : Nat) : Int) = ((n + b * 256 ^ i : Nat) : Int) ∧ n + b * 256 ^ i < 4294967296 := by
  have e : (256 : Nat) ^ i = 2 ^ (8 * i) := by rw [show (256 : Nat) = 2 ^ 8 by decide, ← Nat.pow_mul]
  have hp : (256 : Nat) ^ i ≤ 256 ^ 3 := Nat.pow_le_pow_right (by decide) (by omega)
  have hp' : (256 : Nat) ^ 3 = 16777216 := by decide
  have h2 : b * 256 ^ i ≤ 255 * 256 ^ i := Nat.mul_le_mul_right _ (by omega)
  refine ⟨?_, by omega⟩
  rw [u32_or_nat n (b * 256 ^ i) (by omega) (by omega), Nat.or_comm, nat_join (8 * i) (b * 256 ^ i) n (by rw [e]; exact Nat.mul_mod_left _ _) (by rw [← e]; exact hn), Nat.add_comm]
theorem shl_by {b : Nat} (k : Nat) (hk : k ≤ 32) (p : Nat) (hp : 2 ^ k = p) (hb : b * p < 4294967296) : IntKind.u32.wrap ((b : Int) * 2 ^ min (Int.toNat (k : Int)) IntKind.u32.bits) = ((b * p : Nat) : Int) := by
  have e1 : min (Int.toNat (k : Int)) IntKind.u32.bits = k := by
    rw [Int.toNat_natCast]; exact Nat.min_eq_left hk
  have e2 : (2 : Int) ^ k = (p : Int) := by rw [← hp]; push_cast; rfl
  rw [e1, e2, IntKind.wrap_u32']
  omega
set_option maxRecDepth 100000 in
set_option maxHeartbeats 800000 in
theorem number_any (w : World) (g cap : Nat) (A : Option Addr) (l : List UInt8) (hr : BytesIn w g A l) (h4 : 4 ≤ l.length) : Calls Tryz.prog 140 #[.slice A l.length cap] w fun e w' => e = .returned (.int .u32 ((L.de32 l : Nat) : Int)) ∧ w = w' := by
  rcases hr with rfl | ⟨off, rfl, hcell⟩
  · simp at h4
  · have HC := Lib.hid hcell
    have HE := Lib.hid (low32_four l)
    clear hcell
    obtain ⟨n, hn⟩ : ∃ n, n = l.length := ⟨_, rfl⟩
    have HN := Lib.hid hn
    rw [← hn] at h4 ⊢
    clear hn
    go_enter Tryz.func140, Tryz.ntmps140
    go_wp2
    go_loop [2, 4] (fun nv iv => ∃ i acc : Nat, i ≤ 4 ∧ iv = .int .i64 i ∧ nv = .int .u32 (acc : Int) ∧ acc = low32 l i) (fun _ iv => 4 - (RowKit.intOf iv).toNat)
    case atStart => exact ⟨0, 0, by omega, rfl, rfl, rfl⟩
    case round =>
      obtain ⟨i, acc, hi, rfl, rfl, hacc⟩ := hrel
      have HA := Lib.hid hacc
      clear hacc
      by_cases hlt : i < 4
      · have hb := M.u8_lt (l[i]'(by have := HN.out; omega))
        have hc := HC.out i (by have := HN.out; omega)
        have hg : l.getD i 0 = l[i]'(by have := HN.out; omega) := by rw [List.getD_eq_getElem?_getD, List.getElem?_eq_getElem (by have := HN.out; omega), Option.getD_some]
        have hst := low32_step l i
        rw [hg, ← HA.out] at hst
        have hal := low32_lt l i
        rw [← HA.out] at hal
        obtain ⟨b, hbe⟩ : ∃ b : Nat, b = (l[i]'(by have := HN.out; omega)).toNat := ⟨_, rfl⟩
        rw [← hbe] at hb hc hst
        obtain ⟨e1, e2⟩ := or_low hal hlt hb
        have HST := Lib.hid hst
        clear hst hg hbe hal
        obtain rfl | rfl | rfl | rfl : i = 0 ∨ i = 1 ∨ i = 2 ∨ i = 3 := by omega
        · have e0 : (256 : Nat) ^ 0 = 1 := by decide
          rw [e0] at e1 e2
          have e3 := shl_by (b := b) 0 (by omega) (1) (by decide) (by omega)
          simp only [Nat.add_zero] at hc
          have E1 := Lib.hid e1
          clear e1
          go_wp2
          go_round
          case rel => exact ⟨1, acc + b * 1, by omega, rfl, by rw [← E1.out]; simp, by rw [HST.out, e0]⟩
          case measure => simp [RowKit.intOf]
        · have e0 : (256 : Nat) ^ 1 = 256 := by decide
          rw [e0] at e1 e2
          have e3 := shl_by (b := b) 8 (by omega) (256) (by decide) (by omega)
          skip
          have E1 := Lib.hid e1
          clear e1
          go_wp2
          go_round
          case rel => exact ⟨2, acc + b * 256, by omega, rfl, by rw [← E1.out]; simp, by rw [HST.out, e0]⟩
          case measure => simp [RowKit.intOf]
        · have e0 : (256 : Nat) ^ 2 = 65536 := by decide
          rw [e0] at e1 e2
          have e3 := shl_by (b := b) 16 (by omega) (65536) (by decide) (by omega)
          skip
          have E1 := Lib.hid e1
          clear e1
          go_wp2
          go_round
          case rel => exact ⟨3, acc + b * 65536, by omega, rfl, by rw [← E1.out]; simp, by rw [HST.out, e0]⟩
          case measure => simp [RowKit.intOf]
        · have e0 : (256 : Nat) ^ 3 = 16777216 := by decide
          rw [e0] at e1 e2
          have e3 := shl_by (b := b) 24 (by omega) (16777216) (by decide) (by omega)
          skip
          have E1 := Lib.hid e1
          clear e1
          go_wp2
          go_round
          case rel => exact ⟨4, acc + b * 16777216, by omega, rfl, by rw [← E1.out]; simp, by rw [HST.out, e0]⟩
          case measure => simp [RowKit.intOf]
      · go_wp2
        go_ret
        exact ⟨ret_nat (by rw [HA.out, ← HE.out, show i = 4 by omega]), rfl⟩

theorem le32_get (n i : Nat) (hi : i < 4) : ∃ b : UInt8, b = UInt8.ofNat (n / 256 ^ i) ∧ (L.le32 n).take (i + 1) = (L.le32 n).take i ++ [b] := by
  have e2 : (256 : Nat) ^ 2 = 65536 := by decide
  have e3 : (256 : Nat) ^ 3 = 16777216 := by decide
  refine ⟨_, rfl, ?_⟩
  obtain rfl | rfl | rfl | rfl : i = 0 ∨ i = 1 ∨ i = 2 ∨ i = 3 := by omega
  · rw [Nat.pow_zero, Nat.div_one]; rfl
  · rw [Nat.pow_one]; rfl
  · rw [e2]; rfl
  · rw [e3]; rfl
set_option maxRecDepth 100000 in
set_option maxHeartbeats 800000 in
theorem putNumber_any (w : World) (g off len cap : Nat) (l : List UInt8) (n : Nat) (hr : U8At w g l) (h4 : off + 4 ≤ l.length) (hlen : 4 ≤ len) (hn : n < 4294967296) :
    Calls Tryz.prog 119 #[.slice (some ⟨g, off, none⟩) len cap, .int .u32 (n : Int)] w fun e w' => e = .returned (.tuple #[]) ∧ U8At w' g (over l off (L.le32 n)) ∧ Keeps [g] w w' := by
  have HR := Lib.hid hr
  have HL := Lib.hid h4
  clear hr h4
  go_enter Tryz.func119, Tryz.ntmps119
  go_wp2
  go_loopw [5] (fun iv wr => ∃ i : Nat, i ≤ 4 ∧ iv = .int .i64 i ∧ U8At wr g (over l off ((L.le32 n).take i)) ∧ Keeps [g] w wr) (fun iv _ => 4 - (RowKit.intOf iv).toNat)
  case atStart => exact ⟨0, by omega, rfl, by rw [List.take_zero, over_nil]; exact HR.out, Keeps.refl _ _⟩
  case round =>
    obtain ⟨i, hi, rfl, hu, hk⟩ := hrel
    by_cases hlt : i < 4
    · obtain ⟨b, hb, ht⟩ := le32_get n i hlt
      have hlen' : ((L.le32 n).take i).length = i := by simp [L.le32]; omega
      have hll := HL.out
      have hol : (over l off ((L.le32 n).take i)).length = l.length := over_length (by rw [hlen']; omega)
      obtain ⟨y, hc⟩ : ∃ y : Value, wr.cell? ⟨g, off + i, none⟩ = some y := ⟨_, hu.cell (i := off + i) (by rw [hol]; omega)⟩
      have hz := row_free hu (off + i)
      have HS := Lib.hid (hu.put (off + i) b)
      have HON := Lib.hid (show (over l off ((L.le32 n).take i)).set (off + i) b = over l off ((L.le32 n).take (i + 1)) by
        have := over_next (l := l) (m := (L.le32 n).take i) (off := off) b (by rw [hlen']; omega)
        rw [hlen'] at this
        rw [this, ht])
      have HB := Lib.hid hb
      have HK := Lib.hid hk
      clear hu hk hb ht hlen' hol
      obtain rfl | rfl | rfl | rfl : i = 0 ∨ i = 1 ∨ i = 2 ∨ i = 3 := by omega
      · have e0 : (256 : Nat) ^ 0 = 1 := by decide
        have HE := Lib.hid e0
        clear e0
        simp only [Nat.add_zero] at hc hz
        go_wp2
        go_roundw
        case rel =>
          refine ⟨1, by omega, rfl, ?_, HK.out.setCell (by simp) _⟩
          rw [← HON.out]
          exact HS.out _ (by rw [HB.out, L.ofNat_toNat, HE.out]; congr 1; try omega)
        case measure => simp [RowKit.intOf]
      · have e0 : (256 : Nat) ^ 1 = 256 := by decide
        have HE := Lib.hid e0
        clear e0
        skip
        go_wp2
        go_roundw
        case rel =>
          refine ⟨2, by omega, rfl, ?_, HK.out.setCell (by simp) _⟩
          rw [← HON.out]
          exact HS.out _ (by rw [HB.out, L.ofNat_toNat, HE.out]; congr 1; try omega)
        case measure => simp [RowKit.intOf]
      · have e0 : (256 : Nat) ^ 2 = 65536 := by decide
        have HE := Lib.hid e0
        clear e0
        skip
        go_wp2
        go_roundw
        case rel =>
          refine ⟨3, by omega, rfl, ?_, HK.out.setCell (by simp) _⟩
          rw [← HON.out]
          exact HS.out _ (by rw [HB.out, L.ofNat_toNat, HE.out]; congr 1; try omega)
        case measure => simp [RowKit.intOf]
      · have e0 : (256 : Nat) ^ 3 = 16777216 := by decide
        have HE := Lib.hid e0
        clear e0
        skip
        go_wp2
        go_roundw
        case rel =>
          refine ⟨4, by omega, rfl, ?_, HK.out.setCell (by simp) _⟩
          rw [← HON.out]
          exact HS.out _ (by rw [HB.out, L.ofNat_toNat, HE.out]; congr 1; try omega)
        case measure => simp [RowKit.intOf]
    · have HS := Lib.hid (show U8At wr g (over l off (L.le32 n)) by
        have : (L.le32 n).take i = L.le32 n := List.take_of_length_le (by simp [L.le32]; omega)
        rw [this] at hu; exact hu)
      have HK := Lib.hid hk
      clear hu hk
      go_wp2
      go_end0
      exact ⟨rfl, HS.out, HK.out⟩
end Go.Proofs.YtbanpdeganlndaaGreatDoor
