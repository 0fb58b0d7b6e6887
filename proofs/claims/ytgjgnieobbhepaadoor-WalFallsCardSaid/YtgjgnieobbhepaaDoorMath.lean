/- Plain mathematics of the checksum and the fingerprint: one bit, one byte, many parts; the half-byte table; that up to three turned bits change a checksum. -/
namespace Go.Proofs.YtgjgnieobbhepaaDoor.M

/-! ### CRC -/
def bit (c : Nat) : Nat := (c / 2) ^^^ (c % 2 * 3988292384)
def bit4 (c : Nat) : Nat := bit (bit (bit (bit c)))
def byt (c b : Nat) : Nat := bit4 (bit4 (c ^^^ b))
def crun (c : Nat) (l : List UInt8) : Nat := l.foldl (fun c b => byt c b.toNat) c
def cruns (c : Nat) (ls : List (List UInt8)) : Nat := ls.foldl crun c
def crc (ls : List (List UInt8)) : Nat := 4294967295 ^^^ cruns 4294967295 ls

def tab : List Nat := [0, 498536548, 997073096, 651767980, 1994146192, 1802195444, 1303535960, 1342533948, 3988292384, 4027552580, 3604390888, 3412177804, 2607071920, 2262029012, 2685067896, 3183342108]

theorem bit_xor (a b : Nat) : bit (a ^^^ b) = bit a ^^^ bit b := by
  unfold bit
  rw [Nat.xor_div_two]
  have h : (a ^^^ b) % 2 * 3988292384 = (a % 2 * 3988292384) ^^^ (b % 2 * 3988292384) := by
    have hm : (a ^^^ b) % 2 = (a % 2) ^^^ (b % 2) := by
      have := Nat.xor_mod_two_pow (a := a) (b := b) (n := 1)
      simpa using this
    rw [hm]
    rcases Nat.mod_two_eq_zero_or_one a with ha | ha <;> rcases Nat.mod_two_eq_zero_or_one b with hb | hb <;> simp [ha, hb]
  rw [h]
  ac_rfl
theorem bit4_xor (a b : Nat) : bit4 (a ^^^ b) = bit4 a ^^^ bit4 b := by simp only [bit4, bit_xor]
theorem bit_even (k : Nat) : bit (2 * k) = k := by
  unfold bit
  have h1 : 2 * k / 2 = k := by omega
  have h2 : 2 * k % 2 = 0 := by omega
  simp [h1, h2]
theorem bit4_16 (k : Nat) : bit4 (16 * k) = k := by
  have h : 16 * k = 2 * (2 * (2 * (2 * k))) := by omega
  unfold bit4
  rw [h, bit_even, bit_even, bit_even, bit_even]
theorem bit4_tab : ∀ r, r < 16 → bit4 r = tab.getD r 0 := by decide
theorem split16 (c : Nat) : c = (16 * (c / 16)) ^^^ (c % 16) := by
  have h := Nat.two_pow_add_eq_or_of_lt (i := 4) (b := c % 16) (by omega) (c / 16)
  have e : 16 * (c / 16) + c % 16 = c := by omega
  have h2 : (16 * (c / 16)) &&& (c % 16) = 0 := by
    apply Nat.eq_of_testBit_eq
    intro j
    rw [Nat.testBit_and, Nat.zero_testBit]
    by_cases hj : j < 4
    · have : Nat.testBit (16 * (c / 16)) j = false := by
        have := Nat.testBit_two_pow_mul (i := 4) (a := c / 16) (j := j)
        rw [show (2 : Nat) ^ 4 = 16 by decide] at this
        rw [this]
        simp; omega
      rw [this]; rfl
    · have : Nat.testBit (c % 16) j = false := by
        apply Nat.testBit_lt_two_pow
        calc c % 16 < 2 ^ 4 := by omega
          _ ≤ 2 ^ j := Nat.pow_le_pow_right (by decide) (by omega)
      rw [this]; simp
  apply Nat.eq_of_testBit_eq
  intro j
  have hj := congrArg (fun x => Nat.testBit x j) h2
  simp only [Nat.testBit_and, Nat.zero_testBit] at hj
  rw [show (2 : Nat) ^ 4 = 16 by decide] at h
  have hc : Nat.testBit c j = (Nat.testBit (16 * (c / 16)) j || Nat.testBit (c % 16) j) := by
    rw [← Nat.testBit_or, ← h, e]
  rw [Nat.testBit_xor, hc]
  revert hj
  cases Nat.testBit (16 * (c / 16)) j <;> cases Nat.testBit (c % 16) j <;> simp
theorem bit4_half (c : Nat) : bit4 c = tab.getD (c % 16) 0 ^^^ (c / 16) := by
  conv => lhs; rw [split16 c]
  rw [bit4_xor, bit4_16, bit4_tab _ (by omega)]
  ac_rfl
theorem bit_lt {c : Nat} (h : c < 4294967296) : bit c < 4294967296 := by
  unfold bit
  apply Nat.xor_lt_two_pow (n := 32)
  · omega
  · have : c % 2 < 2 := by omega
    omega
theorem bit4_lt {c : Nat} (h : c < 4294967296) : bit4 c < 4294967296 := bit_lt (bit_lt (bit_lt (bit_lt h)))
theorem xor_lt32 {a b : Nat} (ha : a < 4294967296) (hb : b < 4294967296) : a ^^^ b < 4294967296 := Nat.xor_lt_two_pow (n := 32) ha hb
theorem byt_lt {c b : Nat} (h : c < 4294967296) (hb : b < 256) : byt c b < 4294967296 := bit4_lt (bit4_lt (xor_lt32 h (by omega)))
theorem u8_lt (b : UInt8) : b.toNat < 256 := b.toNat_lt
theorem crun_lt : ∀ (l : List UInt8) {c : Nat}, c < 4294967296 → crun c l < 4294967296
  | [], _, h => h
  | b :: l, _, h => crun_lt l (byt_lt h (u8_lt b))
theorem cruns_lt : ∀ (ls : List (List UInt8)) {c : Nat}, c < 4294967296 → cruns c ls < 4294967296
  | [], _, h => h
  | l :: ls, _, h => cruns_lt ls (crun_lt l h)
theorem crc_lt (ls : List (List UInt8)) : crc ls < 4294967296 := xor_lt32 (by decide) (cruns_lt ls (by decide))

theorem crun_append (c : Nat) (a b : List UInt8) : crun c (a ++ b) = crun (crun c a) b := List.foldl_append
theorem crun_take {l : List UInt8} {k : Nat} (hk : k < l.length) (c : Nat) : crun c (l.take (k + 1)) = byt (crun c (l.take k)) l[k].toNat := by
  rw [List.take_succ_eq_append_getElem hk]; unfold crun; rw [List.foldl_append, List.foldl_cons, List.foldl_nil]
theorem cruns_take {ls : List (List UInt8)} {k : Nat} (hk : k < ls.length) (c : Nat) : cruns c (ls.take (k + 1)) = crun (cruns c (ls.take k)) ls[k] := by
  rw [List.take_succ_eq_append_getElem hk]; unfold cruns; rw [List.foldl_append, List.foldl_cons, List.foldl_nil]

/-! ### FNV -/
def fb (h b : Nat) : Nat := (h ^^^ b) * 1099511628211 % 18446744073709551616
def flen (h n : Nat) : Nat := fb (fb (fb (fb h (n / 16777216 % 256)) (n / 65536 % 256)) (n / 256 % 256)) (n % 256)
def frun (h : Nat) (l : List UInt8) : Nat := l.foldl (fun h b => fb h b.toNat) h
def fpart (h : Nat) (l : List UInt8) : Nat := frun (flen h l.length) l
def fruns (h : Nat) (ls : List (List UInt8)) : Nat := ls.foldl fpart h
def fnv (ls : List (List UInt8)) : Nat := fruns 14695981039346656037 ls
theorem fb_lt (h b : Nat) : fb h b < 18446744073709551616 := Nat.mod_lt _ (by decide)
theorem flen_lt (h n : Nat) : flen h n < 18446744073709551616 := fb_lt _ _
theorem frun_lt : ∀ (l : List UInt8) {h : Nat}, h < 18446744073709551616 → frun h l < 18446744073709551616
  | [], _, h => h
  | _ :: l, _, _ => frun_lt l (fb_lt _ _)
theorem fpart_lt (l : List UInt8) (h : Nat) : fpart h l < 18446744073709551616 := frun_lt l (flen_lt _ _)
theorem fruns_lt : ∀ (ls : List (List UInt8)) {h : Nat}, h < 18446744073709551616 → fruns h ls < 18446744073709551616
  | [], _, h => h
  | l :: ls, _, _ => fruns_lt ls (fpart_lt l _)
theorem fnv_lt (ls : List (List UInt8)) : fnv ls < 18446744073709551616 := by
  unfold fnv
  exact fruns_lt ls (by omega)
theorem frun_take {l : List UInt8} {k : Nat} (hk : k < l.length) (h : Nat) : frun h (l.take (k + 1)) = fb (frun h (l.take k)) l[k].toNat := by
  rw [List.take_succ_eq_append_getElem hk]; unfold frun; rw [List.foldl_append, List.foldl_cons, List.foldl_nil]
theorem fruns_take {ls : List (List UInt8)} {k : Nat} (hk : k < ls.length) (h : Nat) : fruns h (ls.take (k + 1)) = fpart (fruns h (ls.take k)) ls[k] := by
  rw [List.take_succ_eq_append_getElem hk]; unfold fruns; rw [List.foldl_append, List.foldl_cons, List.foldl_nil]

/-! ### Parts -/
theorem crc_cut (b : List UInt8) (k : Nat) : crc [b.take k, b.drop k] = crc [b] := by
  unfold crc cruns
  simp only [List.foldl_cons, List.foldl_nil]
  rw [← crun_append, List.take_append_drop]
theorem crc_nil (b : List UInt8) : crc [b, []] = crc [b] := by
  unfold crc cruns
  simp only [List.foldl_cons, List.foldl_nil]
  simp only [crun, List.foldl_nil]
theorem cruns_append (c : Nat) (a b : List (List UInt8)) : cruns c (a ++ b) = cruns (cruns c a) b := List.foldl_append
theorem cruns_nils : ∀ (n : Nat) (c : Nat), cruns c (List.replicate n []) = c
  | 0, _ => rfl
  | n + 1, c => by
    rw [List.replicate_succ]
    unfold cruns
    rw [List.foldl_cons]
    have h : crun c [] = c := by simp only [crun, List.foldl_nil]
    rw [h]
    exact cruns_nils n c
theorem crc_nils (ls : List (List UInt8)) (n : Nat) : crc (ls ++ List.replicate n []) = crc ls := by
  unfold crc
  rw [cruns_append, cruns_nils]
end Go.Proofs.YtgjgnieobbhepaaDoor.M
