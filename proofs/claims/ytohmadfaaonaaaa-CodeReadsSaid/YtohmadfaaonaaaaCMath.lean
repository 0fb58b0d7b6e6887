/- Encodings and their readings, on lists of bytes: no program. -/
import Derived.Laws.BitsAllLaws
namespace Go.Proofs.Ytohmadfaaonaaaa.M

/-- A number's bytes, seven bits in each. -/
def enc (n : Nat) : List UInt8 := if n < 128 then [UInt8.ofNat n] else UInt8.ofNat (n % 128 + 128) :: enc (n / 128)
termination_by n
decreasing_by omega
theorem enc_small {n : Nat} (h : n < 128) : enc n = [UInt8.ofNat n] := by rw [enc, if_pos h]
theorem enc_big {n : Nat} (h : ¬ n < 128) : enc n = UInt8.ofNat (n % 128 + 128) :: enc (n / 128) := by rw [enc, if_neg h]
theorem enc_pos (n : Nat) : 0 < (enc n).length := by
  by_cases h : n < 128
  · rw [enc_small h]; simp
  · rw [enc_big h]; simp
theorem enc_len : ∀ (k n : Nat), n < 128 ^ (k + 1) → (enc n).length ≤ k + 1
  | 0, n, h => by rw [enc_small (by simpa using h)]; simp
  | k + 1, n, h => by
    by_cases h1 : n < 128
    · rw [enc_small h1]; simp
    · rw [enc_big h1]
      have := enc_len k (n / 128) (by rw [Nat.pow_succ] at h; exact Nat.div_lt_of_lt_mul (by rw [Nat.mul_comm]; exact h))
      simp
      omega
theorem enc_len64 {n : Nat} (h : n < 18446744073709551616) : (enc n).length ≤ 10 := enc_len 9 n (Nat.lt_of_lt_of_le h (by decide))
theorem enc_mono (n : Nat) : ∀ m, m ≤ n → (enc m).length ≤ (enc n).length := by
  induction n using Nat.strongRecOn with
  | _ n ih =>
    intro m hm
    by_cases h1 : m < 128
    · rw [enc_small h1]; exact enc_pos n
    · have h2 : ¬ n < 128 := by omega
      rw [enc_big h1, enc_big h2]
      have := ih (n / 128) (by omega) (m / 128) (by omega)
      simp
      exact this

/-- A number read: i bytes of it are behind, they come to acc. -/
def dec (i acc : Nat) : List UInt8 → Option (Nat × List UInt8)
  | [] => none
  | b :: r =>
    if i < 9 ∨ b.toNat ≤ 1 then
      if b.toNat < 128 then (if b.toNat ≠ 0 ∨ i = 0 then some (acc + b.toNat % 128 * 128 ^ i, r) else none)
      else dec (i + 1) (acc + b.toNat % 128 * 128 ^ i) r
    else none
theorem dec_nil (i acc : Nat) : dec i acc [] = none := rfl
theorem dec_cons (i acc : Nat) (b : UInt8) (r : List UInt8) : dec i acc (b :: r) =
    if i < 9 ∨ b.toNat ≤ 1 then
      if b.toNat < 128 then (if b.toNat ≠ 0 ∨ i = 0 then some (acc + b.toNat % 128 * 128 ^ i, r) else none)
      else dec (i + 1) (acc + b.toNat % 128 * 128 ^ i) r
    else none := rfl
theorem dec_end {i acc c : Nat} {b : UInt8} {r : List UInt8} (hc : c = b.toNat) (h1 : i < 9 ∨ c ≤ 1) (h2 : c < 128) (h3 : c ≠ 0 ∨ i = 0) : dec i acc (b :: r) = some (acc + c % 128 * 128 ^ i, r) := by
  subst hc; rw [dec_cons, if_pos h1, if_pos h2, if_pos h3]
theorem dec_zero {i acc c : Nat} {b : UInt8} {r : List UInt8} (hc : c = b.toNat) (h2 : c = 0) (h3 : i ≠ 0) : dec i acc (b :: r) = none := by
  subst hc; rw [dec_cons, if_pos (by omega), if_pos (by omega), if_neg (by omega)]
theorem dec_more {i acc c : Nat} {b : UInt8} {r : List UInt8} (hc : c = b.toNat) (h1 : i < 9) (h2 : ¬ c < 128) : dec i acc (b :: r) = dec (i + 1) (acc + c % 128 * 128 ^ i) r := by
  subst hc; rw [dec_cons, if_pos (.inl h1), if_neg h2]
theorem dec_over {i acc c : Nat} {b : UInt8} {r : List UInt8} (hc : c = b.toNat) (h1 : ¬ i < 9) (h2 : ¬ c ≤ 1) : dec i acc (b :: r) = none := by
  subst hc; rw [dec_cons, if_neg (by omega)]
theorem u8_toNat {n : Nat} (h : n < 256) : (UInt8.ofNat n).toNat = n := by simp; omega

theorem pow_le_64 {i : Nat} (h : i ≤ 9) : 128 ^ i ≤ 9223372036854775808 := Nat.le_trans (Nat.pow_le_pow_right (by decide) h) (by decide)
theorem pow_9 : 128 ^ 9 = 9223372036854775808 := by decide
/-- What is written is read back, whatever follows. -/
theorem dec_enc (n : Nat) : ∀ (i acc : Nat) (r : List UInt8), i ≤ 9 → n * 128 ^ i < 18446744073709551616 → (i = 0 ∨ n ≠ 0) → dec i acc (enc n ++ r) = some (acc + n * 128 ^ i, r) := by
  induction n using Nat.strongRecOn with
  | _ n ih =>
    intro i acc r hi hn h0
    have h9 : i = 9 → n ≤ 1 := by
      intro h
      subst h
      rw [pow_9] at hn
      omega
    by_cases h1 : n < 128
    · rw [enc_small h1, List.singleton_append, dec_cons, u8_toNat (by omega), if_pos (by omega), if_pos h1, if_pos (by omega), Nat.mod_eq_of_lt h1]
    · have hi9 : i < 9 := by
        rcases Nat.lt_or_ge i 9 with h | h
        · exact h
        · have := h9 (by omega); omega
      rw [enc_big h1, List.cons_append, dec_cons, u8_toNat (by omega), if_pos (.inl hi9), if_neg (by omega)]
      have e : n = 128 * (n / 128) + n % 128 := (Nat.div_add_mod n 128).symm
      have hs : n * 128 ^ i = n / 128 * 128 ^ (i + 1) + n % 128 * 128 ^ i := by
        rw [Nat.pow_succ]
        conv => lhs; rw [e]
        rw [Nat.add_mul, Nat.mul_comm 128 (n / 128), Nat.mul_assoc, Nat.mul_comm 128 (128 ^ i)]
      rw [ih (n / 128) (by omega) (i + 1) _ r (by omega) (by omega) (by omega)]
      have e2 : (n % 128 + 128) % 128 = n % 128 := by omega
      rw [e2, hs]
      congr 2
      omega
theorem dec_back {n : Nat} (h : n < 18446744073709551616) (r : List UInt8) : dec 0 0 (enc n ++ r) = some (n, r) := by
  have := dec_enc n 0 0 r (by omega) (by simpa using h) (.inl rfl)
  simpa using this
theorem enc_inj {m n : Nat} (hm : m < 18446744073709551616) (hn : n < 18446744073709551616) (h : enc m = enc n) : m = n := by
  have h1 := dec_back hm []
  have h2 := dec_back hn []
  rw [h, h2] at h1
  simpa using h1.symm
/-- What is cut off within a number can't be read. -/
theorem dec_cut (n : Nat) : ∀ (i acc k : Nat), k < (enc n).length → dec i acc ((enc n).take k) = none := by
  induction n using Nat.strongRecOn with
  | _ n ih =>
    intro i acc k hk
    by_cases h1 : n < 128
    · rw [enc_small h1] at hk ⊢
      have : k = 0 := by simpa using hk
      subst this
      rfl
    · rw [enc_big h1] at hk ⊢
      cases k with
      | zero => rfl
      | succ k =>
        rw [List.take_succ_cons, dec_cons, u8_toNat (by omega), if_neg (show ¬ n % 128 + 128 < 128 by omega), ih (n / 128) (by omega) _ _ k (by simpa using hk)]
        split <;> rfl
/-- What is read: a number of 64 bits, fewer bytes left. -/
theorem dec_some : ∀ (l : List UInt8) (i acc n : Nat) (r : List UInt8), i ≤ 9 → acc < 128 ^ i → dec i acc l = some (n, r) → n < 18446744073709551616 ∧ ∃ k, 0 < k ∧ r = l.drop k ∧ k ≤ l.length
  | [], i, acc, n, r, _, _, h => by cases h
  | b :: l, i, acc, n, r, hi, ha, h => by
    have hb : b.toNat < 256 := b.toNat_lt
    rw [dec_cons] at h
    split at h
    · rename_i h9
      have hpow := pow_le_64 hi
      have hx : b.toNat % 128 * 128 ^ i ≤ 127 * 128 ^ i := Nat.mul_le_mul_right _ (by omega)
      have hnew : acc + b.toNat % 128 * 128 ^ i < 128 ^ (i + 1) := by rw [Nat.pow_succ]; omega
      split at h
      · split at h
        · obtain ⟨rfl, rfl⟩ : _ = n ∧ l = r := by simpa using h
          refine ⟨?_, 1, by omega, rfl, by simp⟩
          rcases h9 with h9 | h9
          · have h10 := pow_le_64 (show i + 1 ≤ 9 by omega)
            omega
          · have h11 : b.toNat % 128 * 128 ^ i ≤ 1 * 128 ^ i := Nat.mul_le_mul_right _ (by omega)
            omega
        · cases h
      · have h10 : i < 9 := by omega
        obtain ⟨h1, k, h2, h3, h4⟩ := dec_some l (i + 1) _ n r (by omega) hnew h
        exact ⟨h1, k + 1, by omega, by rw [h3]; rfl, by simp; omega⟩
    · cases h

/-- An integer as a number. -/
def zig (z : Int) : Nat := if z < 0 then (-(z + 1)).toNat * 2 + 1 else z.toNat * 2
def unzig (n : Nat) : Int := if n % 2 = 1 then -((n / 2 : Nat) : Int) - 1 else ((n / 2 : Nat) : Int)
theorem zig_lt {z : Int} (h1 : -9223372036854775808 ≤ z) (h2 : z ≤ 9223372036854775807) : zig z < 18446744073709551616 := by
  unfold zig; split <;> omega
theorem unzig_zig (z : Int) : unzig (zig z) = z := by
  unfold zig
  split
  · unfold unzig
    rw [if_pos (by omega)]
    omega
  · unfold unzig
    rw [if_neg (by omega)]
    omega
theorem zig_inj {a b : Int} (h : zig a = zig b) : a = b := by rw [← unzig_zig a, ← unzig_zig b, h]
theorem unzig_range {n : Nat} (h : n < 18446744073709551616) : -9223372036854775808 ≤ unzig n ∧ unzig n ≤ 9223372036854775807 := by
  unfold unzig; split <;> omega

/-- A text read. -/
def decText (l : List UInt8) : Option (List UInt8 × List UInt8) :=
  match dec 0 0 l with
  | some (n, r) => if n ≤ r.length then some (r.take n, r.drop n) else none
  | none => none
theorem decText_none {l : List UInt8} (h : dec 0 0 l = none) : decText l = none := by unfold decText; rw [h]
theorem decText_long {l : List UInt8} {n : Nat} {r : List UInt8} (h : dec 0 0 l = some (n, r)) (hn : ¬ n ≤ r.length) : decText l = none := by unfold decText; rw [h]; exact if_neg hn
theorem decText_some {l : List UInt8} {n : Nat} {r : List UInt8} (h : dec 0 0 l = some (n, r)) (hn : n ≤ r.length) : decText l = some (r.take n, r.drop n) := by unfold decText; rw [h]; exact if_pos hn
def encText (s : List UInt8) : List UInt8 := enc s.length ++ s
theorem decText_back {s : List UInt8} (h : s.length < 18446744073709551616) (r : List UInt8) : decText (encText s ++ r) = some (s, r) := by
  unfold encText
  rw [decText_some (n := s.length) (r := s ++ r) (by rw [List.append_assoc]; exact dec_back h _) (by simp)]
  simp
theorem decText_cut {s : List UInt8} (h : s.length < 18446744073709551616) {k : Nat} (hk : k < (encText s).length) : decText ((encText s).take k) = none := by
  unfold encText at hk ⊢
  by_cases h1 : k < (enc s.length).length
  · rw [List.take_append_of_le_length (by omega)]
    exact decText_none (dec_cut _ _ _ _ h1)
  · rw [List.take_append, List.take_of_length_le (by omega)]
    exact decText_long (dec_back h _) (by simp at hk ⊢; omega)
def encBool (b : Bool) : List UInt8 := [if b then 1 else 0]
def decBool : List UInt8 → Option (Bool × List UInt8)
  | [] => none
  | b :: r => if b.toNat ≤ 1 then some (b == 1, r) else none

/-- The steps of the text on bytes. -/
theorem or_128 {v : Nat} : bits .or .u8 ((v : Int) % 256) 128 = ((v % 128 + 128 : Nat) : Int) := by
  have h := u8_or_nat (v % 256) 128 (by omega) (by omega)
  have e : ∀ x, x < 256 → x ||| 128 = x % 128 + 128 := by decide +kernel
  rw [e _ (by omega)] at h
  have e2 : v % 256 % 128 = v % 128 := by omega
  rw [e2] at h
  simpa using h
theorem andNot_128 {b : Nat} (h : b < 256) : bits .andNot .u8 (b : Int) 128 = ((b % 128 : Nat) : Int) := by
  have h1 := u8_andNot_nat b 128 h (by omega)
  have e : ∀ x, x < 256 → x &&& (255 - 128) = x % 128 := by decide +kernel
  rw [e _ h] at h1
  exact h1
theorem or_join {acc c i : Nat} (ha : acc < 128 ^ i) (hc : acc + c * 128 ^ i < 18446744073709551616) : bits .or .u64 (acc : Int) ((c * 128 ^ i : Nat) : Int) = ((acc + c * 128 ^ i : Nat) : Int) := by
  rw [u64_or_nat _ _ (by omega) (by omega)]
  congr 1
  have e : 128 ^ i = 2 ^ (7 * i) := by rw [Nat.pow_mul]
  rw [e] at ha ⊢
  have h := nat_join (7 * i) (c * 2 ^ (7 * i)) acc (Nat.mul_mod_left _ _) ha
  rw [Nat.or_comm, h, Nat.add_comm]
/-- A byte laid at its place: the steps of the text. -/
theorem lay_steps {i s acc c : Nat} (hi : i ≤ 9) (hs : s = 7 * i) (hacc : acc < 128 ^ i) (hc : c < 256) (h9 : i < 9 ∨ c ≤ 1) : ∃ m x acc' : Nat,
    bits .andNot .u8 (c : Int) 128 = (m : Int) ∧ m < 128 ∧ IntKind.u64.wrap ((m : Int) * 2 ^ s) = (x : Int) ∧ bits .or .u64 (acc : Int) (x : Int) = (acc' : Int) ∧
    acc' = acc + c % 128 * 128 ^ i ∧ acc' < 18446744073709551616 ∧ (i < 9 → acc' < 128 ^ (i + 1)) := by
  have hpow := pow_le_64 hi
  have hx : c % 128 * 128 ^ i ≤ 127 * 128 ^ i := Nat.mul_le_mul_right _ (by omega)
  have hnew : acc + c % 128 * 128 ^ i < 128 ^ (i + 1) := by rw [Nat.pow_succ]; omega
  have hlt : acc + c % 128 * 128 ^ i < 18446744073709551616 := by
    rcases h9 with h9 | h9
    · have h10 := pow_le_64 (show i + 1 ≤ 9 by omega)
      omega
    · have h11 : c % 128 * 128 ^ i ≤ 1 * 128 ^ i := Nat.mul_le_mul_right _ (by omega)
      omega
  refine ⟨c % 128, c % 128 * 128 ^ i, acc + c % 128 * 128 ^ i, andNot_128 hc, by omega, ?_, or_join hacc hlt, rfl, hlt, fun _ => hnew⟩
  rw [IntKind.wrap_u64, hs, Int.pow_mul]
  have e : ((c % 128 : Nat) : Int) * (2 ^ 7) ^ i = ((c % 128 * 128 ^ i : Nat) : Int) := by simp
  rw [e]
  omega
end Go.Proofs.Ytohmadfaaonaaaa.M
