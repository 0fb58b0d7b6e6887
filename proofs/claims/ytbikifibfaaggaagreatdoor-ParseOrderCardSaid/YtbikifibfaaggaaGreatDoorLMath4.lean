/- Long names, long numbers, long texts. -/
import Derived.Test.YtbikifibfaaggaaGreatDoorLMath2
namespace Go.Proofs.YtbikifibfaaggaaGreatDoor.Lx

def dec (n : Nat) : Tx := if n < 10 then [UInt8.ofNat (48 + n)] else dec (n / 10) ++ [UInt8.ofNat (48 + n % 10)]
theorem dec_small {n : Nat} (h : n < 10) : dec n = [UInt8.ofNat (48 + n)] := by rw [dec, if_pos h]
theorem dec_great {n : Nat} (h : ¬ n < 10) : dec n = dec (n / 10) ++ dec (n % 10) := by
  rw [dec, if_neg h, dec_small (n := n % 10) (by omega)]
theorem digit_ofNat {n : Nat} (h : n < 10) : digit (UInt8.ofNat (48 + n)) = true ∧ (UInt8.ofNat (48 + n)).toNat = 48 + n := by
  have : (UInt8.ofNat (48 + n)).toNat = 48 + n := by rw [UInt8.toNat_ofNat']; omega
  refine ⟨?_, this⟩
  unfold digit
  rw [this]
  simp; omega
theorem dec_all (n : Nat) : (∀ b ∈ dec n, digit b = true) ∧ dec n ≠ [] ∧ val (dec n) = n ∧ ((dec n).head? = some 48 → n = 0) := by
  induction n using Nat.strongRecOn with
  | ind n ih =>
    by_cases h : n < 10
    · rw [dec_small h]
      obtain ⟨h1, h2⟩ := digit_ofNat h
      refine ⟨fun b hb => by rw [List.mem_singleton.1 hb]; exact h1, by simp, by simp only [val, List.foldl_cons, List.foldl_nil]; rw [h2]; omega, fun hh => ?_⟩
      have e := Option.some.inj (by simpa using hh : some (UInt8.ofNat (48 + n)) = some 48)
      have := congrArg UInt8.toNat e
      rw [h2] at this
      have : (48 : UInt8).toNat = 48 := rfl
      omega
    · obtain ⟨a1, a2, a3, a4⟩ := ih (n / 10) (by omega)
      rw [dec, if_neg h]
      obtain ⟨h1, h2⟩ := digit_ofNat (n := n % 10) (by omega)
      refine ⟨fun b hb => ?_, by simp, ?_, fun hh => ?_⟩
      · rcases List.mem_append.1 hb with hb | hb
        · exact a1 b hb
        · rw [List.mem_singleton.1 hb]; exact h1
      · rw [val_snoc, a3, h2]; omega
      · have hh2 : (dec (n / 10)).head? = some 48 := by
          cases hd : dec (n / 10) with
          | nil => exact absurd hd a2
          | cons x y => rw [hd] at hh; exact hh
        have := a4 hh2
        omega
theorem dec_len : ∀ (k n : Nat), n < 10 ^ (k + 1) → (dec n).length ≤ k + 1
  | 0, n, h => by rw [dec_small (by simpa using h)]; simp
  | k + 1, n, h => by
    by_cases hn : n < 10
    · rw [dec_small hn]; simp
    · rw [dec, if_neg hn, List.length_append]
      have := dec_len k (n / 10) (by rw [Nat.pow_succ] at h; omega)
      simp; omega
theorem dec_len20 {n : Nat} (h : n < 18446744073709551616) : (dec n).length ≤ 20 := dec_len 19 n (by omega)
theorem get_all {p : UInt8 → Bool} {l : Tx} (h : ∀ b ∈ l, p b = true) : ∀ (x : Nat) c, l[x]? = some c → p c = true := fun _ c hx => h c (List.mem_of_getElem? hx)
theorem toks_dec {n : Nat} (h : n < 18446744073709551616) : (9223372036854775807 < n → toks (dec n) = ⟨[], 0, 53⟩) ∧ (¬ 9223372036854775807 < n → toks (dec n) = ⟨[⟨1, dec n, 0⟩], 0, 0⟩) := by
  obtain ⟨a1, a2, a3, a4⟩ := dec_all n
  have hl := dec_len20 h
  have ht : toks (dec n) = scan (dec n) 0 [] := by unfold toks; rw [if_neg (by omega)]
  have hpos := List.length_pos_iff.2 a2
  obtain ⟨b, hb⟩ : ∃ b, (dec n)[0]? = some b := ⟨_, List.getElem?_eq_getElem hpos⟩
  have hwhole : ((dec n).drop 0).take ((dec n).length - 0) = dec n := by simp
  have hr := ref_num (ts := []) (j := (dec n).length) hb (get_all a1 _ _ hb) (Nat.le_refl _) hpos (fun x c _ _ hx => get_all a1 x c hx) (fun c hc => by have := lt_of hc; omega)
  rw [hwhole, a3] at hr
  rw [ht]
  refine ⟨fun hgt => hr.1 hgt, fun hgt => ?_⟩
  rw [hr.2.2 hgt ?_, scan_end (Nat.le_refl _)]
  · simp
  · rintro (⟨c, hc, _⟩ | ⟨h48, h1⟩)
    · have := lt_of hc; omega
    · rw [h48] at hb
      have h0 := a4 (by rw [List.head?_eq_getElem?]; exact hb)
      rw [h0, dec_small (by omega)] at h1
      simp at h1
/-! ### names -/
def xs (k : Nat) : Tx := List.replicate k 120
theorem toks_name {k : Nat} (h1 : 1 ≤ k) (h2 : k ≤ 1000) : (32 < k → toks ([32] ++ xs k) = ⟨[], 1, 53⟩) ∧ (k ≤ 32 → (toks ([32] ++ xs k)).err = 0) := by
  have hlen : ([32] ++ xs k).length = k + 1 := by simp [xs]
  have hlt : toks ([32] ++ xs k) = scan ([32] ++ xs k) 0 [] := by unfold toks; rw [if_neg (by omega)]
  have hb0 : ([32] ++ xs k)[0]? = some 32 := rfl
  have hx : ∀ x, 0 < x → x < k + 1 → ([32] ++ xs k)[x]? = some 120 := fun x h0 h1 => by
    rw [List.getElem?_append_right (by simp; omega)]
    unfold xs
    rw [List.getElem?_replicate, if_pos (by simp; omega)]
  have hs := ref_blank (ts := []) hb0 (by decide)
  have hr := ref_name (ts := []) (j := k + 1) (hx 1 (by omega) (by omega)) (by decide) (by omega) (by omega) (fun x c h3 h4 h5 => by rw [hx x (by omega) h4] at h5; rw [← Option.some.inj h5]; decide) (fun c hc => by have := lt_of hc; omega)
  rw [hlt, hs]
  refine ⟨fun h => hr.2 (by omega), fun h => ?_⟩
  rw [show (0 : Nat) + 1 = 1 from rfl, hr.1 (by omega), scan_end (by omega)]
/-! ### spaces -/
theorem scan_spaces (n : Nat) (acc : List Tok) : ∀ (m f : Nat), f + m = n → scan (List.replicate n 32) f acc = ⟨acc, 0, 0⟩
  | 0, f, h => scan_end (by simp; omega)
  | m + 1, f, h => by
    rw [ref_blank (b := 32) (by rw [List.getElem?_replicate, if_pos (by omega)]) (by decide)]
    exact scan_spaces n acc m (f + 1) (by omega)
theorem toks_spaces (n : Nat) : (4096 < n → (toks (List.replicate n 32)).err = 53) ∧ (n ≤ 4096 → (toks (List.replicate n 32)).err = 0) := by
  unfold toks
  rw [List.length_replicate]
  refine ⟨fun h => by rw [if_pos h], fun h => ?_⟩
  rw [if_neg (by omega), scan_spaces n [] n 0 (by omega)]
end Go.Proofs.YtbikifibfaaggaaGreatDoor.Lx
