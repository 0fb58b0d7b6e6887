/- Plain mathematics: up to three turned bits, in at most 500 bytes, change the checksum: the powers of the polynomial's shift, 4000 of them, differ in pairs by more than the lowest bit. -/
import Derived.Test.YtfkkbpiphcpljaaDoorMath
namespace Go.Proofs.YtfkkbpiphcpljaaDoor.M

/-! ### Shifts -/
def sh : Nat → Nat → Nat
  | 0, c => c
  | n + 1, c => sh n (bit c)
theorem sh_xor : ∀ (n a b : Nat), sh n (a ^^^ b) = sh n a ^^^ sh n b
  | 0, _, _ => rfl
  | n + 1, a, b => by simp only [sh]; rw [bit_xor, sh_xor n]
theorem sh_add : ∀ (n m c : Nat), sh (n + m) c = sh m (sh n c)
  | 0, m, c => by rw [Nat.zero_add]; rfl
  | n + 1, m, c => by rw [show n + 1 + m = (n + m) + 1 by omega]; simp only [sh]; exact sh_add n m _
theorem bit4_sh (c : Nat) : bit4 c = sh 4 c := rfl
theorem byt_sh (c b : Nat) : byt c b = sh 8 (c ^^^ b) := rfl
theorem sh_lt : ∀ (n : Nat) {c : Nat}, c < 4294967296 → sh n c < 4294967296
  | 0, _, h => h
  | n + 1, _, h => sh_lt n (bit_lt h)
theorem bit_zero {c : Nat} (h : c < 4294967296) (hb : bit c = 0) : c = 0 := by
  unfold bit at hb
  have he : c / 2 = c % 2 * 3988292384 := by
    have h1 : (c / 2 ^^^ c % 2 * 3988292384) ^^^ (c % 2 * 3988292384) = 0 ^^^ (c % 2 * 3988292384) := by rw [hb]
    rwa [Nat.xor_assoc, Nat.xor_self, Nat.xor_zero, Nat.zero_xor] at h1
  omega
theorem sh_zero : ∀ (n : Nat) {c : Nat}, c < 4294967296 → sh n c = 0 → c = 0
  | 0, _, _, h => h
  | n + 1, _, hc, h => bit_zero hc (sh_zero n (bit_lt hc) h)
theorem sh_none : ∀ n, sh n 0 = 0
  | 0 => rfl
  | n + 1 => sh_none n
theorem sh_pow : ∀ p, sh p (2 ^ p) = 1
  | 0 => rfl
  | p + 1 => by
    simp only [sh]
    rw [Nat.pow_succ, Nat.mul_comm, bit_even]
    exact sh_pow p
theorem byt_xor (c b d : Nat) : byt c (b ^^^ d) = byt c b ^^^ sh 8 d := by
  rw [byt_sh, byt_sh, ← Nat.xor_assoc, sh_xor]
theorem crun_xor : ∀ (l : List UInt8) (c d : Nat), crun (c ^^^ d) l = crun c l ^^^ sh (8 * l.length) d
  | [], _, _ => rfl
  | b :: l, c, d => by
    have e : crun (c ^^^ d) (b :: l) = crun (byt (c ^^^ d) b.toNat) l := rfl
    have e2 : crun c (b :: l) = crun (byt c b.toNat) l := rfl
    have e3 : byt (c ^^^ d) b.toNat = byt c b.toNat ^^^ sh 8 d := by
      rw [byt_sh, byt_sh, show c ^^^ d ^^^ b.toNat = (c ^^^ b.toNat) ^^^ d by ac_rfl, sh_xor]
    rw [e, e2, e3, crun_xor l, ← sh_add]
    congr 2
    simp; omega

/-! ### A bit turned -/
def flip (l : List UInt8) (p : Nat) : List UInt8 := l.set (p / 8) (l.getD (p / 8) 0 ^^^ UInt8.ofNat (2 ^ (p % 8)))
theorem flip_length (l : List UInt8) (p : Nat) : (flip l p).length = l.length := by simp [flip]
theorem pow_small (p : Nat) : 2 ^ (p % 8) < 256 := by
  have h : p % 8 < 8 := Nat.mod_lt _ (by omega)
  have := Nat.pow_lt_pow_right (a := 2) (by omega) h
  simpa using this
theorem flip_crun : ∀ (l : List UInt8) (c p : Nat), p < 8 * l.length → crun c (flip l p) = crun c l ^^^ sh (8 * l.length - p) 1
  | [], _, _, h => by simp at h
  | b :: l, c, p, h => by
    by_cases hp : p < 8
    · have h0 : p / 8 = 0 := by omega
      have h1 : p % 8 = p := by omega
      have e : flip (b :: l) p = (b ^^^ UInt8.ofNat (2 ^ p)) :: l := by simp [flip, h0, h1]
      have e1 : crun c (flip (b :: l) p) = crun (byt c (b ^^^ UInt8.ofNat (2 ^ p)).toNat) l := by rw [e]; rfl
      have e2 : crun c (b :: l) = crun (byt c b.toNat) l := rfl
      have hs := pow_small p
      rw [h1] at hs
      have e3 : (b ^^^ UInt8.ofNat (2 ^ p)).toNat = b.toNat ^^^ 2 ^ p := by
        rw [UInt8.toNat_xor, UInt8.toNat_ofNat']
        congr 1
        exact Nat.mod_eq_of_lt hs
      have e4 : sh 8 (2 ^ p) = sh (8 - p) 1 := by
        rw [show (8 : Nat) = p + (8 - p) by omega, sh_add, sh_pow]
        congr 1
        omega
      rw [e1, e2, e3, byt_xor, crun_xor, e4, ← sh_add]
      congr 2
      simp; omega
    · have e : flip (b :: l) p = b :: flip l (p - 8) := by
        have h0 : p / 8 = (p - 8) / 8 + 1 := by omega
        have h1 : p % 8 = (p - 8) % 8 := by omega
        unfold flip
        rw [h0, h1]
        rfl
      have e1 : crun c (flip (b :: l) p) = crun (byt c b.toNat) (flip l (p - 8)) := by rw [e]; rfl
      have e2 : crun c (b :: l) = crun (byt c b.toNat) l := rfl
      rw [e1, e2, flip_crun l _ (p - 8) (by simp at h; omega)]
      congr 2
      simp; omega

/-! ### The powers -/
inductive T where
  | e : T
  | n : T → T → T
noncomputable def ins (d : Nat) : Nat → T → (T → Bool) → Bool :=
  Nat.rec (motive := fun _ => Nat → T → (T → Bool) → Bool)
    (fun _ t k => T.casesOn t (k (.n .e .e)) (fun _ _ => false))
    (fun _ ih v t k => T.casesOn t
      (Nat.casesOn (v % 2) (ih (v / 2) .e (fun s => k (.n s .e))) (fun _ => ih (v / 2) .e (fun s => k (.n .e s))))
      (fun l r => Nat.casesOn (v % 2) (ih (v / 2) l (fun s => k (.n s r))) (fun _ => ih (v / 2) r (fun s => k (.n l s)))))
    d
noncomputable def pows (m : Nat) : Nat → T → Bool :=
  Nat.rec (motive := fun _ => Nat → T → Bool) (fun _ _ => true)
    (fun _ ih c t => Nat.casesOn (bit c) false (fun k => ins 31 ((k + 1) / 2) t (fun t' => ih (k + 1) t')))
    m
theorem pows_differ : pows 3999 1 .e = true := by decide +kernel

def mem : Nat → Nat → T → Prop
  | _, _, .e => False
  | 0, _, .n _ _ => True
  | d + 1, v, .n l r => if v % 2 = 0 then mem d (v / 2) l else mem d (v / 2) r
theorem not_mem_e (d v : Nat) : ¬ mem d v .e := by cases d <;> exact fun h => h
theorem mem_n (d v : Nat) (l r : T) : mem (d + 1) v (.n l r) = if v % 2 = 0 then mem d (v / 2) l else mem d (v / 2) r := rfl
theorem half_ne {u v : Nat} (h : u % 2 = v % 2) : u / 2 = v / 2 ↔ u = v := by omega

theorem ins_spec : ∀ (d v : Nat) (t : T) (k : T → Bool), v < 2 ^ d → ins d v t k = true → ¬ mem d v t ∧ ∃ t', k t' = true ∧ ∀ u, u < 2 ^ d → (mem d u t' ↔ mem d u t ∨ u = v)
  | 0, v, .e, k, hv, h => ⟨fun h => h, .n .e .e, h, fun u hu => by simp at hv hu; subst hv; subst hu; simp [mem]⟩
  | 0, v, .n l r, k, hv, h => by cases h
  | d + 1, v, .e, k, hv, h => by
    refine ⟨fun h => h, ?_⟩
    have hv2 : v / 2 < 2 ^ d := by rw [Nat.pow_succ] at hv; omega
    have hstep : ins (d + 1) v .e k = Nat.casesOn (v % 2) (ins d (v / 2) .e (fun s => k (.n s .e))) (fun _ => ins d (v / 2) .e (fun s => k (.n .e s))) := rfl
    rw [hstep] at h
    rcases Nat.mod_two_eq_zero_or_one v with hm | hm
    · rw [hm] at h
      obtain ⟨_, t', hk, hmem⟩ := ins_spec d (v / 2) .e _ hv2 h
      refine ⟨_, hk, fun u hu => ?_⟩
      rw [mem_n]
      by_cases hu2 : u % 2 = 0
      · rw [if_pos hu2, hmem (u / 2) (by rw [Nat.pow_succ] at hu; omega), half_ne (by omega)]
        simp [not_mem_e]
      · rw [if_neg hu2]
        have : u ≠ v := fun e => by subst e; exact hu2 hm
        simp [not_mem_e, this]
    · rw [hm] at h
      obtain ⟨_, t', hk, hmem⟩ := ins_spec d (v / 2) .e _ hv2 h
      refine ⟨_, hk, fun u hu => ?_⟩
      rw [mem_n]
      by_cases hu2 : u % 2 = 0
      · rw [if_pos hu2]
        have : u ≠ v := fun e => by subst e; omega
        simp [not_mem_e, this]
      · rw [if_neg hu2, hmem (u / 2) (by rw [Nat.pow_succ] at hu; omega), half_ne (by omega)]
        simp [not_mem_e]
  | d + 1, v, .n l r, k, hv, h => by
    have hv2 : v / 2 < 2 ^ d := by rw [Nat.pow_succ] at hv; omega
    have hstep : ins (d + 1) v (.n l r) k = Nat.casesOn (v % 2) (ins d (v / 2) l (fun s => k (.n s r))) (fun _ => ins d (v / 2) r (fun s => k (.n l s))) := rfl
    rw [hstep] at h
    rcases Nat.mod_two_eq_zero_or_one v with hm | hm
    · rw [hm] at h
      obtain ⟨hn, t', hk, hmem⟩ := ins_spec d (v / 2) l _ hv2 h
      refine ⟨by rw [mem_n, if_pos hm]; exact hn, _, hk, fun u hu => ?_⟩
      rw [mem_n, mem_n]
      by_cases hu2 : u % 2 = 0
      · rw [if_pos hu2, if_pos hu2, hmem (u / 2) (by rw [Nat.pow_succ] at hu; omega), half_ne (by omega)]
      · rw [if_neg hu2, if_neg hu2]
        have : u ≠ v := fun e => by subst e; exact hu2 hm
        simp [this]
    · rw [hm] at h
      obtain ⟨hn, t', hk, hmem⟩ := ins_spec d (v / 2) r _ hv2 h
      refine ⟨by rw [mem_n, if_neg (by omega)]; exact hn, _, hk, fun u hu => ?_⟩
      rw [mem_n, mem_n]
      by_cases hu2 : u % 2 = 0
      · rw [if_pos hu2, if_pos hu2]
        have : u ≠ v := fun e => by subst e; omega
        simp [this]
      · rw [if_neg hu2, if_neg hu2, hmem (u / 2) (by rw [Nat.pow_succ] at hu; omega), half_ne (by omega)]

theorem pows_spec : ∀ (m c : Nat) (t : T), c < 4294967296 → pows m c t = true →
    (∀ x, 1 ≤ x → x ≤ m → ¬ mem 31 (sh x c / 2) t) ∧ ∀ x y, 1 ≤ x → x < y → y ≤ m → sh x c / 2 ≠ sh y c / 2
  | 0, _, _, _, _ => ⟨fun x h1 h2 => by omega, fun x y h1 h2 h3 => by omega⟩
  | m + 1, c, t, hc, h => by
    have hstep : pows (m + 1) c t = Nat.casesOn (bit c) false (fun k => ins 31 ((k + 1) / 2) t (fun t' => pows m (k + 1) t')) := rfl
    rw [hstep] at h
    have hb := bit_lt hc
    cases hbc : bit c with
    | zero => rw [hbc] at h; cases h
    | succ k =>
      rw [hbc] at h
      rw [hbc] at hb
      obtain ⟨hn, t', hk, hmem⟩ := ins_spec 31 ((k + 1) / 2) t _ (by omega) h
      obtain ⟨i1, i2⟩ := pows_spec m (k + 1) t' hb hk
      have e1 : ∀ x, sh (x + 1) c = sh x (k + 1) := fun x => by simp only [sh]; rw [hbc]
      have hlt : ∀ x, sh x (k + 1) / 2 < 2 ^ 31 := fun x => by have := sh_lt x hb; omega
      refine ⟨fun x h1 h2 => ?_, fun x y h1 h2 h3 => ?_⟩
      · obtain ⟨x', rfl⟩ : ∃ x', x = x' + 1 := ⟨x - 1, by omega⟩
        rw [e1]
        by_cases hx0 : x' = 0
        · subst hx0; exact hn
        · exact fun hm => i1 x' (by omega) (by omega) ((hmem _ (hlt x')).2 (.inl hm))
      · obtain ⟨x', rfl⟩ : ∃ x', x = x' + 1 := ⟨x - 1, by omega⟩
        obtain ⟨y', rfl⟩ : ∃ y', y = y' + 1 := ⟨y - 1, by omega⟩
        rw [e1, e1]
        by_cases hx0 : x' = 0
        · subst hx0
          exact fun he => i1 y' (by omega) (by omega) ((hmem _ (hlt y')).2 (.inr he.symm))
        · exact i2 x' y' (by omega) (by omega) (by omega)

theorem sh_one_ne (n : Nat) : sh n 1 ≠ 0 := fun h => by have := sh_zero n (by omega) h; omega
/-- Three powers do not cancel. -/
theorem three_sorted {a b d : Nat} (_h1 : 1 ≤ a) (h2 : a < b) (h3 : b < d) (h4 : d ≤ 4000) : sh a 1 ^^^ sh b 1 ^^^ sh d 1 ≠ 0 := by
  intro h
  have eb : sh b 1 = sh a (sh (b - a) 1) := by rw [← sh_add]; congr 1; omega
  have ed : sh d 1 = sh a (sh (d - a) 1) := by rw [← sh_add]; congr 1; omega
  rw [eb, ed, ← sh_xor, ← sh_xor] at h
  have hl : ∀ n, sh n 1 < 4294967296 := fun n => sh_lt n (by omega)
  have h0 := sh_zero a (xor_lt32 (xor_lt32 (by omega) (hl _)) (hl _)) h
  have hx : sh (b - a) 1 = 1 ^^^ sh (d - a) 1 := by
    have : (1 ^^^ sh (b - a) 1 ^^^ sh (d - a) 1) ^^^ (1 ^^^ sh (d - a) 1) = 0 ^^^ (1 ^^^ sh (d - a) 1) := by rw [h0]
    rw [Nat.zero_xor] at this
    rw [← this]
    have e : 1 ^^^ sh (b - a) 1 ^^^ sh (d - a) 1 ^^^ (1 ^^^ sh (d - a) 1) = sh (b - a) 1 ^^^ (1 ^^^ 1) ^^^ (sh (d - a) 1 ^^^ sh (d - a) 1) := by ac_rfl
    rw [e]
    simp
  have hd : sh (b - a) 1 / 2 = sh (d - a) 1 / 2 := by
    rw [hx, Nat.xor_div_two]
    simp
  exact (pows_spec 3999 1 .e (by omega) pows_differ).2 (b - a) (d - a) (by omega) (by omega) (by omega) hd
theorem three {a b d : Nat} (ha : 1 ≤ a) (ha' : a ≤ 4000) (hb : 1 ≤ b) (hb' : b ≤ 4000) (hd : 1 ≤ d) (hd' : d ≤ 4000) : sh a 1 ^^^ sh b 1 ^^^ sh d 1 ≠ 0 := by
  by_cases e1 : a = b
  · subst e1; rw [Nat.xor_self, Nat.zero_xor]; exact sh_one_ne d
  by_cases e2 : b = d
  · subst e2; rw [Nat.xor_assoc, Nat.xor_self, Nat.xor_zero]; exact sh_one_ne a
  by_cases e3 : a = d
  · subst e3
    rw [show sh a 1 ^^^ sh b 1 ^^^ sh a 1 = sh b 1 ^^^ (sh a 1 ^^^ sh a 1) by ac_rfl, Nat.xor_self, Nat.xor_zero]; exact sh_one_ne b
  rcases Nat.lt_or_ge a b with h | h <;> rcases Nat.lt_or_ge b d with h' | h' <;> rcases Nat.lt_or_ge a d with h'' | h''
  · exact three_sorted ha h h' hd'
  · omega
  · rw [show sh a 1 ^^^ sh b 1 ^^^ sh d 1 = sh a 1 ^^^ sh d 1 ^^^ sh b 1 by ac_rfl]; exact three_sorted ha h'' (by omega) hb'
  · rw [show sh a 1 ^^^ sh b 1 ^^^ sh d 1 = sh d 1 ^^^ sh a 1 ^^^ sh b 1 by ac_rfl]; exact three_sorted hd (by omega) h hb'
  · rw [show sh a 1 ^^^ sh b 1 ^^^ sh d 1 = sh b 1 ^^^ sh a 1 ^^^ sh d 1 by ac_rfl]; exact three_sorted hb (by omega) h'' hd'
  · rw [show sh a 1 ^^^ sh b 1 ^^^ sh d 1 = sh b 1 ^^^ sh d 1 ^^^ sh a 1 by ac_rfl]; exact three_sorted hb h' (by omega) ha'
  · omega
  · rw [show sh a 1 ^^^ sh b 1 ^^^ sh d 1 = sh d 1 ^^^ sh b 1 ^^^ sh a 1 by ac_rfl]; exact three_sorted hd (by omega) (by omega) ha'

/-! ### What a checksum tells -/
theorem crc_one_eq (l : List UInt8) : crc [l] = 4294967295 ^^^ crun 4294967295 l := rfl
theorem xor_ne {c a x : Nat} (hx : x ≠ 0) : c ^^^ (a ^^^ x) ≠ c ^^^ a := by
  intro h
  have h1 : c ^^^ a ^^^ (c ^^^ (a ^^^ x)) = c ^^^ a ^^^ (c ^^^ a) := by rw [h]
  rw [Nat.xor_self, show c ^^^ a ^^^ (c ^^^ (a ^^^ x)) = x ^^^ (c ^^^ c) ^^^ (a ^^^ a) by ac_rfl, Nat.xor_self, Nat.xor_self, Nat.xor_zero, Nat.xor_zero] at h1
  exact hx h1
theorem crc_flip {l : List UInt8} {p : Nat} (hp : p < 8 * l.length) : crc [flip l p] ≠ crc [l] := by
  rw [crc_one_eq, crc_one_eq, flip_crun l _ p hp]
  exact xor_ne (sh_one_ne _)
theorem crc_flips {l : List UInt8} {p q r : Nat} (hl : l.length ≤ 500) (hp : p < 8 * l.length) (hq : q < 8 * l.length) (hr : r < 8 * l.length) : crc [flip (flip (flip l p) q) r] ≠ crc [l] := by
  rw [crc_one_eq, crc_one_eq, flip_crun _ _ r (by rw [flip_length, flip_length]; exact hr), flip_crun _ _ q (by rw [flip_length]; exact hq), flip_crun l _ p hp]
  simp only [flip_length]
  rw [show ∀ a b c d : Nat, a ^^^ b ^^^ c ^^^ d = a ^^^ (b ^^^ c ^^^ d) from fun a b c d => by ac_rfl]
  exact xor_ne (three (by omega) (by omega) (by omega) (by omega) (by omega) (by omega))
end Go.Proofs.YtfkkbpiphcpljaaDoor.M
