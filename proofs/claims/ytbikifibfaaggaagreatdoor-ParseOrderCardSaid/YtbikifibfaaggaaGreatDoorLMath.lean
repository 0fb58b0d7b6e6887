/- Tokens, as mathematics: how a text falls into pieces, and what each piece is. -/
import Derived.Lib.Bytealg
import Derived.Lib.SlTrimSet
import Derived.Lib.ParseIntBTie
namespace Go.Proofs.YtbikifibfaaggaaGreatDoor.Lx
abbrev Tx := List UInt8

def blank (b : UInt8) : Bool := b == 32 || (b == 9 || (b == 13 || b == 10))
def digit (b : UInt8) : Bool := decide (48 ≤ b.toNat) && decide (b.toNat ≤ 57)
def letter (b : UInt8) : Bool := b == 95 || ((decide (97 ≤ b.toNat) && decide (b.toNat ≤ 122)) || (decide (65 ≤ b.toNat) && decide (b.toNat ≤ 90)))
def inWord (b : UInt8) : Bool := letter b || digit b
def ops2 : List Tx := [[61, 61], [33, 61], [60, 61], [62, 61], [38, 38], [124, 124]]
def ops1 : Tx := [61, 60, 62, 43, 45, 42, 47, 37, 38, 33, 40, 41, 123, 125, 91, 93, 44, 59]
def isOp (p : Tx) : Bool := ops2.contains p || (match p with | [b] => ops1.contains b | _ => false)
/-- How long the piece is with which a text begins. -/
def pieceLen : Tx → Nat
  | [] => 0
  | b :: t => if b == 35 then 1 + (t.takeWhile (· != 10)).length else if inWord b then 1 + (t.takeWhile inWord).length else match t with | [] => 1 | c :: _ => if isOp [b, c] then 2 else 1
theorem pl_cons (b : UInt8) (t : Tx) : pieceLen (b :: t) = if b == 35 then 1 + (t.takeWhile (· != 10)).length else if inWord b then 1 + (t.takeWhile inWord).length else match t with | [] => 1 | c :: _ => if isOp [b, c] then 2 else 1 := rfl
theorem pieceLen_pos {l : Tx} (h : l ≠ []) : 1 ≤ pieceLen l := by
  match l, h with
  | b :: t, _ =>
    rw [pl_cons]
    by_cases hb : (b == 35) = true
    · rw [if_pos hb]; omega
    · rw [if_neg hb]
      by_cases hw : inWord b = true
      · rw [if_pos hw]; omega
      · rw [if_neg hw]
        cases t with
        | nil => simp
        | cons c t => simp only; split <;> omega
theorem pieceLen_le (l : Tx) : pieceLen l ≤ l.length := by
  match l with
  | [] => simp [pieceLen]
  | b :: t =>
    rw [pl_cons]
    by_cases hb : (b == 35) = true
    · rw [if_pos hb]
      have := (List.takeWhile_prefix (l := t) (· != 10)).length_le; simp only [List.length_cons]; omega
    · rw [if_neg hb]
      by_cases hw : inWord b = true
      · rw [if_pos hw]
        have := (List.takeWhile_prefix (l := t) inWord).length_le; simp only [List.length_cons]; omega
      · rw [if_neg hw]
        cases t with
        | nil => simp
        | cons c t => simp only; split <;> simp
def val (ds : Tx) : Nat := ds.foldl (fun a b => 10 * a + (b.toNat - 48)) 0
theorem val_snoc (l : Tx) (b : UInt8) : val (l ++ [b]) = 10 * val l + (b.toNat - 48) := by simp [val]
/-- What is wrong with a piece that begins with a digit. -/
def num (p : Tx) : Nat :=
  if 9223372036854775807 < val (p.takeWhile digit) then 53 else if (p.takeWhile digit).length < p.length ∨ (p.head? = some 48 ∧ 1 < (p.takeWhile digit).length) then 50 else 0
/-- The kind of a piece (none: not a token), and what is wrong with it. -/
def judge : Tx → Option Nat × Nat
  | [] => (none, 0)
  | b :: t => if b == 35 || blank b then (none, 0) else if digit b then (some 1, num (b :: t)) else if letter b then (some 0, if 32 < (b :: t).length then 53 else 0) else if isOp (b :: t) then (some 2, 0) else (none, 50)
structure Tok where
  kind : Nat
  text : Tx
  at_ : Nat
  deriving DecidableEq
structure Out where
  toks : List Tok
  pos : Nat
  err : Nat
def addTok (acc : List Tok) (k : Option Nat) (p : Tx) (f : Nat) : List Tok := match k with | none => acc | some k => acc ++ [⟨k, p, f⟩]
/-- The piece at f. -/
def pc (s : Tx) (f : Nat) : Tx := (s.drop f).take (pieceLen (s.drop f))
theorem drop_ne {s : Tx} {f : Nat} (h : f < s.length) : s.drop f ≠ [] := by
  intro h0
  have := congrArg List.length h0
  simp at this; omega
def scan (s : Tx) (f : Nat) (acc : List Tok) : Out :=
  if _h : f < s.length then
    if (judge (pc s f)).2 = 0 then scan s (f + pieceLen (s.drop f)) (addTok acc (judge (pc s f)).1 (pc s f) f) else ⟨[], f, (judge (pc s f)).2⟩
  else ⟨acc, 0, 0⟩
termination_by s.length - f
decreasing_by
  have := pieceLen_pos (drop_ne _h)
  omega
def toks (s : Tx) : Out := if 4096 < s.length then ⟨[], 0, 53⟩ else scan s 0 []
theorem scan_end {s : Tx} {f : Nat} {acc : List Tok} (h : s.length ≤ f) : scan s f acc = ⟨acc, 0, 0⟩ := by
  rw [scan, dif_neg (by omega)]
theorem scan_step {s p : Tx} {f m : Nat} {acc : List Tok} {k : Option Nat} (h : f < s.length) (hm : pieceLen (s.drop f) = m) (hp : (s.drop f).take m = p) (hj : judge p = (k, 0)) : scan s f acc = scan s (f + m) (addTok acc k p f) := by
  have hpc : pc s f = p := by unfold pc; rw [hm, hp]
  rw [scan, dif_pos h, hpc, hj, hm, if_pos rfl]
theorem scan_err {s p : Tx} {f m e : Nat} {acc : List Tok} {k : Option Nat} (h : f < s.length) (hm : pieceLen (s.drop f) = m) (hp : (s.drop f).take m = p) (hj : judge p = (k, e)) (he : e ≠ 0) : scan s f acc = ⟨[], f, e⟩ := by
  have hpc : pc s f = p := by unfold pc; rw [hm, hp]
  rw [scan, dif_pos h, hpc, hj, if_neg he]

/-! ### Pieces, byte by byte -/
theorem takeWhile_len {p : UInt8 → Bool} : ∀ {t : Tx} {k : Nat}, (∀ i (h : i < t.length), i < k → p t[i] = true) → k ≤ t.length → (∀ (h : k < t.length), p t[k] = false) → (t.takeWhile p).length = k
  | [], k, _, h, _ => by simp at h; simp [h]
  | b :: t, 0, _, _, h => by
    have := h (by simp)
    simp at this
    simp [this]
  | b :: t, k + 1, h1, h2, h3 => by
    have hb := h1 0 (by simp) (by omega)
    simp at hb
    have ih := takeWhile_len (p := p) (t := t) (k := k) (fun i h hk => by have := h1 (i + 1) (by simp; omega) (by omega); simpa using this) (by simpa using h2) (fun h => by have := h3 (by simp; omega); simpa using this)
    simp [hb, ih]
/-- Does the byte at j of l belong to the piece that the bytes ahead of it are? -/
def joinAt (l : Tx) (j : Nat) : Bool :=
  match l[0]?, l[j]? with
  | some b, some c => if b == 35 then c != 10 else if inWord b then inWord c else isOp (l.take (j + 1))
  | _, _ => false
/-- Does c, at the end of l, belong to the piece that begins with b? -/
def joinB (b c : UInt8) (l : Tx) : Bool := if b == 35 then c != 10 else if inWord b then inWord c else isOp l
theorem isOp_three {a b c : UInt8} {t : Tx} : isOp (a :: b :: c :: t) = false := by
  simp [isOp, ops2]
theorem piece_of_run {l : Tx} {j : Nat} (hl : j < l.length) (h1 : ∀ i, 1 ≤ i → i ≤ j → joinAt l i = true) (h2 : j + 1 < l.length → joinAt l (j + 1) = false) : pieceLen l = j + 1 := by
  match l, hl with
  | b :: t, hl =>
    have hl' : j ≤ t.length := by simp at hl; omega
    have jn : ∀ i (h : i < t.length), joinAt (b :: t) (i + 1) = (if b == 35 then t[i] != 10 else if inWord b then inWord t[i] else isOp ((b :: t).take (i + 2))) := fun i h => by
      simp [joinAt, h]
    rw [pl_cons]
    by_cases hb : (b == 35) = true
    · rw [if_pos hb]
      rw [takeWhile_len (k := j) (fun i h hi => by have := h1 (i + 1) (by omega) (by omega); rwa [jn i h, if_pos hb] at this) hl' (fun h => by have := h2 (by simp; omega); rwa [jn j h, if_pos hb] at this)]
      omega
    · rw [if_neg hb]
      by_cases hw : inWord b = true
      · rw [if_pos hw]
        rw [takeWhile_len (k := j) (fun i h hi => by have := h1 (i + 1) (by omega) (by omega); rwa [jn i h, if_neg hb, if_pos hw] at this) hl' (fun h => by have := h2 (by simp; omega); rwa [jn j h, if_neg hb, if_pos hw] at this)]
        omega
      · rw [if_neg hw]
        cases t with
        | nil => simp at hl'; subst hl'; rfl
        | cons c t =>
          simp only
          have j0 := jn 0 (by simp)
          rw [if_neg hb, if_neg hw] at j0
          simp at j0
          match j, hl', h1, h2 with
          | 0, _, _, h2 =>
            have := h2 (by simp)
            rw [j0] at this
            rw [if_neg (by rw [this]; simp)]
          | 1, _, h1, _ =>
            have := h1 1 (by omega) (by omega)
            rw [j0] at this
            rw [if_pos this]
          | j + 2, hl', h1, _ =>
            exfalso
            have := h1 2 (by omega) (by omega)
            have hj1 := jn 1 (by simp at hl' ⊢; omega)
            rw [if_neg hb, if_neg hw] at hj1
            rw [hj1] at this
            cases t with
            | nil => simp at hl'
            | cons d t => simp [isOp_three] at this

theorem joinAt_eq {l : Tx} {j : Nat} {b c : UInt8} (h0 : l[0]? = some b) (hj : l[j]? = some c) : joinAt l j = joinB b c (l.take (j + 1)) := by
  unfold joinAt
  rw [h0, hj]
  rfl
theorem isOp_or (l : Tx) : isOp l = (l == [61, 61] || l == [33, 61] || l == [60, 61] || l == [62, 61] || l == [38, 38] || l == [124, 124] || l == [61] || l == [60] || l == [62] || l == [43] || l == [45] || l == [42] || l == [47] || l == [37] || l == [38] || l == [33] || l == [40] || l == [41] || l == [123] || l == [125] || l == [91] || l == [93] || l == [44] || l == [59]) := by
  match l with
  | [] => rfl
  | [b] => rw [Bool.eq_iff_iff]; simp [isOp, ops2, ops1, or_assoc]
  | [b, c] => rw [Bool.eq_iff_iff]; simp [isOp, ops2, or_assoc]
  | a :: b :: c :: t => simp [isOp, ops2]

/-! ### Numbers -/
theorem val_cons_le (a : Nat) : ∀ (l : Tx), a ≤ l.foldl (fun a b => 10 * a + (b.toNat - 48)) a
  | [] => Nat.le_refl _
  | b :: l => by
    have := val_cons_le (10 * a + (b.toNat - 48)) l
    simp only [List.foldl_cons]
    omega
theorem parse_digits : ∀ (l : Tx) (acc : Nat), (∀ b ∈ l, digit b = true) → acc < 18446744073709551616 →
    Lib.parseUint10 acc l = if l.foldl (fun a b => 10 * a + (b.toNat - 48)) acc < 18446744073709551616 then .ok (l.foldl (fun a b => 10 * a + (b.toNat - 48)) acc) else .range
  | [], acc, _, h => by simp [Lib.parseUint10, h]
  | b :: l, acc, hd, h => by
    have hb := hd b (by simp)
    unfold digit at hb
    simp at hb
    have hle := val_cons_le (10 * acc + (b.toNat - 48)) l
    rw [Lib.parseUint10, if_pos hb, List.foldl_cons]
    by_cases h1 : 1844674407370955162 ≤ acc
    · rw [if_pos h1, if_neg (by omega)]
    · rw [if_neg h1]
      by_cases h2 : 18446744073709551616 ≤ acc * 10 + (b.toNat - 48)
      · rw [if_pos h2, if_neg (by omega)]
      · rw [if_neg h2, show acc * 10 + (b.toNat - 48) = 10 * acc + (b.toNat - 48) by omega]
        exact parse_digits l _ (fun b hb => hd b (by simp [hb])) (by omega)
theorem parse_ok {l : Tx} (h0 : l ≠ []) (hd : ∀ b ∈ l, digit b = true) (hv : val l ≤ 9223372036854775807) : Lib.parseIntB 64 l = .ok ((val l : Nat) : Int) := by
  rw [Lib.parseIntB_64]
  match l, h0 with
  | c :: r, _ =>
    have hc := hd c (by simp)
    unfold digit at hc
    simp at hc
    have e := parse_digits (c :: r) 0 hd (by omega)
    have hm : Lib.parseMag (c :: r) = .ok (val (c :: r)) := by
      unfold Lib.parseMag
      rw [if_neg (by simp), e, if_pos (by unfold val at hv; omega)]
      rfl
    unfold Lib.atoiAll
    simp only
    rw [if_neg (by omega), hm]
    simp only
    rw [if_neg (by omega), if_neg (by omega), if_neg (by omega)]
theorem parse_range {l : Tx} (hd : ∀ b ∈ l, digit b = true) (hv : 9223372036854775807 < val l) : Lib.parseIntB 64 l = .range := by
  rw [Lib.parseIntB_64]
  match l, hd, hv with
  | [], _, hv => simp [val] at hv
  | c :: r, hd, hv =>
    have hc := hd c (by simp)
    unfold digit at hc
    simp at hc
    have e := parse_digits (c :: r) 0 hd (by omega)
    unfold Lib.atoiAll
    simp only
    rw [if_neg (by omega)]
    unfold Lib.parseMag
    rw [if_neg (by simp), e]
    by_cases h2 : (c :: r).foldl (fun a b => 10 * a + (b.toNat - 48)) 0 < 18446744073709551616
    · rw [if_pos h2]
      simp only
      rw [if_pos (by unfold val at hv; omega)]
    · rw [if_neg h2]
theorem digits_contains (b : UInt8) : ([48, 49, 50, 51, 52, 53, 54, 55, 56, 57] : Tx).contains b = digit b := by
  rw [Bool.eq_iff_iff]
  simp [digit, ← UInt8.toNat_inj]
  omega
theorem trim_left (p : Tx) : Lib.trimLeftS p [48, 49, 50, 51, 52, 53, 54, 55, 56, 57] = p.dropWhile digit := by
  unfold Lib.trimLeftS
  congr 1
  funext b
  exact digits_contains b
theorem trim_suffix (p : Tx) : Lib.trimSuffix p (p.dropWhile digit) = p.takeWhile digit := by
  have h := List.takeWhile_append_dropWhile (p := digit) (l := p)
  unfold Lib.trimSuffix
  have hs : Lib.hasSuffix p (p.dropWhile digit) = true := by
    unfold Lib.hasSuffix
    rw [List.isSuffixOf_iff_suffix]
    exact ⟨_, h⟩
  rw [if_pos hs]
  have hq : ∀ q r : Tx, (q ++ r).take ((q ++ r).length - r.length) = q := fun q r => by simp
  have := hq (p.takeWhile digit) (p.dropWhile digit)
  rwa [h] at this
theorem takeWhile_all (p : Tx) : ∀ b ∈ p.takeWhile digit, digit b = true := fun b hb => by
  have := List.all_takeWhile (p := digit) (l := p)
  exact List.all_eq_true.1 this b hb
end Go.Proofs.YtbikifibfaaggaaGreatDoor.Lx
