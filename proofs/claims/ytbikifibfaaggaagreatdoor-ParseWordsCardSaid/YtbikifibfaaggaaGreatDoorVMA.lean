import Derived.Test.YtbikifibfaaggaaGreatDoorChecked
import Derived.WalkKit
import Derived.ProofKit
import Derived.Below
import Derived.OneCell
import Derived.OwnWalk
import Derived.Laws.BitsAllLaws
import Derived.Lib.Hide
import Derived.Outline
import Derived.Deep.QuietTactic
import Derived.BigQuiet
import Derived.Lib.AppendStr
import Derived.WalkSpells
import Derived.WalkLawsBesides
import Derived.Lib.Bytealg
import Derived.Lib.SlTrimSet
import Derived.Lib.ParseIntBTie
namespace Go.Proofs.YtbikifibfaaggaaGreatDoor
section
/- Words for memory, of no package: what a call leaves alone; a slice that reads as bytes; rows of cells. -/
open Go.RowKit

/-- Of what was there, the blocks of S alone may have turned. -/
structure Keeps (S : List Nat) (w w' : World) : Prop where
  os : w'.os = w.os
  tape : w'.tape = w.tape
  output : w'.output = w.output
  size : w.heap.size ≤ w'.heap.size
  block : ∀ k, k < w.heap.size → k ∉ S → w'.heap[k]? = w.heap[k]?

namespace Keeps
variable {S T : List Nat} {a b c w w' : World}
theorem refl (S : List Nat) (w : World) : Keeps S w w := ⟨rfl, rfl, rfl, Nat.le_refl _, fun _ _ _ => rfl⟩
theorem trans (h : Keeps S a b) (k : Keeps T b c) (hs : ∀ i, i ∈ T → i < a.heap.size → i ∈ S) : Keeps S a c :=
  ⟨k.os.trans h.os, k.tape.trans h.tape, k.output.trans h.output, Nat.le_trans h.size k.size, fun i hi hn =>
    (k.block i (Nat.lt_of_lt_of_le hi h.size) (fun hT => hn (hs i hT hi))).trans (h.block i hi hn)⟩
theorem mono (h : Keeps S a b) (hs : ∀ i, i ∈ S → i < a.heap.size → i ∈ T) : Keeps T a b :=
  ⟨h.os, h.tape, h.output, h.size, fun i hi hn => h.block i hi (fun hS => hn (hs i hS hi))⟩
theorem drew (h : Keeps S a w) : Keeps S a w.drew := ⟨h.os, h.tape, h.output, h.size, h.block⟩
theorem of_below (h : Below w.heap.size w w') (S : List Nat) : Keeps S w w' := ⟨h.os, h.tape, h.output, h.size, fun k hk _ => h.block k hk⟩
theorem of_grown {row : Option Nat} (h : w.grownBy w' row) : Keeps row.toList w w' :=
  ⟨h.os, h.tape, h.output, h.size, fun k hk hn => h.block k hk (fun e => hn (by rw [← e]; simp))⟩
theorem alloc (h : Keeps S a w) (o : Obj) : Keeps S a (w.alloc o) :=
  h.trans (of_below ((Below.refl _ _).alloc (Nat.le_refl _) o) []) (fun _ h => by cases h)
theorem setCell (h : Keeps S a w) {p : Addr} (hp : p.block < a.heap.size → p.block ∈ S) (u : Value) : Keeps S a (w.setCell p u) :=
  h.trans (T := [p.block]) ⟨rfl, rfl, rfl, by simp [World.setCell], fun k _ hn => Below.heap_setCell _ _ _ _ (by simpa using hn)⟩
    (fun i hi hl => by obtain rfl : i = p.block := by simpa using hi
                       exact hp hl)
theorem below {B : Nat} (h : Keeps S a b) (hs : ∀ i, i ∈ S → B ≤ i) (hB : B ≤ a.heap.size) : Below B a b :=
  ⟨h.os, h.tape, h.output, h.size, fun k hk => h.block k (by omega) (fun hm => by have := hs k hm; omega)⟩
theorem cell (h : Keeps S w w') {p : Addr} (hp : p.block < w.heap.size) (hn : p.block ∉ S) : w'.cell? p = w.cell? p := World.cell?_of_block (w := w) (h.block _ hp hn)
theorem cell_some (h : Keeps S w w') {p : Addr} {v : Value} (hc : w.cell? p = some v) (hn : p.block ∉ S) : w'.cell? p = some v :=
  (h.cell (World.block_lt_of_cell? w p hc) hn).trans hc
end Keeps

theorem block_lt {w : World} {g : Nat} {o : Obj} (h : w.heap[g]? = some o) : g < w.heap.size := (Array.getElem?_eq_some_iff.1 h).1
theorem block_keep {S : List Nat} {w w' : World} {g : Nat} {o : Obj} (h : w.heap[g]? = some o) (hk : Keeps S w w') (hn : g ∉ S) : w'.heap[g]? = some o :=
  (hk.block g (block_lt h) hn).trans h
theorem owned_keep {S : List Nat} {w w' : World} {base : Nat} {e : TypeId} {size n : Nat} {v : Value} {xs : List Value} (h : w.ownsRow base e size v n xs) (hk : Keeps S w w') (hn : ∀ g, v.ownBlock = some g → g ∉ S) :
    w'.ownsRow base e size v n xs := by
  refine ⟨h.1, ?_⟩
  rcases h.2 with h2 | ⟨g, cap, cur, rfl, hb, hg, rest⟩
  · exact .inl h2
  · exact .inr ⟨g, cap, cur, rfl, hb, block_keep hg hk (hn g rfl), rest⟩




theorem row_free {w : World} {b : Nat} {cs : Array Value} {t : TypeId} (h : w.heap[b]? = some (.cells cs t (0, 0))) (i : Nat) : w.frozen? ⟨b, i, none⟩ = false := by simp [World.frozen?, h]
theorem row_cell {w : World} {b : Nat} {cs : Array Value} {t : TypeId} (h : w.heap[b]? = some (.cells cs t (0, 0))) (i : Nat) : w.cell? ⟨b, i, none⟩ = cs[i]? := cell_of_row _ _ _ _ _ _ h
theorem row_set {w : World} {b : Nat} {cs : Array Value} {t : TypeId} (h : w.heap[b]? = some (.cells cs t (0, 0))) (j : Nat) (u : Value) : (w.setCell ⟨b, j, none⟩ u).heap[b]? = some (.cells (cs.setIfInBounds j u) t (0, 0)) := by
  simp [World.setCell, Array.getElem?_modify, h]
theorem Keeps.drewN {S : List Nat} {a w : World} (h : Keeps S a w) : ∀ (n : Nat), Keeps S a (w.drewN n)
  | 0 => h
  | n + 1 => (Keeps.drewN h n).drew



/-! ### b[:n:n] of a slice of bytes -/
end
end Go.Proofs.YtbikifibfaaggaaGreatDoor
namespace Go.Proofs.YtbikifibfaaggaaGreatDoor.Lx
abbrev Tx := List UInt8
def blank (b : UInt8) : Bool := b == 32 || (b == 9 || (b == 13 || b == 10))
def digit (b : UInt8) : Bool := decide (48 ≤ b.toNat) && decide (b.toNat ≤ 57)
def letter (b : UInt8) : Bool := b == 95 || ((decide (97 ≤ b.toNat) && decide (b.toNat ≤ 122)) || (decide (65 ≤ b.toNat) && decide (b.toNat ≤ 90)))
def inWord (b : UInt8) : Bool := letter b || digit b
def ops2 : List Tx := [[61, 61], [33, 61], [60, 61], [62, 61], [38, 38], [124, 124]]
def ops1 : Tx := [61, 60, 62, 43, 45, 42, 47, 37, 38, 33, 40, 41, 123, 125, 91, 93, 44, 59]
def isOp (p : Tx) : Bool := ops2.contains p || (match p with | [b] => ops1.contains b | _ => false)
def pieceLen : Tx → Nat
 | [] => 0
 | b :: t => if b == 35 then 1 + (t.takeWhile (· != 10)).length else if inWord b then 1 + (t.takeWhile inWord).length else match t with | [] => 1 | c :: _ => if isOp [b, c] then 2 else 1
theorem pl_cons (b : UInt8) (t : Tx) : pieceLen (b :: t) = if b == 35 then 1 + (t.takeWhile (· != 10)).length else if inWord b then 1 + (t.takeWhile inWord).length else match t with | [] => 1 | c :: _ => if isOp [b, c] then 2 else 1 := rfl
theorem pieceLen_pos {l : Tx} (h : l ≠ []) : 1 ≤ pieceLen l := by
 match l, h with
 | b :: t, _ =>
  rw [pl_cons]
  by_cases hb : (b == 35) = true
  · rw [if_pos hb]; omega
  ·
   rw [if_neg hb]
   by_cases hw : inWord b = true
   · rw [if_pos hw]; omega
   ·
    rw [if_neg hw]
    cases t with
    | nil => simp
    | cons c t => simp only; split <;> omega
theorem pieceLen_le (l : Tx) : pieceLen l ≤ l.length := by
 match l with
 | [] => simp [pieceLen]
 | b :: t =>
  rw [pl_cons]
  by_cases hb : (b == 35) = true
  ·
   rw [if_pos hb]
   have := (List.takeWhile_prefix (l := t) (· != 10)).length_le; simp only [List.length_cons]; omega
  ·
   rw [if_neg hb]
   by_cases hw : inWord b = true
   ·
    rw [if_pos hw]
    have := (List.takeWhile_prefix (l := t) inWord).length_le; simp only [List.length_cons]; omega
   ·
    rw [if_neg hw]
    cases t with
    | nil => simp
    | cons c t => simp only; split <;> simp
def val (ds : Tx) : Nat := ds.foldl (fun a b => 10 * a + (b.toNat - 48)) 0
theorem val_snoc (l : Tx) (b : UInt8) : val (l ++ [b]) = 10 * val l + (b.toNat - 48) := by simp [val]
def num (p : Tx) : Nat :=
 if 9223372036854775807 < val (p.takeWhile digit) then 53 else if (p.takeWhile digit).length < p.length ∨ (p.head? = some 48 ∧ 1 < (p.takeWhile digit).length) then 50 else 0
def judge : Tx → Option Nat × Nat
 | [] => (none, 0)
 | b :: t => if b == 35 || blank b then (none, 0) else if digit b then (some 1, num (b :: t)) else if letter b then (some 0, if 32 < (b :: t).length then 53 else 0) else if isOp (b :: t) then (some 2, 0) else (none, 50)
structure Tok where
 kind : Nat
 text : Tx
 at_ : Nat
 deriving DecidableEq
structure Out where
 toks : List Tok
 pos : Nat
 err : Nat
def addTok (acc : List Tok) (k : Option Nat) (p : Tx) (f : Nat) : List Tok := match k with | none => acc | some k => acc ++ [⟨k, p, f⟩]
def pc (s : Tx) (f : Nat) : Tx := (s.drop f).take (pieceLen (s.drop f))
theorem drop_ne {s : Tx} {f : Nat} (h : f < s.length) : s.drop f ≠ [] := by
 intro h0
 have := congrArg List.length h0
 simp at this; omega
def scan (s : Tx) (f : Nat) (acc : List Tok) : Out :=
 if _h : f < s.length then
  if (judge (pc s f)).2 = 0 then scan s (f + pieceLen (s.drop f)) (addTok acc (judge (pc s f)).1 (pc s f) f) else ⟨[], f, (judge (pc s f)).2⟩
 else ⟨acc, 0, 0⟩
termination_by s.length - f
decreasing_by
 have := pieceLen_pos (drop_ne _h)
 omega
def toks (s : Tx) : Out := if 4096 < s.length then ⟨[], 0, 53⟩ else scan s 0 []
theorem scan_end {s : Tx} {f : Nat} {acc : List Tok} (h : s.length ≤ f) : scan s f acc = ⟨acc, 0, 0⟩ := by
 rw [scan, dif_neg (by omega)]
theorem scan_step {s p : Tx} {f m : Nat} {acc : List Tok} {k : Option Nat} (h : f < s.length) (hm : pieceLen (s.drop f) = m) (hp : (s.drop f).take m = p) (hj : judge p = (k, 0)) : scan s f acc = scan s (f + m) (addTok acc k p f) := by
 have hpc : pc s f = p := by unfold pc; rw [hm, hp]
 rw [scan, dif_pos h, hpc, hj, hm, if_pos rfl]
theorem scan_err {s p : Tx} {f m e : Nat} {acc : List Tok} {k : Option Nat} (h : f < s.length) (hm : pieceLen (s.drop f) = m) (hp : (s.drop f).take m = p) (hj : judge p = (k, e)) (he : e ≠ 0) : scan s f acc = ⟨[], f, e⟩ := by
 have hpc : pc s f = p := by unfold pc; rw [hm, hp]
 rw [scan, dif_pos h, hpc, hj, if_neg he]
theorem takeWhile_len {p : UInt8 → Bool} : ∀ {t : Tx} {k : Nat}, (∀ i (h : i < t.length), i < k → p t[i] = true) → k ≤ t.length → (∀ (h : k < t.length), p t[k] = false) → (t.takeWhile p).length = k
 | [], k, _, h, _ => by simp at h; simp [h]
 | b :: t, 0, _, _, h => by
  have := h (by simp)
  simp at this
  simp [this]
 | b :: t, k + 1, h1, h2, h3 => by
  have hb := h1 0 (by simp) (by omega)
  simp at hb
  have ih := takeWhile_len (p := p) (t := t) (k := k) (fun i h hk => by have := h1 (i + 1) (by simp; omega) (by omega); simpa using this) (by simpa using h2) (fun h => by have := h3 (by simp; omega); simpa using this)
  simp [hb, ih]
def joinAt (l : Tx) (j : Nat) : Bool :=
 match l[0]?, l[j]? with
 | some b, some c => if b == 35 then c != 10 else if inWord b then inWord c else isOp (l.take (j + 1))
 | _, _ => false
def joinB (b c : UInt8) (l : Tx) : Bool := if b == 35 then c != 10 else if inWord b then inWord c else isOp l
theorem isOp_three {a b c : UInt8} {t : Tx} : isOp (a :: b :: c :: t) = false := by
 simp [isOp, ops2]
theorem piece_of_run {l : Tx} {j : Nat} (hl : j < l.length) (h1 : ∀ i, 1 ≤ i → i ≤ j → joinAt l i = true) (h2 : j + 1 < l.length → joinAt l (j + 1) = false) : pieceLen l = j + 1 := by
 match l, hl with
 | b :: t, hl =>
  have hl' : j ≤ t.length := by simp at hl; omega
  have jn : ∀ i (h : i < t.length), joinAt (b :: t) (i + 1) = (if b == 35 then t[i] != 10 else if inWord b then inWord t[i] else isOp ((b :: t).take (i + 2))) := fun i h => by
   simp [joinAt, h]
  rw [pl_cons]
  by_cases hb : (b == 35) = true
  ·
   rw [if_pos hb]
   rw [takeWhile_len (k := j) (fun i h hi => by have := h1 (i + 1) (by omega) (by omega); rwa [jn i h, if_pos hb] at this) hl' (fun h => by have := h2 (by simp; omega); rwa [jn j h, if_pos hb] at this)]
   omega
  ·
   rw [if_neg hb]
   by_cases hw : inWord b = true
   ·
    rw [if_pos hw]
    rw [takeWhile_len (k := j) (fun i h hi => by have := h1 (i + 1) (by omega) (by omega); rwa [jn i h, if_neg hb, if_pos hw] at this) hl' (fun h => by have := h2 (by simp; omega); rwa [jn j h, if_neg hb, if_pos hw] at this)]
    omega
   ·
    rw [if_neg hw]
    cases t with
    | nil => simp at hl'; subst hl'; rfl
    | cons c t =>
     simp only
     have j0 := jn 0 (by simp)
     rw [if_neg hb, if_neg hw] at j0
     simp at j0
     match j, hl', h1, h2 with
     | 0, _, _, h2 =>
      have := h2 (by simp)
      rw [j0] at this
      rw [if_neg (by rw [this]; simp)]
     | 1, _, h1, _ =>
      have := h1 1 (by omega) (by omega)
      rw [j0] at this
      rw [if_pos this]
     | j + 2, hl', h1, _ =>
      exfalso
      have := h1 2 (by omega) (by omega)
      have hj1 := jn 1 (by simp at hl' ⊢; omega)
      rw [if_neg hb, if_neg hw] at hj1
      rw [hj1] at this
      cases t with
      | nil => simp at hl'
      | cons d t => simp [isOp_three] at this
theorem joinAt_eq {l : Tx} {j : Nat} {b c : UInt8} (h0 : l[0]? = some b) (hj : l[j]? = some c) : joinAt l j = joinB b c (l.take (j + 1)) := by
 unfold joinAt
 rw [h0, hj]
 rfl
theorem isOp_or (l : Tx) : isOp l = (l == [61, 61] || l == [33, 61] || l == [60, 61] || l == [62, 61] || l == [38, 38] || l == [124, 124] || l == [61] || l == [60] || l == [62] || l == [43] || l == [45] || l == [42] || l == [47] || l == [37] || l == [38] || l == [33] || l == [40] || l == [41] || l == [123] || l == [125] || l == [91] || l == [93] || l == [44] || l == [59]) := by
 match l with
 | [] => rfl
 | [b] => rw [Bool.eq_iff_iff]; simp [isOp, ops2, ops1, or_assoc]
 | [b, c] => rw [Bool.eq_iff_iff]; simp [isOp, ops2, or_assoc]
 | a :: b :: c :: t => simp [isOp, ops2]
theorem val_cons_le (a : Nat) : ∀ (l : Tx), a ≤ l.foldl (fun a b => 10 * a + (b.toNat - 48)) a
 | [] => Nat.le_refl _
 | b :: l => by
  have := val_cons_le (10 * a + (b.toNat - 48)) l
  simp only [List.foldl_cons]
  omega
theorem parse_digits : ∀ (l : Tx) (acc : Nat), (∀ b ∈ l, digit b = true) → acc < 18446744073709551616 →
 Lib.parseUint10 acc l = if l.foldl (fun a b => 10 * a + (b.toNat - 48)) acc < 18446744073709551616 then .ok (l.foldl (fun a b => 10 * a + (b.toNat - 48)) acc) else .range
 | [], acc, _, h => by simp [Lib.parseUint10, h]
 | b :: l, acc, hd, h => by
  have hb := hd b (by simp)
  unfold digit at hb
  simp at hb
  have hle := val_cons_le (10 * acc + (b.toNat - 48)) l
  rw [Lib.parseUint10, if_pos hb, List.foldl_cons]
  by_cases h1 : 1844674407370955162 ≤ acc
  · rw [if_pos h1, if_neg (by omega)]
  ·
   rw [if_neg h1]
   by_cases h2 : 18446744073709551616 ≤ acc * 10 + (b.toNat - 48)
   · rw [if_pos h2, if_neg (by omega)]
   ·
    rw [if_neg h2, show acc * 10 + (b.toNat - 48) = 10 * acc + (b.toNat - 48) by omega]
    exact parse_digits l _ (fun b hb => hd b (by simp [hb])) (by omega)
theorem parse_ok {l : Tx} (h0 : l ≠ []) (hd : ∀ b ∈ l, digit b = true) (hv : val l ≤ 9223372036854775807) : Lib.parseIntB 64 l = .ok ((val l : Nat) : Int) := by
 rw [Lib.parseIntB_64]
 match l, h0 with
 | c :: r, _ =>
  have hc := hd c (by simp)
  unfold digit at hc
  simp at hc
  have e := parse_digits (c :: r) 0 hd (by omega)
  have hm : Lib.parseMag (c :: r) = .ok (val (c :: r)) := by
   unfold Lib.parseMag
   rw [if_neg (by simp), e, if_pos (by unfold val at hv; omega)]
   rfl
  unfold Lib.atoiAll
  simp only
  rw [if_neg (by omega), hm]
  simp only
  rw [if_neg (by omega), if_neg (by omega), if_neg (by omega)]
theorem parse_range {l : Tx} (hd : ∀ b ∈ l, digit b = true) (hv : 9223372036854775807 < val l) : Lib.parseIntB 64 l = .range := by
 rw [Lib.parseIntB_64]
 match l, hd, hv with
 | [], _, hv => simp [val] at hv
 | c :: r, hd, hv =>
  have hc := hd c (by simp)
  unfold digit at hc
  simp at hc
  have e := parse_digits (c :: r) 0 hd (by omega)
  unfold Lib.atoiAll
  simp only
  rw [if_neg (by omega)]
  unfold Lib.parseMag
  rw [if_neg (by simp), e]
  by_cases h2 : (c :: r).foldl (fun a b => 10 * a + (b.toNat - 48)) 0 < 18446744073709551616
  ·
   rw [if_pos h2]
   simp only
   rw [if_pos (by unfold val at hv; omega)]
  · rw [if_neg h2]
theorem digits_contains (b : UInt8) : ([48, 49, 50, 51, 52, 53, 54, 55, 56, 57] : Tx).contains b = digit b := by
 rw [Bool.eq_iff_iff]
 simp [digit, ← UInt8.toNat_inj]
 omega
theorem trim_left (p : Tx) : Lib.trimLeftS p [48, 49, 50, 51, 52, 53, 54, 55, 56, 57] = p.dropWhile digit := by
 unfold Lib.trimLeftS
 congr 1
 funext b
 exact digits_contains b
theorem trim_suffix (p : Tx) : Lib.trimSuffix p (p.dropWhile digit) = p.takeWhile digit := by
 have h := List.takeWhile_append_dropWhile (p := digit) (l := p)
 unfold Lib.trimSuffix
 have hs : Lib.hasSuffix p (p.dropWhile digit) = true := by
  unfold Lib.hasSuffix
  rw [List.isSuffixOf_iff_suffix]
  exact ⟨_, h⟩
 rw [if_pos hs]
 have hq : ∀ q r : Tx, (q ++ r).take ((q ++ r).length - r.length) = q := fun q r => by simp
 have := hq (p.takeWhile digit) (p.dropWhile digit)
 rwa [h] at this
theorem takeWhile_all (p : Tx) : ∀ b ∈ p.takeWhile digit, digit b = true := fun b hb => by
 have := List.all_takeWhile (p := digit) (l := p)
 exact List.all_eq_true.1 this b hb
end Go.Proofs.YtbikifibfaaggaaGreatDoor.Lx
namespace Go.Proofs.YtbikifibfaaggaaGreatDoor
section
open Go.RowKit
theorem Hd {p : Prop} (h : p) : Hid p := h
end
section
set_option maxHeartbeats 4000000
open Go.RowKit
theorem ret_bool {a b : Bool} (h : a = b) : Ending.returned (.bool a) = .returned (.bool b) := by rw [h]
theorem beq_nat (a b : UInt8) : (a == b) = decide (a.toNat = b.toNat) := by
 rw [Bool.eq_iff_iff]; simp [← UInt8.toNat_inj]
theorem digit_any (w : World) (b : UInt8) :
 Calls Tryz.prog 142 #[.int .u8 ((b.toNat : Nat) : Int)] w fun e w' => e = .returned (.bool (Lx.digit b)) ∧ w = w' := by
 have hd : Lx.digit b = (decide (48 ≤ b.toNat) && decide (b.toNat ≤ 57)) := rfl
 rw [hd]
 obtain ⟨n, hn⟩ : ∃ n, n = b.toNat := ⟨_, rfl⟩
 rw [← hn]
 clear hn hd
 go_enter Tryz.func142, Tryz.ntmps142
 go_wp2
 all_goals
  go_ret
  refine ⟨ret_bool ?_, rfl⟩
  rw [Bool.eq_iff_iff]; simp; omega
theorem rdigit_any (w : World) (b : UInt8) :
 Calls Tryz.prog 55 #[.int .u8 ((b.toNat : Nat) : Int)] w fun e w' => e = .returned (.bool (Lx.digit b)) ∧ w = w' := by
 have hd : Lx.digit b = (decide (48 ≤ b.toNat) && decide (b.toNat ≤ 57)) := rfl
 rw [hd]
 obtain ⟨n, hn⟩ : ∃ n, n = b.toNat := ⟨_, rfl⟩
 rw [← hn]
 clear hn hd
 go_enter Tryz.func55, Tryz.ntmps55
 go_wp2
 all_goals
  go_ret
  refine ⟨ret_bool ?_, rfl⟩
  rw [Bool.eq_iff_iff]; simp; omega
theorem rletter_any (w : World) (b : UInt8) :
 Calls Tryz.prog 54 #[.int .u8 ((b.toNat : Nat) : Int)] w fun e w' => e = .returned (.bool (Lx.letter b)) ∧ w = w' := by
 have hd : Lx.letter b = (decide (b.toNat = 95) || ((decide (97 ≤ b.toNat) && decide (b.toNat ≤ 122)) || (decide (65 ≤ b.toNat) && decide (b.toNat ≤ 90)))) := by unfold Lx.letter; rw [beq_nat]; rfl
 rw [hd]
 obtain ⟨n, hn⟩ : ∃ n, n = b.toNat := ⟨_, rfl⟩
 rw [← hn]
 clear hn hd
 go_enter Tryz.func54, Tryz.ntmps54
 go_wp2
 all_goals
  go_ret
  refine ⟨ret_bool ?_, rfl⟩
  rw [Bool.eq_iff_iff]; simp; omega
theorem inWord_any (w : World) (b : UInt8) :
 Calls Tryz.prog 139 #[.int .u8 ((b.toNat : Nat) : Int)] w fun e w' => e = .returned (.bool (Lx.inWord b)) ∧ w = w' := by
 have hd : Lx.inWord b = ((decide (b.toNat = 95) || ((decide (97 ≤ b.toNat) && decide (b.toNat ≤ 122)) || (decide (65 ≤ b.toNat) && decide (b.toNat ≤ 90)))) || (decide (48 ≤ b.toNat) && decide (b.toNat ≤ 57))) := by unfold Lx.inWord Lx.letter; rw [beq_nat]; rfl
 have HD := Hd (digit_any w b)
 rw [hd]
 obtain ⟨m, hm⟩ : ∃ m, m = Lx.digit b := ⟨_, rfl⟩
 have hd2 : m = (decide (48 ≤ b.toNat) && decide (b.toNat ≤ 57)) := hm
 rw [← hd2]
 rw [← hm] at HD
 obtain ⟨n, hn⟩ : ∃ n, n = b.toNat := ⟨_, rfl⟩
 rw [← hn] at HD ⊢
 clear hn hd hm hd2
 go_enter Tryz.func139, Tryz.ntmps139
 go_wp2_with ((with_reducible refine (HD.out).mono ?_); rintro e w' ⟨rfl, rfl⟩)
 all_goals
  go_ret
  refine ⟨ret_bool ?_, rfl⟩
  cases m <;> first | contradiction | (rw [Bool.eq_iff_iff]; simp; done) | (rw [Bool.eq_iff_iff]; simp; omega)
def strO (l : List UInt8) : ByteArray := ⟨l.toArray⟩
theorem strO_len (k : List UInt8) : (strO k).size = k.length := by simp [strO, ByteArray.size]
theorem strO_list (k : List UInt8) : (strO k).data.toList = k := by simp [strO]
theorem strO_toList (l : List UInt8) : (strO l).toList = l := by rw [Lib.toList_data, strO_list]
theorem strO_extract (l : List UInt8) (i j : Nat) : (strO l).extract i j = strO ((l.drop i).take (j - i)) := ByteArray.extract_mk l i j
theorem strO_get (l : List UInt8) (k : Nat) (h : k < (strO l).size) : (strO l)[k] = l[k]'(by rwa [strO_len] at h) := by
 show (strO l).data[k] = _
 simp [strO]
theorem operator_any (w : World) (l : List UInt8) :
 Calls Tryz.prog 140 #[.string (strO l)] w fun e w' => e = .returned (.bool (Lx.isOp l)) ∧ w = w' := by
 have hl := strO_toList l
 obtain ⟨s, hs⟩ : ∃ s, s = strO l := ⟨_, rfl⟩
 rw [← hs] at hl ⊢
 have HL := Hd hl
 clear hl hs
 go_enter Tryz.func140, Tryz.ntmps140
 go_wp2
 all_goals
  go_ret
  refine ⟨ret_bool ?_, rfl⟩
  rw [HL.out] at *
  first
   | contradiction
   | (
    have h0 := by assumption
    simp only [*] at h0; done)
   | (simp [Lx.isOp_or, *]; done)
   | (exfalso; simp_all; done)
end
section
open Go.RowKit
theorem hmf0 (fn : Fn) (first cap : Array Value) (w : World) : (Instr.makeFunc fn first cap).run Tryz.prog w = .ok (.func fn first cap) w := rfl
theorem zZ {S : List Nat} {w w' : World} {base : Nat} (h : Hid (base ≤ w.heap.size)) (hk : Keeps S w w') : Hid (base ≤ w'.heap.size) := by
 have := h.out; have := hk.size; exact Lib.hid (by omega)
theorem zB {S : List Nat} {w w' : World} {g : Nat} {o : Obj} (h : Hid (w.heap[g]? = some o)) (hk : Keeps S w w') (hn : g ∉ S := by have := HX.out; simp <;> omega) : Hid (w'.heap[g]? = some o) := Lib.hid (block_keep h.out hk hn)
theorem zL {S : List Nat} {w w' : World} {g : Nat} {o : Obj} (h : Hid (w.heap[g]? = some o)) (hk : Keeps S w w') (hn : g ∉ S := by have := HBL.out; simp <;> omega) : Hid (w'.heap[g]? = some o) := Lib.hid (block_keep h.out hk hn)
theorem zT {S T : List Nat} {a b c : World} (h : Hid (Keeps S a b)) (hk : Keeps T b c) (hn : ∀ i, i ∈ T → i < a.heap.size → i ∈ S := by exact fun _ h _ => by first | exact h | cases h) : Hid (Keeps S a c) := Lib.hid (h.out.trans hk hn)
theorem zU {S T : List Nat} {a b c : World} (h : Hid (Keeps S a b)) (hk : Keeps T b c) (hn : ∀ i, i ∈ T → i < a.heap.size → i ∈ S := by exact fun _ h _ => by simp at h; simp [h]) : Hid (Keeps S a c) := Lib.hid (h.out.trans hk hn)
theorem zV {S : List Nat} {a b c : World} (h : Hid (Keeps S a b)) (hk : Keeps S b c) : Hid (Keeps S a c) := Lib.hid (h.out.trans hk (fun _ h _ => h))
theorem same {P : Program} {f : FuncId} {args : Array Value} {w w' : World} {e : Ending} {R : Ending → World → Prop} (h : Calls P f args w (fun x y => x = e ∧ w' = y)) (k : R e w') : Calls P f args w R := h.mono (fun _ _ q => by obtain ⟨rfl, rfl⟩ := q; exact k)
theorem rowi {w : World} {b : Nat} {cs : Array Value} {t : TypeId} (h : w.heap[b]? = some (.cells cs t (0, 0))) (i : Nat) {x : Option Value} (e : cs[i]? = x := by first | (simp only [List.getElem?_toArray, List.getElem?_cons_zero, List.getElem?_cons_succ]; done) | (simp only [List.getElem?_toArray, List.getElem?_cons_zero, List.getElem?_cons_succ]; rfl)) : w.cell? ⟨b, i, none⟩ = x ∧ w.frozen? ⟨b, i, none⟩ = false := ⟨(row_cell h i).trans e, row_free h i⟩
theorem zj {S : List Nat} {w w' : World} {g : Nat} {o : Obj} (h : Hid (w.heap[g]? = some o)) (hk : Keeps S w w') (hn : g ∉ S := by exact fun hm => by have := hin _ hm; have := HX.out; have := HBS.out; omega) : Hid (w'.heap[g]? = some o) := Lib.hid (block_keep h.out hk hn)
theorem zE {e v : Ending} {A : Prop} {S : List Nat} {a b c : World} (h : e = v ∧ A ∧ Keeps S b c) (hk : Hid (Keeps S a b)) : e = v ∧ Hid A ∧ Hid (Keeps S a c) := ⟨h.1, Lib.hid h.2.1, zV hk h.2.2⟩
theorem zX {p : Prop} (h : p := by have := HX.out; omega) : p := h
theorem zY {p : Prop} (h : p := by have := HX.out; simp <;> omega) : p := h
theorem zW {p : Prop} (h : p := by repeat (first | (with_reducible exact Keeps.refl _ _) | (with_reducible refine Keeps.drew ?_) | (with_reducible refine Keeps.set1 ?_ _ _))) : p := h
theorem and4 {a b c d : Prop} (h1 : a) (h2 : b) (h3 : c) (h4 : d) : Hid (a ∧ b ∧ c ∧ d) := Lib.hid ⟨h1, h2, h3, h4⟩
theorem row10 {w : World} {b : Nat} {t : TypeId} {a0 a1 a2 a3 a4 a5 a6 a7 a8 a9 : Value} (h : w.heap[b]? = some (.cells #[a0, a1, a2, a3, a4, a5, a6, a7, a8, a9] t (0, 0))) : w.cell? ⟨b, 0, none⟩ = some a0 ∧ w.frozen? ⟨b, 0, none⟩ = false ∧ w.cell? ⟨b, 1, none⟩ = some a1 ∧ w.frozen? ⟨b, 1, none⟩ = false ∧ w.cell? ⟨b, 2, none⟩ = some a2 ∧ w.frozen? ⟨b, 2, none⟩ = false ∧ w.cell? ⟨b, 3, none⟩ = some a3 ∧ w.frozen? ⟨b, 3, none⟩ = false ∧ w.cell? ⟨b, 4, none⟩ = some a4 ∧ w.frozen? ⟨b, 4, none⟩ = false ∧ w.cell? ⟨b, 5, none⟩ = some a5 ∧ w.frozen? ⟨b, 5, none⟩ = false ∧ w.cell? ⟨b, 6, none⟩ = some a6 ∧ w.frozen? ⟨b, 6, none⟩ = false ∧ w.cell? ⟨b, 7, none⟩ = some a7 ∧ w.frozen? ⟨b, 7, none⟩ = false ∧ w.cell? ⟨b, 8, none⟩ = some a8 ∧ w.frozen? ⟨b, 8, none⟩ = false ∧ w.cell? ⟨b, 9, none⟩ = some a9 ∧ w.frozen? ⟨b, 9, none⟩ = false := ⟨row_cell h 0, row_free h 0, row_cell h 1, row_free h 1, row_cell h 2, row_free h 2, row_cell h 3, row_free h 3, row_cell h 4, row_free h 4, row_cell h 5, row_free h 5, row_cell h 6, row_free h 6, row_cell h 7, row_free h 7, row_cell h 8, row_free h 8, row_cell h 9, row_free h 9⟩
theorem row4 {w : World} {b : Nat} {t : TypeId} {a0 a1 a2 a3 : Value} (h : w.heap[b]? = some (.cells #[a0, a1, a2, a3] t (0, 0))) : w.cell? ⟨b, 0, none⟩ = some a0 ∧ w.frozen? ⟨b, 0, none⟩ = false ∧ w.cell? ⟨b, 1, none⟩ = some a1 ∧ w.frozen? ⟨b, 1, none⟩ = false ∧ w.cell? ⟨b, 2, none⟩ = some a2 ∧ w.frozen? ⟨b, 2, none⟩ = false ∧ w.cell? ⟨b, 3, none⟩ = some a3 ∧ w.frozen? ⟨b, 3, none⟩ = false := ⟨row_cell h 0, row_free h 0, row_cell h 1, row_free h 1, row_cell h 2, row_free h 2, row_cell h 3, row_free h 3⟩
end
end Go.Proofs.YtbikifibfaaggaaGreatDoor
