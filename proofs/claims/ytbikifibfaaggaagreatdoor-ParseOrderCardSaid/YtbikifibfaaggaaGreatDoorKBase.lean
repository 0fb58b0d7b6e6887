/- Words for memory, of no package: what a call leaves alone; a slice that reads as bytes; rows of cells. -/
import Derived.Test.YtbikifibfaaggaaGreatDoorChecked
import Derived.WalkKit
import Derived.ProofKit
import Derived.Below
import Derived.OneCell
import Derived.OwnWalk
import Derived.Laws.BitsAllLaws
import Derived.Lib.Hide
import Derived.Outline
import Derived.Deep.QuietTactic
import Derived.BigQuiet
import Derived.Lib.AppendStr
import Derived.WalkSpells
import Derived.WalkLawsBesides
namespace Go.Proofs.YtbikifibfaaggaaGreatDoor
open Go.RowKit

/-- Of what was there, the blocks of S alone may have turned. -/
structure Keeps (S : List Nat) (w w' : World) : Prop where
  os : w'.os = w.os
  tape : w'.tape = w.tape
  output : w'.output = w.output
  size : w.heap.size ≤ w'.heap.size
  block : ∀ k, k < w.heap.size → k ∉ S → w'.heap[k]? = w.heap[k]?

namespace Keeps
variable {S T : List Nat} {a b c w w' : World}
theorem refl (S : List Nat) (w : World) : Keeps S w w := ⟨rfl, rfl, rfl, Nat.le_refl _, fun _ _ _ => rfl⟩
theorem trans (h : Keeps S a b) (k : Keeps T b c) (hs : ∀ i, i ∈ T → i < a.heap.size → i ∈ S) : Keeps S a c :=
  ⟨k.os.trans h.os, k.tape.trans h.tape, k.output.trans h.output, Nat.le_trans h.size k.size, fun i hi hn =>
    (k.block i (Nat.lt_of_lt_of_le hi h.size) (fun hT => hn (hs i hT hi))).trans (h.block i hi hn)⟩
theorem mono (h : Keeps S a b) (hs : ∀ i, i ∈ S → i < a.heap.size → i ∈ T) : Keeps T a b :=
  ⟨h.os, h.tape, h.output, h.size, fun i hi hn => h.block i hi (fun hS => hn (hs i hS hi))⟩
theorem drew (h : Keeps S a w) : Keeps S a w.drew := ⟨h.os, h.tape, h.output, h.size, h.block⟩
theorem of_below (h : Below w.heap.size w w') (S : List Nat) : Keeps S w w' := ⟨h.os, h.tape, h.output, h.size, fun k hk _ => h.block k hk⟩
theorem of_grown {row : Option Nat} (h : w.grownBy w' row) : Keeps row.toList w w' :=
  ⟨h.os, h.tape, h.output, h.size, fun k hk hn => h.block k hk (fun e => hn (by rw [← e]; simp))⟩
theorem alloc (h : Keeps S a w) (o : Obj) : Keeps S a (w.alloc o) :=
  h.trans (of_below ((Below.refl _ _).alloc (Nat.le_refl _) o) []) (fun _ h => by cases h)
theorem setCell (h : Keeps S a w) {p : Addr} (hp : p.block < a.heap.size → p.block ∈ S) (u : Value) : Keeps S a (w.setCell p u) :=
  h.trans (T := [p.block]) ⟨rfl, rfl, rfl, by simp [World.setCell], fun k _ hn => Below.heap_setCell _ _ _ _ (by simpa using hn)⟩
    (fun i hi hl => by obtain rfl : i = p.block := by simpa using hi
                       exact hp hl)
theorem below {B : Nat} (h : Keeps S a b) (hs : ∀ i, i ∈ S → B ≤ i) (hB : B ≤ a.heap.size) : Below B a b :=
  ⟨h.os, h.tape, h.output, h.size, fun k hk => h.block k (by omega) (fun hm => by have := hs k hm; omega)⟩
theorem cell (h : Keeps S w w') {p : Addr} (hp : p.block < w.heap.size) (hn : p.block ∉ S) : w'.cell? p = w.cell? p := World.cell?_of_block (w := w) (h.block _ hp hn)
theorem cell_some (h : Keeps S w w') {p : Addr} {v : Value} (hc : w.cell? p = some v) (hn : p.block ∉ S) : w'.cell? p = some v :=
  (h.cell (World.block_lt_of_cell? w p hc) hn).trans hc
end Keeps

/-- An int of 64 bits. -/
def Wide (z : Int) : Prop := -9223372036854775808 ≤ z ∧ z ≤ 9223372036854775807
theorem block_lt {w : World} {g : Nat} {o : Obj} (h : w.heap[g]? = some o) : g < w.heap.size := (Array.getElem?_eq_some_iff.1 h).1
theorem block_keep {S : List Nat} {w w' : World} {g : Nat} {o : Obj} (h : w.heap[g]? = some o) (hk : Keeps S w w') (hn : g ∉ S) : w'.heap[g]? = some o :=
  (hk.block g (block_lt h) hn).trans h
theorem owned_keep {S : List Nat} {w w' : World} {base : Nat} {e : TypeId} {size n : Nat} {v : Value} {xs : List Value} (h : w.ownsRow base e size v n xs) (hk : Keeps S w w') (hn : ∀ g, v.ownBlock = some g → g ∉ S) :
    w'.ownsRow base e size v n xs := by
  refine ⟨h.1, ?_⟩
  rcases h.2 with h2 | ⟨g, cap, cur, rfl, hb, hg, rest⟩
  · exact .inl h2
  · exact .inr ⟨g, cap, cur, rfl, hb, block_keep hg hk (hn g rfl), rest⟩

/-- The cells of bytes. -/
def u8s (l : List UInt8) : List Value := l.map fun c => .int .u8 ((c.toNat : Nat) : Int)
theorem u8s_length (l : List UInt8) : (u8s l).length = l.length := by simp [u8s]
theorem u8s_append (l m : List UInt8) : u8s (l ++ m) = u8s l ++ u8s m := by simp [u8s]
theorem u8s_get {l : List UInt8} {k : Nat} (h : k < l.length) : (u8s l)[k]? = some (.int .u8 ((l[k].toNat : Nat) : Int)) := by simp [u8s, h]
theorem u8s_one (l : List UInt8) : ∀ u ∈ u8s l, u.oneCell' = true := by
  intro u hu
  obtain ⟨_, _, rfl⟩ := List.mem_map.1 hu
  rfl

/-- A slice of bytes in block g that reads as l: nothing is asked of an empty one. -/
def BytesIn (w : World) (g : Nat) (A : Option Addr) (l : List UInt8) : Prop :=
  l = [] ∨ ∃ off, A = some ⟨g, off, none⟩ ∧ ∀ k (h : k < l.length), w.cell? ⟨g, off + k, none⟩ = some (.int .u8 ((l[k].toNat : Nat) : Int))
theorem BytesIn.keep {S : List Nat} {w w' : World} {g : Nat} {A : Option Addr} {l : List UInt8} (h : BytesIn w g A l) (hk : Keeps S w w') (hn : g ∉ S) : BytesIn w' g A l := by
  rcases h with h | ⟨off, hA, hc⟩
  · exact .inl h
  · exact .inr ⟨off, hA, fun k hl => hk.cell_some (hc k hl) hn⟩
theorem BytesIn.lt {w : World} {g : Nat} {A : Option Addr} {l : List UInt8} (h : BytesIn w g A l) (hl : 0 < l.length) : g < w.heap.size := by
  rcases h with rfl | ⟨off, _, hc⟩
  · simp at hl
  · exact World.block_lt_of_cell? w _ (hc 0 hl)
theorem BytesIn.of_own {w : World} {base : Nat} {e : TypeId} {A : Option Addr} {n c g : Nat} {l : List UInt8} (h : w.ownsRow base e 1 (.slice A n c) l.length (u8s l)) (hg : A = none ∨ ∃ o, A = some ⟨g, o, none⟩) : BytesIn w g A l := by
  rcases h.2 with ⟨hv, h0⟩ | ⟨g', cap, cur, hv, hb, hgg, hrest⟩
  · exact .inl (List.eq_nil_of_length_eq_zero h0)
  · have hA : A = some ⟨g', 0, none⟩ := by injection hv
    rcases hg with hg | ⟨o, hg⟩
    · rw [hg] at hA; cases hA
    · have : (⟨g, o, none⟩ : Addr) = ⟨g', 0, none⟩ := by rw [hg] at hA; exact Option.some.inj hA
      obtain ⟨rfl, rfl⟩ : g = g' ∧ o = 0 := by simpa using this
      refine .inr ⟨0, hg, fun k hk => ?_⟩
      have := h.cells (g := g) (by rw [hg]; rfl) k _ (u8s_get hk)
      rwa [Addr.add_lit] at this

theorem two_setCell0 {w : World} {b : Nat} {v x u : Value} {t : TypeId} (h : w.heap[b]? = some (.cells #[v, x] t (0, 0))) : (w.setCell ⟨b, 0, none⟩ u).heap[b]? = some (.cells #[u, x] t (0, 0)) := by
  simp [World.setCell, Array.getElem?_modify, h]
theorem two_setCell1 {w : World} {b : Nat} {v x u : Value} {t : TypeId} (h : w.heap[b]? = some (.cells #[v, x] t (0, 0))) : (w.setCell ⟨b, 1, none⟩ u).heap[b]? = some (.cells #[v, u] t (0, 0)) := by
  simp [World.setCell, Array.getElem?_modify, h]
theorem cell_of_two0 {w : World} {b : Nat} {v x : Value} {t : TypeId} (h : w.heap[b]? = some (.cells #[v, x] t (0, 0))) : w.cell? ⟨b, 0, none⟩ = some v := by simp [World.cell?, h]
theorem cell_of_two1 {w : World} {b : Nat} {v x : Value} {t : TypeId} (h : w.heap[b]? = some (.cells #[v, x] t (0, 0))) : w.cell? ⟨b, 1, none⟩ = some x := by simp [World.cell?, h]
theorem free_of_two {w : World} {b : Nat} {v x : Value} {t : TypeId} (h : w.heap[b]? = some (.cells #[v, x] t (0, 0))) (i : Nat) : w.frozen? ⟨b, i, none⟩ = false := by simp [World.frozen?, h]

theorem row_free {w : World} {b : Nat} {cs : Array Value} {t : TypeId} (h : w.heap[b]? = some (.cells cs t (0, 0))) (i : Nat) : w.frozen? ⟨b, i, none⟩ = false := by simp [World.frozen?, h]
theorem row_cell {w : World} {b : Nat} {cs : Array Value} {t : TypeId} (h : w.heap[b]? = some (.cells cs t (0, 0))) (i : Nat) : w.cell? ⟨b, i, none⟩ = cs[i]? := cell_of_row _ _ _ _ _ _ h
theorem row_set {w : World} {b : Nat} {cs : Array Value} {t : TypeId} (h : w.heap[b]? = some (.cells cs t (0, 0))) (j : Nat) (u : Value) : (w.setCell ⟨b, j, none⟩ u).heap[b]? = some (.cells (cs.setIfInBounds j u) t (0, 0)) := by
  simp [World.setCell, Array.getElem?_modify, h]
theorem Keeps.drewN {S : List Nat} {a w : World} (h : Keeps S a w) : ∀ (n : Nat), Keeps S a (w.drewN n)
  | 0 => h
  | n + 1 => (Keeps.drewN h n).drew

theorem bytes_apart {w : World} {x g : Nat} {A : Option Addr} {l : List UInt8} {cs : Array Value} {t : TypeId} (hx : w.heap[x]? = some (.cells cs t (0, 0))) (hn : ∀ (i : Nat) (c : Int), cs[i]? ≠ some (.int .u8 c)) (h : BytesIn w g A l) (hl : 0 < l.length) : g ≠ x := by
  rintro rfl
  rcases h with h | ⟨off, rfl, hcell⟩
  · subst h; simp at hl
  · have h1 := hcell 0 hl
    rw [row_cell hx] at h1
    exact hn _ _ h1
theorem infoU8 : (Tryz.prog.info? 5).map (fun i => (i.zero, i.size, i.bytes)) = some (some (.int .u8 0), 1, 1) := by kernel_rfl

theorem own_form {w : World} {base : Nat} {e : TypeId} {v : Value} {n : Nat} {xs : List Value} (h : w.ownsRow base e 1 v n xs) :
    (v = .slice none 0 0 ∧ n = 0) ∨ ∃ g cap, v = .slice (some ⟨g, 0, none⟩) n cap ∧ base ≤ g ∧ n ≤ cap ∧ cap ≤ maxLen := by
  rcases h.2 with h | ⟨g, cap, cur, hv, hb, _, hn, hm, _⟩
  · exact .inl h
  · exact .inr ⟨g, cap, hv, hb, hn, hm⟩
/-- What a copy of bytes is: in a new block. -/
def CopyAt (w : World) (l : List UInt8) (e : Ending) (w' : World) : Prop :=
  ∃ A cap g, e = .returned (.slice A l.length cap) ∧ BytesIn w' g A l ∧ w.heap.size ≤ g ∧ l.length ≤ cap ∧ cap ≤ maxLen ∧ (A = none → l = []) ∧ Keeps [] w w'
theorem BytesIn.take {w : World} {g : Nat} {A : Option Addr} {l : List UInt8} (h : BytesIn w g A l) (k : Nat) : BytesIn w g A (l.take k) := by
  rcases h with rfl | ⟨off, rfl, hc⟩
  · exact .inl (by simp)
  · exact .inr ⟨off, rfl, fun j hj => by
      have : j < l.length := by simp at hj; omega
      rw [hc j this]; simp⟩
theorem BytesIn.drop {w : World} {g : Nat} {A : Option Addr} {l : List UInt8} {cap : Nat} (h : BytesIn w g A l) (k : Nat) (hcap : l.length ≤ cap) : BytesIn w g (if cap = k then A else A.map (·.add k)) (l.drop k) := by
  by_cases hk : l.length ≤ k
  · exact .inl (List.drop_eq_nil_of_le hk)
  · rcases h with rfl | ⟨off, rfl, hc⟩
    · simp at hk
    · rw [if_neg (by omega)]
      refine .inr ⟨off + k, by rw [Option.map_some, Addr.add_lit], fun j hj => ?_⟩
      have : k + j < l.length := by simp at hj; omega
      have h1 := hc (k + j) this
      rw [Nat.add_assoc, h1]; simp
theorem elemBytes : Tryz.prog.underlying 43 = some (.slice (Tryz.prog.elem 43)) := by
  rw [show Tryz.prog.elem 43 = 5 by kernel_rfl]; exact Tryz.underlying43
/-- b[:k], b[k:] of a slice of bytes, k of whatever kind. -/
theorem slice_high_k (kk : IntKind) {A : Option Addr} {n cap k : Nat} (hk : k ≤ n) (hcap : n ≤ cap) : ∃ A', (∀ w, (Instr.slice 43 (.slice A n cap) none (some (.int kk (k : Int))) none).run Tryz.prog w = .ok (.slice A' k cap) w) ∧
    ∀ w g l, l.length = n → BytesIn w g A l → BytesIn w g A' (l.take k) := by
  refine ⟨if cap = 0 then A else A.map (·.add 0), fun w => ?_, fun w g l _ h => ?_⟩
  · have := run_slice_h (P := Tryz.prog) w 43 A n cap elemBytes kk (k : Int) (by omega) (by omega)
    rw [this]
    have hs : (sizeOf (Tryz.prog.elem 43)).run Tryz.prog w = .ok 1 w := by kernel_rfl
    rw [hs]
    simp [Result.andThen, sliced]
  · have h2 := BytesIn.take h k
    by_cases hc : cap = 0
    · rw [if_pos hc]; exact h2
    · rw [if_neg hc]
      rcases h2 with h2 | ⟨off, rfl, hc2⟩
      · exact .inl h2
      · exact .inr ⟨off, by rw [Option.map_some, Addr.add_lit]; rfl, hc2⟩
theorem slice_low_k (kk : IntKind) {A : Option Addr} {n cap k : Nat} (hk : k ≤ n) (hcap : n ≤ cap) : ∃ A', (∀ w, (Instr.slice 43 (.slice A n cap) (some (.int kk (k : Int))) none none).run Tryz.prog w = .ok (.slice A' (n - k) (cap - k)) w) ∧
    ∀ w g l, l.length = n → BytesIn w g A l → BytesIn w g A' (l.drop k) := by
  refine ⟨if cap = k then A else A.map (·.add k), fun w => ?_, fun w g l hl h => BytesIn.drop h k (by omega)⟩
  have := run_slice_l (P := Tryz.prog) w 43 A n cap elemBytes kk (k : Int) (by omega) (by omega)
  rw [this]
  have hs : (sizeOf (Tryz.prog.elem 43)).run Tryz.prog w = .ok 1 w := by kernel_rfl
  rw [hs]
  simp [Result.andThen, sliced]

/-! ### b[:n:n] of a slice of bytes -/
theorem slice_full {A : Option Addr} {n cap : Nat} (hcap : n ≤ cap) : ∃ A', (∀ w, (Instr.slice 43 (.slice A n cap) none (some (.int .i64 (n : Int))) (some (.int .i64 (n : Int)))).run Tryz.prog w = .ok (.slice A' n n) w) ∧
    ∀ w g l, l.length = n → BytesIn w g A l → BytesIn w g A' l ∧ (A' = none → l = []) := by
  refine ⟨if n = 0 then A else A.map (·.add 0), fun w => ?_, fun w g l hl h => ?_⟩
  · have := run_slice_hm (P := Tryz.prog) w 43 A n cap elemBytes .i64 .i64 (n : Int) (n : Int) (by omega) (by omega) (by omega)
    rw [this]
    have hs : (sizeOf (Tryz.prog.elem 43)).run Tryz.prog w = .ok 1 w := by kernel_rfl
    rw [hs]
    simp [Result.andThen, sliced]
  · by_cases hc : n = 0
    · have h0 : l = [] := List.eq_nil_of_length_eq_zero (by omega)
      exact ⟨.inl h0, fun _ => h0⟩
    · rw [if_neg hc]
      rcases h with h | ⟨off, rfl, hc2⟩
      · subst h; simp at hl; omega
      · exact ⟨.inr ⟨off, by rw [Option.map_some, Addr.add_lit]; rfl, hc2⟩, fun h => by cases h⟩
end Go.Proofs.YtbikifibfaaggaaGreatDoor
