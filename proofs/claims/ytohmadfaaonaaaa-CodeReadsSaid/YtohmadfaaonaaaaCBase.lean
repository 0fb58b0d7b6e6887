/- Words for memory: what a call leaves alone; a slice that reads as bytes; the block of a writer; the block of a reader. -/
import Derived.Test.YtohmadfaaonaaaaChecked
import Derived.WalkKit
import Derived.ProofKit
import Derived.Below
import Derived.OneCell
import Derived.OwnWalk
import Derived.Laws.BitsAllLaws
import Derived.Lib.Hide
import Derived.Lib.AppendStr
import Derived.WalkSpells
import Derived.WalkLawsBesides
namespace Go.Proofs.Ytohmadfaaonaaaa
open Go.RowKit

/-- Of what was there, the blocks of S alone may have turned. -/
structure Keeps (S : List Nat) (w w' : World) : Prop where
  os : w'.os = w.os
  tape : w'.tape = w.tape
  output : w'.output = w.output
  size : w.heap.size ≤ w'.heap.size
  block : ∀ k, k < w.heap.size → k ∉ S → w'.heap[k]? = w.heap[k]?

namespace Keeps
variable {S T : List Nat} {a b c w w' : World}
theorem refl (S : List Nat) (w : World) : Keeps S w w := ⟨rfl, rfl, rfl, Nat.le_refl _, fun _ _ _ => rfl⟩
theorem trans (h : Keeps S a b) (k : Keeps T b c) (hs : ∀ i, i ∈ T → i < a.heap.size → i ∈ S) : Keeps S a c :=
  ⟨k.os.trans h.os, k.tape.trans h.tape, k.output.trans h.output, Nat.le_trans h.size k.size, fun i hi hn =>
    (k.block i (Nat.lt_of_lt_of_le hi h.size) (fun hT => hn (hs i hT hi))).trans (h.block i hi hn)⟩
theorem mono (h : Keeps S a b) (hs : ∀ i, i ∈ S → i < a.heap.size → i ∈ T) : Keeps T a b :=
  ⟨h.os, h.tape, h.output, h.size, fun i hi hn => h.block i hi (fun hS => hn (hs i hS hi))⟩
theorem drew (h : Keeps S a w) : Keeps S a w.drew := ⟨h.os, h.tape, h.output, h.size, h.block⟩
theorem of_below (h : Below w.heap.size w w') (S : List Nat) : Keeps S w w' := ⟨h.os, h.tape, h.output, h.size, fun k hk _ => h.block k hk⟩
theorem of_grown {row : Option Nat} (h : w.grownBy w' row) : Keeps row.toList w w' :=
  ⟨h.os, h.tape, h.output, h.size, fun k hk hn => h.block k hk (fun e => hn (by rw [← e]; simp))⟩
theorem alloc (h : Keeps S a w) (o : Obj) : Keeps S a (w.alloc o) :=
  h.trans (of_below ((Below.refl _ _).alloc (Nat.le_refl _) o) []) (fun _ h => by cases h)
theorem setCell (h : Keeps S a w) {p : Addr} (hp : p.block < a.heap.size → p.block ∈ S) (u : Value) : Keeps S a (w.setCell p u) :=
  h.trans (T := [p.block]) ⟨rfl, rfl, rfl, by simp [World.setCell], fun k _ hn => Below.heap_setCell _ _ _ _ (by simpa using hn)⟩
    (fun i hi hl => by obtain rfl : i = p.block := by simpa using hi
                       exact hp hl)
theorem below {B : Nat} (h : Keeps S a b) (hs : ∀ i, i ∈ S → B ≤ i) (hB : B ≤ a.heap.size) : Below B a b :=
  ⟨h.os, h.tape, h.output, h.size, fun k hk => h.block k (by omega) (fun hm => by have := hs k hm; omega)⟩
theorem cell (h : Keeps S w w') {p : Addr} (hp : p.block < w.heap.size) (hn : p.block ∉ S) : w'.cell? p = w.cell? p := World.cell?_of_block (w := w) (h.block _ hp hn)
theorem cell_some (h : Keeps S w w') {p : Addr} {v : Value} (hc : w.cell? p = some v) (hn : p.block ∉ S) : w'.cell? p = some v :=
  (h.cell (World.block_lt_of_cell? w p hc) hn).trans hc
end Keeps

theorem block_lt {w : World} {g : Nat} {o : Obj} (h : w.heap[g]? = some o) : g < w.heap.size := (Array.getElem?_eq_some_iff.1 h).1
theorem block_keep {S : List Nat} {w w' : World} {g : Nat} {o : Obj} (h : w.heap[g]? = some o) (hk : Keeps S w w') (hn : g ∉ S) : w'.heap[g]? = some o :=
  (hk.block g (block_lt h) hn).trans h
theorem owned_keep {S : List Nat} {w w' : World} {base : Nat} {e : TypeId} {size n : Nat} {v : Value} {xs : List Value} (h : w.ownsRow base e size v n xs) (hk : Keeps S w w') (hn : ∀ g, v.ownBlock = some g → g ∉ S) :
    w'.ownsRow base e size v n xs := by
  refine ⟨h.1, ?_⟩
  rcases h.2 with h2 | ⟨g, cap, cur, rfl, hb, hg, rest⟩
  · exact .inl h2
  · exact .inr ⟨g, cap, cur, rfl, hb, block_keep hg hk (hn g rfl), rest⟩

/-- The cells of bytes. -/
def u8s (l : List UInt8) : List Value := l.map fun c => .int .u8 ((c.toNat : Nat) : Int)
theorem u8s_length (l : List UInt8) : (u8s l).length = l.length := by simp [u8s]
theorem u8s_append (l m : List UInt8) : u8s (l ++ m) = u8s l ++ u8s m := by simp [u8s]
theorem u8s_get {l : List UInt8} {k : Nat} (h : k < l.length) : (u8s l)[k]? = some (.int .u8 ((l[k].toNat : Nat) : Int)) := by simp [u8s, h]
theorem u8s_one (l : List UInt8) : ∀ u ∈ u8s l, u.oneCell' = true := by
  intro u hu
  obtain ⟨_, _, rfl⟩ := List.mem_map.1 hu
  rfl

/-- A slice of bytes in block g that reads as l: nothing is asked of an empty one. -/
def BytesIn (w : World) (g : Nat) (A : Option Addr) (l : List UInt8) : Prop :=
  l = [] ∨ ∃ off, A = some ⟨g, off, none⟩ ∧ ∀ k (h : k < l.length), w.cell? ⟨g, off + k, none⟩ = some (.int .u8 ((l[k].toNat : Nat) : Int))
theorem BytesIn.keep {S : List Nat} {w w' : World} {g : Nat} {A : Option Addr} {l : List UInt8} (h : BytesIn w g A l) (hk : Keeps S w w') (hn : g ∉ S) : BytesIn w' g A l := by
  rcases h with h | ⟨off, hA, hc⟩
  · exact .inl h
  · exact .inr ⟨off, hA, fun k hl => hk.cell_some (hc k hl) hn⟩
theorem BytesIn.lt {w : World} {g : Nat} {A : Option Addr} {l : List UInt8} (h : BytesIn w g A l) (hl : 0 < l.length) : g < w.heap.size := by
  rcases h with rfl | ⟨off, _, hc⟩
  · simp at hl
  · exact World.block_lt_of_cell? w _ (hc 0 hl)
theorem BytesIn.of_own {w : World} {base : Nat} {e : TypeId} {A : Option Addr} {n c g : Nat} {l : List UInt8} (h : w.ownsRow base e 1 (.slice A n c) l.length (u8s l)) (hg : A = none ∨ ∃ o, A = some ⟨g, o, none⟩) : BytesIn w g A l := by
  rcases h.2 with ⟨hv, h0⟩ | ⟨g', cap, cur, hv, hb, hgg, hrest⟩
  · exact .inl (List.eq_nil_of_length_eq_zero h0)
  · have hA : A = some ⟨g', 0, none⟩ := by injection hv
    rcases hg with hg | ⟨o, hg⟩
    · rw [hg] at hA; cases hA
    · have : (⟨g, o, none⟩ : Addr) = ⟨g', 0, none⟩ := by rw [hg] at hA; exact Option.some.inj hA
      obtain ⟨rfl, rfl⟩ : g = g' ∧ o = 0 := by simpa using this
      refine .inr ⟨0, hg, fun k hk => ?_⟩
      have := h.cells (g := g) (by rw [hg]; rfl) k _ (u8s_get hk)
      rwa [Addr.add_lit] at this

theorem two_setCell0 {w : World} {b : Nat} {v x u : Value} {t : TypeId} (h : w.heap[b]? = some (.cells #[v, x] t (0, 0))) : (w.setCell ⟨b, 0, none⟩ u).heap[b]? = some (.cells #[u, x] t (0, 0)) := by
  simp [World.setCell, Array.getElem?_modify, h]
theorem two_setCell1 {w : World} {b : Nat} {v x u : Value} {t : TypeId} (h : w.heap[b]? = some (.cells #[v, x] t (0, 0))) : (w.setCell ⟨b, 1, none⟩ u).heap[b]? = some (.cells #[v, u] t (0, 0)) := by
  simp [World.setCell, Array.getElem?_modify, h]
theorem cell_of_two0 {w : World} {b : Nat} {v x : Value} {t : TypeId} (h : w.heap[b]? = some (.cells #[v, x] t (0, 0))) : w.cell? ⟨b, 0, none⟩ = some v := by simp [World.cell?, h]
theorem cell_of_two1 {w : World} {b : Nat} {v x : Value} {t : TypeId} (h : w.heap[b]? = some (.cells #[v, x] t (0, 0))) : w.cell? ⟨b, 1, none⟩ = some x := by simp [World.cell?, h]
theorem free_of_two {w : World} {b : Nat} {v x : Value} {t : TypeId} (h : w.heap[b]? = some (.cells #[v, x] t (0, 0))) (i : Nat) : w.frozen? ⟨b, i, none⟩ = false := by simp [World.frozen?, h]

/-- A writer at block p, its bytes l in block g (where it has some). -/
def WrAt (w : World) (p g : Nat) (l : List UInt8) : Prop :=
  ∃ v, w.heap[p]? = some (.cells #[v] 42 (0, 0)) ∧ w.ownsRow 0 5 1 v l.length (u8s l) ∧ (v.ownBlock = none ∨ v.ownBlock = some g) ∧ g < w.heap.size
theorem WrAt.keep {S : List Nat} {w w' : World} {p g : Nat} {l : List UInt8} (h : WrAt w p g l) (hk : Keeps S w w') (hp : p ∉ S) (hg : g ∉ S) : WrAt w' p g l := by
  obtain ⟨v, h1, h2, h3, h4⟩ := h
  refine ⟨v, block_keep h1 hk hp, owned_keep h2 hk (fun k hv => ?_), h3, Nat.lt_of_lt_of_le h4 hk.size⟩
  rcases h3 with h3 | h3 <;> rw [h3] at hv
  · cases hv
  · obtain rfl := Option.some.inj hv; exact hg
theorem WrAt.lt {w : World} {p g : Nat} {l : List UInt8} (h : WrAt w p g l) : p < w.heap.size ∧ g < w.heap.size := by
  obtain ⟨v, h1, _, _, h4⟩ := h
  exact ⟨block_lt h1, h4⟩

/-- A reader at block p, what is left of its bytes in block g; f: has it failed? -/
def RdAt (w : World) (p g : Nat) (l : List UInt8) (f : Bool) : Prop :=
  ∃ A cap, w.heap[p]? = some (.cells #[.slice A l.length cap, .bool f] 90 (0, 0)) ∧ BytesIn w g A l ∧ l.length ≤ cap ∧ cap ≤ maxLen
theorem RdAt.keep {S : List Nat} {w w' : World} {p g : Nat} {l : List UInt8} {f : Bool} (h : RdAt w p g l f) (hk : Keeps S w w') (hp : p ∉ S) (hg : g ∉ S) : RdAt w' p g l f := by
  obtain ⟨A, cap, h1, h2, h3, h4⟩ := h
  exact ⟨A, cap, block_keep h1 hk hp, h2.keep hk hg, h3, h4⟩
theorem RdAt.lt {w : World} {p g : Nat} {l : List UInt8} {f : Bool} (h : RdAt w p g l f) : p < w.heap.size := by
  obtain ⟨A, cap, h1, _⟩ := h
  exact block_lt h1
/-- The bytes lie in another block than the reader. -/
theorem RdAt.apart {w : World} {p g off : Nat} {l : List UInt8} {cs : Array Value} (h : w.heap[p]? = some (.cells cs 90 (0, 0))) (hn : ∀ (i : Nat) (c : Int), cs[i]? ≠ some (Value.int .u8 c))
    (hl : 0 < l.length) (hc : ∀ k (h : k < l.length), w.cell? ⟨g, off + k, none⟩ = some (.int .u8 ((l[k].toNat : Nat) : Int))) : g ≠ p := by
  rintro rfl
  have h1 := hc 0 hl
  rw [cell_of_row w g (off + 0) cs _ (0, 0) h] at h1
  exact hn _ _ h1
end Go.Proofs.Ytohmadfaaonaaaa
