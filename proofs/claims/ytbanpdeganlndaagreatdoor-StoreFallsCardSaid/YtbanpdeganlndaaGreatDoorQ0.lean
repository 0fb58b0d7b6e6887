/- Merged: KBase CBase COut CMath CRead CText CTry CWrite CInt CKnown -/
import Derived.Test.YtbanpdeganlndaaGreatDoorChecked
import Derived.WalkKit
import Derived.ProofKit
import Derived.Below
import Derived.OneCell
import Derived.OwnWalk
import Derived.Laws.BitsAllLaws
import Derived.Lib.Hide
import Derived.Outline
import Derived.Deep.QuietTactic
import Derived.BigQuiet
import Derived.Lib.AppendStr
import Derived.WalkSpells
import Derived.WalkLawsBesides
import Derived.Deep.DeepFit
import Derived.Laws.BytesString
import Derived.Defers
import Derived.Recover
import Derived.Maps.AppendAt
namespace Go.Proofs.YtbanpdeganlndaaGreatDoor
open Go.RowKit

/-- Of what was there, the blocks of S alone may have turned. -/
structure Keeps (S : List Nat) (w w' : World) : Prop where
  os : w'.os = w.os
  tape : w'.tape = w.tape
  output : w'.output = w.output
  size : w.heap.size ≤ w'.heap.size
  block : ∀ k, k < w.heap.size → k ∉ S → w'.heap[k]? = w.heap[k]?

namespace Keeps
variable {S T : List Nat} {a b c w w' : World}
theorem refl (S : List Nat) (w : World) : Keeps S w w := ⟨rfl, rfl, rfl, Nat.le_refl _, fun _ _ _ => rfl⟩
theorem trans (h : Keeps S a b) (k : Keeps T b c) (hs : ∀ i, i ∈ T → i < a.heap.size → i ∈ S) : Keeps S a c :=
  ⟨k.os.trans h.os, k.tape.trans h.tape, k.output.trans h.output, Nat.le_trans h.size k.size, fun i hi hn =>
    (k.block i (Nat.lt_of_lt_of_le hi h.size) (fun hT => hn (hs i hT hi))).trans (h.block i hi hn)⟩
theorem mono (h : Keeps S a b) (hs : ∀ i, i ∈ S → i < a.heap.size → i ∈ T) : Keeps T a b :=
  ⟨h.os, h.tape, h.output, h.size, fun i hi hn => h.block i hi (fun hS => hn (hs i hS hi))⟩
theorem drew (h : Keeps S a w) : Keeps S a w.drew := ⟨h.os, h.tape, h.output, h.size, h.block⟩
theorem of_below (h : Below w.heap.size w w') (S : List Nat) : Keeps S w w' := ⟨h.os, h.tape, h.output, h.size, fun k hk _ => h.block k hk⟩
theorem of_grown {row : Option Nat} (h : w.grownBy w' row) : Keeps row.toList w w' :=
  ⟨h.os, h.tape, h.output, h.size, fun k hk hn => h.block k hk (fun e => hn (by rw [← e]; simp))⟩
theorem alloc (h : Keeps S a w) (o : Obj) : Keeps S a (w.alloc o) :=
  h.trans (of_below ((Below.refl _ _).alloc (Nat.le_refl _) o) []) (fun _ h => by cases h)
theorem setCell (h : Keeps S a w) {p : Addr} (hp : p.block < a.heap.size → p.block ∈ S) (u : Value) : Keeps S a (w.setCell p u) :=
  h.trans (T := [p.block]) ⟨rfl, rfl, rfl, by simp [World.setCell], fun k _ hn => Below.heap_setCell _ _ _ _ (by simpa using hn)⟩
    (fun i hi hl => by obtain rfl : i = p.block := by simpa using hi
                       exact hp hl)
theorem below {B : Nat} (h : Keeps S a b) (hs : ∀ i, i ∈ S → B ≤ i) (hB : B ≤ a.heap.size) : Below B a b :=
  ⟨h.os, h.tape, h.output, h.size, fun k hk => h.block k (by omega) (fun hm => by have := hs k hm; omega)⟩
theorem cell (h : Keeps S w w') {p : Addr} (hp : p.block < w.heap.size) (hn : p.block ∉ S) : w'.cell? p = w.cell? p := World.cell?_of_block (w := w) (h.block _ hp hn)
theorem cell_some (h : Keeps S w w') {p : Addr} {v : Value} (hc : w.cell? p = some v) (hn : p.block ∉ S) : w'.cell? p = some v :=
  (h.cell (World.block_lt_of_cell? w p hc) hn).trans hc
end Keeps

/-- An int of 64 bits. -/
def Wide (z : Int) : Prop := -9223372036854775808 ≤ z ∧ z ≤ 9223372036854775807
theorem block_lt {w : World} {g : Nat} {o : Obj} (h : w.heap[g]? = some o) : g < w.heap.size := (Array.getElem?_eq_some_iff.1 h).1
theorem block_keep {S : List Nat} {w w' : World} {g : Nat} {o : Obj} (h : w.heap[g]? = some o) (hk : Keeps S w w') (hn : g ∉ S) : w'.heap[g]? = some o :=
  (hk.block g (block_lt h) hn).trans h
theorem owned_keep {S : List Nat} {w w' : World} {base : Nat} {e : TypeId} {size n : Nat} {v : Value} {xs : List Value} (h : w.ownsRow base e size v n xs) (hk : Keeps S w w') (hn : ∀ g, v.ownBlock = some g → g ∉ S) :
    w'.ownsRow base e size v n xs := by
  refine ⟨h.1, ?_⟩
  rcases h.2 with h2 | ⟨g, cap, cur, rfl, hb, hg, rest⟩
  · exact .inl h2
  · exact .inr ⟨g, cap, cur, rfl, hb, block_keep hg hk (hn g rfl), rest⟩

/-- The cells of bytes. -/
def u8s (l : List UInt8) : List Value := l.map fun c => .int .u8 ((c.toNat : Nat) : Int)
theorem u8s_length (l : List UInt8) : (u8s l).length = l.length := by simp [u8s]
theorem u8s_append (l m : List UInt8) : u8s (l ++ m) = u8s l ++ u8s m := by simp [u8s]
theorem u8s_get {l : List UInt8} {k : Nat} (h : k < l.length) : (u8s l)[k]? = some (.int .u8 ((l[k].toNat : Nat) : Int)) := by simp [u8s, h]
theorem u8s_one (l : List UInt8) : ∀ u ∈ u8s l, u.oneCell' = true := by
  intro u hu
  obtain ⟨_, _, rfl⟩ := List.mem_map.1 hu
  rfl

/-- A slice of bytes in block g that reads as l: nothing is asked of an empty one. -/
def BytesIn (w : World) (g : Nat) (A : Option Addr) (l : List UInt8) : Prop :=
  l = [] ∨ ∃ off, A = some ⟨g, off, none⟩ ∧ ∀ k (h : k < l.length), w.cell? ⟨g, off + k, none⟩ = some (.int .u8 ((l[k].toNat : Nat) : Int))
theorem BytesIn.keep {S : List Nat} {w w' : World} {g : Nat} {A : Option Addr} {l : List UInt8} (h : BytesIn w g A l) (hk : Keeps S w w') (hn : g ∉ S) : BytesIn w' g A l := by
  rcases h with h | ⟨off, hA, hc⟩
  · exact .inl h
  · exact .inr ⟨off, hA, fun k hl => hk.cell_some (hc k hl) hn⟩
theorem BytesIn.lt {w : World} {g : Nat} {A : Option Addr} {l : List UInt8} (h : BytesIn w g A l) (hl : 0 < l.length) : g < w.heap.size := by
  rcases h with rfl | ⟨off, _, hc⟩
  · simp at hl
  · exact World.block_lt_of_cell? w _ (hc 0 hl)
theorem BytesIn.of_own {w : World} {base : Nat} {e : TypeId} {A : Option Addr} {n c g : Nat} {l : List UInt8} (h : w.ownsRow base e 1 (.slice A n c) l.length (u8s l)) (hg : A = none ∨ ∃ o, A = some ⟨g, o, none⟩) : BytesIn w g A l := by
  rcases h.2 with ⟨hv, h0⟩ | ⟨g', cap, cur, hv, hb, hgg, hrest⟩
  · exact .inl (List.eq_nil_of_length_eq_zero h0)
  · have hA : A = some ⟨g', 0, none⟩ := by injection hv
    rcases hg with hg | ⟨o, hg⟩
    · rw [hg] at hA; cases hA
    · have : (⟨g, o, none⟩ : Addr) = ⟨g', 0, none⟩ := by rw [hg] at hA; exact Option.some.inj hA
      obtain ⟨rfl, rfl⟩ : g = g' ∧ o = 0 := by simpa using this
      refine .inr ⟨0, hg, fun k hk => ?_⟩
      have := h.cells (g := g) (by rw [hg]; rfl) k _ (u8s_get hk)
      rwa [Addr.add_lit] at this

theorem two_setCell0 {w : World} {b : Nat} {v x u : Value} {t : TypeId} (h : w.heap[b]? = some (.cells #[v, x] t (0, 0))) : (w.setCell ⟨b, 0, none⟩ u).heap[b]? = some (.cells #[u, x] t (0, 0)) := by
  simp [World.setCell, Array.getElem?_modify, h]
theorem two_setCell1 {w : World} {b : Nat} {v x u : Value} {t : TypeId} (h : w.heap[b]? = some (.cells #[v, x] t (0, 0))) : (w.setCell ⟨b, 1, none⟩ u).heap[b]? = some (.cells #[v, u] t (0, 0)) := by
  simp [World.setCell, Array.getElem?_modify, h]
theorem cell_of_two0 {w : World} {b : Nat} {v x : Value} {t : TypeId} (h : w.heap[b]? = some (.cells #[v, x] t (0, 0))) : w.cell? ⟨b, 0, none⟩ = some v := by simp [World.cell?, h]
theorem cell_of_two1 {w : World} {b : Nat} {v x : Value} {t : TypeId} (h : w.heap[b]? = some (.cells #[v, x] t (0, 0))) : w.cell? ⟨b, 1, none⟩ = some x := by simp [World.cell?, h]
theorem free_of_two {w : World} {b : Nat} {v x : Value} {t : TypeId} (h : w.heap[b]? = some (.cells #[v, x] t (0, 0))) (i : Nat) : w.frozen? ⟨b, i, none⟩ = false := by simp [World.frozen?, h]

theorem row_free {w : World} {b : Nat} {cs : Array Value} {t : TypeId} (h : w.heap[b]? = some (.cells cs t (0, 0))) (i : Nat) : w.frozen? ⟨b, i, none⟩ = false := by simp [World.frozen?, h]
theorem row_cell {w : World} {b : Nat} {cs : Array Value} {t : TypeId} (h : w.heap[b]? = some (.cells cs t (0, 0))) (i : Nat) : w.cell? ⟨b, i, none⟩ = cs[i]? := cell_of_row _ _ _ _ _ _ h
theorem row_set {w : World} {b : Nat} {cs : Array Value} {t : TypeId} (h : w.heap[b]? = some (.cells cs t (0, 0))) (j : Nat) (u : Value) : (w.setCell ⟨b, j, none⟩ u).heap[b]? = some (.cells (cs.setIfInBounds j u) t (0, 0)) := by
  simp [World.setCell, Array.getElem?_modify, h]
theorem Keeps.drewN {S : List Nat} {a w : World} (h : Keeps S a w) : ∀ (n : Nat), Keeps S a (w.drewN n)
  | 0 => h
  | n + 1 => (Keeps.drewN h n).drew

theorem bytes_apart {w : World} {x g : Nat} {A : Option Addr} {l : List UInt8} {cs : Array Value} {t : TypeId} (hx : w.heap[x]? = some (.cells cs t (0, 0))) (hn : ∀ (i : Nat) (c : Int), cs[i]? ≠ some (.int .u8 c)) (h : BytesIn w g A l) (hl : 0 < l.length) : g ≠ x := by
  rintro rfl
  rcases h with h | ⟨off, rfl, hcell⟩
  · subst h; simp at hl
  · have h1 := hcell 0 hl
    rw [row_cell hx] at h1
    exact hn _ _ h1
theorem infoU8 : (Tryz.prog.info? 5).map (fun i => (i.zero, i.size, i.bytes)) = some (some (.int .u8 0), 1, 1) := by kernel_rfl

theorem own_form {w : World} {base : Nat} {e : TypeId} {v : Value} {n : Nat} {xs : List Value} (h : w.ownsRow base e 1 v n xs) :
    (v = .slice none 0 0 ∧ n = 0) ∨ ∃ g cap, v = .slice (some ⟨g, 0, none⟩) n cap ∧ base ≤ g ∧ n ≤ cap ∧ cap ≤ maxLen := by
  rcases h.2 with h | ⟨g, cap, cur, hv, hb, _, hn, hm, _⟩
  · exact .inl h
  · exact .inr ⟨g, cap, hv, hb, hn, hm⟩
/-- What a copy of bytes is: in a new block. -/
def CopyAt (w : World) (l : List UInt8) (e : Ending) (w' : World) : Prop :=
  ∃ A cap g, e = .returned (.slice A l.length cap) ∧ BytesIn w' g A l ∧ w.heap.size ≤ g ∧ l.length ≤ cap ∧ cap ≤ maxLen ∧ (A = none → l = []) ∧ Keeps [] w w'
set_option maxHeartbeats 400000 in
theorem clone_any (w : World) (g : Nat) (A : Option Addr) (l : List UInt8) (cap : Nat) (hr : BytesIn w g A l) (hl : l.length ≤ 140737488355328) :
    Calls Tryz.prog 75 #[.slice A l.length cap] w (CopyAt w l) := by
  have q22 : ∀ (w : World) (a : Option Addr) (n c n' c' : Nat), (binOp .eql 62 (.slice a n c) (.slice none n' c')).run Tryz.prog w = .ok (.bool a.isNone) w := fun w a n c n' c' => Lib.run_eql_slice_nil w _ _ a n c n' c' Tryz.underlying62
  obtain ⟨i0, hi, hz0, hz1, hz2⟩ := info_parts infoU8
  have HR := Lib.hid hr
  clear hr
  by_cases hA : A = none
  · subst hA
    have hl0 : l = [] := by
      rcases HR.out with h | ⟨off, h, _⟩
      · exact h
      · cases h
    subst hl0
    go_enter Tryz.func75, Tryz.ntmps75
    go_wp2
    go_ret
    exact ⟨none, 0, w.heap.size, rfl, .inl rfl, Nat.le_refl _, Nat.le_refl _, Nat.zero_le _, fun _ => rfl, Keeps.refl _ _⟩
  · obtain ⟨a, rfl⟩ : ∃ a, A = some a := by
      cases A with
      | none => exact absurd rfl hA
      | some a => exact ⟨a, rfl⟩
    clear hA
    go_enter Tryz.func75, Tryz.ntmps75
    go_wp2_with (at_builtin; refine wpList_append_own _ rfl _ _ 62 rfl w.heap.size 5 i0 (.int .u8 0) 1 1 Tryz.underlying62 hi hz0 hz1 hz2 rfl (by decide) _ _ _ rfl (World.ownsRow_made w #[] 0 (Nat.le_refl _) (Nat.zero_le _) rfl) a l.length cap (u8s l) rfl ?qc1 ?qc2 ?qc3 ?qc4 ?qc5 ?qc6 ?_)
    case qc1 => simp [u8s]
    case qc2 =>
      intro j u hj
      have hjl : j < l.length := by
        have := (List.getElem?_eq_some_iff.1 hj).1
        simpa [u8s] using this
      rcases HR.out with h | ⟨off, h, hc⟩
      · subst h; simp at hjl
      · obtain rfl := Option.some.inj h
        have h1 := hc j hjl
        rw [u8s_get hjl] at hj
        obtain rfl := Option.some.inj hj
        rw [Addr.add_lit]
        exact ((Keeps.refl [] w).alloc _).cell_some h1 (by simp)
    case qc3 => exact u8s_one l
    case qc4 => unfold maxLen; omega
    case qc5 => omega
    case qc6 => simp
    intro v' w' h1 h2 h3
    have H1 := Lib.hid h1
    have H2 := Lib.hid h2
    have H3 := Lib.hid h3
    clear h1 h2 h3
    obtain ⟨g', cap', hv, hg', hc', hm'⟩ : ∃ g' cap', v' = .slice (some ⟨g', 0, none⟩) l.length cap' ∧ w.heap.size ≤ g' ∧ l.length ≤ cap' ∧ cap' ≤ maxLen := by
      rcases own_form H1.out with ⟨h, _⟩ | h
      · exact (H3.out h).elim
      · simpa using h
    subst hv
    go_wp2
    go_ret
    refine ⟨_, _, g', rfl, BytesIn.of_own (by simpa using H1.out) (.inr ⟨0, rfl⟩), hg', hc', hm', (fun h => by cases h), ?_⟩
    exact ((Keeps.refl [] w).alloc _).trans (Keeps.of_grown H2.out) (fun i hi hl => by
      have : i = w.heap.size := by simpa [Value.ownBlock] using hi
      omega)
theorem BytesIn.take {w : World} {g : Nat} {A : Option Addr} {l : List UInt8} (h : BytesIn w g A l) (k : Nat) : BytesIn w g A (l.take k) := by
  rcases h with rfl | ⟨off, rfl, hc⟩
  · exact .inl (by simp)
  · exact .inr ⟨off, rfl, fun j hj => by
      have : j < l.length := by simp at hj; omega
      rw [hc j this]; simp⟩
theorem BytesIn.drop {w : World} {g : Nat} {A : Option Addr} {l : List UInt8} {cap : Nat} (h : BytesIn w g A l) (k : Nat) (hcap : l.length ≤ cap) : BytesIn w g (if cap = k then A else A.map (·.add k)) (l.drop k) := by
  by_cases hk : l.length ≤ k
  · exact .inl (List.drop_eq_nil_of_le hk)
  · rcases h with rfl | ⟨off, rfl, hc⟩
    · simp at hk
    · rw [if_neg (by omega)]
      refine .inr ⟨off + k, by rw [Option.map_some, Addr.add_lit], fun j hj => ?_⟩
      have : k + j < l.length := by simp at hj; omega
      have h1 := hc (k + j) this
      rw [Nat.add_assoc, h1]; simp
theorem elemBytes : Tryz.prog.underlying 62 = some (.slice (Tryz.prog.elem 62)) := by
  rw [show Tryz.prog.elem 62 = 5 by kernel_rfl]; exact Tryz.underlying62
/-- b[:k], b[k:] of a slice of bytes, k of whatever kind. -/
theorem slice_high_k (kk : IntKind) {A : Option Addr} {n cap k : Nat} (hk : k ≤ n) (hcap : n ≤ cap) : ∃ A', (∀ w, (Instr.slice 62 (.slice A n cap) none (some (.int kk (k : Int))) none).run Tryz.prog w = .ok (.slice A' k cap) w) ∧
    ∀ w g l, l.length = n → BytesIn w g A l → BytesIn w g A' (l.take k) := by
  refine ⟨if cap = 0 then A else A.map (·.add 0), fun w => ?_, fun w g l _ h => ?_⟩
  · have := run_slice_h (P := Tryz.prog) w 62 A n cap elemBytes kk (k : Int) (by omega) (by omega)
    rw [this]
    have hs : (sizeOf (Tryz.prog.elem 62)).run Tryz.prog w = .ok 1 w := by kernel_rfl
    rw [hs]
    simp [Result.andThen, sliced]
  · have h2 := BytesIn.take h k
    by_cases hc : cap = 0
    · rw [if_pos hc]; exact h2
    · rw [if_neg hc]
      rcases h2 with h2 | ⟨off, rfl, hc2⟩
      · exact .inl h2
      · exact .inr ⟨off, by rw [Option.map_some, Addr.add_lit]; rfl, hc2⟩
theorem slice_low_k (kk : IntKind) {A : Option Addr} {n cap k : Nat} (hk : k ≤ n) (hcap : n ≤ cap) : ∃ A', (∀ w, (Instr.slice 62 (.slice A n cap) (some (.int kk (k : Int))) none none).run Tryz.prog w = .ok (.slice A' (n - k) (cap - k)) w) ∧
    ∀ w g l, l.length = n → BytesIn w g A l → BytesIn w g A' (l.drop k) := by
  refine ⟨if cap = k then A else A.map (·.add k), fun w => ?_, fun w g l hl h => BytesIn.drop h k (by omega)⟩
  have := run_slice_l (P := Tryz.prog) w 62 A n cap elemBytes kk (k : Int) (by omega) (by omega)
  rw [this]
  have hs : (sizeOf (Tryz.prog.elem 62)).run Tryz.prog w = .ok 1 w := by kernel_rfl
  rw [hs]
  simp [Result.andThen, sliced]

/-! ### b[:n:n] of a slice of bytes -/
theorem slice_full {A : Option Addr} {n cap : Nat} (hcap : n ≤ cap) : ∃ A', (∀ w, (Instr.slice 62 (.slice A n cap) none (some (.int .i64 (n : Int))) (some (.int .i64 (n : Int)))).run Tryz.prog w = .ok (.slice A' n n) w) ∧
    ∀ w g l, l.length = n → BytesIn w g A l → BytesIn w g A' l ∧ (A' = none → l = []) := by
  refine ⟨if n = 0 then A else A.map (·.add 0), fun w => ?_, fun w g l hl h => ?_⟩
  · have := run_slice_hm (P := Tryz.prog) w 62 A n cap elemBytes .i64 .i64 (n : Int) (n : Int) (by omega) (by omega) (by omega)
    rw [this]
    have hs : (sizeOf (Tryz.prog.elem 62)).run Tryz.prog w = .ok 1 w := by kernel_rfl
    rw [hs]
    simp [Result.andThen, sliced]
  · by_cases hc : n = 0
    · have h0 : l = [] := List.eq_nil_of_length_eq_zero (by omega)
      exact ⟨.inl h0, fun _ => h0⟩
    · rw [if_neg hc]
      rcases h with h | ⟨off, rfl, hc2⟩
      · subst h; simp at hl; omega
      · exact ⟨.inr ⟨off, by rw [Option.map_some, Addr.add_lit]; rfl, hc2⟩, fun h => by cases h⟩
end Go.Proofs.YtbanpdeganlndaaGreatDoor
namespace Go.Proofs.YtbanpdeganlndaaGreatDoor.Cd
open Go.RowKit

/-- A writer at block p, its bytes l in block g (where it has some). -/
def WrAt (w : World) (p g : Nat) (l : List UInt8) : Prop :=
  ∃ v, w.heap[p]? = some (.cells #[v] 186 (0, 0)) ∧ w.ownsRow 0 5 1 v l.length (u8s l) ∧ (v.ownBlock = none ∨ v.ownBlock = some g) ∧ g < w.heap.size
theorem WrAt.keep {S : List Nat} {w w' : World} {p g : Nat} {l : List UInt8} (h : WrAt w p g l) (hk : Keeps S w w') (hp : p ∉ S) (hg : g ∉ S) : WrAt w' p g l := by
  obtain ⟨v, h1, h2, h3, h4⟩ := h
  refine ⟨v, block_keep h1 hk hp, owned_keep h2 hk (fun k hv => ?_), h3, Nat.lt_of_lt_of_le h4 hk.size⟩
  rcases h3 with h3 | h3 <;> rw [h3] at hv
  · cases hv
  · obtain rfl := Option.some.inj hv; exact hg
theorem WrAt.lt {w : World} {p g : Nat} {l : List UInt8} (h : WrAt w p g l) : p < w.heap.size ∧ g < w.heap.size := by
  obtain ⟨v, h1, _, _, h4⟩ := h
  exact ⟨block_lt h1, h4⟩

/-- A reader at block p, what is left of its bytes in block g; f: has it failed? -/
def RdAt (w : World) (p g : Nat) (l : List UInt8) (f : Bool) : Prop :=
  ∃ A cap, w.heap[p]? = some (.cells #[.slice A l.length cap, .bool f] 138 (0, 0)) ∧ BytesIn w g A l ∧ l.length ≤ cap ∧ cap ≤ maxLen
theorem RdAt.keep {S : List Nat} {w w' : World} {p g : Nat} {l : List UInt8} {f : Bool} (h : RdAt w p g l f) (hk : Keeps S w w') (hp : p ∉ S) (hg : g ∉ S) : RdAt w' p g l f := by
  obtain ⟨A, cap, h1, h2, h3, h4⟩ := h
  exact ⟨A, cap, block_keep h1 hk hp, h2.keep hk hg, h3, h4⟩
theorem RdAt.lt {w : World} {p g : Nat} {l : List UInt8} {f : Bool} (h : RdAt w p g l f) : p < w.heap.size := by
  obtain ⟨A, cap, h1, _⟩ := h
  exact block_lt h1
/-- The bytes lie in another block than the reader. -/
theorem RdAt.apart {w : World} {p g off : Nat} {l : List UInt8} {cs : Array Value} (h : w.heap[p]? = some (.cells cs 138 (0, 0))) (hn : ∀ (i : Nat) (c : Int), cs[i]? ≠ some (Value.int .u8 c))
    (hl : 0 < l.length) (hc : ∀ k (h : k < l.length), w.cell? ⟨g, off + k, none⟩ = some (.int .u8 ((l[k].toNat : Nat) : Int))) : g ≠ p := by
  rintro rfl
  have h1 := hc 0 hl
  rw [cell_of_row w g (off + 0) cs _ (0, 0) h] at h1
  exact hn _ _ h1
end Go.Proofs.YtbanpdeganlndaaGreatDoor.Cd
namespace Go.Proofs.YtbanpdeganlndaaGreatDoor.Cd
open Go.RowKit

def NewAt (w : World) (e : Ending) (w' : World) : Prop := ∃ p, e = .returned (.pointer (some ⟨p, 0, none⟩)) ∧ w.heap.size ≤ p ∧ WrAt w' p p [] ∧ Keeps [] w w'
set_option maxHeartbeats 400000 in
theorem newWriter_any (w : World) : Calls Tryz.prog 123 #[] w (NewAt w) := by
  go_enter Tryz.func123, Tryz.ntmps123
  go_wp2
  go_ret
  refine ⟨w.heap.size, rfl, Nat.le_refl _, ⟨.slice none 0 0, ?_, World.ownsRow_nil _ _ _ _, .inl rfl, by simp⟩, (Keeps.refl _ _).alloc _⟩
  exact heap_alloc_new w _

/-- How a chain of panics stands behind need. -/
def refused : List PanicEntry := [{ v := .iface 28 (.int .i64 20), recovered := false }]
theorem need_yes (w : World) : Calls Tryz.prog 117 #[.bool true] w fun e w' => e = .returned (.tuple #[]) ∧ w = w' := by
  go_enter Tryz.func117, Tryz.ntmps117
  go_wp2
  go_end0
  exact ⟨rfl, rfl⟩
theorem need_no (w : World) : Calls Tryz.prog 117 #[.bool false] w fun e w' => e = .panicked refused ∧ w = w' := by
  go_enter Tryz.func117, Tryz.ntmps117
  go_wp2
  exact ⟨rfl, rfl, rfl⟩

theorem WrAt.form {w : World} {p g : Nat} {l : List UInt8} (h : WrAt w p g l) : ∃ A cap, w.heap[p]? = some (.cells #[.slice A l.length cap] 186 (0, 0)) ∧ BytesIn w g A l ∧
    w.ownsRow 0 5 1 (.slice A l.length cap) l.length (u8s l) ∧ (A = none ∨ A = some ⟨g, 0, none⟩) ∧ (A = none → l = []) := by
  obtain ⟨v, h1, h2, h3, _⟩ := h
  rcases own_form h2 with ⟨rfl, h0⟩ | ⟨g', cap, rfl, _, _, _⟩
  · obtain rfl := List.eq_nil_of_length_eq_zero h0
    exact ⟨none, 0, h1, .inl rfl, h2, .inl rfl, fun _ => rfl⟩
  · have : g' = g := by
      rcases h3 with h3 | h3
      · simp [Value.ownBlock] at h3
      · simpa [Value.ownBlock] using h3
    subst this
    exact ⟨_, _, h1, BytesIn.of_own h2 (.inr ⟨0, rfl⟩), h2, .inr rfl, fun h => by cases h⟩

set_option maxHeartbeats 400000 in
theorem bytes_any (w : World) (p g : Nat) (l : List UInt8) (hw : WrAt w p g l) (hl : l.length ≤ 140737488355328) :
    Calls Tryz.prog 126 #[.pointer (some ⟨p, 0, none⟩)] w (CopyAt w l) := by
  obtain ⟨A, cap, hb, hr, _, _⟩ := hw.form
  have hc := cell_of_one hb
  have HR := Lib.hid hr
  clear hr hb hw
  go_enter Tryz.func126, Tryz.ntmps126
  go_wp2_with fail
  refine (clone_any w g A l cap HR.out hl).mono ?_
  rintro e w' ⟨A', cap', g', rfl, h⟩
  have H := Lib.hid h
  clear h
  go_wp2
  go_ret
  exact ⟨A', cap', g', rfl, H.out⟩

def ReaderAt (w : World) (l : List UInt8) (e : Ending) (w' : World) : Prop :=
  ∃ p g, e = .returned (.pointer (some ⟨p, 0, none⟩)) ∧ RdAt w' p g l false ∧ w.heap.size ≤ p ∧ w.heap.size ≤ g ∧ Keeps [] w w'
set_option maxHeartbeats 400000 in
theorem newReader_any (w : World) (g : Nat) (A : Option Addr) (l : List UInt8) (cap : Nat) (hr : BytesIn w g A l) (hl : l.length ≤ 140737488355328) :
    Calls Tryz.prog 47 #[.slice A l.length cap] w (ReaderAt w l) := by
  have HR := Lib.hid hr
  clear hr
  go_enter Tryz.func47, Tryz.ntmps47
  go_wp2_with fail
  refine (clone_any w g A l cap HR.out hl).mono ?_
  rintro e w' ⟨A', cap', g', rfl, h⟩
  have H := Lib.hid h
  clear h
  go_wp2
  go_ret
  obtain ⟨h1, h2, h3, h4, _, h5⟩ := H.out
  have hk : Keeps [] w' (w'.alloc (.cells #[.slice A' l.length cap', .bool false] 138)) := (Keeps.refl _ _).alloc _
  exact ⟨w'.heap.size, g', rfl, ⟨A', cap', heap_alloc_new w' _, h1.keep hk (by simp), h3, h4⟩, h5.size, h2, h5.trans hk (by simp)⟩
end Go.Proofs.YtbanpdeganlndaaGreatDoor.Cd
namespace Go.Proofs.YtbanpdeganlndaaGreatDoor.Cd.M

/-- A number's bytes, seven bits in each. -/
def enc (n : Nat) : List UInt8 := if n < 128 then [UInt8.ofNat n] else UInt8.ofNat (n % 128 + 128) :: enc (n / 128)
termination_by n
decreasing_by omega
theorem enc_small {n : Nat} (h : n < 128) : enc n = [UInt8.ofNat n] := by rw [enc, if_pos h]
theorem enc_big {n : Nat} (h : ¬ n < 128) : enc n = UInt8.ofNat (n % 128 + 128) :: enc (n / 128) := by rw [enc, if_neg h]
theorem enc_pos (n : Nat) : 0 < (enc n).length := by
  by_cases h : n < 128
  · rw [enc_small h]; simp
  · rw [enc_big h]; simp
theorem enc_len : ∀ (k n : Nat), n < 128 ^ (k + 1) → (enc n).length ≤ k + 1
  | 0, n, h => by rw [enc_small (by simpa using h)]; simp
  | k + 1, n, h => by
    by_cases h1 : n < 128
    · rw [enc_small h1]; simp
    · rw [enc_big h1]
      have := enc_len k (n / 128) (by rw [Nat.pow_succ] at h; exact Nat.div_lt_of_lt_mul (by rw [Nat.mul_comm]; exact h))
      simp
      omega
theorem enc_len64 {n : Nat} (h : n < 18446744073709551616) : (enc n).length ≤ 10 := enc_len 9 n (Nat.lt_of_lt_of_le h (by decide))
theorem enc_mono (n : Nat) : ∀ m, m ≤ n → (enc m).length ≤ (enc n).length := by
  induction n using Nat.strongRecOn with
  | _ n ih =>
    intro m hm
    by_cases h1 : m < 128
    · rw [enc_small h1]; exact enc_pos n
    · have h2 : ¬ n < 128 := by omega
      rw [enc_big h1, enc_big h2]
      have := ih (n / 128) (by omega) (m / 128) (by omega)
      simp
      exact this

/-- A number read: i bytes of it are behind, they come to acc. -/
def dec (i acc : Nat) : List UInt8 → Option (Nat × List UInt8)
  | [] => none
  | b :: r =>
    if i < 9 ∨ b.toNat ≤ 1 then
      if b.toNat < 128 then (if b.toNat ≠ 0 ∨ i = 0 then some (acc + b.toNat % 128 * 128 ^ i, r) else none)
      else dec (i + 1) (acc + b.toNat % 128 * 128 ^ i) r
    else none
theorem dec_nil (i acc : Nat) : dec i acc [] = none := rfl
theorem dec_cons (i acc : Nat) (b : UInt8) (r : List UInt8) : dec i acc (b :: r) =
    if i < 9 ∨ b.toNat ≤ 1 then
      if b.toNat < 128 then (if b.toNat ≠ 0 ∨ i = 0 then some (acc + b.toNat % 128 * 128 ^ i, r) else none)
      else dec (i + 1) (acc + b.toNat % 128 * 128 ^ i) r
    else none := rfl
theorem dec_end {i acc c : Nat} {b : UInt8} {r : List UInt8} (hc : c = b.toNat) (h1 : i < 9 ∨ c ≤ 1) (h2 : c < 128) (h3 : c ≠ 0 ∨ i = 0) : dec i acc (b :: r) = some (acc + c % 128 * 128 ^ i, r) := by
  subst hc; rw [dec_cons, if_pos h1, if_pos h2, if_pos h3]
theorem dec_zero {i acc c : Nat} {b : UInt8} {r : List UInt8} (hc : c = b.toNat) (h2 : c = 0) (h3 : i ≠ 0) : dec i acc (b :: r) = none := by
  subst hc; rw [dec_cons, if_pos (by omega), if_pos (by omega), if_neg (by omega)]
theorem dec_more {i acc c : Nat} {b : UInt8} {r : List UInt8} (hc : c = b.toNat) (h1 : i < 9) (h2 : ¬ c < 128) : dec i acc (b :: r) = dec (i + 1) (acc + c % 128 * 128 ^ i) r := by
  subst hc; rw [dec_cons, if_pos (.inl h1), if_neg h2]
theorem dec_over {i acc c : Nat} {b : UInt8} {r : List UInt8} (hc : c = b.toNat) (h1 : ¬ i < 9) (h2 : ¬ c ≤ 1) : dec i acc (b :: r) = none := by
  subst hc; rw [dec_cons, if_neg (by omega)]
theorem u8_toNat {n : Nat} (h : n < 256) : (UInt8.ofNat n).toNat = n := by simp; omega

theorem pow_le_64 {i : Nat} (h : i ≤ 9) : 128 ^ i ≤ 9223372036854775808 := Nat.le_trans (Nat.pow_le_pow_right (by decide) h) (by decide)
theorem pow_9 : 128 ^ 9 = 9223372036854775808 := by decide
/-- What is written is read back, whatever follows. -/
theorem dec_enc (n : Nat) : ∀ (i acc : Nat) (r : List UInt8), i ≤ 9 → n * 128 ^ i < 18446744073709551616 → (i = 0 ∨ n ≠ 0) → dec i acc (enc n ++ r) = some (acc + n * 128 ^ i, r) := by
  induction n using Nat.strongRecOn with
  | _ n ih =>
    intro i acc r hi hn h0
    have h9 : i = 9 → n ≤ 1 := by
      intro h
      subst h
      rw [pow_9] at hn
      omega
    by_cases h1 : n < 128
    · rw [enc_small h1, List.singleton_append, dec_cons, u8_toNat (by omega), if_pos (by omega), if_pos h1, if_pos (by omega), Nat.mod_eq_of_lt h1]
    · have hi9 : i < 9 := by
        rcases Nat.lt_or_ge i 9 with h | h
        · exact h
        · have := h9 (by omega); omega
      rw [enc_big h1, List.cons_append, dec_cons, u8_toNat (by omega), if_pos (.inl hi9), if_neg (by omega)]
      have e : n = 128 * (n / 128) + n % 128 := (Nat.div_add_mod n 128).symm
      have hs : n * 128 ^ i = n / 128 * 128 ^ (i + 1) + n % 128 * 128 ^ i := by
        rw [Nat.pow_succ]
        conv => lhs; rw [e]
        rw [Nat.add_mul, Nat.mul_comm 128 (n / 128), Nat.mul_assoc, Nat.mul_comm 128 (128 ^ i)]
      rw [ih (n / 128) (by omega) (i + 1) _ r (by omega) (by omega) (by omega)]
      have e2 : (n % 128 + 128) % 128 = n % 128 := by omega
      rw [e2, hs]
      congr 2
      omega
theorem dec_back {n : Nat} (h : n < 18446744073709551616) (r : List UInt8) : dec 0 0 (enc n ++ r) = some (n, r) := by
  have := dec_enc n 0 0 r (by omega) (by simpa using h) (.inl rfl)
  simpa using this
theorem enc_inj {m n : Nat} (hm : m < 18446744073709551616) (hn : n < 18446744073709551616) (h : enc m = enc n) : m = n := by
  have h1 := dec_back hm []
  have h2 := dec_back hn []
  rw [h, h2] at h1
  simpa using h1.symm
/-- What is cut off within a number can't be read. -/
theorem dec_cut (n : Nat) : ∀ (i acc k : Nat), k < (enc n).length → dec i acc ((enc n).take k) = none := by
  induction n using Nat.strongRecOn with
  | _ n ih =>
    intro i acc k hk
    by_cases h1 : n < 128
    · rw [enc_small h1] at hk ⊢
      have : k = 0 := by simpa using hk
      subst this
      rfl
    · rw [enc_big h1] at hk ⊢
      cases k with
      | zero => rfl
      | succ k =>
        rw [List.take_succ_cons, dec_cons, u8_toNat (by omega), if_neg (show ¬ n % 128 + 128 < 128 by omega), ih (n / 128) (by omega) _ _ k (by simpa using hk)]
        split <;> rfl
/-- What is read: a number of 64 bits, fewer bytes left. -/
theorem dec_some : ∀ (l : List UInt8) (i acc n : Nat) (r : List UInt8), i ≤ 9 → acc < 128 ^ i → dec i acc l = some (n, r) → n < 18446744073709551616 ∧ ∃ k, 0 < k ∧ r = l.drop k ∧ k ≤ l.length
  | [], i, acc, n, r, _, _, h => by cases h
  | b :: l, i, acc, n, r, hi, ha, h => by
    have hb : b.toNat < 256 := b.toNat_lt
    rw [dec_cons] at h
    split at h
    · rename_i h9
      have hpow := pow_le_64 hi
      have hx : b.toNat % 128 * 128 ^ i ≤ 127 * 128 ^ i := Nat.mul_le_mul_right _ (by omega)
      have hnew : acc + b.toNat % 128 * 128 ^ i < 128 ^ (i + 1) := by rw [Nat.pow_succ]; omega
      split at h
      · split at h
        · obtain ⟨rfl, rfl⟩ : _ = n ∧ l = r := by simpa using h
          refine ⟨?_, 1, by omega, rfl, by simp⟩
          rcases h9 with h9 | h9
          · have h10 := pow_le_64 (show i + 1 ≤ 9 by omega)
            omega
          · have h11 : b.toNat % 128 * 128 ^ i ≤ 1 * 128 ^ i := Nat.mul_le_mul_right _ (by omega)
            omega
        · cases h
      · have h10 : i < 9 := by omega
        obtain ⟨h1, k, h2, h3, h4⟩ := dec_some l (i + 1) _ n r (by omega) hnew h
        exact ⟨h1, k + 1, by omega, by rw [h3]; rfl, by simp; omega⟩
    · cases h

/-- An integer as a number. -/
def zig (z : Int) : Nat := if z < 0 then (-(z + 1)).toNat * 2 + 1 else z.toNat * 2
def unzig (n : Nat) : Int := if n % 2 = 1 then -((n / 2 : Nat) : Int) - 1 else ((n / 2 : Nat) : Int)
theorem zig_lt {z : Int} (h1 : -9223372036854775808 ≤ z) (h2 : z ≤ 9223372036854775807) : zig z < 18446744073709551616 := by
  unfold zig; split <;> omega
theorem unzig_zig (z : Int) : unzig (zig z) = z := by
  unfold zig
  split
  · unfold unzig
    rw [if_pos (by omega)]
    omega
  · unfold unzig
    rw [if_neg (by omega)]
    omega
theorem zig_inj {a b : Int} (h : zig a = zig b) : a = b := by rw [← unzig_zig a, ← unzig_zig b, h]
theorem unzig_range {n : Nat} (h : n < 18446744073709551616) : -9223372036854775808 ≤ unzig n ∧ unzig n ≤ 9223372036854775807 := by
  unfold unzig; split <;> omega

/-- A text read. -/
def decText (l : List UInt8) : Option (List UInt8 × List UInt8) :=
  match dec 0 0 l with
  | some (n, r) => if n ≤ r.length then some (r.take n, r.drop n) else none
  | none => none
theorem decText_none {l : List UInt8} (h : dec 0 0 l = none) : decText l = none := by unfold decText; rw [h]
theorem decText_long {l : List UInt8} {n : Nat} {r : List UInt8} (h : dec 0 0 l = some (n, r)) (hn : ¬ n ≤ r.length) : decText l = none := by unfold decText; rw [h]; exact if_neg hn
theorem decText_some {l : List UInt8} {n : Nat} {r : List UInt8} (h : dec 0 0 l = some (n, r)) (hn : n ≤ r.length) : decText l = some (r.take n, r.drop n) := by unfold decText; rw [h]; exact if_pos hn
def encText (s : List UInt8) : List UInt8 := enc s.length ++ s
theorem decText_back {s : List UInt8} (h : s.length < 18446744073709551616) (r : List UInt8) : decText (encText s ++ r) = some (s, r) := by
  unfold encText
  rw [decText_some (n := s.length) (r := s ++ r) (by rw [List.append_assoc]; exact dec_back h _) (by simp)]
  simp
theorem decText_cut {s : List UInt8} (h : s.length < 18446744073709551616) {k : Nat} (hk : k < (encText s).length) : decText ((encText s).take k) = none := by
  unfold encText at hk ⊢
  by_cases h1 : k < (enc s.length).length
  · rw [List.take_append_of_le_length (by omega)]
    exact decText_none (dec_cut _ _ _ _ h1)
  · rw [List.take_append, List.take_of_length_le (by omega)]
    exact decText_long (dec_back h _) (by simp at hk ⊢; omega)
def encBool (b : Bool) : List UInt8 := [if b then 1 else 0]
def decBool : List UInt8 → Option (Bool × List UInt8)
  | [] => none
  | b :: r => if b.toNat ≤ 1 then some (b == 1, r) else none

/-- The steps of the text on bytes. -/
theorem or_128 {v : Nat} : bits .or .u8 ((v : Int) % 256) 128 = ((v % 128 + 128 : Nat) : Int) := by
  have h := u8_or_nat (v % 256) 128 (by omega) (by omega)
  have e : ∀ x, x < 256 → x ||| 128 = x % 128 + 128 := by decide +kernel
  rw [e _ (by omega)] at h
  have e2 : v % 256 % 128 = v % 128 := by omega
  rw [e2] at h
  simpa using h
theorem andNot_128 {b : Nat} (h : b < 256) : bits .andNot .u8 (b : Int) 128 = ((b % 128 : Nat) : Int) := by
  have h1 := u8_andNot_nat b 128 h (by omega)
  have e : ∀ x, x < 256 → x &&& (255 - 128) = x % 128 := by decide +kernel
  rw [e _ h] at h1
  exact h1
theorem or_join {acc c i : Nat} (ha : acc < 128 ^ i) (hc : acc + c * 128 ^ i < 18446744073709551616) : bits .or .u64 (acc : Int) ((c * 128 ^ i : Nat) : Int) = ((acc + c * 128 ^ i : Nat) : Int) := by
  rw [u64_or_nat _ _ (by omega) (by omega)]
  congr 1
  have e : 128 ^ i = 2 ^ (7 * i) := by rw [Nat.pow_mul]
  rw [e] at ha ⊢
  have h := nat_join (7 * i) (c * 2 ^ (7 * i)) acc (Nat.mul_mod_left _ _) ha
  rw [Nat.or_comm, h, Nat.add_comm]
/-- A byte laid at its place: the steps of the text. -/
theorem lay_steps {i s acc c : Nat} (hi : i ≤ 9) (hs : s = 7 * i) (hacc : acc < 128 ^ i) (hc : c < 256) (h9 : i < 9 ∨ c ≤ 1) : ∃ m x acc' : Nat,
    bits .andNot .u8 (c : Int) 128 = (m : Int) ∧ m < 128 ∧ IntKind.u64.wrap ((m : Int) * 2 ^ s) = (x : Int) ∧ bits .or .u64 (acc : Int) (x : Int) = (acc' : Int) ∧
    acc' = acc + c % 128 * 128 ^ i ∧ acc' < 18446744073709551616 ∧ (i < 9 → acc' < 128 ^ (i + 1)) := by
  have hpow := pow_le_64 hi
  have hx : c % 128 * 128 ^ i ≤ 127 * 128 ^ i := Nat.mul_le_mul_right _ (by omega)
  have hnew : acc + c % 128 * 128 ^ i < 128 ^ (i + 1) := by rw [Nat.pow_succ]; omega
  have hlt : acc + c % 128 * 128 ^ i < 18446744073709551616 := by
    rcases h9 with h9 | h9
    · have h10 := pow_le_64 (show i + 1 ≤ 9 by omega)
      omega
    · have h11 : c % 128 * 128 ^ i ≤ 1 * 128 ^ i := Nat.mul_le_mul_right _ (by omega)
      omega
  refine ⟨c % 128, c % 128 * 128 ^ i, acc + c % 128 * 128 ^ i, andNot_128 hc, by omega, ?_, or_join hacc hlt, rfl, hlt, fun _ => hnew⟩
  rw [IntKind.wrap_u64, hs, Int.pow_mul]
  have e : ((c % 128 : Nat) : Int) * (2 ^ 7) ^ i = ((c % 128 * 128 ^ i : Nat) : Int) := by simp
  rw [e]
  omega
end Go.Proofs.YtbanpdeganlndaaGreatDoor.Cd.M
namespace Go.Proofs.YtbanpdeganlndaaGreatDoor.Cd
open Go.RowKit

/-- A part was read: v, l' is left. -/
def Took (v : Value) (l' : List UInt8) (p g : Nat) (f : Bool) (w : World) (e : Ending) (w' : World) : Prop := e = .returned v ∧ RdAt w' p g l' f ∧ Keeps [p] w w'
/-- A part could not be read: a panic. -/
def Fell (p g : Nat) (f : Bool) (w : World) (e : Ending) (w' : World) : Prop := e = .panicked refused ∧ ∃ l', RdAt w' p g l' f ∧ Keeps [p] w w'

set_option maxHeartbeats 400000 in
theorem next_none (w : World) (p g : Nat) (f : Bool) (hr : RdAt w p g [] f) :
    Calls Tryz.prog 116 #[.pointer (some ⟨p, 0, none⟩)] w (Fell p g f w) := by
  obtain ⟨A, cap, hb, hbi, hc, hm⟩ := id hr
  have hc0 := cell_of_two0 hb
  have HR := Lib.hid hr
  clear hb hbi hc hm hr
  go_enter Tryz.func116, Tryz.ntmps116
  go_wp2_with fail
  refine (need_no w).mono ?_
  rintro e w' ⟨rfl, rfl⟩
  go_wp2
  exact ⟨rfl, rfl, [], HR.out, Keeps.refl _ _⟩

set_option maxHeartbeats 400000 in
theorem next_some (w : World) (p g : Nat) (f : Bool) (b : UInt8) (l : List UInt8) (hr : RdAt w p g (b :: l) f) :
    Calls Tryz.prog 116 #[.pointer (some ⟨p, 0, none⟩)] w (Took (.int .u8 ((b.toNat : Nat) : Int)) l p g f w) := by
  obtain ⟨A, cap, hb, hbi, hc, hm⟩ := id hr
  rcases hbi with hbi | ⟨off, rfl, hcell⟩
  · cases hbi
  · have hc0 := cell_of_two0 hb
    have hf0 := free_of_two hb 0
    have hgp : g ≠ p := RdAt.apart hb (by intro i c; match i with | 0 => simp | 1 => simp | i + 2 => simp) (by simp) hcell
    have hcb : w.cell? ⟨g, off, none⟩ = some (.int .u8 ((b.toNat : Nat) : Int)) := hcell 0 (by simp)
    have HCELL := Lib.hid hcell
    have HB := Lib.hid hb
    have HL : l.length + 1 ≤ cap := by simpa using hc
    unfold maxLen at hm
    clear hb hr hcell hc
    by_cases hcap : cap = 1
    · obtain rfl : l = [] := List.eq_nil_of_length_eq_zero (by omega)
      subst hcap
      go_enter Tryz.func116, Tryz.ntmps116
      go_wp2_with fail
      refine (need_yes w).mono ?_
      rintro e w' ⟨rfl, rfl⟩
      go_wp2
      go_ret
      exact ⟨rfl, ⟨_, _, two_setCell0 HB.out, .inl rfl, Nat.le_refl _, Nat.zero_le _⟩, (Keeps.refl _ _).setCell (by simp) _⟩
    · have hcap1 : 1 < cap := by omega
      go_enter Tryz.func116, Tryz.ntmps116
      go_wp2_with fail
      refine (need_yes w).mono ?_
      rintro e w' ⟨rfl, rfl⟩
      go_wp2
      go_ret
      refine ⟨rfl, ⟨_, _, two_setCell0 HB.out, .inr ⟨off + 1, rfl, fun k hk => ?_⟩, by omega, by unfold maxLen; omega⟩, (Keeps.refl _ _).setCell (by simp) _⟩
      rw [World.cell?_setCell_other _ _ _ _ (by simp)]
      have := HCELL.out (k + 1) (by simpa using hk)
      rw [show off + 1 + k = off + (k + 1) by omega, this]
      rfl

/-- A number was read, or none could be. -/
def NumOut (R : Option (Nat × List UInt8)) (p g : Nat) (f : Bool) (w : World) (e : Ending) (w' : World) : Prop :=
  match R with
  | some (n, r) => Took (.int .u64 (n : Int)) r p g f w e w'
  | none => Fell p g f w e w'

theorem num_end {R : Option (Nat × List UInt8)} {p g n a : Nat} {f : Bool} {r : List UInt8} {w wr w2 : World} (hR : R = some (n, r)) (hn : a = n) (h1 : RdAt w2 p g r f) (hk : Keeps [p] w wr) (h2 : Keeps [p] wr w2) :
    NumOut R p g f w (.returned (.int .u64 (a : Int))) w2 := by
  subst hR hn
  exact ⟨rfl, h1, hk.trans h2 (fun _ h _ => h)⟩
theorem num_fell {R : Option (Nat × List UInt8)} {p g : Nat} {f : Bool} {r : List UInt8} {w wr w2 : World} (hR : R = none) (h1 : RdAt w2 p g r f) (hk : Keeps [p] w wr) (h2 : Keeps [p] wr w2) :
    NumOut R p g f w (.panicked refused) w2 := by
  subst hR
  exact ⟨rfl, r, h1, hk.trans h2 (fun _ h _ => h)⟩

set_option maxHeartbeats 1000000 in
set_option maxRecDepth 100000 in
theorem num_out (w : World) (p g : Nat) (f : Bool) (l : List UInt8) (hr : RdAt w p g l f) :
    Calls Tryz.prog 142 #[.pointer (some ⟨p, 0, none⟩)] w (NumOut (M.dec 0 0 l) p g f w) := by
  obtain ⟨R, hR⟩ : ∃ R, M.dec 0 0 l = R := ⟨_, rfl⟩
  rw [hR]
  have HR := Lib.hid hR
  have HW := Lib.hid hr
  clear hR hr
  go_enter Tryz.func142, Tryz.ntmps142
  go_wp2
  go_loopw [3, 4] (fun nv sv wr => ∃ (i acc s : Nat) (l' : List UInt8), i ≤ 9 ∧ nv = .int .u64 (acc : Int) ∧ sv = .int .i64 (s : Int) ∧ s = 7 * i ∧ acc < 128 ^ i ∧ RdAt wr p g l' f ∧ M.dec i acc l' = R ∧ Keeps [p] w wr) (fun _ sv _ => 70 - (Go.RowKit.intOf sv).toNat)
  case atStart => exact ⟨0, 0, 0, l, by omega, rfl, rfl, rfl, by simp, HW.out, HR.out, Keeps.refl _ _⟩
  case round =>
    obtain ⟨i, acc, s, l', hi, rfl, rfl, hs, hacc, hrd, hdec, hk⟩ := hrel
    have hs63 : s ≤ 63 := by omega
    have HS := Lib.hid hs
    have HA := Lib.hid hacc
    have HD := Lib.hid hdec
    have HK := Lib.hid hk
    have HRD := Lib.hid hrd
    clear hs hacc hdec hk hrd
    cases l' with
    | nil =>
      go_wp2_with fail
      refine (next_none wr p g f HRD.out).mono ?_
      rintro e w' ⟨rfl, l2, h1, h2⟩
      have H1 := Lib.hid h1
      have H2 := Lib.hid h2
      clear h1 h2
      have HE := Lib.hid (M.dec_nil i acc)
      go_wp2
      exact ⟨rfl, num_fell (HD.out.symm.trans HE.out) H1.out HK.out H2.out⟩
    | cons b r =>
      go_wp2_with fail
      refine (next_some wr p g f b r HRD.out).mono ?_
      rintro e w2 ⟨rfl, h1, h2⟩
      have H1 := Lib.hid h1
      have H2 := Lib.hid h2
      clear h1 h2
      obtain ⟨c, hc⟩ : ∃ c, c = b.toNat := ⟨_, rfl⟩
      have hc256 : c < 256 := by rw [hc]; exact b.toNat_lt
      rw [← hc]
      have HC := Lib.hid hc
      clear hc
      by_cases hgo : s < 63 ∨ c ≤ 1
      · obtain ⟨m, x, acc', e1, hm, e3, e4, hacc', hlt', hnew⟩ := M.lay_steps hi HS.out HA.out hc256 (by have := HS.out; omega)
        have HACC := Lib.hid hacc'
        have HLT := Lib.hid hlt'
        have HNEW := Lib.hid hnew
        clear hacc' hlt' hnew
        by_cases hc128 : c < 128
        · by_cases hc0 : c = 0
          · have hb0 : ((c : Int) != 0) = false := by rw [hc0]; rfl
            by_cases hs0 : s = 0
            · have hbs : ((s : Int) == 0) = true := by rw [hs0]; rfl
              have HE := Lib.hid (M.dec_end (acc := acc) (r := r) HC.out (i := i) (by have := HS.out; omega) hc128 (.inr (by have := HS.out; omega)))
              have HC0 := Lib.hid hc0
              have hlo : s < 63 := by omega
              have HS0 := Lib.hid hs0
              clear hc0 hs0 hgo
              go_wp2_with fail
              refine (need_yes w2).mono ?_
              rintro e w' ⟨rfl, rfl⟩
              go_wp2_with fail
              refine (need_yes w2).mono ?_
              rintro e w' ⟨rfl, rfl⟩
              go_wp2_with fail
              go_ret
              exact num_end (HD.out.symm.trans HE.out) HACC.out H1.out HK.out H2.out
            · have hbs : ((s : Int) == 0) = false := by rw [beq_eq_false_iff_ne]; omega
              have HE := Lib.hid (M.dec_zero (acc := acc) (r := r) HC.out (i := i) hc0 (by have := HS.out; omega))
              have HC0 := Lib.hid hc0
              have hc1 : c ≤ 1 := by omega
              clear hc0 hgo
              have hd2 : decide ((c : Int) ≤ 1) = true := by simp; omega
              rcases (show s < 63 ∨ decide ((s : Int) < 63) = false from by simp; omega) with hlo | hlo
              all_goals
                go_wp2_with fail
                refine (need_yes w2).mono ?_
                rintro e w' ⟨rfl, rfl⟩
                go_wp2_with fail
                refine (need_no w2).mono ?_
                rintro e w' ⟨rfl, rfl⟩
                go_wp2_with fail
                exact ⟨rfl, num_fell (HD.out.symm.trans HE.out) H1.out HK.out H2.out⟩
          · have HE := Lib.hid (M.dec_end (acc := acc) (r := r) HC.out (i := i) (by have := HS.out; omega) hc128 (.inl hc0))
            have hb0 : ((c : Int) != 0) = true := by rw [bne_iff_ne]; omega
            rcases Nat.lt_or_ge s 63 with hlo | hlo
            · go_wp2_with fail
              refine (need_yes w2).mono ?_
              rintro e w' ⟨rfl, rfl⟩
              go_wp2_with fail
              refine (need_yes w2).mono ?_
              rintro e w' ⟨rfl, rfl⟩
              go_wp2_with fail
              go_ret
              exact num_end (HD.out.symm.trans HE.out) HACC.out H1.out HK.out H2.out
            · have hc1 : c ≤ 1 := by omega
              have hd2 : decide ((c : Int) ≤ 1) = true := by simp; omega
              have hd1 : decide ((s : Int) < 63) = false := by simp; omega
              go_wp2_with fail
              refine (need_yes w2).mono ?_
              rintro e w' ⟨rfl, rfl⟩
              go_wp2_with fail
              refine (need_yes w2).mono ?_
              rintro e w' ⟨rfl, rfl⟩
              go_wp2_with fail
              go_ret
              exact num_end (HD.out.symm.trans HE.out) HACC.out H1.out HK.out H2.out
        · have hlo : s < 63 := by omega
          have HE := Lib.hid (M.dec_more (acc := acc) (r := r) HC.out (i := i) (by have := HS.out; omega) hc128)
          go_wp2_with fail
          refine (need_yes w2).mono ?_
          rintro e w' ⟨rfl, rfl⟩
          go_wp2
          go_roundw
          case rel =>
            have := HS.out
            refine ⟨i + 1, acc', s + 7, r, by omega, rfl, by go_num, by omega, HNEW.out (by omega), H1.out, ?_, HK.out.trans H2.out (fun _ h _ => h)⟩
            rw [← HD.out, HE.out, HACC.out]
          case measure => simp [Go.RowKit.intOf]; omega
      · have h63 : 63 ≤ s := by omega
        have hc1 : 1 < c := by omega
        have hd2 : decide ((c : Int) ≤ 1) = false := by simp; omega
        have hd1 : decide ((s : Int) < 63) = false := by simp; omega
        have HE := Lib.hid (M.dec_over (acc := acc) (r := r) HC.out (i := i) (by have := HS.out; omega) (by omega))
        go_wp2_with fail
        refine (need_no w2).mono ?_
        rintro e w' ⟨rfl, rfl⟩
        go_wp2_with fail
        exact ⟨rfl, num_fell (HD.out.symm.trans HE.out) H1.out HK.out H2.out⟩
end Go.Proofs.YtbanpdeganlndaaGreatDoor.Cd
namespace Go.Proofs.YtbanpdeganlndaaGreatDoor.Cd
open Go.RowKit

theorem num_ok {w : World} {p g n : Nat} {f : Bool} {l r : List UInt8} (hr : RdAt w p g l f) (h : M.dec 0 0 l = some (n, r)) :
    Calls Tryz.prog 142 #[.pointer (some ⟨p, 0, none⟩)] w (Took (.int .u64 (n : Int)) r p g f w) := by
  have := num_out w p g f l hr
  rw [h] at this
  exact this
theorem num_bad {w : World} {p g : Nat} {f : Bool} {l : List UInt8} (hr : RdAt w p g l f) (h : M.dec 0 0 l = none) :
    Calls Tryz.prog 142 #[.pointer (some ⟨p, 0, none⟩)] w (Fell p g f w) := by
  have := num_out w p g f l hr
  rw [h] at this
  exact this

/-! ### count -/
set_option maxHeartbeats 400000 in
theorem count_bad {w : World} {p g : Nat} {f : Bool} {l : List UInt8} (hr : RdAt w p g l f) (h : M.dec 0 0 l = none) :
    Calls Tryz.prog 114 #[.pointer (some ⟨p, 0, none⟩)] w (Fell p g f w) := by
  have H := Lib.hid h
  have HR := Lib.hid hr
  clear h hr
  go_enter Tryz.func114, Tryz.ntmps114
  go_wp2_with fail
  refine (num_bad HR.out H.out).mono ?_
  rintro e w' ⟨rfl, h1⟩
  have H1 := Lib.hid h1
  clear h1
  go_wp2_with fail
  exact ⟨rfl, rfl, H1.out⟩
set_option maxHeartbeats 400000 in
set_option maxRecDepth 100000 in
theorem count_long {w : World} {p g n : Nat} {f : Bool} {l r : List UInt8} (hr : RdAt w p g l f) (h : M.dec 0 0 l = some (n, r)) (hn : ¬ n ≤ r.length) :
    Calls Tryz.prog 114 #[.pointer (some ⟨p, 0, none⟩)] w (Fell p g f w) := by
  have H := Lib.hid h
  have HR := Lib.hid hr
  clear h hr
  go_enter Tryz.func114, Tryz.ntmps114
  go_wp2_with fail
  refine (num_ok HR.out H.out).mono ?_
  rintro e w1 ⟨rfl, h1, h2⟩
  obtain ⟨A, cap, hb, _, hc, hm⟩ := id h1
  have hc0 := cell_of_two0 hb
  have H1 := Lib.hid h1
  have H2 := Lib.hid h2
  have hlen : r.length ≤ 9223372036854775807 := by unfold maxLen at hm; omega
  clear h1 h2 hb hc hm
  go_wp2_with fail
  refine (need_no w1).mono ?_
  rintro e w' ⟨rfl, rfl⟩
  go_wp2_with fail
  exact ⟨rfl, rfl, r, H1.out, H2.out⟩
set_option maxHeartbeats 400000 in
set_option maxRecDepth 100000 in
theorem count_ok {w : World} {p g n : Nat} {f : Bool} {l r : List UInt8} (hr : RdAt w p g l f) (h : M.dec 0 0 l = some (n, r)) (hn : n ≤ r.length) :
    Calls Tryz.prog 114 #[.pointer (some ⟨p, 0, none⟩)] w (Took (.int .i64 (n : Int)) r p g f w) := by
  have H := Lib.hid h
  have HR := Lib.hid hr
  clear h hr
  go_enter Tryz.func114, Tryz.ntmps114
  go_wp2_with fail
  refine (num_ok HR.out H.out).mono ?_
  rintro e w1 ⟨rfl, h1, h2⟩
  obtain ⟨A, cap, hb, _, hc, hm⟩ := id h1
  have hc0 := cell_of_two0 hb
  have H1 := Lib.hid h1
  have H2 := Lib.hid h2
  have hlen : r.length ≤ 9223372036854775807 := by unfold maxLen at hm; omega
  clear h1 h2 hb hc hm
  go_wp2_with fail
  refine (need_yes w1).mono ?_
  rintro e w' ⟨rfl, rfl⟩
  go_wp2_with fail
  go_ret
  exact ⟨rfl, H1.out, H2.out⟩

/-! ### flag -/
set_option maxHeartbeats 400000 in
theorem flag_none {w : World} {p g : Nat} {f : Bool} (hr : RdAt w p g [] f) : Calls Tryz.prog 79 #[.pointer (some ⟨p, 0, none⟩)] w (Fell p g f w) := by
  have HR := Lib.hid hr
  clear hr
  go_enter Tryz.func79, Tryz.ntmps79
  go_wp2_with fail
  refine (next_none w p g f HR.out).mono ?_
  rintro e w' ⟨rfl, h1⟩
  have H1 := Lib.hid h1
  clear h1
  go_wp2_with fail
  exact ⟨rfl, rfl, H1.out⟩
set_option maxHeartbeats 400000 in
theorem flag_bad {w : World} {p g : Nat} {f : Bool} {b : UInt8} {l : List UInt8} (hr : RdAt w p g (b :: l) f) (h : ¬ b.toNat ≤ 1) : Calls Tryz.prog 79 #[.pointer (some ⟨p, 0, none⟩)] w (Fell p g f w) := by
  have HR := Lib.hid hr
  obtain ⟨c, hc⟩ : ∃ c, c = b.toNat := ⟨_, rfl⟩
  rw [← hc] at h
  have HC := Lib.hid hc
  have hd : decide ((c : Int) ≤ 1) = false := by simp; omega
  clear hr hc h
  go_enter Tryz.func79, Tryz.ntmps79
  go_wp2_with fail
  refine (next_some w p g f b l HR.out).mono ?_
  rw [← HC.out]
  rintro e w1 ⟨rfl, h1, h2⟩
  have H1 := Lib.hid h1
  have H2 := Lib.hid h2
  clear h1 h2
  go_wp2_with fail
  refine (need_no w1).mono ?_
  rintro e w' ⟨rfl, rfl⟩
  go_wp2_with fail
  exact ⟨rfl, rfl, l, H1.out, H2.out⟩
set_option maxHeartbeats 400000 in
theorem flag_ok {w : World} {p g : Nat} {f : Bool} {b : UInt8} {l : List UInt8} (hr : RdAt w p g (b :: l) f) (h : b.toNat ≤ 1) : Calls Tryz.prog 79 #[.pointer (some ⟨p, 0, none⟩)] w (Took (.bool (b == 1)) l p g f w) := by
  have HR := Lib.hid hr
  obtain ⟨c, hc⟩ : ∃ c, c = b.toNat := ⟨_, rfl⟩
  rw [← hc] at h
  have hd : decide ((c : Int) ≤ 1) = true := by simp; omega
  have HE := Lib.hid (show ((c : Int) == 1) = (b == 1) by
    rw [Bool.eq_iff_iff, beq_iff_eq, beq_iff_eq, hc, ← UInt8.toNat_inj]; simp; omega)
  have HC := Lib.hid hc
  clear hr hc h
  go_enter Tryz.func79, Tryz.ntmps79
  go_wp2_with fail
  refine (next_some w p g f b l HR.out).mono ?_
  rw [← HC.out]
  rintro e w1 ⟨rfl, h1, h2⟩
  have H1 := Lib.hid h1
  have H2 := Lib.hid h2
  clear h1 h2
  go_wp2_with fail
  refine (need_yes w1).mono ?_
  rintro e w' ⟨rfl, rfl⟩
  go_wp2_with fail
  go_ret
  exact ⟨by rw [← HE.out]; rfl, H1.out, H2.out⟩

/-! ### text -/
def strOf (l : List UInt8) : ByteArray := ⟨l.toArray⟩
theorem strOf_size (l : List UInt8) : (strOf l).size = l.length := by simp [strOf, ByteArray.size]
/-- string(b). -/
theorem conv_text (w : World) (g : Nat) (A : Option Addr) (l : List UInt8) (cap : Nat) (h : BytesIn w g A l) :
    (convert 62 9 (.slice A l.length cap)).run Tryz.prog w = .ok (.string (strOf l)) w := by
  rcases A with _ | a
  · rcases h with rfl | ⟨off, h, _⟩
    · rw [run_convert_bytes_string w _ _ 5 none _ cap Tryz.underlying62 Tryz.underlying5 Tryz.underlying9]
      rfl
    · cases h
  · refine run_convert_bytes_back w _ _ 5 a cap l Tryz.underlying62 Tryz.underlying5 Tryz.underlying9 fun j hj => ?_
    rcases h with rfl | ⟨off, h, hc⟩
    · simp at hj
    · cases h
      have := hc j hj
      rwa [Addr.add_lit]
/-- b[:k], b[k:] of a slice of bytes. -/
theorem slice_high {A : Option Addr} {n cap k : Nat} (hk : k ≤ n) (hcap : n ≤ cap) : ∃ A', (∀ w, (Instr.slice 62 (.slice A n cap) none (some (.int .i64 (k : Int))) none).run Tryz.prog w = .ok (.slice A' k cap) w) ∧
    ∀ w g l, l.length = n → BytesIn w g A l → BytesIn w g A' (l.take k) := by
  refine ⟨if cap = 0 then A else A.map (·.add 0), fun w => ?_, fun w g l _ h => ?_⟩
  · have := run_slice_h (P := Tryz.prog) w 62 A n cap elemBytes .i64 (k : Int) (by omega) (by omega)
    rw [this]
    have hs : (sizeOf (Tryz.prog.elem 62)).run Tryz.prog w = .ok 1 w := by kernel_rfl
    rw [hs]
    simp [Result.andThen, sliced]
  · have h2 := BytesIn.take h k
    by_cases hc : cap = 0
    · rw [if_pos hc]; exact h2
    · rw [if_neg hc]
      rcases h2 with h2 | ⟨off, rfl, hc2⟩
      · exact .inl h2
      · exact .inr ⟨off, by rw [Option.map_some, Addr.add_lit]; rfl, hc2⟩
theorem slice_low {A : Option Addr} {n cap k : Nat} (hk : k ≤ n) (hcap : n ≤ cap) : ∃ A', (∀ w, (Instr.slice 62 (.slice A n cap) (some (.int .i64 (k : Int))) none none).run Tryz.prog w = .ok (.slice A' (n - k) (cap - k)) w) ∧
    ∀ w g l, l.length = n → BytesIn w g A l → BytesIn w g A' (l.drop k) := by
  refine ⟨if cap = k then A else A.map (·.add k), fun w => ?_, fun w g l hl h => BytesIn.drop h k (by omega)⟩
  have := run_slice_l (P := Tryz.prog) w 62 A n cap elemBytes .i64 (k : Int) (by omega) (by omega)
  rw [this]
  have hs : (sizeOf (Tryz.prog.elem 62)).run Tryz.prog w = .ok 1 w := by kernel_rfl
  rw [hs]
  simp [Result.andThen, sliced]
/-- A reader whose slice is another one. -/
theorem RdAt.moved {w : World} {p g cap cap' : Nat} {f : Bool} {l l' : List UInt8} {A A' : Option Addr} (hb : w.heap[p]? = some (.cells #[.slice A l.length cap, .bool f] 138 (0, 0))) (hi : BytesIn w g A l)
    (hi' : BytesIn w g A' l') (hs : l'.length ≤ l.length) (hc : l'.length ≤ cap') (hm : cap' ≤ maxLen) : RdAt (w.setCell ⟨p, 0, none⟩ (.slice A' l'.length cap')) p g l' f := by
  refine ⟨A', cap', two_setCell0 hb, ?_, hc, hm⟩
  by_cases hl : l'.length = 0
  · exact .inl (List.eq_nil_of_length_eq_zero hl)
  · have hgp : g ≠ p := by
      rcases hi with h | ⟨off, rfl, hcell⟩
      · subst h
        exact absurd (Nat.le_zero.1 hs) hl
      · exact RdAt.apart hb (by intro i c; match i with | 0 => simp | 1 => simp | i + 2 => simp) (by omega) hcell
    exact hi'.keep ((Keeps.refl [p] w).setCell (by simp) _) (by simpa using hgp)

set_option maxHeartbeats 400000 in
theorem text_bad {w : World} {p g : Nat} {f : Bool} {l : List UInt8} (hr : RdAt w p g l f) (h : M.decText l = none) :
    Calls Tryz.prog 77 #[.pointer (some ⟨p, 0, none⟩)] w (Fell p g f w) := by
  have hcount : Calls Tryz.prog 114 #[.pointer (some ⟨p, 0, none⟩)] w (Fell p g f w) := by
    cases hd : M.dec 0 0 l with
    | none => exact count_bad hr hd
    | some x =>
      obtain ⟨n, r⟩ := x
      refine count_long hr hd fun hn => ?_
      rw [M.decText_some hd hn] at h
      cases h
  have HC := Lib.hid hcount
  clear hcount hr h
  go_enter Tryz.func77, Tryz.ntmps77
  go_wp2_with fail
  refine HC.out.mono ?_
  rintro e w' ⟨rfl, h1⟩
  have H1 := Lib.hid h1
  clear h1
  go_wp2_with fail
  exact ⟨rfl, rfl, H1.out⟩

set_option maxHeartbeats 1000000 in
set_option maxRecDepth 100000 in
theorem text_ok {w : World} {p g : Nat} {f : Bool} {l s r : List UInt8} (hr : RdAt w p g l f) (h : M.decText l = some (s, r)) :
    Calls Tryz.prog 77 #[.pointer (some ⟨p, 0, none⟩)] w (Took (.string (strOf s)) r p g f w) := by
  obtain ⟨n, m, hd, hn, hs, hr'⟩ : ∃ n m, M.dec 0 0 l = some (n, m) ∧ n ≤ m.length ∧ s = m.take n ∧ r = m.drop n := by
    unfold M.decText at h
    split at h
    · rename_i n m hd
      split at h
      · rename_i hn
        have h2 := Option.some.inj h
        exact ⟨n, m, hd, hn, (congrArg Prod.fst h2).symm, (congrArg Prod.snd h2).symm⟩
      · cases h
    · cases h
  have HC := Lib.hid (count_ok hr hd hn)
  have HS := Lib.hid hs
  have HR' := Lib.hid hr'
  clear hr h hd hs hr'
  go_enter Tryz.func77, Tryz.ntmps77
  go_wp2_with fail
  refine HC.out.mono ?_
  rintro e w1 ⟨rfl, h1, h2⟩
  obtain ⟨A, cap, hb, hbi, hc, hm⟩ := id h1
  have hc0 := cell_of_two0 hb
  have hf0 := free_of_two hb 0
  obtain ⟨A2, hS2, hB2⟩ := slice_high (A := A) hn hc
  obtain ⟨A5, hS5, hB5⟩ := slice_low (A := A) hn hc
  have hnl : n = (m.take n).length := by simp; omega
  have hcv := conv_text w1 g A2 (m.take n) cap (hB2 w1 g m rfl hbi)
  rw [← hnl, ← HS.out] at hcv
  have HM := Lib.hid (RdAt.moved (A' := A5) (l' := r) (cap' := cap - n) hb hbi (by rw [HR'.out]; exact hB5 w1 g m rfl hbi) (by rw [HR'.out]; simp) (by rw [HR'.out]; simp; omega) (by omega))
  rw [show r.length = m.length - n by rw [HR'.out]; simp] at HM
  have H1 := Lib.hid h1
  have H2 := Lib.hid h2
  have HNL := Lib.hid hnl
  clear h1 h2 hb hbi hB2 hB5 hnl hc hm
  go_wp2
  go_ret
  exact ⟨rfl, HM.out, H2.out.setCell (by simp) _⟩
end Go.Proofs.YtbanpdeganlndaaGreatDoor.Cd
namespace Go.Proofs.YtbanpdeganlndaaGreatDoor.Cd
open Go.RowKit

/-- A method of the reader's that did not fail. -/
def Gave (v : Value) (l' : List UInt8) (p g : Nat) (w : World) (e : Ending) (w' : World) : Prop := e = .returned v ∧ RdAt w' p g l' false ∧ Keeps [p] w w'
/-- A method of the reader's that failed, or came behind one that did. -/
def Gone (z : Value) (p g : Nat) (w : World) (e : Ending) (w' : World) : Prop := e = .returned z ∧ ∃ l', RdAt w' p g l' true ∧ Keeps [p] w w'
theorem fail_keep {w : World} {p g : Nat} {A : Option Addr} {n cap : Nat} {f : Bool} {l : List UInt8} (hb : w.heap[p]? = some (.cells #[.slice A n cap, .bool f] 138 (0, 0))) (hi : BytesIn w g A l) : BytesIn (w.setCell ⟨p, 1, none⟩ (.bool true)) g A l := by
  by_cases hl : l.length = 0
  · exact .inl (List.eq_nil_of_length_eq_zero hl)
  · have hgp : g ≠ p := by
      rcases hi with h | ⟨off, rfl, hcell⟩
      · subst h; exact absurd rfl hl
      · exact RdAt.apart hb (by intro i c; match i with | 0 => simp | 1 => simp | i + 2 => simp) (by omega) hcell
    exact hi.keep ((Keeps.refl [p] w).setCell (by simp) _) (by simpa using hgp)

/-! ### num -/
/-! ### signed -/
/-! ### text -/
theorem panicking_text (q : Addr) (p : Nat) (x : Bool) (u : TypeId) (pv : Value) (older : List PanicEntry) (w : World) (hq : w.cell? q = some (.pointer (some ⟨p, 0, none⟩))) (hc : w.cell? ⟨p, 1, none⟩ = some (.bool x)) (hz : w.frozen? ⟨p, 1, none⟩ = false) :
    CallsD Tryz.prog 113 #[.pointer (some q)] (.panicking ({ v := .iface u pv, recovered := false } :: older)) w fun e u' w' =>
      e = .returned (.tuple #[]) ∧ u' = .panicking ({ v := .iface u pv, recovered := true } :: older) ∧ w' = w.setCell ⟨p, 1, none⟩ (.bool true) := by
  refine callsD_of_wpS Tryz.func113 rfl fun c₀ cs hu => ?_
  apply wpS_seq
  apply wpS_region
  simp [wpOpsS, go_sem, recoverD, hu, Tryz.ntmps113, Exit.thenS]
  refine wpS_cond (t := true) (by simp [Act.eval, Array.replicate]) ?_
  simp only [if_true]
  apply wpS_region
  simp [wpOpsS, go_sem, hq, hc, hz, bodyPostS, results, Tryz.results113]
theorem idle_text (q : Addr) (w : World) :
    CallsD Tryz.prog 113 #[.pointer (some q)] .returning w fun e u' w' => e = .returned (.tuple #[]) ∧ u' = .returning ∧ w' = w := by
  refine callsD_of_wpS Tryz.func113 rfl fun c₀ cs hu => ?_
  apply wpS_seq
  apply wpS_region
  simp [wpOpsS, go_sem, recoverD, hu, Tryz.ntmps113, Exit.thenS]
  refine wpS_cond (t := false) (by simp [Act.eval, Array.replicate]) ?_
  simp only [Bool.false_eq_true, if_false]
  refine wpS_of_wp (wp_skip ?_)
  cases c₀
  simp_all [bodyPostS, results, Tryz.results113]

set_option maxHeartbeats 400000 in
theorem attempt_gone_text (w : World) (p g : Nat) (l : List UInt8) (fv : Value) (hr : RdAt w p g l true) :
    Calls Tryz.prog 76 #[.pointer (some ⟨p, 0, none⟩), fv] w (Gone (.string .empty) p g w) := by
  obtain ⟨A, cap, hb, hbi, _, _⟩ := id hr
  have hc1 := cell_of_two1 hb
  have hpl := block_lt hb
  have HK := Lib.hid ((Keeps.refl [] w).alloc (.cells #[.pointer (some ⟨p, 0, none⟩)] 103))
  have HR := Lib.hid (show RdAt (w.alloc (.cells #[.pointer (some ⟨p, 0, none⟩)] 103)) p g l true from hr.keep HK.out (by simp) (by simp))
  have hc1' := HK.out.cell_some hc1 (by simp)
  clear hb hbi hr
  go_enter_defers Tryz.func76, Tryz.ntmps76
  go_wp2
  simp [bodyPostD, Leaves, results, Tryz.results76, go_sem]
  exact ⟨rfl, l, HR.out, HK.out.mono (by simp)⟩

set_option maxHeartbeats 400000 in
theorem attempt_ok_text (w : World) (p g : Nat) (l l' : List UInt8) (v : Value) (hr : RdAt w p g l false)
    (hread : ∀ w1, RdAt w1 p g l false → Calls Tryz.prog 77 #[.pointer (some ⟨p, 0, none⟩)] w1 (Took v l' p g false w1)) :
    Calls Tryz.prog 76 #[.pointer (some ⟨p, 0, none⟩), .func (.func 77) #[.pointer (some ⟨p, 0, none⟩)] #[]] w (Gave v l' p g w) := by
  have hmf : ∀ (fn : Fn) (first cap : Array Value) (w : World), (Instr.makeFunc fn first cap).run Tryz.prog w = .ok (.func fn first cap) w := fun _ _ _ _ => rfl
  obtain ⟨A, cap, hb, hbi, _, _⟩ := id hr
  have hc1 := cell_of_two1 hb
  have hpl := block_lt hb
  have HK := Lib.hid ((Keeps.refl [] w).alloc (.cells #[.pointer (some ⟨p, 0, none⟩)] 103))
  have HR := Lib.hid (show RdAt (w.alloc (.cells #[.pointer (some ⟨p, 0, none⟩)] 103)) p g l false from hr.keep HK.out (by simp) (by simp))
  have hc1' := HK.out.cell_some hc1 (by simp)
  have HREAD := Lib.hid hread
  clear hb hbi hr hread
  go_enter_defers Tryz.func76, Tryz.ntmps76
  go_wp2_with fail
  refine (HREAD.out _ HR.out).mono ?_
  rintro e w1 ⟨rfl, h1, h2⟩
  have H1 := Lib.hid h1
  have H2 := Lib.hid h2
  clear h1 h2
  go_wp2
  refine leaves_cons (f := 113) (args := #[.pointer (some ⟨w.heap.size, 0, none⟩)]) (by simp) (by simp [go_sem]) ?_
  refine (idle_text ⟨w.heap.size, 0, none⟩ _).mono ?_
  rintro e u' w'' ⟨rfl, rfl, rfl⟩
  simp [Leaves, settle, results, Tryz.results76, go_sem]
  exact ⟨rfl, H1.out, (HK.out.mono (by simp)).trans H2.out (fun _ h _ => h)⟩

set_option maxHeartbeats 400000 in
theorem attempt_fell_text (w : World) (p g : Nat) (l : List UInt8) (hr : RdAt w p g l false)
    (hread : ∀ w1, RdAt w1 p g l false → Calls Tryz.prog 77 #[.pointer (some ⟨p, 0, none⟩)] w1 (Fell p g false w1)) :
    Calls Tryz.prog 76 #[.pointer (some ⟨p, 0, none⟩), .func (.func 77) #[.pointer (some ⟨p, 0, none⟩)] #[]] w (Gone (.string .empty) p g w) := by
  have hmf : ∀ (fn : Fn) (first cap : Array Value) (w : World), (Instr.makeFunc fn first cap).run Tryz.prog w = .ok (.func fn first cap) w := fun _ _ _ _ => rfl
  obtain ⟨A, cap, hb, hbi, _, _⟩ := id hr
  have hc1 := cell_of_two1 hb
  have hpl := block_lt hb
  have HK := Lib.hid ((Keeps.refl [] w).alloc (.cells #[.pointer (some ⟨p, 0, none⟩)] 103))
  have HR := Lib.hid (show RdAt (w.alloc (.cells #[.pointer (some ⟨p, 0, none⟩)] 103)) p g l false from hr.keep HK.out (by simp) (by simp))
  have hq : (w.alloc (.cells #[.pointer (some ⟨p, 0, none⟩)] 103)).cell? ⟨w.heap.size, 0, none⟩ = some (.pointer (some ⟨p, 0, none⟩)) := cell_of_one (heap_alloc_new w _)
  have HQ := Lib.hid hq
  have hc1' := HK.out.cell_some hc1 (by simp)
  have HREAD := Lib.hid hread
  clear hb hbi hr hread hq
  go_enter_defers Tryz.func76, Tryz.ntmps76
  go_wp2_with fail
  refine (HREAD.out _ HR.out).mono ?_
  rintro e w1 ⟨rfl, l', h1, h2⟩
  have H1 := Lib.hid h1
  have H2 := Lib.hid h2
  clear h1 h2
  go_wp2
  refine leaves_cons (f := 113) (args := #[.pointer (some ⟨w.heap.size, 0, none⟩)]) (by simp) (by simp [go_sem]) ?_
  obtain ⟨A', cap', hb', hbi', hc', hm'⟩ := H1.out
  unfold refused
  refine (panicking_text ⟨w.heap.size, 0, none⟩ p false _ _ [] _ (H2.out.cell_some HQ.out (by simp; omega)) (cell_of_two1 hb') (free_of_two hb' 1)).mono ?_
  rintro e u' w'' ⟨rfl, rfl, rfl⟩
  simp [Leaves, settle, results, Tryz.results76, go_sem]
  refine ⟨rfl, l', ⟨A', cap', two_setCell1 hb', fail_keep hb' hbi', hc', hm'⟩, ((HK.out.mono (by simp)).trans H2.out (fun _ h _ => h)).setCell (by simp) _⟩

/-- The method: what it answers. -/
theorem Text_gone (w : World) (p g : Nat) (l : List UInt8) (hr : RdAt w p g l true) : Calls Tryz.prog 48 #[.pointer (some ⟨p, 0, none⟩)] w (Gone (.string .empty) p g w) := by
  have hmf : ∀ (fn : Fn) (first cap : Array Value) (w : World), (Instr.makeFunc fn first cap).run Tryz.prog w = .ok (.func fn first cap) w := fun _ _ _ _ => rfl
  go_enter Tryz.func48, Tryz.ntmps48
  go_wp2_with fail
  refine (attempt_gone_text w p g l _ hr).mono ?_
  rintro e w' ⟨rfl, h1⟩
  have H1 := Lib.hid h1
  clear h1
  go_wp2_with fail
  go_ret
  exact ⟨rfl, H1.out⟩
theorem Text_fell (w : World) (p g : Nat) (l : List UInt8) (hr : RdAt w p g l false)
    (hread : ∀ w1, RdAt w1 p g l false → Calls Tryz.prog 77 #[.pointer (some ⟨p, 0, none⟩)] w1 (Fell p g false w1)) : Calls Tryz.prog 48 #[.pointer (some ⟨p, 0, none⟩)] w (Gone (.string .empty) p g w) := by
  have hmf : ∀ (fn : Fn) (first cap : Array Value) (w : World), (Instr.makeFunc fn first cap).run Tryz.prog w = .ok (.func fn first cap) w := fun _ _ _ _ => rfl
  have HREAD := Lib.hid hread
  clear hread
  go_enter Tryz.func48, Tryz.ntmps48
  go_wp2_with fail
  refine (attempt_fell_text w p g l hr HREAD.out).mono ?_
  rintro e w' ⟨rfl, h1⟩
  have H1 := Lib.hid h1
  clear h1
  go_wp2_with fail
  go_ret
  exact ⟨rfl, H1.out⟩
theorem Text_gave (w : World) (p g : Nat) (l l' : List UInt8) (v : Value) (hr : RdAt w p g l false)
    (hread : ∀ w1, RdAt w1 p g l false → Calls Tryz.prog 77 #[.pointer (some ⟨p, 0, none⟩)] w1 (Took v l' p g false w1)) : Calls Tryz.prog 48 #[.pointer (some ⟨p, 0, none⟩)] w (Gave v l' p g w) := by
  have hmf : ∀ (fn : Fn) (first cap : Array Value) (w : World), (Instr.makeFunc fn first cap).run Tryz.prog w = .ok (.func fn first cap) w := fun _ _ _ _ => rfl
  have HREAD := Lib.hid hread
  clear hread
  go_enter Tryz.func48, Tryz.ntmps48
  go_wp2_with fail
  refine (attempt_ok_text w p g l l' v hr HREAD.out).mono ?_
  rintro e w' ⟨rfl, h1⟩
  have H1 := Lib.hid h1
  clear h1
  go_wp2_with fail
  go_ret
  exact ⟨rfl, H1.out⟩

/-! ### flag -/
theorem panicking_flag (q : Addr) (p : Nat) (x : Bool) (u : TypeId) (pv : Value) (older : List PanicEntry) (w : World) (hq : w.cell? q = some (.pointer (some ⟨p, 0, none⟩))) (hc : w.cell? ⟨p, 1, none⟩ = some (.bool x)) (hz : w.frozen? ⟨p, 1, none⟩ = false) :
    CallsD Tryz.prog 115 #[.pointer (some q)] (.panicking ({ v := .iface u pv, recovered := false } :: older)) w fun e u' w' =>
      e = .returned (.tuple #[]) ∧ u' = .panicking ({ v := .iface u pv, recovered := true } :: older) ∧ w' = w.setCell ⟨p, 1, none⟩ (.bool true) := by
  refine callsD_of_wpS Tryz.func115 rfl fun c₀ cs hu => ?_
  apply wpS_seq
  apply wpS_region
  simp [wpOpsS, go_sem, recoverD, hu, Tryz.ntmps115, Exit.thenS]
  refine wpS_cond (t := true) (by simp [Act.eval, Array.replicate]) ?_
  simp only [if_true]
  apply wpS_region
  simp [wpOpsS, go_sem, hq, hc, hz, bodyPostS, results, Tryz.results115]
theorem idle_flag (q : Addr) (w : World) :
    CallsD Tryz.prog 115 #[.pointer (some q)] .returning w fun e u' w' => e = .returned (.tuple #[]) ∧ u' = .returning ∧ w' = w := by
  refine callsD_of_wpS Tryz.func115 rfl fun c₀ cs hu => ?_
  apply wpS_seq
  apply wpS_region
  simp [wpOpsS, go_sem, recoverD, hu, Tryz.ntmps115, Exit.thenS]
  refine wpS_cond (t := false) (by simp [Act.eval, Array.replicate]) ?_
  simp only [Bool.false_eq_true, if_false]
  refine wpS_of_wp (wp_skip ?_)
  cases c₀
  simp_all [bodyPostS, results, Tryz.results115]

set_option maxHeartbeats 400000 in
theorem attempt_gone_flag (w : World) (p g : Nat) (l : List UInt8) (fv : Value) (hr : RdAt w p g l true) :
    Calls Tryz.prog 78 #[.pointer (some ⟨p, 0, none⟩), fv] w (Gone (.bool false) p g w) := by
  obtain ⟨A, cap, hb, hbi, _, _⟩ := id hr
  have hc1 := cell_of_two1 hb
  have hpl := block_lt hb
  have HK := Lib.hid ((Keeps.refl [] w).alloc (.cells #[.pointer (some ⟨p, 0, none⟩)] 103))
  have HR := Lib.hid (show RdAt (w.alloc (.cells #[.pointer (some ⟨p, 0, none⟩)] 103)) p g l true from hr.keep HK.out (by simp) (by simp))
  have hc1' := HK.out.cell_some hc1 (by simp)
  clear hb hbi hr
  go_enter_defers Tryz.func78, Tryz.ntmps78
  go_wp2
  simp [bodyPostD, Leaves, results, Tryz.results78, go_sem]
  exact ⟨rfl, l, HR.out, HK.out.mono (by simp)⟩

set_option maxHeartbeats 400000 in
theorem attempt_ok_flag (w : World) (p g : Nat) (l l' : List UInt8) (v : Value) (hr : RdAt w p g l false)
    (hread : ∀ w1, RdAt w1 p g l false → Calls Tryz.prog 79 #[.pointer (some ⟨p, 0, none⟩)] w1 (Took v l' p g false w1)) :
    Calls Tryz.prog 78 #[.pointer (some ⟨p, 0, none⟩), .func (.func 79) #[.pointer (some ⟨p, 0, none⟩)] #[]] w (Gave v l' p g w) := by
  have hmf : ∀ (fn : Fn) (first cap : Array Value) (w : World), (Instr.makeFunc fn first cap).run Tryz.prog w = .ok (.func fn first cap) w := fun _ _ _ _ => rfl
  obtain ⟨A, cap, hb, hbi, _, _⟩ := id hr
  have hc1 := cell_of_two1 hb
  have hpl := block_lt hb
  have HK := Lib.hid ((Keeps.refl [] w).alloc (.cells #[.pointer (some ⟨p, 0, none⟩)] 103))
  have HR := Lib.hid (show RdAt (w.alloc (.cells #[.pointer (some ⟨p, 0, none⟩)] 103)) p g l false from hr.keep HK.out (by simp) (by simp))
  have hc1' := HK.out.cell_some hc1 (by simp)
  have HREAD := Lib.hid hread
  clear hb hbi hr hread
  go_enter_defers Tryz.func78, Tryz.ntmps78
  go_wp2_with fail
  refine (HREAD.out _ HR.out).mono ?_
  rintro e w1 ⟨rfl, h1, h2⟩
  have H1 := Lib.hid h1
  have H2 := Lib.hid h2
  clear h1 h2
  go_wp2
  refine leaves_cons (f := 115) (args := #[.pointer (some ⟨w.heap.size, 0, none⟩)]) (by simp) (by simp [go_sem]) ?_
  refine (idle_flag ⟨w.heap.size, 0, none⟩ _).mono ?_
  rintro e u' w'' ⟨rfl, rfl, rfl⟩
  simp [Leaves, settle, results, Tryz.results78, go_sem]
  exact ⟨rfl, H1.out, (HK.out.mono (by simp)).trans H2.out (fun _ h _ => h)⟩

set_option maxHeartbeats 400000 in
theorem attempt_fell_flag (w : World) (p g : Nat) (l : List UInt8) (hr : RdAt w p g l false)
    (hread : ∀ w1, RdAt w1 p g l false → Calls Tryz.prog 79 #[.pointer (some ⟨p, 0, none⟩)] w1 (Fell p g false w1)) :
    Calls Tryz.prog 78 #[.pointer (some ⟨p, 0, none⟩), .func (.func 79) #[.pointer (some ⟨p, 0, none⟩)] #[]] w (Gone (.bool false) p g w) := by
  have hmf : ∀ (fn : Fn) (first cap : Array Value) (w : World), (Instr.makeFunc fn first cap).run Tryz.prog w = .ok (.func fn first cap) w := fun _ _ _ _ => rfl
  obtain ⟨A, cap, hb, hbi, _, _⟩ := id hr
  have hc1 := cell_of_two1 hb
  have hpl := block_lt hb
  have HK := Lib.hid ((Keeps.refl [] w).alloc (.cells #[.pointer (some ⟨p, 0, none⟩)] 103))
  have HR := Lib.hid (show RdAt (w.alloc (.cells #[.pointer (some ⟨p, 0, none⟩)] 103)) p g l false from hr.keep HK.out (by simp) (by simp))
  have hq : (w.alloc (.cells #[.pointer (some ⟨p, 0, none⟩)] 103)).cell? ⟨w.heap.size, 0, none⟩ = some (.pointer (some ⟨p, 0, none⟩)) := cell_of_one (heap_alloc_new w _)
  have HQ := Lib.hid hq
  have hc1' := HK.out.cell_some hc1 (by simp)
  have HREAD := Lib.hid hread
  clear hb hbi hr hread hq
  go_enter_defers Tryz.func78, Tryz.ntmps78
  go_wp2_with fail
  refine (HREAD.out _ HR.out).mono ?_
  rintro e w1 ⟨rfl, l', h1, h2⟩
  have H1 := Lib.hid h1
  have H2 := Lib.hid h2
  clear h1 h2
  go_wp2
  refine leaves_cons (f := 115) (args := #[.pointer (some ⟨w.heap.size, 0, none⟩)]) (by simp) (by simp [go_sem]) ?_
  obtain ⟨A', cap', hb', hbi', hc', hm'⟩ := H1.out
  unfold refused
  refine (panicking_flag ⟨w.heap.size, 0, none⟩ p false _ _ [] _ (H2.out.cell_some HQ.out (by simp; omega)) (cell_of_two1 hb') (free_of_two hb' 1)).mono ?_
  rintro e u' w'' ⟨rfl, rfl, rfl⟩
  simp [Leaves, settle, results, Tryz.results78, go_sem]
  refine ⟨rfl, l', ⟨A', cap', two_setCell1 hb', fail_keep hb' hbi', hc', hm'⟩, ((HK.out.mono (by simp)).trans H2.out (fun _ h _ => h)).setCell (by simp) _⟩

/-- The method: what it answers. -/
theorem Bool_gone (w : World) (p g : Nat) (l : List UInt8) (hr : RdAt w p g l true) : Calls Tryz.prog 49 #[.pointer (some ⟨p, 0, none⟩)] w (Gone (.bool false) p g w) := by
  have hmf : ∀ (fn : Fn) (first cap : Array Value) (w : World), (Instr.makeFunc fn first cap).run Tryz.prog w = .ok (.func fn first cap) w := fun _ _ _ _ => rfl
  go_enter Tryz.func49, Tryz.ntmps49
  go_wp2_with fail
  refine (attempt_gone_flag w p g l _ hr).mono ?_
  rintro e w' ⟨rfl, h1⟩
  have H1 := Lib.hid h1
  clear h1
  go_wp2_with fail
  go_ret
  exact ⟨rfl, H1.out⟩
theorem Bool_fell (w : World) (p g : Nat) (l : List UInt8) (hr : RdAt w p g l false)
    (hread : ∀ w1, RdAt w1 p g l false → Calls Tryz.prog 79 #[.pointer (some ⟨p, 0, none⟩)] w1 (Fell p g false w1)) : Calls Tryz.prog 49 #[.pointer (some ⟨p, 0, none⟩)] w (Gone (.bool false) p g w) := by
  have hmf : ∀ (fn : Fn) (first cap : Array Value) (w : World), (Instr.makeFunc fn first cap).run Tryz.prog w = .ok (.func fn first cap) w := fun _ _ _ _ => rfl
  have HREAD := Lib.hid hread
  clear hread
  go_enter Tryz.func49, Tryz.ntmps49
  go_wp2_with fail
  refine (attempt_fell_flag w p g l hr HREAD.out).mono ?_
  rintro e w' ⟨rfl, h1⟩
  have H1 := Lib.hid h1
  clear h1
  go_wp2_with fail
  go_ret
  exact ⟨rfl, H1.out⟩
theorem Bool_gave (w : World) (p g : Nat) (l l' : List UInt8) (v : Value) (hr : RdAt w p g l false)
    (hread : ∀ w1, RdAt w1 p g l false → Calls Tryz.prog 79 #[.pointer (some ⟨p, 0, none⟩)] w1 (Took v l' p g false w1)) : Calls Tryz.prog 49 #[.pointer (some ⟨p, 0, none⟩)] w (Gave v l' p g w) := by
  have hmf : ∀ (fn : Fn) (first cap : Array Value) (w : World), (Instr.makeFunc fn first cap).run Tryz.prog w = .ok (.func fn first cap) w := fun _ _ _ _ => rfl
  have HREAD := Lib.hid hread
  clear hread
  go_enter Tryz.func49, Tryz.ntmps49
  go_wp2_with fail
  refine (attempt_ok_flag w p g l l' v hr HREAD.out).mono ?_
  rintro e w' ⟨rfl, h1⟩
  have H1 := Lib.hid h1
  clear h1
  go_wp2_with fail
  go_ret
  exact ⟨rfl, H1.out⟩

end Go.Proofs.YtbanpdeganlndaaGreatDoor.Cd
namespace Go.Proofs.YtbanpdeganlndaaGreatDoor.Cd
open Go.RowKit

/-- A slice of cells in block h that reads as vs: nothing is asked of an empty one. -/
def CellsIn (w : World) (h : Nat) (A : Option Addr) (vs : List Value) : Prop :=
  vs = [] ∨ ∃ off, A = some ⟨h, off, none⟩ ∧ ∀ k (hk : k < vs.length), w.cell? ⟨h, off + k, none⟩ = some vs[k]
theorem CellsIn.keep {S : List Nat} {w w' : World} {g : Nat} {A : Option Addr} {l : List Value} (h : CellsIn w g A l) (hk : Keeps S w w') (hn : g ∉ S) : CellsIn w' g A l := by
  rcases h with h | ⟨off, hA, hc⟩
  · exact .inl h
  · exact .inr ⟨off, hA, fun k hl => hk.cell_some (hc k hl) hn⟩

theorem own_slice {w : World} {base : Nat} {e : TypeId} {v : Value} {n : Nat} {xs : List Value} (h : w.ownsRow base e 1 v n xs) (hn : 0 < n) : ∃ g c, v = .slice (some ⟨g, 0, none⟩) n c := by
  rcases own_form h with ⟨_, h⟩ | ⟨g, c, h, _⟩
  · omega
  · exact ⟨g, c, h⟩
/-- Behind an append the writer's own cell is as it was. -/
theorem pushed_cell {wr wa w1 : World} {p : Nat} {v : Value} {n : Nat} {xs : List Value} (hb : wr.heap[p]? = some (.cells #[v] 186 (0, 0))) (hown : wr.ownsRow 0 5 1 v n xs) (ha : Keeps [] wr wa) (h2 : wa.grownBy w1 v.ownBlock) :
    v.ownBlock ≠ some p ∧ w1.heap[p]? = some (.cells #[v] 186 (0, 0)) ∧ Keeps v.ownBlock.toList wr w1 := by
  have hvp : v.ownBlock ≠ some p := by
    rcases hown.2 with ⟨rfl, _⟩ | ⟨g, cap, cur, rfl, _, hg, _⟩
    · simp [Value.ownBlock]
    · intro he
      obtain rfl : g = p := by simpa [Value.ownBlock] using he
      rw [hb] at hg
      simp at hg
  have hk1 : Keeps v.ownBlock.toList wr w1 := ha.mono (T := v.ownBlock.toList) (by simp) |>.trans (Keeps.of_grown h2) (fun _ h _ => h)
  exact ⟨hvp, block_keep hb hk1 (fun hm => hvp (by simpa using hm)), hk1⟩

/-- What an append to the writer's bytes and the store of it leave. -/
theorem WrAt.pushed {wr wa w1 : World} {p gk m : Nat} {L new : List UInt8} {v v' : Value} (hb : wr.heap[p]? = some (.cells #[v] 186 (0, 0))) (h0 : v.ownBlock = none ∨ v.ownBlock = some gk) (hgk : gk < wr.heap.size)
    (hown : wr.ownsRow 0 5 1 v L.length (u8s L)) (ha : Keeps [] wr wa) (hm : m = new.length)
    (h1 : w1.ownsRow 0 5 1 v' (L.length + m) (u8s L ++ u8s new)) (h2 : wa.grownBy w1 v.ownBlock) (h3 : v'.ownBlock = v.ownBlock ∨ v'.ownBlock = some wa.heap.size) :
    ∃ g', WrAt (w1.setCell ⟨p, 0, none⟩ v') p g' (L ++ new) ∧ (g' = gk ∨ wr.heap.size ≤ g') ∧ Keeps [p, gk] wr (w1.setCell ⟨p, 0, none⟩ v') := by
  have hp := block_lt hb
  obtain ⟨hvp, hb1, hk1⟩ := pushed_cell hb hown ha h2
  have hv'p : v'.ownBlock ≠ some p := by
    rcases h3 with h3 | h3 <;> rw [h3]
    · exact hvp
    · have := ha.size
      intro he
      have := Option.some.inj he
      omega
  have hsz := h2.size
  have hw := ha.size
  have hset : (w1.setCell ⟨p, 0, none⟩ v').heap.size = w1.heap.size := by simp [World.setCell]
  have hown' := ownsRow_setCell_other h1 (a := ⟨p, 0, none⟩) hv'p v'
  rw [← u8s_append, show L.length + m = (L ++ new).length by simp [hm]] at hown'
  have hks : Keeps [p, gk] wr (w1.setCell ⟨p, 0, none⟩ v') := (hk1.mono (T := [p, gk]) (fun i hi _ => by rcases h0 with h0 | h0 <;> rw [h0] at hi <;> simp_all)).setCell (by simp) _
  rcases h3 with h3 | h3
  · exact ⟨gk, ⟨v', one_setCell hb1, hown', by rw [h3]; exact h0, by omega⟩, .inl rfl, hks⟩
  · refine ⟨wa.heap.size, ⟨v', one_setCell hb1, hown', .inr h3, ?_⟩, .inr hw, hks⟩
    have := h1.lt _ h3
    omega

/-- What a method of the writer's leaves: it has written l in all. -/
def Wrote (w : World) (p g : Nat) (l : List UInt8) (e : Ending) (w' : World) : Prop :=
  e = .returned (.tuple #[]) ∧ ∃ g', WrAt w' p g' l ∧ (g' = g ∨ w.heap.size ≤ g') ∧ Keeps [p, g] w w'

def nums (k : IntKind) (ns : List Nat) : List Value := ns.map fun (n : Nat) => .int k (n : Int)
theorem nums_get {k : IntKind} {ns : List Nat} {j : Nat} (h : j < ns.length) : (nums k ns)[j]'(by simpa [nums] using h) = .int k ((ns[j] : Nat) : Int) := by simp [nums]
theorem flat_len : ∀ (ns : List Nat), (∀ n ∈ ns, n < 18446744073709551616) → (ns.flatMap M.enc).length ≤ 10 * ns.length
  | [], _ => by simp
  | n :: r, h => by
    have h1 := flat_len r (fun m hm => h m (by simp [hm]))
    have h2 := M.enc_len64 (h n (by simp))
    simp only [List.flatMap_cons, List.length_append, List.length_cons]
    omega
theorem enc_step {L l : List UInt8} {v : Nat} (h : l ++ M.enc v = L) (hv : ¬ v < 128) : (l ++ [UInt8.ofNat (v % 128 + 128)]) ++ M.enc (v / 128) = L := by
  rw [M.enc_big hv] at h
  simpa using h

set_option maxHeartbeats 1000000 in
set_option maxRecDepth 100000 in
theorem num_any (w : World) (p g h : Nat) (l : List UInt8) (A : Option Addr) (ns : List Nat) (cap : Nat) (hw : WrAt w p g l) (hr : CellsIn w h A (nums .u64 ns)) (hp : h ≠ p) (hg : h ≠ g)
    (hn : ∀ n ∈ ns, n < 18446744073709551616) (hl : l.length + 10 * ns.length ≤ 70368744177664) :
    Calls Tryz.prog 145 #[.pointer (some ⟨p, 0, none⟩), .slice A ns.length cap] w (Wrote w p g (l ++ ns.flatMap M.enc)) := by
  obtain ⟨i0, hi, hz0, hz1, hz2⟩ := info_parts infoU8
  have HR := Lib.hid hr
  have HN := Lib.hid hn
  have HW := Lib.hid hw
  clear hr hn hw
  go_enter Tryz.func145, Tryz.ntmps145
  go_wp2
  go_loopw [5, 8] (fun _ i wr => ∃ k gk : Nat, k ≤ ns.length ∧ i = .int .i64 k ∧ WrAt wr p gk (l ++ (ns.take k).flatMap M.enc) ∧ (gk = g ∨ w.heap.size ≤ gk) ∧ Keeps [p, g] w wr) (fun _ i _ => ns.length - (Go.RowKit.intOf i).toNat)
  case atStart => exact ⟨0, g, Nat.zero_le _, rfl, by simpa using HW.out, .inl rfl, Keeps.refl _ _⟩
  case round =>
    obtain ⟨k, gk, hk, rfl, hwk, hgk, hkeep⟩ := hrel
    have HK := Lib.hid hkeep
    have HWK := Lib.hid hwk
    have HGK := Lib.hid hgk
    clear hkeep hwk hgk
    by_cases hlt : k < ns.length
    · rcases HR.out with h0 | ⟨off, rfl, hcell⟩
      · have : ns = [] := by simpa [nums] using h0
        subst this; simp at hlt
      · have hc := hcell k (by simpa [nums] using hlt)
        rw [nums_get hlt] at hc
        obtain ⟨n, hn⟩ : ∃ n, n = ns[k] := ⟨_, rfl⟩
        rw [← hn] at hc
        have hcw := HK.out.cell_some hc (show h ∉ [p, g] by simp [hp, hg])
        have hn64 : n < 18446744073709551616 := by rw [hn]; exact HN.out _ (List.getElem_mem hlt)
        have HL : Hid ((l ++ (ns.take k).flatMap M.enc ++ M.enc n).length ≤ 70368744177664) := Lib.hid (by
          have h1 := flat_len (ns.take k) (fun m hm => HN.out m (List.mem_of_mem_take hm))
          have h2 := M.enc_len64 hn64
          simp only [List.length_append]
          simp only [List.length_take] at h1
          omega)
        have HE : Hid (l ++ (ns.take k).flatMap M.enc ++ M.enc n = l ++ (ns.take (k + 1)).flatMap M.enc) := Lib.hid (by
          rw [List.take_succ_eq_append_getElem hlt, hn]; simp only [List.flatMap_append, List.flatMap_cons, List.flatMap_nil, List.append_nil, List.append_assoc])
        have H64 := Lib.hid hn64
        clear hc hcell hn hn64
        obtain ⟨wo, rfl⟩ : ∃ wo : World, wo = wr := ⟨_, rfl⟩
        go_wp2
        go_loopw [5] (fun x w2 => ∃ (v' g2 : Nat) (l2 : List UInt8), x = .int .u64 (v' : Int) ∧ v' < 18446744073709551616 ∧ WrAt w2 p g2 l2 ∧ l2 ++ M.enc v' = l ++ (ns.take k).flatMap M.enc ++ M.enc n ∧ (g2 = g ∨ w.heap.size ≤ g2) ∧ Keeps [p, g] w w2) (fun x _ => (Go.RowKit.intOf x).toNat)
        case atStart => exact ⟨n, gk, _, rfl, H64.out, HWK.out, rfl, HGK.out, HK.out⟩
        case round =>
          obtain ⟨v', g2, l2, rfl, hv64, hw2, hl2, hg2, hk2⟩ := hrel
          have hlen : l2.length + (M.enc v').length ≤ 70368744177664 := by
            have := congrArg List.length hl2
            rw [List.length_append] at this
            have h2 := HL.out
            omega
          have hlp := M.enc_pos v'
          have hl2' : l2.length + 1 ≤ 140737488355328 := by omega
          have HW2 := Lib.hid hw2
          have HL2 := Lib.hid hl2
          have HG2 := Lib.hid hg2
          have HK2 := Lib.hid hk2
          obtain ⟨v, hb, hown, hvb, hg2s⟩ := HW2.out
          have hcp := cell_of_one hb
          have hfp := free_of_one hb
          have HB := Lib.hid hb
          have HO := Lib.hid hown
          have HVB := Lib.hid hvb
          clear hw2 hl2 hg2 hk2 hb hown hvb hlen hlp
          by_cases hbig : v' < 128
          · have HN' := Lib.hid (show [Value.int .u8 (v' : Int)] = u8s [UInt8.ofNat v'] by simp only [u8s, List.map_cons, List.map_nil]; rw [M.u8_toNat (by omega)])
            have HE' := Lib.hid (show l2 ++ [UInt8.ofNat v'] = l ++ (ns.take (k + 1)).flatMap M.enc by rw [← HE.out, ← HL2.out, M.enc_small hbig])
            go_wp2_with (at_builtin; refine wpList_append_own_at _ rfl _ _ 62 rfl 0 5 i0 (.int .u8 0) 1 1 Tryz.underlying62 hi hz0 hz1 hz2 rfl (by decide) v l2.length (u8s l2) rfl (HO.out.alloc _) ⟨wr.heap.size, 0, none⟩ 1 1 [.int .u8 (v' : Int)] rfl rfl (cell_one_new _ _ _) ?qa2 ?qa3 ?qa4 ?qa5 ?_)
            case qa2 => rw [HN'.out]; exact u8s_one _
            case qa3 => unfold maxLen; omega
            case qa4 => omega
            case qa5 => simp
            intro v1 w1 h1 h2 _ h3
            rw [HN'.out] at h1
            obtain ⟨g1, c1, rfl⟩ := own_slice h1 (by omega)
            obtain ⟨-, hb1, -⟩ := pushed_cell HB.out HO.out ((Keeps.refl [] wr).alloc _) h2
            have hcp1 := cell_of_one hb1
            have hfp1 := free_of_one hb1
            obtain ⟨g', hq1, hq2, hq3⟩ := WrAt.pushed HB.out HVB.out hg2s HO.out ((Keeps.refl [] wr).alloc _) rfl h1 h2 (by simpa using h3)
            have HQ1 := Lib.hid hq1
            have HQ2 := Lib.hid hq2
            have HQ3 := Lib.hid hq3
            clear h1 h2 h3 hq1 hq2 hq3 hb1
            go_wp2
            go_roundw
            case rel =>
              refine ⟨k + 1, g', by omega, by go_num, ?_, ?_, ?_⟩
              · rw [← HE'.out]; exact HQ1.out
              · have := HQ2.out; have := HG2.out; have := HK2.out.size; omega
              · refine HK2.out.trans HQ3.out (fun i hi hl => ?_)
                have := HG2.out
                simp only [List.mem_cons, List.not_mem_nil, or_false] at hi ⊢
                omega
            case measure => simp [Go.RowKit.intOf]; omega
          · have HN' := Lib.hid (show [Value.int .u8 (bits .or .u8 ((v' : Int) % 256) 128)] = u8s [UInt8.ofNat (v' % 128 + 128)] by simp only [u8s, List.map_cons, List.map_nil]; rw [M.u8_toNat (by omega), M.or_128])
            have HE' := Lib.hid (enc_step HL2.out hbig)
            go_wp2_with (at_builtin; refine wpList_append_own_at _ rfl _ _ 62 rfl 0 5 i0 (.int .u8 0) 1 1 Tryz.underlying62 hi hz0 hz1 hz2 rfl (by decide) v l2.length (u8s l2) rfl (HO.out.alloc _) ⟨wr.heap.size, 0, none⟩ 1 1 [.int .u8 (bits .or .u8 ((v' : Int) % 256) 128)] rfl rfl (cell_one_new _ _ _) ?qb2 ?qb3 ?qb4 ?qb5 ?_)
            case qb2 => rw [HN'.out]; exact u8s_one _
            case qb3 => unfold maxLen; omega
            case qb4 => omega
            case qb5 => simp
            intro v1 w1 h1 h2 _ h3
            rw [HN'.out] at h1
            obtain ⟨g1, c1, rfl⟩ := own_slice h1 (by omega)
            obtain ⟨-, hb1, -⟩ := pushed_cell HB.out HO.out ((Keeps.refl [] wr).alloc _) h2
            have hcp1 := cell_of_one hb1
            have hfp1 := free_of_one hb1
            obtain ⟨g', hq1, hq2, hq3⟩ := WrAt.pushed HB.out HVB.out hg2s HO.out ((Keeps.refl [] wr).alloc _) rfl h1 h2 (by simpa using h3)
            have HQ1 := Lib.hid hq1
            have HQ2 := Lib.hid hq2
            have HQ3 := Lib.hid hq3
            clear h1 h2 h3 hq1 hq2 hq3 hb1
            go_wp2
            go_roundw
            case rel =>
              refine ⟨v' / 128, g', _, by go_num, by omega, HQ1.out, HE'.out, ?_, ?_⟩
              · have := HQ2.out; have := HG2.out; have := HK2.out.size; omega
              · refine HK2.out.trans HQ3.out (fun i hi hl => ?_)
                have := HG2.out
                simp only [List.mem_cons, List.not_mem_nil, or_false] at hi ⊢
                omega
            case measure => simp [Go.RowKit.intOf]; omega
    · go_wp2
      go_end0
      refine ⟨rfl, gk, ?_, HGK.out, HK.out⟩
      have := HWK.out
      rwa [List.take_of_length_le (by omega)] at this
end Go.Proofs.YtbanpdeganlndaaGreatDoor.Cd
namespace Go.Proofs.YtbanpdeganlndaaGreatDoor.Cd
open Go.RowKit

def ints (zs : List Int) : List Value := zs.map fun z => .int .i64 z
theorem ints_get {zs : List Int} {j : Nat} (h : j < zs.length) : (ints zs)[j]'(by simpa [ints] using h) = .int .i64 zs[j] := by simp [ints]
def encInt (z : Int) : List UInt8 := M.enc (M.zig z)
theorem encInt_len {z : Int} (h : Wide z) : (encInt z).length ≤ 10 := M.enc_len64 (M.zig_lt h.1 h.2)
theorem flat_ints_len : ∀ (zs : List Int), (∀ z ∈ zs, Wide z) → (zs.flatMap encInt).length ≤ 10 * zs.length
  | [], _ => by simp
  | n :: r, h => by
    have h1 := flat_ints_len r (fun m hm => h m (by simp [hm]))
    have h2 := encInt_len (h n (by simp))
    simp only [List.flatMap_cons, List.length_append, List.length_cons]
    omega
theorem flat_next {α : Type} (f : α → List UInt8) (l : List UInt8) {zs : List α} {k : Nat} (hlt : k < zs.length) : l ++ (zs.take k).flatMap f ++ f zs[k] = l ++ (zs.take (k + 1)).flatMap f := by
  rw [List.take_succ_eq_append_getElem hlt]; simp only [List.flatMap_append, List.flatMap_cons, List.flatMap_nil, List.append_nil, List.append_assoc]

/-- Num of one number in a new block. -/
theorem num_one {w : World} {p g : Nat} {l : List UInt8} {n : Nat} {v : Int} (hw : WrAt w p g l) (hv : v = (n : Int)) (hn : n < 18446744073709551616) (hl : l.length + 10 ≤ 70368744177664) :
    Calls Tryz.prog 145 #[.pointer (some ⟨p, 0, none⟩), .slice (some ⟨w.heap.size, 0, none⟩) 1 1] (w.alloc (.cells #[.int .u64 v] 47)) fun e w' =>
      e = .returned (.tuple #[]) ∧ ∃ g', WrAt w' p g' (l ++ M.enc n) ∧ (g' = g ∨ w.heap.size ≤ g') ∧ Keeps [p, g] w w' := by
  subst hv
  have hlt := hw.lt
  have hk := (Keeps.refl [] w).alloc (.cells #[.int .u64 (n : Int)] 47)
  refine (num_any _ p g w.heap.size l _ [n] 1 (hw.keep hk (by simp) (by simp)) (.inr ⟨0, rfl, fun k hk => ?_⟩) (by omega) (by omega) (by simpa using hn) (by simpa using hl)).mono ?_
  · have : k = 0 := by simpa [nums] using hk
    subst this
    simp [nums]
  · rintro e w' ⟨rfl, g', h1, h2, h3⟩
    refine ⟨rfl, g', by simpa using h1, ?_, ?_⟩
    · have := hk.size; omega
    · exact (hk.mono (by simp)).trans h3 (fun i hi _ => hi)

theorem next_rel {α : Type} {f : α → List UInt8} {w wr w' : World} {p g gk k : Nat} {l t : List UInt8} {ns : List α} (he : l ++ (ns.take k).flatMap f ++ t = l ++ (ns.take (k + 1)).flatMap f) (hlt : k < ns.length)
    (hgk : gk = g ∨ w.heap.size ≤ gk) (hk : Keeps [p, g] w wr) (hq : ∃ g', WrAt w' p g' (l ++ (ns.take k).flatMap f ++ t) ∧ (g' = gk ∨ wr.heap.size ≤ g') ∧ Keeps [p, gk] wr w') :
    ∃ k' gk' : Nat, k' ≤ ns.length ∧ Value.int .i64 ((k : Int) + 1) = .int .i64 k' ∧ WrAt w' p gk' (l ++ (ns.take k').flatMap f) ∧ (gk' = g ∨ w.heap.size ≤ gk') ∧ Keeps [p, g] w w' := by
  obtain ⟨g', h1, h2, h3⟩ := hq
  rw [he] at h1
  have := hk.size
  refine ⟨k + 1, g', hlt, by go_num, h1, by omega, hk.trans h3 (fun i hi hl => ?_)⟩
  simp only [List.mem_cons, List.not_mem_nil, or_false] at hi ⊢
  omega

/-! ### Text -/
def texts (ss : List ByteArray) : List Value := ss.map .string
theorem texts_get {ss : List ByteArray} {j : Nat} (h : j < ss.length) : (texts ss)[j]'(by simpa [texts] using h) = .string ss[j] := by simp [texts]
def encT (s : ByteArray) : List UInt8 := M.encText s.data.toList
theorem strCells_eq (s : ByteArray) : Lib.strCells s = u8s s.data.toList := rfl
theorem flat_take_len {α : Type} (f : α → List UInt8) (zs : List α) (k : Nat) : ((zs.take k).flatMap f).length ≤ (zs.flatMap f).length := by
  have h : zs.flatMap f = (zs.take k).flatMap f ++ (zs.drop k).flatMap f := by rw [← List.flatMap_append, List.take_append_drop]
  rw [h, List.length_append]; omega

/-- 'append(b, s...)' of a string: where the new row lies. -/
theorem run_append_text {P : Program} (w : World) (base : Nat) (t u ty e : TypeId) (i : TypeInfo) (ht : P.underlying t = some (.slice e)) (hu : P.underlying u = some .string) (hi : P.info? e = some i) (hz : i.zero = some (.int .u8 0))
    (hsize : i.size = 1) (hby : i.bytes = 1) (v : Value) (n : Nat) (xs : List Value) (hown : w.ownsRow base e 1 v n xs) (s : ByteArray) (hbytes : n + s.size ≤ 140737488355328) (hbase : base ≤ w.heap.size) :
    ∃ v' w', (Builtin.append_ #[t, u] ty #[v, .string s]).run P w = .ok v' w' ∧ w'.ownsRow base e 1 v' (n + s.size) (xs ++ u8s s.data.toList) ∧ w.grownBy w' v.ownBlock ∧ (v'.ownBlock = v.ownBlock ∨ v'.ownBlock = some w.heap.size) := by
  obtain ⟨v', w', hr, h2, h3, h4⟩ := Lib.run_append_own_string (P := P) w base t u ty e i ht hu hi hz hsize hby v n xs hown s (by unfold maxLen; omega) hbytes hbase
  refine ⟨v', w', hr, h2, h3, ?_⟩
  have hxl : xs.length = n := by simpa using hown.1
  rcases hown.2 with ⟨rfl, rfl⟩ | ⟨g, cap, cur, rfl, _, hg, hnc, hcm, hcs, _⟩
  · by_cases hm : s.size = 0
    · exact .inl (by rw [h4.2 ⟨rfl, hm⟩])
    · have hr' := run_append_nil_string (P := P) w t u ty e i (.int .u8 0) ht hu hi hz s (by omega) (by omega) (by rw [hby]; omega)
      rw [hr'] at hr
      injection hr with e1 _
      exact .inr (by rw [← e1]; rfl)
  · by_cases hroom : n + s.size ≤ cap
    · have hcs' : cur.size = cap := by simpa using hcs
      have hr' := Lib.run_append_room_string (P := P) w t u ty e i ht hu hi hsize g n cap cur hg s hroom (by omega)
      rw [hr'] at hr
      injection hr with e1 _
      exact .inl (by rw [← e1]; rfl)
    · have holds : ∀ j u, xs[j]? = some u → w.cell? ((⟨g, 0, none⟩ : Addr).add j) = some u := hown.cells (g := g) rfl
      have hr' := Lib.run_append_grow_string (P := P) w t u ty e i (.int .u8 0) ht hu hi hz ⟨g, 0, none⟩ n cap xs (by rw [hsize]; simpa using hxl) holds s (by omega) (by omega) (by rw [hby]; exact growslice_fits (by omega) (by omega))
      rw [hr'] at hr
      injection hr with e1 _
      exact .inr (by rw [← e1]; rfl)
theorem wpList_append_text {P : Program} (w : World) {ops : Array Oper} {rest : List Oper} {o : Oper} {a : Act} {Q : Exit → Act → World → Prop} (hgd : o.guard = none) (sl x : Operand) (t u : TypeId)
    (ho : o.op = .call { callee := .builtin .append, args := #[sl, x], argTypes := #[t, u] })
    (base : Nat) (e : TypeId) (i : TypeInfo) (ht : P.underlying t = some (.slice e)) (hu : P.underlying u = some .string) (hi : P.info? e = some i) (hz : i.zero = some (.int .u8 0))
    (hsize : i.size = 1) (hby : i.bytes = 1) (v : Value) (n : Nat) (xs : List Value) (hs : a.eval sl = v) (hown : w.ownsRow base e 1 v n xs) (s : ByteArray) (hx : a.eval x = .string s)
    (hbytes : n + s.size ≤ 140737488355328) (hbase : base ≤ w.heap.size)
    (h : ∀ v' w', w'.ownsRow base e 1 v' (n + s.size) (xs ++ u8s s.data.toList) → w.grownBy w' v.ownBlock → (v'.ownBlock = v.ownBlock ∨ v'.ownBlock = some w.heap.size) → wpList P ops Q rest (a.put o.dst v') w') : wpList P ops Q (o :: rest) a w := by
  refine wpList_plain hgd fun K hK => ?_
  obtain ⟨v', w', hr, h2, h3, h4⟩ := run_append_text (P := P) w base t u o.type e i ht hu hi hz hsize hby v n xs hown s hbytes hbase
  unfold Oper.wp execOp
  simp only [ho, resolve, invoke, builtin, Sem.run_bind, Sem.run_pure, Result.andThen_ok, List.map_toArray, List.map_cons, List.map_nil, hs, hx, hr]
  exact hK _ _ (h v' w' h2 h3 h4)
theorem own_any {w : World} {base : Nat} {e : TypeId} {v : Value} {n : Nat} {xs : List Value} (h : w.ownsRow base e 1 v n xs) : ∃ A c, v = .slice A n c := by
  rcases own_form h with ⟨h, h0⟩ | ⟨g, c, h, _⟩
  · exact ⟨none, 0, by rw [h, h0]⟩
  · exact ⟨_, c, h⟩

set_option maxHeartbeats 1000000 in
set_option maxRecDepth 100000 in
theorem text_any (w : World) (p g h : Nat) (l : List UInt8) (A : Option Addr) (ns : List ByteArray) (cap : Nat) (hw : WrAt w p g l) (hr : CellsIn w h A (texts ns)) (hp : h ≠ p) (hg : h ≠ g)
    (hnl : ns.length ≤ 70368744177664) (hl : l.length + (ns.flatMap encT).length ≤ 70368744177000) :
    Calls Tryz.prog 124 #[.pointer (some ⟨p, 0, none⟩), .slice A ns.length cap] w (Wrote w p g (l ++ ns.flatMap encT)) := by
  obtain ⟨i0, hi, hz0, hz1, hz2⟩ := info_parts infoU8
  have HR := Lib.hid hr
  have HW := Lib.hid hw
  clear hr hw
  go_enter Tryz.func124, Tryz.ntmps124
  go_wp2
  go_loopw [5, 8] (fun _ i wr => ∃ k gk : Nat, k ≤ ns.length ∧ i = .int .i64 k ∧ WrAt wr p gk (l ++ (ns.take k).flatMap encT) ∧ (gk = g ∨ w.heap.size ≤ gk) ∧ Keeps [p, g] w wr) (fun _ i _ => ns.length - (Go.RowKit.intOf i).toNat)
  case atStart => exact ⟨0, g, Nat.zero_le _, rfl, by simpa using HW.out, .inl rfl, Keeps.refl _ _⟩
  case round =>
    obtain ⟨k, gk, hk, rfl, hwk, hgk, hkeep⟩ := hrel
    have HK := Lib.hid hkeep
    have HWK := Lib.hid hwk
    have HGK := Lib.hid hgk
    clear hkeep hwk hgk
    by_cases hlt : k < ns.length
    · rcases HR.out with h0 | ⟨off, rfl, hcell⟩
      · have : ns = [] := by simpa [texts] using h0
        subst this; simp at hlt
      · have hc := hcell k (by simpa [texts] using hlt)
        rw [texts_get hlt] at hc
        have HE := Lib.hid (flat_next encT l hlt)
        have HTL := Lib.hid (flat_take_len encT ns (k + 1))
        obtain ⟨n, hn⟩ : ∃ n, n = ns[k] := ⟨_, rfl⟩
        rw [← hn] at hc HE
        have hcw := HK.out.cell_some hc (show h ∉ [p, g] by simp [hp, hg])
        have hsum : (l ++ (ns.take k).flatMap encT).length + (M.enc n.size).length + n.size ≤ 70368744177000 := by
          have h1 := congrArg List.length HE.out
          have h2 := HTL.out
          have h3 : (encT n).length = (M.enc n.size).length + n.size := by
            unfold encT M.encText
            rw [List.length_append, Array.length_toList]
            rfl
          simp only [List.length_append] at h1 ⊢
          omega
        have hn1 : n.size ≤ 70368744177664 := by omega
        have HSUM := Lib.hid hsum
        clear hc hcell hn hsum
        go_wp2_with fail
        refine (num_one (n := n.size) HWK.out ?_ ?_ ?_).mono ?_
        · rfl
        · omega
        · have := HSUM.out; omega
        rintro e w2 ⟨rfl, hq⟩
        obtain ⟨g2, hw2, hg2, hk2⟩ := hq
        obtain ⟨L2, hL2⟩ : ∃ L2, L2 = l ++ List.flatMap encT (List.take k ns) ++ M.enc n.size := ⟨_, rfl⟩
        rw [← hL2] at hw2
        have hlen2 : L2.length + n.size ≤ 140737488355328 := by have := HSUM.out; rw [hL2, List.length_append]; omega
        have HL2 := Lib.hid hL2
        clear hL2
        obtain ⟨v, hb, hown, hvb, hg2s⟩ := hw2
        have hcp := cell_of_one hb
        have hfp := free_of_one hb
        have HB := Lib.hid hb
        have HO := Lib.hid hown
        have HVB := Lib.hid hvb
        have HG2 := Lib.hid hg2
        have HK2 := Lib.hid hk2
        clear hb hown hvb hg2 hk2
        go_wp2_with (at_builtin; refine wpList_append_text _ rfl _ _ 62 9 rfl 0 5 i0 Tryz.underlying62 Tryz.underlying9 hi hz0 hz1 hz2 v _ _ rfl HO.out n rfl hlen2 (Nat.zero_le _) ?_)
        intro v1 w1 h1 h2 h3
        obtain ⟨A1, c1, rfl⟩ := own_any h1
        obtain ⟨-, hb1, -⟩ := pushed_cell HB.out HO.out (Keeps.refl [] w2) h2
        have hcp1 := cell_of_one hb1
        have hfp1 := free_of_one hb1
        have HQ := Lib.hid (WrAt.pushed HB.out HVB.out hg2s HO.out (Keeps.refl [] w2) (show n.size = n.data.toList.length by rw [Array.length_toList]; rfl) h1 h2 h3)
        clear h1 h2 h3 hb1
        go_wp2
        go_roundw
        case rel =>
          refine next_rel HE.out hlt HGK.out HK.out ?_
          obtain ⟨g3, q1, q2, q3⟩ := HQ.out
          have := HG2.out
          have := HK2.out.size
          have e : l ++ (ns.take k).flatMap encT ++ encT n = L2 ++ n.data.toList := by
            rw [HL2.out]
            unfold encT M.encText
            rw [Array.length_toList, ← List.append_assoc (l ++ _) (M.enc _)]
            rfl
          refine ⟨g3, by rw [e]; exact q1, by omega, HK2.out.trans q3 (fun i hi hl => ?_)⟩
          simp only [List.mem_cons, List.not_mem_nil, or_false] at hi ⊢
          omega
        case measure => simp [Go.RowKit.intOf]; omega
    · go_wp2
      go_end0
      refine ⟨rfl, gk, ?_, HGK.out, HK.out⟩
      have := HWK.out
      rwa [List.take_of_length_le (by omega)] at this

/-! ### Bool -/
def bools (bs : List Bool) : List Value := bs.map .bool
theorem bools_get {bs : List Bool} {j : Nat} (h : j < bs.length) : (bools bs)[j]'(by simpa [bools] using h) = .bool bs[j] := by simp [bools]
theorem flat_bools_len (bs : List Bool) : (bs.flatMap M.encBool).length = bs.length := by
  induction bs with
  | nil => rfl
  | cons b r ih => simp only [List.flatMap_cons, List.length_append, List.length_cons, ih, M.encBool, List.length_nil]; omega

set_option maxHeartbeats 1000000 in
set_option maxRecDepth 100000 in
theorem bool_any (w : World) (p g h : Nat) (l : List UInt8) (A : Option Addr) (ns : List Bool) (cap : Nat) (hw : WrAt w p g l) (hr : CellsIn w h A (bools ns)) (hp : h ≠ p) (hg : h ≠ g)
    (hl : l.length + ns.length ≤ 70368744177664) :
    Calls Tryz.prog 125 #[.pointer (some ⟨p, 0, none⟩), .slice A ns.length cap] w (Wrote w p g (l ++ ns.flatMap M.encBool)) := by
  obtain ⟨i0, hi, hz0, hz1, hz2⟩ := info_parts infoU8
  have HR := Lib.hid hr
  have HW := Lib.hid hw
  clear hr hw
  go_enter Tryz.func125, Tryz.ntmps125
  go_wp2
  go_loopw [5, 8] (fun _ i wr => ∃ k gk : Nat, k ≤ ns.length ∧ i = .int .i64 k ∧ WrAt wr p gk (l ++ (ns.take k).flatMap M.encBool) ∧ (gk = g ∨ w.heap.size ≤ gk) ∧ Keeps [p, g] w wr) (fun _ i _ => ns.length - (Go.RowKit.intOf i).toNat)
  case atStart => exact ⟨0, g, Nat.zero_le _, rfl, by simpa using HW.out, .inl rfl, Keeps.refl _ _⟩
  case round =>
    obtain ⟨k, gk, hk, rfl, hwk, hgk, hkeep⟩ := hrel
    have HK := Lib.hid hkeep
    have HWK := Lib.hid hwk
    have HGK := Lib.hid hgk
    clear hkeep hwk hgk
    by_cases hlt : k < ns.length
    · rcases HR.out with h0 | ⟨off, rfl, hcell⟩
      · have : ns = [] := by simpa [bools] using h0
        subst this; simp at hlt
      · have hc := hcell k (by simpa [bools] using hlt)
        rw [bools_get hlt] at hc
        have HE := Lib.hid (flat_next M.encBool l hlt)
        obtain ⟨n, hn⟩ : ∃ n, n = ns[k] := ⟨_, rfl⟩
        rw [← hn] at hc HE
        have hcw := HK.out.cell_some hc (show h ∉ [p, g] by simp [hp, hg])
        obtain ⟨L2, hL2⟩ : ∃ L2, L2 = l ++ List.flatMap M.encBool (List.take k ns) := ⟨_, rfl⟩
        have hlen2 : L2.length + 1 ≤ 140737488355328 := by
          rw [hL2, List.length_append, flat_bools_len, List.length_take]; omega
        obtain ⟨v, hb, hown, hvb, hg2s⟩ := HWK.out
        rw [← hL2] at hown
        have hcp := cell_of_one hb
        have hfp := free_of_one hb
        have HL2 := Lib.hid hL2
        have HB := Lib.hid hb
        have HO := Lib.hid hown
        have HVB := Lib.hid hvb
        clear hc hcell hn hL2 hb hown hvb
        cases n
        · go_wp2_with (at_builtin; refine wpList_append_own_at _ rfl _ _ 62 rfl 0 5 i0 (.int .u8 0) 1 1 Tryz.underlying62 hi hz0 hz1 hz2 rfl (by decide) v L2.length (u8s L2) rfl (HO.out.alloc _) ⟨wr.heap.size, 0, none⟩ 1 1 (u8s [0]) rfl rfl (cell_one_new _ _ _) (u8s_one _) ?qa3 ?qa4 ?qa5 ?_)
          case qa3 => unfold maxLen; omega
          case qa4 => omega
          case qa5 => simp
          intro v1 w1 h1 h2 _ h3
          obtain ⟨g1, c1, rfl⟩ := own_slice h1 (by omega)
          obtain ⟨-, hb1, -⟩ := pushed_cell HB.out HO.out ((Keeps.refl [] wr).alloc _) h2
          have hcp1 := cell_of_one hb1
          have hfp1 := free_of_one hb1
          have HQ := Lib.hid (WrAt.pushed HB.out HVB.out hg2s HO.out ((Keeps.refl [] wr).alloc _) rfl h1 h2 (by simpa using h3))
          clear h1 h2 h3 hb1
          go_wp2
          go_roundw
          case rel =>
            refine next_rel HE.out hlt HGK.out HK.out ?_
            rw [← HL2.out]
            exact HQ.out
          case measure => simp [Go.RowKit.intOf]; omega
        · go_wp2_with (at_builtin; refine wpList_append_own_at _ rfl _ _ 62 rfl 0 5 i0 (.int .u8 0) 1 1 Tryz.underlying62 hi hz0 hz1 hz2 rfl (by decide) v L2.length (u8s L2) rfl (HO.out.alloc _) ⟨wr.heap.size, 0, none⟩ 1 1 (u8s [1]) rfl rfl (cell_one_new _ _ _) (u8s_one _) ?qb3 ?qb4 ?qb5 ?_)
          case qb3 => unfold maxLen; omega
          case qb4 => omega
          case qb5 => simp
          intro v1 w1 h1 h2 _ h3
          obtain ⟨g1, c1, rfl⟩ := own_slice h1 (by omega)
          obtain ⟨-, hb1, -⟩ := pushed_cell HB.out HO.out ((Keeps.refl [] wr).alloc _) h2
          have hcp1 := cell_of_one hb1
          have hfp1 := free_of_one hb1
          have HQ := Lib.hid (WrAt.pushed HB.out HVB.out hg2s HO.out ((Keeps.refl [] wr).alloc _) rfl h1 h2 (by simpa using h3))
          clear h1 h2 h3 hb1
          go_wp2
          go_roundw
          case rel =>
            refine next_rel HE.out hlt HGK.out HK.out ?_
            rw [← HL2.out]
            exact HQ.out
          case measure => simp [Go.RowKit.intOf]; omega
    · go_wp2
      go_end0
      refine ⟨rfl, gk, ?_, HGK.out, HK.out⟩
      have := HWK.out
      rwa [List.take_of_length_le (by omega)] at this
end Go.Proofs.YtbanpdeganlndaaGreatDoor.Cd
namespace Go.Proofs.YtbanpdeganlndaaGreatDoor.Cd
open Go.RowKit

def doneNum (l : List UInt8) (f : Bool) : Int := if f = true ∨ 0 < l.length then 20 else 0
set_option maxHeartbeats 400000 in
theorem done_any (w : World) (p g : Nat) (l : List UInt8) (f : Bool) (hr : RdAt w p g l f) :
    Calls Tryz.prog 50 #[.pointer (some ⟨p, 0, none⟩)] w fun e w' => e = .returned (.int .i64 (doneNum l f)) ∧ w = w' := by
  obtain ⟨A, cap, hb, hbi, hc, hm⟩ := hr
  have hc0 := cell_of_two0 hb
  have hc1 := cell_of_two1 hb
  have hlen : l.length ≤ 9223372036854775807 := by unfold maxLen at hm; omega
  clear hb hbi hc hm
  cases f with
  | true =>
    go_enter Tryz.func50, Tryz.ntmps50
    go_wp2_with fail
    go_ret
    exact ⟨rfl, rfl⟩
  | false =>
    by_cases hl : 0 < l.length
    · have HD := Lib.hid (show doneNum l false = 20 by unfold doneNum; rw [if_pos (.inr hl)])
      go_enter Tryz.func50, Tryz.ntmps50
      go_wp2_with fail
      go_ret
      exact ⟨by rw [HD.out]; rfl, rfl⟩
    · have HD := Lib.hid (show doneNum l false = 0 by unfold doneNum; rw [if_neg (by simp; simpa using hl)])
      have hl0 : (l.length : Int) ≤ 0 := by omega
      go_enter Tryz.func50, Tryz.ntmps50
      go_wp2_with fail
      go_ret
      exact ⟨by rw [HD.out]; rfl, rfl⟩

theorem enc_m1 : [(-1 : Int), 1].flatMap encInt = [1, 2] := by
  simp only [List.flatMap_cons, List.flatMap_nil, List.append_nil]
  have h1 : encInt (-1) = [1] := by unfold encInt; rw [show M.zig (-1) = 1 by rfl, M.enc_small (by omega)]; rfl
  have h2 : encInt 1 = [2] := by unfold encInt; rw [show M.zig 1 = 2 by rfl, M.enc_small (by omega)]; rfl
  rw [h1, h2]; rfl
theorem dec_12 : M.dec 0 0 [1, 2] = some (1, [2]) := by rfl
theorem dec_2 : M.dec 0 0 [2] = some (2, []) := by rfl

end Go.Proofs.YtbanpdeganlndaaGreatDoor.Cd
