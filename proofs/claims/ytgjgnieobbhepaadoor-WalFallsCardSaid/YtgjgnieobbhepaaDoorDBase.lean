/- A disk in memory: its words. -/
import Derived.Test.YtgjgnieobbhepaaDoorDMath
import Derived.Maps.RangeWalk
import Derived.Maps.OwnSet
namespace Go.Proofs.YtgjgnieobbhepaaDoor
open Go.RowKit

/-- How an element of the fresh map reads: as itself. -/
def Raw : Value → Option (DataW Value × List MemPlace) := fun v => some (.held v, [])
def key (i : Nat) : Lit := .int .i64 (i : Int)
theorem key_inj {i j : Nat} (h : key i = key j) : i = j := by
  have h1 : ((i : Nat) : Int) = (j : Int) := by injection h
  omega
/-- Where a disk lies: itself, its durable row, its fresh map. -/
structure DH where
  p : Nat
  gd : Nat
  gm : Nat
def DH.l (h : DH) : List Nat := [h.p, h.gd, h.gm]
/-- A sector's bytes: in a block of B. -/
def SecV (w : World) (B : Nat → Prop) (v : Value) (b : List UInt8) : Prop := ∃ g off cap, v = .slice (some ⟨g, off, none⟩) b.length cap ∧ BytesIn w g (some ⟨g, off, none⟩) b ∧ b.length ≤ cap ∧ cap ≤ maxLen ∧ B g
theorem SecV.keep {S : List Nat} {w w' : World} {B B' : Nat → Prop} {v : Value} {b : List UInt8} (h : SecV w B v b) (hk : Keeps S w w') (hS : ∀ x ∈ S, ¬ B x) (hB : ∀ x, B x → B' x) : SecV w' B' v b := by
  obtain ⟨g, off, cap, hv, hb, h1, h2, h3⟩ := h
  exact ⟨g, off, cap, hv, hb.keep hk (fun hm => hS g hm h3), h1, h2, hB g h3⟩
/-- What the fresh map holds. -/
def FrAt (w : World) (gm : Nat) (B : Nat → Prop) (n : Nat) (fr : Nat → Option (List UInt8)) : Prop :=
  ∃ (k : Nat) (D : DataW Value), w.ownsMap Tryd.prog 3 Raw gm k D ∧ (∀ kl, Maps.has D kl = true → ∃ i, i < n ∧ kl = key i ∧ (fr i).isSome) ∧
    ∀ i b, fr i = some b → Maps.has D (key i) = true ∧ ∃ v, (∀ z, D.atKey (key i) z = .held v) ∧ SecV w B v b
structure DskAt (w : World) (h : DH) (B : Nat → Prop) (d : Dk) : Prop where
  ok : d.Ok
  box : ∃ cap, w.heap[h.p]? = some (.cells #[.int .i64 (d.size : Int), .slice (some ⟨h.gd, 0, none⟩) d.dur.length cap, .map (some h.gm), .bool d.dead, .bool d.cut, .int .i64 (d.left : Int)] 49 (0, 0))
  rows : ∃ vs : Array Value, w.heap[h.gd]? = some (.cells vs 34 (0, 0)) ∧ ∀ i (hi : i < d.dur.length), ∃ v, vs[i]? = some v ∧ SecV w B v d.dur[i]
  fresh : FrAt w h.gm B d.dur.length d.fr
  sep : ¬ B h.p ∧ ¬ B h.gd ∧ ¬ B h.gm
  low : ∀ x, B x → x < w.heap.size
theorem FrAt.lt {w : World} {gm n : Nat} {B : Nat → Prop} {fr : Nat → Option (List UInt8)} (h : FrAt w gm B n fr) : gm < w.heap.size := by
  obtain ⟨k, D, ho, _⟩ := h
  exact ho.lt
theorem owns_keep {S : List Nat} {w w' : World} {gm k : Nat} {D : DataW Value} (h : w.ownsMap Tryd.prog 3 Raw gm k D) (hk : Keeps S w w') (hn : gm ∉ S) : w'.ownsMap Tryd.prog 3 Raw gm k D := by
  obtain ⟨es, c, hb, F, hs, hD⟩ := h
  exact ⟨es, c, block_keep hb hk hn, F, hs, hD⟩
theorem FrAt.keep {S : List Nat} {w w' : World} {gm n : Nat} {B B' : Nat → Prop} {fr : Nat → Option (List UInt8)} (h : FrAt w gm B n fr) (hk : Keeps S w w') (hn : gm ∉ S) (hS : ∀ x ∈ S, ¬ B x) (hB : ∀ x, B x → B' x) : FrAt w' gm B' n fr := by
  obtain ⟨k, D, ho, h1, h2⟩ := h
  refine ⟨k, D, owns_keep ho hk hn, h1, fun i b hi => ?_⟩
  obtain ⟨h3, v, h4, h5⟩ := h2 i b hi
  exact ⟨h3, v, h4, h5.keep hk hS hB⟩
theorem DskAt.ne {w : World} {h : DH} {B : Nat → Prop} {d : Dk} (x : DskAt w h B d) : h.p ≠ h.gd ∧ h.p ≠ h.gm ∧ h.gd ≠ h.gm := by
  obtain ⟨cap, hb⟩ := x.box
  obtain ⟨vs, hr, _⟩ := x.rows
  obtain ⟨k, D, ⟨es, c, hm, _⟩, _⟩ := x.fresh
  refine ⟨fun e => ?_, fun e => ?_, fun e => ?_⟩
  · rw [e, hr] at hb; simp at hb
  · rw [e, hm] at hb; simp at hb
  · rw [e, hm] at hr; simp at hr
theorem DskAt.lt {w : World} {h : DH} {B : Nat → Prop} {d : Dk} (x : DskAt w h B d) : h.p < w.heap.size ∧ h.gd < w.heap.size ∧ h.gm < w.heap.size := by
  obtain ⟨cap, hb⟩ := x.box
  obtain ⟨vs, hr, _⟩ := x.rows
  exact ⟨block_lt hb, block_lt hr, x.fresh.lt⟩
theorem DskAt.keep {S : List Nat} {w w' : World} {h : DH} {B : Nat → Prop} {d : Dk} (x : DskAt w h B d) (hk : Keeps S w w') (hS : ∀ y ∈ S, y ∉ h.l ∧ ¬ B y) : DskAt w' h B d := by
  have hn : ∀ y ∈ h.l, y ∉ S := fun y hy hm => (hS y hm).1 hy
  obtain ⟨cap, hb⟩ := x.box
  obtain ⟨vs, hr, hv⟩ := x.rows
  refine ⟨x.ok, ⟨cap, block_keep hb hk (hn _ (by simp [DH.l]))⟩, ⟨vs, block_keep hr hk (hn _ (by simp [DH.l])), fun i hi => ?_⟩, x.fresh.keep hk (hn _ (by simp [DH.l])) (fun y hy => (hS y hy).2) (fun _ h => h), x.sep, fun y hy => Nat.lt_of_lt_of_le (x.low y hy) hk.size⟩
  obtain ⟨v, h1, h2⟩ := hv i hi
  exact ⟨v, h1, h2.keep hk (fun y hy => (hS y hy).2) (fun _ h => h)⟩
theorem DskAt.keep0 {w w' : World} {h : DH} {B : Nat → Prop} {d : Dk} (x : DskAt w h B d) (hk : Keeps [] w w') : DskAt w' h B d := x.keep hk (by simp)
/-- A field of the disk's own block turns. -/
theorem DskAt.turn {w w' : World} {h : DH} {B : Nat → Prop} {d d' : Dk} (x : DskAt w h B d) (hk : Keeps [h.p] w w') (hok : d'.Ok) (h1 : d'.size = d.size) (h2 : d'.dur = d.dur) (h3 : d'.fr = d.fr)
    (hb : ∃ cap, w'.heap[h.p]? = some (.cells #[.int .i64 (d'.size : Int), .slice (some ⟨h.gd, 0, none⟩) d'.dur.length cap, .map (some h.gm), .bool d'.dead, .bool d'.cut, .int .i64 (d'.left : Int)] 49 (0, 0))) : DskAt w' h B d' := by
  have hn := x.ne
  have hsp := x.sep
  have hS : ∀ y ∈ [h.p], ¬ B y := fun y hy => by obtain rfl : y = h.p := by simpa using hy
                                                 exact hsp.1
  obtain ⟨vs, hr, hv⟩ := x.rows
  refine ⟨hok, hb, ⟨vs, block_keep hr hk (by simpa using Ne.symm hn.1), fun i hi => ?_⟩, by rw [h2, h3]; exact x.fresh.keep hk (by simpa using Ne.symm hn.2.1) hS (fun _ h => h), hsp, fun y hy => Nat.lt_of_lt_of_le (x.low y hy) hk.size⟩
  obtain ⟨v, q1, q2⟩ := hv i (by rw [h2] at hi; exact hi)
  refine ⟨v, q1, ?_⟩
  have e : d'.dur[i] = d.dur[i]'(by rw [h2] at hi; exact hi) := by simp only [h2]
  rw [e]
  exact q2.keep hk hS (fun _ h => h)
theorem six_set {w : World} {b : Nat} {cs : Array Value} {t : TypeId} (h : w.heap[b]? = some (.cells cs t (0, 0))) (j : Nat) (u : Value) : (w.setCell ⟨b, j, none⟩ u).heap[b]? = some (.cells (cs.setIfInBounds j u) t (0, 0)) := row_set h j u
end Go.Proofs.YtgjgnieobbhepaaDoor
