/- Merged: DMath DBase DRead DMap Region DWrite DPut -/
import Derived.Test.YtbanpdeganlndaaGreatDoorQ0
import Derived.Maps.RangeWalk
import Derived.Maps.OwnSet
import Derived.Lib.SlKeysI
import Derived.Orders
import Derived.Below
import Derived.KernelRfl
import Derived.Tactics2
namespace Go.Proofs.YtbanpdeganlndaaGreatDoor

/-- A disk: what is durable, what was written since (sector by sector), power. -/
structure Dk where
  size : Nat
  dur : List (List UInt8)
  fr : Nat → Option (List UInt8)
  dead : Bool
  cut : Bool
  left : Nat
namespace Dk
def last (d : Dk) (i : Nat) : List UInt8 := match d.fr i with | some b => b | none => d.dur.getD i []
/-- What a disk of New's and of its calls is. -/
structure Ok (d : Dk) : Prop where
  size : 64 ≤ d.size ∧ d.size ≤ 4096
  secs : 1 ≤ d.dur.length ∧ d.dur.length ≤ 4096
  len : ∀ b ∈ d.dur, b.length = d.size
  fr : ∀ i b, d.fr i = some b → i < d.dur.length ∧ b.length = d.size
  left : d.left ≤ 9223372036854775807
def new (n s : Int) : Dk := ⟨(min (max s 64) 4096).toNat, List.replicate (min (max n 1) 4096).toNat (List.replicate (min (max s 64) 4096).toNat 0), fun _ => none, false, false, 0⟩
def power (d : Dk) : Bool := !d.dead && !(d.cut && d.left == 0)
def drawn (d : Dk) : Dk := if d.dead then d else if d.cut then (if d.left = 0 then { d with dead := true } else { d with left := d.left - 1 }) else d
def put (d : Dk) (i : Nat) (b : List UInt8) : Dk := { d with fr := fun j => if j = i then some b else d.fr j }
def settle (d : Dk) : Dk := { d with dur := (List.range d.dur.length).map d.last, fr := fun _ => none }
def writeErr (d : Dk) (i : Int) (b : List UInt8) : Nat := if d.dead then 32 else if ¬ (0 ≤ i ∧ i < d.dur.length) then 30 else if b.length ≠ d.size then 31 else if d.power then 0 else 32
def write (d : Dk) (i : Int) (b : List UInt8) : Dk := if d.dead then d else if ¬ (0 ≤ i ∧ i < d.dur.length) then d else if b.length ≠ d.size then d else if d.power then d.drawn.put i.toNat b else d.drawn
def flushErr (d : Dk) : Nat := if d.power then 0 else 32
def flush (d : Dk) : Dk := if d.power then d.drawn.settle else d.drawn
def cutIn (d : Dk) (n : Int) : Dk := { d with cut := true, left := (max n 0).toNat }
def rank (fr : Nat → Option (List UInt8)) (i : Nat) : Nat := ((List.range i).filter fun j => (fr j).isSome).length
/-- What a crash leaves of the fresh bytes where nothing is torn. -/
def lose (d : Dk) (keep : Nat) : Dk := { d with fr := fun i => if keep / 2 ^ (rank d.fr i % 64) % 2 = 0 then none else d.fr i }
def crash (d : Dk) (keep : Nat) : Dk := { (d.lose keep).settle with dead := false, cut := false, left := 0 }

theorem last_len {d : Dk} (h : d.Ok) {i : Nat} (hi : i < d.dur.length) : (d.last i).length = d.size := by
  unfold last
  cases hf : d.fr i with
  | none =>
    show (d.dur.getD i []).length = _
    rw [List.getD_eq_getElem?_getD, List.getElem?_eq_getElem hi, Option.getD_some]
    exact h.len _ (List.getElem_mem hi)
  | some b => exact (h.fr i b hf).2
theorem ok_new (n s : Int) : (new n s).Ok := by
  refine ⟨?_, ?_, ?_, by simp [new], by simp [new]⟩
  · simp only [new]; omega
  · simp only [new, List.length_replicate]; omega
  · intro b hb
    simp only [new] at hb ⊢
    rw [(List.mem_replicate.1 hb).2, List.length_replicate]
theorem ok_drawn {d : Dk} (h : d.Ok) : d.drawn.Ok := by
  unfold drawn
  split
  · exact h
  · split
    · split
      · exact ⟨h.size, h.secs, h.len, h.fr, h.left⟩
      · exact ⟨h.size, h.secs, h.len, h.fr, by have := h.left; simp only []; omega⟩
    · exact h
theorem ok_put {d : Dk} (h : d.Ok) {i : Nat} {b : List UInt8} (hi : i < d.dur.length) (hb : b.length = d.size) : (d.put i b).Ok := by
  refine ⟨h.size, h.secs, h.len, fun j c hj => ?_, h.left⟩
  simp only [put] at hj ⊢
  split at hj
  · rename_i hji
    cases hj; subst hji; exact ⟨hi, hb⟩
  · exact h.fr j c hj
theorem ok_settle {d : Dk} (h : d.Ok) : d.settle.Ok := by
  refine ⟨h.size, by simpa [settle] using h.secs, fun b hb => ?_, by simp [settle], h.left⟩
  simp only [settle, List.mem_map, List.mem_range] at hb
  obtain ⟨i, hi, rfl⟩ := hb
  exact last_len h hi
theorem ok_lose {d : Dk} (h : d.Ok) (keep : Nat) : (d.lose keep).Ok := by
  refine ⟨h.size, h.secs, h.len, fun i b hb => ?_, h.left⟩
  simp only [lose] at hb ⊢
  split at hb
  · cases hb
  · exact h.fr i b hb
theorem ok_crash {d : Dk} (h : d.Ok) (keep : Nat) : (d.crash keep).Ok :=
  have h1 := ok_settle (ok_lose h keep)
  ⟨h1.size, h1.secs, h1.len, h1.fr, by simp [crash]⟩
theorem ok_cut {d : Dk} (h : d.Ok) {n : Int} (hn : n ≤ 9223372036854775807) : (d.cutIn n).Ok := ⟨h.size, h.secs, h.len, h.fr, by simp only [cutIn]; omega⟩
theorem drawn_same (d : Dk) : d.drawn.size = d.size ∧ d.drawn.dur = d.dur ∧ d.drawn.fr = d.fr := by
  unfold drawn; split
  · exact ⟨rfl, rfl, rfl⟩
  · split
    · split <;> exact ⟨rfl, rfl, rfl⟩
    · exact ⟨rfl, rfl, rfl⟩
theorem ok_write {d : Dk} (h : d.Ok) (i : Int) (b : List UInt8) : (d.write i b).Ok := by
  unfold write
  split
  · exact h
  · split
    · exact h
    · split
      · exact h
      · split
        · rename_i _ h1 h2 _
          have e := drawn_same d
          exact ok_put (ok_drawn h) (by rw [e.2.1]; omega) (by rw [e.1]; omega)
        · exact ok_drawn h
theorem ok_flush {d : Dk} (h : d.Ok) : d.flush.Ok := by
  unfold flush
  split
  · exact ok_settle (ok_drawn h)
  · exact ok_drawn h
/-! ### The numbers of the fresh sectors, in order -/
def keys (d : Dk) : List Nat := (List.range d.dur.length).filter fun j => (d.fr j).isSome
theorem rank_keys {d : Dk} {k i : Nat} (h : d.keys[k]? = some i) : rank d.fr i = k ∧ i < d.dur.length ∧ (d.fr i).isSome := by
  have hm := List.mem_of_getElem? h
  simp only [keys, List.mem_filter, List.mem_range] at hm
  refine ⟨?_, hm⟩
  obtain ⟨m, hm2⟩ : ∃ m, d.dur.length = i + 1 + m := ⟨d.dur.length - (i + 1), by omega⟩
  have hs : List.range d.dur.length = List.range i ++ i :: (List.range m).map (fun j => i + 1 + j) := by
    rw [hm2, List.range_add, List.range_succ, List.append_assoc]; rfl
  have h2 : d.keys = (List.range i).filter (fun j => (d.fr j).isSome) ++ i :: ((List.range m).map (fun j => i + 1 + j)).filter (fun j => (d.fr j).isSome) := by
    unfold keys
    rw [hs, List.filter_append, List.filter_cons, if_pos hm.2]
  have hnd : d.keys.Nodup := List.Pairwise.filter _ List.nodup_range
  have h3 : d.keys[rank d.fr i]? = some i := by rw [h2]; unfold rank; simp
  have h4 := (List.getElem?_eq_some_iff.1 h).1
  have h5 := (List.getElem?_eq_some_iff.1 h3).1
  have e1 := (List.getElem?_eq_some_iff.1 h).2
  have e2 := (List.getElem?_eq_some_iff.1 h3).2
  exact (List.getElem_inj hnd).1 (e2.trans e1.symm)
theorem keys_sorted (d : Dk) : d.keys.Pairwise (· < ·) := List.Pairwise.filter _ List.pairwise_lt_range
theorem keys_le (d : Dk) : d.keys.length ≤ d.dur.length := by
  have := List.length_filter_le (fun j => (d.fr j).isSome) (List.range d.dur.length)
  simpa [keys] using this
end Dk
/-- Two strictly rising lists of the same members are one. -/
theorem rising_eq : ∀ {l m : List Nat}, l.Pairwise (· < ·) → m.Pairwise (· < ·) → (∀ x, x ∈ l ↔ x ∈ m) → l = m
  | [], [], _, _, _ => rfl
  | [], b :: m, _, _, h => by have := (h b).2 (by simp); cases this
  | a :: l, [], _, _, h => by have := (h a).1 (by simp); cases this
  | a :: l, b :: m, hl, hm, h => by
    obtain ⟨h1, h2⟩ := List.pairwise_cons.1 hl
    obtain ⟨h3, h4⟩ := List.pairwise_cons.1 hm
    have hab : a = b := by
      rcases List.mem_cons.1 ((h a).1 (by simp)) with e | e
      · exact e
      · rcases List.mem_cons.1 ((h b).2 (by simp)) with e' | e'
        · exact e'.symm
        · have := h3 a e; have := h1 b e'; omega
    subst hab
    rw [rising_eq h2 h4 (fun x => ?_)]
    have := h x
    constructor
    · intro hx
      rcases List.mem_cons.1 (this.1 (by simp [hx])) with e | e
      · have := h1 x hx; omega
      · exact e
    · intro hx
      rcases List.mem_cons.1 (this.2 (by simp [hx])) with e | e
      · have := h3 x hx; omega
      · exact e
theorem nodup_lt : ∀ (n : Nat) (l : List Nat), l.Nodup → (∀ x ∈ l, x < n) → l.length ≤ n
  | 0, l, _, h => by
    cases l with
    | nil => simp
    | cons a r => have := h a (by simp); omega
  | n + 1, l, hd, h => by
    have h1 := nodup_lt n (l.erase n) (hd.erase n) (fun x hx => by
      have h2 := h x (List.mem_of_mem_erase hx)
      have h3 : x ≠ n := fun e => by subst e; exact (List.Nodup.not_mem_erase hd) hx
      omega)
    have h2 := List.length_erase_le (a := n) (l := l)
    by_cases hm : n ∈ l
    · have := List.length_erase_of_mem hm; omega
    · rw [List.erase_of_not_mem hm] at h1; omega
end Go.Proofs.YtbanpdeganlndaaGreatDoor
namespace Go.Proofs.YtbanpdeganlndaaGreatDoor
open Go.RowKit

/-- How an element of the fresh map reads: as itself. -/
def Raw : Value → Option (DataW Value × List MemPlace) := fun v => some (.held v, [])
def key (i : Nat) : Lit := .int .i64 (i : Int)
theorem key_inj {i j : Nat} (h : key i = key j) : i = j := by
  have h1 : ((i : Nat) : Int) = (j : Int) := by injection h
  omega
/-- Where a disk lies: itself, its durable row, its fresh map. -/
structure DH where
  p : Nat
  gd : Nat
  gm : Nat
def DH.l (h : DH) : List Nat := [h.p, h.gd, h.gm]
/-- A sector's bytes: in a block of B. -/
def SecV (w : World) (B : Nat → Prop) (v : Value) (b : List UInt8) : Prop := ∃ g off cap, v = .slice (some ⟨g, off, none⟩) b.length cap ∧ BytesIn w g (some ⟨g, off, none⟩) b ∧ b.length ≤ cap ∧ cap ≤ maxLen ∧ B g
theorem SecV.keep {S : List Nat} {w w' : World} {B B' : Nat → Prop} {v : Value} {b : List UInt8} (h : SecV w B v b) (hk : Keeps S w w') (hS : ∀ x ∈ S, ¬ B x) (hB : ∀ x, B x → B' x) : SecV w' B' v b := by
  obtain ⟨g, off, cap, hv, hb, h1, h2, h3⟩ := h
  exact ⟨g, off, cap, hv, hb.keep hk (fun hm => hS g hm h3), h1, h2, hB g h3⟩
/-- What the fresh map holds. -/
def FrAt (w : World) (gm : Nat) (B : Nat → Prop) (n : Nat) (fr : Nat → Option (List UInt8)) : Prop :=
  ∃ (k : Nat) (D : DataW Value), w.ownsMap Tryz.prog 3 Raw gm k D ∧ (∀ kl, Maps.has D kl = true → ∃ i, i < n ∧ kl = key i ∧ (fr i).isSome) ∧
    ∀ i b, fr i = some b → Maps.has D (key i) = true ∧ ∃ v, (∀ z, D.atKey (key i) z = .held v) ∧ SecV w B v b
structure DskAt (w : World) (h : DH) (B : Nat → Prop) (d : Dk) : Prop where
  ok : d.Ok
  box : ∃ cap, w.heap[h.p]? = some (.cells #[.int .i64 (d.size : Int), .slice (some ⟨h.gd, 0, none⟩) d.dur.length cap, .map (some h.gm), .bool d.dead, .bool d.cut, .int .i64 (d.left : Int)] 56 (0, 0))
  rows : ∃ vs : Array Value, w.heap[h.gd]? = some (.cells vs 62 (0, 0)) ∧ ∀ i (hi : i < d.dur.length), ∃ v, vs[i]? = some v ∧ SecV w B v d.dur[i]
  fresh : FrAt w h.gm B d.dur.length d.fr
  sep : ¬ B h.p ∧ ¬ B h.gd ∧ ¬ B h.gm
  low : ∀ x, B x → x < w.heap.size
theorem FrAt.lt {w : World} {gm n : Nat} {B : Nat → Prop} {fr : Nat → Option (List UInt8)} (h : FrAt w gm B n fr) : gm < w.heap.size := by
  obtain ⟨k, D, ho, _⟩ := h
  exact ho.lt
theorem owns_keep {S : List Nat} {w w' : World} {gm k : Nat} {D : DataW Value} (h : w.ownsMap Tryz.prog 3 Raw gm k D) (hk : Keeps S w w') (hn : gm ∉ S) : w'.ownsMap Tryz.prog 3 Raw gm k D := by
  obtain ⟨es, c, hb, F, hs, hD⟩ := h
  exact ⟨es, c, block_keep hb hk hn, F, hs, hD⟩
theorem FrAt.keep {S : List Nat} {w w' : World} {gm n : Nat} {B B' : Nat → Prop} {fr : Nat → Option (List UInt8)} (h : FrAt w gm B n fr) (hk : Keeps S w w') (hn : gm ∉ S) (hS : ∀ x ∈ S, ¬ B x) (hB : ∀ x, B x → B' x) : FrAt w' gm B' n fr := by
  obtain ⟨k, D, ho, h1, h2⟩ := h
  refine ⟨k, D, owns_keep ho hk hn, h1, fun i b hi => ?_⟩
  obtain ⟨h3, v, h4, h5⟩ := h2 i b hi
  exact ⟨h3, v, h4, h5.keep hk hS hB⟩
theorem DskAt.ne {w : World} {h : DH} {B : Nat → Prop} {d : Dk} (x : DskAt w h B d) : h.p ≠ h.gd ∧ h.p ≠ h.gm ∧ h.gd ≠ h.gm := by
  obtain ⟨cap, hb⟩ := x.box
  obtain ⟨vs, hr, _⟩ := x.rows
  obtain ⟨k, D, ⟨es, c, hm, _⟩, _⟩ := x.fresh
  refine ⟨fun e => ?_, fun e => ?_, fun e => ?_⟩
  · rw [e, hr] at hb; simp at hb
  · rw [e, hm] at hb; simp at hb
  · rw [e, hm] at hr; simp at hr
theorem DskAt.lt {w : World} {h : DH} {B : Nat → Prop} {d : Dk} (x : DskAt w h B d) : h.p < w.heap.size ∧ h.gd < w.heap.size ∧ h.gm < w.heap.size := by
  obtain ⟨cap, hb⟩ := x.box
  obtain ⟨vs, hr, _⟩ := x.rows
  exact ⟨block_lt hb, block_lt hr, x.fresh.lt⟩
theorem DskAt.keep {S : List Nat} {w w' : World} {h : DH} {B : Nat → Prop} {d : Dk} (x : DskAt w h B d) (hk : Keeps S w w') (hS : ∀ y ∈ S, y ∉ h.l ∧ ¬ B y) : DskAt w' h B d := by
  have hn : ∀ y ∈ h.l, y ∉ S := fun y hy hm => (hS y hm).1 hy
  obtain ⟨cap, hb⟩ := x.box
  obtain ⟨vs, hr, hv⟩ := x.rows
  refine ⟨x.ok, ⟨cap, block_keep hb hk (hn _ (by simp [DH.l]))⟩, ⟨vs, block_keep hr hk (hn _ (by simp [DH.l])), fun i hi => ?_⟩, x.fresh.keep hk (hn _ (by simp [DH.l])) (fun y hy => (hS y hy).2) (fun _ h => h), x.sep, fun y hy => Nat.lt_of_lt_of_le (x.low y hy) hk.size⟩
  obtain ⟨v, h1, h2⟩ := hv i hi
  exact ⟨v, h1, h2.keep hk (fun y hy => (hS y hy).2) (fun _ h => h)⟩
theorem DskAt.keep0 {w w' : World} {h : DH} {B : Nat → Prop} {d : Dk} (x : DskAt w h B d) (hk : Keeps [] w w') : DskAt w' h B d := x.keep hk (by simp)
/-- A field of the disk's own block turns. -/
theorem DskAt.turn {w w' : World} {h : DH} {B : Nat → Prop} {d d' : Dk} (x : DskAt w h B d) (hk : Keeps [h.p] w w') (hok : d'.Ok) (h1 : d'.size = d.size) (h2 : d'.dur = d.dur) (h3 : d'.fr = d.fr)
    (hb : ∃ cap, w'.heap[h.p]? = some (.cells #[.int .i64 (d'.size : Int), .slice (some ⟨h.gd, 0, none⟩) d'.dur.length cap, .map (some h.gm), .bool d'.dead, .bool d'.cut, .int .i64 (d'.left : Int)] 56 (0, 0))) : DskAt w' h B d' := by
  have hn := x.ne
  have hsp := x.sep
  have hS : ∀ y ∈ [h.p], ¬ B y := fun y hy => by obtain rfl : y = h.p := by simpa using hy
                                                 exact hsp.1
  obtain ⟨vs, hr, hv⟩ := x.rows
  refine ⟨hok, hb, ⟨vs, block_keep hr hk (by simpa using Ne.symm hn.1), fun i hi => ?_⟩, by rw [h2, h3]; exact x.fresh.keep hk (by simpa using Ne.symm hn.2.1) hS (fun _ h => h), hsp, fun y hy => Nat.lt_of_lt_of_le (x.low y hy) hk.size⟩
  obtain ⟨v, q1, q2⟩ := hv i (by rw [h2] at hi; exact hi)
  refine ⟨v, q1, ?_⟩
  have e : d'.dur[i] = d.dur[i]'(by rw [h2] at hi; exact hi) := by simp only [h2]
  rw [e]
  exact q2.keep hk hS (fun _ h => h)
theorem six_set {w : World} {b : Nat} {cs : Array Value} {t : TypeId} (h : w.heap[b]? = some (.cells cs t (0, 0))) (j : Nat) (u : Value) : (w.setCell ⟨b, j, none⟩ u).heap[b]? = some (.cells (cs.setIfInBounds j u) t (0, 0)) := row_set h j u
end Go.Proofs.YtbanpdeganlndaaGreatDoor
namespace Go.Proofs.YtbanpdeganlndaaGreatDoor
open Go.RowKit

theorem keyLaw : Maps.Keyed Tryz.prog 3 := Maps.int_keyed Tryz.underlying3
theorem zeroBytes (w : World) : (zeroValue 62).run Tryz.prog w = .ok (.slice none 0 0) w := by kernel_rfl
theorem key_of {i : Nat} (hi : i ≤ 4096) : keyOf Tryz.prog 3 (.int .i64 (i : Int)) = some (key i) := Maps.keyOf_int_mk Tryz.underlying3 (by simp [Lit.wf, IntKind.min, IntKind.max, IntKind.bits, IntKind.signed]; omega)
def Dk.has (d : Dk) (i : Int) : Bool := decide (0 ≤ i) && decide (i < (d.dur.length : Int))
theorem Dk.has_iff (d : Dk) (i : Int) : d.has i = true ↔ 0 ≤ i ∧ i < (d.dur.length : Int) := by unfold Dk.has; simp
section
variable (w : World) (h : DH) (B : Nat → Prop) (d : Dk)
theorem DskAt.cells {w : World} {h : DH} {B : Nat → Prop} {d : Dk} (x : DskAt w h B d) : ∃ cap, w.cell? ⟨h.p, 0, none⟩ = some (.int .i64 (d.size : Int)) ∧ w.cell? ⟨h.p, 1, none⟩ = some (.slice (some ⟨h.gd, 0, none⟩) d.dur.length cap) ∧
    w.cell? ⟨h.p, 2, none⟩ = some (.map (some h.gm)) ∧ w.cell? ⟨h.p, 3, none⟩ = some (.bool d.dead) ∧ w.cell? ⟨h.p, 4, none⟩ = some (.bool d.cut) ∧ w.cell? ⟨h.p, 5, none⟩ = some (.int .i64 (d.left : Int)) := by
  obtain ⟨cap, hb⟩ := x.box
  exact ⟨cap, row_cell hb 0, row_cell hb 1, row_cell hb 2, row_cell hb 3, row_cell hb 4, row_cell hb 5⟩
theorem DskAt.free {w : World} {h : DH} {B : Nat → Prop} {d : Dk} (x : DskAt w h B d) (j : Nat) : w.frozen? ⟨h.p, j, none⟩ = false := by
  obtain ⟨cap, hb⟩ := x.box
  exact row_free hb j
set_option maxHeartbeats 400000 in
theorem has_any (x : DskAt w h B d) (i : Int) : Calls Tryz.prog 109 #[.pointer (some ⟨h.p, 0, none⟩), .int .i64 i] w fun e w' => e = .returned (.bool (d.has i)) ∧ w = w' := by
  obtain ⟨cap, _, c1, _⟩ := x.cells
  have hn := x.ok.secs.2
  clear x
  by_cases h0 : 0 ≤ i
  · by_cases h1 : i < (d.dur.length : Int)
    · have HH := Lib.hid ((d.has_iff i).2 ⟨h0, h1⟩)
      have d0 : decide (0 ≤ i) = true := by simpa using h0
      have d1 : decide (i < (d.dur.length : Int)) = true := by simpa using h1
      go_enter Tryz.func109, Tryz.ntmps109
      go_wp2_with fail
      go_ret
      exact ⟨by rw [HH.out]; rfl, rfl⟩
    · have HH := Lib.hid (show d.has i = false by rw [Bool.eq_false_iff]; intro hh; exact h1 ((d.has_iff i).1 hh).2)
      have d0 : decide (0 ≤ i) = true := by simpa using h0
      have d1 : decide (i < (d.dur.length : Int)) = false := by simpa using h1
      go_enter Tryz.func109, Tryz.ntmps109
      go_wp2_with fail
      go_ret
      exact ⟨by rw [HH.out]; rfl, rfl⟩
  · have HH := Lib.hid (show d.has i = false by rw [Bool.eq_false_iff]; intro hh; exact h0 ((d.has_iff i).1 hh).1)
    have d0 : decide (0 ≤ i) = false := by simpa using h0
    go_enter Tryz.func109, Tryz.ntmps109
    go_wp2_with fail
    go_ret
    exact ⟨by rw [HH.out]; rfl, rfl⟩
set_option maxHeartbeats 400000 in
theorem sectors_any (x : DskAt w h B d) : Calls Tryz.prog 43 #[.pointer (some ⟨h.p, 0, none⟩)] w fun e w' => e = .returned (.int .i64 (d.dur.length : Int)) ∧ w = w' := by
  obtain ⟨cap, _, c1, _⟩ := x.cells
  have hn := x.ok.secs.2
  clear x
  go_enter Tryz.func43, Tryz.ntmps43
  go_wp2_with fail
  go_ret
  exact ⟨rfl, rfl⟩
set_option maxHeartbeats 400000 in
theorem size_any (x : DskAt w h B d) : Calls Tryz.prog 44 #[.pointer (some ⟨h.p, 0, none⟩)] w fun e w' => e = .returned (.int .i64 (d.size : Int)) ∧ w = w' := by
  obtain ⟨cap, c0, _⟩ := x.cells
  clear x
  go_enter Tryz.func44, Tryz.ntmps44
  go_wp2_with fail
  go_ret
  exact ⟨rfl, rfl⟩
def LastP (d : Dk) (i : Nat) (B : Nat → Prop) (w : World) (e : Ending) (w' : World) : Prop := ∃ v, e = .returned v ∧ SecV w B v (d.last i) ∧ w = w'
set_option maxHeartbeats 800000 in
theorem last_any (x : DskAt w h B d) (i : Nat) (hi : i < d.dur.length) : Calls Tryz.prog 110 #[.pointer (some ⟨h.p, 0, none⟩), .int .i64 (i : Int)] w (LastP d i B w) := by
  obtain ⟨cap, _, c1, c2, _⟩ := x.cells
  have hn := x.ok.secs.2
  obtain ⟨k, D, ho, hk1, hk2⟩ := x.fresh
  have HO := Lib.hid ho
  have hkey := key_of (i := i) (by omega)
  have HKEY := Lib.hid hkey
  clear hkey
  cases hf : d.fr i with
  | some b =>
    obtain ⟨hhas, v0, hat, hsec⟩ := hk2 i b hf
    have HHAS := Lib.hid hhas
    have HAT := Lib.hid hat
    have HSEC := Lib.hid (show SecV w B v0 (d.last i) by unfold Dk.last; rw [hf]; exact hsec)
    clear x ho hk1 hk2 hf hhas hat hsec
    go_enter Tryz.func110, Tryz.ntmps110
    go_wp2_with (at_lookup; refine wpList_lookup_own_ok _ rfl _ _ 50 rfl 3 62 keyLaw Tryz.underlying50 Raw (zeroBytes _) (.held (.slice none 0 0)) [] rfl h.gm k D rfl HO.out _ (key i) rfl HKEY.out ?_)
    intro v ps hv
    have hv0 : v = v0 := by
      rw [HAT.out] at hv
      simp only [Raw, Option.some.injEq, Prod.mk.injEq, DataW.held.injEq] at hv
      exact hv.1
    subst hv0
    rw [HHAS.out]
    clear hv
    go_wp2_with fail
    go_ret
    exact ⟨_, rfl, HSEC.out, rfl⟩
  | none =>
    have hhas : Maps.has D (key i) = false := by
      rw [Bool.eq_false_iff]
      intro hh
      obtain ⟨j, hj, he, hs⟩ := hk1 _ hh
      have := key_inj he
      subst this
      rw [hf] at hs; cases hs
    obtain ⟨vs, hr, hv⟩ := x.rows
    obtain ⟨v0, hv0, hsec⟩ := hv i hi
    have cr : w.cell? ⟨h.gd, i, none⟩ = some v0 := by rw [row_cell hr]; exact hv0
    have HHAS := Lib.hid hhas
    have HSEC := Lib.hid (show SecV w B v0 (d.last i) by
      unfold Dk.last; rw [hf]
      show SecV w B v0 (d.dur.getD i [])
      rw [List.getD_eq_getElem?_getD, List.getElem?_eq_getElem hi, Option.getD_some]
      exact hsec)
    clear x ho hk1 hk2 hf hhas hsec hr hv hv0
    go_enter Tryz.func110, Tryz.ntmps110
    go_wp2_with (at_lookup; refine wpList_lookup_own_ok _ rfl _ _ 50 rfl 3 62 keyLaw Tryz.underlying50 Raw (zeroBytes _) (.held (.slice none 0 0)) [] rfl h.gm k D rfl HO.out _ (key i) rfl HKEY.out ?_)
    intro v ps hv
    rw [HHAS.out]
    clear hv
    go_wp2_with fail
    go_ret
    exact ⟨_, rfl, HSEC.out, rfl⟩
end
theorem last_len_le {w : World} {h : DH} {B : Nat → Prop} {d : Dk} (x : DskAt w h B d) {n : Nat} (hn : n < d.dur.length) : (d.last n).length ≤ 4096 := by
  have := Dk.last_len x.ok hn
  have := x.ok.size
  omega
/-- What Read answers: err, and where it is none a new copy of what was written last. -/
def ReadP (d : Dk) (i : Int) (w : World) (e : Ending) (w' : World) : Prop :=
  if d.dead then e = .returned (.tuple #[.slice none 0 0, .int .i64 32]) ∧ w = w'
  else if d.has i = false then e = .returned (.tuple #[.slice none 0 0, .int .i64 30]) ∧ w = w'
  else ∃ A g cap, e = .returned (.tuple #[.slice A (d.last i.toNat).length cap, .int .i64 0]) ∧ BytesIn w' g A (d.last i.toNat) ∧ w.heap.size ≤ g ∧ (d.last i.toNat).length ≤ cap ∧ cap ≤ maxLen ∧ (A = none → d.last i.toNat = []) ∧ Keeps [] w w'
theorem readP_dead {d : Dk} {i : Int} {w : World} (hd : d.dead = true) : ReadP d i w (.returned (.tuple #[.slice none 0 0, .int .i64 32])) w := by
  unfold ReadP; rw [if_pos hd]; exact ⟨rfl, rfl⟩
theorem readP_place {d : Dk} {i : Int} {w : World} (hd : d.dead = false) (hh : d.has i = false) : ReadP d i w (.returned (.tuple #[.slice none 0 0, .int .i64 30])) w := by
  unfold ReadP; rw [if_neg (by rw [hd]; simp), if_pos hh]; exact ⟨rfl, rfl⟩
theorem readP_ok {d : Dk} {n : Nat} {w w' : World} {e : Ending} (hd : d.dead = false) (hh : d.has (n : Int) = true) (h : CopyAt w (d.last n) e w') : ∃ A cap, e = .returned (.slice A (d.last n).length cap) ∧ ReadP d (n : Int) w (.returned (.tuple #[.slice A (d.last n).length cap, .int .i64 0])) w' := by
  obtain ⟨A, cap, g, he, hc⟩ := h
  refine ⟨A, cap, he, ?_⟩
  unfold ReadP; rw [if_neg (by rw [hd]; simp), if_neg (by rw [hh]; simp), Int.toNat_natCast]
  exact ⟨A, g, cap, rfl, hc⟩
set_option maxHeartbeats 800000 in
theorem read_any (w : World) (h : DH) (B : Nat → Prop) (d : Dk) (x : DskAt w h B d) (i : Int) : Calls Tryz.prog 71 #[.pointer (some ⟨h.p, 0, none⟩), .int .i64 i] w (ReadP d i w) := by
  obtain ⟨cap, _, c1, c2, c3, _⟩ := x.cells
  have HX := Lib.hid x
  cases hd : d.dead with
  | true =>
    have HD := Lib.hid hd
    rw [hd] at c3
    clear x hd
    go_enter Tryz.func71, Tryz.ntmps71
    go_wp2_with fail
    go_ret2
    exact readP_dead HD.out
  | false =>
    have HD := Lib.hid hd
    rw [hd] at c3
    cases hh : d.has i with
    | false =>
      have HH := Lib.hid hh
      clear x hd hh
      go_enter Tryz.func71, Tryz.ntmps71
      go_wp2_with fail
      refine (has_any w h B d HX.out i).mono ?_
      rintro e w' ⟨rfl, rfl⟩
      rw [HH.out]
      go_wp2_with fail
      go_ret2
      exact readP_place HD.out HH.out
    | true =>
      obtain ⟨q0, q1⟩ := (d.has_iff i).1 hh
      obtain ⟨n, rfl⟩ : ∃ n : Nat, i = (n : Int) := ⟨i.toNat, by omega⟩
      have hn : n < d.dur.length := by omega
      have hlen := last_len_le x hn
      have HH := Lib.hid hh
      clear x hd hh q0 q1
      go_enter Tryz.func71, Tryz.ntmps71
      go_wp2_with fail
      refine (has_any w h B d HX.out (n : Int)).mono ?_
      rintro e w' ⟨rfl, rfl⟩
      rw [HH.out]
      go_wp2_with fail
      refine (last_any w h B d HX.out n hn).mono ?_
      rintro e w' ⟨v, rfl, ⟨g, off, cp, rfl, hb, _⟩, rfl⟩
      have HB := Lib.hid hb
      clear hb
      go_wp2_with fail
      refine (clone_any w g _ _ cp HB.out (by omega)).mono ?_
      intro e w' hc
      obtain ⟨A', cap', rfl, hR⟩ := readP_ok HD.out HH.out hc
      have HR := Lib.hid hR
      clear hc hR
      go_wp2_with fail
      go_ret2
      exact HR.out
end Go.Proofs.YtbanpdeganlndaaGreatDoor
namespace Go.Proofs.YtbanpdeganlndaaGreatDoor
open Go.RowKit Go.WideShapes Go.ChangeMaps

theorem sorted_mem {H : Type} {es : List (Lit × DataW H)} {p : Lit × DataW H} : p ∈ es.foldr DataW.insert [] ↔ p ∈ es := (sorted_perm es).mem_iff
/-- What a map of int keys reads as. -/
theorem own_entries {w : World} {gm k : Nat} {D : DataW Value} (h : w.ownsMap Tryz.prog 3 Raw gm k D) : ∃ L, D = .map L ∧ L.Pairwise (fun p q => p.1 ≠ q.1) ∧ ∀ p ∈ L, ∃ x, p.1 = .int .i64 x ∧ (Lit.int .i64 x).wf = true := by
  obtain ⟨L, hD, hL⟩ := h.tidy keyLaw
  refine ⟨L, hD, hL, fun p hp => ?_⟩
  obtain ⟨es, c, hb, F, hs, hD2⟩ := h
  rw [hD2] at hD
  have hLe : (es.toList.map (Go.WideElems.rg Tryz.prog 3 Raw)).foldr DataW.insert [] = L := by injection hD
  rw [← hLe] at hp
  have h2 := Maps.fit_keys F p (sorted_mem.1 hp)
  obtain ⟨v, hv⟩ := h2
  obtain ⟨x, _, h4, h5⟩ := Maps.keyOf_int_inv Tryz.underlying3 hv
  exact ⟨x, h4, h5⟩
theorem same_int (x : Int) : (Lit.int .i64 x).sameKey (.int .i64 x) = true := by simp [Lit.sameKey]
theorem entries_has {L : List (Lit × DataW Value)} (hL : ∀ p ∈ L, ∃ x, p.1 = .int .i64 x ∧ (Lit.int .i64 x).wf = true) {p : Lit × DataW Value} (hp : p ∈ L) : Maps.has (.map L) p.1 = true := by
  rw [Maps.has_eq, List.any_eq_true]
  obtain ⟨x, hx, _⟩ := hL p hp
  exact ⟨p, hp, by rw [hx]; exact same_int x⟩
/-- The numbers of the keys. -/
def litInt : Lit → Int
  | .int _ z => z
  | _ => 0
def idx (p : Lit × DataW Value) : Nat := (litInt p.1).toNat
theorem idx_key {L : List (Lit × DataW Value)} {n : Nat} (hk : ∀ kl, Maps.has (.map L) kl = true → ∃ i, i < n ∧ kl = key i) (hL : ∀ p ∈ L, ∃ x, p.1 = .int .i64 x ∧ (Lit.int .i64 x).wf = true) {p : Lit × DataW Value} (hp : p ∈ L) : p.1 = key (idx p) ∧ idx p < n := by
  obtain ⟨i, hi, e⟩ := hk _ (entries_has hL hp)
  have : idx p = i := by unfold idx; rw [e]; simp [key, litInt]
  exact ⟨by rw [this]; exact e, by omega⟩
theorem idx_nodup {L : List (Lit × DataW Value)} {n : Nat} (hk : ∀ kl, Maps.has (.map L) kl = true → ∃ i, i < n ∧ kl = key i) (hL : ∀ p ∈ L, ∃ x, p.1 = .int .i64 x ∧ (Lit.int .i64 x).wf = true) (hd : L.Pairwise (fun p q => p.1 ≠ q.1)) : (L.map idx).Nodup := by
  unfold List.Nodup
  rw [List.pairwise_map]
  exact hd.imp_of_mem fun {p q} hp hq hne => fun e => hne (by rw [(idx_key hk hL hp).1, (idx_key hk hL hq).1, e])
/-- As many entries as there are sectors, at the most. -/
theorem owns_small {w : World} {gm k n : Nat} {D : DataW Value} (h : w.ownsMap Tryz.prog 3 Raw gm k D) (hk : ∀ kl, Maps.has D kl = true → ∃ i, i < n ∧ kl = key i) : w.ownsMap Tryz.prog 3 Raw gm n D := by
  obtain ⟨L, hD, hd, hL⟩ := own_entries h
  obtain ⟨es, c, hb, F, hs, hD2⟩ := h
  refine ⟨es, c, hb, F, ?_, hD2⟩
  have hlen : es.size = L.length := by
    rw [hD2] at hD
    have hLe : (es.toList.map (Go.WideElems.rg Tryz.prog 3 Raw)).foldr DataW.insert [] = L := by injection hD
    rw [← hLe, length_sorted]
    simp
  rw [hD] at hk
  have h1 := nodup_lt n (L.map idx) (idx_nodup hk hL hd) (fun x hx => by
    obtain ⟨p, hp, rfl⟩ := List.mem_map.1 hx
    exact (idx_key hk hL hp).2)
  rw [List.length_map] at h1
  omega
theorem key_lit (i : Nat) : WideAt.IsKeyLit (key i) := by unfold key; simp [WideAt.IsKeyLit]
theorem turned_keeps {w w' : World} {b : Nat} (h : w.mapTurned w' b) : Keeps [b] w w' := (Keeps.of_grown h.grown).mono (by simp)
theorem turned_size {w w' : World} {b : Nat} (h : w.mapTurned w' b) : w'.heap.size = w.heap.size := by
  obtain ⟨es, c, es', c', hb, rfl⟩ := h
  simp [setBlock]
/-- 'm[i] = v'. -/
theorem FrAt.store {w w1 : World} {gm n i : Nat} {B B' : Nat → Prop} {fr : Nat → Option (List UInt8)} {v : Value} {b : List UInt8} (h : FrAt w gm B n fr) (hn : n ≤ 4096) (hi : i < n) (hk : Keeps [] w w1) (hs : SecV w1 B' v b) (hB : ∀ x, B x → B' x) (hgm : ¬ B' gm) :
    ∃ w2, (Instr.mapUpdate 50 (.map (some gm)) (.int .i64 (i : Int)) v).run Tryz.prog w1 = .ok () w2 ∧ FrAt w2 gm B' n (fun j => if j = i then some b else fr j) ∧ w1.mapTurned w2 gm := by
  obtain ⟨k, D, ho, h1, h2⟩ := h
  have ho' := owns_small ho (fun kl hkl => by obtain ⟨j, hj, e, _⟩ := h1 kl hkl; exact ⟨j, hj, e⟩)
  have ho1 := owns_keep ho' hk (by simp)
  obtain ⟨w2, hrun, ho2, ht⟩ := ho1.store keyLaw Tryz.underlying50 (by unfold maxLen; omega) (key_of (by omega) : keyOf Tryz.prog 3 (.int .i64 (i : Int)) = some (key i)) (d := .held v) (ps := []) rfl
  have hmap := ho1.isMap
  have hk2 : Keeps [gm] w1 w2 := turned_keeps ht
  refine ⟨w2, hrun, ⟨n + 1, _, ho2, fun kl hkl => ?_, fun j c hj => ?_⟩, ht⟩
  · by_cases e : kl = key i
    · exact ⟨i, hi, e, by simp⟩
    · rw [Maps.has_put_other e] at hkl
      obtain ⟨j, hj, e2, hjs⟩ := h1 kl hkl
      refine ⟨j, hj, e2, ?_⟩
      by_cases hji : j = i
      · simp [hji]
      · simp [hji, hjs]
  · by_cases hji : j = i
    · subst hji
      simp only [if_true] at hj
      cases hj
      exact ⟨Maps.has_put_same hmap (key_lit _) _, v, fun z => Maps.atKey_put_same hmap (key_lit _) _ _, hs.keep hk2 (fun x hx => by simp at hx; rw [hx]; exact hgm) (fun _ h => h)⟩
    · simp only [hji, if_false] at hj
      have hne : key j ≠ key i := fun e => hji (key_inj e)
      obtain ⟨h3, v', h4, h5⟩ := h2 j c hj
      refine ⟨by rw [Maps.has_put_other hne]; exact h3, v', fun z => by rw [Maps.atKey_put_other hne]; exact h4 z, ?_⟩
      exact (h5.keep hk (by simp) hB).keep hk2 (fun x hx => by simp at hx; rw [hx]; exact hgm) (fun _ h => h)
/-- 'delete(m, i)'. -/
theorem FrAt.drop {w : World} {gm n i : Nat} {B : Nat → Prop} {fr : Nat → Option (List UInt8)} (h : FrAt w gm B n fr) (hn : n ≤ 4096) (hi : i < n) (hgm : ¬ B gm) (ty : TypeId) :
    ∃ w2, (Builtin.delete_ #[50, 3] ty #[.map (some gm), .int .i64 (i : Int)]).run Tryz.prog w = .ok (.tuple #[]) w2 ∧ FrAt w2 gm B n (fun j => if j = i then none else fr j) ∧ w.mapTurned w2 gm := by
  obtain ⟨k, D, ho, h1, h2⟩ := h
  obtain ⟨w2, hrun, ho2, ht⟩ := ho.drop keyLaw Tryz.underlying50 (key_of (by omega) : keyOf Tryz.prog 3 (.int .i64 (i : Int)) = some (key i)) ty
  have hk2 : Keeps [gm] w w2 := turned_keeps ht
  refine ⟨w2, hrun, ⟨k, _, ho2, fun kl hkl => ?_, fun j c hj => ?_⟩, ht⟩
  · by_cases e : kl = key i
    · rw [e, Maps.has_del_same] at hkl; cases hkl
    · rw [Maps.has_del_other e] at hkl
      obtain ⟨j, hj, e2, hjs⟩ := h1 kl hkl
      refine ⟨j, hj, e2, ?_⟩
      have hji : j ≠ i := fun e3 => e (by rw [e2, e3])
      simp [hji, hjs]
  · by_cases hji : j = i
    · simp [hji] at hj
    · simp only [hji, if_false] at hj
      have hne : key j ≠ key i := fun e => hji (key_inj e)
      obtain ⟨h3, v', h4, h5⟩ := h2 j c hj
      exact ⟨by rw [Maps.has_del_other hne]; exact h3, v', fun z => by rw [Maps.atKey_del_other hne]; exact h4 z, h5.keep hk2 (fun x hx => by simp at hx; rw [hx]; exact hgm) (fun _ h => h)⟩
/-- 'clear(m)'. -/
theorem FrAt.clear {w : World} {gm n : Nat} {B : Nat → Prop} {fr : Nat → Option (List UInt8)} (h : FrAt w gm B n fr) :
    ∃ w2, (∀ ty, (Builtin.clear_ #[50] ty #[.map (some gm)]).run Tryz.prog w = .ok (.tuple #[]) w2) ∧ FrAt w2 gm B n (fun _ => none) ∧ w.mapTurned w2 gm := by
  obtain ⟨k, D, ⟨es, c, hb, F, hs, hD⟩, _⟩ := h
  refine ⟨setBlock w gm (.map #[] c), fun ty => ?_, ⟨0, .map [], ⟨#[], c, heap_setBlock_same hb _, ⟨by simp, MapKept.stamped_empty c, by simp⟩, Nat.le_refl _, rfl⟩, fun kl hkl => (by simp [Maps.has] at hkl), fun i b hi => (by cases hi)⟩, ⟨es, c, #[], c, hb, rfl⟩⟩
  simp [Builtin.clear_, run_underlying Tryz.underlying50, MapKept.run_getObj_map hb, MapKept.run_setObj_map _ hb, Result.andThen]
  rfl
end Go.Proofs.YtbanpdeganlndaaGreatDoor
namespace Go.Proofs.YtbanpdeganlndaaGreatDoor.Reg
open Go Go.RowKit

abbrev Fact := Value → World → Prop
/-- The value is u. -/
def Is (u : Value) : Fact := fun v _ => v = u
theorem Is.mk (u : Value) (w : World) : Is u u w := rfl

def at_ (Fs : List Fact) (i : Nat) : Fact := Fs.getD i (fun _ _ => True)
/-- The facts on the values that an operation waits for. -/
def Deps (Fs : List Fact) (vs : Nat → Value) (w : World) : List Edge → Prop
  | [] => True
  | e :: r => (Region.binds .any e = true → at_ Fs e.on (vs e.on) w) ∧ Deps Fs vs w r
/-- The facts on all values. -/
def All (vs : Nat → Value) (w : World) : List Fact → Nat → Prop
  | [], _ => True
  | F :: r, i => F (vs i) w ∧ All vs w r (i + 1)
/-- Each fact lasts while the world only grows. -/
def Last (B : Nat) : List Fact → Prop
  | [] => True
  | F :: r => (∀ v w w', B ≤ w.heap.size → F v w → Below w.heap.size w w' → F v w') ∧ Last B r

def fill (a : Act) : List Oper → Nat → (Nat → Bool) → (Nat → Value) → Act
  | [], _, _, _ => a
  | o :: rest, i, L, vs => fill (if L i then a.put o.dst (vs i) else a) rest (i + 1) L vs

/-- What an operation has yielded: a value, or a call that hands one back. -/
def Gives (P : Program) (K : Value → World → Prop) : Result Next → Prop
  | .ok (.value v) w' => K v w'
  | .ok .skip w' => K undef w'
  | .ok (.enter f args) w' => Calls P f args w' fun e w'' => ∃ v, e = .returned v ∧ K v w''
  | .ok (.row row args) w' => Rows P row args w' K
  | _ => False
section
variable (P : Program) (K : Value → World → Prop) (w : World)
theorem gives_value (v : Value) : Gives P K (.ok (.value v) w) = K v w := rfl
theorem gives_skip : Gives P K (.ok .skip w) = K undef w := rfl
theorem gives_enter (f : FuncId) (args : Array Value) : Gives P K (.ok (.enter f args) w) = Calls P f args w fun e w'' => ∃ v, e = .returned v ∧ K v w'' := rfl
end
theorem calls_gives {P : Program} {f : FuncId} {args : Array Value} {w : World} {K : Value → World → Prop} {R : Ending → World → Prop} (h : Calls P f args w R)
    (hk : ∀ e w', R e w' → ∃ v, e = .returned v ∧ K v w') : Calls P f args w fun e w'' => ∃ v, e = .returned v ∧ K v w'' := h.mono hk

/-- Is the operation wanted, by the value of the one that guards it. -/
def wantedV (o : Oper) (vs : Nat → Value) : Bool :=
  match o.guard with
  | none => true
  | some (g, want) => (match vs g with | .bool b => some b | _ => none) == some want

/-- What is asked of operation i. -/
def Obl (P : Program) (C : World → Prop) (Fs : List Fact) (A : (Nat → Value) → Act) (o : Oper) (i : Nat) : Prop :=
  ∀ (vs : Nat → Value) (w : World), C w → Deps Fs vs w o.after.toList →
    ∀ K : Value → World → Prop, (∀ v w', C w' → Below w.heap.size w w' → at_ Fs i v w' → K v w') →
      if wantedV o vs = true then Gives P K ((execOp (A vs).eval o).run P w) else K undef w
def Obls (P : Program) (C : World → Prop) (Fs : List Fact) (A : (Nat → Value) → Act) : List Oper → Nat → Prop
  | [], _ => True
  | o :: rest, i => Obl P C Fs A o i ∧ Obls P C Fs A rest (i + 1)

def awaits (o : Oper) (j : Nat) : Bool := o.after.any fun e => Region.binds .any e && e.on == j
/-- Operation k writes a slot that o looks at, and o does not wait for it: k comes later. -/
def lateFor (ops : Array Oper) (o : Oper) (k : Nat) : Bool :=
  match ops[k]? with
  | some p => (match p.dst with | some d => (o.looksAt ops).contains d && !awaits o k | none => false)
  | none => false

/-- The region's shape: every edge that binds leads back; each slot is written once; who writes a slot that another one looks at comes ahead of it or behind it; no select; the slots lie in the frame. -/
def tidy (n : Nat) (ops : Array Oper) : Bool :=
  Region.noSelect ops && (List.range ops.size).all fun i => match ops[i]? with
    | none => true
    | some o => (match o.dst with | some d => decide (d < n) | none => true) && (match o.guard with | some (g, _) => (((ops[g]?).bind (·.dst)).isSome) && awaits o g | none => true) && o.after.all (fun e => !Region.binds .any e || decide (e.on < i)) &&
      (List.range ops.size).all fun j => match ops[j]? with
        | none => true
        | some p => (j == i || (match o.dst with | some d => p.dst != some d | none => true)) && (!lateFor ops o j || awaits p i)

section
variable {P : Program} {ops : Array Oper} {n : Nat}

theorem tidy_spec (h : tidy n ops = true) {i : Nat} {o : Oper} (hi : ops[i]? = some o) :
    (∀ d, o.dst = some d → d < n) ∧ (∀ g b, o.guard = some (g, b) → ∃ p d, ops[g]? = some p ∧ p.dst = some d ∧ awaits o g = true) ∧ (∀ e ∈ o.after, Region.binds .any e = true → e.on < i) ∧
    ∀ j p, ops[j]? = some p → (j ≠ i → ∀ d, o.dst = some d → p.dst ≠ some d) ∧ (lateFor ops o j = true → awaits p i = true) := by
  unfold tidy at h
  rw [Bool.and_eq_true, List.all_eq_true] at h
  have hlt : i < ops.size := (Array.getElem?_eq_some_iff.1 hi).1
  have h1 := h.2 i (List.mem_range.2 hlt)
  simp only [hi, Bool.and_eq_true, List.all_eq_true, List.mem_range] at h1
  obtain ⟨⟨⟨h2, h2'⟩, h3⟩, h4⟩ := h1
  refine ⟨fun d hd => by simpa [hd] using h2, fun g b hg => ?_, fun e he hb => ?_, fun j p hj => ?_⟩
  · simp only [hg, Bool.and_eq_true] at h2'
    cases hp : ops[g]? with
    | none => simp [hp] at h2'
    | some p =>
      cases hd : p.dst with
      | none => simp [hp, hd] at h2'
      | some d => exact ⟨p, d, rfl, hd, h2'.2⟩
  · have := Array.all_eq_true_iff_forall_mem.1 h3 e he
    simpa [hb] using this
  · have h5 := h4 j (Array.getElem?_eq_some_iff.1 hj).1
    simp only [hj, Bool.and_eq_true, Bool.or_eq_true, beq_iff_eq] at h5
    refine ⟨fun hne d hd => ?_, fun hl => ?_⟩
    · rcases h5.1 with h6 | h6
      · exact absurd h6 hne
      · simpa [hd] using h6
    · simpa [hl] using h5.2
theorem awaits_spec {o : Oper} {j : Nat} (h : awaits o j = true) : ∃ e ∈ o.after, Region.binds .any e = true ∧ e.on = j := by
  obtain ⟨e, he, hb⟩ := Array.any_eq_true'.1 h
  exact ⟨e, he, by simpa using hb⟩

theorem noSelect_of (h : tidy n ops = true) : Region.noSelect ops = true := by
  unfold tidy at h
  rw [Bool.and_eq_true] at h
  exact h.1

/-- Two frames that agree off a set of slots. -/
def Agree (S : Nat → Prop) (a b : Act) : Prop := a.defers = b.defers ∧ a.tmps.size = b.tmps.size ∧ ∀ t, ¬ S t → a.tmps[t]? = b.tmps[t]?
theorem Agree.refl (S : Nat → Prop) (a : Act) : Agree S a a := ⟨rfl, rfl, fun _ _ => rfl⟩
theorem Agree.put {S : Nat → Prop} {a b : Act} (h : Agree S a b) (d : Option Tmp) (v : Value) : Agree S (a.put d v) (b.put d v) := by
  cases d with
  | none => exact h
  | some d =>
    refine ⟨h.1, by simpa [Act.put] using h.2.1, fun t ht => ?_⟩
    simp only [Act.put, Array.getElem?_setIfInBounds, h.2.1, h.2.2 t ht]
theorem Agree.put_left {S : Nat → Prop} {a b : Act} (h : Agree S a b) {d : Option Tmp} (hd : ∀ t, d = some t → S t) (v : Value) : Agree S a (b.put d v) := by
  cases d with
  | none => exact h
  | some d =>
    refine ⟨h.1, by simpa [Act.put] using h.2.1, fun t ht => ?_⟩
    have hne : d ≠ t := fun e => ht (e ▸ hd d rfl)
    simp only [Act.put, Array.getElem?_setIfInBounds_ne hne]
    exact h.2.2 t ht
theorem Agree.eval {S : Nat → Prop} {a b : Act} (h : Agree S a b) {x : Operand} (hx : ∀ t, x = .tmp t → ¬ S t) : a.eval x = b.eval x := by
  cases x with
  | tmp t => simp [Act.eval, h.2.2 t (hx t rfl)]
  | _ => rfl
theorem Agree.exec {S : Nat → Prop} {a b : Act} (h : Agree S a b) {o : Oper} (hs : ∀ cs b, o.op ≠ .select cs b) (hl : ∀ t, t ∈ o.looksAt ops → ¬ S t) : execOp a.eval o = execOp b.eval o :=
  execOp_congr o hs fun x hx => h.eval fun t ht => hl t (by
    subst ht
    exact List.mem_append_left _ (List.mem_filterMap.2 ⟨.tmp t, by simpa using hx, rfl⟩))
theorem Agree.wanted {S : Nat → Prop} {a b : Act} (h : Agree S a b) {o : Oper} (hl : ∀ t, t ∈ o.looksAt ops → ¬ S t) : Region.wanted o (yielded ops a.tmps) = Region.wanted o (yielded ops b.tmps) := by
  unfold Region.wanted
  cases hg : o.guard with
  | none => rfl
  | some gw =>
    obtain ⟨g, want⟩ := gw
    have hy : yielded ops a.tmps g = yielded ops b.tmps g := by
      unfold yielded
      cases ht : (ops[g]?).bind (·.dst) with
      | none => rfl
      | some t => simp [h.2.2 t (hl t (by simp [Oper.looksAt, hg, ht]))]
    simp only [hy]

theorem fill_size (vs : Nat → Value) (L : Nat → Bool) : ∀ (l : List Oper) (i : Nat) (a : Act), (fill a l i L vs).tmps.size = a.tmps.size
  | [], _, _ => rfl
  | o :: rest, i, a => by
    unfold fill
    rw [fill_size vs L rest (i + 1)]
    by_cases hL : L i = true
    · rw [if_pos hL]; cases o.dst <;> simp [Act.put]
    · rw [if_neg hL]

theorem fill_agree (vs : Nat → Value) (L M : Nat → Bool) (S : Nat → Prop) : ∀ (l : List Oper) (i : Nat) (a b : Act), Agree S a b →
    (∀ k o, l[k]? = some o → L (i + k) ≠ M (i + k) → ∀ t, o.dst = some t → S t) → Agree S (fill a l i L vs) (fill b l i M vs)
  | [], _, _, _, h, _ => h
  | o :: rest, i, a, b, h, hS => by
    unfold fill
    refine fill_agree vs L M S rest (i + 1) _ _ ?_ fun k o' hk hne => hS (k + 1) o' (by simpa using hk) (by rw [show i + (k + 1) = i + 1 + k by omega]; exact hne)
    have h0 := hS 0 o (by simp)
    simp only [Nat.add_zero] at h0
    by_cases hL : L i = true <;> by_cases hM : M i = true
    · rw [if_pos hL, if_pos hM]; exact h.put _ _
    · rw [if_pos hL, if_neg hM]
      have := h0 (by simp [hL, hM])
      have h1 : Agree S b a := ⟨h.1.symm, h.2.1.symm, fun t ht => (h.2.2 t ht).symm⟩
      have h2 := h1.put_left this (vs i)
      exact ⟨h2.1.symm, h2.2.1.symm, fun t ht => (h2.2.2 t ht).symm⟩
    · rw [if_neg hL, if_pos hM]
      exact h.put_left (h0 (by simp [hL, hM])) _
    · rw [if_neg hL, if_neg hM]; exact h

theorem fill_congr (vs us : Nat → Value) (L M : Nat → Bool) : ∀ (l : List Oper) (i : Nat) (a : Act), (∀ k, k < l.length → L (i + k) = M (i + k) ∧ (L (i + k) = true → vs (i + k) = us (i + k))) →
    fill a l i L vs = fill a l i M us
  | [], _, _, _ => rfl
  | o :: rest, i, a, h => by
    unfold fill
    have h0 := h 0 (by simp)
    simp only [Nat.add_zero] at h0
    have e : (if L i then a.put o.dst (vs i) else a) = (if M i then a.put o.dst (us i) else a) := by
      rw [← h0.1]
      by_cases hL : L i = true
      · rw [if_pos hL, if_pos hL, h0.2 hL]
      · rw [if_neg hL, if_neg hL]
    rw [e]
    exact fill_congr vs us L M rest (i + 1) _ fun k hk => by
      have := h (k + 1) (by simpa using hk)
      rwa [show i + (k + 1) = i + 1 + k by omega] at this

/-- A put of a slot that nobody else writes goes inward. -/
theorem fill_put (vs : Nat → Value) (L : Nat → Bool) (d : Option Tmp) (v : Value) : ∀ (l : List Oper) (i : Nat) (a : Act),
    (∀ k o, l[k]? = some o → L (i + k) = true → ∀ t, d = some t → o.dst ≠ some t) → fill (a.put d v) l i L vs = (fill a l i L vs).put d v
  | [], _, _, _ => rfl
  | o :: rest, i, a, h => by
    unfold fill
    have hrest : ∀ k o', rest[k]? = some o' → L (i + 1 + k) = true → ∀ t, d = some t → o'.dst ≠ some t := fun k o' hk hL => h (k + 1) o' (by simpa using hk) (by rwa [show i + (k + 1) = i + 1 + k by omega])
    by_cases hL : L i = true
    · have hd : ∀ t, d = some t → o.dst ≠ some t := h 0 o (by simp) (by simpa using hL)
      rw [if_pos hL, if_pos hL, ← fill_put vs L d v rest (i + 1) _ hrest]
      rw [Act.put_comm a v (vs i) hd]
    · rw [if_neg hL, if_neg hL]
      exact fill_put vs L d v rest (i + 1) a hrest

theorem fill_next (vs : Nat → Value) (L : Nat → Bool) : ∀ (l : List Oper) (i : Nat) (a : Act) (j : Nat) (o : Oper) (v : Value), l[j]? = some o → L (i + j) = false →
    (∀ k p, l[k]? = some p → k ≠ j → ∀ t, o.dst = some t → p.dst ≠ some t) →
    (fill a l i L vs).put o.dst v = fill a l i (fun k => L k || k == i + j) (fun k => if k = i + j then v else vs k)
  | [], _, _, _, _, _, h, _, _ => by simp at h
  | p :: rest, i, a, 0, o, v, h, hL, hd => by
    obtain rfl : p = o := by simpa using h
    simp only [Nat.add_zero] at hL ⊢
    unfold fill
    have e : (fun k => if k = i then v else vs k) i = v := if_pos rfl
    rw [if_neg (by simp [hL]), if_pos (by simp), e, ← fill_put]
    · refine fill_congr _ _ _ _ rest (i + 1) _ fun k hk => ⟨?_, fun _ => ?_⟩
      · have : (i + 1 + k == i) = false := by simp; omega
        simp [this]
      · rw [if_neg (by omega)]
    · intro k q hk _ t ht
      exact hd (k + 1) q (by simpa using hk) (by omega) t ht
  | p :: rest, i, a, j + 1, o, v, h, hL, hd => by
    unfold fill
    have hne : ¬ i = i + (j + 1) := by omega
    have e1 : (L i || i == i + (j + 1)) = L i := by simp
    simp only [e1, if_neg hne]
    rw [fill_next vs L rest (i + 1) _ j o v (by simpa using h) (by rwa [show i + 1 + j = i + (j + 1) by omega]) (fun k q hk hkj => hd (k + 1) q (by simpa using hk) (by omega))]
    rw [show i + 1 + j = i + (j + 1) by omega]

theorem fill_get (vs : Nat → Value) (L : Nat → Bool) : ∀ (l : List Oper) (i : Nat) (a : Act) (j : Nat) (o : Oper) (d : Nat), l[j]? = some o → o.dst = some d → d < a.tmps.size → L (i + j) = true →
    (∀ k p, l[k]? = some p → k ≠ j → p.dst ≠ some d) → (fill a l i L vs).tmps[d]? = some (vs (i + j))
  | [], _, _, _, _, _, h, _, _, _, _ => by simp at h
  | p :: rest, i, a, 0, o, d, h, hd, hs, hL, hne => by
    obtain rfl : p = o := by simpa using h
    unfold fill
    rw [if_pos (by simpa using hL), fill_put vs L p.dst (vs i) rest (i + 1) a (fun k q hk _ t ht => by
      rw [hd] at ht
      cases ht
      exact hne (k + 1) q (by simpa using hk) (by omega))]
    rw [hd]
    have : d < (fill a rest (i + 1) L vs).tmps.size := by rw [fill_size]; exact hs
    simp [Act.put, this]
  | p :: rest, i, a, j + 1, o, d, h, hd, hs, hL, hne => by
    unfold fill
    rw [fill_get vs L rest (i + 1) _ j o d (by simpa using h) hd (by
      by_cases hLi : L i = true
      · rw [if_pos hLi]; cases p.dst <;> simpa [Act.put] using hs
      · rw [if_neg hLi]; exact hs) (by rwa [show i + 1 + j = i + (j + 1) by omega]) (fun k q hk hkj => hne (k + 1) q (by simpa using hk) (by omega))]
    rw [show i + 1 + j = i + (j + 1) by omega]

theorem at_last {B : Nat} : ∀ {Fs : List Fact}, Last B Fs → ∀ (i : Nat) (v : Value) (w w' : World), B ≤ w.heap.size → at_ Fs i v w → Below w.heap.size w w' → at_ Fs i v w'
  | [], _, _, _, _, _, _, _, _ => by simp [at_]
  | F :: r, h, 0, v, w, w', hB, hf, hb => by
    have : F v w := by simpa [at_] using hf
    have := h.1 v w w' hB this hb
    simpa [at_] using this
  | F :: r, h, i + 1, v, w, w', hB, hf, hb => by
    have e : ∀ w, at_ (F :: r) (i + 1) v w = at_ r i v w := fun w => by simp [at_]
    rw [e] at hf ⊢
    exact at_last h.2 i v w w' hB hf hb

theorem deps_of {Fs : List Fact} {vs : Nat → Value} {w : World} : ∀ {l : List Edge}, (∀ e ∈ l, Region.binds .any e = true → at_ Fs e.on (vs e.on) w) → Deps Fs vs w l
  | [], _ => trivial
  | e :: r, h => ⟨h e (by simp), deps_of fun e' he' => h e' (by simp [he'])⟩
theorem all_of {vs : Nat → Value} {w : World} : ∀ {Fs : List Fact} {i : Nat}, (∀ k, k < Fs.length → at_ Fs k (vs (i + k)) w) → All vs w Fs i
  | [], _, _ => trivial
  | F :: r, i, h => ⟨by have := h 0 (by simp); simpa [at_] using this, all_of fun k hk => by
      have := h (k + 1) (by simpa using hk)
      rw [show i + (k + 1) = i + 1 + k by omega] at this
      simpa [at_] using this⟩
theorem obl_of {C : World → Prop} {Fs : List Fact} {A : (Nat → Value) → Act} : ∀ {l : List Oper} {i : Nat}, Obls P C Fs A l i → ∀ k o, l[k]? = some o → Obl P C Fs A o (i + k)
  | [], _, _, _, _, h => by simp at h
  | p :: rest, i, h, 0, o, hk => by
    obtain rfl : p = o := by simpa using hk
    exact h.1
  | p :: rest, i, h, k + 1, o, hk => by
    have := obl_of h.2 k o (by simpa using hk)
    rwa [show i + 1 + k = i + (k + 1) by omega] at this

theorem filter_le {p q : Nat → Bool} (h : ∀ k, q k = true → p k = true) : ∀ l : List Nat, (l.filter q).length ≤ (l.filter p).length
  | [] => Nat.le_refl _
  | k :: l => by
    have := filter_le h l
    by_cases hq : q k = true
    · simp [hq, h k hq]; omega
    · by_cases hp : p k = true
      · simp [hq, hp]; omega
      · simp [hq, hp]; omega
theorem filter_lt {p q : Nat → Bool} (h : ∀ k, q k = true → p k = true) {i : Nat} (hp : p i = true) (hq : q i = false) : ∀ {l : List Nat}, i ∈ l → (l.filter q).length < (l.filter p).length
  | [], hm => by simp at hm
  | k :: l, hm => by
    by_cases hk : i = k
    · subst hk
      have := filter_le h l
      simp [hq, hp]; omega
    · have := Go.Proofs.YtbanpdeganlndaaGreatDoor.Reg.filter_lt h hp hq (l := l) (by simpa [hk] using hm)
      by_cases hqk : q k = true
      · simp [hqk, h k hqk]; omega
      · by_cases hpk : p k = true
        · simp [hqk, hpk]; omega
        · simp [hqk, hpk]; omega

def left (ops : Array Oper) (listed : Array Bool) : Nat := ((List.range ops.size).filter fun i => !listed.getD i false).length

/-- What an operation gives at one frame it gives at another that looks the same to it. -/
theorem wp_of_gives {o : Oper} {a b : Act} {w : World} {K0 : Value → World → Prop} {K : Act → World → Prop} {Q : Exit → Act → World → Prop} (he : execOp b.eval o = execOp a.eval o)
    (h : Gives P K0 ((execOp a.eval o).run P w)) (hk : ∀ v w', K0 v w' → K (b.put o.dst v) w') : o.wp P b w K Q := by
  unfold Oper.wp
  rw [he]
  generalize (execOp a.eval o).run P w = r at *
  cases r with
  | ok n w' =>
    cases n <;> simp only [Gives] at h <;> simp only [Oper.upon]
    case value v => exact hk _ _ h
    case skip => exact hk _ _ h
    case enter f args =>
      refine Calls.mono h fun e w'' he => ?_
      obtain ⟨v, rfl, hv⟩ := he
      exact hk _ _ hv
    case row row args => exact Rows.mono h fun v w'' hv => hk _ _ hv
  | halt x w' => cases x <;> simp only [Gives] at h

def upd (vs : Nat → Value) (i : Nat) (v : Value) : Nat → Value := fun k => if k = i then v else vs k
def lay (L : Nat → Bool) (i : Nat) : Nat → Bool := fun k => L k || k == i

/-- What is asked of operation i under an invariant over what has come up (L), its values, the world. -/
def OblI (P : Program) (Inv : (Nat → Bool) → (Nat → Value) → World → Prop) (fr : Nat → (Nat → Value) → Act) (o : Oper) (i : Nat) : Prop :=
  ∀ (L : Nat → Bool) (vs : Nat → Value) (w : World), Inv L vs w → L i = false → (∀ e ∈ o.after.toList, Region.binds .any e = true → L e.on = true) →
    ∀ K : Value → World → Prop, (∀ v w', Inv (lay L i) (upd vs i v) w' → K v w') →
      if wantedV o vs = true then Gives P K ((execOp (fr i vs).eval o).run P w) else K undef w
def OblsI (P : Program) (Inv : (Nat → Bool) → (Nat → Value) → World → Prop) (fr : Nat → (Nat → Value) → Act) : List Oper → Nat → Prop
  | [], _ => True
  | o :: rest, i => OblI P Inv fr o i ∧ OblsI P Inv fr rest (i + 1)
theorem oblI_of {Inv : (Nat → Bool) → (Nat → Value) → World → Prop} {fr : Nat → (Nat → Value) → Act} : ∀ {l : List Oper} {i : Nat}, OblsI P Inv fr l i → ∀ k o, l[k]? = some o → OblI P Inv fr o (i + k)
  | [], _, _, _, _, h => by simp at h
  | p :: rest, i, h, 0, o, hk => by
    obtain rfl : p = o := by simpa using hk
    exact h.1
  | p :: rest, i, h, k + 1, o, hk => by
    have := oblI_of h.2 k o (by simpa using hk)
    rwa [show i + 1 + k = i + (k + 1) by omega] at this

def seen (listed : Array Bool) : Nat → Bool := fun k => listed.getD k true

/-- The frame that operation i is tried at looks to it as the frame in which all but the later ones have come up. -/
def Frames (ops : Array Oper) (a0 : Act) (fr : Nat → (Nat → Value) → Act) : Prop :=
  ∀ i o, ops[i]? = some o → ∀ vs, Agree (fun t => t ∉ o.looksAt ops) (fill a0 ops.toList 0 (fun k => !lateFor ops o k) vs) (fr i vs)

/-- The invariant holds from operation to operation: whatever order is drawn. -/
theorem any_order {Inv : (Nat → Bool) → (Nat → Value) → World → Prop} {a0 : Act} {Q : Exit → Act → World → Prop} {fr : Nat → (Nat → Value) → Act} (ht : tidy a0.tmps.size ops = true) (hfr : Frames ops a0 fr)
    (ho : ∀ i o, ops[i]? = some o → OblI P Inv fr o i)
    (hend : ∀ vs w, Inv (fun _ => true) vs w → Q .normal (fill a0 ops.toList 0 (fun _ => true) vs) w) :
    ∀ (fuel : Nat) (listed : Array Bool) (vs : Nat → Value) (w : World), listed.size = ops.size → left ops listed ≤ fuel →
      (∀ i o, ops[i]? = some o → listed.getD i false = true → ∀ e ∈ o.after, Region.binds .any e = true → listed.getD e.on false = true) → Inv (seen listed) vs w →
      wpAny P .any ops Q fuel listed (fill a0 ops.toList 0 (fun i => listed.getD i false) vs) w := by
  have hdone : ∀ (listed : Array Bool) (vs : Nat → Value) (w : World), listed.size = ops.size → Inv (seen listed) vs w →
      (∀ i, i < ops.size → listed.getD i false = true) → Q .normal (fill a0 ops.toList 0 (fun i => listed.getD i false) vs) w := by
    intro listed vs w hs hI hall
    have e := fill_congr vs vs (fun i => listed.getD i false) (fun _ => true) ops.toList 0 a0 fun k hk => ⟨by simpa using hall k (by simpa using hk), fun _ => rfl⟩
    rw [e]
    have e2 : seen listed = fun _ => true := by
      funext k
      unfold seen
      by_cases hk : k < ops.size
      · have := hall k hk
        simpa [hs, hk] using this
      · simp [hs, hk]
    rw [e2] at hI
    exact hend vs w hI
  -- the least that is not listed may come up
  have hready : ∀ (listed : Array Bool), listed.size = ops.size → Region.ready .any ops listed = [] → ∀ i, i < ops.size → listed.getD i false = true := by
    intro listed hs h0 i
    induction i using Nat.strongRecOn with
    | _ i ih =>
      intro hi
      rcases hb : listed.getD i false with _ | _
      · exfalso
        have hm : i ∈ Region.ready .any ops listed := by
          refine mem_ready.2 ⟨by rw [← hb]; simp [hs, hi], ops[i], Array.getElem?_eq_getElem hi, fun e he hbd => ?_⟩
          have := (tidy_spec ht (Array.getElem?_eq_getElem hi)).2.2.1 e he hbd
          exact ih e.on this (by omega)
        rw [h0] at hm
        cases hm
      · rfl
  intro fuel
  induction fuel with
  | zero =>
    intro listed vs w hs hn _ hI
    have hall : ∀ i, i < ops.size → listed.getD i false = true := by
      intro i hi
      have h0 : (List.range ops.size).filter (fun i => !listed.getD i false) = [] := List.eq_nil_of_length_eq_zero (by unfold left at hn; omega)
      have := List.filter_eq_nil_iff.1 h0 i (List.mem_range.2 hi)
      simpa using this
    refine ⟨?_, hdone listed vs w hs hI hall⟩
    refine List.eq_nil_iff_forall_not_mem.2 fun i hi => ?_
    obtain ⟨h1, o, h2, _⟩ := mem_ready.1 hi
    have hlt := (Array.getElem?_eq_some_iff.1 h2).1
    have h3 := hall i hlt
    simp [hs, hlt] at h1 h3
    rw [h1] at h3
    cases h3
  | succ fuel ih =>
    intro listed vs w hs hn hcl hI
    refine ⟨fun h0 => hdone listed vs w hs hI (hready listed hs h0), fun i hi => ?_⟩
    obtain ⟨hun, o, hoi, hall⟩ := mem_ready.1 hi
    obtain ⟨-, tg, t2, t3⟩ := tidy_spec ht hoi
    have hlt := (Array.getElem?_eq_some_iff.1 hoi).1
    have hun' : listed.getD i false = false := by simpa [hs, hlt] using hun
    have hli : ops.toList[i]? = some o := by simpa using hoi
    -- the two frames
    have hag0 := fill_agree vs (fun k => listed.getD k false) (fun k => !lateFor ops o k) (fun t => t ∉ o.looksAt ops) ops.toList 0 a0 a0 (Agree.refl _ _)
      (fun k p hk hne t hd hm => by
        rw [Nat.zero_add] at hne
        have hkp : ops[k]? = some p := by simpa using hk
        by_cases haw : awaits o k = true
        · obtain ⟨e, he, hb, rfl⟩ := awaits_spec haw
          refine hne ?_
          rw [hall e he hb]
          simp [lateFor, hkp, hd, haw]
        · have hlate : lateFor ops o k = true := by simp [lateFor, hkp, hd, haw, hm]
          have h2 := (t3 k p hkp).2 hlate
          obtain ⟨e, he, hb, hei⟩ := awaits_spec h2
          refine hne ?_
          rw [hlate]
          rcases hl : listed.getD k false with _ | _
          · rfl
          · have := hcl k p hkp hl e he hb
            rw [hei, hun'] at this
            cases this)
    have hag1 := hfr i o hoi vs
    have hag : Agree (fun t => t ∉ o.looksAt ops) (fill a0 ops.toList 0 (fun k => listed.getD k false) vs) (fr i vs) :=
      ⟨hag0.1.trans hag1.1, hag0.2.1.trans hag1.2.1, fun t ht => (hag0.2.2 t ht).trans (hag1.2.2 t ht)⟩
    have hlook : ∀ t, t ∈ o.looksAt ops → ¬ t ∉ o.looksAt ops := fun t h hn => hn h
    have hex := hag.exec (Region.noSelect_spec (noSelect_of ht) i o · · hoi) hlook
    -- what is asked of it
    have hob := ho i o hoi (seen listed) vs w hI hun (fun e he hb => by
      have h1 := hall e (by simpa using he) hb
      have h2 := t2 e (by simpa using he) hb
      unfold seen
      have : e.on < ops.size := by omega
      simpa [hs, this] using h1)
    have hnext : ∀ v' w', Inv (lay (seen listed) i) (upd vs i v') w' →
        wpAny P .any ops Q fuel (listed.setIfInBounds i true) ((fill a0 ops.toList 0 (fun k => listed.getD k false) vs).put o.dst v') w' := by
      intro v' w' hI'
      have e2 := fill_next vs (fun k => listed.getD k false) ops.toList 0 a0 i o v' hli (by simpa using hun') (fun k p hk hne t ht' => by
        have := (t3 k p (by simpa using hk)).1 hne t ht'
        exact this)
      rw [e2]
      have e3 := fill_congr (fun k => if k = 0 + i then v' else vs k) (upd vs i v') (fun k => listed.getD k false || k == 0 + i) (fun k => (listed.setIfInBounds i true).getD k false) ops.toList 0 a0 fun k hk => ⟨by
        simp only [Nat.zero_add]
        by_cases hki : k = i
        · subst hki; simp [hs, hlt]
        · rw [getD_set_ne false (fun e => hki e.symm)]; simp [hki], fun _ => by simp only [Nat.zero_add]; rfl⟩
      rw [e3]
      have e4 : seen (listed.setIfInBounds i true) = lay (seen listed) i := by
        funext k
        unfold seen lay
        by_cases hki : k = i
        · subst hki; simp [hs, hlt]
        · rw [getD_set_ne true (fun e => hki e.symm)]; simp [hki]
      refine ih _ _ w' (by simpa using hs) ?_ (fun k p hk hkl e he hb => ?_) (by rw [e4]; exact hI')
      · have hlt2 := Go.Proofs.YtbanpdeganlndaaGreatDoor.Reg.filter_lt (p := fun k => !listed.getD k false) (q := fun k => !(listed.setIfInBounds i true).getD k false) (i := i) (fun k hk => by
          by_cases hki : i = k
          · subst hki; simp [hs, hlt] at hk
          · rw [getD_set_ne false hki] at hk; exact hk) (by simp [hun']) (by simp [hs, hlt]) (List.mem_range.2 hlt)
        unfold left at hn ⊢
        omega
      · by_cases hki : k = i
        · subst hki
          obtain rfl : p = o := by rw [hoi] at hk; exact (Option.some.inj hk).symm
          exact getD_set_true (hall e he hb)
        · rw [getD_set_ne false (fun h => hki h.symm)] at hkl
          exact getD_set_true (hcl k p hk hkl e he hb)
    -- the guard
    unfold wpOp
    simp only [hoi]
    have hwv : Region.wanted o (yielded ops (fill a0 ops.toList 0 (fun k => listed.getD k false) vs).tmps) = wantedV o vs := by
      unfold Region.wanted wantedV
      cases hg : o.guard with
      | none => rfl
      | some gb =>
        obtain ⟨g, b⟩ := gb
        obtain ⟨p, d, hp, hpd, haw⟩ := tg g b hg
        obtain ⟨e, he, hb, hei⟩ := awaits_spec haw
        obtain ⟨p1, -, -, p3⟩ := tidy_spec ht hp
        have hget := fill_get vs (fun k => listed.getD k false) ops.toList 0 a0 g p d (by simpa using hp) hpd (p1 d hpd) (by have := hall e he hb; rw [hei] at this; simpa using this) (fun k q hk hne => by
          have := (p3 k q (by simpa using hk)).1 hne d hpd
          exact this)
        rw [Nat.zero_add] at hget
        simp only [yielded, hp, hpd, Option.bind_some, hget]
        cases vs g <;> rfl
    have h1 := hob (fun v' w' => Inv (lay (seen listed) i) (upd vs i v') w') (fun v w' h => h)
    by_cases hw : wantedV o vs = true
    · rw [if_pos (by rw [hwv]; exact hw)]
      refine .inl ?_
      rw [if_pos hw] at h1
      exact wp_of_gives hex h1 fun v w' hk => hnext v w' hk
    · rw [if_neg (by rw [hwv]; exact hw)]
      rw [if_neg hw] at h1
      exact hnext undef w h1

/-- The region, from the world behind the draw, under an invariant. -/
theorem wp_region_inv {id : Nat} {a0 : Act} {w0 : World} {l : List Oper} {Q : Exit → Act → World → Prop} (Inv : (Nat → Bool) → (Nat → Value) → World → Prop) {A : (Nat → Value) → Act} {fr : Nat → (Nat → Value) → Act} (hm : P.follows .mixedOrders = true)
    (ht : tidy a0.tmps.size l.toArray = true) (hA : ∀ vs, fill a0 l 0 (fun _ => true) vs = A vs) (hfr : Frames l.toArray a0 fr)
    (hI : ∀ vs, Inv (fun k => decide (l.length ≤ k)) vs w0.drew)
    (ho : OblsI P Inv fr l 0) (hend : ∀ vs w, Inv (fun _ => true) vs w → Q .normal (A vs) w) : (Code.region id l.toArray true).wp P Q a0 w0 := by
  have hA' : (fun vs => fill a0 l 0 (fun _ => true) vs) = A := funext hA
  subst hA'
  refine wp_region_any hm ?_
  have e : a0 = fill a0 l 0 (fun i => (Array.replicate l.toArray.size false).getD i false) (fun _ => undef) := by
    have h1 : ∀ (l : List Oper) (i : Nat) (a : Act) (vs : Nat → Value), fill a l i (fun _ => false) vs = a := by
      intro l
      induction l with
      | nil => intro i a vs; rfl
      | cons o r ih => intro i a vs; unfold fill; rw [if_neg (by simp)]; exact ih _ _ _
    have h2 : (fun i => (Array.replicate l.toArray.size false).getD i false) = fun _ => false := by
      funext i
      simp only [Array.getD_eq_getD_getElem?, Array.getElem?_replicate]; split <;> rfl
    rw [h2, h1]
  rw [e]
  refine any_order (Inv := Inv) ht hfr (fun i o hi => by have := oblI_of ho i o (by simpa using hi); rwa [Nat.zero_add] at this) (by simpa using hend) _ _ _ _ (by simp) ?_ ?_ ?_
  · unfold left
    exact Nat.le_trans (List.length_filter_le _ _) (by simp)
  · intro k p _ hkl
    simp only [Array.getD_eq_getD_getElem?, Array.getElem?_replicate] at hkl
    split at hkl <;> simp at hkl
  · have e2 : seen (Array.replicate l.toArray.size false) = fun k => decide (l.length ≤ k) := by
      funext k
      unfold seen
      simp only [Array.getD_eq_getD_getElem?, Array.getElem?_replicate, List.size_toArray]
      by_cases hk : k < l.length
      · rw [if_pos hk]; simp; omega
      · rw [if_neg hk]; simp; omega
    rw [e2]
    exact hI _

/-- No operation looks at a slot that a later one writes. -/
def noLate (ops : Array Oper) : Bool := ops.all fun o => (List.range ops.size).all fun k => !lateFor ops o k
theorem frames_plain {a0 : Act} {l : List Oper} {A : (Nat → Value) → Act} (hn : noLate l.toArray = true) (hA : ∀ vs, fill a0 l 0 (fun _ => true) vs = A vs) : Frames l.toArray a0 (fun _ => A) := by
  intro i o hi vs
  have h1 := Array.all_eq_true_iff_forall_mem.1 hn o (Array.mem_of_getElem? hi)
  rw [List.all_eq_true] at h1
  have e := fill_congr vs vs (fun k => !lateFor l.toArray o k) (fun _ => true) l 0 a0 fun k hk => ⟨by
    have := h1 k (List.mem_range.2 (by simpa using hk))
    simpa using this, fun _ => rfl⟩
  rw [show fill a0 l.toArray.toList 0 (fun k => !lateFor l.toArray o k) vs = fill a0 l 0 (fun k => !lateFor l.toArray o k) vs from rfl, e, hA]
  exact Agree.refl _ _
/-- The operations 'late' look at slots that the operations 'ex' write behind them: they are tried at the frame B, in which those have not come up. -/
def lateOk (ops : Array Oper) (late ex : List Nat) : Bool :=
  (List.range ops.size).all fun i => match ops[i]? with
    | none => true
    | some o => (List.range ops.size).all fun k =>
        if late.contains i then (match ops[k]? with | some p => (match p.dst with | some d => !(o.looksAt ops).contains d || (lateFor ops o k == ex.contains k) | none => true) | none => true)
        else !lateFor ops o k
/-- The frame B for the operations 'late', A for all others. -/
def lateFr (late : List Nat) (A B : (Nat → Value) → Act) (i : Nat) : (Nat → Value) → Act := if late.contains i then B else A
theorem frames_late {a0 : Act} {l : List Oper} {A B : (Nat → Value) → Act} (late ex : List Nat) (hn : lateOk l.toArray late ex = true) (hA : ∀ vs, fill a0 l 0 (fun _ => true) vs = A vs)
    (hB : ∀ vs, fill a0 l 0 (fun k => !ex.contains k) vs = B vs) : Frames l.toArray a0 (lateFr late A B) := by
  intro i o hi vs
  unfold lateFr
  have hlt := (Array.getElem?_eq_some_iff.1 hi).1
  unfold lateOk at hn
  rw [List.all_eq_true] at hn
  have h1 := hn i (List.mem_range.2 hlt)
  rw [hi] at h1
  simp only [List.all_eq_true, List.mem_range] at h1
  by_cases hl : late.contains i = true
  · simp only [hl, if_true]
    rw [← hB vs]
    refine fill_agree vs _ _ _ l 0 a0 a0 (Agree.refl _ _) fun k p hk hne t hd hm => ?_
    rw [Nat.zero_add] at hne
    have hkp : l.toArray[k]? = some p := by simpa using hk
    have h2 := h1 k (Array.getElem?_eq_some_iff.1 hkp).1
    simp only [hl, if_true, hkp, hd, List.contains_iff_mem.2 hm, Bool.not_true, Bool.false_or, beq_iff_eq] at h2
    rw [h2] at hne
    exact hne rfl
  · simp only [Bool.not_eq_true] at hl
    simp only [hl, if_false, Bool.false_eq_true]
    rw [← hA vs]
    have e := fill_congr vs vs (fun k => !lateFor l.toArray o k) (fun _ => true) l 0 a0 fun k hk => ⟨by
      have h2 := h1 k (by simpa using hk)
      simp only [hl, if_false, Bool.false_eq_true] at h2
      simpa using h2, fun _ => rfl⟩
    rw [show fill a0 l.toArray.toList 0 (fun k => !lateFor l.toArray o k) vs = fill a0 l 0 (fun k => !lateFor l.toArray o k) vs from rfl, e]
    exact Agree.refl _ _

/-- The world only grows from operation to operation, each value has its fact, which lasts. -/
theorem wp_region_facts {id : Nat} {a0 : Act} {w0 : World} {l : List Oper} {Q : Exit → Act → World → Prop} (C : World → Prop) (B : Nat) (Fs : List Fact) {A : (Nat → Value) → Act} (hm : P.follows .mixedOrders = true)
    (ht : (tidy a0.tmps.size l.toArray && noLate l.toArray) = true) (hlen : Fs.length = l.length) (hA : ∀ vs, fill a0 l 0 (fun _ => true) vs = A vs)
    (hC : C w0.drew) (hB : ∀ w, C w → B ≤ w.heap.size)
    (ho : Obls P C Fs A l 0) (hlast : Last B Fs)
    (hend : ∀ vs w, C w → All vs w Fs 0 → Q .normal (A vs) w) : (Code.region id l.toArray true).wp P Q a0 w0 := by
  rw [Bool.and_eq_true] at ht
  refine wp_region_inv (fun L vs w => C w ∧ ∀ i, i < l.length → L i = true → at_ Fs i (vs i) w) hm ht.1 hA (frames_plain ht.2 hA) (fun vs => ⟨hC, fun i hi h => ?_⟩) ?_ (fun vs w h => hend vs w h.1 (all_of fun k hk => by simpa using h.2 k (by omega) rfl))
  · simp at h; omega
  · have key : ∀ (r : List Oper) (i : Nat), i + r.length ≤ l.length → (∀ (k : Nat) (o : Oper), r[k]? = some o → ∀ e ∈ o.after, Region.binds .any e = true → e.on < l.length) → Obls P C Fs A r i → OblsI P (fun L vs w => C w ∧ ∀ i, i < l.length → L i = true → at_ Fs i (vs i) w) (fun _ => A) r i := by
      intro r
      induction r with
      | nil => intro i _ _ _; exact trivial
      | cons o r ih =>
        intro i hi he h
        refine ⟨?_, ih (i + 1) (by simp at hi; omega) (fun k o' hk => he (k + 1) o' (by simpa using hk)) h.2⟩
        intro L vs w hI hLi hall K hK
        have h1 := h.1 vs w hI.1 (deps_of fun e hm hb => hI.2 e.on (he 0 o (by simp) e (by simpa using hm) hb) (hall e hm hb)) K
        refine h1 fun v w' hC' hb hF => hK v w' ⟨hC', fun k hk hL => ?_⟩
        unfold upd
        by_cases hki : k = i
        · subst hki; simpa using hF
        · rw [if_neg hki]
          have hLk : L k = true := by simpa [lay, hki] using hL
          exact at_last hlast k _ _ _ (hB w hI.1) (hI.2 k hk hLk) hb
    refine key l 0 (by omega) (fun k o hk e he hb => ?_) ho
    have hko : l.toArray[k]? = some o := by simpa using hk
    have := (tidy_spec ht.1 hko).2.2.1 e he hb
    have h2 := (Array.getElem?_eq_some_iff.1 hko).1
    simp at h2
    omega

/-- Each fact lasts under G. -/
def LastG (G : World → World → Prop) : List Fact → Prop
  | [] => True
  | F :: r => (∀ v w w', F v w → G w w' → F v w') ∧ LastG G r
theorem at_lastG {G : World → World → Prop} : ∀ {Fs : List Fact}, LastG G Fs → ∀ (i : Nat) (v : Value) (w w' : World), at_ Fs i v w → G w w' → at_ Fs i v w'
  | [], _, _, _, _, _ => by simp [at_]
  | F :: r, h, 0, v, w, w' => fun hf hb => by
    have : F v w := by simpa [at_] using hf
    have := h.1 v w w' this hb
    simpa [at_] using this
  | F :: r, h, i + 1, v, w, w' => fun hf hb => by
    have e : ∀ w, at_ (F :: r) (i + 1) v w = at_ r i v w := fun w => by simp [at_]
    rw [e] at hf ⊢
    exact at_lastG h.2 i v w w' hf hb
/-- What is asked of operation i: C: of what has come up and the world; G: how the world may turn. -/
def OblS (P : Program) (C : (Nat → Bool) → World → Prop) (G : World → World → Prop) (Fs : List Fact) (A : (Nat → Value) → Act) (o : Oper) (i : Nat) : Prop :=
  ∀ (L : Nat → Bool) (vs : Nat → Value) (w : World), C L w → L i = false → Deps Fs vs w o.after.toList →
    ∀ K : Value → World → Prop, (∀ v w', C (lay L i) w' → G w w' → at_ Fs i v w' → K v w') →
      if wantedV o vs = true then Gives P K ((execOp (A vs).eval o).run P w) else K undef w
def OblsS (P : Program) (C : (Nat → Bool) → World → Prop) (G : World → World → Prop) (Fs : List Fact) (A : (Nat → Value) → Act) : List Oper → Nat → Prop
  | [], _ => True
  | o :: rest, i => OblS P C G Fs A o i ∧ OblsS P C G Fs A rest (i + 1)
/-- Each value has its fact, which lasts as long as the world turns as G has it. -/
theorem wp_region_state {id : Nat} {a0 : Act} {w0 : World} {l : List Oper} {Q : Exit → Act → World → Prop} (C : (Nat → Bool) → World → Prop) (G : World → World → Prop) (Fs : List Fact) {A : (Nat → Value) → Act} (hm : P.follows .mixedOrders = true)
    (ht : (tidy a0.tmps.size l.toArray && noLate l.toArray) = true) (hlen : Fs.length = l.length) (hA : ∀ vs, fill a0 l 0 (fun _ => true) vs = A vs)
    (hC : C (fun k => decide (l.length ≤ k)) w0.drew) (ho : OblsS P C G Fs A l 0) (hlast : LastG G Fs)
    (hend : ∀ vs w, C (fun _ => true) w → All vs w Fs 0 → Q .normal (A vs) w) : (Code.region id l.toArray true).wp P Q a0 w0 := by
  rw [Bool.and_eq_true] at ht
  refine wp_region_inv (fun L vs w => C L w ∧ ∀ i, i < l.length → L i = true → at_ Fs i (vs i) w) hm ht.1 hA (frames_plain ht.2 hA) (fun vs => ⟨hC, fun i hi h => ?_⟩) ?_ (fun vs w h => hend vs w h.1 (all_of fun k hk => by simpa using h.2 k (by omega) rfl))
  · simp at h; omega
  · have key : ∀ (r : List Oper) (i : Nat), i + r.length ≤ l.length → (∀ (k : Nat) (o : Oper), r[k]? = some o → ∀ e ∈ o.after, Region.binds .any e = true → e.on < l.length) → OblsS P C G Fs A r i → OblsI P (fun L vs w => C L w ∧ ∀ i, i < l.length → L i = true → at_ Fs i (vs i) w) (fun _ => A) r i := by
      intro r
      induction r with
      | nil => intro i _ _ _; exact trivial
      | cons o r ih =>
        intro i hi he h
        refine ⟨?_, ih (i + 1) (by simp at hi; omega) (fun k o' hk => he (k + 1) o' (by simpa using hk)) h.2⟩
        intro L vs w hI hLi hall K hK
        have h1 := h.1 L vs w hI.1 hLi (deps_of fun e hm hb => hI.2 e.on (he 0 o (by simp) e (by simpa using hm) hb) (hall e hm hb)) K
        refine h1 fun v w' hC' hb hF => hK v w' ⟨hC', fun k hk hL => ?_⟩
        unfold upd
        by_cases hki : k = i
        · subst hki; simpa using hF
        · rw [if_neg hki]
          have hLk : L k = true := by simpa [lay, hki] using hL
          exact at_lastG hlast k _ _ _ (hI.2 k hk hLk) hb
    refine key l 0 (by omega) (fun k o hk e he hb => ?_) ho
    have hko : l.toArray[k]? = some o := by simpa using hk
    have := (tidy_spec ht.1 hko).2.2.1 e he hb
    have h2 := (Array.getElem?_eq_some_iff.1 hko).1
    simp at h2
    omega

/-- What an operation waits for has come up. -/
def Aw (L : Nat → Bool) : List Edge → Prop
  | [] => True
  | e :: r => (Region.binds .any e = true → L e.on = true) ∧ Aw L r
theorem aw_of {L : Nat → Bool} : ∀ {l : List Edge}, (∀ e ∈ l, Region.binds .any e = true → L e.on = true) → Aw L l
  | [], _ => trivial
  | e :: r, h => ⟨h e (by simp), aw_of fun e' he' => h e' (by simp [he'])⟩
/-- What is asked of operation i where C speaks of the values too. -/
def OblF (P : Program) (C : (Nat → Bool) → (Nat → Value) → World → Prop) (G : World → World → Prop) (Fs : List Fact) (A : (Nat → Value) → Act) (o : Oper) (i : Nat) : Prop :=
  ∀ (L : Nat → Bool) (vs : Nat → Value) (w : World), C L vs w → L i = false → Deps Fs vs w o.after.toList → Aw L o.after.toList →
    ∀ K : Value → World → Prop, (∀ v w', C (lay L i) (upd vs i v) w' → G w w' → at_ Fs i v w' → K v w') →
      if wantedV o vs = true then Gives P K ((execOp (A vs).eval o).run P w) else K undef w
def OblsF (P : Program) (C : (Nat → Bool) → (Nat → Value) → World → Prop) (G : World → World → Prop) (Fs : List Fact) (A : (Nat → Value) → Act) : List Oper → Nat → Prop
  | [], _ => True
  | o :: rest, i => OblF P C G Fs A o i ∧ OblsF P C G Fs A rest (i + 1)
def OblsL (P : Program) (C : (Nat → Bool) → (Nat → Value) → World → Prop) (G : World → World → Prop) (Fs : List Fact) (fr : Nat → (Nat → Value) → Act) : List Oper → Nat → Prop
  | [], _ => True
  | o :: rest, i => OblF P C G Fs (fr i) o i ∧ OblsL P C G Fs fr rest (i + 1)
theorem wp_region_gen {id : Nat} {a0 : Act} {w0 : World} {l : List Oper} {Q : Exit → Act → World → Prop} (C : (Nat → Bool) → (Nat → Value) → World → Prop) (G : World → World → Prop) (Fs : List Fact) {A : (Nat → Value) → Act} {fr : Nat → (Nat → Value) → Act} (hm : P.follows .mixedOrders = true)
    (ht : tidy a0.tmps.size l.toArray = true) (hfr : Frames l.toArray a0 fr) (hlen : Fs.length = l.length) (hA : ∀ vs, fill a0 l 0 (fun _ => true) vs = A vs)
    (hC : ∀ vs, C (fun k => decide (l.length ≤ k)) vs w0.drew) (ho : OblsL P C G Fs fr l 0) (hlast : LastG G Fs)
    (hend : ∀ vs w, C (fun _ => true) vs w → All vs w Fs 0 → Q .normal (A vs) w) : (Code.region id l.toArray true).wp P Q a0 w0 := by
  refine wp_region_inv (fun L vs w => C L vs w ∧ ∀ i, i < l.length → L i = true → at_ Fs i (vs i) w) hm ht hA hfr (fun vs => ⟨hC vs, fun i hi h => ?_⟩) ?_ (fun vs w h => hend vs w h.1 (all_of fun k hk => by simpa using h.2 k (by omega) rfl))
  · simp at h; omega
  · have key : ∀ (r : List Oper) (i : Nat), i + r.length ≤ l.length → (∀ (k : Nat) (o : Oper), r[k]? = some o → ∀ e ∈ o.after, Region.binds .any e = true → e.on < l.length) → OblsL P C G Fs fr r i → OblsI P (fun L vs w => C L vs w ∧ ∀ i, i < l.length → L i = true → at_ Fs i (vs i) w) fr r i := by
      intro r
      induction r with
      | nil => intro i _ _ _; exact trivial
      | cons o r ih =>
        intro i hi he h
        refine ⟨?_, ih (i + 1) (by simp at hi; omega) (fun k o' hk => he (k + 1) o' (by simpa using hk)) h.2⟩
        intro L vs w hI hLi hall K hK
        have h1 := h.1 L vs w hI.1 hLi (deps_of fun e hm hb => hI.2 e.on (he 0 o (by simp) e (by simpa using hm) hb) (hall e hm hb)) (aw_of fun e hm hb => hall e hm hb) K
        refine h1 fun v w' hC' hb hF => hK v w' ⟨hC', fun k hk hL => ?_⟩
        unfold upd
        by_cases hki : k = i
        · subst hki; simpa using hF
        · rw [if_neg hki]
          have hLk : L k = true := by simpa [lay, hki] using hL
          exact at_lastG hlast k _ _ _ (hI.2 k hk hLk) hb
    refine key l 0 (by omega) (fun k o hk e he hb => ?_) ho
    have hko : l.toArray[k]? = some o := by simpa using hk
    have := (tidy_spec ht hko).2.2.1 e he hb
    have h2 := (Array.getElem?_eq_some_iff.1 hko).1
    simp at h2
    omega
/-- No operation looks at a slot that a later one writes. -/
theorem wp_region_free {id : Nat} {a0 : Act} {w0 : World} {l : List Oper} {Q : Exit → Act → World → Prop} (C : (Nat → Bool) → (Nat → Value) → World → Prop) (G : World → World → Prop) (Fs : List Fact) {A : (Nat → Value) → Act} (hm : P.follows .mixedOrders = true)
    (ht : (tidy a0.tmps.size l.toArray && noLate l.toArray) = true) (hlen : Fs.length = l.length) (hA : ∀ vs, fill a0 l 0 (fun _ => true) vs = A vs)
    (hC : ∀ vs, C (fun k => decide (l.length ≤ k)) vs w0.drew) (ho : OblsL P C G Fs (fun _ => A) l 0) (hlast : LastG G Fs)
    (hend : ∀ vs w, C (fun _ => true) vs w → All vs w Fs 0 → Q .normal (A vs) w) : (Code.region id l.toArray true).wp P Q a0 w0 := by
  rw [Bool.and_eq_true] at ht
  exact wp_region_gen C G Fs hm ht.1 (frames_plain ht.2 hA) hlen hA hC ho hlast hend
/-- The operations 'late' look at slots that the operations 'ex' write behind them. -/
theorem wp_region_late {id : Nat} {a0 : Act} {w0 : World} {l : List Oper} {Q : Exit → Act → World → Prop} (late ex : List Nat) (C : (Nat → Bool) → (Nat → Value) → World → Prop) (G : World → World → Prop) (Fs : List Fact) {A B : (Nat → Value) → Act} (hm : P.follows .mixedOrders = true)
    (ht : (tidy a0.tmps.size l.toArray && lateOk l.toArray late ex) = true) (hlen : Fs.length = l.length) (hA : ∀ vs, fill a0 l 0 (fun _ => true) vs = A vs) (hB : ∀ vs, fill a0 l 0 (fun k => !ex.contains k) vs = B vs)
    (hC : ∀ vs, C (fun k => decide (l.length ≤ k)) vs w0.drew) (ho : OblsL P C G Fs (lateFr late A B) l 0) (hlast : LastG G Fs)
    (hend : ∀ vs w, C (fun _ => true) vs w → All vs w Fs 0 → Q .normal (A vs) w) : (Code.region id l.toArray true).wp P Q a0 w0 := by
  rw [Bool.and_eq_true] at ht
  exact wp_region_gen C G Fs hm ht.1 (frames_late late ex ht.2 hA hB) hlen hA hC ho hlast hend
end
end Go.Proofs.YtbanpdeganlndaaGreatDoor.Reg
namespace Go.Proofs.YtbanpdeganlndaaGreatDoor
open Go.RowKit
open Reg (Is Fact)

attribute [local go_sem] Reg.lateFr Reg.wantedV Reg.gives_value Reg.gives_skip Reg.gives_enter
def errOf (b : Bool) : Int := if b then 0 else 32
def DrawP (w : World) (h : DH) (B : Nat → Prop) (d : Dk) (e : Ending) (w' : World) : Prop := e = .returned (.int .i64 (errOf d.power)) ∧ DskAt w' h B d.drawn ∧ Keeps [h.p] w w'
section
variable (w : World) (h : DH) (B : Nat → Prop) (d : Dk)
set_option maxHeartbeats 800000 in
theorem draw_any (x : DskAt w h B d) : Calls Tryz.prog 70 #[.pointer (some ⟨h.p, 3, none⟩)] w (DrawP w h B d) := by
  obtain ⟨cap, _, _, _, c3, c4, c5⟩ := x.cells
  have z3 := x.free 3
  have z5 := x.free 5
  have hl := x.ok.left
  obtain ⟨capb, hb⟩ := x.box
  have HX := Lib.hid x
  cases hd : d.dead with
  | true =>
    rw [hd] at c3
    have HR := Lib.hid (show DrawP w h B d (.returned (.int .i64 32)) w from ⟨by simp [errOf, Dk.power, hd], by
      have e : d.drawn = d := by unfold Dk.drawn; rw [if_pos hd]
      rw [e]; exact x, Keeps.refl _ _⟩)
    clear x hd hb
    go_enter Tryz.func70, Tryz.ntmps70
    go_wp2_with fail
    go_ret
    exact HR.out
  | false =>
    rw [hd] at c3
    cases hc : d.cut with
    | false =>
      rw [hc] at c4
      have HR := Lib.hid (show DrawP w h B d (.returned (.int .i64 0)) w from ⟨by simp [errOf, Dk.power, hd, hc], by
        have e : d.drawn = d := by unfold Dk.drawn; rw [if_neg (by rw [hd]; simp), if_neg (by rw [hc]; simp)]
        rw [e]; exact x, Keeps.refl _ _⟩)
      clear x hd hc hb
      go_enter Tryz.func70, Tryz.ntmps70
      go_wp2_with fail
      go_ret
      exact HR.out
    | true =>
      rw [hc] at c4
      by_cases h0 : d.left = 0
      · have e0 : ((d.left : Int) == 0) = true := by rw [beq_iff_eq]; omega
        have hk : Keeps [h.p] w (w.setCell ⟨h.p, 3, none⟩ (.bool true)) := (Keeps.refl _ _).setCell (by simp) _
        have HR := Lib.hid (show DrawP w h B d (.returned (.int .i64 32)) (w.setCell ⟨h.p, 3, none⟩ (.bool true)) from ⟨by simp [errOf, Dk.power, hd, hc, h0], by
          have e : d.drawn = { d with dead := true } := by unfold Dk.drawn; rw [if_neg (by rw [hd]; simp), if_pos hc, if_pos h0]
          refine x.turn hk (Dk.ok_drawn x.ok) (by rw [e]) (by rw [e]) (by rw [e]) ⟨capb, ?_⟩
          rw [six_set hb 3 (.bool true), e]; rfl, hk⟩)
        clear x hd hc hb hk h0
        go_enter Tryz.func70, Tryz.ntmps70
        go_wp2_with fail
        go_ret
        exact HR.out
      · have e0 : ((d.left : Int) == 0) = false := by rw [beq_eq_false_iff_ne]; omega
        have e1 : ((d.left : Int) - 1) = ((d.left - 1 : Nat) : Int) := by omega
        have hk : Keeps [h.p] w (w.setCell ⟨h.p, 5, none⟩ (.int .i64 ((d.left : Int) - 1))) := (Keeps.refl _ _).setCell (by simp) _
        have HR := Lib.hid (show DrawP w h B d (.returned (.int .i64 0)) (w.setCell ⟨h.p, 5, none⟩ (.int .i64 ((d.left : Int) - 1))) from ⟨by simp [errOf, Dk.power, hd, hc, h0], by
          have e : d.drawn = { d with left := d.left - 1 } := by unfold Dk.drawn; rw [if_neg (by rw [hd]; simp), if_pos hc, if_neg h0]
          refine x.turn hk (Dk.ok_drawn x.ok) (by rw [e]) (by rw [e]) (by rw [e]) ⟨capb, ?_⟩
          rw [six_set hb 5 _, e, e1]; rfl, hk⟩)
        clear x hd hc hb hk h0 e1
        go_enter Tryz.func70, Tryz.ntmps70
        go_wp2_with fail
        go_ret
        exact HR.out
theorem draw_no (x : DskAt w h B d) (hp : d.power = false) : Calls Tryz.prog 70 #[.pointer (some ⟨h.p, 3, none⟩)] w fun e w' => e = .returned (.int .i64 32) ∧ DskAt w' h B d.drawn ∧ Keeps [h.p] w w' :=
  (draw_any w h B d x).mono fun e w' hq => ⟨by rw [hq.1, hp]; rfl, hq.2⟩
theorem draw_yes (x : DskAt w h B d) (hp : d.power = true) : Calls Tryz.prog 70 #[.pointer (some ⟨h.p, 3, none⟩)] w fun e w' => e = .returned (.int .i64 0) ∧ DskAt w' h B d.drawn ∧ Keeps [h.p] w w' :=
  (draw_any w h B d x).mono fun e w' hq => ⟨by rw [hq.1, hp]; rfl, hq.2⟩
def CutP (w : World) (h : DH) (B : Nat → Prop) (d' : Dk) (e : Ending) (w' : World) : Prop := e = .returned (.tuple #[]) ∧ DskAt w' h B d' ∧ Keeps [h.p] w w'
theorem cutP_of {w w2 : World} {h : DH} {B : Nat → Prop} {d : Dk} {n z : Int} (x : DskAt w h B d) (hn : Wide n) (hz : max n 0 = z) (hw2 : w2 = (w.setCell ⟨h.p, 4, none⟩ (.bool true)).setCell ⟨h.p, 5, none⟩ (.int .i64 z)) : CutP w h B (d.cutIn n) (.returned (.tuple #[])) w2 := by
  obtain ⟨capb, hb⟩ := x.box
  have hk : Keeps [h.p] w w2 := by rw [hw2]; exact ((Keeps.refl _ _).setCell (by simp) _).setCell (by simp) _
  refine ⟨rfl, ?_, hk⟩
  refine x.turn hk (Dk.ok_cut x.ok hn.2) rfl rfl rfl ⟨capb, ?_⟩
  have e1 : ((max n 0).toNat : Int) = z := by omega
  rw [hw2, six_set (six_set hb 4 (.bool true)) 5 _]
  show _ = some (Obj.cells #[_, _, _, _, _, .int .i64 (((max n 0).toNat : Nat) : Int)] _ _)
  rw [e1]; rfl
set_option maxHeartbeats 800000 in
theorem cut_any (x : DskAt w h B d) (n : Int) (hn : Wide n) : Calls Tryz.prog 18 #[.pointer (some ⟨h.p, 3, none⟩), .int .i64 n] w (CutP w h B (d.cutIn n)) := by
  obtain ⟨cap, _, _, _, c3, c4, c5⟩ := x.cells
  have z4 := x.free 4
  have z5 := x.free 5
  by_cases h0 : n < 0
  · have HR := Lib.hid (fun w2 h2 => cutP_of (w2 := w2) (z := 0) x hn (by omega) h2)
    clear x
    go_enter Tryz.func18, Tryz.ntmps18
    go_wp2_with fail
    go_end0
    exact HR.out _ rfl
  · have HR := Lib.hid (fun w2 h2 => cutP_of (w2 := w2) (z := n) x hn (by omega) h2)
    clear x
    go_enter Tryz.func18, Tryz.ntmps18
    go_wp2_with fail
    go_end0
    exact HR.out _ rfl
end
end Go.Proofs.YtbanpdeganlndaaGreatDoor
namespace Go.Proofs.YtbanpdeganlndaaGreatDoor
open Go.RowKit
open Reg (Is Fact)

attribute [local go_sem] Reg.lateFr Reg.wantedV Reg.gives_value Reg.gives_skip Reg.gives_enter
/-- A copy of bytes in a block that is not older than W. -/
def NewB (W : Nat) (b : List UInt8) : Fact := fun v w => ∃ A cap g, v = .slice A b.length cap ∧ BytesIn w g A b ∧ W ≤ g ∧ b.length ≤ cap ∧ cap ≤ maxLen ∧ (A = none → b = [])
theorem DskAt.stored {wr w1 : World} {h : DH} {B : Nat → Prop} {d : Dk} {i : Nat} {b : List UInt8} {v : Value} (x : DskAt wr h B d) (hi : i < d.dur.length) (hb : b.length = d.size) (hk : Keeps [] wr w1) (hv : NewB wr.heap.size b v w1) :
    ∃ w2, (Instr.mapUpdate 50 (.map (some h.gm)) (.int .i64 (i : Int)) v).run Tryz.prog w1 = .ok () w2 ∧ Keeps [h.gm] w1 w2 ∧
      ∃ B', DskAt w2 h B' (d.put i b) ∧ (∀ x, B x → B' x) ∧ (∀ x, B' x → B x ∨ wr.heap.size ≤ x) := by
  obtain ⟨A, cap, g, rfl, hbi, hg, hc, hm, _⟩ := hv
  have hsz := x.ok.size
  have hsec := x.ok.secs
  have hne := x.ne
  have hlt := x.lt
  have hg1 : g < w1.heap.size := hbi.lt (by omega)
  have hs : SecV w1 (fun x => B x ∨ x = g) (.slice A b.length cap) b := by
    rcases hbi with h0 | ⟨off, rfl, hc2⟩
    · rw [h0] at hb; simp at hb; omega
    · exact ⟨g, off, cap, rfl, .inr ⟨off, rfl, hc2⟩, hc, hm, .inr rfl⟩
  obtain ⟨w2, hrun, hf, ht⟩ := x.fresh.store (B' := fun x => B x ∨ x = g) hsec.2 hi hk hs (fun _ h => .inl h) (by
    rintro (h1 | h1)
    · exact x.sep.2.2 h1
    · omega)
  have hk2 := turned_keeps ht
  have hk3 : Keeps [h.gm] wr w2 := (hk.mono (T := [h.gm]) (by simp)).trans hk2 (fun _ h _ => h)
  refine ⟨w2, hrun, hk2, fun x => B x ∨ x = g, ⟨Dk.ok_put x.ok hi hb, ?_, ?_, hf, ?_, ?_⟩, fun _ h => .inl h, fun y hy => ?_⟩
  · obtain ⟨capb, hbx⟩ := x.box
    exact ⟨capb, block_keep hbx hk3 (by simpa using hne.2.1)⟩
  · obtain ⟨vs, hr, hv⟩ := x.rows
    refine ⟨vs, block_keep hr hk3 (by simpa using hne.2.2), fun j hj => ?_⟩
    obtain ⟨v, q1, q2⟩ := hv j hj
    exact ⟨v, q1, q2.keep hk3 (fun y hy => by simp at hy; rw [hy]; exact x.sep.2.2) (fun _ h => .inl h)⟩
  · refine ⟨?_, ?_, ?_⟩
    · rintro (h1 | h1)
      · exact x.sep.1 h1
      · omega
    · rintro (h1 | h1)
      · exact x.sep.2.1 h1
      · omega
    · rintro (h1 | h1)
      · exact x.sep.2.2 h1
      · omega
  · rintro y (h1 | h1)
    · have := x.low y h1; have := hk3.size; omega
    · have := hk2.size; omega
  · rcases hy with h1 | h1
    · exact .inl h1
    · right; omega
def WriteP (w : World) (h : DH) (B : Nat → Prop) (d : Dk) (i : Int) (b : List UInt8) (e : Ending) (w' : World) : Prop :=
  e = .returned (.int .i64 (d.writeErr i b : Int)) ∧ Keeps h.l w w' ∧ ∃ B', DskAt w' h B' (d.write i b) ∧ (∀ x, B x → B' x) ∧ (∀ x, B' x → B x ∨ w.heap.size ≤ x)
/-- What the region of the store leaves. -/
def WC (wr : World) (h : DH) (B : Nat → Prop) (d' : Dk) (L : Nat → Bool) (w' : World) : Prop :=
  (L 8 = false → Keeps [] wr w') ∧ (L 8 = true → Keeps [h.gm] wr w' ∧ ∃ B', DskAt w' h B' d' ∧ (∀ x, B x → B' x) ∧ (∀ x, B' x → B x ∨ wr.heap.size ≤ x))
def WG (wr : World) (h : DH) (w w' : World) : Prop := wr.heap.size ≤ w.heap.size ∧ h.gm < wr.heap.size → Keeps [h.gm] w w'
theorem Is.lastW {wr : World} {h : DH} {u : Value} : ∀ v w w', Is u v w → WG wr h w w' → Is u v w' := fun _ _ _ h _ => h
def AnyF : Fact := fun _ _ => True
theorem AnyF.lastW {wr : World} {h : DH} : ∀ v w w', AnyF v w → WG wr h w w' → AnyF v w' := fun _ _ _ _ _ => trivial
def NewG (wr : World) (h : DH) (b : List UInt8) : Fact := fun v w => wr.heap.size ≤ w.heap.size ∧ h.gm < wr.heap.size ∧ NewB wr.heap.size b v w
theorem NewG.lastW {wr : World} {h : DH} {b : List UInt8} : ∀ v w w', NewG wr h b v w → WG wr h w w' → NewG wr h b v w' := by
  rintro v w w' ⟨h1, h2, A, cap, g, hv, hb, hg, hc⟩ hk
  have hk' := hk ⟨h1, h2⟩
  exact ⟨Nat.le_trans h1 hk'.size, h2, A, cap, g, hv, hb.keep hk' (by simp; omega), hg, hc⟩
theorem lay_ne {L : Nat → Bool} {i j : Nat} (h : i ≠ j) : Reg.lay L i j = L j := by simp [Reg.lay, Ne.symm h]
theorem lay_eq {L : Nat → Bool} {i : Nat} : Reg.lay L i i = true := by simp [Reg.lay]
section
variable {w1 w w' : World} {h : DH} {B : Nat → Prop} {d' : Dk} {L : Nat → Bool} {i : Nat}
theorem WC.lay (hC : WC w1 h B d' L w) (hi : i ≠ 8) (hk : Keeps [] w w') : WC w1 h B d' (Reg.lay L i) w' := by
  unfold WC
  rw [lay_ne hi]
  refine ⟨fun e => (hC.1 e).trans hk (by simp), fun e => ?_⟩
  obtain ⟨q1, B', q2, q3, q4⟩ := hC.2 e
  exact ⟨q1.trans hk (by simp), B', q2.keep0 hk, q3, q4⟩
theorem WC.keeps (hC : WC w1 h B d' L w) : Keeps [h.gm] w1 w := by
  cases e : L 8 with
  | true => exact (hC.2 e).1
  | false => exact (hC.1 e).mono (by simp)
theorem WG.of (hk : Keeps [] w w') : WG w1 h w w' := fun _ => hk.mono (by simp)
end
theorem gm_apart {w : World} {h : DH} {B : Nat → Prop} {d : Dk} {g : Nat} {A : Option Addr} {b : List UInt8} (x : DskAt w h B d) (hb : BytesIn w g A b) (hl : 0 < b.length) : g ≠ h.gm := by
  rintro rfl
  obtain ⟨k, D, ⟨es, c, hm, _⟩, _⟩ := x.fresh
  rcases hb with h0 | ⟨off, rfl, hc⟩
  · subst h0; simp at hl
  · have := hc 0 hl
    simp [World.cell?, hm] at this
set_option maxHeartbeats 2000000 in
set_option maxRecDepth 100000 in
theorem write_any (w : World) (h : DH) (B : Nat → Prop) (d : Dk) (x : DskAt w h B d) (i : Int) (A : Option Addr) (g cap : Nat) (b : List UInt8) (hb : BytesIn w g A b) (hl : b.length ≤ 140737488355328) :
    Calls Tryz.prog 144 #[.pointer (some ⟨h.p, 0, none⟩), .int .i64 i, .slice A b.length cap] w (WriteP w h B d i b) := by
  obtain ⟨cp, c0, c1, c2, c3, c4, c5⟩ := x.cells
  have HX := Lib.hid x
  have HB := Lib.hid hb
  have hn := x.ok.secs
  have hsz := x.ok.size
  have hltp := x.lt
  cases hd : d.dead with
  | true =>
    rw [hd] at c3
    have HR := Lib.hid (show WriteP w h B d i b (.returned (.int .i64 32)) w from ⟨by simp [Dk.writeErr, hd], Keeps.refl _ _, B, by
      have e : d.write i b = d := by unfold Dk.write; rw [if_pos hd]
      rw [e]; exact x, fun _ h => h, fun _ h => .inl h⟩)
    clear x hd hb
    go_enter Tryz.func144, Tryz.ntmps144
    go_wp2_with fail
    go_ret
    exact HR.out
  | false =>
    rw [hd] at c3
    cases hh : d.has i with
    | false =>
      have hnot : ¬ (0 ≤ i ∧ i < (d.dur.length : Int)) := fun hx => by rw [(d.has_iff i).2 hx] at hh; cases hh
      have HR := Lib.hid (show WriteP w h B d i b (.returned (.int .i64 30)) w from ⟨by unfold Dk.writeErr; rw [if_neg (by rw [hd]; simp), if_pos hnot]; rfl, Keeps.refl _ _, B, by
        have e : d.write i b = d := by unfold Dk.write; rw [if_neg (by rw [hd]; simp), if_pos hnot]
        rw [e]; exact x, fun _ h => h, fun _ h => .inl h⟩)
      have HH := Lib.hid hh
      clear x hd hh hnot hb
      go_enter Tryz.func144, Tryz.ntmps144
      go_wp2_with fail
      refine (has_any w h B d HX.out i).mono ?_
      rintro e w' ⟨rfl, rfl⟩
      rw [HH.out]
      go_wp2_with fail
      go_ret
      exact HR.out
    | true =>
      have hin := (d.has_iff i).1 hh
      have hnn : ¬ ¬ (0 ≤ i ∧ i < (d.dur.length : Int)) := not_not_intro hin
      by_cases hbl : b.length = d.size
      · have e0 : ((b.length : Int) != (d.size : Int)) = false := by rw [bne_eq_false_iff_eq]; omega
        have HBL := Lib.hid hbl
        have HH := Lib.hid hh
        have hib : i.toNat < d.dur.length := by omega
        obtain ⟨n, rfl⟩ : ∃ n : Nat, i = (n : Int) := ⟨i.toNat, by omega⟩
        rw [Int.toNat_natCast] at hib
        cases hp : d.power with
        | false =>
          have HR := Lib.hid (show ∀ w', DskAt w' h B d.drawn → Keeps [h.p] w w' → WriteP w h B d n b (.returned (.int .i64 32)) w' from fun w' q1 q2 => ⟨by unfold Dk.writeErr; rw [if_neg (by rw [hd]; simp), if_neg hnn, if_neg (by simpa using hbl), if_neg (by rw [hp]; simp)]; rfl, q2.mono (by simp [DH.l]), B, by
            have e : d.write n b = d.drawn := by unfold Dk.write; rw [if_neg (by rw [hd]; simp), if_neg hnn, if_neg (by simpa using hbl), if_neg (by rw [hp]; simp)]
            rw [e]; exact q1, fun _ h => h, fun _ h => .inl h⟩)
          have HP := Lib.hid hp
          clear x hd hh hnn hb hp hbl hin
          go_enter Tryz.func144, Tryz.ntmps144
          go_wp2_with fail
          refine (has_any w h B d HX.out n).mono ?_
          rintro e w' ⟨rfl, rfl⟩
          rw [HH.out]
          go_wp2_with fail
          refine (draw_no w h B d HX.out HP.out).mono ?_
          rintro e w1 ⟨rfl, q1, q2⟩
          have HW := Lib.hid (HR.out w1 q1 q2)
          clear q1 q2
          go_wp2_with fail
          go_ret
          exact HW.out
        | true =>
          have HR := Lib.hid (show ∀ w1 w', Keeps [h.p] w w1 → Keeps [h.gm] w1 w' → (∃ B', DskAt w' h B' (d.drawn.put n b) ∧ (∀ x, B x → B' x) ∧ (∀ x, B' x → B x ∨ w1.heap.size ≤ x)) → WriteP w h B d n b (.returned (.int .i64 0)) w' from fun w1 w' q1 q2 ⟨B', q3, q4, q5⟩ => ⟨by unfold Dk.writeErr; rw [if_neg (by rw [hd]; simp), if_neg hnn, if_neg (by simpa using hbl), if_pos hp]; rfl,
            (q1.mono (T := h.l) (by simp [DH.l])).trans q2 (by simp [DH.l]), B', by
            have e : d.write n b = d.drawn.put n b := by unfold Dk.write; rw [if_neg (by rw [hd]; simp), if_neg hnn, if_neg (by simpa using hbl), if_pos hp, Int.toNat_natCast]
            rw [e]; exact q3, q4, fun y hy => (q5 y hy).imp id (fun h9 => by have := q1.size; omega)⟩)
          have HP := Lib.hid hp
          have HBP := Lib.hid (show ∀ w1, Keeps [h.p] w w1 → BytesIn w1 g A b from fun w1 hk => by
            obtain ⟨cb, hbx⟩ := x.box
            by_cases hb0 : b.length = 0
            · exact .inl (List.eq_nil_of_length_eq_zero hb0)
            · refine hb.keep hk ?_
              have := bytes_apart hbx (fun j c => by rcases j with _ | _ | _ | _ | _ | _ | j <;> simp) hb (by omega)
              simpa using this)
          clear x hd hh hnn hb hp hbl hin
          go_enter Tryz.func144, Tryz.ntmps144
          go_wp2_with fail
          refine (has_any w h B d HX.out n).mono ?_
          rintro e w' ⟨rfl, rfl⟩
          rw [HH.out]
          go_wp2_with fail
          refine (draw_yes w h B d HX.out HP.out).mono ?_
          rintro e w1 ⟨rfl, q1, q2⟩
          have HX1 := Lib.hid q1
          have HK1 := Lib.hid q2
          have HB1 := Lib.hid (HBP.out w1 q2)
          have HM1 := Lib.hid (by obtain ⟨_, _, _, h2, _⟩ := q1.cells; exact h2 : w1.cell? ⟨h.p, 2, none⟩ = some (.map (some h.gm)))
          have hlt1 := q1.lt
          have HSM := Lib.hid (Dk.drawn_same d)
          have HGM := Lib.hid (gm_apart q1 (HBP.out w1 q2) (by have := HBL.out; omega))
          have HNE := Lib.hid q1.ne
          clear q1 q2 c0 c1 c2 c3 c4 c5
          go_wp2_with fail
          refine Reg.wp_region_state (A := ?A) (WC w1 h B (d.drawn.put n b)) (WG w1 h)
            [Is (.pointer (some ⟨h.p, 0, none⟩)), Is (.pointer (some ⟨h.p, 0, none⟩)), Is (.pointer (some ⟨h.p, 0, none⟩)), Is (.pointer (some ⟨h.p, 2, none⟩)), Is (.map (some h.gm)), Is (.int .i64 (n : Int)), Is (.slice A b.length cap), NewG w1 h b, AnyF]
            (by kernel_rfl) (by kernel_rfl) rfl ?hA ?hC ?ho ?hlast ?hend
          case hA => intro vs; simp only [Reg.fill, if_true, Nat.zero_add, Nat.reduceAdd, Act.put, List.setIfInBounds_toArray, List.set_cons_succ, List.set_cons_zero]; exact rfl
          case hC => exact ⟨fun _ => (Keeps.refl _ _).drew, fun hl => by simp at hl⟩
          case hlast => repeat (first | exact trivial | refine ⟨Is.lastW, ?_⟩ | refine ⟨NewG.lastW, ?_⟩ | refine ⟨AnyF.lastW, ?_⟩)
          case ho =>
            repeat' apply And.intro
            all_goals
              first
                | exact trivial
                | (intro Ls vs w' hC hL hd K hK
                   try simp only [Reg.Deps, Reg.at_, List.getD_cons_zero, List.getD_cons_succ, Region.binds, true_implies, Is, and_true] at hd
                   have m1 := hC.keeps.cell_some HM1.out (by simpa using HNE.out.2.1)
                   go_simp
                   first
                     | exact hK _ _ (hC.lay (by decide) (Keeps.refl _ _)) (WG.of (Keeps.refl _ _)) rfl
                     | skip)
            · refine (clone_any w' g A b cap (HB1.out.keep hC.keeps (by simpa using HGM.out)) hl).mono ?_
              rintro e w'' ⟨A', cap', g', rfl, r1, r2, r3, r4, r5, r6⟩
              have hs := hC.keeps.size
              exact ⟨_, rfl, hK _ _ (hC.lay (by decide) r6) (WG.of r6) ⟨Nat.le_trans hs r6.size, hlt1.2.2, A', cap', g', rfl, r1, Nat.le_trans hs r2, r3, r4, r5⟩⟩
            · obtain ⟨w2, hrun, hk2, B', q3, q4, q5⟩ := HX1.out.stored (i := n) (b := b) (v := vs 7) (by rw [HSM.out.2.1]; exact hib) (by rw [HSM.out.1]; exact HBL.out) (hC.1 hL) hd.2.2.1.2.2
              rw [hrun]
              simp only [Result.andThen, Reg.gives_skip]
              refine hK _ _ ⟨fun e => (by rw [lay_eq] at e; cases e), fun _ => ⟨((hC.1 hL).mono (by simp)).trans hk2 (fun _ h _ => h), B', q3, q4, q5⟩⟩ (fun _ => hk2) trivial
          case hend =>
            intro vs w4 hC hall
            obtain ⟨q1, q2⟩ := hC.2 rfl
            have HW := Lib.hid (HR.out w1 w4 HK1.out q1 q2)
            clear hC hall q1 q2
            go_wp2_with fail
            go_ret
            exact HW.out
      · have hbl' : b.length ≠ d.size := hbl
        have HR := Lib.hid (show WriteP w h B d i b (.returned (.int .i64 31)) w from ⟨by unfold Dk.writeErr; rw [if_neg (by rw [hd]; simp), if_neg hnn, if_pos hbl']; rfl, Keeps.refl _ _, B, by
          have e : d.write i b = d := by unfold Dk.write; rw [if_neg (by rw [hd]; simp), if_neg hnn, if_pos hbl']
          rw [e]; exact x, fun _ h => h, fun _ h => .inl h⟩)
        have HH := Lib.hid hh
        have e0 : ((b.length : Int) != (d.size : Int)) = true := by rw [bne_iff_ne]; omega
        clear x hd hh hnn hb hbl hbl'
        go_enter Tryz.func144, Tryz.ntmps144
        go_wp2_with fail
        refine (has_any w h B d HX.out i).mono ?_
        rintro e w' ⟨rfl, rfl⟩
        rw [HH.out]
        go_wp2_with fail
        go_ret
        exact HR.out
end Go.Proofs.YtbanpdeganlndaaGreatDoor
