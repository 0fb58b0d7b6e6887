/- The disk as plain mathematics. -/
import Derived.Test.YtgjgnieobbhepaaDoorKBase
namespace Go.Proofs.YtgjgnieobbhepaaDoor

/-- A disk: what is durable, what was written since (sector by sector), power. -/
structure Dk where
  size : Nat
  dur : List (List UInt8)
  fr : Nat → Option (List UInt8)
  dead : Bool
  cut : Bool
  left : Nat
namespace Dk
def last (d : Dk) (i : Nat) : List UInt8 := match d.fr i with | some b => b | none => d.dur.getD i []
/-- What a disk of New's and of its calls is. -/
structure Ok (d : Dk) : Prop where
  size : 64 ≤ d.size ∧ d.size ≤ 4096
  secs : 1 ≤ d.dur.length ∧ d.dur.length ≤ 4096
  len : ∀ b ∈ d.dur, b.length = d.size
  fr : ∀ i b, d.fr i = some b → i < d.dur.length ∧ b.length = d.size
  left : d.left ≤ 9223372036854775807
def new (n s : Int) : Dk := ⟨(min (max s 64) 4096).toNat, List.replicate (min (max n 1) 4096).toNat (List.replicate (min (max s 64) 4096).toNat 0), fun _ => none, false, false, 0⟩
def power (d : Dk) : Bool := !d.dead && !(d.cut && d.left == 0)
def drawn (d : Dk) : Dk := if d.dead then d else if d.cut then (if d.left = 0 then { d with dead := true } else { d with left := d.left - 1 }) else d
def put (d : Dk) (i : Nat) (b : List UInt8) : Dk := { d with fr := fun j => if j = i then some b else d.fr j }
def settle (d : Dk) : Dk := { d with dur := (List.range d.dur.length).map d.last, fr := fun _ => none }
def writeErr (d : Dk) (i : Int) (b : List UInt8) : Nat := if d.dead then 32 else if ¬ (0 ≤ i ∧ i < d.dur.length) then 30 else if b.length ≠ d.size then 31 else if d.power then 0 else 32
def write (d : Dk) (i : Int) (b : List UInt8) : Dk := if d.dead then d else if ¬ (0 ≤ i ∧ i < d.dur.length) then d else if b.length ≠ d.size then d else if d.power then d.drawn.put i.toNat b else d.drawn
def flushErr (d : Dk) : Nat := if d.power then 0 else 32
def flush (d : Dk) : Dk := if d.power then d.drawn.settle else d.drawn
def cutIn (d : Dk) (n : Int) : Dk := { d with cut := true, left := (max n 0).toNat }
def rank (fr : Nat → Option (List UInt8)) (i : Nat) : Nat := ((List.range i).filter fun j => (fr j).isSome).length
/-- What a crash leaves of the fresh bytes where nothing is torn. -/
def lose (d : Dk) (keep : Nat) : Dk := { d with fr := fun i => if keep / 2 ^ (rank d.fr i % 64) % 2 = 0 then none else d.fr i }
def crash (d : Dk) (keep : Nat) : Dk := { (d.lose keep).settle with dead := false, cut := false, left := 0 }

theorem last_len {d : Dk} (h : d.Ok) {i : Nat} (hi : i < d.dur.length) : (d.last i).length = d.size := by
  unfold last
  cases hf : d.fr i with
  | none =>
    show (d.dur.getD i []).length = _
    rw [List.getD_eq_getElem?_getD, List.getElem?_eq_getElem hi, Option.getD_some]
    exact h.len _ (List.getElem_mem hi)
  | some b => exact (h.fr i b hf).2
theorem ok_new (n s : Int) : (new n s).Ok := by
  refine ⟨?_, ?_, ?_, by simp [new], by simp [new]⟩
  · simp only [new]; omega
  · simp only [new, List.length_replicate]; omega
  · intro b hb
    simp only [new] at hb ⊢
    rw [(List.mem_replicate.1 hb).2, List.length_replicate]
theorem ok_drawn {d : Dk} (h : d.Ok) : d.drawn.Ok := by
  unfold drawn
  split
  · exact h
  · split
    · split
      · exact ⟨h.size, h.secs, h.len, h.fr, h.left⟩
      · exact ⟨h.size, h.secs, h.len, h.fr, by have := h.left; simp only []; omega⟩
    · exact h
theorem ok_put {d : Dk} (h : d.Ok) {i : Nat} {b : List UInt8} (hi : i < d.dur.length) (hb : b.length = d.size) : (d.put i b).Ok := by
  refine ⟨h.size, h.secs, h.len, fun j c hj => ?_, h.left⟩
  simp only [put] at hj ⊢
  split at hj
  · rename_i hji
    cases hj; subst hji; exact ⟨hi, hb⟩
  · exact h.fr j c hj
theorem ok_settle {d : Dk} (h : d.Ok) : d.settle.Ok := by
  refine ⟨h.size, by simpa [settle] using h.secs, fun b hb => ?_, by simp [settle], h.left⟩
  simp only [settle, List.mem_map, List.mem_range] at hb
  obtain ⟨i, hi, rfl⟩ := hb
  exact last_len h hi
theorem ok_lose {d : Dk} (h : d.Ok) (keep : Nat) : (d.lose keep).Ok := by
  refine ⟨h.size, h.secs, h.len, fun i b hb => ?_, h.left⟩
  simp only [lose] at hb ⊢
  split at hb
  · cases hb
  · exact h.fr i b hb
theorem ok_crash {d : Dk} (h : d.Ok) (keep : Nat) : (d.crash keep).Ok :=
  have h1 := ok_settle (ok_lose h keep)
  ⟨h1.size, h1.secs, h1.len, h1.fr, by simp [crash]⟩
theorem ok_cut {d : Dk} (h : d.Ok) {n : Int} (hn : n ≤ 9223372036854775807) : (d.cutIn n).Ok := ⟨h.size, h.secs, h.len, h.fr, by simp only [cutIn]; omega⟩
theorem drawn_same (d : Dk) : d.drawn.size = d.size ∧ d.drawn.dur = d.dur ∧ d.drawn.fr = d.fr := by
  unfold drawn; split
  · exact ⟨rfl, rfl, rfl⟩
  · split
    · split <;> exact ⟨rfl, rfl, rfl⟩
    · exact ⟨rfl, rfl, rfl⟩
theorem ok_write {d : Dk} (h : d.Ok) (i : Int) (b : List UInt8) : (d.write i b).Ok := by
  unfold write
  split
  · exact h
  · split
    · exact h
    · split
      · exact h
      · split
        · rename_i _ h1 h2 _
          have e := drawn_same d
          exact ok_put (ok_drawn h) (by rw [e.2.1]; omega) (by rw [e.1]; omega)
        · exact ok_drawn h
theorem ok_flush {d : Dk} (h : d.Ok) : d.flush.Ok := by
  unfold flush
  split
  · exact ok_settle (ok_drawn h)
  · exact ok_drawn h
/-! ### The numbers of the fresh sectors, in order -/
def keys (d : Dk) : List Nat := (List.range d.dur.length).filter fun j => (d.fr j).isSome
theorem rank_keys {d : Dk} {k i : Nat} (h : d.keys[k]? = some i) : rank d.fr i = k ∧ i < d.dur.length ∧ (d.fr i).isSome := by
  have hm := List.mem_of_getElem? h
  simp only [keys, List.mem_filter, List.mem_range] at hm
  refine ⟨?_, hm⟩
  obtain ⟨m, hm2⟩ : ∃ m, d.dur.length = i + 1 + m := ⟨d.dur.length - (i + 1), by omega⟩
  have hs : List.range d.dur.length = List.range i ++ i :: (List.range m).map (fun j => i + 1 + j) := by
    rw [hm2, List.range_add, List.range_succ, List.append_assoc]; rfl
  have h2 : d.keys = (List.range i).filter (fun j => (d.fr j).isSome) ++ i :: ((List.range m).map (fun j => i + 1 + j)).filter (fun j => (d.fr j).isSome) := by
    unfold keys
    rw [hs, List.filter_append, List.filter_cons, if_pos hm.2]
  have hnd : d.keys.Nodup := List.Pairwise.filter _ List.nodup_range
  have h3 : d.keys[rank d.fr i]? = some i := by rw [h2]; unfold rank; simp
  have h4 := (List.getElem?_eq_some_iff.1 h).1
  have h5 := (List.getElem?_eq_some_iff.1 h3).1
  have e1 := (List.getElem?_eq_some_iff.1 h).2
  have e2 := (List.getElem?_eq_some_iff.1 h3).2
  exact (List.getElem_inj hnd).1 (e2.trans e1.symm)
theorem keys_sorted (d : Dk) : d.keys.Pairwise (· < ·) := List.Pairwise.filter _ List.pairwise_lt_range
theorem keys_le (d : Dk) : d.keys.length ≤ d.dur.length := by
  have := List.length_filter_le (fun j => (d.fr j).isSome) (List.range d.dur.length)
  simpa [keys] using this
end Dk
/-- Two strictly rising lists of the same members are one. -/
theorem rising_eq : ∀ {l m : List Nat}, l.Pairwise (· < ·) → m.Pairwise (· < ·) → (∀ x, x ∈ l ↔ x ∈ m) → l = m
  | [], [], _, _, _ => rfl
  | [], b :: m, _, _, h => by have := (h b).2 (by simp); cases this
  | a :: l, [], _, _, h => by have := (h a).1 (by simp); cases this
  | a :: l, b :: m, hl, hm, h => by
    obtain ⟨h1, h2⟩ := List.pairwise_cons.1 hl
    obtain ⟨h3, h4⟩ := List.pairwise_cons.1 hm
    have hab : a = b := by
      rcases List.mem_cons.1 ((h a).1 (by simp)) with e | e
      · exact e
      · rcases List.mem_cons.1 ((h b).2 (by simp)) with e' | e'
        · exact e'.symm
        · have := h3 a e; have := h1 b e'; omega
    subst hab
    rw [rising_eq h2 h4 (fun x => ?_)]
    have := h x
    constructor
    · intro hx
      rcases List.mem_cons.1 (this.1 (by simp [hx])) with e | e
      · have := h1 x hx; omega
      · exact e
    · intro hx
      rcases List.mem_cons.1 (this.2 (by simp [hx])) with e | e
      · have := h3 x hx; omega
      · exact e
theorem nodup_lt : ∀ (n : Nat) (l : List Nat), l.Nodup → (∀ x ∈ l, x < n) → l.length ≤ n
  | 0, l, _, h => by
    cases l with
    | nil => simp
    | cons a r => have := h a (by simp); omega
  | n + 1, l, hd, h => by
    have h1 := nodup_lt n (l.erase n) (hd.erase n) (fun x hx => by
      have h2 := h x (List.mem_of_mem_erase hx)
      have h3 : x ≠ n := fun e => by subst e; exact (List.Nodup.not_mem_erase hd) hx
      omega)
    have h2 := List.length_erase_le (a := n) (l := l)
    by_cases hm : n ∈ l
    · have := List.length_erase_of_mem hm; omega
    · rw [List.erase_of_not_mem hm] at h1; omega
end Go.Proofs.YtgjgnieobbhepaaDoor
