/- Rows of steps in memory; append of a row that came in; runs of steps, one behind another. -/
import Derived.Test.YtgjgnieobbhepaaDoorWSettle
namespace Go.Proofs.YtgjgnieobbhepaaDoor
open Go.RowKit

def StepCells (w : World) (G : Nat → Prop) (xs : List Value) (l : List (Nat × List UInt8)) : Prop :=
  xs.length = 2 * l.length ∧ ∀ j (hj : j < l.length), xs[2 * j]? = some (.int .i64 (l[j].1 : Int)) ∧ ∃ v, xs[2 * j + 1]? = some v ∧ ElV w G v l[j].2
theorem StepCells.keep {S : List Nat} {w w' : World} {G G' : Nat → Prop} {xs : List Value} {l : List (Nat × List UInt8)} (h : StepCells w G xs l) (hk : Keeps S w w') (hS : ∀ x ∈ S, ¬ G x) (hG : ∀ x, G x → G' x) : StepCells w' G' xs l :=
  ⟨h.1, fun j hj => by
    obtain ⟨h1, v, h2, h3⟩ := h.2 j hj
    exact ⟨h1, v, h2, h3.keep hk hS hG⟩⟩
theorem StepCells.append {w : World} {G : Nat → Prop} {xs ys : List Value} {l m : List (Nat × List UInt8)} (h : StepCells w G xs l) (k : StepCells w G ys m) : StepCells w G (xs ++ ys) (l ++ m) := by
  refine ⟨by rw [List.length_append, List.length_append, h.1, k.1]; omega, fun j hj => ?_⟩
  have hx := h.1
  by_cases hl : j < l.length
  · obtain ⟨h1, v, h2, h3⟩ := h.2 j hl
    refine ⟨?_, v, ?_, ?_⟩
    · rw [List.getElem?_append_left (by omega), List.getElem_append_left hl]; exact h1
    · rw [List.getElem?_append_left (by omega)]; exact h2
    · rw [List.getElem_append_left hl]; exact h3
  · have hj' : j - l.length < m.length := by rw [List.length_append] at hj; omega
    obtain ⟨h1, v, h2, h3⟩ := k.2 (j - l.length) hj'
    refine ⟨?_, v, ?_, ?_⟩
    · rw [List.getElem?_append_right (by omega), List.getElem_append_right (by omega), show 2 * j - xs.length = 2 * (j - l.length) by omega]; exact h1
    · rw [List.getElem?_append_right (by omega), show 2 * j + 1 - xs.length = 2 * (j - l.length) + 1 by omega]; exact h2
    · rw [List.getElem_append_right (by omega)]; exact h3
theorem StepCells.one {w : World} {G : Nat → Prop} {xs : List Value} {l : List (Nat × List UInt8)} (h : StepCells w G xs l) : ∀ u ∈ xs, u.oneCell' = true := by
  intro u hu
  obtain ⟨i, hi, rfl⟩ := List.getElem_of_mem hu
  have hl := h.1
  obtain ⟨h1, v, h2, h3⟩ := h.2 (i / 2) (by omega)
  rcases Nat.mod_two_eq_zero_or_one i with e | e
  · rw [show 2 * (i / 2) = i by omega, List.getElem?_eq_getElem hi] at h1
    rw [Option.some.inj h1]; rfl
  · rw [show 2 * (i / 2) + 1 = i by omega, List.getElem?_eq_getElem hi] at h2
    rw [Option.some.inj h2]; exact h3.one
def StepsIn (w : World) (G : Nat → Prop) (A : Option Addr) (l : List (Nat × List UInt8)) : Prop :=
  (A = none ∧ l = []) ∨ ∃ b off xs, A = some ⟨b, off, none⟩ ∧ G b ∧ (∀ j u, xs[j]? = some u → w.cell? ⟨b, off + j, none⟩ = some u) ∧ StepCells w G xs l
theorem StepsIn.keep {S : List Nat} {w w' : World} {G G' : Nat → Prop} {A : Option Addr} {l : List (Nat × List UInt8)} (h : StepsIn w G A l) (hk : Keeps S w w') (hS : ∀ x ∈ S, ¬ G x) (hG : ∀ x, G x → G' x) : StepsIn w' G' A l := by
  rcases h with h | ⟨b, off, xs, h1, h2, h3, h4⟩
  · exact .inl h
  · exact .inr ⟨b, off, xs, h1, hG b h2, fun j u hu => hk.cell_some (h3 j u hu) (fun hm => hS b hm h2), h4.keep hk hS hG⟩
theorem StepsIn.at {w : World} {G : Nat → Prop} {A : Option Addr} {l : List (Nat × List UInt8)} (h : StepsIn w G A l) {k : Nat} (hk : k < l.length) : ∃ b off v, A = some ⟨b, off, none⟩ ∧ G b ∧ w.cell? ⟨b, off + k * 2, none⟩ = some (.int .i64 (l[k].1 : Int)) ∧ w.cell? ⟨b, off + k * 2 + 1, none⟩ = some v ∧ ElV w G v l[k].2 := by
  rcases h with ⟨_, rfl⟩ | ⟨b, off, xs, h1, h2, h3, h4⟩
  · simp at hk
  · obtain ⟨q1, v, q2, q3⟩ := h4.2 k hk
    have e1 := h3 _ _ q1
    have e2 := h3 _ _ q2
    rw [Nat.mul_comm] at e1
    rw [Nat.mul_comm, ← Nat.add_assoc] at e2
    exact ⟨b, off, v, h1, h2, e1, e2, q3⟩
theorem NewSteps.cells {W : Nat} {s t : Nat × List UInt8} {v : Value} {w : World} (h : NewSteps W s t v w) (hs : s.2.length ≤ maxLen) (ht : t.2.length ≤ maxLen) : ∃ xs b, v = .slice (some ⟨b, 0, none⟩) 2 2 ∧ W ≤ b ∧ b < w.heap.size ∧ StepCells w (fun x => W ≤ x ∧ x ≠ b) xs [s, t] ∧ w.ownsRow W 77 2 v 2 xs := by
  obtain ⟨b, x, y, hv, h1, h2, h3, h4, h5, h6, h7⟩ := h
  have hx : x ≠ b := by
    rintro rfl
    unfold U8At at h5
    rw [h5] at h7
    injection h7 with h8
    injection h8 with _ h9
    exact absurd h9 (by decide)
  have hy : y ≠ b := by
    rintro rfl
    unfold U8At at h6
    rw [h6] at h7
    injection h7 with h8
    injection h8 with _ h9
    exact absurd h9 (by decide)
  refine ⟨[.int .i64 (s.1 : Int), .slice (some ⟨x, 0, none⟩) s.2.length s.2.length, .int .i64 (t.1 : Int), .slice (some ⟨y, 0, none⟩) t.2.length t.2.length], b, hv, h1, h4, ⟨rfl, fun j hj => ?_⟩, ⟨rfl, .inr ⟨b, 2, _, hv, h1, h7, by omega, by unfold maxLen; omega, rfl, rfl⟩⟩⟩
  match j, hj with
  | 0, _ => exact ⟨rfl, _, rfl, some ⟨x, 0, none⟩, x, _, rfl, h5.bytes, Nat.le_refl _, hs, .inr ⟨h2, hx⟩⟩
  | 1, _ => exact ⟨rfl, _, rfl, some ⟨y, 0, none⟩, y, _, rfl, h6.bytes, Nat.le_refl _, ht, .inr ⟨h3, hy⟩⟩
theorem infoStep : (Tryd.prog.info? 77).map (fun i => (i.zero, i.size, i.bytes)) = some (some (.agg #[.int .i64 0, .slice none 0 0]), 2, 32) := by kernel_rfl
section
variable {P : Program} (w : World)
/-- append of what came in, onto a row of one's own. -/
theorem run_append_in (base : Nat) (t ty e : TypeId) (i : TypeInfo) (z : Value) (size bytes : Nat) (ht : P.underlying t = some (.slice e)) (hi : P.info? e = some i) (hz : i.zero = some z)
    (hsize : i.size = size) (hby : i.bytes = bytes) (hzs : z.cells.size = size) (hsz : 0 < size)
    (v : Value) (n : Nat) (xs : List Value) (hown : w.ownsRow base e size v n xs)
    (A : Option Addr) (m c : Nat) (news : List Value) (hl : news.length = m * size) (hA : A = none → m = 0) (hnews : ∀ ad, A = some ad → ∀ j u, news[j]? = some u → w.cell? (ad.add j) = some u) (h1 : ∀ u ∈ news, u.oneCell' = true)
    (h63 : n + m ≤ maxLen) (hbytes : (n + m) * bytes ≤ 140737488355328) (hbase : base ≤ w.heap.size) :
    ∃ v' w', (Builtin.append_ #[t, t] ty #[v, .slice A m c]).run P w = .ok v' w' ∧ w'.ownsRow base e size v' (n + m) (xs ++ news) ∧ w.grownBy w' v.ownBlock ∧ (v'.ownBlock = v.ownBlock ∨ v'.ownBlock = some w.heap.size) := by
  cases A with
  | some ad =>
    obtain ⟨v', w', h2, h3, h4, _, h5⟩ := run_append_own_at (P := P) w base t ty e i z size bytes ht hi hz hsize hby hzs hsz v n xs hown ad m c news hl (hnews ad rfl) h1 h63 hbytes hbase
    exact ⟨v', w', h2, h3, h4, h5⟩
  | none =>
    obtain rfl := hA rfl
    obtain rfl : news = [] := List.eq_nil_of_length_eq_zero (by simpa using hl)
    refine ⟨v, w, ?_, by simpa using hown, ⟨rfl, rfl, rfl, Nat.le_refl _, fun _ _ _ => rfl⟩, .inl rfl⟩
    rcases hown.2 with ⟨rfl, rfl⟩ | ⟨g, cap, cur, rfl, _, _, hnc, _⟩
    · simp [Builtin.append_, run_underlying ht, sizeOf, typeInfo, hi, Builtin.lenOf, Builtin.firstCells]
    · simp [Builtin.append_, run_underlying ht, sizeOf, typeInfo, hi, Builtin.lenOf, Builtin.firstCells, hnc, storeCells]
theorem wpList_append_in {ops : Array Oper} {rest : List Oper} {o : Oper} {a : Act} {Q : Exit → Act → World → Prop} (hgd : o.guard = none) (s x : Operand) (t : TypeId)
    (ho : o.op = .call { callee := .builtin .append, args := #[s, x], argTypes := #[t, t] })
    (base : Nat) (e : TypeId) (i : TypeInfo) (z : Value) (size bytes : Nat) (ht : P.underlying t = some (.slice e)) (hi : P.info? e = some i) (hz : i.zero = some z)
    (hsize : i.size = size) (hby : i.bytes = bytes) (hzs : z.cells.size = size) (hsz : 0 < size)
    (v : Value) (n : Nat) (xs : List Value) (hs : a.eval s = v) (hown : w.ownsRow base e size v n xs)
    (A : Option Addr) (m c : Nat) (news : List Value) (hx : a.eval x = .slice A m c) (hl : news.length = m * size) (hA : A = none → m = 0) (hnews : ∀ ad, A = some ad → ∀ j u, news[j]? = some u → w.cell? (ad.add j) = some u) (h1 : ∀ u ∈ news, u.oneCell' = true)
    (h63 : n + m ≤ maxLen) (hbytes : (n + m) * bytes ≤ 140737488355328) (hbase : base ≤ w.heap.size)
    (h : ∀ v' w', w'.ownsRow base e size v' (n + m) (xs ++ news) → w.grownBy w' v.ownBlock → (v'.ownBlock = v.ownBlock ∨ v'.ownBlock = some w.heap.size) → wpList P ops Q rest (a.put o.dst v') w') : wpList P ops Q (o :: rest) a w := by
  obtain ⟨v', w', hr, h2, h3, h4⟩ := run_append_in (P := P) w base t o.type e i z size bytes ht hi hz hsize hby hzs hsz v n xs hown A m c news hl hA hnews h1 h63 hbytes hbase
  refine wpList_plain hgd fun K hK => ?_
  unfold Oper.wp execOp
  simp only [ho, resolve, invoke, builtin, Sem.run_bind, Sem.run_pure, Result.andThen_ok, List.map_toArray, List.map_cons, List.map_nil, hs, hx, hr]
  exact hK _ _ (h v' w' h2 h3 h4)
end
theorem runSteps_append : ∀ (l m : List (Nat × List UInt8)) (d : Dk), L.runSteps d (l ++ m) = if (L.runSteps d l).1 ≠ 0 then L.runSteps d l else L.runSteps (L.runSteps d l).2 m
  | [], m, d => by rw [if_neg (by simp [L.runSteps])]; rfl
  | t :: l, m, d => by
    rw [List.cons_append, L.runSteps, L.runSteps]
    by_cases h : (L.perform d t.1 t.2).1 ≠ 0
    · rw [if_pos h, if_pos h, if_pos h]
    · rw [if_neg h, if_neg h, runSteps_append l m]
theorem runSteps_next {d : Dk} {l : List (Nat × List UInt8)} {k : Nat} (hk : k < l.length) (h0 : (L.runSteps d (l.take k)).1 = 0) : L.runSteps d (l.take (k + 1)) = L.perform (L.runSteps d (l.take k)).2 l[k].1 l[k].2 := by
  rw [List.take_succ_eq_append_getElem hk, runSteps_append, if_neg (by rw [h0]; simp)]
  simp only [L.runSteps]
  by_cases h : (L.perform (L.runSteps d (l.take k)).2 l[k].1 l[k].2).1 ≠ 0
  · rw [if_pos h]
  · rw [if_neg h]
    have : (L.perform (L.runSteps d (l.take k)).2 l[k].1 l[k].2).1 = 0 := by simpa using h
    rw [← this]
theorem runSteps_stuck {d : Dk} {l : List (Nat × List UInt8)} {k : Nat} (h : (L.runSteps d (l.take k)).1 ≠ 0) : L.runSteps d l = L.runSteps d (l.take k) := by
  conv => lhs; rw [← List.take_append_drop k l]
  rw [runSteps_append, if_pos h]
end Go.Proofs.YtgjgnieobbhepaaDoor
