/- append of records behind records. -/
import Derived.Test.YtgjgnieobbhepaaDoorWTogether
import Derived.Test.YtgjgnieobbhepaaDoorDCrash
namespace Go.Proofs.YtgjgnieobbhepaaDoor
open Go.RowKit

/-- The cells of a row of records. -/
theorem RowsIn.news {w : World} {G : Nat → Prop} {b off : Nat} {ls : List (List UInt8)} (h : RowsIn w G (some ⟨b, off, none⟩) ls) : ∃ news : List Value, news.length = ls.length ∧ (∀ j u, news[j]? = some u → w.cell? ((⟨b, off, none⟩ : Addr).add j) = some u) ∧ ∀ j (hj : j < ls.length), ∃ x, news[j]? = some x ∧ ElV w G x ls[j] := by
  rcases h with h | ⟨b', off', hA, hb, hc⟩
  · subst h; exact ⟨[], rfl, fun j u hj => by simp at hj, fun j hj => by simp at hj⟩
  · cases hA
    refine ⟨(List.range ls.length).map fun j => (w.cell? ⟨b, off + j, none⟩).getD (Value.slice none 0 0), by simp, fun j u hj => ?_, fun j hj => ?_⟩
    · have hjl : j < ls.length := by
        have := (List.getElem?_eq_some_iff.1 hj).1
        simpa using this
      obtain ⟨v, h1, _⟩ := hc j hjl
      rw [List.getElem?_map, List.getElem?_range hjl] at hj
      rw [Addr.add_lit, h1]
      simpa [h1] using hj
    · obtain ⟨v, h1, h2⟩ := hc j hj
      exact ⟨v, by rw [List.getElem?_map, List.getElem?_range hj]; simp [h1], h2⟩
theorem append_rows (w : World) (W : Nat) (v : Value) (rs ls : List (List UInt8)) (A : Option Addr) (c : Nat) (G : Nat → Prop) (h : RowsOwn w W v rs) (hx : RowsIn w G A ls) (hG : ∀ y, G y → W ≤ y ∧ v.ownBlock ≠ some y) (hA : A = none → ls = []) (hlen : rs.length + ls.length ≤ 1000000) (hW : W ≤ w.heap.size) :
    ∃ v' w', (Builtin.append_ #[28, 28] 28 #[v, .slice A ls.length c]).run Tryd.prog w = .ok v' w' ∧ RowsOwn w' W v' (rs ++ ls) ∧ w.grownBy w' v.ownBlock ∧ (v'.ownBlock = v.ownBlock ∨ v'.ownBlock = some w.heap.size) := by
  obtain ⟨iS, hS, hS0, hS1, hS2⟩ := info_parts infoSl
  obtain ⟨xs, ho, he⟩ := h
  by_cases hl0 : ls = []
  · subst hl0
    refine ⟨v, w, ?_, by rw [List.append_nil]; exact ⟨xs, ho, he⟩, World.grownBy.refl _ _, .inl rfl⟩
    rcases ho.2 with ⟨rfl, h0⟩ | ⟨g, cap, cur, rfl, _, _, hn, _⟩
    · cases A <;> simp [Builtin.append_, run_underlying Tryd.underlying28, sizeOf, typeInfo, hS, Builtin.lenOf, Builtin.firstCells, loadCells, loadCellsFrom]
    · cases A <;> simp [Builtin.append_, run_underlying Tryd.underlying28, sizeOf, typeInfo, hS, Builtin.lenOf, Builtin.firstCells, loadCells, loadCellsFrom, hn, storeCells, Result.andThen]
  · obtain ⟨b, off, rfl⟩ : ∃ b off, A = some ⟨b, off, none⟩ := by
      rcases hx with h | ⟨b, off, h, _⟩
      · exact absurd h hl0
      · exact ⟨b, off, h⟩
    obtain ⟨news, n1, n2, n3⟩ := hx.news
    have hone : ∀ u ∈ news, u.oneCell' = true := fun u hu => by
      obtain ⟨j, hj, hju⟩ := List.getElem_of_mem hu
      obtain ⟨x, h1, h2⟩ := n3 j (by omega)
      obtain ⟨A', g', cap', hv', _⟩ := h2
      have : u = x := by
        have h3 : news[j]? = some u := by rw [List.getElem?_eq_getElem hj, hju]
        rw [h3] at h1; exact Option.some.inj h1
      rw [this, hv']; rfl
    obtain ⟨v', w', hr, h2, h3, _, h5⟩ := run_append_own_at (P := Tryd.prog) w W 28 28 34 iS (.slice none 0 0) 1 24 Tryd.underlying28 hS hS0 hS1 hS2 rfl (by decide) v rs.length xs ho ⟨b, off, none⟩ ls.length c news (by omega) n2 hone (by unfold maxLen; omega) (by omega) hW
    refine ⟨v', w', hr, ?_, h3, h5⟩
    exact RowsOwn.more ho he (fun j hj => by
      obtain ⟨x, q1, q2⟩ := n3 j hj
      exact ⟨x, q1, q2.mono hG⟩) h2 h3 h5
theorem wpList_append_rows {w : World} {ops : Array Oper} {rest : List Oper} {o : Oper} {a : Act} {Q : Exit → Act → World → Prop} (hgd : o.guard = none) (s x : Operand)
    (ho : o.op = .call { callee := .builtin .append, args := #[s, x], argTypes := #[28, 28] }) (hty : o.type = 28)
    (W : Nat) (v : Value) (rs ls : List (List UInt8)) (A : Option Addr) (c : Nat) (G : Nat → Prop) (hs : a.eval s = v) (hx0 : a.eval x = .slice A ls.length c)
    (h : RowsOwn w W v rs) (hx : RowsIn w G A ls) (hG : ∀ y, G y → W ≤ y ∧ v.ownBlock ≠ some y) (hA : A = none → ls = []) (hlen : rs.length + ls.length ≤ 1000000) (hW : W ≤ w.heap.size)
    (hK : ∀ v' w', RowsOwn w' W v' (rs ++ ls) → w.grownBy w' v.ownBlock → (v'.ownBlock = v.ownBlock ∨ v'.ownBlock = some w.heap.size) → wpList Tryd.prog ops Q rest (a.put o.dst v') w') :
    wpList Tryd.prog ops Q (o :: rest) a w := by
  refine wpList_plain hgd fun K hK' => ?_
  obtain ⟨v', w', hr, h2, h3, h4⟩ := append_rows w W v rs ls A c G h hx hG hA hlen hW
  unfold Oper.wp execOp
  simp only [ho, hty, resolve, invoke, builtin, Sem.run_bind, Sem.run_pure, Result.andThen_ok, List.map_toArray, List.map_cons, List.map_nil, hs, hx0, hr]
  exact hK' _ _ (hK v' w' h2 h3 h4)

/-! ### A crash -/
theorem crash_facts {d : Dk} (ok : d.Ok) (keep : Nat) : (d.crash keep).Ok ∧ (d.crash keep).dur.length = d.dur.length ∧ (d.crash keep).size = d.size ∧ (∀ i, (d.crash keep).fr i = none) ∧ Lit_ (d.crash keep) :=
  ⟨Dk.ok_crash ok keep, by simp [Dk.crash, Dk.settle, Dk.lose], rfl, fun _ => rfl, rfl, rfl⟩
theorem crash_flat {d : Dk} (ok : d.Ok) (hf : ∀ i, d.fr i = none) (keep : Nat) : (d.crash keep).last = d.last := by
  funext i
  rcases L.mix_crash ok keep i with h | h
  · rw [h, L.last_none (hf i)]
  · rw [hf i] at h; cases h
theorem cutIn_facts {d : Dk} (ok : d.Ok) (n : Nat) (hn : n ≤ 1000) : (d.cutIn n).Ok ∧ (d.cutIn n).last = d.last ∧ (d.cutIn n).dur = d.dur ∧ (d.cutIn n).size = d.size ∧ (d.cutIn n).fr = d.fr := by
  refine ⟨⟨ok.size, ok.secs, ok.len, ok.fr, ?_⟩, rfl, rfl, rfl, rfl⟩
  show (max (n : Int) 0).toNat ≤ _
  omega
theorem flush_facts {d : Dk} (ok : d.Ok) (hf : ∀ i, d.fr i = none) : d.flush.Ok ∧ d.flush.last = d.last ∧ d.flush.dur.length = d.dur.length ∧ d.flush.size = d.size ∧ (∀ i, d.flush.fr i = none) := by
  cases hp : d.power with
  | true =>
    obtain ⟨_, h1, h2, h3, h4, _, _, h5⟩ := L.flush_flat ok hp
    exact ⟨h1, funext h5, h3, h2, h4⟩
  | false =>
    have e : d.flush = d.drawn := by unfold Dk.flush; rw [if_neg (by rw [hp]; simp)]
    obtain ⟨s1, s2, s3⟩ := Dk.drawn_same d
    refine ⟨Dk.ok_flush ok, ?_, by rw [e, s2], by rw [e, s1], fun i => by rw [e, s3]; exact hf i⟩
    funext i
    rw [e]; unfold Dk.last; rw [s2, s3]
end Go.Proofs.YtgjgnieobbhepaaDoor
