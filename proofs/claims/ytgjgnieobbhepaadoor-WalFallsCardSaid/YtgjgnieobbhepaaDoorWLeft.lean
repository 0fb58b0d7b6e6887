/- What a reader has read but not taken: a slice of its own; append onto it. -/
import Derived.Test.YtgjgnieobbhepaaDoorWSplit
import Derived.Test.YtgjgnieobbhepaaDoorRegPan
import Derived.ArgAppend
namespace Go.Proofs.YtgjgnieobbhepaaDoor
open Go.RowKit

def LeftIn (w : World) (W : Nat) (A : Option Addr) (l : List UInt8) (cap : Nat) : Prop :=
  (A = none ∧ l = [] ∧ cap = 0) ∨ ∃ g off cs, A = some ⟨g, off, none⟩ ∧ w.heap[g]? = some (.cells cs 5 (0, 0)) ∧ W ≤ g ∧ off + cap ≤ cs.size ∧ l.length ≤ cap ∧ cap ≤ maxLen ∧ ∀ k (h : k < l.length), cs[off + k]? = some (.int .u8 ((l[k].toNat : Nat) : Int))
def blocks (A : Option Addr) : List Nat := match A with | some a => [a.block] | none => []
/-- All but what lies in A's block from A on stays. -/
def Sp (S : List Nat) (A : Option Addr) (w w' : World) : Prop := Keeps (S ++ blocks A) w w' ∧ ∀ a, A = some a → ∀ j, j < a.off → w'.cell? ⟨a.block, j, none⟩ = w.cell? ⟨a.block, j, none⟩
theorem LeftIn.keep {S : List Nat} {w w' : World} {W : Nat} {A : Option Addr} {l : List UInt8} {cap : Nat} (h : LeftIn w W A l cap) (hk : Keeps S w w') (hS : ∀ x ∈ S, x < W ∨ w.heap.size ≤ x) : LeftIn w' W A l cap := by
  rcases h with h | ⟨g, off, cs, h1, h2, h3, h4⟩
  · exact .inl h
  · refine .inr ⟨g, off, cs, h1, block_keep h2 hk (fun hm => ?_), h3, h4⟩
    have := hS g hm
    have := block_lt h2
    omega
theorem LeftIn.lt {w : World} {W : Nat} {A : Option Addr} {l : List UInt8} {cap : Nat} (h : LeftIn w W A l cap) : ∀ a, A = some a → W ≤ a.block ∧ a.block < w.heap.size := by
  intro a ha
  rcases h with ⟨h, _⟩ | ⟨g, off, cs, h1, h2, h3, _⟩
  · rw [h] at ha; cases ha
  · rw [h1] at ha; cases ha; exact ⟨h3, block_lt h2⟩
theorem LeftIn.bytes {w : World} {W : Nat} {A : Option Addr} {l : List UInt8} {cap : Nat} (h : LeftIn w W A l cap) : (∃ g, BytesIn w g A l ∧ (∀ a, A = some a → g = a.block)) ∧ l.length ≤ cap ∧ cap ≤ maxLen := by
  rcases h with ⟨h, rfl, rfl⟩ | ⟨g, off, cs, rfl, h2, h3, h4, h5, h6, h7⟩
  · exact ⟨⟨0, .inl rfl, fun a e => by rw [h] at e; cases e⟩, by simp, by simp⟩
  · exact ⟨⟨g, .inr ⟨off, rfl, fun k hk => by rw [row_cell h2]; exact h7 k hk⟩, fun a e => by cases e; rfl⟩, h5, h6⟩
theorem setCells_row : ∀ (vs : List Value) (o : Nat) (w : World) (g : Nat) (cs : Array Value) (t : TypeId), w.heap[g]? = some (.cells cs t (0, 0)) → o + vs.length ≤ cs.size →
    ∃ cs', (w.setCells g o vs).heap[g]? = some (.cells cs' t (0, 0)) ∧ cs'.size = cs.size ∧ (∀ k (h : k < vs.length), cs'[o + k]? = some vs[k]) ∧ (∀ i, i < o ∨ o + vs.length ≤ i → cs'[i]? = cs[i]?) ∧ Keeps [g] w (w.setCells g o vs)
  | [], o, w, g, cs, t, h, _ => ⟨cs, h, rfl, fun k hk => by simp at hk, fun _ _ => rfl, Keeps.refl _ _⟩
  | v :: vs, o, w, g, cs, t, h, hl => by
    have hk0 : Keeps [g] w (w.setCell ⟨g, o, none⟩ v) := (Keeps.refl _ _).setCell (by simp) _
    obtain ⟨cs', h1, h2, h3, h4, h5⟩ := setCells_row vs (o + 1) (w.setCell ⟨g, o, none⟩ v) g (cs.setIfInBounds o v) t (row_set h o v) (by simp at hl ⊢; omega)
    refine ⟨cs', h1, by simpa using h2, fun k hk => ?_, fun i hi => ?_, hk0.trans h5 (fun _ h _ => h)⟩
    · rcases k with _ | k
      · rw [Nat.add_zero, h4 o (.inl (by omega))]
        have : o < cs.size := by simp at hl; omega
        simp [this]
      · have := h3 k (by simpa using hk)
        rw [show o + (k + 1) = o + 1 + k by omega]
        exact this
    · rw [h4 i (by simp at hi; omega), Array.getElem?_setIfInBounds_ne (by simp at hi; omega)]
def IsSm (A : Option Addr) : Prop := ∃ a, A = some a
def FromA (W : Nat) (A A' : Option Addr) : Prop := A' = A ∨ ∃ a, A' = some a ∧ W ≤ a.block
/-- append onto what is left. -/
theorem run_append_left {w : World} {W : Nat} {A As : Option Addr} {l b : List UInt8} {cap gs cs : Nat} (ty : TypeId) (h : LeftIn w W A l cap) (hW : W ≤ w.heap.size) (hb : BytesIn w gs As b) (hb0 : 0 < b.length) (hsz : l.length + b.length ≤ 1099511627776) :
    ∃ A' cap' w', (Builtin.append_ #[34, 34] ty #[.slice A l.length cap, .slice As b.length cs]).run Tryd.prog w = .ok (.slice A' (l ++ b).length cap') w' ∧ LeftIn w' W A' (l ++ b) cap' ∧ Sp [] A w w' ∧ (A' = A ∨ ∃ a, A' = some a ∧ w.heap.size ≤ a.block) ∧ (∃ a, A' = some a) := by
  obtain ⟨iU, hU, hU0, hU1, hU2⟩ := info_parts infoU8
  rcases hb with hb | ⟨offs, rfl, hcell⟩
  · subst hb; simp at hb0
  have hnews : ∀ j u, (u8s b)[j]? = some u → w.cell? ((⟨gs, offs, none⟩ : Addr).add j) = some u := fun j u hj => by
    have hjl : j < b.length := by have := (List.getElem?_eq_some_iff.1 hj).1; simpa [u8s] using this
    rw [u8s_get hjl] at hj
    cases hj
    rw [Addr.add_lit]
    exact hcell j hjl
  have fresh : ∀ {olds : List Value} {v' : Value} {w' : World}, olds = u8s l → w'.ownsRow w.heap.size 5 1 v' (l.length + b.length) (olds ++ u8s b) → ∃ A' cap', v' = .slice A' (l ++ b).length cap' ∧ LeftIn w' W A' (l ++ b) cap' ∧ (∃ a, A' = some a ∧ w.heap.size ≤ a.block) := by
    intro olds v' w' ho h
    subst ho
    rcases h.2 with ⟨_, h0⟩ | ⟨g, c, cur, hv, hgb, hg, hn, hm, hcs, ht⟩
    · omega
    · refine ⟨some ⟨g, 0, none⟩, c, by rw [hv, List.length_append], .inr ⟨g, 0, cur, rfl, hg, by omega, by omega, by rw [List.length_append]; exact hn, hm, fun k hk => ?_⟩, ⟨_, rfl, hgb⟩⟩
      have hk' : k < l.length + b.length := by rw [List.length_append] at hk; exact hk
      have e1 : cur.toList[k]? = (u8s (l ++ b))[k]? := by rw [u8s_append, ← ht, List.getElem?_take, if_pos (by omega)]
      rw [u8s_get hk] at e1
      rw [Nat.zero_add, ← Array.getElem?_toList]; exact e1
  rcases h with ⟨rfl, rfl, rfl⟩ | ⟨g, off, cur, rfl, hg, hgW, hoff, hlen, hcm, hcs⟩
  · obtain ⟨v', w', hrun, r1, r2, _⟩ := run_append_own (P := Tryd.prog) w w.heap.size 34 ty 5 iU (.int .u8 0) 1 1 Tryd.underlying34 hU hU0 hU1 hU2 rfl (by decide) (.slice none 0 0) 0 [] (World.ownsRow_nil w _ _ 1) ⟨gs, offs, none⟩ b.length cs (u8s b) (by simp [u8s]) hnews (u8s_one b) (by unfold maxLen; simp at hsz; omega) (by simp at hsz; omega) (Nat.le_refl _)
    obtain ⟨A', cap', rfl, q1, a, q2, q3⟩ := fresh (olds := []) rfl (by simpa using r1)
    exact ⟨A', cap', w', hrun, q1, ⟨(Keeps.of_grown r2).mono (by simp [Value.ownBlock]), fun a e => by cases e⟩, .inr ⟨a, q2, q3⟩, a, q2⟩
  · have holds : ∀ j u, (u8s l)[j]? = some u → w.cell? ((⟨g, off, none⟩ : Addr).add j) = some u := fun j u hj => by
      have hjl : j < l.length := by have := (List.getElem?_eq_some_iff.1 hj).1; simpa [u8s] using this
      rw [u8s_get hjl] at hj
      cases hj
      rw [Addr.add_lit, row_cell hg]
      exact hcs j hjl
    by_cases hroom : l.length + b.length ≤ cap
    · have hrun := run_append_room_cells (P := Tryd.prog) w 34 ty 5 iU Tryd.underlying34 hU g off l.length cap ⟨gs, offs, none⟩ b.length cs (u8s b) (by simp [u8s, hU1]) hnews (u8s_one b) hroom
        (fun j hj => by rw [hU1, row_cell hg]; simp [u8s] at hj; have : off + l.length * 1 + j < cur.size := by omega
                        simp; omega) (fun j _ => row_free hg _)
      rw [hU1, Nat.mul_one] at hrun
      obtain ⟨cs', r1, r2, r3, r4, r5⟩ := setCells_row (u8s b) (off + l.length) w g cur 5 hg (by simp [u8s]; omega)
      refine ⟨some ⟨g, off, none⟩, cap, _, by rw [List.length_append]; exact hrun, .inr ⟨g, off, cs', rfl, r1, hgW, by omega, by rw [List.length_append]; exact hroom, hcm, fun k hk => ?_⟩, ⟨by simpa [blocks] using r5, fun a e j hj => ?_⟩, .inl rfl, ⟨_, rfl⟩⟩
      · by_cases hkl : k < l.length
        · rw [r4 (off + k) (.inl (by omega)), List.getElem_append_left hkl]; exact hcs k hkl
        · have hk' : k - l.length < b.length := by rw [List.length_append] at hk; omega
          have := r3 (k - l.length) (by simpa [u8s] using hk')
          rw [show off + l.length + (k - l.length) = off + k by omega] at this
          rw [this, List.getElem_append_right (by omega)]
          simp [u8s]
      · cases e
        simp only [] at hj
        rw [row_cell r1, row_cell hg]
        exact r4 j (.inl (by omega))
    · obtain ⟨v', w', hrun, r1, r2⟩ := run_append_arg_grows (P := Tryd.prog) w 34 ty 5 iU (.int .u8 0) 1 1 Tryd.underlying34 hU hU0 hU1 hU2 rfl (by decide) ⟨g, off, none⟩ l.length cap (u8s l) (by simp [u8s]) holds ⟨gs, offs, none⟩ b.length cs (u8s b) (by simp [u8s]) hnews (by omega) (by unfold maxLen; omega) (by omega)
      obtain ⟨A', cap', rfl, q1, a, q2, q3⟩ := fresh (olds := u8s l) rfl r1
      refine ⟨A', cap', w', hrun, q1, ⟨(Keeps.of_grown r2).mono (by simp), fun a' e j hj => ?_⟩, .inr ⟨a, q2, q3⟩, a, q2⟩
      cases e
      exact ((Keeps.of_grown r2).cell (p := ⟨g, j, none⟩) (block_lt hg) (by simp))
section
variable {ops : Array Oper} {rest : List Oper} {o : Oper} {a : Act} {Q : Exit → Act → World → Prop} {w : World}
theorem wpList_append_left (hgd : o.guard = none) (s x : Operand) (ho : o.op = .call { callee := .builtin .append, args := #[s, x], argTypes := #[34, 34] }) (W : Nat) (A As : Option Addr) (l b : List UInt8) (cap gs cs : Nat)
    (hs : a.eval s = .slice A l.length cap) (hx : a.eval x = .slice As b.length cs) (h : LeftIn w W A l cap) (hW : W ≤ w.heap.size) (hb : BytesIn w gs As b) (hb0 : 0 < b.length) (hsz : l.length + b.length ≤ 1099511627776)
    (hK : ∀ A' cap' w', LeftIn w' W A' (l ++ b) cap' → Sp [] A w w' → FromA w.heap.size A A' → IsSm A' → wpList Tryd.prog ops Q rest (a.put o.dst (.slice A' (l ++ b).length cap')) w') : wpList Tryd.prog ops Q (o :: rest) a w := by
  obtain ⟨A', cap', w', hr, h1, h2, h3, h4⟩ := run_append_left (cs := cs) o.type h hW hb hb0 hsz
  refine wpList_plain hgd fun K hK' => ?_
  unfold Oper.wp execOp
  simp only [ho, resolve, invoke, builtin, Sem.run_bind, Sem.run_pure, Result.andThen_ok, List.map_toArray, List.map_cons, List.map_nil, hs, hx, hr]
  exact hK' _ _ (hK A' cap' w' h1 h2 h3 h4)
end
end Go.Proofs.YtgjgnieobbhepaaDoor
