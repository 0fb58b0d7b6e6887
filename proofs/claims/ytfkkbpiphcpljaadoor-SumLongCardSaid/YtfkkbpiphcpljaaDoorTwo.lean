/- Two lists that grow side by side in one statement whose order is drawn: 'l, s = append(l, x), append(s, y)'. -/
import Derived.Test.YtfkkbpiphcpljaaDoorParts
import Derived.Maps.AppendAt
namespace Go.Proofs.YtfkkbpiphcpljaaDoor.Two
open Go Go.RowKit
open Reg (lay upd Gives)

theorem lay_ne {L : Nat → Bool} {i j : Nat} (h : j ≠ i) : lay L i j = L j := by simp [lay, h]
theorem lay_self {L : Nat → Bool} {i : Nat} : lay L i i = true := by simp [lay]
theorem upd_ne {vs : Nat → Value} {i j : Nat} {v : Value} (h : j ≠ i) : upd vs i v j = vs j := by simp [upd, h]
theorem upd_self {vs : Nat → Value} {i : Nat} {v : Value} : upd vs i v i = v := by simp [upd]

/-- A row of one cell, new since N blocks. -/
def NewCell (N : Nat) (w : World) (v X : Value) : Prop := ∃ g, v = .slice (some ⟨g, 0, none⟩) 1 1 ∧ N ≤ g ∧ g < w.heap.size ∧ w.cell? ⟨g, 0, none⟩ = some X
theorem NewCell.alloc {N : Nat} {w : World} {v X : Value} (h : NewCell N w v X) (o : Obj) : NewCell N (w.alloc o) v X := by
  obtain ⟨g, hv, h1, h2, h3⟩ := h
  exact ⟨g, hv, h1, by simp; omega, by rw [World.cell?_alloc_lt w o ⟨g, 0, none⟩ h2]; exact h3⟩
theorem NewCell.grown {N : Nat} {w w' : World} {v X : Value} {row : Option Nat} (h : NewCell N w v X) (hg : w.grownBy w' row) (hr : ∀ r, row = some r → r < N) : NewCell N w' v X := by
  obtain ⟨g, hv, h1, h2, h3⟩ := h
  exact ⟨g, hv, h1, Nat.lt_of_lt_of_le h2 hg.size, hg.cell h3 (fun e => by have := hr g e.symm; omega)⟩
theorem NewCell.new {N : Nat} {w : World} {X : Value} {t : TypeId} (hN : N ≤ w.heap.size) : NewCell N (w.alloc (.cells #[X] t)) (.slice (some ⟨w.heap.size, 0, none⟩) 1 1) X :=
  ⟨_, rfl, hN, by simp, by rw [cell_new rfl]; rfl⟩

theorem own_ne {w : World} {b1 b2 e1 e2 s1 s2 n1 n2 : Nat} {v1 v2 : Value} {xs ys : List Value} (h1 : w.ownsRow b1 e1 s1 v1 n1 xs) (h2 : w.ownsRow b2 e2 s2 v2 n2 ys) (hne : e1 ≠ e2) :
    v1.ownBlock = none ∨ v1.ownBlock ≠ v2.ownBlock := by
  rcases h1.2 with ⟨rfl, _⟩ | ⟨g1, c1, cu1, rfl, _, hg1, _⟩
  · exact .inl rfl
  · rcases h2.2 with ⟨rfl, _⟩ | ⟨g2, c2, cu2, rfl, _, hg2, _⟩
    · right; simp [Value.ownBlock]
    · right
      simp only [Value.ownBlock, ne_eq, Option.some.injEq]
      intro e
      subst e
      rw [hg1] at hg2
      injection hg2 with hg2
      injection hg2 with _ ht
      exact hne ht

structure Roles where
  (iN iA iZ jN jA jZ : Nat)
  E : Nat → Option Value
def Roles.ok (r : Roles) : Prop := [r.iN, r.iA, r.iZ, r.jN, r.jA, r.jZ].Nodup ∧ r.E r.iN = none ∧ r.E r.iA = none ∧ r.E r.iZ = none ∧ r.E r.jN = none ∧ r.E r.jA = none ∧ r.E r.jZ = none

structure Inv (r : Roles) (w1 : World) (B N k e1 e2 : Nat) (lv sv X Y : Value) (xs ys : List Value) (L : Nat → Bool) (vs : Nat → Value) (w : World) : Prop where
  bel : Below B w1 w
  bas : B ≤ w.heap.size
  size : N ≤ w.heap.size
  pure : ∀ m u, r.E m = some u → L m = true → vs m = u
  newL : L r.iN = true → NewCell N w (vs r.iN) X
  newS : L r.jN = true → NewCell N w (vs r.jN) Y
  appL : L r.iA = true → w.ownsRow B e1 1 (vs r.iA) (k + 1) (xs ++ [X])
  appS : L r.jA = true → w.ownsRow B e2 1 (vs r.jA) (k + 1) (ys ++ [Y])
  preL : L r.iA = false → w.ownsRow B e1 1 lv k xs
  preS : L r.jA = false → w.ownsRow B e2 1 sv k ys
  asgL : L r.iZ = true → L r.iA = true ∧ vs r.iZ = vs r.iA
  asgS : L r.jZ = true → L r.jA = true ∧ vs r.jZ = vs r.jA

section
variable {r : Roles} {w1 : World} {B N k e1 e2 : Nat} {lv sv X Y : Value} {xs ys : List Value} {L : Nat → Bool} {vs : Nat → Value} {w : World}

/-- An operation that only computes. -/
theorem Inv.step_pure (h : Inv r w1 B N k e1 e2 lv sv X Y xs ys L vs w) {i : Nat} {u : Value} (hr : r.ok) (hE : r.E i = some u) : Inv r w1 B N k e1 e2 lv sv X Y xs ys (lay L i) (upd vs i u) w := by
  obtain ⟨-, h1, h2, h3, h4, h5, h6⟩ := hr
  have n1 : r.iN ≠ i := fun e => by rw [e, hE] at h1; cases h1
  have n2 : r.iA ≠ i := fun e => by rw [e, hE] at h2; cases h2
  have n3 : r.iZ ≠ i := fun e => by rw [e, hE] at h3; cases h3
  have n4 : r.jN ≠ i := fun e => by rw [e, hE] at h4; cases h4
  have n5 : r.jA ≠ i := fun e => by rw [e, hE] at h5; cases h5
  have n6 : r.jZ ≠ i := fun e => by rw [e, hE] at h6; cases h6
  refine ⟨h.bel, h.bas, h.size, fun m u' hm hl => ?_, ?_, ?_, ?_, ?_, ?_, ?_, ?_, ?_⟩
  · by_cases hmi : m = i
    · subst hmi; rw [upd_self]; rw [hE] at hm; exact Option.some.inj hm
    · rw [upd_ne hmi]; rw [lay_ne hmi] at hl; exact h.pure m u' hm hl
  · rw [lay_ne n1, upd_ne n1]; exact h.newL
  · rw [lay_ne n4, upd_ne n4]; exact h.newS
  · rw [lay_ne n2, upd_ne n2]; exact h.appL
  · rw [lay_ne n5, upd_ne n5]; exact h.appS
  · rw [lay_ne n2]; exact h.preL
  · rw [lay_ne n5]; exact h.preS
  · rw [lay_ne n3, lay_ne n2, upd_ne n3, upd_ne n2]; exact h.asgL
  · rw [lay_ne n6, lay_ne n5, upd_ne n6, upd_ne n5]; exact h.asgS

theorem Inv.turn (h : Inv r w1 B N k e1 e2 lv sv X Y xs ys L vs w) : Inv ⟨r.jN, r.jA, r.jZ, r.iN, r.iA, r.iZ, r.E⟩ w1 B N k e2 e1 sv lv Y X ys xs L vs w :=
  ⟨h.bel, h.bas, h.size, h.pure, h.newS, h.newL, h.appS, h.appL, h.preS, h.preL, h.asgS, h.asgL⟩
theorem Roles.ok.turn (hr : r.ok) : Roles.ok ⟨r.jN, r.jA, r.jZ, r.iN, r.iA, r.iZ, r.E⟩ := by
  obtain ⟨h0, h1, h2, h3, h4, h5, h6⟩ := hr
  refine ⟨?_, h4, h5, h6, h1, h2, h3⟩
  simp only [List.nodup_cons, List.mem_cons, List.not_mem_nil, or_false, not_or, List.nodup_nil, and_true, not_false_eq_true] at h0 ⊢
  omega

/-- A new row of one cell. -/
theorem Inv.step_newL (h : Inv r w1 B N k e1 e2 lv sv X Y xs ys L vs w) (hr : r.ok) (t : TypeId) :
    Inv r w1 B N k e1 e2 lv sv X Y xs ys (lay L r.iN) (upd vs r.iN (.slice (some ⟨w.heap.size, 0, none⟩) 1 1)) (w.alloc (.cells #[X] t)) := by
  obtain ⟨h0, h1, -⟩ := hr
  simp only [List.nodup_cons, List.mem_cons, List.not_mem_nil, or_false, not_or, List.nodup_nil, and_true, not_false_eq_true] at h0
  obtain ⟨⟨n1, n2, n3, n4, n5⟩, -⟩ := h0
  refine ⟨h.bel.alloc h.bas _, by have := h.bas; simp; omega, by have := h.size; simp; omega, fun m u' hm hl => ?_, ?_, ?_, ?_, ?_, ?_, ?_, ?_, ?_⟩
  · have hmi : m ≠ r.iN := fun e => by rw [e, h1] at hm; cases hm
    rw [upd_ne hmi]; rw [lay_ne hmi] at hl; exact h.pure m u' hm hl
  · intro _; rw [upd_self]; exact NewCell.new h.size
  · rw [lay_ne (Ne.symm n3), upd_ne (Ne.symm n3)]; exact fun hl => (h.newS hl).alloc _
  · rw [lay_ne (Ne.symm n1), upd_ne (Ne.symm n1)]; exact fun hl => (h.appL hl).alloc _
  · rw [lay_ne (Ne.symm n4), upd_ne (Ne.symm n4)]; exact fun hl => (h.appS hl).alloc _
  · rw [lay_ne (Ne.symm n1)]; exact fun hl => (h.preL hl).alloc _
  · rw [lay_ne (Ne.symm n4)]; exact fun hl => (h.preS hl).alloc _
  · rw [lay_ne (Ne.symm n2), lay_ne (Ne.symm n1), upd_ne (Ne.symm n2), upd_ne (Ne.symm n1)]; exact h.asgL
  · rw [lay_ne (Ne.symm n5), lay_ne (Ne.symm n4), upd_ne (Ne.symm n5), upd_ne (Ne.symm n4)]; exact h.asgS

/-- The append itself. -/
theorem Inv.step_appL (h : Inv r w1 B N k e1 e2 lv sv X Y xs ys L vs w) (hr : r.ok) (hne : e1 ≠ e2) (hlv : ∀ b, lv.ownBlock = some b → B ≤ b ∧ b < N) (hL : L r.iA = false) {v' : Value} {w' : World}
    (hown : w'.ownsRow B e1 1 v' (k + 1) (xs ++ [X])) (hg : w.grownBy w' lv.ownBlock) : Inv r w1 B N k e1 e2 lv sv X Y xs ys (lay L r.iA) (upd vs r.iA v') w' := by
  obtain ⟨h0, -, h2, -⟩ := hr
  simp only [List.nodup_cons, List.mem_cons, List.not_mem_nil, or_false, not_or, List.nodup_nil, and_true, not_false_eq_true] at h0
  obtain ⟨⟨n1, -⟩, ⟨m2, m3, m4, m5⟩, -⟩ := h0
  have hpre := h.preL hL
  refine ⟨h.bel.grown hg h.bas (fun b hb => (hlv b hb).1), Nat.le_trans h.bas hg.size, Nat.le_trans h.size hg.size, fun m u' hm hl => ?_, ?_, ?_, ?_, ?_, ?_, ?_, ?_, ?_⟩
  · have hmi : m ≠ r.iA := fun e => by rw [e, h2] at hm; cases hm
    rw [upd_ne hmi]; rw [lay_ne hmi] at hl; exact h.pure m u' hm hl
  · rw [lay_ne n1, upd_ne n1]; exact fun hl => (h.newL hl).grown hg fun b hb => (hlv b hb).2
  · rw [lay_ne (Ne.symm m3), upd_ne (Ne.symm m3)]; exact fun hl => (h.newS hl).grown hg fun b hb => (hlv b hb).2
  · intro _; rw [upd_self]; exact hown
  · rw [lay_ne (Ne.symm m4), upd_ne (Ne.symm m4)]; exact fun hl => (h.appS hl).kept hg (own_ne (h.appS hl) hpre (Ne.symm hne))
  · rw [lay_self]; intro hl; cases hl
  · rw [lay_ne (Ne.symm m4)]; exact fun hl => (h.preS hl).kept hg (own_ne (h.preS hl) hpre (Ne.symm hne))
  · rw [lay_ne (Ne.symm m2), lay_self, upd_ne (Ne.symm m2), upd_self]
    intro hl
    have := (h.asgL hl).1
    rw [hL] at this
    cases this
  · rw [lay_ne (Ne.symm m5), lay_ne (Ne.symm m4), upd_ne (Ne.symm m5), upd_ne (Ne.symm m4)]; exact h.asgS

theorem Inv.step_asgL (h : Inv r w1 B N k e1 e2 lv sv X Y xs ys L vs w) (hr : r.ok) (hL : L r.iA = true) : Inv r w1 B N k e1 e2 lv sv X Y xs ys (lay L r.iZ) (upd vs r.iZ (vs r.iA)) w := by
  obtain ⟨h0, -, -, h3, -⟩ := hr
  simp only [List.nodup_cons, List.mem_cons, List.not_mem_nil, or_false, not_or, List.nodup_nil, and_true, not_false_eq_true] at h0
  obtain ⟨⟨n1, n2, -⟩, ⟨m2, -⟩, ⟨l3, l4, l5⟩, -⟩ := h0
  refine ⟨h.bel, h.bas, h.size, fun m u' hm hl => ?_, ?_, ?_, ?_, ?_, ?_, ?_, ?_, ?_⟩
  · have hmi : m ≠ r.iZ := fun e => by rw [e, h3] at hm; cases hm
    rw [upd_ne hmi]; rw [lay_ne hmi] at hl; exact h.pure m u' hm hl
  · rw [lay_ne n2, upd_ne n2]; exact h.newL
  · rw [lay_ne (Ne.symm l3), upd_ne (Ne.symm l3)]; exact h.newS
  · rw [lay_ne m2, upd_ne m2]; exact h.appL
  · rw [lay_ne (Ne.symm l4), upd_ne (Ne.symm l4)]; exact h.appS
  · rw [lay_ne m2]; exact h.preL
  · rw [lay_ne (Ne.symm l4)]; exact h.preS
  · intro _; rw [lay_ne m2, upd_self, upd_ne m2]; exact ⟨hL, rfl⟩
  · rw [lay_ne (Ne.symm l5), lay_ne (Ne.symm l4), upd_ne (Ne.symm l5), upd_ne (Ne.symm l4)]; exact h.asgS

theorem Inv.step_newS (h : Inv r w1 B N k e1 e2 lv sv X Y xs ys L vs w) (hr : r.ok) (t : TypeId) :
    Inv r w1 B N k e1 e2 lv sv X Y xs ys (lay L r.jN) (upd vs r.jN (.slice (some ⟨w.heap.size, 0, none⟩) 1 1)) (w.alloc (.cells #[Y] t)) :=
  (h.turn.step_newL hr.turn t).turn
theorem Inv.step_appS (h : Inv r w1 B N k e1 e2 lv sv X Y xs ys L vs w) (hr : r.ok) (hne : e1 ≠ e2) (hsv : ∀ b, sv.ownBlock = some b → B ≤ b ∧ b < N) (hL : L r.jA = false) {v' : Value} {w' : World}
    (hown : w'.ownsRow B e2 1 v' (k + 1) (ys ++ [Y])) (hg : w.grownBy w' sv.ownBlock) : Inv r w1 B N k e1 e2 lv sv X Y xs ys (lay L r.jA) (upd vs r.jA v') w' :=
  (h.turn.step_appL hr.turn (Ne.symm hne) hsv hL hown hg).turn
theorem Inv.step_asgS (h : Inv r w1 B N k e1 e2 lv sv X Y xs ys L vs w) (hr : r.ok) (hL : L r.jA = true) : Inv r w1 B N k e1 e2 lv sv X Y xs ys (lay L r.jZ) (upd vs r.jZ (vs r.jA)) w :=
  (h.turn.step_asgL hr.turn hL).turn

theorem Inv.start {wr : World} (hb : Below B w1 wr) (hB : B ≤ wr.heap.size) (hl : wr.ownsRow B e1 1 lv k xs) (hs : wr.ownsRow B e2 1 sv k ys) {n : Nat} (hn : r.iN < n ∧ r.iA < n ∧ r.iZ < n ∧ r.jN < n ∧ r.jA < n ∧ r.jZ < n ∧ ∀ m, n ≤ m → r.E m = none) :
    Inv r w1 B wr.heap.size k e1 e2 lv sv X Y xs ys (fun j => decide (n ≤ j)) vs wr.drew := by
  obtain ⟨a1, a2, a3, a4, a5, a6, a7⟩ := hn
  refine ⟨hb.drew, hB, Nat.le_refl _, fun m u hm hl' => ?_, ?_, ?_, ?_, ?_, fun _ => hl, fun _ => hs, ?_, ?_⟩
  · rw [a7 m (by simpa using hl')] at hm; cases hm
  all_goals (intro hh; simp at hh; omega)
end

/-- append of one cell onto a row of the call's own, in a region whose order is drawn. -/
theorem gives_append {P : Program} {o : Oper} {a : Act} {w : World} {K : Value → World → Prop} (s x : Operand) (t : TypeId) (ho : o.op = .call { callee := .builtin .append, args := #[s, x], argTypes := #[t, t] })
    (base e : Nat) (i : TypeInfo) (z : Value) (bytes : Nat) (ht : P.underlying t = some (.slice e)) (hi : P.info? e = some i) (hz : i.zero = some z) (hsize : i.size = 1) (hby : i.bytes = bytes) (hzs : z.cells.size = 1)
    (v : Value) (n : Nat) (xs : List Value) (hs : a.eval s = v) (hown : w.ownsRow base e 1 v n xs) (N : Nat) (u X : Value) (hx : a.eval x = u) (hc : NewCell N w u X) (h1 : X.oneCell' = true)
    (h63 : n + 1 ≤ maxLen) (hbytes : (n + 1) * bytes ≤ 140737488355328) (hbase : base ≤ w.heap.size)
    (h : ∀ v' w', w'.ownsRow base e 1 v' (n + 1) (xs ++ [X]) → w.grownBy w' v.ownBlock → K v' w') : Gives P K ((execOp a.eval o).run P w) := by
  obtain ⟨g, hu, _, _, hcell⟩ := hc
  obtain ⟨v', w', hrun, h2, h3, -⟩ := run_append_own_at (P := P) w base t o.type e i z 1 bytes ht hi hz hsize hby hzs (by omega) v n xs hown ⟨g, 0, none⟩ 1 1 [X] rfl (by
    intro j u hj
    match j, hj with
    | 0, hj => simp at hj; subst hj; simpa [Addr.add] using hcell) (by intro u hu; simp at hu; subst hu; exact h1) h63 hbytes hbase
  unfold execOp
  simp only [ho, resolve, invoke, builtin, Sem.run_bind, Sem.run_pure, Result.andThen_ok, List.map_toArray, List.map_cons, List.map_nil, hs, hx, hu, hrun]
  exact h v' w' h2 h3
end Go.Proofs.YtfkkbpiphcpljaaDoor.Two
