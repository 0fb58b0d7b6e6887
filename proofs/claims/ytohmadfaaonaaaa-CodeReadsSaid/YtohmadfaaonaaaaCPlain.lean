/- plain: intervals that say nothing without bounds. -/
import Derived.Test.YtohmadfaaonaaaaCSumM
import Derived.Deep.Upon
namespace Go.Proofs.Ytohmadfaaonaaaa
open Go.RowKit

theorem nmCells_one (ms : List Nm) : ∀ u ∈ nmCells ms, u.oneCell' = true := by
  intro u hu
  obtain ⟨m, _, hm⟩ := List.mem_flatMap.1 hu
  simp at hm
  rcases hm with rfl | rfl | rfl | rfl <;> rfl
theorem nmCells_length : ∀ (ms : List Nm), (nmCells ms).length = ms.length * 4
  | [] => rfl
  | a :: r => by have := nmCells_length r; simp only [nmCells, List.flatMap_cons, List.length_append, List.length_cons, List.length_nil] at this ⊢; omega
theorem nmCells_at {w : World} {h : Nat} {A : Addr} {ms : List Nm} (hr : NmsIn w h (some A) ms) : ∀ j u, (nmCells ms)[j]? = some u → w.cell? (A.add j) = some u := by
  intro j u hj
  have hjl : j < ms.length * 4 := by rw [← nmCells_length]; exact (List.getElem?_eq_some_iff.1 hj).1
  rcases hr with h0 | ⟨off, h1, hc⟩
  · subst h0; simp at hjl
  · obtain rfl := Option.some.inj h1
    have hk : j / 4 < ms.length := by omega
    obtain ⟨e0, e1, e2, e3⟩ := nmCells_get ms (j / 4) hk
    obtain ⟨c0, c1, c2, c3⟩ := hc (j / 4) hk
    rw [Addr.add_lit]
    rcases (show j = j / 4 * 4 ∨ j = j / 4 * 4 + 1 ∨ j = j / 4 * 4 + 2 ∨ j = j / 4 * 4 + 3 by omega) with h | h | h | h
    · rw [h] at hj ⊢; rw [e0] at hj; rw [← hj]; exact c0
    · rw [h] at hj ⊢; rw [e1] at hj; rw [← hj]; exact c1
    · rw [h] at hj ⊢; rw [e2] at hj; rw [← hj]; exact c2
    · rw [h] at hj ⊢; rw [e3] at hj; rw [← hj]; exact c3
/-- A copy of a list of names. -/
theorem run_append_nms (w : World) (h : Nat) (A : Option Addr) (ms : List Nm) (cap : Nat) (ty : TypeId) (hr : NmsIn w h A ms) (hl : ms.length ≤ 1000000) :
    ∃ v' w', (Builtin.append_ #[33, 33] ty #[.slice none 0 0, .slice A ms.length cap]).run Try.prog w = .ok v' w' ∧ w'.ownsRow w.heap.size 87 4 v' ms.length (nmCells ms) ∧ Keeps [] w w' := by
  obtain ⟨iN, hN, hN0, hN1, hN2⟩ := info_parts infoNm
  rcases A with _ | a
  · have h0 : ms = [] := by
      rcases hr with h | ⟨off, h, _⟩
      · exact h
      · cases h
    subst h0
    exact ⟨_, w, run_append_nothing w _ _ ty 87 iN Try.underlying33 hN none 0 0 (Nat.le_refl _) _ (Src.ofNil w Try.underlying33 cap), World.ownsRow_nil _ _ _ _, Keeps.refl _ _⟩
  · obtain ⟨v', w', hrun, q1, q2, _⟩ := run_append_own_at (P := Try.prog) w w.heap.size 33 ty 87 iN (.agg #[.string .empty, .bool false, .int .i64 0, .int .i64 0]) 4 40 Try.underlying33 hN hN0 hN1 hN2 rfl (by decide)
      (.slice none 0 0) 0 [] (World.ownsRow_nil _ _ _ _) a ms.length cap (nmCells ms) (nmCells_length ms) (nmCells_at hr) (nmCells_one ms) (by unfold maxLen; omega) (by omega) (Nat.le_refl _)
    exact ⟨v', w', hrun, by simpa using q1, Keeps.of_grown (row := none) q2⟩
theorem wpList_append_nms (w : World) {ops : Array Oper} {rest : List Oper} {o : Oper} {a : Act} {Q : Exit → Act → World → Prop} (hgd : o.guard = none) (s x : Operand)
    (ho : o.op = .call { callee := .builtin .append, args := #[s, x], argTypes := #[33, 33] }) (h : Nat) (A : Option Addr) (ms : List Nm) (cap : Nat) (hs : a.eval s = .slice none 0 0) (hx : a.eval x = .slice A ms.length cap) (hr : NmsIn w h A ms) (hl : ms.length ≤ 1000000)
    (hK : ∀ v' w', w'.ownsRow w.heap.size 87 4 v' ms.length (nmCells ms) → Keeps [] w w' → wpList Try.prog ops Q rest (a.put o.dst v') w') : wpList Try.prog ops Q (o :: rest) a w := by
  refine wpList_plain hgd fun K hK' => ?_
  obtain ⟨v', w', hrun, h2, h3⟩ := run_append_nms w h A ms cap o.type hr hl
  unfold Oper.wp execOp
  simp only [ho, resolve, invoke, builtin, Sem.run_bind, Sem.run_pure, Result.andThen_ok, List.map_toArray, List.map_cons, List.map_nil, hs, hx, hrun]
  exact hK' _ _ (hK v' w' h2 h3)

def PlainAt (Aa : Option Addr) (ca : Nat) (s : Sm) (w : World) (e : Ending) (w' : World) : Prop :=
  ∃ h2 Am cm, e = .returned (.agg #[.slice Aa s.alarms.length ca, .bool s.ends, .bool (M.Iv.plain s.ret).some, .int .i64 (M.Iv.plain s.ret).lo, .int .i64 (M.Iv.plain s.ret).hi, .slice Am s.mod.length cm]) ∧ NmsIn w' h2 Am (s.mod.map M.Nm.plain) ∧ w.heap.size ≤ h2 ∧ Keeps [] w w'

/-- The world behind the boxes of the argument and of the result. -/
def PB (w : World) (cs : Array Value) (t : TypeId) : World := (w.alloc (.cells cs t)).alloc (.cells #[.slice none 0 0, .bool false, .bool false, .int .i64 0, .int .i64 0, .slice none 0 0] 35)
theorem PB.keeps (w : World) (cs : Array Value) (t : TypeId) : Keeps [] w (PB w cs t) := ((Keeps.refl [] w).alloc _).alloc _
theorem PB.box (w : World) (cs : Array Value) (t : TypeId) : (PB w cs t).heap[w.heap.size]? = some (.cells cs t (0, 0)) := by
  exact block_keep (heap_alloc_new w _) ((Keeps.refl [] _).alloc _) (by simp)
theorem PB.out (w : World) (cs : Array Value) (t : TypeId) : (PB w cs t).heap[w.heap.size + 1]? = some (.cells #[.slice none 0 0, .bool false, .bool false, .int .i64 0, .int .i64 0, .slice none 0 0] 35 (0, 0)) := by
  have := heap_alloc_new (w.alloc (.cells cs t)) (.cells #[.slice none 0 0, .bool false, .bool false, .int .i64 0, .int .i64 0, .slice none 0 0] 35)
  have hs : (w.alloc (.cells cs t)).heap.size = w.heap.size + 1 := by simp
  rw [hs] at this
  exact this
theorem PB.size (w : World) (cs : Array Value) (t : TypeId) : (PB w cs t).heap.size = w.heap.size + 2 := by simp [PB]
/-- A name at an offset. -/
def NmAt (w : World) (g o : Nat) (m : Nm) : Prop := w.cell? ⟨g, o, none⟩ = some (.string m.name) ∧ w.cell? ⟨g, o + 1, none⟩ = some (.bool m.v.some) ∧ w.cell? ⟨g, o + 2, none⟩ = some (.int .i64 m.v.lo) ∧ w.cell? ⟨g, o + 3, none⟩ = some (.int .i64 m.v.hi)
/-- Behind k rounds of plain. -/
def PL (w wr : World) (g : Nat) (Aa : Option Addr) (ca n : Nat) (ends : Bool) (iv : Iv) (A1 : Option Addr) (c1 : Nat) (ms : List Nm) (k : Nat) : Prop :=
  Keeps [] w wr ∧ wr.heap[w.heap.size]? = some (.cells #[.slice Aa n ca, .bool ends, .bool iv.some, .int .i64 iv.lo, .int .i64 iv.hi, .slice A1 ms.length c1] 35 (0, 0)) ∧
  wr.heap[w.heap.size + 1]? = some (.cells #[.slice none 0 0, .bool false, .bool false, .int .i64 0, .int .i64 0, .slice none 0 0] 35 (0, 0)) ∧
  (ms = [] ∨ (A1 = some ⟨g, 0, none⟩ ∧ ∀ o, wr.frozen? ⟨g, o, none⟩ = false)) ∧ w.heap.size + 2 ≤ g ∧ ∀ j (hj : j < ms.length), NmAt wr g (j * 4) (if j < k then M.Nm.plain ms[j] else ms[j])
section
variable {w wr w2 w' : World} {g : Nat} {Aa : Option Addr} {ca n : Nat} {ends : Bool} {iv : Iv} {A1 : Option Addr} {c1 : Nat} {ms : List Nm} {k : Nat}
theorem PL.start (Aa : Option Addr) (ca n : Nat) (ends : Bool) (iv : Iv) (Am : Option Addr) (cm : Nat) (ms : List Nm) {A1 : Option Addr} {c1 : Nat} (q1 : w2.ownsRow (w.heap.size + 1 + 1) 87 4 (.slice A1 ms.length c1) ms.length (nmCells ms))
    (q2 : Keeps [] (PB w #[.slice Aa n ca, .bool ends, .bool iv.some, .int .i64 iv.lo, .int .i64 iv.hi, .slice Am ms.length cm] 35) w2) : ∃ g, PL w (w2.setCell ⟨w.heap.size, 5, none⟩ (.slice A1 ms.length c1)) g Aa ca n ends iv A1 c1 ms 0 := by
  have hb := block_keep (PB.box w _ _) q2 (by simp)
  have ho := block_keep (PB.out w _ _) q2 (by simp)
  have hkw := (PB.keeps w _ _).trans q2 (by simp)
  have hst : Keeps [w.heap.size] w2 (w2.setCell ⟨w.heap.size, 5, none⟩ (.slice A1 ms.length c1)) := (Keeps.refl _ _).setCell (by simp) _
  have hk2 : Keeps [] w (w2.setCell ⟨w.heap.size, 5, none⟩ (.slice A1 ms.length c1)) := hkw.setCell (fun h => by simp at h) _
  have hb2 := row_set hb 5 (.slice A1 ms.length c1)
  have ho2 := block_keep ho hst (by simp)
  rcases q1.2 with ⟨hv, h0⟩ | ⟨g', cap', cur, hv, hbg, hg, _⟩
  · have hms : ms = [] := List.eq_nil_of_length_eq_zero h0
    exact ⟨w.heap.size + 2, hk2, hb2, ho2, .inl hms, Nat.le_refl _, fun j hj => by omega⟩
  · have hA : A1 = some ⟨g', 0, none⟩ := by cases hv; rfl
    refine ⟨g', hk2, hb2, ho2, .inr ⟨hA, fun o => ?_⟩, hbg, fun j hj => ?_⟩
    · rw [World.frozen?_setCell]; simp [World.frozen?, hg]
    · rw [if_neg (Nat.not_lt_zero j)]
      obtain ⟨e0, e1, e2, e3⟩ := nmCells_get ms j hj
      have hc := q1.cells (g := g') (by rw [hA]; rfl)
      have a0 := hc _ _ e0
      have a1 := hc _ _ e1
      have a2 := hc _ _ e2
      have a3 := hc _ _ e3
      rw [Addr.add_lit, Nat.zero_add] at a0 a1 a2 a3
      have hn : g' ∉ [w.heap.size] := by simp; omega
      exact ⟨hst.cell_some a0 hn, hst.cell_some a1 hn, hst.cell_some a2 hn, hst.cell_some a3 hn⟩
theorem PL.next (h : PL w wr g Aa ca n ends iv A1 c1 ms k) (hk : k < ms.length) (hs : ms[k].v.some = true) : PL w wr g Aa ca n ends iv A1 c1 ms (k + 1) := by
  obtain ⟨h1, h2, h3, h4, h5, h6⟩ := h
  refine ⟨h1, h2, h3, h4, h5, fun j hj => ?_⟩
  have := h6 j hj
  by_cases hjk : j = k
  · subst hjk
    rw [if_neg (Nat.lt_irrefl j)] at this
    rw [if_pos (Nat.lt_succ_self j)]
    have e : M.Nm.plain ms[j] = ms[j] := by unfold M.Nm.plain M.Iv.plain; rw [if_pos hs]
    rw [e]; exact this
  · by_cases hlt : j < k
    · rw [if_pos hlt] at this; rw [if_pos (by omega)]; exact this
    · rw [if_neg hlt] at this; rw [if_neg (by omega)]; exact this
theorem far_ne {g o o' : Nat} (h : o' ≠ o) : (⟨g, o', none⟩ : Addr) ≠ ⟨g, o, none⟩ := fun e => h (congrArg Addr.off e)
theorem NmAt.far {m : Nm} {g o o' : Nat} {u : Value} (h : NmAt w g o m) (hne : o' < o ∨ o + 4 ≤ o') : NmAt (w.setCell ⟨g, o', none⟩ u) g o m := by
  obtain ⟨a, b, c, d⟩ := h
  exact ⟨by rw [World.cell?_setCell_other _ _ _ _ (far_ne (by omega))]; exact a, by rw [World.cell?_setCell_other _ _ _ _ (far_ne (by omega))]; exact b, by rw [World.cell?_setCell_other _ _ _ _ (far_ne (by omega))]; exact c, by rw [World.cell?_setCell_other _ _ _ _ (far_ne (by omega))]; exact d⟩
theorem PL.next2 (h : PL w wr g Aa ca n ends iv A1 c1 ms k) (hk : k < ms.length) (hs : ms[k].v.some = false) : PL w (((wr.setCell ⟨g, k * 4 + 1, none⟩ (.bool false)).setCell ⟨g, k * 4 + 2, none⟩ (.int .i64 0)).setCell ⟨g, k * 4 + 3, none⟩ (.int .i64 0)) g Aa ca n ends iv A1 c1 ms (k + 1) := by
  obtain ⟨h1, h2, h3, h4, h5, h6⟩ := h
  have hst : Keeps [g] wr (((wr.setCell ⟨g, k * 4 + 1, none⟩ (.bool false)).setCell ⟨g, k * 4 + 2, none⟩ (.int .i64 0)).setCell ⟨g, k * 4 + 3, none⟩ (.int .i64 0)) := (((Keeps.refl _ _).setCell (by simp) _).setCell (by simp) _).setCell (by simp) _
  refine ⟨h1.trans hst (fun x hx hl => by simp at hx; omega), block_keep h2 hst (by simp; omega), block_keep h3 hst (by simp; omega), h4.imp id (fun h => ⟨h.1, fun o => by simp only [World.frozen?_setCell]; exact h.2 o⟩), h5, fun j hj => ?_⟩
  have := h6 j hj
  by_cases hjk : j = k
  · subst hjk
    rw [if_neg (Nat.lt_irrefl j)] at this
    rw [if_pos (Nat.lt_succ_self j)]
    have e : M.Nm.plain ms[j] = ⟨ms[j].name, ⟨false, 0, 0⟩⟩ := by unfold M.Nm.plain M.Iv.plain; rw [if_neg (by rw [hs]; decide)]
    rw [e]
    obtain ⟨a, b, c, d⟩ := this
    refine ⟨?_, ?_, ?_, ?_⟩
    · rw [World.cell?_setCell_other _ _ _ _ (by simp), World.cell?_setCell_other _ _ _ _ (by simp), World.cell?_setCell_other _ _ _ _ (by simp)]; exact a
    · rw [World.cell?_setCell_other _ _ _ _ (by simp), World.cell?_setCell_other _ _ _ _ (by simp)]; exact World.cell?_setCell_same _ _ _ b
    · rw [World.cell?_setCell_other _ _ _ _ (by simp)]
      exact World.cell?_setCell_same _ _ _ (u := .int .i64 ms[j].v.lo) (by rw [World.cell?_setCell_other _ _ _ _ (by simp)]; exact c)
    · exact World.cell?_setCell_same _ _ _ (u := .int .i64 ms[j].v.hi) (by rw [World.cell?_setCell_other _ _ _ _ (by simp), World.cell?_setCell_other _ _ _ _ (by simp)]; exact d)
  · have h7 : NmAt wr g (j * 4) (if j < k + 1 then M.Nm.plain ms[j] else ms[j]) := by
      by_cases hlt : j < k
      · rw [if_pos hlt] at this; rw [if_pos (by omega)]; exact this
      · rw [if_neg hlt] at this; rw [if_neg (by omega)]; exact this
    exact ((h7.far (by omega)).far (by omega)).far (by omega)
theorem PL.done {als : List Al} {ms : List Nm} {ret : Iv} (h : PL w wr g Aa ca als.length ends (M.Iv.plain ret) A1 c1 ms ms.length) (hst : Keeps [w.heap.size + 1] wr w') :
    PlainAt Aa ca ⟨als, ends, ret, ms⟩ w (.returned (.agg #[.slice Aa als.length ca, .bool ends, .bool (M.Iv.plain ret).some, .int .i64 (M.Iv.plain ret).lo, .int .i64 (M.Iv.plain ret).hi, .slice A1 ms.length c1])) w' := by
  obtain ⟨h1, h2, h3, h4, h5, h6⟩ := h
  refine ⟨g, A1, c1, rfl, ?_, by omega, h1.trans hst (fun x hx hl => by simp at hx; omega)⟩
  rcases h4 with h4 | ⟨rfl, _⟩
  · subst h4; exact .inl rfl
  · refine .inr ⟨0, rfl, fun j hj => ?_⟩
    have hj' : j < ms.length := by simpa using hj
    have := h6 j hj'
    rw [if_pos hj'] at this
    obtain ⟨a, b, c, d⟩ := this
    have hn : g ∉ [w.heap.size + 1] := by simp; omega
    simp only [List.getElem_map, Nat.zero_add]
    exact ⟨hst.cell_some a hn, hst.cell_some b hn, hst.cell_some c hn, hst.cell_some d hn⟩
end

set_option maxHeartbeats 4000000 in
set_option maxRecDepth 100000 in
theorem plain_any (w : World) (h2 : Nat) (Aa Am : Option Addr) (ca cm : Nat) (s : Sm) (hr : NmsIn w h2 Am s.mod) (hl : s.mod.length ≤ 1000000) :
    Calls Try.prog 34 #[.agg #[.slice Aa s.alarms.length ca, .bool s.ends, .bool s.ret.some, .int .i64 s.ret.lo, .int .i64 s.ret.hi, .slice Am s.mod.length cm]] w (PlainAt Aa ca s w) := by
  obtain ⟨als, ends, ⟨rs, rlo, rhi⟩, ms⟩ := s
  simp only [] at hr hl
  have HR := Lib.hid hr
  clear hr
  cases rs with
  | false =>
    go_enter Try.func34, Try.ntmps34
    go_wp2_with (at_builtin; refine wpList_append_nms _ rfl _ _ rfl h2 Am ms cm rfl rfl (HR.out.keep (PB.keeps w _ _) (by simp)) hl ?_)
    intro v1 w2 q1 q2
    obtain ⟨A1, c1, rfl⟩ := own_sl q1
    have hpl := PL.start Aa ca als.length ends ⟨false, 0, 0⟩ Am cm ms q1 q2
    have hb2 := block_keep (PB.box w #[.slice Aa als.length ca, .bool ends, .bool (⟨false, 0, 0⟩ : Iv).some, .int .i64 (⟨false, 0, 0⟩ : Iv).lo, .int .i64 (⟨false, 0, 0⟩ : Iv).hi, .slice Am ms.length cm] _) q2 (by simp)
    have b5 : w2.cell? ⟨w.heap.size, 5, none⟩ = some (.slice Am ms.length cm) := row_cell hb2 5
    have g5 := row_free hb2 5
    have HPL := Lib.hid hpl
    clear q1 q2 hpl hb2
    go_wp2_with fail
    go_loopw [3] (fun i wr => ∃ (k g : Nat), k ≤ ms.length ∧ i = .int .i64 (k : Int) ∧ PL w wr g Aa ca als.length ends ⟨false, 0, 0⟩ A1 c1 ms k) (fun i _ => ms.length - (intOf i).toNat)
    case atStart =>
      obtain ⟨g, hg⟩ := HPL.out
      exact ⟨0, g, Nat.zero_le _, rfl, hg⟩
    case round =>
      obtain ⟨k, g, hk, rfl, hpl⟩ := hrel
      have HP := Lib.hid hpl
      have c5 : wr.cell? ⟨w.heap.size, 5, none⟩ = some (.slice A1 ms.length c1) := row_cell hpl.2.1 5
      by_cases hlt : k < ms.length
      · rcases hpl.2.2.2.1 with h0 | ⟨rfl, hfz⟩
        · rw [h0] at hlt; simp at hlt
        · have hat := hpl.2.2.2.2.2 k hlt
          rw [if_neg (Nat.lt_irrefl k)] at hat
          obtain ⟨n0, n1, n2, n3⟩ := hat
          have fz1 := hfz (k * 4 + 1)
          have fz2 := hfz (k * 4 + 2)
          have fz3 := hfz (k * 4 + 3)
          have HNX := Lib.hid (PL.next hpl hlt)
          have HN2 := Lib.hid (PL.next2 hpl hlt)
          obtain ⟨⟨nm, ⟨sm, lo, hi⟩⟩, hmk⟩ : ∃ m, m = ms[k] := ⟨_, rfl⟩
          rw [← hmk] at n0 n1 n2 n3 HNX HN2
          simp only [] at n0 n1 n2 n3
          clear hpl hfz hmk
          cases sm with
          | true =>
            go_wp2_with fail
            go_roundw
            case rel => exact ⟨k + 1, g, by omega, by go_num, HNX.out rfl⟩
            case measure => simp [intOf]; omega
          | false =>
            go_wp2_with fail
            go_roundw
            case rel => exact ⟨k + 1, g, by omega, by go_num, HN2.out rfl⟩
            case measure => simp [intOf]; omega
      · have hb := hpl.2.1
        have hbr := hpl.2.2.1
        have c0 : wr.cell? ⟨w.heap.size, 0, none⟩ = some (.slice Aa als.length ca) := row_cell hb 0
        have k1 : wr.cell? ⟨w.heap.size, 1, none⟩ = some (.bool ends) := row_cell hb 1
        have c2 : wr.cell? ⟨w.heap.size, 2, none⟩ = some (.bool (⟨false, 0, 0⟩ : Iv).some) := row_cell hb 2
        have c3 : wr.cell? ⟨w.heap.size, 3, none⟩ = some (.int .i64 (⟨false, 0, 0⟩ : Iv).lo) := row_cell hb 3
        have c4 : wr.cell? ⟨w.heap.size, 4, none⟩ = some (.int .i64 (⟨false, 0, 0⟩ : Iv).hi) := row_cell hb 4
        have d0 : wr.cell? ⟨w.heap.size + 1, 0, none⟩ = some (.slice none 0 0) := row_cell hbr 0
        have d1 : wr.cell? ⟨w.heap.size + 1, 1, none⟩ = some (.bool false) := row_cell hbr 1
        have d2 : wr.cell? ⟨w.heap.size + 1, 2, none⟩ = some (.bool false) := row_cell hbr 2
        have d3 : wr.cell? ⟨w.heap.size + 1, 3, none⟩ = some (.int .i64 0) := row_cell hbr 3
        have d4 : wr.cell? ⟨w.heap.size + 1, 4, none⟩ = some (.int .i64 0) := row_cell hbr 4
        have d5 : wr.cell? ⟨w.heap.size + 1, 5, none⟩ = some (.slice none 0 0) := row_cell hbr 5
        have f0 := row_free hbr 0
        have f1 := row_free hbr 1
        have f2 := row_free hbr 2
        have f3 := row_free hbr 3
        have f4 := row_free hbr 4
        have f5 := row_free hbr 5
        have hkn : k = ms.length := by omega
        clear hpl hb hbr
        simp only [] at c2 c3 c4
        go_wp2_with fail
        refine bodyPost_ret (v := .agg #[.slice Aa als.length ca, .bool ends, .bool (⟨false, 0, 0⟩ : Iv).some, .int .i64 (⟨false, 0, 0⟩ : Iv).lo, .int .i64 (⟨false, 0, 0⟩ : Iv).hi, .slice A1 ms.length c1]) (by simp [results, Try.results34, go_sem, d0, d1, d2, d3, d4, d5]) rfl ?_
        subst hkn
        exact PL.done HP.out (six_keep _ _ _ _ _ _ _)
  | true =>
    go_enter Try.func34, Try.ntmps34
    go_wp2_with (at_builtin; refine wpList_append_nms _ rfl _ _ rfl h2 Am ms cm rfl rfl (HR.out.keep (PB.keeps w _ _) (by simp)) hl ?_)
    intro v1 w2 q1 q2
    obtain ⟨A1, c1, rfl⟩ := own_sl q1
    have hpl := PL.start Aa ca als.length ends ⟨true, rlo, rhi⟩ Am cm ms q1 q2
    have hb2 := block_keep (PB.box w #[.slice Aa als.length ca, .bool ends, .bool (⟨true, rlo, rhi⟩ : Iv).some, .int .i64 (⟨true, rlo, rhi⟩ : Iv).lo, .int .i64 (⟨true, rlo, rhi⟩ : Iv).hi, .slice Am ms.length cm] _) q2 (by simp)
    have b5 : w2.cell? ⟨w.heap.size, 5, none⟩ = some (.slice Am ms.length cm) := row_cell hb2 5
    have g5 := row_free hb2 5
    have HPL := Lib.hid hpl
    clear q1 q2 hpl hb2
    go_wp2_with fail
    go_loopw [3] (fun i wr => ∃ (k g : Nat), k ≤ ms.length ∧ i = .int .i64 (k : Int) ∧ PL w wr g Aa ca als.length ends ⟨true, rlo, rhi⟩ A1 c1 ms k) (fun i _ => ms.length - (intOf i).toNat)
    case atStart =>
      obtain ⟨g, hg⟩ := HPL.out
      exact ⟨0, g, Nat.zero_le _, rfl, hg⟩
    case round =>
      obtain ⟨k, g, hk, rfl, hpl⟩ := hrel
      have HP := Lib.hid hpl
      have c5 : wr.cell? ⟨w.heap.size, 5, none⟩ = some (.slice A1 ms.length c1) := row_cell hpl.2.1 5
      by_cases hlt : k < ms.length
      · rcases hpl.2.2.2.1 with h0 | ⟨rfl, hfz⟩
        · rw [h0] at hlt; simp at hlt
        · have hat := hpl.2.2.2.2.2 k hlt
          rw [if_neg (Nat.lt_irrefl k)] at hat
          obtain ⟨n0, n1, n2, n3⟩ := hat
          have fz1 := hfz (k * 4 + 1)
          have fz2 := hfz (k * 4 + 2)
          have fz3 := hfz (k * 4 + 3)
          have HNX := Lib.hid (PL.next hpl hlt)
          have HN2 := Lib.hid (PL.next2 hpl hlt)
          obtain ⟨⟨nm, ⟨sm, lo, hi⟩⟩, hmk⟩ : ∃ m, m = ms[k] := ⟨_, rfl⟩
          rw [← hmk] at n0 n1 n2 n3 HNX HN2
          simp only [] at n0 n1 n2 n3
          clear hpl hfz hmk
          cases sm with
          | true =>
            go_wp2_with fail
            go_roundw
            case rel => exact ⟨k + 1, g, by omega, by go_num, HNX.out rfl⟩
            case measure => simp [intOf]; omega
          | false =>
            go_wp2_with fail
            go_roundw
            case rel => exact ⟨k + 1, g, by omega, by go_num, HN2.out rfl⟩
            case measure => simp [intOf]; omega
      · have hb := hpl.2.1
        have hbr := hpl.2.2.1
        have c0 : wr.cell? ⟨w.heap.size, 0, none⟩ = some (.slice Aa als.length ca) := row_cell hb 0
        have k1 : wr.cell? ⟨w.heap.size, 1, none⟩ = some (.bool ends) := row_cell hb 1
        have c2 : wr.cell? ⟨w.heap.size, 2, none⟩ = some (.bool (⟨true, rlo, rhi⟩ : Iv).some) := row_cell hb 2
        have c3 : wr.cell? ⟨w.heap.size, 3, none⟩ = some (.int .i64 (⟨true, rlo, rhi⟩ : Iv).lo) := row_cell hb 3
        have c4 : wr.cell? ⟨w.heap.size, 4, none⟩ = some (.int .i64 (⟨true, rlo, rhi⟩ : Iv).hi) := row_cell hb 4
        have d0 : wr.cell? ⟨w.heap.size + 1, 0, none⟩ = some (.slice none 0 0) := row_cell hbr 0
        have d1 : wr.cell? ⟨w.heap.size + 1, 1, none⟩ = some (.bool false) := row_cell hbr 1
        have d2 : wr.cell? ⟨w.heap.size + 1, 2, none⟩ = some (.bool false) := row_cell hbr 2
        have d3 : wr.cell? ⟨w.heap.size + 1, 3, none⟩ = some (.int .i64 0) := row_cell hbr 3
        have d4 : wr.cell? ⟨w.heap.size + 1, 4, none⟩ = some (.int .i64 0) := row_cell hbr 4
        have d5 : wr.cell? ⟨w.heap.size + 1, 5, none⟩ = some (.slice none 0 0) := row_cell hbr 5
        have f0 := row_free hbr 0
        have f1 := row_free hbr 1
        have f2 := row_free hbr 2
        have f3 := row_free hbr 3
        have f4 := row_free hbr 4
        have f5 := row_free hbr 5
        have hkn : k = ms.length := by omega
        clear hpl hb hbr
        simp only [] at c2 c3 c4
        go_wp2_with fail
        refine bodyPost_ret (v := .agg #[.slice Aa als.length ca, .bool ends, .bool (⟨true, rlo, rhi⟩ : Iv).some, .int .i64 (⟨true, rlo, rhi⟩ : Iv).lo, .int .i64 (⟨true, rlo, rhi⟩ : Iv).hi, .slice A1 ms.length c1]) (by simp [results, Try.results34, go_sem, d0, d1, d2, d3, d4, d5]) rfl ?_
        subst hkn
        exact PL.done HP.out (six_keep _ _ _ _ _ _ _)
end Go.Proofs.Ytohmadfaaonaaaa
