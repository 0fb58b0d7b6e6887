/- The reader's summary: what it makes. -/
import Derived.Test.YtohmadfaaonaaaaCIvR
import Derived.Test.YtohmadfaaonaaaaCL2
namespace Go.Proofs.Ytohmadfaaonaaaa
open Go.RowKit

def alCells (als : List Al) : List Value := als.flatMap fun a => [.int .i64 a.pos, .int .i64 a.kind]
def nmCells (ms : List Nm) : List Value := ms.flatMap fun m => [.string m.name, .bool m.v.some, .int .i64 m.v.lo, .int .i64 m.v.hi]
theorem infoAl : (Try.prog.info? 66).map (fun i => (i.zero, i.size, i.bytes)) = some (some (.agg #[.int .i64 0, .int .i64 0]), 2, 16) := by kernel_rfl
theorem infoNm : (Try.prog.info? 87).map (fun i => (i.zero, i.size, i.bytes)) = some (some (.agg #[.string .empty, .bool false, .int .i64 0, .int .i64 0]), 4, 40) := by kernel_rfl
theorem alCells_get : ∀ (als : List Al) (k : Nat) (hk : k < als.length), (alCells als)[k * 2]? = some (.int .i64 als[k].pos) ∧ (alCells als)[k * 2 + 1]? = some (.int .i64 als[k].kind)
  | a :: r, 0, _ => ⟨rfl, rfl⟩
  | a :: r, k + 1, hk => by
    have := alCells_get r k (by simpa using hk)
    rw [show (k + 1) * 2 = k * 2 + 1 + 1 by omega]
    exact this
theorem nmCells_get : ∀ (ms : List Nm) (k : Nat) (hk : k < ms.length), (nmCells ms)[k * 4]? = some (.string ms[k].name) ∧ (nmCells ms)[k * 4 + 1]? = some (.bool ms[k].v.some) ∧ (nmCells ms)[k * 4 + 2]? = some (.int .i64 ms[k].v.lo) ∧ (nmCells ms)[k * 4 + 3]? = some (.int .i64 ms[k].v.hi)
  | a :: r, 0, _ => ⟨rfl, rfl, rfl, rfl⟩
  | a :: r, k + 1, hk => by
    have := nmCells_get r k (by simpa using hk)
    rw [show (k + 1) * 4 = k * 4 + 1 + 1 + 1 + 1 by omega]
    exact this
theorem own_als {w : World} {base : Nat} {v : Value} {als : List Al} (h : w.ownsRow base 66 2 v als.length (alCells als)) : ∃ g A c, v = .slice A als.length c ∧ AlsIn w g A als ∧ base ≤ g := by
  rcases h.2 with ⟨hv, h0⟩ | ⟨g', cap', cur, hv, hb, _⟩
  · exact ⟨base, none, 0, by rw [hv, h0], .inl (List.eq_nil_of_length_eq_zero h0), Nat.le_refl _⟩
  · refine ⟨g', some ⟨g', 0, none⟩, cap', hv, .inr ⟨0, rfl, fun k hk => ?_⟩, hb⟩
    have hc := h.cells (g := g') (by rw [hv]; rfl)
    obtain ⟨e1, e2⟩ := alCells_get als k hk
    have a1 := hc _ _ e1
    have a2 := hc _ _ e2
    rw [Addr.add_lit] at a1 a2
    exact ⟨a1, a2⟩
theorem own_nms {w : World} {base : Nat} {v : Value} {ms : List Nm} (h : w.ownsRow base 87 4 v ms.length (nmCells ms)) : ∃ g A c, v = .slice A ms.length c ∧ NmsIn w g A ms ∧ base ≤ g := by
  rcases h.2 with ⟨hv, h0⟩ | ⟨g', cap', cur, hv, hb, _⟩
  · exact ⟨base, none, 0, by rw [hv, h0], .inl (List.eq_nil_of_length_eq_zero h0), Nat.le_refl _⟩
  · refine ⟨g', some ⟨g', 0, none⟩, cap', hv, .inr ⟨0, rfl, fun k hk => ?_⟩, hb⟩
    have hc := h.cells (g := g') (by rw [hv]; rfl)
    obtain ⟨e1, e2, e3, e4⟩ := nmCells_get ms k hk
    have a1 := hc _ _ e1
    have a2 := hc _ _ e2
    have a3 := hc _ _ e3
    have a4 := hc _ _ e4
    rw [Addr.add_lit] at a1 a2 a3 a4
    exact ⟨a1, a2, a3, a4⟩
theorem own_apart {w : World} {base base' s s' : Nat} {e e' : TypeId} {n n' : Nat} {v v' : Value} {xs xs' : List Value} (h : w.ownsRow base e s v n xs) (h' : w.ownsRow base' e' s' v' n' xs') (hne : e ≠ e') : v.ownBlock = none ∨ v.ownBlock ≠ v'.ownBlock := by
  rcases h.2 with ⟨rfl, _⟩ | ⟨g, cap, cur, rfl, _, hg, _⟩
  · exact .inl rfl
  · refine .inr ?_
    rcases h'.2 with ⟨rfl, _⟩ | ⟨g', cap', cur', rfl, _, hg', _⟩
    · simp [Value.ownBlock]
    · intro he
      obtain rfl : g = g' := by simpa [Value.ownBlock] using he
      rw [hg] at hg'
      simp at hg'
      exact hne hg'.2
theorem cells_new (w : World) (t : TypeId) (cs : List Value) : ∀ j u, cs[j]? = some u → (w.alloc (.cells cs.toArray t)).cell? ((⟨w.heap.size, 0, none⟩ : Addr).add j) = some u := by
  intro j u hj
  rw [Addr.add_lit, new_cell]
  simpa using hj

/-- A summary, made behind block B. -/
def SmAt (B : Nat) (w : World) (v : Value) (s : Sm) : Prop := ∃ h1 h2 Aa ca Am cm, v = .agg #[.slice Aa s.alarms.length ca, .bool s.ends, .bool s.ret.some, .int .i64 s.ret.lo, .int .i64 s.ret.hi, .slice Am s.mod.length cm] ∧ AlsIn w h1 Aa s.alarms ∧ NmsIn w h2 Am s.mod ∧ B ≤ h1 ∧ B ≤ h2
def SumOut (R : Option (Sm × List UInt8)) (p g : Nat) (f : Bool) (w : World) (e : Ending) (w' : World) : Prop :=
  match R with
  | some (s, r) => ∃ v, e = .returned v ∧ SmAt w.heap.size w' v s ∧ RdAt w' p g r f ∧ Keeps [p] w w'
  | none => Fell p g f w e w'

/-- Within summary: x, behind w, is the box of what is made. -/
def SB (w wr : World) (p g : Nat) (f : Bool) (l : List UInt8) (va vm : Value) (als : List Al) (ms : List Nm) (b : Bool) (iv : Iv) : Prop :=
  RdAt wr p g l f ∧ Keeps [p] w wr ∧ wr.heap[w.heap.size]? = some (.cells #[va, .bool b, .bool iv.some, .int .i64 iv.lo, .int .i64 iv.hi, vm] 35 (0, 0)) ∧
  wr.ownsRow (w.heap.size + 1) 66 2 va als.length (alCells als) ∧ wr.ownsRow (w.heap.size + 1) 87 4 vm ms.length (nmCells ms)
section
variable {w wr w1 w2 : World} {p g : Nat} {f : Bool} {l l' : List UInt8} {va vm v1 : Value} {als : List Al} {ms : List Nm} {b : Bool} {iv : Iv}
theorem SB.cell (h : SB w wr p g f l va vm als ms b iv) (j : Nat) : wr.cell? ⟨w.heap.size, j, none⟩ = #[va, .bool b, .bool iv.some, .int .i64 iv.lo, .int .i64 iv.hi, vm][j]? := row_cell h.2.2.1 j
theorem SB.free (h : SB w wr p g f l va vm als ms b iv) (j : Nat) : wr.frozen? ⟨w.heap.size, j, none⟩ = false := row_free h.2.2.1 j
theorem SB.start (h : RdAt w p g l f) (hg : g < w.heap.size) : SB w (w.alloc (.cells #[.slice none 0 0, .bool false, .bool false, .int .i64 0, .int .i64 0, .slice none 0 0] 35)) p g f l (.slice none 0 0) (.slice none 0 0) [] [] false ⟨false, 0, 0⟩ :=
  ⟨h.keep ((Keeps.refl [] w).alloc _) (by simp) (by simp), (Keeps.refl _ _).alloc _, heap_alloc_new w _, World.ownsRow_nil _ _ _ _, World.ownsRow_nil _ _ _ _⟩
theorem SB.read (h : SB w wr p g f l va vm als ms b iv) (hp : p < w.heap.size) (h1 : RdAt w1 p g l' f) (hk : Keeps [p] wr w1) : SB w w1 p g f l' va vm als ms b iv := by
  obtain ⟨_, a2, a3, a4, a5⟩ := h
  refine ⟨h1, a2.trans hk (fun _ h _ => h), block_keep a3 hk (by simp; omega), owned_keep a4 hk (fun k hv => ?_), owned_keep a5 hk (fun k hv => ?_)⟩
  · have := (a4.lt k hv).1; simp; omega
  · have := (a5.lt k hv).1; simp; omega
theorem SB.own (h : SB w wr p g f l va vm als ms b iv) (hp : p < w.heap.size) (hg : g < w.heap.size) {S : List Nat} (hS : ∀ x ∈ S, w.heap.size < x) (hk : Keeps S wr w1) (h4 : w1.ownsRow (w.heap.size + 1) 66 2 va als.length (alCells als)) (h5 : w1.ownsRow (w.heap.size + 1) 87 4 vm ms.length (nmCells ms)) : SB w w1 p g f l va vm als ms b iv := by
  obtain ⟨a1, a2, a3, _, _⟩ := h
  have hn : ∀ x, x ≤ w.heap.size → x ∉ S := fun x hx hm => by have := hS x hm; omega
  exact ⟨a1.keep hk (hn _ (by omega)) (hn _ (by omega)), a2.trans hk (fun x hx hl => by have := hS x hx; omega), block_keep a3 hk (hn _ (Nat.le_refl _)), h4, h5⟩
/-- A store into the box. -/
theorem SB.store (h : SB w wr p g f l va vm als ms b iv) (hp : p < w.heap.size) (hg : g < w.heap.size) (hk : Keeps [w.heap.size] wr w1) {va' vm' : Value} {b' : Bool} {iv' : Iv} {als' : List Al} {ms' : List Nm}
    (hb : w1.heap[w.heap.size]? = some (.cells #[va', .bool b', .bool iv'.some, .int .i64 iv'.lo, .int .i64 iv'.hi, vm'] 35 (0, 0)))
    (h4 : wr.ownsRow (w.heap.size + 1) 66 2 va' als'.length (alCells als')) (h5 : wr.ownsRow (w.heap.size + 1) 87 4 vm' ms'.length (nmCells ms')) : SB w w1 p g f l va' vm' als' ms' b' iv' := by
  obtain ⟨a1, a2, a3, _, _⟩ := h
  refine ⟨a1.keep hk (by simp; omega) (by simp; omega), a2.trans hk (fun x hx hl => ?_), hb, owned_keep h4 hk (fun k hv => ?_), owned_keep h5 hk (fun k hv => ?_)⟩
  · simp at hx; omega
  · have := (h4.lt k hv).1; simp; omega
  · have := (h5.lt k hv).1; simp; omega
/-- An alarm joins. -/
theorem SB.alarm (h : SB w wr p g f l va (.slice none 0 0) als [] b iv) (hp : p < w.heap.size) (hg : g < w.heap.size) {a : Al} {o : Obj} (q1 : w2.ownsRow (w.heap.size + 1) 66 2 v1 (als.length + 1) (alCells als ++ [.int .i64 a.pos, .int .i64 a.kind])) (q2 : (wr.alloc o).grownBy w2 va.ownBlock) :
    Keeps [p] w w2 ∧ w2.heap[w.heap.size]? = some (.cells #[va, .bool b, .bool iv.some, .int .i64 iv.lo, .int .i64 iv.hi, .slice none 0 0] 35 (0, 0)) ∧ SB w (w2.setCell ⟨w.heap.size, 0, none⟩ v1) p g f l v1 (.slice none 0 0) (als ++ [a]) [] b iv := by
  obtain ⟨a1, a2, a3, a4, a5⟩ := h
  have hS : ∀ x ∈ va.ownBlock.toList, w.heap.size < x := fun x hx => by
    have := (a4.lt x (by simpa using hx)).1; omega
  have hk : Keeps va.ownBlock.toList wr w2 := ((Keeps.refl _ wr).alloc o).trans (Keeps.of_grown q2) (fun _ h _ => h)
  have hn : ∀ x, x ≤ w.heap.size → x ∉ va.ownBlock.toList := fun x hx hm => by have := hS x hm; omega
  have hb := block_keep a3 hk (hn _ (Nat.le_refl _))
  have hkw : Keeps [p] w w2 := a2.trans hk (fun x hx hl => by have := hS x hx; omega)
  refine ⟨hkw, hb, ?_⟩
  have hst : Keeps [w.heap.size] w2 (w2.setCell ⟨w.heap.size, 0, none⟩ v1) := (Keeps.refl _ _).setCell (by simp) _
  refine ⟨(a1.keep hk (hn _ (by omega)) (hn _ (by omega))).keep hst (by simp; omega) (by simp; omega), hkw.setCell (fun h => by simp at h) _, row_set hb 0 v1, ?_, World.ownsRow_nil _ _ _ _⟩
  have e : alCells (als ++ [a]) = alCells als ++ [.int .i64 a.pos, .int .i64 a.kind] := by simp [alCells]
  rw [e, List.length_append]
  refine owned_keep q1 hst (fun k hv => ?_)
  have := (q1.lt k hv).1; simp; omega
/-- A name joins. -/
theorem SB.name (h : SB w wr p g f l va vm als ms b iv) (hp : p < w.heap.size) (hg : g < w.heap.size) {a : Nm} {o : Obj} (q1 : w2.ownsRow (w.heap.size + 1) 87 4 v1 (ms.length + 1) (nmCells ms ++ [.string a.name, .bool a.v.some, .int .i64 a.v.lo, .int .i64 a.v.hi])) (q2 : (wr.alloc o).grownBy w2 vm.ownBlock) :
    Keeps [p] w w2 ∧ w2.heap[w.heap.size]? = some (.cells #[va, .bool b, .bool iv.some, .int .i64 iv.lo, .int .i64 iv.hi, vm] 35 (0, 0)) ∧ SB w (w2.setCell ⟨w.heap.size, 5, none⟩ v1) p g f l va v1 als (ms ++ [a]) b iv := by
  obtain ⟨a1, a2, a3, a4, a5⟩ := h
  have hS : ∀ x ∈ vm.ownBlock.toList, w.heap.size < x := fun x hx => by
    have := (a5.lt x (by simpa using hx)).1; omega
  have hk : Keeps vm.ownBlock.toList wr w2 := ((Keeps.refl _ wr).alloc o).trans (Keeps.of_grown q2) (fun _ h _ => h)
  have hn : ∀ x, x ≤ w.heap.size → x ∉ vm.ownBlock.toList := fun x hx hm => by have := hS x hm; omega
  have hb := block_keep a3 hk (hn _ (Nat.le_refl _))
  have hkw : Keeps [p] w w2 := a2.trans hk (fun x hx hl => by have := hS x hx; omega)
  refine ⟨hkw, hb, ?_⟩
  have hst : Keeps [w.heap.size] w2 (w2.setCell ⟨w.heap.size, 5, none⟩ v1) := (Keeps.refl _ _).setCell (by simp) _
  have h4 : w2.ownsRow (w.heap.size + 1) 66 2 va als.length (alCells als) := (a4.alloc o).kept q2 (own_apart a4 a5 (by decide))
  refine ⟨(a1.keep hk (hn _ (by omega)) (hn _ (by omega))).keep hst (by simp; omega) (by simp; omega), hkw.setCell (fun h => by simp at h) _, row_set hb 5 v1, ?_, ?_⟩
  · refine owned_keep h4 hst (fun k hv => ?_)
    have := (h4.lt k hv).1; simp; omega
  have e : nmCells (ms ++ [a]) = nmCells ms ++ [.string a.name, .bool a.v.some, .int .i64 a.v.lo, .int .i64 a.v.hi] := by simp [nmCells]
  rw [e, List.length_append]
  refine owned_keep q1 hst (fun k hv => ?_)
  have := (q1.lt k hv).1; simp; omega
end
end Go.Proofs.Ytohmadfaaonaaaa
