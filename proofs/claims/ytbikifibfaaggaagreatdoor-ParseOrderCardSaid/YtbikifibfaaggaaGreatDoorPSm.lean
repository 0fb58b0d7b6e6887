/- Statements, their lists and the arguments of calls in memory; an element more in a row of one's own. -/
import Derived.Test.YtbikifibfaaggaaGreatDoorPCond
import Derived.Test.YtbikifibfaaggaaGreatDoorPMath3
import Derived.Maps.AppendAt
namespace Go.Proofs.YtbikifibfaaggaaGreatDoor
open Go.RowKit Go.Shelf
open Lx (Tok Tx)
open Px (Ex Cn Sm)

theorem infoArg : (Tryz.prog.info? 170).map (fun i => (i.zero, i.size, i.bytes)) = some (some (.agg #[.bool false, .string .empty, .pointer none]), 3, 32) := by kernel_rfl
theorem infoVar : (Tryz.prog.info? 123).map (fun i => (i.zero, i.size, i.bytes)) = some (some (.agg #[.string .empty, .bool false]), 2, 24) := by kernel_rfl
theorem infoStmt : (Tryz.prog.info? 60).map (fun i => (i.zero, i.size, i.bytes)) = some (some (.agg #[.int .i64 0, .string .empty, .string .empty, .pointer none, .pointer none, .pointer none, .slice none 0 0, .slice none 0 0, .slice none 0 0, .int .i64 0]), 10, 144) := by kernel_rfl

/-- Block y has no object of type T. -/
def NotT (w : World) (y : Nat) (T : TypeId) : Prop := ∀ cs fz, w.heap[y]? ≠ some (.cells cs T fz)
theorem NotT.of {w : World} {y : Nat} {T U : TypeId} {cs : Array Value} {fz : Nat × Nat} (h : w.heap[y]? = some (.cells cs U fz)) (hn : U ≠ T) : NotT w y T := fun ds fz' h' => by
  rw [h] at h'
  injection h' with h'
  injection h' with _ h'
  exact hn h'
theorem blk_keep {w w' : World} {b x : Nat} {S : List Nat} {T : TypeId} {cs : Array Value} (hk : Keeps S w w') (hS : ∀ y ∈ S, y ≤ b ∨ NotT w y T) (hb : b < x) (h : w.heap[x]? = some (.cells cs T (0, 0))) : w'.heap[x]? = some (.cells cs T (0, 0)) :=
  block_keep h hk (fun hm => by
    rcases hS _ hm with h1 | h1
    · omega
    · exact h1 _ _ h)
theorem ExAt.keepT {w w' : World} {b : Nat} {S : List Nat} (hk : Keeps S w w') (hS : ∀ y ∈ S, y ≤ b ∨ NotT w y 74) : ∀ {e : Ex} {v : Value}, ExAt w b e v → ExAt w' b e v := by
  intro e
  induction e with
  | num m => exact fun ⟨x, h1, h2, h3⟩ => ⟨x, h1, h2, blk_keep hk hS h2 h3⟩
  | var s => exact fun ⟨x, h1, h2, h3⟩ => ⟨x, h1, h2, blk_keep hk hS h2 h3⟩
  | neg a ih => exact fun ⟨x, va, h1, h2, h3, h4⟩ => ⟨x, va, h1, h2, blk_keep hk hS h2 h3, ih h4⟩
  | bin k a c iha ihc => exact fun ⟨x, va, vc, h1, h2, h3, h4, h5⟩ => ⟨x, va, vc, h1, h2, blk_keep hk hS h2 h3, iha h4, ihc h5⟩
theorem CnAt.keepT {w w' : World} {b : Nat} {S : List Nat} (hk : Keeps S w w') (hS : ∀ y ∈ S, y ≤ b ∨ NotT w y 74) (hS2 : ∀ y ∈ S, y ≤ b ∨ NotT w y 105) : ∀ {e : Cn} {v : Value}, CnAt w b e v → CnAt w' b e v := by
  intro e
  induction e with
  | cmp k a c => exact fun ⟨x, va, vc, h1, h2, h3, h4, h5⟩ => ⟨x, va, vc, h1, h2, blk_keep hk hS2 h2 h3, h4.keepT hk hS, h5.keepT hk hS⟩
  | null s => exact fun ⟨x, h1, h2, h3⟩ => ⟨x, h1, h2, blk_keep hk hS2 h2 h3⟩
  | not a ih => exact fun ⟨x, va, h1, h2, h3, h4⟩ => ⟨x, va, h1, h2, blk_keep hk hS2 h2 h3, ih h4⟩
  | two k a c iha ihc => exact fun ⟨x, va, vc, h1, h2, h3, h4, h5⟩ => ⟨x, va, vc, h1, h2, blk_keep hk hS2 h2 h3, iha h4, ihc h5⟩

def OEx (w : World) (b : Nat) : Option Ex → Value → Prop
  | none, v => v = .pointer none
  | some e, v => ExAt w b e v
def OCn (w : World) (b : Nat) : Option Cn → Value → Prop
  | none, v => v = .pointer none
  | some e, v => CnAt w b e v
/-- The cells of arguments that are expressions. -/
def argCells (vs : List Value) : List Value := vs.flatMap fun v => [.bool false, .string .empty, v]
theorem argCells_snoc (vs : List Value) (v : Value) : argCells (vs ++ [v]) = argCells vs ++ [.bool false, .string .empty, v] := by simp [argCells]
theorem argCells_len (vs : List Value) : (argCells vs).length = vs.length * 3 := by
  induction vs with
  | nil => rfl
  | cons c cs ih => simp only [argCells, List.flatMap_cons, List.length_append, List.length_cons, List.length_nil] at ih ⊢; omega
def ExsAt (w : World) (b : Nat) : List Ex → List Value → Prop
  | [], vs => vs = []
  | e :: l, vs => ∃ v r, vs = v :: r ∧ ExAt w b e v ∧ ExsAt w b l r
theorem ExsAt.len {w : World} {b : Nat} : ∀ {l : List Ex} {vs : List Value}, ExsAt w b l vs → vs.length = l.length
  | [], vs, h => by rw [show vs = [] from h]; rfl
  | e :: l, vs, ⟨v, r, h1, _, h3⟩ => by rw [h1, List.length_cons, List.length_cons, h3.len]
theorem ExsAt.snoc {w : World} {b : Nat} {e : Ex} {v : Value} (he : ExAt w b e v) : ∀ {l : List Ex} {vs : List Value}, ExsAt w b l vs → ExsAt w b (l ++ [e]) (vs ++ [v])
  | [], vs, h => by rw [show vs = [] from h]; exact ⟨v, [], rfl, he, rfl⟩
  | e' :: l, vs, ⟨v', r, h1, h2, h3⟩ => by rw [h1]; exact ⟨v', r ++ [v], rfl, h2, h3.snoc he⟩
theorem ExsAt.keepT {w w' : World} {b : Nat} {S : List Nat} (hk : Keeps S w w') (hS : ∀ y ∈ S, y ≤ b ∨ NotT w y 74) : ∀ {l : List Ex} {vs : List Value}, ExsAt w b l vs → ExsAt w' b l vs
  | [], _, h => h
  | _ :: _, _, ⟨v, r, h1, h2, h3⟩ => ⟨v, r, h1, h2.keepT hk hS, h3.keepT hk hS⟩
/-- A call's arguments in memory. -/
def ArgsAt (w : World) (b : Nat) (l : List Ex) (v : Value) : Prop := ∃ vs, w.ownsRow (b + 1) 170 3 v l.length (argCells vs) ∧ ExsAt w b l vs
theorem rowOf {w : World} {base : Nat} {T : TypeId} {sz n : Nat} {v : Value} {xs : List Value} (h : w.ownsRow base T sz v n xs) {g : Nat} (hg : v.ownBlock = some g) : base ≤ g ∧ ∃ cur, w.heap[g]? = some (.cells cur T (0, 0)) := by
  rcases h.2 with ⟨rfl, _⟩ | ⟨g', cap, cur, rfl, hb, hgg, _⟩
  · simp [Value.ownBlock] at hg
  · simp [Value.ownBlock] at hg
    subst hg
    exact ⟨hb, cur, hgg⟩
theorem row_keepT {w w' : World} {b base : Nat} {T : TypeId} {sz n : Nat} {v : Value} {xs : List Value} {S : List Nat} (h : w.ownsRow base T sz v n xs) (hb : b < base) (hk : Keeps S w w') (hS : ∀ y ∈ S, y ≤ b ∨ NotT w y T) : w'.ownsRow base T sz v n xs :=
  owned_keep h hk (fun g hg hm => by
    obtain ⟨h1, cur, h2⟩ := rowOf h hg
    rcases hS _ hm with h3 | h3
    · omega
    · exact h3 _ _ h2)
theorem ArgsAt.keepT {w w' : World} {b : Nat} {S : List Nat} {l : List Ex} {v : Value} (h : ArgsAt w b l v) (hk : Keeps S w w') (hS : ∀ y ∈ S, y ≤ b ∨ NotT w y 74) (hS2 : ∀ y ∈ S, y ≤ b ∨ NotT w y 170) : ArgsAt w' b l v := by
  obtain ⟨vs, h1, h2⟩ := h
  exact ⟨vs, row_keepT h1 (by omega) hk hS2, h2.keepT hk hS⟩

mutual
/-- A statement's cells; the rows of statements within it lie in B. -/
def SmAt (w : World) (b : Nat) (B : Nat → Prop) : Sm → List Value → Prop
  | .mk kd x y e f c args th el a, vs => ∃ ve vf vc va vt vl, vs = [.int .i64 (kd : Int), .string (strO x), .string (strO y), ve, vf, vc, va, vt, vl, .int .i64 (a : Int)] ∧ OEx w b e ve ∧ OEx w b f vf ∧ OCn w b c vc ∧ ArgsAt w b args va ∧
      (∃ cs, w.ownsRow (b + 1) 60 10 vt th.length cs ∧ (∀ g, vt.ownBlock = some g → B g) ∧ SmC w b B th cs) ∧ (∃ cs, w.ownsRow (b + 1) 60 10 vl el.length cs ∧ (∀ g, vl.ownBlock = some g → B g) ∧ SmC w b B el cs)
def SmC (w : World) (b : Nat) (B : Nat → Prop) : List Sm → List Value → Prop
  | [], cs => cs = []
  | s :: l, cs => ∃ vs ds, cs = vs ++ ds ∧ SmAt w b B s vs ∧ SmC w b B l ds
end
/-- What may turn below statements that lie in B. -/
def Off (w : World) (b : Nat) (B : Nat → Prop) (S : List Nat) : Prop := ∀ y ∈ S, y ≤ b ∨ (¬ B y ∧ NotT w y 74 ∧ NotT w y 105 ∧ NotT w y 170)
mutual
theorem SmAt.keep {w w' : World} {b : Nat} {B : Nat → Prop} {S : List Nat} (hk : Keeps S w w') (hS : Off w b B S) : ∀ (s : Sm) (vs : List Value), SmAt w b B s vs → SmAt w' b B s vs
  | .mk kd x y e f c args th el a, vs, h => by
    obtain ⟨ve, vf, vc, va, vt, vl, h1, h2, h3, h4, h5, ⟨c1, h6, h7, h8⟩, ⟨c2, h9, h10, h11⟩⟩ := h
    have s1 : ∀ y ∈ S, y ≤ b ∨ NotT w y 74 := fun y hy => (hS y hy).imp id (fun h => h.2.1)
    have s2 : ∀ y ∈ S, y ≤ b ∨ NotT w y 105 := fun y hy => (hS y hy).imp id (fun h => h.2.2.1)
    have s3 : ∀ y ∈ S, y ≤ b ∨ NotT w y 170 := fun y hy => (hS y hy).imp id (fun h => h.2.2.2)
    have hrow : ∀ {v : Value} {n : Nat} {cs : List Value}, w.ownsRow (b + 1) 60 10 v n cs → (∀ g, v.ownBlock = some g → B g) → w'.ownsRow (b + 1) 60 10 v n cs := fun h hB =>
      owned_keep h hk (fun g hg hm => by
        have := (rowOf h hg).1
        rcases hS _ hm with h3 | h3
        · omega
        · exact h3.1 (hB g hg))
    refine ⟨ve, vf, vc, va, vt, vl, h1, ?_, ?_, ?_, h5.keepT hk s1 s3, ⟨c1, hrow h6 h7, h7, SmC.keep hk hS th c1 h8⟩, ⟨c2, hrow h9 h10, h10, SmC.keep hk hS el c2 h11⟩⟩
    · cases e with
      | none => exact h2
      | some e => exact ExAt.keepT hk s1 h2
    · cases f with
      | none => exact h3
      | some e => exact ExAt.keepT hk s1 h3
    · cases c with
      | none => exact h4
      | some e => exact CnAt.keepT hk s1 s2 h4
theorem SmC.keep {w w' : World} {b : Nat} {B : Nat → Prop} {S : List Nat} (hk : Keeps S w w') (hS : Off w b B S) : ∀ (l : List Sm) (cs : List Value), SmC w b B l cs → SmC w' b B l cs
  | [], _, h => h
  | s :: l, _, ⟨vs, ds, h1, h2, h3⟩ => ⟨vs, ds, h1, SmAt.keep hk hS s vs h2, SmC.keep hk hS l ds h3⟩
end
mutual
theorem SmAt.wider {w : World} {b : Nat} {B B' : Nat → Prop} (hB : ∀ g, B g → B' g) : ∀ (s : Sm) (vs : List Value), SmAt w b B s vs → SmAt w b B' s vs
  | .mk kd x y e f c args th el a, vs, h => by
    obtain ⟨ve, vf, vc, va, vt, vl, h1, h2, h3, h4, h5, ⟨c1, h6, h7, h8⟩, ⟨c2, h9, h10, h11⟩⟩ := h
    exact ⟨ve, vf, vc, va, vt, vl, h1, h2, h3, h4, h5, ⟨c1, h6, fun g hg => hB g (h7 g hg), SmC.wider hB th c1 h8⟩, ⟨c2, h9, fun g hg => hB g (h10 g hg), SmC.wider hB el c2 h11⟩⟩
theorem SmC.wider {w : World} {b : Nat} {B B' : Nat → Prop} (hB : ∀ g, B g → B' g) : ∀ (l : List Sm) (cs : List Value), SmC w b B l cs → SmC w b B' l cs
  | [], _, h => h
  | s :: l, _, ⟨vs, ds, h1, h2, h3⟩ => ⟨vs, ds, h1, SmAt.wider hB s vs h2, SmC.wider hB l ds h3⟩
end
theorem SmC.snoc {w : World} {b : Nat} {B : Nat → Prop} {s : Sm} {vs : List Value} (hs : SmAt w b B s vs) : ∀ (l : List Sm) (cs : List Value), SmC w b B l cs → SmC w b B (l ++ [s]) (cs ++ vs)
  | [], cs, h => by rw [show cs = [] from h]; exact ⟨vs, [], by simp, hs, rfl⟩
  | s' :: l, cs, ⟨v', r, h1, h2, h3⟩ => by rw [h1]; exact ⟨v', r ++ vs, by simp, h2, SmC.snoc hs l r h3⟩

/-- An element more, in a row of one's own. -/
theorem wp_app {ops : Array Oper} {rest : List Oper} {o : Oper} {a : Act} {Q : Exit → Act → World → Prop} {w : World} (hgd : o.guard = none) (s x : Operand) (St Et : TypeId)
    (ho : o.op = .call { callee := .builtin .append, args := #[s, x], argTypes := #[St, St] }) (i : TypeInfo) (z : Value) (sz bytes : Nat) (hst : Tryz.prog.underlying St = some (.slice Et)) (hP : Tryz.prog.info? Et = some i) (hP0 : i.zero = some z) (hP1 : i.size = sz) (hP2 : i.bytes = bytes)
    (hzs : z.cells.size = sz) (hsz : 0 < sz) (hby : bytes ≤ 1000) (v : Value) (n base : Nat) (xs : List Value) (hs : a.eval s = v) (hown : w.ownsRow base Et sz v n xs) (c : Nat) (news : List Value) (hx : a.eval x = .slice (some ⟨w.heap.size, 0, none⟩) 1 c)
    (hnl : news.length = sz) (h1 : ∀ u ∈ news, u.oneCell' = true) (hn : n ≤ 100000) (hbase : base ≤ w.heap.size)
    (h : ∀ v' w', w'.ownsRow base Et sz v' (n + 1) (xs ++ news) → Keeps v.ownBlock.toList w w' → (v'.ownBlock = v.ownBlock ∨ v'.ownBlock = some (w.heap.size + 1)) → w.heap.size + 1 ≤ w'.heap.size → wpList Tryz.prog ops Q rest (a.put o.dst v') w') :
    wpList Tryz.prog ops Q (o :: rest) a (w.alloc (.cells news.toArray Et)) := by
  have hnb : (n + 1) * bytes ≤ 140737488355328 := Nat.le_trans (Nat.mul_le_mul (show n + 1 ≤ 100001 by omega) hby) (by omega)
  refine wpList_append_own_at _ hgd s x St ho base Et i z sz bytes hst hP hP0 hP1 hP2 hzs hsz v n xs hs (hown.alloc _) ⟨w.heap.size, 0, none⟩ 1 c news hx (by omega) ?_ h1 (by unfold maxLen; omega) hnb (by simp; omega) ?_
  · intro j u hj
    rw [Addr.add_lit, Nat.zero_add, row_cell (heap_alloc_new w _)]
    simpa using hj
  · intro v' w' q1 q2 _ q4
    have hsz2 : (w.alloc (.cells news.toArray Et)).heap.size = w.heap.size + 1 := by simp
    rw [hsz2] at q4
    have hk := Keeps.of_grown q2
    exact h v' w' q1 (((Keeps.refl _ w).alloc _).trans hk (fun _ h _ => h)) q4 (by have := hk.size; omega)
theorem ExAt.keepb {w w' : World} {b : Nat} {e : Ex} {v : Value} (h : ExAt w b e v) (hk : Keeps [b] w w') : ExAt w' b e v := h.keep hk (by simp)
theorem CnAt.keepb {w w' : World} {b : Nat} {e : Cn} {v : Value} (h : CnAt w b e v) (hk : Keeps [b] w w') : CnAt w' b e v := h.keep hk (by simp)
theorem ArgsAt.keepb {w w' : World} {b : Nat} {e : List Ex} {v : Value} (h : ArgsAt w b e v) (hk : Keeps [b] w w') : ArgsAt w' b e v := h.keepT hk (by simp) (by simp)
theorem row_slice {w : World} {base : Nat} {T : TypeId} {sz n : Nat} {v : Value} {xs : List Value} (h : w.ownsRow base T sz v n xs) : ∃ A c, v = .slice A n c := by
  rcases h.2 with ⟨rfl, rfl⟩ | ⟨g, cap, cur, rfl, _⟩
  · exact ⟨none, 0, rfl⟩
  · exact ⟨_, _, rfl⟩
theorem ArgsAt.form {w : World} {b : Nat} {l : List Ex} {v : Value} (h : ArgsAt w b l v) : ∃ A c, v = .slice A l.length c := by
  obtain ⟨vs, h1, _⟩ := h
  exact row_slice h1
theorem OEx.ptr {w : World} {b : Nat} {e : Option Ex} {v : Value} (h : OEx w b e v) : ∃ q, v = .pointer q := by
  cases e with
  | none => exact ⟨none, h⟩
  | some e => obtain ⟨x, hx⟩ := ExAt.ptr h; exact ⟨_, hx⟩
theorem OCn.ptr {w : World} {b : Nat} {e : Option Cn} {v : Value} (h : OCn w b e v) : ∃ q, v = .pointer q := by
  cases e with
  | none => exact ⟨none, h⟩
  | some e => obtain ⟨x, hx⟩ := CnAt.ptr h; exact ⟨_, hx⟩
theorem SmAt.form {w : World} {b : Nat} {B : Nat → Prop} {s : Sm} {vs : List Value} (h : SmAt w b B s vs) : ∃ (kd : Int) (x y : ByteArray) (qe qf qc : Option Addr) (Aa : Option Addr) (na ca : Nat) (At : Option Addr) (nt ct : Nat) (Al : Option Addr) (nl cl : Nat) (a : Int),
    vs = [.int .i64 kd, .string x, .string y, .pointer qe, .pointer qf, .pointer qc, .slice Aa na ca, .slice At nt ct, .slice Al nl cl, .int .i64 a] := by
  obtain ⟨kd, x, y, e, f, c, args, th, el, a⟩ := s
  obtain ⟨ve, vf, vc, va, vt, vl, rfl, h2, h3, h4, h5, ⟨c1, h6, h7, h8⟩, ⟨c2, h9, h10, h11⟩⟩ := h
  obtain ⟨qe, rfl⟩ := h2.ptr
  obtain ⟨qf, rfl⟩ := h3.ptr
  obtain ⟨qc, rfl⟩ := h4.ptr
  obtain ⟨Aa, ca, rfl⟩ := h5.form
  obtain ⟨At, ct, rfl⟩ := row_slice h6
  obtain ⟨Al, cl, rfl⟩ := row_slice h9
  exact ⟨_, _, _, _, _, _, _, _, _, _, _, _, _, _, _, _, rfl⟩
theorem SmAt.withX {w : World} {b : Nat} {B : Nat → Prop} {s : Sm} {x' : Tx} {v0 v1 : Value} {vr : List Value} (h : SmAt w b B s (v0 :: v1 :: vr)) : SmAt w b B (s.withX x') (v0 :: .string (strO x') :: vr) := by
  obtain ⟨kd, x, y, e, f, c, args, th, el, a⟩ := s
  obtain ⟨ve, vf, vc, va, vt, vl, h1, h2⟩ := h
  injection h1 with h0 h1
  injection h1 with _ h1
  subst h0 h1
  exact ⟨ve, vf, vc, va, vt, vl, rfl, h2⟩
theorem SmAt.withAt {w : World} {b : Nat} {B : Nat → Prop} {s : Sm} {a' : Nat} {v0 v1 v2 v3 v4 v5 v6 v7 v8 v9 : Value} (h : SmAt w b B s [v0, v1, v2, v3, v4, v5, v6, v7, v8, v9]) : SmAt w b B (s.withAt a') [v0, v1, v2, v3, v4, v5, v6, v7, v8, .int .i64 (a' : Int)] := by
  obtain ⟨kd, x, y, e, f, c, args, th, el, a⟩ := s
  obtain ⟨ve, vf, vc, va, vt, vl, h1, h2⟩ := h
  simp only [List.cons.injEq] at h1
  obtain ⟨rfl, rfl, rfl, rfl, rfl, rfl, rfl, rfl, rfl, _⟩ := h1
  exact ⟨_, _, _, _, _, _, rfl, h2⟩
theorem SmAt.alloc {w : World} {b : Nat} {B : Nat → Prop} {s : Sm} {vs : List Value} (h : SmAt w b B s vs) (obj : Obj) : SmAt (w.alloc obj) b B s vs := SmAt.keep ((Keeps.refl [] _).alloc _) (fun y hy => by simp at hy) _ _ h
theorem SmAt.keepb {w w' : World} {b : Nat} {B : Nat → Prop} {s : Sm} {vs : List Value} (h : SmAt w b B s vs) (hk : Keeps [b] w w') : SmAt w' b B s vs := SmAt.keep hk (fun y hy => by simp at hy; omega) _ _ h
/-- Blocks above b may turn. -/
theorem PAt.keepHi {S : List Nat} {w w' : World} {b n o k : Nat} {ts : List Tok} (h : PAt w b n ts o k) (hk : Keeps S w w') (hS : ∀ y ∈ S, b < y) : PAt w' b n ts o k := by
  obtain ⟨hg, A, cap, g, h1, h2, h3, h4, h5⟩ := h
  exact ⟨hg, A, cap, g, block_keep h1 hk (fun h => by have := hS _ h; omega), h2.keep hk (fun h => by have := hS _ h; omega), h3, h4, h5⟩
theorem Keeps.hi {S T : List Nat} {w w1 w' : World} (h : Keeps S w w1) (hk : Keeps T w1 w') (hT : ∀ y ∈ T, w.heap.size ≤ y) : Keeps S w w' :=
  h.trans hk (fun i hi hl => by have := hT i hi; omega)
theorem owned_mono {w : World} {base base' : Nat} {T : TypeId} {sz n : Nat} {v : Value} {xs : List Value} (h : w.ownsRow base T sz v n xs) (hb : base' ≤ base) : w.ownsRow base' T sz v n xs := by
  refine ⟨h.1, ?_⟩
  rcases h.2 with h1 | ⟨g, cap, cur, h1, h2, h3⟩
  · exact .inl h1
  · exact .inr ⟨g, cap, cur, h1, by omega, h3⟩
/-- pass and name, in the parts' words. -/
def UnitAt (_ : World) (_ : Nat) (_ : Unit) (v : Value) : Prop := v = .tuple #[]
def StrAt (_ : World) (_ : Nat) (s : Tx) (v : Value) : Prop := v = .string (strO s)
theorem pass_rp (w : World) (b n o k : Nat) (ts : List Tok) (h : PAt w b n ts o k) (s : Tx) (hs : s ≠ []) :
    Calls Tryz.prog 76 #[pp b, .string (strO s)] w (RP UnitAt (fun _ => k) w b n o (Px.passR s ts)) := by
  unfold Px.passR
  by_cases hy : Px.sees ts s = true
  · rw [if_pos hy]
    exact (pass_yes w b n o k ts h s hs hy).mono fun e w' ⟨h1, h2, h3⟩ => ⟨_, h1, rfl, h2, h3⟩
  · rw [if_neg hy]
    refine (pass_no w b n o k ts h s (by simpa using hy)).mono fun e w' ⟨h1, h2⟩ => ?_
    subst h2
    exact ⟨h1, ⟨_, _, h⟩, Keeps.refl _ _⟩
theorem name_rp (w : World) (b n o k : Nat) (ts : List Tok) (h : PAt w b n ts o k) :
    Calls Tryz.prog 77 #[pp b] w (RP StrAt (fun _ => k) w b n o (Px.nameR ts)) := by
  unfold Px.nameR
  by_cases hy : Px.isName ts = true
  · rw [if_pos hy]
    exact (name_yes w b n o k ts h hy).mono fun e w' ⟨h1, h2, h3⟩ => ⟨_, h1, rfl, h2, h3⟩
  · rw [if_neg hy]
    refine (name_no w b n o k ts h (by simpa using hy)).mono fun e w' ⟨h1, h2⟩ => ?_
    subst h2
    exact ⟨h1, ⟨_, _, h⟩, Keeps.refl _ _⟩
end Go.Proofs.YtbikifibfaaggaaGreatDoor
