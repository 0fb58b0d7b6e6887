import Derived.Test.YtbikifibfaaggaaGreatDoorVMG
import Derived.Maps.AppendAt
namespace Go.Proofs.YtbikifibfaaggaaGreatDoor
section
open Go.RowKit Go.Shelf
open Lx (Tok Tx)
open Px (Ex Cn Sm)
theorem infoArg : (Tryz.prog.info? 170).map (fun i => (i.zero, i.size, i.bytes)) = some (some (.agg #[.bool false, .string .empty, .pointer none]), 3, 32) := by kernel_rfl
theorem infoVar : (Tryz.prog.info? 123).map (fun i => (i.zero, i.size, i.bytes)) = some (some (.agg #[.string .empty, .bool false]), 2, 24) := by kernel_rfl
theorem infoStmt : (Tryz.prog.info? 60).map (fun i => (i.zero, i.size, i.bytes)) = some (some (.agg #[.int .i64 0, .string .empty, .string .empty, .pointer none, .pointer none, .pointer none, .slice none 0 0, .slice none 0 0, .slice none 0 0, .int .i64 0]), 10, 144) := by kernel_rfl
def NotT (w : World) (y : Nat) (T : TypeId) : Prop := ∀ cs fz, w.heap[y]? ≠ some (.cells cs T fz)
theorem NotT.of {w : World} {y : Nat} {T U : TypeId} {cs : Array Value} {fz : Nat × Nat} (h : w.heap[y]? = some (.cells cs U fz)) (hn : U ≠ T) : NotT w y T := fun ds fz' h' => by
 rw [h] at h'
 injection h' with h'
 injection h' with _ h'
 exact hn h'
theorem blk_keep {w w' : World} {b x : Nat} {S : List Nat} {T : TypeId} {cs : Array Value} (hk : Keeps S w w') (hS : ∀ y ∈ S, y ≤ b ∨ NotT w y T) (hb : b < x) (h : w.heap[x]? = some (.cells cs T (0, 0))) : w'.heap[x]? = some (.cells cs T (0, 0)) :=
 block_keep h hk (fun hm => by
  rcases hS _ hm with h1 | h1
  · omega
  · exact h1 _ _ h)
theorem ExAt.keepT {w w' : World} {b : Nat} {S : List Nat} (hk : Keeps S w w') (hS : ∀ y ∈ S, y ≤ b ∨ NotT w y 74) : ∀ {e : Ex} {v : Value}, ExAt w b e v → ExAt w' b e v := by
 intro e
 induction e with
 | num m => exact fun ⟨x, h1, h2, h3⟩ => ⟨x, h1, h2, blk_keep hk hS h2 h3⟩
 | var s => exact fun ⟨x, h1, h2, h3⟩ => ⟨x, h1, h2, blk_keep hk hS h2 h3⟩
 | neg a ih => exact fun ⟨x, va, h1, h2, h3, h4⟩ => ⟨x, va, h1, h2, blk_keep hk hS h2 h3, ih h4⟩
 | bin k a c iha ihc => exact fun ⟨x, va, vc, h1, h2, h3, h4, h5⟩ => ⟨x, va, vc, h1, h2, blk_keep hk hS h2 h3, iha h4, ihc h5⟩
theorem CnAt.keepT {w w' : World} {b : Nat} {S : List Nat} (hk : Keeps S w w') (hS : ∀ y ∈ S, y ≤ b ∨ NotT w y 74) (hS2 : ∀ y ∈ S, y ≤ b ∨ NotT w y 105) : ∀ {e : Cn} {v : Value}, CnAt w b e v → CnAt w' b e v := by
 intro e
 induction e with
 | cmp k a c => exact fun ⟨x, va, vc, h1, h2, h3, h4, h5⟩ => ⟨x, va, vc, h1, h2, blk_keep hk hS2 h2 h3, h4.keepT hk hS, h5.keepT hk hS⟩
 | null s => exact fun ⟨x, h1, h2, h3⟩ => ⟨x, h1, h2, blk_keep hk hS2 h2 h3⟩
 | not a ih => exact fun ⟨x, va, h1, h2, h3, h4⟩ => ⟨x, va, h1, h2, blk_keep hk hS2 h2 h3, ih h4⟩
 | two k a c iha ihc => exact fun ⟨x, va, vc, h1, h2, h3, h4, h5⟩ => ⟨x, va, vc, h1, h2, blk_keep hk hS2 h2 h3, iha h4, ihc h5⟩
def OEx (w : World) (b : Nat) : Option Ex → Value → Prop
 | none, v => v = .pointer none
 | some e, v => ExAt w b e v
def OCn (w : World) (b : Nat) : Option Cn → Value → Prop
 | none, v => v = .pointer none
 | some e, v => CnAt w b e v
def argCells (vs : List Value) : List Value := vs.flatMap fun v => [.bool false, .string .empty, v]
theorem argCells_snoc (vs : List Value) (v : Value) : argCells (vs ++ [v]) = argCells vs ++ [.bool false, .string .empty, v] := by simp [argCells]
def ExsAt (w : World) (b : Nat) : List Ex → List Value → Prop
 | [], vs => vs = []
 | e :: l, vs => ∃ v r, vs = v :: r ∧ ExAt w b e v ∧ ExsAt w b l r
theorem ExsAt.len {w : World} {b : Nat} : ∀ {l : List Ex} {vs : List Value}, ExsAt w b l vs → vs.length = l.length
 | [], vs, h => by rw [show vs = [] from h]; rfl
 | e :: l, vs, ⟨v, r, h1, _, h3⟩ => by rw [h1, List.length_cons, List.length_cons, h3.len]
theorem ExsAt.snoc {w : World} {b : Nat} {e : Ex} {v : Value} (he : ExAt w b e v) : ∀ {l : List Ex} {vs : List Value}, ExsAt w b l vs → ExsAt w b (l ++ [e]) (vs ++ [v])
 | [], vs, h => by rw [show vs = [] from h]; exact ⟨v, [], rfl, he, rfl⟩
 | e' :: l, vs, ⟨v', r, h1, h2, h3⟩ => by rw [h1]; exact ⟨v', r ++ [v], rfl, h2, h3.snoc he⟩
theorem ExsAt.keepT {w w' : World} {b : Nat} {S : List Nat} (hk : Keeps S w w') (hS : ∀ y ∈ S, y ≤ b ∨ NotT w y 74) : ∀ {l : List Ex} {vs : List Value}, ExsAt w b l vs → ExsAt w' b l vs
 | [], _, h => h
 | _ :: _, _, ⟨v, r, h1, h2, h3⟩ => ⟨v, r, h1, h2.keepT hk hS, h3.keepT hk hS⟩
def ArgsAt (w : World) (b : Nat) (l : List Ex) (v : Value) : Prop := ∃ vs, w.ownsRow (b + 1) 170 3 v l.length (argCells vs) ∧ ExsAt w b l vs
theorem rowOf {w : World} {base : Nat} {T : TypeId} {sz n : Nat} {v : Value} {xs : List Value} (h : w.ownsRow base T sz v n xs) {g : Nat} (hg : v.ownBlock = some g) : base ≤ g ∧ ∃ cur, w.heap[g]? = some (.cells cur T (0, 0)) := by
 rcases h.2 with ⟨rfl, _⟩ | ⟨g', cap, cur, rfl, hb, hgg, _⟩
 · simp [Value.ownBlock] at hg
 ·
  simp [Value.ownBlock] at hg
  subst hg
  exact ⟨hb, cur, hgg⟩
theorem row_keepT {w w' : World} {b base : Nat} {T : TypeId} {sz n : Nat} {v : Value} {xs : List Value} {S : List Nat} (h : w.ownsRow base T sz v n xs) (hb : b < base) (hk : Keeps S w w') (hS : ∀ y ∈ S, y ≤ b ∨ NotT w y T) : w'.ownsRow base T sz v n xs :=
 owned_keep h hk (fun g hg hm => by
  obtain ⟨h1, cur, h2⟩ := rowOf h hg
  rcases hS _ hm with h3 | h3
  · omega
  · exact h3 _ _ h2)
theorem ArgsAt.keepT {w w' : World} {b : Nat} {S : List Nat} {l : List Ex} {v : Value} (h : ArgsAt w b l v) (hk : Keeps S w w') (hS : ∀ y ∈ S, y ≤ b ∨ NotT w y 74) (hS2 : ∀ y ∈ S, y ≤ b ∨ NotT w y 170) : ArgsAt w' b l v := by
 obtain ⟨vs, h1, h2⟩ := h
 exact ⟨vs, row_keepT h1 (by omega) hk hS2, h2.keepT hk hS⟩
mutual
def SmAt (w : World) (b : Nat) (B : Nat → Prop) : Sm → List Value → Prop
 | .mk kd x y e f c args th el a, vs => ∃ ve vf vc va vt vl, vs = [.int .i64 (kd : Int), .string (strO x), .string (strO y), ve, vf, vc, va, vt, vl, .int .i64 (a : Int)] ∧ OEx w b e ve ∧ OEx w b f vf ∧ OCn w b c vc ∧ ArgsAt w b args va ∧
  (∃ cs, w.ownsRow (b + 1) 60 10 vt th.length cs ∧ (∀ g, vt.ownBlock = some g → B g) ∧ SmC w b B th cs) ∧ (∃ cs, w.ownsRow (b + 1) 60 10 vl el.length cs ∧ (∀ g, vl.ownBlock = some g → B g) ∧ SmC w b B el cs)
def SmC (w : World) (b : Nat) (B : Nat → Prop) : List Sm → List Value → Prop
 | [], cs => cs = []
 | s :: l, cs => ∃ vs ds, cs = vs ++ ds ∧ SmAt w b B s vs ∧ SmC w b B l ds
end
def Off (w : World) (b : Nat) (B : Nat → Prop) (S : List Nat) : Prop := ∀ y ∈ S, y ≤ b ∨ (¬ B y ∧ NotT w y 74 ∧ NotT w y 105 ∧ NotT w y 170)
mutual
theorem SmAt.keep {w w' : World} {b : Nat} {B : Nat → Prop} {S : List Nat} (hk : Keeps S w w') (hS : Off w b B S) : ∀ (s : Sm) (vs : List Value), SmAt w b B s vs → SmAt w' b B s vs
 | .mk kd x y e f c args th el a, vs, h => by
  obtain ⟨ve, vf, vc, va, vt, vl, h1, h2, h3, h4, h5, ⟨c1, h6, h7, h8⟩, ⟨c2, h9, h10, h11⟩⟩ := h
  have s1 : ∀ y ∈ S, y ≤ b ∨ NotT w y 74 := fun y hy => (hS y hy).imp id (fun h => h.2.1)
  have s2 : ∀ y ∈ S, y ≤ b ∨ NotT w y 105 := fun y hy => (hS y hy).imp id (fun h => h.2.2.1)
  have s3 : ∀ y ∈ S, y ≤ b ∨ NotT w y 170 := fun y hy => (hS y hy).imp id (fun h => h.2.2.2)
  have hrow : ∀ {v : Value} {n : Nat} {cs : List Value}, w.ownsRow (b + 1) 60 10 v n cs → (∀ g, v.ownBlock = some g → B g) → w'.ownsRow (b + 1) 60 10 v n cs := fun h hB =>
   owned_keep h hk (fun g hg hm => by
    have := (rowOf h hg).1
    rcases hS _ hm with h3 | h3
    · omega
    · exact h3.1 (hB g hg))
  refine ⟨ve, vf, vc, va, vt, vl, h1, ?_, ?_, ?_, h5.keepT hk s1 s3, ⟨c1, hrow h6 h7, h7, SmC.keep hk hS th c1 h8⟩, ⟨c2, hrow h9 h10, h10, SmC.keep hk hS el c2 h11⟩⟩
  ·
   cases e with
   | none => exact h2
   | some e => exact ExAt.keepT hk s1 h2
  ·
   cases f with
   | none => exact h3
   | some e => exact ExAt.keepT hk s1 h3
  ·
   cases c with
   | none => exact h4
   | some e => exact CnAt.keepT hk s1 s2 h4
theorem SmC.keep {w w' : World} {b : Nat} {B : Nat → Prop} {S : List Nat} (hk : Keeps S w w') (hS : Off w b B S) : ∀ (l : List Sm) (cs : List Value), SmC w b B l cs → SmC w' b B l cs
 | [], _, h => h
 | s :: l, _, ⟨vs, ds, h1, h2, h3⟩ => ⟨vs, ds, h1, SmAt.keep hk hS s vs h2, SmC.keep hk hS l ds h3⟩
end
mutual
theorem SmAt.wider {w : World} {b : Nat} {B B' : Nat → Prop} (hB : ∀ g, B g → B' g) : ∀ (s : Sm) (vs : List Value), SmAt w b B s vs → SmAt w b B' s vs
 | .mk kd x y e f c args th el a, vs, h => by
  obtain ⟨ve, vf, vc, va, vt, vl, h1, h2, h3, h4, h5, ⟨c1, h6, h7, h8⟩, ⟨c2, h9, h10, h11⟩⟩ := h
  exact ⟨ve, vf, vc, va, vt, vl, h1, h2, h3, h4, h5, ⟨c1, h6, fun g hg => hB g (h7 g hg), SmC.wider hB th c1 h8⟩, ⟨c2, h9, fun g hg => hB g (h10 g hg), SmC.wider hB el c2 h11⟩⟩
theorem SmC.wider {w : World} {b : Nat} {B B' : Nat → Prop} (hB : ∀ g, B g → B' g) : ∀ (l : List Sm) (cs : List Value), SmC w b B l cs → SmC w b B' l cs
 | [], _, h => h
 | s :: l, _, ⟨vs, ds, h1, h2, h3⟩ => ⟨vs, ds, h1, SmAt.wider hB s vs h2, SmC.wider hB l ds h3⟩
end
theorem SmC.snoc {w : World} {b : Nat} {B : Nat → Prop} {s : Sm} {vs : List Value} (hs : SmAt w b B s vs) : ∀ (l : List Sm) (cs : List Value), SmC w b B l cs → SmC w b B (l ++ [s]) (cs ++ vs)
 | [], cs, h => by rw [show cs = [] from h]; exact ⟨vs, [], by simp, hs, rfl⟩
 | s' :: l, cs, ⟨v', r, h1, h2, h3⟩ => by rw [h1]; exact ⟨v', r ++ vs, by simp, h2, SmC.snoc hs l r h3⟩
theorem wp_app {ops : Array Oper} {rest : List Oper} {o : Oper} {a : Act} {Q : Exit → Act → World → Prop} {w : World} (hgd : o.guard = none) (s x : Operand) (St Et : TypeId)
 (ho : o.op = .call { callee := .builtin .append, args := #[s, x], argTypes := #[St, St] }) (i : TypeInfo) (z : Value) (sz bytes : Nat) (hst : Tryz.prog.underlying St = some (.slice Et)) (hP : Tryz.prog.info? Et = some i) (hP0 : i.zero = some z) (hP1 : i.size = sz) (hP2 : i.bytes = bytes)
 (hzs : z.cells.size = sz) (hsz : 0 < sz) (hby : bytes ≤ 1000) (v : Value) (n base : Nat) (xs : List Value) (hs : a.eval s = v) (hown : w.ownsRow base Et sz v n xs) (c : Nat) (news : List Value) (hx : a.eval x = .slice (some ⟨w.heap.size, 0, none⟩) 1 c)
 (hnl : news.length = sz) (h1 : ∀ u ∈ news, u.oneCell' = true) (hn : n ≤ 100000) (hbase : base ≤ w.heap.size)
 (h : ∀ v' w', w'.ownsRow base Et sz v' (n + 1) (xs ++ news) → Keeps v.ownBlock.toList w w' → (v'.ownBlock = v.ownBlock ∨ v'.ownBlock = some (w.heap.size + 1)) → w.heap.size + 1 ≤ w'.heap.size → wpList Tryz.prog ops Q rest (a.put o.dst v') w') :
 wpList Tryz.prog ops Q (o :: rest) a (w.alloc (.cells news.toArray Et)) := by
 have hnb : (n + 1) * bytes ≤ 140737488355328 := Nat.le_trans (Nat.mul_le_mul (show n + 1 ≤ 100001 by omega) hby) (by omega)
 refine wpList_append_own_at _ hgd s x St ho base Et i z sz bytes hst hP hP0 hP1 hP2 hzs hsz v n xs hs (hown.alloc _) ⟨w.heap.size, 0, none⟩ 1 c news hx (by omega) ?_ h1 (by unfold maxLen; omega) hnb (by simp; omega) ?_
 ·
  intro j u hj
  rw [Addr.add_lit, Nat.zero_add, row_cell (heap_alloc_new w _)]
  simpa using hj
 ·
  intro v' w' q1 q2 _ q4
  have hsz2 : (w.alloc (.cells news.toArray Et)).heap.size = w.heap.size + 1 := by simp
  rw [hsz2] at q4
  have hk := Keeps.of_grown q2
  exact h v' w' q1 (((Keeps.refl _ w).alloc _).trans hk (fun _ h _ => h)) q4 (by have := hk.size; omega)
theorem ExAt.keepb {w w' : World} {b : Nat} {e : Ex} {v : Value} (h : ExAt w b e v) (hk : Keeps [b] w w') : ExAt w' b e v := h.keep hk (by simp)
theorem CnAt.keepb {w w' : World} {b : Nat} {e : Cn} {v : Value} (h : CnAt w b e v) (hk : Keeps [b] w w') : CnAt w' b e v := h.keep hk (by simp)
theorem row_slice {w : World} {base : Nat} {T : TypeId} {sz n : Nat} {v : Value} {xs : List Value} (h : w.ownsRow base T sz v n xs) : ∃ A c, v = .slice A n c := by
 rcases h.2 with ⟨rfl, rfl⟩ | ⟨g, cap, cur, rfl, _⟩
 · exact ⟨none, 0, rfl⟩
 · exact ⟨_, _, rfl⟩
theorem ArgsAt.form {w : World} {b : Nat} {l : List Ex} {v : Value} (h : ArgsAt w b l v) : ∃ A c, v = .slice A l.length c := by
 obtain ⟨vs, h1, _⟩ := h
 exact row_slice h1
theorem OEx.ptr {w : World} {b : Nat} {e : Option Ex} {v : Value} (h : OEx w b e v) : ∃ q, v = .pointer q := by
 cases e with
 | none => exact ⟨none, h⟩
 | some e => obtain ⟨x, hx⟩ := ExAt.ptr h; exact ⟨_, hx⟩
theorem OCn.ptr {w : World} {b : Nat} {e : Option Cn} {v : Value} (h : OCn w b e v) : ∃ q, v = .pointer q := by
 cases e with
 | none => exact ⟨none, h⟩
 | some e => obtain ⟨x, hx⟩ := CnAt.ptr h; exact ⟨_, hx⟩
theorem SmAt.form {w : World} {b : Nat} {B : Nat → Prop} {s : Sm} {vs : List Value} (h : SmAt w b B s vs) : ∃ (kd : Int) (x y : ByteArray) (qe qf qc : Option Addr) (Aa : Option Addr) (na ca : Nat) (At : Option Addr) (nt ct : Nat) (Al : Option Addr) (nl cl : Nat) (a : Int),
 vs = [.int .i64 kd, .string x, .string y, .pointer qe, .pointer qf, .pointer qc, .slice Aa na ca, .slice At nt ct, .slice Al nl cl, .int .i64 a] := by
 obtain ⟨kd, x, y, e, f, c, args, th, el, a⟩ := s
 obtain ⟨ve, vf, vc, va, vt, vl, rfl, h2, h3, h4, h5, ⟨c1, h6, h7, h8⟩, ⟨c2, h9, h10, h11⟩⟩ := h
 obtain ⟨qe, rfl⟩ := h2.ptr
 obtain ⟨qf, rfl⟩ := h3.ptr
 obtain ⟨qc, rfl⟩ := h4.ptr
 obtain ⟨Aa, ca, rfl⟩ := h5.form
 obtain ⟨At, ct, rfl⟩ := row_slice h6
 obtain ⟨Al, cl, rfl⟩ := row_slice h9
 exact ⟨_, _, _, _, _, _, _, _, _, _, _, _, _, _, _, _, rfl⟩
theorem SmAt.withX {w : World} {b : Nat} {B : Nat → Prop} {s : Sm} {x' : Tx} {v0 v1 : Value} {vr : List Value} (h : SmAt w b B s (v0 :: v1 :: vr)) : SmAt w b B (s.withX x') (v0 :: .string (strO x') :: vr) := by
 obtain ⟨kd, x, y, e, f, c, args, th, el, a⟩ := s
 obtain ⟨ve, vf, vc, va, vt, vl, h1, h2⟩ := h
 injection h1 with h0 h1
 injection h1 with _ h1
 subst h0 h1
 exact ⟨ve, vf, vc, va, vt, vl, rfl, h2⟩
theorem SmAt.withAt {w : World} {b : Nat} {B : Nat → Prop} {s : Sm} {a' : Nat} {v0 v1 v2 v3 v4 v5 v6 v7 v8 v9 : Value} (h : SmAt w b B s [v0, v1, v2, v3, v4, v5, v6, v7, v8, v9]) : SmAt w b B (s.withAt a') [v0, v1, v2, v3, v4, v5, v6, v7, v8, .int .i64 (a' : Int)] := by
 obtain ⟨kd, x, y, e, f, c, args, th, el, a⟩ := s
 obtain ⟨ve, vf, vc, va, vt, vl, h1, h2⟩ := h
 simp only [List.cons.injEq] at h1
 obtain ⟨rfl, rfl, rfl, rfl, rfl, rfl, rfl, rfl, rfl, _⟩ := h1
 exact ⟨_, _, _, _, _, _, rfl, h2⟩
theorem SmAt.alloc {w : World} {b : Nat} {B : Nat → Prop} {s : Sm} {vs : List Value} (h : SmAt w b B s vs) (obj : Obj) : SmAt (w.alloc obj) b B s vs := SmAt.keep ((Keeps.refl [] _).alloc _) (fun y hy => by simp at hy) _ _ h
theorem SmAt.keepb {w w' : World} {b : Nat} {B : Nat → Prop} {s : Sm} {vs : List Value} (h : SmAt w b B s vs) (hk : Keeps [b] w w') : SmAt w' b B s vs := SmAt.keep hk (fun y hy => by simp at hy; omega) _ _ h
theorem PAt.keepHi {S : List Nat} {w w' : World} {b n o k : Nat} {ts : List Tok} (h : PAt w b n ts o k) (hk : Keeps S w w') (hS : ∀ y ∈ S, b < y) : PAt w' b n ts o k := by
 obtain ⟨hg, A, cap, g, h1, h2, h3, h4, h5⟩ := h
 exact ⟨hg, A, cap, g, block_keep h1 hk (fun h => by have := hS _ h; omega), h2.keep hk (fun h => by have := hS _ h; omega), h3, h4, h5⟩
theorem Keeps.hi {S T : List Nat} {w w1 w' : World} (h : Keeps S w w1) (hk : Keeps T w1 w') (hT : ∀ y ∈ T, w.heap.size ≤ y) : Keeps S w w' :=
 h.trans hk (fun i hi hl => by have := hT i hi; omega)
theorem owned_mono {w : World} {base base' : Nat} {T : TypeId} {sz n : Nat} {v : Value} {xs : List Value} (h : w.ownsRow base T sz v n xs) (hb : base' ≤ base) : w.ownsRow base' T sz v n xs := by
 refine ⟨h.1, ?_⟩
 rcases h.2 with h1 | ⟨g, cap, cur, h1, h2, h3⟩
 · exact .inl h1
 · exact .inr ⟨g, cap, cur, h1, by omega, h3⟩
def UnitAt (_ : World) (_ : Nat) (_ : Unit) (v : Value) : Prop := v = .tuple #[]
def StrAt (_ : World) (_ : Nat) (s : Tx) (v : Value) : Prop := v = .string (strO s)
theorem pass_rp (w : World) (b n o k : Nat) (ts : List Tok) (h : PAt w b n ts o k) (s : Tx) (hs : s ≠ []) :
 Calls Tryz.prog 76 #[pp b, .string (strO s)] w (RP UnitAt (fun _ => k) w b n o (Px.passR s ts)) := by
 unfold Px.passR
 by_cases hy : Px.sees ts s = true
 ·
  rw [if_pos hy]
  exact (pass_yes w b n o k ts h s hs hy).mono fun e w' ⟨h1, h2, h3⟩ => ⟨_, h1, rfl, h2, h3⟩
 ·
  rw [if_neg hy]
  refine (pass_no w b n o k ts h s (by simpa using hy)).mono fun e w' ⟨h1, h2⟩ => ?_
  subst h2
  exact ⟨h1, ⟨_, _, h⟩, Keeps.refl _ _⟩
theorem name_rp (w : World) (b n o k : Nat) (ts : List Tok) (h : PAt w b n ts o k) :
 Calls Tryz.prog 77 #[pp b] w (RP StrAt (fun _ => k) w b n o (Px.nameR ts)) := by
 unfold Px.nameR
 by_cases hy : Px.isName ts = true
 ·
  rw [if_pos hy]
  exact (name_yes w b n o k ts h hy).mono fun e w' ⟨h1, h2, h3⟩ => ⟨_, h1, rfl, h2, h3⟩
 ·
  rw [if_neg hy]
  refine (name_no w b n o k ts h (by simpa using hy)).mono fun e w' ⟨h1, h2⟩ => ?_
  subst h2
  exact ⟨h1, ⟨_, _, h⟩, Keeps.refl _ _⟩
end
section
open Go.RowKit Go.Shelf
open Lx (Tok Tx)
open Px (Ex Cn Sm)
theorem nt3 {w : World} {y : Nat} {U : TypeId} {cs : Array Value} {fz : Nat × Nat} (h : Hid (w.heap[y]? = some (.cells cs U fz))) (h1 : U ≠ 74 := by decide) (h2 : U ≠ 105 := by decide) (h3 : U ≠ 170 := by decide) : NotT w y 74 ∧ NotT w y 105 ∧ NotT w y 170 := ⟨NotT.of h.out h1, NotT.of h.out h2, NotT.of h.out h3⟩
theorem zH {S T : List Nat} {w w1 w' : World} (h : Hid (Keeps S w w1)) (hk : Keeps T w1 w') (hT : ∀ y ∈ T, w.heap.size ≤ y := by have := HX.out; simp <;> omega) : Hid (Keeps S w w') := Lib.hid (h.out.hi hk hT)
theorem zk {S T : List Nat} {w w1 w' : World} (h : Hid (Keeps S w w1)) (hk : Keeps T w1 w') (hT : ∀ y ∈ T, w.heap.size ≤ y := by exact fun y hy => by have := hin _ hy; have := HX.out; have := HBS.out; omega) : Hid (Keeps S w w') := Lib.hid (h.out.hi hk hT)
theorem zR1 {p q : Prop} (h : Hid p) (e : p = q := by first | (simp only [Px.bind_ok]; done) | (simp only [Px.bind_ok]; rfl)) : Hid q := e ▸ h
theorem own_list {S : List Nat} {w w' : World} {base n : Nat} {e : TypeId} {size : Nat} {v : Value} {xs : List Value} (h : w.ownsRow base e size v n xs) (hk : Keeps S w w') (hn : ∀ g, base ≤ g → g ∉ S) : w'.ownsRow base e size v n xs := owned_keep h hk (fun _ hg => hn _ (rowOf h hg).1)
theorem zP {α : Type} {A : Option α} {S : List Nat} {w w' : World} {base : Nat} {n : α → Nat} {e : TypeId} {size : Nat} {v : Value} {xs : α → List Value} (h : Hid (∀ ps, A = some ps → w.ownsRow base e size v (n ps) (xs ps))) (hk : Keeps S w w') (hn : ∀ g, base ≤ g → g ∉ S := by exact fun g hg hm => by have := HX.out; simp at hm <;> omega) : Hid (∀ ps, A = some ps → w'.ownsRow base e size v (n ps) (xs ps)) := Lib.hid (fun ps q => own_list (h.out ps q) hk hn)
theorem zQ {α : Type} {A : Option α} {S : List Nat} {w w' : World} {base : Nat} {n : α → Nat} {e : TypeId} {size : Nat} {v : Value} {xs : α → List Value} (h : Hid (∀ ps, A = some ps → w.ownsRow base e size v (n ps) (xs ps))) (hk : Keeps S w w') (hn : ∀ g, base ≤ g → g ∉ S := by exact fun g hg hm => by have := HX.out; have := HBS.out; simp at hm <;> omega) : Hid (∀ ps, A = some ps → w'.ownsRow base e size v (n ps) (xs ps)) := Lib.hid (fun ps q => own_list (h.out ps q) hk hn)
theorem zO {S : List Nat} {w w' : World} {base n : Nat} {e : TypeId} {size : Nat} {v : Value} {xs : List Value} (h : Hid (w.ownsRow base e size v n xs)) (hk : Keeps S w w') (hn : ∀ g, base ≤ g → g ∉ S := by exact fun g hg hm => by have := HX.out; have := HBS.out; simp at hm <;> omega) : Hid (w'.ownsRow base e size v n xs) := Lib.hid (own_list h.out hk hn)
theorem zR {S : List Nat} {w w' : World} {base n : Nat} {e : TypeId} {size : Nat} {v : Value} {xs : List Value} (h : Hid (w.ownsRow base e size v n xs)) (hk : Keeps S w w') (hn : ∀ g, base ≤ g → g ∉ S := by exact fun g hg hm => by have := HX.out; simp at hm <;> omega) : Hid (w'.ownsRow base e size v n xs) := Lib.hid (own_list h.out hk hn)
theorem start_p {w : World} {b n o k : Nat} {ts : List Tok} (h : PAt w b n ts o k) : Hid (PAt (w.alloc (.cells #[.int .i64 0, .string .empty, .string .empty, .pointer none, .pointer none, .pointer none, .slice none 0 0, .slice none 0 0, .slice none 0 0, .int .i64 0] 60)) b n ts o k) ∧ Hid (Keeps [b] w (w.alloc (.cells #[.int .i64 0, .string .empty, .string .empty, .pointer none, .pointer none, .pointer none, .slice none 0 0, .slice none 0 0, .slice none 0 0, .int .i64 0] 60))) ∧ Hid ((w.alloc (.cells #[.int .i64 0, .string .empty, .string .empty, .pointer none, .pointer none, .pointer none, .slice none 0 0, .slice none 0 0, .slice none 0 0, .int .i64 0] 60)).heap[w.heap.size]? = some (.cells #[.int .i64 0, .string .empty, .string .empty, .pointer none, .pointer none, .pointer none, .slice none 0 0, .slice none 0 0, .slice none 0 0, .int .i64 0] 60 (0, 0))) := ⟨Lib.hid (h.keep ((Keeps.refl [] _).alloc _)), Lib.hid ((Keeps.refl [b] w).alloc _), Lib.hid (heap_alloc_new _ _)⟩
end
section
set_option maxHeartbeats 2000000
set_option maxRecDepth 100000
open Go.RowKit Go.Shelf
open Lx (Tok Tx)
open Px (Ex Cn Sm)
theorem index_any (w : World) (b n o k : Nat) (ts : List Tok) (f : Nat) (h : PAt w b n ts o k) (ho2 : o ≤ 1000) (hf : 4 * ts.length + 6 ≤ f) :
 Calls Tryz.prog 209 #[pp b] w (RP ExAt (fun _ => k) w b n o (Px.index f o ts)) := by
 obtain ⟨R, hR⟩ : ∃ R, R = (Px.index f o ts) := ⟨_, rfl⟩
 rw [← hR]
 unfold Px.index Px.want at hR
 have HR := Hd hR
 have HF := Hd hf
 have H0 := Hd h
 have HK0 := Hd (Keeps.refl [b] w)
 have hbl := h.lt
 have HBL := Hd hbl
 have hmf := hmf0
 clear h hf hR hbl
 go_enter Tryz.func209, Tryz.ntmps209
 have HC0 := Hd (fun w' (h' : PAt w' b n (ts) o k) => pass_rp w' b n o k (ts) h' [91] (by simp))
 have hlen := fun a r (h : Px.passR [91] ts = .ok a r) => Px.passR_len (by simp) h
 have hR := HR.out
 obtain ⟨rr, hrr⟩ : ∃ x, x = Px.passR [91] ts := ⟨_, rfl⟩
 rw [← hrr] at HC0 hlen hR
 have HR := Hd hR
 have HLEN := Hd hlen
 clear hR hlen hrr
 go_wp2_with fail
 refine (HC0.out _ H0.out).mono ?_
 intro e w1 hr
 cases rr with
 | err z r =>
  obtain ⟨rfl, H4, H5⟩ := zE hr HK0
  go_wp2
  rw [HR.out]
  exact ⟨rfl, rfl, H4.out, H5.out⟩
 | ok a1 r1 =>
  obtain ⟨v1, rfl, h3, h4, h5⟩ := hr
  have HL1 := Hd (HLEN.out a1 r1 rfl)
  have HR := zR1 HR
  obtain rfl : v1 = .tuple #[] := h3
  have HW1 := Hd h4
  have HKW1 := zV HK0 h5
  have HSTEP1 := Hd h5
  clear h4 h5
  have HC1 := Hd (fun w' (h' : PAt w' b n (r1) o k) => sum_any w' b n o k (r1) f h' ho2 (by have := HF.out; have := HL1.out; omega))
  have hlen := fun a r (h : Px.sum f o r1 = .ok a r) => Px.sum_len h
  have hR := HR.out
  obtain ⟨rr, hrr⟩ : ∃ x, x = Px.sum f o r1 := ⟨_, rfl⟩
  rw [← hrr] at HC1 hlen hR
  have HR := Hd hR
  have HLEN := Hd hlen
  clear hR hlen hrr
  go_wp2_with fail
  refine (HC1.out _ HW1.out).mono ?_
  intro e w2 hr
  cases rr with
  | err z r =>
   obtain ⟨rfl, H4, H5⟩ := zE hr HKW1
   go_wp2
   rw [HR.out]
   exact ⟨rfl, rfl, H4.out, H5.out⟩
  | ok a2 r2 =>
   obtain ⟨v2, rfl, h3, h4, h5⟩ := hr
   have HL2 := Hd (HLEN.out a2 r2 rfl)
   have HR := zR1 HR
   have E2 := Hd h3
   obtain ⟨x2, rfl⟩ := h3.ptr
   clear h3
   have HW2 := Hd h4
   have HKW2 := zV HKW1 h5
   have HSTEP2 := Hd h5
   clear h4 h5
   have HC2 := Hd (fun w' (h' : PAt w' b n (r2) o k) => pass_rp w' b n o k (r2) h' [93] (by simp))
   have hlen := fun a r (h : Px.passR [93] r2 = .ok a r) => Px.passR_len (by simp) h
   have hR := HR.out
   obtain ⟨rr, hrr⟩ : ∃ x, x = Px.passR [93] r2 := ⟨_, rfl⟩
   rw [← hrr] at HC2 hlen hR
   have HR := Hd hR
   have HLEN := Hd hlen
   clear hR hlen hrr
   go_wp2_with fail
   refine (HC2.out _ HW2.out).mono ?_
   intro e w3 hr
   cases rr with
   | err z r =>
    obtain ⟨rfl, H4, H5⟩ := zE hr HKW2
    go_wp2
    rw [HR.out]
    exact ⟨rfl, rfl, H4.out, H5.out⟩
   | ok a3 r3 =>
    obtain ⟨v3, rfl, h3, h4, h5⟩ := hr
    have HL3 := Hd (HLEN.out a3 r3 rfl)
    have HR := zR1 HR
    have E2 := Hd (E2.out.keepb h5)
    obtain rfl : v3 = .tuple #[] := h3
    have HW3 := Hd h4
    have HKW3 := zV HKW2 h5
    have HSTEP3 := Hd h5
    clear h4 h5
    go_wp2_with fail
    go_ret
    rw [HR.out]
    exact ⟨_, rfl, E2.out, HW3.out, HKW3.out⟩
theorem test_any (w : World) (b n o k : Nat) (ts : List Tok) (f : Nat) (h : PAt w b n ts o k) (ho2 : o ≤ 1000) (hf : 4 * ts.length + 6 ≤ f) :
 Calls Tryz.prog 177 #[pp b] w (RP CnAt (fun _ => k) w b n o (Px.test f o ts)) := by
 obtain ⟨R, hR⟩ : ∃ R, R = (Px.test f o ts) := ⟨_, rfl⟩
 rw [← hR]
 unfold Px.test Px.want at hR
 have HR := Hd hR
 have HF := Hd hf
 have H0 := Hd h
 have HK0 := Hd (Keeps.refl [b] w)
 have hbl := h.lt
 have HBL := Hd hbl
 have hmf := hmf0
 clear h hf hR hbl
 go_enter Tryz.func177, Tryz.ntmps177
 have HC0 := Hd (fun w' (h' : PAt w' b n (ts) o k) => pass_rp w' b n o k (ts) h' [40] (by simp))
 have hlen := fun a r (h : Px.passR [40] ts = .ok a r) => Px.passR_len (by simp) h
 have hR := HR.out
 obtain ⟨rr, hrr⟩ : ∃ x, x = Px.passR [40] ts := ⟨_, rfl⟩
 rw [← hrr] at HC0 hlen hR
 have HR := Hd hR
 have HLEN := Hd hlen
 clear hR hlen hrr
 go_wp2_with fail
 refine (HC0.out _ H0.out).mono ?_
 intro e w1 hr
 cases rr with
 | err z r =>
  obtain ⟨rfl, H4, H5⟩ := zE hr HK0
  go_wp2
  rw [HR.out]
  exact ⟨rfl, rfl, H4.out, H5.out⟩
 | ok a1 r1 =>
  obtain ⟨v1, rfl, h3, h4, h5⟩ := hr
  have HL1 := Hd (HLEN.out a1 r1 rfl)
  have HR := zR1 HR
  obtain rfl : v1 = .tuple #[] := h3
  have HW1 := Hd h4
  have HKW1 := zV HK0 h5
  have HSTEP1 := Hd h5
  clear h4 h5
  have HC1 := Hd (fun w' (h' : PAt w' b n (r1) o k) => cond_any w' b n o k (r1) f h' ho2 (by have := HF.out; have := HL1.out; omega))
  have hlen := fun a r (h : Px.cond f o r1 = .ok a r) => Px.cond_len h
  have hR := HR.out
  obtain ⟨rr, hrr⟩ : ∃ x, x = Px.cond f o r1 := ⟨_, rfl⟩
  rw [← hrr] at HC1 hlen hR
  have HR := Hd hR
  have HLEN := Hd hlen
  clear hR hlen hrr
  go_wp2_with fail
  refine (HC1.out _ HW1.out).mono ?_
  intro e w2 hr
  cases rr with
  | err z r =>
   obtain ⟨rfl, H4, H5⟩ := zE hr HKW1
   go_wp2
   rw [HR.out]
   exact ⟨rfl, rfl, H4.out, H5.out⟩
  | ok a2 r2 =>
   obtain ⟨v2, rfl, h3, h4, h5⟩ := hr
   have HL2 := Hd (HLEN.out a2 r2 rfl)
   have HR := zR1 HR
   have E2 := Hd h3
   obtain ⟨x2, rfl⟩ := h3.ptr
   clear h3
   have HW2 := Hd h4
   have HKW2 := zV HKW1 h5
   have HSTEP2 := Hd h5
   clear h4 h5
   have HC2 := Hd (fun w' (h' : PAt w' b n (r2) o k) => pass_rp w' b n o k (r2) h' [41] (by simp))
   have hlen := fun a r (h : Px.passR [41] r2 = .ok a r) => Px.passR_len (by simp) h
   have hR := HR.out
   obtain ⟨rr, hrr⟩ : ∃ x, x = Px.passR [41] r2 := ⟨_, rfl⟩
   rw [← hrr] at HC2 hlen hR
   have HR := Hd hR
   have HLEN := Hd hlen
   clear hR hlen hrr
   go_wp2_with fail
   refine (HC2.out _ HW2.out).mono ?_
   intro e w3 hr
   cases rr with
   | err z r =>
    obtain ⟨rfl, H4, H5⟩ := zE hr HKW2
    go_wp2
    rw [HR.out]
    exact ⟨rfl, rfl, H4.out, H5.out⟩
   | ok a3 r3 =>
    obtain ⟨v3, rfl, h3, h4, h5⟩ := hr
    have HL3 := Hd (HLEN.out a3 r3 rfl)
    have HR := zR1 HR
    have E2 := Hd (E2.out.keepb h5)
    obtain rfl : v3 = .tuple #[] := h3
    have HW3 := Hd h4
    have HKW3 := zV HKW2 h5
    have HSTEP3 := Hd h5
    clear h4 h5
    go_wp2_with fail
    go_ret
    rw [HR.out]
    exact ⟨_, rfl, E2.out, HW3.out, HKW3.out⟩
theorem sets_end {w w' : World} {x : Nat} {cs : Array Value} {T : TypeId} {Q : World → Prop} (_ : w.heap[x]? = some (.cells cs T (0, 0))) (hk : Keeps [x] w w') (h : ∀ W, Keeps [x] w W → Q W) : Q w' := h w' hk
def ArgAt (w : World) (b : Nat) (e : Ex) (v : Value) : Prop := ∃ u, v = .agg #[.bool false, .string .empty, u] ∧ ExAt w b e u
theorem arg_any (w : World) (b n o k : Nat) (ts : List Tok) (f : Nat) (h : PAt w b n ts o k) (ho2 : o ≤ 1000) (hf : 4 * ts.length + 6 ≤ f) (j : Int) :
 Calls Tryz.prog 211 #[pp b, .int .i64 j] w (RP ArgAt (fun _ => k) w b n o ((Px.sum f o ts).bind fun e r => .ok e r)) := by
 obtain ⟨R, hR⟩ : ∃ R, R = ((Px.sum f o ts).bind fun e r => .ok e r) := ⟨_, rfl⟩
 rw [← hR]
 have HR := Hd hR
 have HF := Hd hf
 have H0 := Hd h
 have HK0 := Hd (Keeps.refl [b] w)
 have hbl := h.lt
 have HBL := Hd hbl
 have hmf := hmf0
 have H0 := Hd (h.keep ((Keeps.refl [] w).alloc (.cells #[.bool false, .string .empty, .pointer none] 170)))
 have HK0 := Hd ((Keeps.refl [b] w).alloc (.cells #[.bool false, .string .empty, .pointer none] 170))
 clear h hf hR hbl
 go_enter Tryz.func211, Tryz.ntmps211
 have HC0 := Hd (fun w' (h' : PAt w' b n (ts) o k) => sum_any w' b n o k (ts) f h' ho2 (by have := HF.out; omega))
 have hlen := fun a r (h : Px.sum f o ts = .ok a r) => Px.sum_len h
 have hR := HR.out
 obtain ⟨rr, hrr⟩ : ∃ x, x = Px.sum f o ts := ⟨_, rfl⟩
 rw [← hrr] at HC0 hlen hR
 have HR := Hd hR
 have HLEN := Hd hlen
 clear hR hlen hrr
 go_wp2_with fail
 refine (HC0.out _ H0.out).mono ?_
 intro e w1 hr
 cases rr with
 | err z r =>
  obtain ⟨rfl, H4, H5⟩ := zE hr HK0
  go_wp2
  rw [HR.out]
  exact ⟨rfl, rfl, H4.out, H5.out⟩
 | ok a1 r1 =>
  obtain ⟨v1, rfl, h3, h4, h5⟩ := hr
  have HL1 := Hd (HLEN.out a1 r1 rfl)
  have HR := zR1 HR
  have E1 := Hd h3
  obtain ⟨x1, rfl⟩ := h3.ptr
  clear h3
  have HW1 := Hd h4
  have HKW1 := zV HK0 h5
  have HSTEP1 := Hd h5
  clear h4 h5
  have hrow := block_keep (heap_alloc_new w (.cells #[.bool false, .string .empty, .pointer none] 170)) HSTEP1.out (by have := HBL.out; simp; omega)
  obtain ⟨c0, f0⟩ := rowi hrow 0
  obtain ⟨c1, f1⟩ := rowi hrow 1
  obtain ⟨c2, f2⟩ := rowi hrow 2
  have HROW := Hd hrow
  clear hrow
  go_wp2_with fail
  refine bodyPost_ret (v := .agg #[.bool false, .string ⟨#[]⟩, .pointer (some ⟨x1, 0, none⟩)]) (by simp [results, Tryz.results211, go_sem, c0, c1, c2]) rfl ?_
  refine sets_end HROW.out (w' := _) (T := 170) ?_ ?_
  ·
   repeat (refine Keeps.setCell ?_ (by simp) _)
   exact Keeps.refl _ _
  ·
   intro W hk
   have hnt : ∀ y ∈ [w.heap.size], y ≤ b ∨ NotT w1 y 74 := fun y hy => .inr (by
    obtain rfl : y = w.heap.size := by simpa using hy
    exact NotT.of HROW.out (by decide))
   rw [HR.out]
   exact ⟨_, rfl, ⟨_, rfl, E1.out.keepT hk hnt⟩, HW1.out.keepHi hk (by have := HBL.out; simpa using this), HKW1.out.hi hk (by simp)⟩
end
section
set_option maxHeartbeats 4000000
set_option maxRecDepth 100000
open Go.RowKit Go.Shelf
open Lx (Tok Tx)
open Px (Ex Cn Sm)
theorem args_any (w : World) (b n o k : Nat) (ts : List Tok) (f : Nat) (h : PAt w b n ts o k) (ho2 : o ≤ 1000) (hf : 4 * ts.length + 6 ≤ f) :
 Calls Tryz.prog 210 #[pp b, .func (.func 211) #[pp b] #[]] w (RP ArgsAt (fun _ => k) w b n o (Px.args f o ts)) := by
 obtain ⟨R, hR⟩ : ∃ R, R = Px.args f o ts := ⟨_, rfl⟩
 rw [← hR]
 unfold Px.args Px.want at hR
 have HF := Hd hf
 have HBL := Hd h.lt
 have HLN := Hd h.1.len
 have HC := Hd (pass_rp w b n o k ts h [40] (by simp))
 have hlen := fun a r (h : Px.passR [40] ts = .ok a r) => Px.passR_len (by simp) h
 obtain ⟨rr, hrr⟩ : ∃ x, x = Px.passR [40] ts := ⟨_, rfl⟩
 rw [← hrr] at HC hlen hR
 have HR := Hd hR
 have HLEN := Hd hlen
 obtain ⟨iP, hP, hP0, hP1, hP2⟩ := info_parts infoArg
 clear hR hlen hrr h hf
 go_enter Tryz.func210, Tryz.ntmps210
 go_wp2_with fail
 refine (HC.out).mono ?_
 intro e w1 hr
 cases rr with
 | err z r =>
  obtain ⟨rfl, h4, h5⟩ := hr
  have H4 := Hd h4
  have H5 := Hd h5
  clear h4 h5
  go_wp2
  rw [HR.out]
  exact ⟨rfl, rfl, H4.out, H5.out⟩
 | ok a1 r1 =>
  obtain ⟨v1, rfl, h3, h4, h5⟩ := hr
  obtain rfl : v1 = .tuple #[] := h3
  have HL1 := Hd (HLEN.out a1 r1 rfl)
  have hR := HR.out
  simp only [Px.bind_ok] at hR
  have HR := Hd hR
  have HW1 := Hd h4
  have HK1 := Hd h5
  clear hR h4 h5
  go_wp2_with fail
  go_loopw [5] (fun lv wr => ∃ (g : Nat) (l : List Ex) (r : List Tok) (vs : List Value), r.length + 1 ≤ g ∧ r.length < ts.length ∧ l.length + r.length ≤ 5000 ∧ wr.ownsRow w.heap.size 170 3 lv l.length (argCells vs) ∧ ExsAt wr b l vs ∧ PAt wr b n r o k ∧ Keeps [b] w wr ∧ Px.argsL f o g l r = R) (fun _ wr => leftOf wr b)
  case atStart => exact ⟨f, [], r1, [], by have := HF.out; have := HL1.out; omega, HL1.out, by have := HW1.out.1.len; simpa using this, World.ownsRow_nil _ _ _ _, rfl, HW1.out, HK1.out, HR.out.symm⟩
  case round =>
   obtain ⟨g, l, r, vs, hg, hrl, hll, hown, hex, hp, hk, hd⟩ := hrel
   match g, hg with
   | g + 1, hg =>
   have HG := Hd hg
   have HRL := Hd hrl
   have HLL := Hd hll
   have HOWN := Hd hown
   have HEX := Hd hex
   have HP := Hd hp
   have HK := Hd hk
   obtain ⟨A, c, rfl⟩ := row_slice hown
   unfold Px.argsL at hd
   clear hg hrl hll hown hex hp hk
   by_cases hs : Px.sees r [41] = true
   ·
    rw [if_pos hs] at hd
    have HD := Hd hd
    have HS := Hd (fun w' (h' : PAt w' b n r o k) => sees_any w' b n o k r h' [41])
    rw [hs] at HS
    have HY := Hd (fun w' (h' : PAt w' b n r o k) => pass_yes w' b n o k r h' [41] (by simp) hs)
    clear hs hd
    go_wp2_with fail
    refine (same (HS.out _ HP.out)) ?_
    go_wp2_with fail
    refine (HY.out _ HP.out).mono ?_
    rintro e w3 ⟨rfl, h6, h7⟩
    have H6 := Hd h6
    have H7 := Hd h7
    clear h6 h7
    go_wp2_with fail
    go_ret
    rw [← HD.out]
    have hbl := HBL.out
    exact ⟨_, rfl, ⟨vs, (owned_mono (owned_keep HOWN.out H7.out (fun g hg hm => by have := (rowOf HOWN.out hg).1; simp at hm; omega)) (by omega)), HEX.out.keepT H7.out (by simp)⟩, H6.out, HK.out.trans H7.out (fun _ h _ => h)⟩
   ·
    have hs' : Px.sees r [41] = false := by simpa using hs
    rw [if_neg hs] at hd
    have HS := Hd (fun w' (h' : PAt w' b n r o k) => sees_any w' b n o k r h' [41])
    rw [hs'] at HS
    clear hs hs'
    by_cases hl0 : l.length = 0
    ·
     rw [if_pos hl0] at hd
     obtain rfl : l = [] := List.eq_nil_of_length_eq_zero hl0
     have HD := Hd hd
     clear hd hl0
     have HU := Hd (fun w' (h' : PAt w' b n (r) o k) (j : Int) => arg_any w' b n o k (r) f h' ho2 (by have := HF.out; have := HRL.out;  omega) j)
     have hlen := fun aa qq (h : Px.sum f o (r) = .ok aa qq) => Px.sum_len h
     have hR := HD.out
     obtain ⟨rr, hrr⟩ : ∃ x, x = Px.sum f o (r) := ⟨_, rfl⟩
     rw [← hrr] at HU hlen hR
     have HD := Hd hR
     have HLEN := Hd hlen
     clear hR hlen hrr
     go_wp2_with fail
     refine (same (HS.out _ HP.out)) ?_
     go_wp2_with fail
     refine (HU.out _ HP.out _).mono ?_
     intro e w4 hr
     cases rr with
     | err z r =>
      obtain ⟨rfl, H4, H5⟩ := zE hr HK
      go_wp2
      rw [← HD.out]
      exact ⟨rfl, rfl, H4.out, H5.out⟩
     | ok e1 r2 =>
      obtain ⟨v4, rfl, ⟨ve, hve, h3⟩, h4, h5⟩ := hr
      subst hve
      obtain ⟨x4, rfl⟩ := h3.ptr
      have HEE := Hd h3
      have HP4 := Hd h4
      have HL4 := Hd (HLEN.out e1 r2 rfl)
      have HK4 := zV HK h5
      have HOWN4 := Hd (owned_keep HOWN.out h5 (fun g hg hm => by have := (rowOf HOWN.out hg).1; have := HBL.out; simp at hm; omega))
      have HEX4 := Hd (HEX.out.keepT h5 (by simp))
      have hR := HD.out
      simp only [Px.bind_ok] at hR
      have HD := Hd hR
      have hl5 : 0 ≤ 100000 := by omega
      have hwsz : w.heap.size ≤ w4.heap.size := HK4.out.size
      clear hR h3 h4 h5
      go_wp2_with (at_builtin; refine wp_app rfl _ _ 58 170 rfl iP (.agg #[.bool false, .string .empty, .pointer none]) 3 32 Tryz.underlying58 hP hP0 hP1 hP2 rfl (by decide) (by decide) (.slice A 0 c) 0 w.heap.size (argCells vs) rfl HOWN4.out 1 [.bool false, .string ⟨#[]⟩, .pointer (some ⟨x4, 0, none⟩)] rfl rfl ?qa1 hl5 hwsz ?_)
      case qa1 => intro u hu; simp at hu; rcases hu with rfl | rfl | rfl <;> rfl
      intro v' w5 hown' hk5 _ hsz5
      have HP5 := Hd (HP4.out.keepHi hk5 (fun y hy => by have := (rowOf HOWN4.out (by simpa using hy)).1; have := HBL.out; omega))
      have HK5 := Hd (HK4.out.hi hk5 (fun y hy => (rowOf HOWN4.out (by simpa using hy)).1))
      have hnt : ∀ y ∈ (Value.slice A 0 c).ownBlock.toList, y ≤ b ∨ NotT w4 y 74 := fun y hy => .inr (by
       obtain ⟨_, cur, hcur⟩ := rowOf HOWN4.out (by simpa using hy)
       exact NotT.of hcur (by decide))
      have HEX5 := Hd ((HEX4.out.keepT hk5 hnt).snoc (HEE.out.keepT hk5 hnt))
      have hown6 : w5.ownsRow w.heap.size 170 3 v' (([] : List Ex) ++ [e1]).length (argCells (vs ++ [.pointer (some ⟨x4, 0, none⟩)])) := by
       rw [argCells_snoc, List.length_append]
       exact hown'
      have HOWN6 := Hd hown6
      clear hown' hk5 hown6 hnt hl5 hwsz
      go_wp2_with fail
      go_roundw
      · exact ⟨g, ([] : List Ex) ++ [e1], r2, vs ++ [.pointer (some ⟨x4, 0, none⟩)], by have := HL4.out; have := HG.out;  omega, by have := HL4.out; have := HRL.out;  omega, by have := HL4.out; have := HLL.out; simp at this ⊢; omega, HOWN6.out, HEX5.out, HP5.out, HK5.out, HD.out⟩
      ·
       rw [HP5.out.leftOf, HP.out.leftOf]
       have := HL4.out;  omega
    ·
     rw [if_neg hl0] at hd
     have hc0 : decide ((0 : Int) < ((l.length : Nat) : Int)) = true := decide_eq_true (by omega)
     have HC2 := Hd (fun w' (h' : PAt w' b n r o k) => pass_rp w' b n o k r h' [44] (by simp))
     have hlen := fun a r3 (h : Px.passR [44] r = .ok a r3) => Px.passR_len (by simp) h
     obtain ⟨rr0, hrr⟩ : ∃ x, x = Px.passR [44] r := ⟨_, rfl⟩
     unfold Px.want at hd
     rw [← hrr] at HC2 hlen hd
     have HD := Hd hd
     have HLEN0 := Hd hlen
     clear hd hlen hrr
     go_wp2_with fail
     refine (same (HS.out _ HP.out)) ?_
     go_wp2_with fail
     refine (HC2.out _ HP.out).mono ?_
     intro e w3 hr
     cases rr0 with
     | err z r =>
      obtain ⟨rfl, H4, H5⟩ := zE hr HK
      go_wp2
      rw [← HD.out]
      exact ⟨rfl, rfl, H4.out, H5.out⟩
     | ok a3 r3 =>
      obtain ⟨v3, rfl, h3, h4, h5⟩ := hr
      obtain rfl : v3 = .tuple #[] := h3
      have HL3 := Hd (HLEN0.out a3 r3 rfl)
      have hR := HD.out
      simp only [Px.bind_ok] at hR
      have HD := Hd hR
      have HP3 := Hd h4
      have HK3 := zV HK h5
      have HOWN3 := Hd (owned_keep HOWN.out h5 (fun g hg hm => by have := (rowOf HOWN.out hg).1; have := HBL.out; simp at hm; omega))
      have HEX3 := Hd (HEX.out.keepT h5 (by simp))
      clear hR h4 h5
      have HU := Hd (fun w' (h' : PAt w' b n (r3) o k) (j : Int) => arg_any w' b n o k (r3) f h' ho2 (by have := HF.out; have := HRL.out; have := HL3.out; omega) j)
      have hlen := fun aa qq (h : Px.sum f o (r3) = .ok aa qq) => Px.sum_len h
      have hR := HD.out
      obtain ⟨rr, hrr⟩ : ∃ x, x = Px.sum f o (r3) := ⟨_, rfl⟩
      rw [← hrr] at HU hlen hR
      have HD := Hd hR
      have HLEN := Hd hlen
      clear hR hlen hrr
      go_wp2_with fail
      refine (HU.out _ HP3.out _).mono ?_
      intro e w4 hr
      cases rr with
      | err z r =>
       obtain ⟨rfl, H4, H5⟩ := zE hr HK3
       go_wp2
       rw [← HD.out]
       exact ⟨rfl, rfl, H4.out, H5.out⟩
      | ok e1 r2 =>
       obtain ⟨v4, rfl, ⟨ve, hve, h3⟩, h4, h5⟩ := hr
       subst hve
       obtain ⟨x4, rfl⟩ := h3.ptr
       have HEE := Hd h3
       have HP4 := Hd h4
       have HL4 := Hd (HLEN.out e1 r2 rfl)
       have HK4 := zV HK3 h5
       have HOWN4 := Hd (owned_keep HOWN3.out h5 (fun g hg hm => by have := (rowOf HOWN3.out hg).1; have := HBL.out; simp at hm; omega))
       have HEX4 := Hd (HEX3.out.keepT h5 (by simp))
       have hR := HD.out
       simp only [Px.bind_ok] at hR
       have HD := Hd hR
       have hl5 : l.length ≤ 100000 := by have := HLL.out; omega
       have hwsz : w.heap.size ≤ w4.heap.size := HK4.out.size
       clear hR h3 h4 h5
       go_wp2_with (at_builtin; refine wp_app rfl _ _ 58 170 rfl iP (.agg #[.bool false, .string .empty, .pointer none]) 3 32 Tryz.underlying58 hP hP0 hP1 hP2 rfl (by decide) (by decide) (.slice A l.length c) l.length w.heap.size (argCells vs) rfl HOWN4.out 1 [.bool false, .string ⟨#[]⟩, .pointer (some ⟨x4, 0, none⟩)] rfl rfl ?qa1 hl5 hwsz ?_)
       case qa1 => intro u hu; simp at hu; rcases hu with rfl | rfl | rfl <;> rfl
       intro v' w5 hown' hk5 _ hsz5
       have HP5 := Hd (HP4.out.keepHi hk5 (fun y hy => by have := (rowOf HOWN4.out (by simpa using hy)).1; have := HBL.out; omega))
       have HK5 := Hd (HK4.out.hi hk5 (fun y hy => (rowOf HOWN4.out (by simpa using hy)).1))
       have hnt : ∀ y ∈ (Value.slice A l.length c).ownBlock.toList, y ≤ b ∨ NotT w4 y 74 := fun y hy => .inr (by
        obtain ⟨_, cur, hcur⟩ := rowOf HOWN4.out (by simpa using hy)
        exact NotT.of hcur (by decide))
       have HEX5 := Hd ((HEX4.out.keepT hk5 hnt).snoc (HEE.out.keepT hk5 hnt))
       have hown6 : w5.ownsRow w.heap.size 170 3 v' (l ++ [e1]).length (argCells (vs ++ [.pointer (some ⟨x4, 0, none⟩)])) := by
        rw [argCells_snoc, List.length_append]
        exact hown'
       have HOWN6 := Hd hown6
       clear hown' hk5 hown6 hnt hl5 hwsz
       go_wp2_with fail
       go_roundw
       · exact ⟨g, l ++ [e1], r2, vs ++ [.pointer (some ⟨x4, 0, none⟩)], by have := HL4.out; have := HG.out; have := HL3.out; omega, by have := HL4.out; have := HRL.out; have := HL3.out; omega, by have := HL4.out; have := HLL.out; have := HL3.out; simp; omega, HOWN6.out, HEX5.out, HP5.out, HK5.out, HD.out⟩
       ·
        rw [HP5.out.leftOf, HP.out.leftOf]
        have := HL4.out; have := HL3.out; omega
end
end Go.Proofs.YtbikifibfaaggaaGreatDoor
