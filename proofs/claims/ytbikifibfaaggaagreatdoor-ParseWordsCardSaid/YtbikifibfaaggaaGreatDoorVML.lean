import Derived.Orders
import Derived.Below
import Derived.KernelRfl
import Derived.Tactics2
namespace Go.Proofs.YtbikifibfaaggaaGreatDoor.Reg
open Go Go.RowKit
abbrev Fact := Value → World → Prop
def Is (u : Value) : Fact := fun v _ => v = u
def at_ (Fs : List Fact) (i : Nat) : Fact := Fs.getD i (fun _ _ => True)
def Deps (Fs : List Fact) (vs : Nat → Value) (w : World) : List Edge → Prop
 | [] => True
 | e :: r => (Region.binds .any e = true → at_ Fs e.on (vs e.on) w) ∧ Deps Fs vs w r
def All (vs : Nat → Value) (w : World) : List Fact → Nat → Prop
 | [], _ => True
 | F :: r, i => F (vs i) w ∧ All vs w r (i + 1)
def fill (a : Act) : List Oper → Nat → (Nat → Bool) → (Nat → Value) → Act
 | [], _, _, _ => a
 | o :: rest, i, L, vs => fill (if L i then a.put o.dst (vs i) else a) rest (i + 1) L vs
def Gives (P : Program) (K : Value → World → Prop) : Result Next → Prop
 | .ok (.value v) w' => K v w'
 | .ok .skip w' => K undef w'
 | .ok (.enter f args) w' => Calls P f args w' fun e w'' => ∃ v, e = .returned v ∧ K v w''
 | .ok (.row row args) w' => Rows P row args w' K
 | _ => False
section
variable (P : Program) (K : Value → World → Prop) (w : World)
theorem gives_value (v : Value) : Gives P K (.ok (.value v) w) = K v w := rfl
theorem gives_skip : Gives P K (.ok .skip w) = K undef w := rfl
theorem gives_enter (f : FuncId) (args : Array Value) : Gives P K (.ok (.enter f args) w) = Calls P f args w fun e w'' => ∃ v, e = .returned v ∧ K v w'' := rfl
end
def wantedV (o : Oper) (vs : Nat → Value) : Bool :=
 match o.guard with
 | none => true
 | some (g, want) => (match vs g with | .bool b => some b | _ => none) == some want
def awaits (o : Oper) (j : Nat) : Bool := o.after.any fun e => Region.binds .any e && e.on == j
def lateFor (ops : Array Oper) (o : Oper) (k : Nat) : Bool :=
 match ops[k]? with
 | some p => (match p.dst with | some d => (o.looksAt ops).contains d && !awaits o k | none => false)
 | none => false
def tidy (n : Nat) (ops : Array Oper) : Bool :=
 Region.noSelect ops && (List.range ops.size).all fun i => match ops[i]? with
  | none => true
  | some o => (match o.dst with | some d => decide (d < n) | none => true) && (match o.guard with | some (g, _) => (((ops[g]?).bind (·.dst)).isSome) && awaits o g | none => true) && o.after.all (fun e => !Region.binds .any e || decide (e.on < i)) &&
   (List.range ops.size).all fun j => match ops[j]? with
    | none => true
    | some p => (j == i || (match o.dst with | some d => p.dst != some d | none => true)) && (!lateFor ops o j || awaits p i)
section
variable {P : Program} {ops : Array Oper} {n : Nat}
theorem tidy_spec (h : tidy n ops = true) {i : Nat} {o : Oper} (hi : ops[i]? = some o) :
 (∀ d, o.dst = some d → d < n) ∧ (∀ g b, o.guard = some (g, b) → ∃ p d, ops[g]? = some p ∧ p.dst = some d ∧ awaits o g = true) ∧ (∀ e ∈ o.after, Region.binds .any e = true → e.on < i) ∧
 ∀ j p, ops[j]? = some p → (j ≠ i → ∀ d, o.dst = some d → p.dst ≠ some d) ∧ (lateFor ops o j = true → awaits p i = true) := by
 unfold tidy at h
 rw [Bool.and_eq_true, List.all_eq_true] at h
 have hlt : i < ops.size := (Array.getElem?_eq_some_iff.1 hi).1
 have h1 := h.2 i (List.mem_range.2 hlt)
 simp only [hi, Bool.and_eq_true, List.all_eq_true, List.mem_range] at h1
 obtain ⟨⟨⟨h2, h2'⟩, h3⟩, h4⟩ := h1
 refine ⟨fun d hd => by simpa [hd] using h2, fun g b hg => ?_, fun e he hb => ?_, fun j p hj => ?_⟩
 ·
  simp only [hg, Bool.and_eq_true] at h2'
  cases hp : ops[g]? with
  | none => simp [hp] at h2'
  | some p =>
   cases hd : p.dst with
   | none => simp [hp, hd] at h2'
   | some d => exact ⟨p, d, rfl, hd, h2'.2⟩
 ·
  have := Array.all_eq_true_iff_forall_mem.1 h3 e he
  simpa [hb] using this
 ·
  have h5 := h4 j (Array.getElem?_eq_some_iff.1 hj).1
  simp only [hj, Bool.and_eq_true, Bool.or_eq_true, beq_iff_eq] at h5
  refine ⟨fun hne d hd => ?_, fun hl => ?_⟩
  ·
   rcases h5.1 with h6 | h6
   · exact absurd h6 hne
   · simpa [hd] using h6
  · simpa [hl] using h5.2
theorem awaits_spec {o : Oper} {j : Nat} (h : awaits o j = true) : ∃ e ∈ o.after, Region.binds .any e = true ∧ e.on = j := by
 obtain ⟨e, he, hb⟩ := Array.any_eq_true'.1 h
 exact ⟨e, he, by simpa using hb⟩
theorem noSelect_of (h : tidy n ops = true) : Region.noSelect ops = true := by
 unfold tidy at h
 rw [Bool.and_eq_true] at h
 exact h.1
def Agree (S : Nat → Prop) (a b : Act) : Prop := a.defers = b.defers ∧ a.tmps.size = b.tmps.size ∧ ∀ t, ¬ S t → a.tmps[t]? = b.tmps[t]?
theorem Agree.refl (S : Nat → Prop) (a : Act) : Agree S a a := ⟨rfl, rfl, fun _ _ => rfl⟩
theorem Agree.put {S : Nat → Prop} {a b : Act} (h : Agree S a b) (d : Option Tmp) (v : Value) : Agree S (a.put d v) (b.put d v) := by
 cases d with
 | none => exact h
 | some d =>
  refine ⟨h.1, by simpa [Act.put] using h.2.1, fun t ht => ?_⟩
  simp only [Act.put, Array.getElem?_setIfInBounds, h.2.1, h.2.2 t ht]
theorem Agree.put_left {S : Nat → Prop} {a b : Act} (h : Agree S a b) {d : Option Tmp} (hd : ∀ t, d = some t → S t) (v : Value) : Agree S a (b.put d v) := by
 cases d with
 | none => exact h
 | some d =>
  refine ⟨h.1, by simpa [Act.put] using h.2.1, fun t ht => ?_⟩
  have hne : d ≠ t := fun e => ht (e ▸ hd d rfl)
  simp only [Act.put, Array.getElem?_setIfInBounds_ne hne]
  exact h.2.2 t ht
theorem Agree.eval {S : Nat → Prop} {a b : Act} (h : Agree S a b) {x : Operand} (hx : ∀ t, x = .tmp t → ¬ S t) : a.eval x = b.eval x := by
 cases x with
 | tmp t => simp [Act.eval, h.2.2 t (hx t rfl)]
 | _ => rfl
theorem Agree.exec {S : Nat → Prop} {a b : Act} (h : Agree S a b) {o : Oper} (hs : ∀ cs b, o.op ≠ .select cs b) (hl : ∀ t, t ∈ o.looksAt ops → ¬ S t) : execOp a.eval o = execOp b.eval o :=
 execOp_congr o hs fun x hx => h.eval fun t ht => hl t (by
  subst ht
  exact List.mem_append_left _ (List.mem_filterMap.2 ⟨.tmp t, by simpa using hx, rfl⟩))
theorem fill_size (vs : Nat → Value) (L : Nat → Bool) : ∀ (l : List Oper) (i : Nat) (a : Act), (fill a l i L vs).tmps.size = a.tmps.size
 | [], _, _ => rfl
 | o :: rest, i, a => by
  unfold fill
  rw [fill_size vs L rest (i + 1)]
  by_cases hL : L i = true
  · rw [if_pos hL]; cases o.dst <;> simp [Act.put]
  · rw [if_neg hL]
theorem fill_agree (vs : Nat → Value) (L M : Nat → Bool) (S : Nat → Prop) : ∀ (l : List Oper) (i : Nat) (a b : Act), Agree S a b →
 (∀ k o, l[k]? = some o → L (i + k) ≠ M (i + k) → ∀ t, o.dst = some t → S t) → Agree S (fill a l i L vs) (fill b l i M vs)
 | [], _, _, _, h, _ => h
 | o :: rest, i, a, b, h, hS => by
  unfold fill
  refine fill_agree vs L M S rest (i + 1) _ _ ?_ fun k o' hk hne => hS (k + 1) o' (by simpa using hk) (by rw [show i + (k + 1) = i + 1 + k by omega]; exact hne)
  have h0 := hS 0 o (by simp)
  simp only [Nat.add_zero] at h0
  by_cases hL : L i = true <;> by_cases hM : M i = true
  · rw [if_pos hL, if_pos hM]; exact h.put _ _
  ·
   rw [if_pos hL, if_neg hM]
   have := h0 (by simp [hL, hM])
   have h1 : Agree S b a := ⟨h.1.symm, h.2.1.symm, fun t ht => (h.2.2 t ht).symm⟩
   have h2 := h1.put_left this (vs i)
   exact ⟨h2.1.symm, h2.2.1.symm, fun t ht => (h2.2.2 t ht).symm⟩
  ·
   rw [if_neg hL, if_pos hM]
   exact h.put_left (h0 (by simp [hL, hM])) _
  · rw [if_neg hL, if_neg hM]; exact h
theorem fill_congr (vs us : Nat → Value) (L M : Nat → Bool) : ∀ (l : List Oper) (i : Nat) (a : Act), (∀ k, k < l.length → L (i + k) = M (i + k) ∧ (L (i + k) = true → vs (i + k) = us (i + k))) →
 fill a l i L vs = fill a l i M us
 | [], _, _, _ => rfl
 | o :: rest, i, a, h => by
  unfold fill
  have h0 := h 0 (by simp)
  simp only [Nat.add_zero] at h0
  have e : (if L i then a.put o.dst (vs i) else a) = (if M i then a.put o.dst (us i) else a) := by
   rw [← h0.1]
   by_cases hL : L i = true
   · rw [if_pos hL, if_pos hL, h0.2 hL]
   · rw [if_neg hL, if_neg hL]
  rw [e]
  exact fill_congr vs us L M rest (i + 1) _ fun k hk => by
   have := h (k + 1) (by simpa using hk)
   rwa [show i + (k + 1) = i + 1 + k by omega] at this
theorem fill_put (vs : Nat → Value) (L : Nat → Bool) (d : Option Tmp) (v : Value) : ∀ (l : List Oper) (i : Nat) (a : Act),
 (∀ k o, l[k]? = some o → L (i + k) = true → ∀ t, d = some t → o.dst ≠ some t) → fill (a.put d v) l i L vs = (fill a l i L vs).put d v
 | [], _, _, _ => rfl
 | o :: rest, i, a, h => by
  unfold fill
  have hrest : ∀ k o', rest[k]? = some o' → L (i + 1 + k) = true → ∀ t, d = some t → o'.dst ≠ some t := fun k o' hk hL => h (k + 1) o' (by simpa using hk) (by rwa [show i + (k + 1) = i + 1 + k by omega])
  by_cases hL : L i = true
  ·
   have hd : ∀ t, d = some t → o.dst ≠ some t := h 0 o (by simp) (by simpa using hL)
   rw [if_pos hL, if_pos hL, ← fill_put vs L d v rest (i + 1) _ hrest]
   rw [Act.put_comm a v (vs i) hd]
  ·
   rw [if_neg hL, if_neg hL]
   exact fill_put vs L d v rest (i + 1) a hrest
theorem fill_next (vs : Nat → Value) (L : Nat → Bool) : ∀ (l : List Oper) (i : Nat) (a : Act) (j : Nat) (o : Oper) (v : Value), l[j]? = some o → L (i + j) = false →
 (∀ k p, l[k]? = some p → k ≠ j → ∀ t, o.dst = some t → p.dst ≠ some t) →
 (fill a l i L vs).put o.dst v = fill a l i (fun k => L k || k == i + j) (fun k => if k = i + j then v else vs k)
 | [], _, _, _, _, _, h, _, _ => by simp at h
 | p :: rest, i, a, 0, o, v, h, hL, hd => by
  obtain rfl : p = o := by simpa using h
  simp only [Nat.add_zero] at hL ⊢
  unfold fill
  have e : (fun k => if k = i then v else vs k) i = v := if_pos rfl
  rw [if_neg (by simp [hL]), if_pos (by simp), e, ← fill_put]
  ·
   refine fill_congr _ _ _ _ rest (i + 1) _ fun k hk => ⟨?_, fun _ => ?_⟩
   ·
    have : (i + 1 + k == i) = false := by simp; omega
    simp [this]
   · rw [if_neg (by omega)]
  ·
   intro k q hk _ t ht
   exact hd (k + 1) q (by simpa using hk) (by omega) t ht
 | p :: rest, i, a, j + 1, o, v, h, hL, hd => by
  unfold fill
  have hne : ¬ i = i + (j + 1) := by omega
  have e1 : (L i || i == i + (j + 1)) = L i := by simp
  simp only [e1, if_neg hne]
  rw [fill_next vs L rest (i + 1) _ j o v (by simpa using h) (by rwa [show i + 1 + j = i + (j + 1) by omega]) (fun k q hk hkj => hd (k + 1) q (by simpa using hk) (by omega))]
  rw [show i + 1 + j = i + (j + 1) by omega]
theorem fill_get (vs : Nat → Value) (L : Nat → Bool) : ∀ (l : List Oper) (i : Nat) (a : Act) (j : Nat) (o : Oper) (d : Nat), l[j]? = some o → o.dst = some d → d < a.tmps.size → L (i + j) = true →
 (∀ k p, l[k]? = some p → k ≠ j → p.dst ≠ some d) → (fill a l i L vs).tmps[d]? = some (vs (i + j))
 | [], _, _, _, _, _, h, _, _, _, _ => by simp at h
 | p :: rest, i, a, 0, o, d, h, hd, hs, hL, hne => by
  obtain rfl : p = o := by simpa using h
  unfold fill
  rw [if_pos (by simpa using hL), fill_put vs L p.dst (vs i) rest (i + 1) a (fun k q hk _ t ht => by
   rw [hd] at ht
   cases ht
   exact hne (k + 1) q (by simpa using hk) (by omega))]
  rw [hd]
  have : d < (fill a rest (i + 1) L vs).tmps.size := by rw [fill_size]; exact hs
  simp [Act.put, this]
 | p :: rest, i, a, j + 1, o, d, h, hd, hs, hL, hne => by
  unfold fill
  rw [fill_get vs L rest (i + 1) _ j o d (by simpa using h) hd (by
   by_cases hLi : L i = true
   · rw [if_pos hLi]; cases p.dst <;> simpa [Act.put] using hs
   · rw [if_neg hLi]; exact hs) (by rwa [show i + 1 + j = i + (j + 1) by omega]) (fun k q hk hkj => hne (k + 1) q (by simpa using hk) (by omega))]
  rw [show i + 1 + j = i + (j + 1) by omega]
theorem deps_of {Fs : List Fact} {vs : Nat → Value} {w : World} : ∀ {l : List Edge}, (∀ e ∈ l, Region.binds .any e = true → at_ Fs e.on (vs e.on) w) → Deps Fs vs w l
 | [], _ => trivial
 | e :: r, h => ⟨h e (by simp), deps_of fun e' he' => h e' (by simp [he'])⟩
theorem all_of {vs : Nat → Value} {w : World} : ∀ {Fs : List Fact} {i : Nat}, (∀ k, k < Fs.length → at_ Fs k (vs (i + k)) w) → All vs w Fs i
 | [], _, _ => trivial
 | F :: r, i, h => ⟨by have := h 0 (by simp); simpa [at_] using this, all_of fun k hk => by
  have := h (k + 1) (by simpa using hk)
  rw [show i + (k + 1) = i + 1 + k by omega] at this
  simpa [at_] using this⟩
theorem filter_le {p q : Nat → Bool} (h : ∀ k, q k = true → p k = true) : ∀ l : List Nat, (l.filter q).length ≤ (l.filter p).length
 | [] => Nat.le_refl _
 | k :: l => by
  have := filter_le h l
  by_cases hq : q k = true
  · simp [hq, h k hq]; omega
  ·
   by_cases hp : p k = true
   · simp [hq, hp]; omega
   · simp [hq, hp]; omega
theorem filter_lt {p q : Nat → Bool} (h : ∀ k, q k = true → p k = true) {i : Nat} (hp : p i = true) (hq : q i = false) : ∀ {l : List Nat}, i ∈ l → (l.filter q).length < (l.filter p).length
 | [], hm => by simp at hm
 | k :: l, hm => by
  by_cases hk : i = k
  ·
   subst hk
   have := filter_le h l
   simp [hq, hp]; omega
  ·
   have := filter_lt h hp hq (l := l) (by simpa [hk] using hm)
   by_cases hqk : q k = true
   · simp [hqk, h k hqk]; omega
   ·
    by_cases hpk : p k = true
    · simp [hqk, hpk]; omega
    · simp [hqk, hpk]; omega
def left (ops : Array Oper) (listed : Array Bool) : Nat := ((List.range ops.size).filter fun i => !listed.getD i false).length
theorem wp_of_gives {o : Oper} {a b : Act} {w : World} {K0 : Value → World → Prop} {K : Act → World → Prop} {Q : Exit → Act → World → Prop} (he : execOp b.eval o = execOp a.eval o)
 (h : Gives P K0 ((execOp a.eval o).run P w)) (hk : ∀ v w', K0 v w' → K (b.put o.dst v) w') : o.wp P b w K Q := by
 unfold Oper.wp
 rw [he]
 generalize (execOp a.eval o).run P w = r at *
 cases r with
 | ok n w' =>
  cases n <;> simp only [Gives] at h <;> simp only [Oper.upon]
  case value v => exact hk _ _ h
  case skip => exact hk _ _ h
  case enter f args =>
   refine Calls.mono h fun e w'' he => ?_
   obtain ⟨v, rfl, hv⟩ := he
   exact hk _ _ hv
  case row row args => exact Rows.mono h fun v w'' hv => hk _ _ hv
 | halt x w' => cases x <;> simp only [Gives] at h
def upd (vs : Nat → Value) (i : Nat) (v : Value) : Nat → Value := fun k => if k = i then v else vs k
def lay (L : Nat → Bool) (i : Nat) : Nat → Bool := fun k => L k || k == i
def OblI (P : Program) (Inv : (Nat → Bool) → (Nat → Value) → World → Prop) (fr : Nat → (Nat → Value) → Act) (o : Oper) (i : Nat) : Prop :=
 ∀ (L : Nat → Bool) (vs : Nat → Value) (w : World), Inv L vs w → L i = false → (∀ e ∈ o.after.toList, Region.binds .any e = true → L e.on = true) →
  ∀ K : Value → World → Prop, (∀ v w', Inv (lay L i) (upd vs i v) w' → K v w') →
   if wantedV o vs = true then Gives P K ((execOp (fr i vs).eval o).run P w) else K undef w
def OblsI (P : Program) (Inv : (Nat → Bool) → (Nat → Value) → World → Prop) (fr : Nat → (Nat → Value) → Act) : List Oper → Nat → Prop
 | [], _ => True
 | o :: rest, i => OblI P Inv fr o i ∧ OblsI P Inv fr rest (i + 1)
theorem oblI_of {Inv : (Nat → Bool) → (Nat → Value) → World → Prop} {fr : Nat → (Nat → Value) → Act} : ∀ {l : List Oper} {i : Nat}, OblsI P Inv fr l i → ∀ k o, l[k]? = some o → OblI P Inv fr o (i + k)
 | [], _, _, _, _, h => by simp at h
 | p :: rest, i, h, 0, o, hk => by
  obtain rfl : p = o := by simpa using hk
  exact h.1
 | p :: rest, i, h, k + 1, o, hk => by
  have := oblI_of h.2 k o (by simpa using hk)
  rwa [show i + 1 + k = i + (k + 1) by omega] at this
def seen (listed : Array Bool) : Nat → Bool := fun k => listed.getD k true
def Frames (ops : Array Oper) (a0 : Act) (fr : Nat → (Nat → Value) → Act) : Prop :=
 ∀ i o, ops[i]? = some o → ∀ vs, Agree (fun t => t ∉ o.looksAt ops) (fill a0 ops.toList 0 (fun k => !lateFor ops o k) vs) (fr i vs)
theorem any_order {Inv : (Nat → Bool) → (Nat → Value) → World → Prop} {a0 : Act} {Q : Exit → Act → World → Prop} {fr : Nat → (Nat → Value) → Act} (ht : tidy a0.tmps.size ops = true) (hfr : Frames ops a0 fr)
 (ho : ∀ i o, ops[i]? = some o → OblI P Inv fr o i)
 (hend : ∀ vs w, Inv (fun _ => true) vs w → Q .normal (fill a0 ops.toList 0 (fun _ => true) vs) w) :
 ∀ (fuel : Nat) (listed : Array Bool) (vs : Nat → Value) (w : World), listed.size = ops.size → left ops listed ≤ fuel →
  (∀ i o, ops[i]? = some o → listed.getD i false = true → ∀ e ∈ o.after, Region.binds .any e = true → listed.getD e.on false = true) → Inv (seen listed) vs w →
  wpAny P .any ops Q fuel listed (fill a0 ops.toList 0 (fun i => listed.getD i false) vs) w := by
 have hdone : ∀ (listed : Array Bool) (vs : Nat → Value) (w : World), listed.size = ops.size → Inv (seen listed) vs w →
  (∀ i, i < ops.size → listed.getD i false = true) → Q .normal (fill a0 ops.toList 0 (fun i => listed.getD i false) vs) w := by
  intro listed vs w hs hI hall
  have e := fill_congr vs vs (fun i => listed.getD i false) (fun _ => true) ops.toList 0 a0 fun k hk => ⟨by simpa using hall k (by simpa using hk), fun _ => rfl⟩
  rw [e]
  have e2 : seen listed = fun _ => true := by
   funext k
   unfold seen
   by_cases hk : k < ops.size
   ·
    have := hall k hk
    simpa [hs, hk] using this
   · simp [hs, hk]
  rw [e2] at hI
  exact hend vs w hI
 have hready : ∀ (listed : Array Bool), listed.size = ops.size → Region.ready .any ops listed = [] → ∀ i, i < ops.size → listed.getD i false = true := by
  intro listed hs h0 i
  induction i using Nat.strongRecOn with
  | _ i ih =>
   intro hi
   rcases hb : listed.getD i false with _ | _
   ·
    exfalso
    have hm : i ∈ Region.ready .any ops listed := by
     refine mem_ready.2 ⟨by rw [← hb]; simp [hs, hi], ops[i], Array.getElem?_eq_getElem hi, fun e he hbd => ?_⟩
     have := (tidy_spec ht (Array.getElem?_eq_getElem hi)).2.2.1 e he hbd
     exact ih e.on this (by omega)
    rw [h0] at hm
    cases hm
   · rfl
 intro fuel
 induction fuel with
 | zero =>
  intro listed vs w hs hn _ hI
  have hall : ∀ i, i < ops.size → listed.getD i false = true := by
   intro i hi
   have h0 : (List.range ops.size).filter (fun i => !listed.getD i false) = [] := List.eq_nil_of_length_eq_zero (by unfold left at hn; omega)
   have := List.filter_eq_nil_iff.1 h0 i (List.mem_range.2 hi)
   simpa using this
  refine ⟨?_, hdone listed vs w hs hI hall⟩
  refine List.eq_nil_iff_forall_not_mem.2 fun i hi => ?_
  obtain ⟨h1, o, h2, _⟩ := mem_ready.1 hi
  have hlt := (Array.getElem?_eq_some_iff.1 h2).1
  have h3 := hall i hlt
  simp [hs, hlt] at h1 h3
  rw [h1] at h3
  cases h3
 | succ fuel ih =>
  intro listed vs w hs hn hcl hI
  refine ⟨fun h0 => hdone listed vs w hs hI (hready listed hs h0), fun i hi => ?_⟩
  obtain ⟨hun, o, hoi, hall⟩ := mem_ready.1 hi
  obtain ⟨-, tg, t2, t3⟩ := tidy_spec ht hoi
  have hlt := (Array.getElem?_eq_some_iff.1 hoi).1
  have hun' : listed.getD i false = false := by simpa [hs, hlt] using hun
  have hli : ops.toList[i]? = some o := by simpa using hoi
  have hag0 := fill_agree vs (fun k => listed.getD k false) (fun k => !lateFor ops o k) (fun t => t ∉ o.looksAt ops) ops.toList 0 a0 a0 (Agree.refl _ _)
   (fun k p hk hne t hd hm => by
    rw [Nat.zero_add] at hne
    have hkp : ops[k]? = some p := by simpa using hk
    by_cases haw : awaits o k = true
    ·
     obtain ⟨e, he, hb, rfl⟩ := awaits_spec haw
     refine hne ?_
     rw [hall e he hb]
     simp [lateFor, hkp, hd, haw]
    ·
     have hlate : lateFor ops o k = true := by simp [lateFor, hkp, hd, haw, hm]
     have h2 := (t3 k p hkp).2 hlate
     obtain ⟨e, he, hb, hei⟩ := awaits_spec h2
     refine hne ?_
     rw [hlate]
     rcases hl : listed.getD k false with _ | _
     · rfl
     ·
      have := hcl k p hkp hl e he hb
      rw [hei, hun'] at this
      cases this)
  have hag1 := hfr i o hoi vs
  have hag : Agree (fun t => t ∉ o.looksAt ops) (fill a0 ops.toList 0 (fun k => listed.getD k false) vs) (fr i vs) :=
   ⟨hag0.1.trans hag1.1, hag0.2.1.trans hag1.2.1, fun t ht => (hag0.2.2 t ht).trans (hag1.2.2 t ht)⟩
  have hlook : ∀ t, t ∈ o.looksAt ops → ¬ t ∉ o.looksAt ops := fun t h hn => hn h
  have hex := hag.exec (Region.noSelect_spec (noSelect_of ht) i o · · hoi) hlook
  have hob := ho i o hoi (seen listed) vs w hI hun (fun e he hb => by
   have h1 := hall e (by simpa using he) hb
   have h2 := t2 e (by simpa using he) hb
   unfold seen
   have : e.on < ops.size := by omega
   simpa [hs, this] using h1)
  have hnext : ∀ v' w', Inv (lay (seen listed) i) (upd vs i v') w' →
   wpAny P .any ops Q fuel (listed.setIfInBounds i true) ((fill a0 ops.toList 0 (fun k => listed.getD k false) vs).put o.dst v') w' := by
   intro v' w' hI'
   have e2 := fill_next vs (fun k => listed.getD k false) ops.toList 0 a0 i o v' hli (by simpa using hun') (fun k p hk hne t ht' => by
    have := (t3 k p (by simpa using hk)).1 hne t ht'
    exact this)
   rw [e2]
   have e3 := fill_congr (fun k => if k = 0 + i then v' else vs k) (upd vs i v') (fun k => listed.getD k false || k == 0 + i) (fun k => (listed.setIfInBounds i true).getD k false) ops.toList 0 a0 fun k hk => ⟨by
    simp only [Nat.zero_add]
    by_cases hki : k = i
    · subst hki; simp [hs, hlt]
    · rw [getD_set_ne false (fun e => hki e.symm)]; simp [hki], fun _ => by simp only [Nat.zero_add]; rfl⟩
   rw [e3]
   have e4 : seen (listed.setIfInBounds i true) = lay (seen listed) i := by
    funext k
    unfold seen lay
    by_cases hki : k = i
    · subst hki; simp [hs, hlt]
    · rw [getD_set_ne true (fun e => hki e.symm)]; simp [hki]
   refine ih _ _ w' (by simpa using hs) ?_ (fun k p hk hkl e he hb => ?_) (by rw [e4]; exact hI')
   ·
    have hlt2 := filter_lt (p := fun k => !listed.getD k false) (q := fun k => !(listed.setIfInBounds i true).getD k false) (i := i) (fun k hk => by
     by_cases hki : i = k
     · subst hki; simp [hs, hlt] at hk
     · rw [getD_set_ne false hki] at hk; exact hk) (by simp [hun']) (by simp [hs, hlt]) (List.mem_range.2 hlt)
    unfold left at hn ⊢
    omega
   ·
    by_cases hki : k = i
    ·
     subst hki
     obtain rfl : p = o := by rw [hoi] at hk; exact (Option.some.inj hk).symm
     exact getD_set_true (hall e he hb)
    ·
     rw [getD_set_ne false (fun h => hki h.symm)] at hkl
     exact getD_set_true (hcl k p hk hkl e he hb)
  unfold wpOp
  simp only [hoi]
  have hwv : Region.wanted o (yielded ops (fill a0 ops.toList 0 (fun k => listed.getD k false) vs).tmps) = wantedV o vs := by
   unfold Region.wanted wantedV
   cases hg : o.guard with
   | none => rfl
   | some gb =>
    obtain ⟨g, b⟩ := gb
    obtain ⟨p, d, hp, hpd, haw⟩ := tg g b hg
    obtain ⟨e, he, hb, hei⟩ := awaits_spec haw
    obtain ⟨p1, -, -, p3⟩ := tidy_spec ht hp
    have hget := fill_get vs (fun k => listed.getD k false) ops.toList 0 a0 g p d (by simpa using hp) hpd (p1 d hpd) (by have := hall e he hb; rw [hei] at this; simpa using this) (fun k q hk hne => by
     have := (p3 k q (by simpa using hk)).1 hne d hpd
     exact this)
    rw [Nat.zero_add] at hget
    simp only [yielded, hp, hpd, Option.bind_some, hget]
    cases vs g <;> rfl
  have h1 := hob (fun v' w' => Inv (lay (seen listed) i) (upd vs i v') w') (fun v w' h => h)
  by_cases hw : wantedV o vs = true
  ·
   rw [if_pos (by rw [hwv]; exact hw)]
   refine .inl ?_
   rw [if_pos hw] at h1
   exact wp_of_gives hex h1 fun v w' hk => hnext v w' hk
  ·
   rw [if_neg (by rw [hwv]; exact hw)]
   rw [if_neg hw] at h1
   exact hnext undef w h1
theorem wp_region_inv {id : Nat} {a0 : Act} {w0 : World} {l : List Oper} {Q : Exit → Act → World → Prop} (Inv : (Nat → Bool) → (Nat → Value) → World → Prop) {A : (Nat → Value) → Act} {fr : Nat → (Nat → Value) → Act} (hm : P.follows .mixedOrders = true)
 (ht : tidy a0.tmps.size l.toArray = true) (hA : ∀ vs, fill a0 l 0 (fun _ => true) vs = A vs) (hfr : Frames l.toArray a0 fr)
 (hI : ∀ vs, Inv (fun k => decide (l.length ≤ k)) vs w0.drew)
 (ho : OblsI P Inv fr l 0) (hend : ∀ vs w, Inv (fun _ => true) vs w → Q .normal (A vs) w) : (Code.region id l.toArray true).wp P Q a0 w0 := by
 have hA' : (fun vs => fill a0 l 0 (fun _ => true) vs) = A := funext hA
 subst hA'
 refine wp_region_any hm ?_
 have e : a0 = fill a0 l 0 (fun i => (Array.replicate l.toArray.size false).getD i false) (fun _ => undef) := by
  have h1 : ∀ (l : List Oper) (i : Nat) (a : Act) (vs : Nat → Value), fill a l i (fun _ => false) vs = a := by
   intro l
   induction l with
   | nil => intro i a vs; rfl
   | cons o r ih => intro i a vs; unfold fill; rw [if_neg (by simp)]; exact ih _ _ _
  have h2 : (fun i => (Array.replicate l.toArray.size false).getD i false) = fun _ => false := by
   funext i
   simp only [Array.getD_eq_getD_getElem?, Array.getElem?_replicate]; split <;> rfl
  rw [h2, h1]
 rw [e]
 refine any_order (Inv := Inv) ht hfr (fun i o hi => by have := oblI_of ho i o (by simpa using hi); rwa [Nat.zero_add] at this) (by simpa using hend) _ _ _ _ (by simp) ?_ ?_ ?_
 ·
  unfold left
  exact Nat.le_trans (List.length_filter_le _ _) (by simp)
 ·
  intro k p _ hkl
  simp only [Array.getD_eq_getD_getElem?, Array.getElem?_replicate] at hkl
  split at hkl <;> simp at hkl
 ·
  have e2 : seen (Array.replicate l.toArray.size false) = fun k => decide (l.length ≤ k) := by
   funext k
   unfold seen
   simp only [Array.getD_eq_getD_getElem?, Array.getElem?_replicate, List.size_toArray]
   by_cases hk : k < l.length
   · rw [if_pos hk]; simp; omega
   · rw [if_neg hk]; simp; omega
  rw [e2]
  exact hI _
def noLate (ops : Array Oper) : Bool := ops.all fun o => (List.range ops.size).all fun k => !lateFor ops o k
theorem frames_plain {a0 : Act} {l : List Oper} {A : (Nat → Value) → Act} (hn : noLate l.toArray = true) (hA : ∀ vs, fill a0 l 0 (fun _ => true) vs = A vs) : Frames l.toArray a0 (fun _ => A) := by
 intro i o hi vs
 have h1 := Array.all_eq_true_iff_forall_mem.1 hn o (Array.mem_of_getElem? hi)
 rw [List.all_eq_true] at h1
 have e := fill_congr vs vs (fun k => !lateFor l.toArray o k) (fun _ => true) l 0 a0 fun k hk => ⟨by
  have := h1 k (List.mem_range.2 (by simpa using hk))
  simpa using this, fun _ => rfl⟩
 rw [show fill a0 l.toArray.toList 0 (fun k => !lateFor l.toArray o k) vs = fill a0 l 0 (fun k => !lateFor l.toArray o k) vs from rfl, e, hA]
 exact Agree.refl _ _
def LastG (G : World → World → Prop) : List Fact → Prop
 | [] => True
 | F :: r => (∀ v w w', F v w → G w w' → F v w') ∧ LastG G r
theorem at_lastG {G : World → World → Prop} : ∀ {Fs : List Fact}, LastG G Fs → ∀ (i : Nat) (v : Value) (w w' : World), at_ Fs i v w → G w w' → at_ Fs i v w'
 | [], _, _, _, _, _ => by simp [at_]
 | F :: r, h, 0, v, w, w' => fun hf hb => by
  have : F v w := by simpa [at_] using hf
  have := h.1 v w w' this hb
  simpa [at_] using this
 | F :: r, h, i + 1, v, w, w' => fun hf hb => by
  have e : ∀ w, at_ (F :: r) (i + 1) v w = at_ r i v w := fun w => by simp [at_]
  rw [e] at hf ⊢
  exact at_lastG h.2 i v w w' hf hb
def OblS (P : Program) (C : (Nat → Bool) → World → Prop) (G : World → World → Prop) (Fs : List Fact) (A : (Nat → Value) → Act) (o : Oper) (i : Nat) : Prop :=
 ∀ (L : Nat → Bool) (vs : Nat → Value) (w : World), C L w → L i = false → Deps Fs vs w o.after.toList →
  ∀ K : Value → World → Prop, (∀ v w', C (lay L i) w' → G w w' → at_ Fs i v w' → K v w') →
   if wantedV o vs = true then Gives P K ((execOp (A vs).eval o).run P w) else K undef w
def OblsS (P : Program) (C : (Nat → Bool) → World → Prop) (G : World → World → Prop) (Fs : List Fact) (A : (Nat → Value) → Act) : List Oper → Nat → Prop
 | [], _ => True
 | o :: rest, i => OblS P C G Fs A o i ∧ OblsS P C G Fs A rest (i + 1)
theorem wp_region_state {id : Nat} {a0 : Act} {w0 : World} {l : List Oper} {Q : Exit → Act → World → Prop} (C : (Nat → Bool) → World → Prop) (G : World → World → Prop) (Fs : List Fact) {A : (Nat → Value) → Act} (hm : P.follows .mixedOrders = true)
 (ht : (tidy a0.tmps.size l.toArray && noLate l.toArray) = true) (hlen : Fs.length = l.length) (hA : ∀ vs, fill a0 l 0 (fun _ => true) vs = A vs)
 (hC : C (fun k => decide (l.length ≤ k)) w0.drew) (ho : OblsS P C G Fs A l 0) (hlast : LastG G Fs)
 (hend : ∀ vs w, C (fun _ => true) w → All vs w Fs 0 → Q .normal (A vs) w) : (Code.region id l.toArray true).wp P Q a0 w0 := by
 rw [Bool.and_eq_true] at ht
 refine wp_region_inv (fun L vs w => C L w ∧ ∀ i, i < l.length → L i = true → at_ Fs i (vs i) w) hm ht.1 hA (frames_plain ht.2 hA) (fun vs => ⟨hC, fun i hi h => ?_⟩) ?_ (fun vs w h => hend vs w h.1 (all_of fun k hk => by simpa using h.2 k (by omega) rfl))
 · simp at h; omega
 ·
  have key : ∀ (r : List Oper) (i : Nat), i + r.length ≤ l.length → (∀ (k : Nat) (o : Oper), r[k]? = some o → ∀ e ∈ o.after, Region.binds .any e = true → e.on < l.length) → OblsS P C G Fs A r i → OblsI P (fun L vs w => C L w ∧ ∀ i, i < l.length → L i = true → at_ Fs i (vs i) w) (fun _ => A) r i := by
   intro r
   induction r with
   | nil => intro i _ _ _; exact trivial
   | cons o r ih =>
    intro i hi he h
    refine ⟨?_, ih (i + 1) (by simp at hi; omega) (fun k o' hk => he (k + 1) o' (by simpa using hk)) h.2⟩
    intro L vs w hI hLi hall K hK
    have h1 := h.1 L vs w hI.1 hLi (deps_of fun e hm hb => hI.2 e.on (he 0 o (by simp) e (by simpa using hm) hb) (hall e hm hb)) K
    refine h1 fun v w' hC' hb hF => hK v w' ⟨hC', fun k hk hL => ?_⟩
    unfold upd
    by_cases hki : k = i
    · subst hki; simpa using hF
    ·
     rw [if_neg hki]
     have hLk : L k = true := by simpa [lay, hki] using hL
     exact at_lastG hlast k _ _ _ (hI.2 k hk hLk) hb
  refine key l 0 (by omega) (fun k o hk e he hb => ?_) ho
  have hko : l.toArray[k]? = some o := by simpa using hk
  have := (tidy_spec ht.1 hko).2.2.1 e he hb
  have h2 := (Array.getElem?_eq_some_iff.1 hko).1
  simp at h2
  omega
def Aw (L : Nat → Bool) : List Edge → Prop
 | [] => True
 | e :: r => (Region.binds .any e = true → L e.on = true) ∧ Aw L r
theorem aw_of {L : Nat → Bool} : ∀ {l : List Edge}, (∀ e ∈ l, Region.binds .any e = true → L e.on = true) → Aw L l
 | [], _ => trivial
 | e :: r, h => ⟨h e (by simp), aw_of fun e' he' => h e' (by simp [he'])⟩
def OblF (P : Program) (C : (Nat → Bool) → (Nat → Value) → World → Prop) (G : World → World → Prop) (Fs : List Fact) (A : (Nat → Value) → Act) (o : Oper) (i : Nat) : Prop :=
 ∀ (L : Nat → Bool) (vs : Nat → Value) (w : World), C L vs w → L i = false → Deps Fs vs w o.after.toList → Aw L o.after.toList →
  ∀ K : Value → World → Prop, (∀ v w', C (lay L i) (upd vs i v) w' → G w w' → at_ Fs i v w' → K v w') →
   if wantedV o vs = true then Gives P K ((execOp (A vs).eval o).run P w) else K undef w
def OblsL (P : Program) (C : (Nat → Bool) → (Nat → Value) → World → Prop) (G : World → World → Prop) (Fs : List Fact) (fr : Nat → (Nat → Value) → Act) : List Oper → Nat → Prop
 | [], _ => True
 | o :: rest, i => OblF P C G Fs (fr i) o i ∧ OblsL P C G Fs fr rest (i + 1)
theorem wp_region_gen {id : Nat} {a0 : Act} {w0 : World} {l : List Oper} {Q : Exit → Act → World → Prop} (C : (Nat → Bool) → (Nat → Value) → World → Prop) (G : World → World → Prop) (Fs : List Fact) {A : (Nat → Value) → Act} {fr : Nat → (Nat → Value) → Act} (hm : P.follows .mixedOrders = true)
 (ht : tidy a0.tmps.size l.toArray = true) (hfr : Frames l.toArray a0 fr) (hlen : Fs.length = l.length) (hA : ∀ vs, fill a0 l 0 (fun _ => true) vs = A vs)
 (hC : ∀ vs, C (fun k => decide (l.length ≤ k)) vs w0.drew) (ho : OblsL P C G Fs fr l 0) (hlast : LastG G Fs)
 (hend : ∀ vs w, C (fun _ => true) vs w → All vs w Fs 0 → Q .normal (A vs) w) : (Code.region id l.toArray true).wp P Q a0 w0 := by
 refine wp_region_inv (fun L vs w => C L vs w ∧ ∀ i, i < l.length → L i = true → at_ Fs i (vs i) w) hm ht hA hfr (fun vs => ⟨hC vs, fun i hi h => ?_⟩) ?_ (fun vs w h => hend vs w h.1 (all_of fun k hk => by simpa using h.2 k (by omega) rfl))
 · simp at h; omega
 ·
  have key : ∀ (r : List Oper) (i : Nat), i + r.length ≤ l.length → (∀ (k : Nat) (o : Oper), r[k]? = some o → ∀ e ∈ o.after, Region.binds .any e = true → e.on < l.length) → OblsL P C G Fs fr r i → OblsI P (fun L vs w => C L vs w ∧ ∀ i, i < l.length → L i = true → at_ Fs i (vs i) w) fr r i := by
   intro r
   induction r with
   | nil => intro i _ _ _; exact trivial
   | cons o r ih =>
    intro i hi he h
    refine ⟨?_, ih (i + 1) (by simp at hi; omega) (fun k o' hk => he (k + 1) o' (by simpa using hk)) h.2⟩
    intro L vs w hI hLi hall K hK
    have h1 := h.1 L vs w hI.1 hLi (deps_of fun e hm hb => hI.2 e.on (he 0 o (by simp) e (by simpa using hm) hb) (hall e hm hb)) (aw_of fun e hm hb => hall e hm hb) K
    refine h1 fun v w' hC' hb hF => hK v w' ⟨hC', fun k hk hL => ?_⟩
    unfold upd
    by_cases hki : k = i
    · subst hki; simpa using hF
    ·
     rw [if_neg hki]
     have hLk : L k = true := by simpa [lay, hki] using hL
     exact at_lastG hlast k _ _ _ (hI.2 k hk hLk) hb
  refine key l 0 (by omega) (fun k o hk e he hb => ?_) ho
  have hko : l.toArray[k]? = some o := by simpa using hk
  have := (tidy_spec ht hko).2.2.1 e he hb
  have h2 := (Array.getElem?_eq_some_iff.1 hko).1
  simp at h2
  omega
theorem wp_region_free {id : Nat} {a0 : Act} {w0 : World} {l : List Oper} {Q : Exit → Act → World → Prop} (C : (Nat → Bool) → (Nat → Value) → World → Prop) (G : World → World → Prop) (Fs : List Fact) {A : (Nat → Value) → Act} (hm : P.follows .mixedOrders = true)
 (ht : (tidy a0.tmps.size l.toArray && noLate l.toArray) = true) (hlen : Fs.length = l.length) (hA : ∀ vs, fill a0 l 0 (fun _ => true) vs = A vs)
 (hC : ∀ vs, C (fun k => decide (l.length ≤ k)) vs w0.drew) (ho : OblsL P C G Fs (fun _ => A) l 0) (hlast : LastG G Fs)
 (hend : ∀ vs w, C (fun _ => true) vs w → All vs w Fs 0 → Q .normal (A vs) w) : (Code.region id l.toArray true).wp P Q a0 w0 := by
 rw [Bool.and_eq_true] at ht
 exact wp_region_gen C G Fs hm ht.1 (frames_plain ht.2 hA) hlen hA hC ho hlast hend
end
end Go.Proofs.YtbikifibfaaggaaGreatDoor.Reg
namespace Go.Proofs.YtbikifibfaaggaaGreatDoor.Reg
open Go Go.RowKit
theorem aw_get {L : Nat → Bool} : ∀ {l : List Edge}, Aw L l → ∀ e ∈ l, Region.binds .any e = true → L e.on = true
 | [], _, e, he, _ => by cases he
 | e0 :: r, h, e, he, hb => by
  rcases List.mem_cons.1 he with rfl | he
  · exact h.1 hb
  · exact aw_get h.2 e he hb
end Go.Proofs.YtbikifibfaaggaaGreatDoor.Reg
namespace Go.Proofs.YtbikifibfaaggaaGreatDoor.RegP
open Go Go.RowKit Reg
def GivesP (P : Program) (K : Value → World → Prop) (Qp : List PanicEntry → World → Prop) : Result Next → Prop
 | .ok (.value v) w' => K v w'
 | .ok .skip w' => K undef w'
 | .ok (.enter f args) w' => Calls P f args w' fun e w'' => (∃ v, e = .returned v ∧ K v w'') ∨ ∃ c, e = .panicked c ∧ Qp c w''
 | .ok (.row row args) w' => Rows P row args w' K
 | _ => False
section
variable (P : Program) (K : Value → World → Prop) (Qp : List PanicEntry → World → Prop) (w : World)
theorem gives_value (v : Value) : GivesP P K Qp (.ok (.value v) w) = K v w := rfl
theorem gives_skip : GivesP P K Qp (.ok .skip w) = K undef w := rfl
theorem gives_enter (f : FuncId) (args : Array Value) : GivesP P K Qp (.ok (.enter f args) w) = Calls P f args w fun e w'' => (∃ v, e = .returned v ∧ K v w'') ∨ ∃ c, e = .panicked c ∧ Qp c w'' := rfl
end
theorem fill_defers (vs : Nat → Value) (L : Nat → Bool) : ∀ (l : List Oper) (i : Nat) (a : Act), (fill a l i L vs).defers = a.defers
 | [], _, _ => rfl
 | o :: r, i, a => by
  unfold fill
  rw [fill_defers vs L r]
  split
  · cases o.dst <;> rfl
  · rfl
theorem wp_of_givesP {P : Program} {o : Oper} {a b : Act} {w : World} {K0 : Value → World → Prop} {Qp : List PanicEntry → World → Prop} {K : Act → World → Prop} {Q : Exit → Act → World → Prop} (he : execOp b.eval o = execOp a.eval o)
 (h : GivesP P K0 Qp ((execOp a.eval o).run P w)) (hk : ∀ v w', K0 v w' → K (b.put o.dst v) w') (hq : ∀ c w', Qp c w' → Q (.panic c) b w') : o.wp P b w K Q := by
 unfold Oper.wp
 rw [he]
 generalize (execOp a.eval o).run P w = r at *
 cases r with
 | ok n w' =>
  cases n <;> simp only [GivesP] at h <;> simp only [Oper.upon]
  case value v => exact hk _ _ h
  case skip => exact hk _ _ h
  case enter f args =>
   refine Calls.mono h fun e w'' he => ?_
   rcases he with ⟨v, rfl, hv⟩ | ⟨c, rfl, hc⟩
   · exact hk _ _ hv
   · exact hq _ _ hc
  case row row args => exact Rows.mono h fun v w'' hv => hk _ _ hv
 | halt x w' => cases x <;> simp only [GivesP] at h
section
variable {P : Program} {ops : Array Oper}
def OblI (P : Program) (Qp : List PanicEntry → World → Prop) (Inv : (Nat → Bool) → (Nat → Value) → World → Prop) (fr : Nat → (Nat → Value) → Act) (o : Oper) (i : Nat) : Prop :=
 ∀ (L : Nat → Bool) (vs : Nat → Value) (w : World), Inv L vs w → L i = false → (∀ e ∈ o.after.toList, Region.binds .any e = true → L e.on = true) →
  ∀ K : Value → World → Prop, (∀ v w', Inv (lay L i) (upd vs i v) w' → K v w') →
   if wantedV o vs = true then GivesP P K Qp ((execOp (fr i vs).eval o).run P w) else K undef w
def OblsI (P : Program) (Qp : List PanicEntry → World → Prop) (Inv : (Nat → Bool) → (Nat → Value) → World → Prop) (fr : Nat → (Nat → Value) → Act) : List Oper → Nat → Prop
 | [], _ => True
 | o :: rest, i => OblI P Qp Inv fr o i ∧ OblsI P Qp Inv fr rest (i + 1)
theorem oblI_of {Qp : List PanicEntry → World → Prop} {Inv : (Nat → Bool) → (Nat → Value) → World → Prop} {fr : Nat → (Nat → Value) → Act} : ∀ {l : List Oper} {i : Nat}, OblsI P Qp Inv fr l i → ∀ k o, l[k]? = some o → OblI P Qp Inv fr o (i + k)
 | [], _, _, _, _, h => by simp at h
 | p :: rest, i, h, 0, o, hk => by
  obtain rfl : p = o := by simpa using hk
  exact h.1
 | p :: rest, i, h, k + 1, o, hk => by
  have := oblI_of h.2 k o (by simpa using hk)
  rwa [show i + 1 + k = i + (k + 1) by omega] at this
theorem any_order {Qp : List PanicEntry → World → Prop} {Inv : (Nat → Bool) → (Nat → Value) → World → Prop} {a0 : Act} {Q : Exit → Act → World → Prop} {fr : Nat → (Nat → Value) → Act} (hQp : ∀ (b : Act) c w, b.defers = a0.defers → Qp c w → Q (.panic c) b w) (ht : tidy a0.tmps.size ops = true) (hfr : Frames ops a0 fr)
 (ho : ∀ i o, ops[i]? = some o → OblI P Qp Inv fr o i)
 (hend : ∀ vs w, Inv (fun _ => true) vs w → Q .normal (fill a0 ops.toList 0 (fun _ => true) vs) w) :
 ∀ (fuel : Nat) (listed : Array Bool) (vs : Nat → Value) (w : World), listed.size = ops.size → left ops listed ≤ fuel →
  (∀ i o, ops[i]? = some o → listed.getD i false = true → ∀ e ∈ o.after, Region.binds .any e = true → listed.getD e.on false = true) → Inv (Reg.seen listed) vs w →
  wpAny P .any ops Q fuel listed (fill a0 ops.toList 0 (fun i => listed.getD i false) vs) w := by
 have hdone : ∀ (listed : Array Bool) (vs : Nat → Value) (w : World), listed.size = ops.size → Inv (Reg.seen listed) vs w →
  (∀ i, i < ops.size → listed.getD i false = true) → Q .normal (fill a0 ops.toList 0 (fun i => listed.getD i false) vs) w := by
  intro listed vs w hs hI hall
  have e := fill_congr vs vs (fun i => listed.getD i false) (fun _ => true) ops.toList 0 a0 fun k hk => ⟨by simpa using hall k (by simpa using hk), fun _ => rfl⟩
  rw [e]
  have e2 : Reg.seen listed = fun _ => true := by
   funext k
   unfold Reg.seen
   by_cases hk : k < ops.size
   ·
    have := hall k hk
    simpa [hs, hk] using this
   · simp [hs, hk]
  rw [e2] at hI
  exact hend vs w hI
 have hready : ∀ (listed : Array Bool), listed.size = ops.size → Region.ready .any ops listed = [] → ∀ i, i < ops.size → listed.getD i false = true := by
  intro listed hs h0 i
  induction i using Nat.strongRecOn with
  | _ i ih =>
   intro hi
   rcases hb : listed.getD i false with _ | _
   ·
    exfalso
    have hm : i ∈ Region.ready .any ops listed := by
     refine mem_ready.2 ⟨by rw [← hb]; simp [hs, hi], ops[i], Array.getElem?_eq_getElem hi, fun e he hbd => ?_⟩
     have := (tidy_spec ht (Array.getElem?_eq_getElem hi)).2.2.1 e he hbd
     exact ih e.on this (by omega)
    rw [h0] at hm
    cases hm
   · rfl
 intro fuel
 induction fuel with
 | zero =>
  intro listed vs w hs hn _ hI
  have hall : ∀ i, i < ops.size → listed.getD i false = true := by
   intro i hi
   have h0 : (List.range ops.size).filter (fun i => !listed.getD i false) = [] := List.eq_nil_of_length_eq_zero (by unfold left at hn; omega)
   have := List.filter_eq_nil_iff.1 h0 i (List.mem_range.2 hi)
   simpa using this
  refine ⟨?_, hdone listed vs w hs hI hall⟩
  refine List.eq_nil_iff_forall_not_mem.2 fun i hi => ?_
  obtain ⟨h1, o, h2, _⟩ := mem_ready.1 hi
  have hlt := (Array.getElem?_eq_some_iff.1 h2).1
  have h3 := hall i hlt
  simp [hs, hlt] at h1 h3
  rw [h1] at h3
  cases h3
 | succ fuel ih =>
  intro listed vs w hs hn hcl hI
  refine ⟨fun h0 => hdone listed vs w hs hI (hready listed hs h0), fun i hi => ?_⟩
  obtain ⟨hun, o, hoi, hall⟩ := mem_ready.1 hi
  obtain ⟨-, tg, t2, t3⟩ := tidy_spec ht hoi
  have hlt := (Array.getElem?_eq_some_iff.1 hoi).1
  have hun' : listed.getD i false = false := by simpa [hs, hlt] using hun
  have hli : ops.toList[i]? = some o := by simpa using hoi
  have hag0 := fill_agree vs (fun k => listed.getD k false) (fun k => !lateFor ops o k) (fun t => t ∉ o.looksAt ops) ops.toList 0 a0 a0 (Agree.refl _ _)
   (fun k p hk hne t hd hm => by
    rw [Nat.zero_add] at hne
    have hkp : ops[k]? = some p := by simpa using hk
    by_cases haw : awaits o k = true
    ·
     obtain ⟨e, he, hb, rfl⟩ := awaits_spec haw
     refine hne ?_
     rw [hall e he hb]
     simp [lateFor, hkp, hd, haw]
    ·
     have hlate : lateFor ops o k = true := by simp [lateFor, hkp, hd, haw, hm]
     have h2 := (t3 k p hkp).2 hlate
     obtain ⟨e, he, hb, hei⟩ := awaits_spec h2
     refine hne ?_
     rw [hlate]
     rcases hl : listed.getD k false with _ | _
     · rfl
     ·
      have := hcl k p hkp hl e he hb
      rw [hei, hun'] at this
      cases this)
  have hag1 := hfr i o hoi vs
  have hag : Agree (fun t => t ∉ o.looksAt ops) (fill a0 ops.toList 0 (fun k => listed.getD k false) vs) (fr i vs) :=
   ⟨hag0.1.trans hag1.1, hag0.2.1.trans hag1.2.1, fun t ht => (hag0.2.2 t ht).trans (hag1.2.2 t ht)⟩
  have hlook : ∀ t, t ∈ o.looksAt ops → ¬ t ∉ o.looksAt ops := fun t h hn => hn h
  have hex := hag.exec (Region.noSelect_spec (noSelect_of ht) i o · · hoi) hlook
  have hob := ho i o hoi (Reg.seen listed) vs w hI hun (fun e he hb => by
   have h1 := hall e (by simpa using he) hb
   have h2 := t2 e (by simpa using he) hb
   unfold Reg.seen
   have : e.on < ops.size := by omega
   simpa [hs, this] using h1)
  have hnext : ∀ v' w', Inv (lay (Reg.seen listed) i) (upd vs i v') w' →
   wpAny P .any ops Q fuel (listed.setIfInBounds i true) ((fill a0 ops.toList 0 (fun k => listed.getD k false) vs).put o.dst v') w' := by
   intro v' w' hI'
   have e2 := fill_next vs (fun k => listed.getD k false) ops.toList 0 a0 i o v' hli (by simpa using hun') (fun k p hk hne t ht' => by
    have := (t3 k p (by simpa using hk)).1 hne t ht'
    exact this)
   rw [e2]
   have e3 := fill_congr (fun k => if k = 0 + i then v' else vs k) (upd vs i v') (fun k => listed.getD k false || k == 0 + i) (fun k => (listed.setIfInBounds i true).getD k false) ops.toList 0 a0 fun k hk => ⟨by
    simp only [Nat.zero_add]
    by_cases hki : k = i
    · subst hki; simp [hs, hlt]
    · rw [getD_set_ne false (fun e => hki e.symm)]; simp [hki], fun _ => by simp only [Nat.zero_add]; rfl⟩
   rw [e3]
   have e4 : Reg.seen (listed.setIfInBounds i true) = lay (Reg.seen listed) i := by
    funext k
    unfold Reg.seen lay
    by_cases hki : k = i
    · subst hki; simp [hs, hlt]
    · rw [getD_set_ne true (fun e => hki e.symm)]; simp [hki]
   refine ih _ _ w' (by simpa using hs) ?_ (fun k p hk hkl e he hb => ?_) (by rw [e4]; exact hI')
   ·
    have hlt2 := filter_lt (p := fun k => !listed.getD k false) (q := fun k => !(listed.setIfInBounds i true).getD k false) (i := i) (fun k hk => by
     by_cases hki : i = k
     · subst hki; simp [hs, hlt] at hk
     · rw [getD_set_ne false hki] at hk; exact hk) (by simp [hun']) (by simp [hs, hlt]) (List.mem_range.2 hlt)
    unfold left at hn ⊢
    omega
   ·
    by_cases hki : k = i
    ·
     subst hki
     obtain rfl : p = o := by rw [hoi] at hk; exact (Option.some.inj hk).symm
     exact getD_set_true (hall e he hb)
    ·
     rw [getD_set_ne false (fun h => hki h.symm)] at hkl
     exact getD_set_true (hcl k p hk hkl e he hb)
  unfold wpOp
  simp only [hoi]
  have hwv : Region.wanted o (yielded ops (fill a0 ops.toList 0 (fun k => listed.getD k false) vs).tmps) = wantedV o vs := by
   unfold Region.wanted wantedV
   cases hg : o.guard with
   | none => rfl
   | some gb =>
    obtain ⟨g, b⟩ := gb
    obtain ⟨p, d, hp, hpd, haw⟩ := tg g b hg
    obtain ⟨e, he, hb, hei⟩ := awaits_spec haw
    obtain ⟨p1, -, -, p3⟩ := tidy_spec ht hp
    have hget := fill_get vs (fun k => listed.getD k false) ops.toList 0 a0 g p d (by simpa using hp) hpd (p1 d hpd) (by have := hall e he hb; rw [hei] at this; simpa using this) (fun k q hk hne => by
     have := (p3 k q (by simpa using hk)).1 hne d hpd
     exact this)
    rw [Nat.zero_add] at hget
    simp only [yielded, hp, hpd, Option.bind_some, hget]
    cases vs g <;> rfl
  have h1 := hob (fun v' w' => Inv (lay (Reg.seen listed) i) (upd vs i v') w') (fun v w' h => h)
  by_cases hw : wantedV o vs = true
  ·
   rw [if_pos (by rw [hwv]; exact hw)]
   refine .inl ?_
   rw [if_pos hw] at h1
   exact wp_of_givesP hex h1 (fun v w' hk => hnext v w' hk) (fun c w' hc => hQp _ c w' (fill_defers vs _ ops.toList 0 a0) hc)
  ·
   rw [if_neg (by rw [hwv]; exact hw)]
   rw [if_neg hw] at h1
   exact hnext undef w h1
theorem wp_region_inv (Qp : List PanicEntry → World → Prop) {id : Nat} {a0 : Act} {w0 : World} {l : List Oper} {Q : Exit → Act → World → Prop} (Inv : (Nat → Bool) → (Nat → Value) → World → Prop) {A : (Nat → Value) → Act} {fr : Nat → (Nat → Value) → Act} (hQp : ∀ (b : Act) c w, b.defers = a0.defers → Qp c w → Q (.panic c) b w) (hm : P.follows .mixedOrders = true)
 (ht : tidy a0.tmps.size l.toArray = true) (hA : ∀ vs, fill a0 l 0 (fun _ => true) vs = A vs) (hfr : Frames l.toArray a0 fr)
 (hI : ∀ vs, Inv (fun k => decide (l.length ≤ k)) vs w0.drew)
 (ho : OblsI P Qp Inv fr l 0) (hend : ∀ vs w, Inv (fun _ => true) vs w → Q .normal (A vs) w) : (Code.region id l.toArray true).wp P Q a0 w0 := by
 have hA' : (fun vs => fill a0 l 0 (fun _ => true) vs) = A := funext hA
 subst hA'
 refine wp_region_any hm ?_
 have e : a0 = fill a0 l 0 (fun i => (Array.replicate l.toArray.size false).getD i false) (fun _ => undef) := by
  have h1 : ∀ (l : List Oper) (i : Nat) (a : Act) (vs : Nat → Value), fill a l i (fun _ => false) vs = a := by
   intro l
   induction l with
   | nil => intro i a vs; rfl
   | cons o r ih => intro i a vs; unfold fill; rw [if_neg (by simp)]; exact ih _ _ _
  have h2 : (fun i => (Array.replicate l.toArray.size false).getD i false) = fun _ => false := by
   funext i
   simp only [Array.getD_eq_getD_getElem?, Array.getElem?_replicate]; split <;> rfl
  rw [h2, h1]
 rw [e]
 refine any_order (Qp := Qp) (Inv := Inv) hQp ht hfr (fun i o hi => by have := oblI_of ho i o (by simpa using hi); rwa [Nat.zero_add] at this) (by simpa using hend) _ _ _ _ (by simp) ?_ ?_ ?_
 ·
  unfold left
  exact Nat.le_trans (List.length_filter_le _ _) (by simp)
 ·
  intro k p _ hkl
  simp only [Array.getD_eq_getD_getElem?, Array.getElem?_replicate] at hkl
  split at hkl <;> simp at hkl
 ·
  have e2 : Reg.seen (Array.replicate l.toArray.size false) = fun k => decide (l.length ≤ k) := by
   funext k
   unfold Reg.seen
   simp only [Array.getD_eq_getD_getElem?, Array.getElem?_replicate, List.size_toArray]
   by_cases hk : k < l.length
   · rw [if_pos hk]; simp; omega
   · rw [if_neg hk]; simp; omega
  rw [e2]
  exact hI _
def OblF (P : Program) (Qp : List PanicEntry → World → Prop) (C : (Nat → Bool) → (Nat → Value) → World → Prop) (G : World → World → Prop) (Fs : List Fact) (A : (Nat → Value) → Act) (o : Oper) (i : Nat) : Prop :=
 ∀ (L : Nat → Bool) (vs : Nat → Value) (w : World), C L vs w → L i = false → Deps Fs vs w o.after.toList → Aw L o.after.toList →
  ∀ K : Value → World → Prop, (∀ v w', C (lay L i) (upd vs i v) w' → G w w' → at_ Fs i v w' → K v w') →
   if wantedV o vs = true then GivesP P K Qp ((execOp (A vs).eval o).run P w) else K undef w
def OblsL (P : Program) (Qp : List PanicEntry → World → Prop) (C : (Nat → Bool) → (Nat → Value) → World → Prop) (G : World → World → Prop) (Fs : List Fact) (fr : Nat → (Nat → Value) → Act) : List Oper → Nat → Prop
 | [], _ => True
 | o :: rest, i => OblF P Qp C G Fs (fr i) o i ∧ OblsL P Qp C G Fs fr rest (i + 1)
theorem wp_region_gen (Qp : List PanicEntry → World → Prop) {id : Nat} {a0 : Act} {w0 : World} {l : List Oper} {Q : Exit → Act → World → Prop} (C : (Nat → Bool) → (Nat → Value) → World → Prop) (G : World → World → Prop) (Fs : List Fact) {A : (Nat → Value) → Act} {fr : Nat → (Nat → Value) → Act} (hQp : ∀ (b : Act) c w, b.defers = a0.defers → Qp c w → Q (.panic c) b w) (hm : P.follows .mixedOrders = true)
 (ht : tidy a0.tmps.size l.toArray = true) (hfr : Frames l.toArray a0 fr) (hlen : Fs.length = l.length) (hA : ∀ vs, fill a0 l 0 (fun _ => true) vs = A vs)
 (hC : ∀ vs, C (fun k => decide (l.length ≤ k)) vs w0.drew) (ho : OblsL P Qp C G Fs fr l 0) (hlast : LastG G Fs)
 (hend : ∀ vs w, C (fun _ => true) vs w → All vs w Fs 0 → Q .normal (A vs) w) : (Code.region id l.toArray true).wp P Q a0 w0 := by
 refine wp_region_inv Qp (fun L vs w => C L vs w ∧ ∀ i, i < l.length → L i = true → at_ Fs i (vs i) w) hQp hm ht hA hfr (fun vs => ⟨hC vs, fun i hi h => ?_⟩) ?_ (fun vs w h => hend vs w h.1 (all_of fun k hk => by simpa using h.2 k (by omega) rfl))
 · simp at h; omega
 ·
  have key : ∀ (r : List Oper) (i : Nat), i + r.length ≤ l.length → (∀ (k : Nat) (o : Oper), r[k]? = some o → ∀ e ∈ o.after, Region.binds .any e = true → e.on < l.length) → OblsL P Qp C G Fs fr r i → OblsI P Qp (fun L vs w => C L vs w ∧ ∀ i, i < l.length → L i = true → at_ Fs i (vs i) w) fr r i := by
   intro r
   induction r with
   | nil => intro i _ _ _; exact trivial
   | cons o r ih =>
    intro i hi he h
    refine ⟨?_, ih (i + 1) (by simp at hi; omega) (fun k o' hk => he (k + 1) o' (by simpa using hk)) h.2⟩
    intro L vs w hI hLi hall K hK
    have h1 := h.1 L vs w hI.1 hLi (deps_of fun e hm hb => hI.2 e.on (he 0 o (by simp) e (by simpa using hm) hb) (hall e hm hb)) (aw_of fun e hm hb => hall e hm hb) K
    refine h1 fun v w' hC' hb hF => hK v w' ⟨hC', fun k hk hL => ?_⟩
    unfold upd
    by_cases hki : k = i
    · subst hki; simpa using hF
    ·
     rw [if_neg hki]
     have hLk : L k = true := by simpa [lay, hki] using hL
     exact at_lastG hlast k _ _ _ (hI.2 k hk hLk) hb
  refine key l 0 (by omega) (fun k o hk e he hb => ?_) ho
  have hko : l.toArray[k]? = some o := by simpa using hk
  have := (tidy_spec ht hko).2.2.1 e he hb
  have h2 := (Array.getElem?_eq_some_iff.1 hko).1
  simp at h2
  omega
theorem wp_region_free (Qp : List PanicEntry → World → Prop) {id : Nat} {a0 : Act} {w0 : World} {l : List Oper} {Q : Exit → Act → World → Prop} (C : (Nat → Bool) → (Nat → Value) → World → Prop) (G : World → World → Prop) (Fs : List Fact) {A : (Nat → Value) → Act} (hQp : ∀ (b : Act) c w, b.defers = a0.defers → Qp c w → Q (.panic c) b w) (hm : P.follows .mixedOrders = true)
 (ht : (tidy a0.tmps.size l.toArray && noLate l.toArray) = true) (hlen : Fs.length = l.length) (hA : ∀ vs, fill a0 l 0 (fun _ => true) vs = A vs)
 (hC : ∀ vs, C (fun k => decide (l.length ≤ k)) vs w0.drew) (ho : OblsL P Qp C G Fs (fun _ => A) l 0) (hlast : LastG G Fs)
 (hend : ∀ vs w, C (fun _ => true) vs w → All vs w Fs 0 → Q .normal (A vs) w) : (Code.region id l.toArray true).wp P Q a0 w0 := by
 rw [Bool.and_eq_true] at ht
 exact wp_region_gen Qp C G Fs hQp hm ht.1 (frames_plain ht.2 hA) hlen hA hC ho hlast hend
end
end Go.Proofs.YtbikifibfaaggaaGreatDoor.RegP
