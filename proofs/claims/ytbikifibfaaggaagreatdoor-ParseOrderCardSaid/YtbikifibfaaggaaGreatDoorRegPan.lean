/- Regions that draw their order, where an operation's call may also end in a panic. Printed by mkregpan.py out of the two other texts on regions. -/
import Derived.Test.YtbikifibfaaggaaGreatDoorRegLast
namespace Go.Proofs.YtbikifibfaaggaaGreatDoor.RegP
open Go Go.RowKit Reg

/-- What an operation has yielded: a value, a call that hands one back, or one that panics. -/
def GivesP (P : Program) (K : Value → World → Prop) (Qp : List PanicEntry → World → Prop) : Result Next → Prop
  | .ok (.value v) w' => K v w'
  | .ok .skip w' => K undef w'
  | .ok (.enter f args) w' => Calls P f args w' fun e w'' => (∃ v, e = .returned v ∧ K v w'') ∨ ∃ c, e = .panicked c ∧ Qp c w''
  | .ok (.row row args) w' => Rows P row args w' K
  | _ => False
section
variable (P : Program) (K : Value → World → Prop) (Qp : List PanicEntry → World → Prop) (w : World)
theorem gives_value (v : Value) : GivesP P K Qp (.ok (.value v) w) = K v w := rfl
theorem gives_skip : GivesP P K Qp (.ok .skip w) = K undef w := rfl
theorem gives_enter (f : FuncId) (args : Array Value) : GivesP P K Qp (.ok (.enter f args) w) = Calls P f args w fun e w'' => (∃ v, e = .returned v ∧ K v w'') ∨ ∃ c, e = .panicked c ∧ Qp c w'' := rfl
end
theorem fill_defers (vs : Nat → Value) (L : Nat → Bool) : ∀ (l : List Oper) (i : Nat) (a : Act), (fill a l i L vs).defers = a.defers
  | [], _, _ => rfl
  | o :: r, i, a => by
    unfold fill
    rw [fill_defers vs L r]
    split
    · cases o.dst <;> rfl
    · rfl
theorem wp_of_givesP {P : Program} {o : Oper} {a b : Act} {w : World} {K0 : Value → World → Prop} {Qp : List PanicEntry → World → Prop} {K : Act → World → Prop} {Q : Exit → Act → World → Prop} (he : execOp b.eval o = execOp a.eval o)
    (h : GivesP P K0 Qp ((execOp a.eval o).run P w)) (hk : ∀ v w', K0 v w' → K (b.put o.dst v) w') (hq : ∀ c w', Qp c w' → Q (.panic c) b w') : o.wp P b w K Q := by
  unfold Oper.wp
  rw [he]
  generalize (execOp a.eval o).run P w = r at *
  cases r with
  | ok n w' =>
    cases n <;> simp only [GivesP] at h <;> simp only [Oper.upon]
    case value v => exact hk _ _ h
    case skip => exact hk _ _ h
    case enter f args =>
      refine Calls.mono h fun e w'' he => ?_
      rcases he with ⟨v, rfl, hv⟩ | ⟨c, rfl, hc⟩
      · exact hk _ _ hv
      · exact hq _ _ hc
    case row row args => exact Rows.mono h fun v w'' hv => hk _ _ hv
  | halt x w' => cases x <;> simp only [GivesP] at h
section
variable {P : Program} {ops : Array Oper}
/-- What is asked of operation i under an invariant over what has come up (L), its values, the world. -/
def OblI (P : Program) (Qp : List PanicEntry → World → Prop) (Inv : (Nat → Bool) → (Nat → Value) → World → Prop) (fr : Nat → (Nat → Value) → Act) (o : Oper) (i : Nat) : Prop :=
  ∀ (L : Nat → Bool) (vs : Nat → Value) (w : World), Inv L vs w → L i = false → (∀ e ∈ o.after.toList, Region.binds .any e = true → L e.on = true) →
    ∀ K : Value → World → Prop, (∀ v w', Inv (lay L i) (upd vs i v) w' → K v w') →
      if wantedV o vs = true then GivesP P K Qp ((execOp (fr i vs).eval o).run P w) else K undef w
def OblsI (P : Program) (Qp : List PanicEntry → World → Prop) (Inv : (Nat → Bool) → (Nat → Value) → World → Prop) (fr : Nat → (Nat → Value) → Act) : List Oper → Nat → Prop
  | [], _ => True
  | o :: rest, i => OblI P Qp Inv fr o i ∧ OblsI P Qp Inv fr rest (i + 1)
theorem oblI_of {Qp : List PanicEntry → World → Prop} {Inv : (Nat → Bool) → (Nat → Value) → World → Prop} {fr : Nat → (Nat → Value) → Act} : ∀ {l : List Oper} {i : Nat}, OblsI P Qp Inv fr l i → ∀ k o, l[k]? = some o → OblI P Qp Inv fr o (i + k)
  | [], _, _, _, _, h => by simp at h
  | p :: rest, i, h, 0, o, hk => by
    obtain rfl : p = o := by simpa using hk
    exact h.1
  | p :: rest, i, h, k + 1, o, hk => by
    have := oblI_of h.2 k o (by simpa using hk)
    rwa [show i + 1 + k = i + (k + 1) by omega] at this

/-- The invariant holds from operation to operation: whatever order is drawn. -/
theorem any_order {Qp : List PanicEntry → World → Prop} {Inv : (Nat → Bool) → (Nat → Value) → World → Prop} {a0 : Act} {Q : Exit → Act → World → Prop} {fr : Nat → (Nat → Value) → Act} (hQp : ∀ (b : Act) c w, b.defers = a0.defers → Qp c w → Q (.panic c) b w) (ht : tidy a0.tmps.size ops = true) (hfr : Frames ops a0 fr)
    (ho : ∀ i o, ops[i]? = some o → OblI P Qp Inv fr o i)
    (hend : ∀ vs w, Inv (fun _ => true) vs w → Q .normal (fill a0 ops.toList 0 (fun _ => true) vs) w) :
    ∀ (fuel : Nat) (listed : Array Bool) (vs : Nat → Value) (w : World), listed.size = ops.size → left ops listed ≤ fuel →
      (∀ i o, ops[i]? = some o → listed.getD i false = true → ∀ e ∈ o.after, Region.binds .any e = true → listed.getD e.on false = true) → Inv (Reg.seen listed) vs w →
      wpAny P .any ops Q fuel listed (fill a0 ops.toList 0 (fun i => listed.getD i false) vs) w := by
  have hdone : ∀ (listed : Array Bool) (vs : Nat → Value) (w : World), listed.size = ops.size → Inv (Reg.seen listed) vs w →
      (∀ i, i < ops.size → listed.getD i false = true) → Q .normal (fill a0 ops.toList 0 (fun i => listed.getD i false) vs) w := by
    intro listed vs w hs hI hall
    have e := fill_congr vs vs (fun i => listed.getD i false) (fun _ => true) ops.toList 0 a0 fun k hk => ⟨by simpa using hall k (by simpa using hk), fun _ => rfl⟩
    rw [e]
    have e2 : Reg.seen listed = fun _ => true := by
      funext k
      unfold Reg.seen
      by_cases hk : k < ops.size
      · have := hall k hk
        simpa [hs, hk] using this
      · simp [hs, hk]
    rw [e2] at hI
    exact hend vs w hI
  -- the least that is not listed may come up
  have hready : ∀ (listed : Array Bool), listed.size = ops.size → Region.ready .any ops listed = [] → ∀ i, i < ops.size → listed.getD i false = true := by
    intro listed hs h0 i
    induction i using Nat.strongRecOn with
    | _ i ih =>
      intro hi
      rcases hb : listed.getD i false with _ | _
      · exfalso
        have hm : i ∈ Region.ready .any ops listed := by
          refine mem_ready.2 ⟨by rw [← hb]; simp [hs, hi], ops[i], Array.getElem?_eq_getElem hi, fun e he hbd => ?_⟩
          have := (tidy_spec ht (Array.getElem?_eq_getElem hi)).2.2.1 e he hbd
          exact ih e.on this (by omega)
        rw [h0] at hm
        cases hm
      · rfl
  intro fuel
  induction fuel with
  | zero =>
    intro listed vs w hs hn _ hI
    have hall : ∀ i, i < ops.size → listed.getD i false = true := by
      intro i hi
      have h0 : (List.range ops.size).filter (fun i => !listed.getD i false) = [] := List.eq_nil_of_length_eq_zero (by unfold left at hn; omega)
      have := List.filter_eq_nil_iff.1 h0 i (List.mem_range.2 hi)
      simpa using this
    refine ⟨?_, hdone listed vs w hs hI hall⟩
    refine List.eq_nil_iff_forall_not_mem.2 fun i hi => ?_
    obtain ⟨h1, o, h2, _⟩ := mem_ready.1 hi
    have hlt := (Array.getElem?_eq_some_iff.1 h2).1
    have h3 := hall i hlt
    simp [hs, hlt] at h1 h3
    rw [h1] at h3
    cases h3
  | succ fuel ih =>
    intro listed vs w hs hn hcl hI
    refine ⟨fun h0 => hdone listed vs w hs hI (hready listed hs h0), fun i hi => ?_⟩
    obtain ⟨hun, o, hoi, hall⟩ := mem_ready.1 hi
    obtain ⟨-, tg, t2, t3⟩ := tidy_spec ht hoi
    have hlt := (Array.getElem?_eq_some_iff.1 hoi).1
    have hun' : listed.getD i false = false := by simpa [hs, hlt] using hun
    have hli : ops.toList[i]? = some o := by simpa using hoi
    -- the two frames
    have hag0 := fill_agree vs (fun k => listed.getD k false) (fun k => !lateFor ops o k) (fun t => t ∉ o.looksAt ops) ops.toList 0 a0 a0 (Agree.refl _ _)
      (fun k p hk hne t hd hm => by
        rw [Nat.zero_add] at hne
        have hkp : ops[k]? = some p := by simpa using hk
        by_cases haw : awaits o k = true
        · obtain ⟨e, he, hb, rfl⟩ := awaits_spec haw
          refine hne ?_
          rw [hall e he hb]
          simp [lateFor, hkp, hd, haw]
        · have hlate : lateFor ops o k = true := by simp [lateFor, hkp, hd, haw, hm]
          have h2 := (t3 k p hkp).2 hlate
          obtain ⟨e, he, hb, hei⟩ := awaits_spec h2
          refine hne ?_
          rw [hlate]
          rcases hl : listed.getD k false with _ | _
          · rfl
          · have := hcl k p hkp hl e he hb
            rw [hei, hun'] at this
            cases this)
    have hag1 := hfr i o hoi vs
    have hag : Agree (fun t => t ∉ o.looksAt ops) (fill a0 ops.toList 0 (fun k => listed.getD k false) vs) (fr i vs) :=
      ⟨hag0.1.trans hag1.1, hag0.2.1.trans hag1.2.1, fun t ht => (hag0.2.2 t ht).trans (hag1.2.2 t ht)⟩
    have hlook : ∀ t, t ∈ o.looksAt ops → ¬ t ∉ o.looksAt ops := fun t h hn => hn h
    have hex := hag.exec (Region.noSelect_spec (noSelect_of ht) i o · · hoi) hlook
    -- what is asked of it
    have hob := ho i o hoi (Reg.seen listed) vs w hI hun (fun e he hb => by
      have h1 := hall e (by simpa using he) hb
      have h2 := t2 e (by simpa using he) hb
      unfold Reg.seen
      have : e.on < ops.size := by omega
      simpa [hs, this] using h1)
    have hnext : ∀ v' w', Inv (lay (Reg.seen listed) i) (upd vs i v') w' →
        wpAny P .any ops Q fuel (listed.setIfInBounds i true) ((fill a0 ops.toList 0 (fun k => listed.getD k false) vs).put o.dst v') w' := by
      intro v' w' hI'
      have e2 := fill_next vs (fun k => listed.getD k false) ops.toList 0 a0 i o v' hli (by simpa using hun') (fun k p hk hne t ht' => by
        have := (t3 k p (by simpa using hk)).1 hne t ht'
        exact this)
      rw [e2]
      have e3 := fill_congr (fun k => if k = 0 + i then v' else vs k) (upd vs i v') (fun k => listed.getD k false || k == 0 + i) (fun k => (listed.setIfInBounds i true).getD k false) ops.toList 0 a0 fun k hk => ⟨by
        simp only [Nat.zero_add]
        by_cases hki : k = i
        · subst hki; simp [hs, hlt]
        · rw [getD_set_ne false (fun e => hki e.symm)]; simp [hki], fun _ => by simp only [Nat.zero_add]; rfl⟩
      rw [e3]
      have e4 : Reg.seen (listed.setIfInBounds i true) = lay (Reg.seen listed) i := by
        funext k
        unfold Reg.seen lay
        by_cases hki : k = i
        · subst hki; simp [hs, hlt]
        · rw [getD_set_ne true (fun e => hki e.symm)]; simp [hki]
      refine ih _ _ w' (by simpa using hs) ?_ (fun k p hk hkl e he hb => ?_) (by rw [e4]; exact hI')
      · have hlt2 := filter_lt (p := fun k => !listed.getD k false) (q := fun k => !(listed.setIfInBounds i true).getD k false) (i := i) (fun k hk => by
          by_cases hki : i = k
          · subst hki; simp [hs, hlt] at hk
          · rw [getD_set_ne false hki] at hk; exact hk) (by simp [hun']) (by simp [hs, hlt]) (List.mem_range.2 hlt)
        unfold left at hn ⊢
        omega
      · by_cases hki : k = i
        · subst hki
          obtain rfl : p = o := by rw [hoi] at hk; exact (Option.some.inj hk).symm
          exact getD_set_true (hall e he hb)
        · rw [getD_set_ne false (fun h => hki h.symm)] at hkl
          exact getD_set_true (hcl k p hk hkl e he hb)
    -- the guard
    unfold wpOp
    simp only [hoi]
    have hwv : Region.wanted o (yielded ops (fill a0 ops.toList 0 (fun k => listed.getD k false) vs).tmps) = wantedV o vs := by
      unfold Region.wanted wantedV
      cases hg : o.guard with
      | none => rfl
      | some gb =>
        obtain ⟨g, b⟩ := gb
        obtain ⟨p, d, hp, hpd, haw⟩ := tg g b hg
        obtain ⟨e, he, hb, hei⟩ := awaits_spec haw
        obtain ⟨p1, -, -, p3⟩ := tidy_spec ht hp
        have hget := fill_get vs (fun k => listed.getD k false) ops.toList 0 a0 g p d (by simpa using hp) hpd (p1 d hpd) (by have := hall e he hb; rw [hei] at this; simpa using this) (fun k q hk hne => by
          have := (p3 k q (by simpa using hk)).1 hne d hpd
          exact this)
        rw [Nat.zero_add] at hget
        simp only [yielded, hp, hpd, Option.bind_some, hget]
        cases vs g <;> rfl
    have h1 := hob (fun v' w' => Inv (lay (Reg.seen listed) i) (upd vs i v') w') (fun v w' h => h)
    by_cases hw : wantedV o vs = true
    · rw [if_pos (by rw [hwv]; exact hw)]
      refine .inl ?_
      rw [if_pos hw] at h1
      exact wp_of_givesP hex h1 (fun v w' hk => hnext v w' hk) (fun c w' hc => hQp _ c w' (fill_defers vs _ ops.toList 0 a0) hc)
    · rw [if_neg (by rw [hwv]; exact hw)]
      rw [if_neg hw] at h1
      exact hnext undef w h1

/-- The region, from the world behind the draw, under an invariant. -/
theorem wp_region_inv (Qp : List PanicEntry → World → Prop) {id : Nat} {a0 : Act} {w0 : World} {l : List Oper} {Q : Exit → Act → World → Prop} (Inv : (Nat → Bool) → (Nat → Value) → World → Prop) {A : (Nat → Value) → Act} {fr : Nat → (Nat → Value) → Act} (hQp : ∀ (b : Act) c w, b.defers = a0.defers → Qp c w → Q (.panic c) b w) (hm : P.follows .mixedOrders = true)
    (ht : tidy a0.tmps.size l.toArray = true) (hA : ∀ vs, fill a0 l 0 (fun _ => true) vs = A vs) (hfr : Frames l.toArray a0 fr)
    (hI : ∀ vs, Inv (fun k => decide (l.length ≤ k)) vs w0.drew)
    (ho : OblsI P Qp Inv fr l 0) (hend : ∀ vs w, Inv (fun _ => true) vs w → Q .normal (A vs) w) : (Code.region id l.toArray true).wp P Q a0 w0 := by
  have hA' : (fun vs => fill a0 l 0 (fun _ => true) vs) = A := funext hA
  subst hA'
  refine wp_region_any hm ?_
  have e : a0 = fill a0 l 0 (fun i => (Array.replicate l.toArray.size false).getD i false) (fun _ => undef) := by
    have h1 : ∀ (l : List Oper) (i : Nat) (a : Act) (vs : Nat → Value), fill a l i (fun _ => false) vs = a := by
      intro l
      induction l with
      | nil => intro i a vs; rfl
      | cons o r ih => intro i a vs; unfold fill; rw [if_neg (by simp)]; exact ih _ _ _
    have h2 : (fun i => (Array.replicate l.toArray.size false).getD i false) = fun _ => false := by
      funext i
      simp only [Array.getD_eq_getD_getElem?, Array.getElem?_replicate]; split <;> rfl
    rw [h2, h1]
  rw [e]
  refine any_order (Qp := Qp) (Inv := Inv) hQp ht hfr (fun i o hi => by have := oblI_of ho i o (by simpa using hi); rwa [Nat.zero_add] at this) (by simpa using hend) _ _ _ _ (by simp) ?_ ?_ ?_
  · unfold left
    exact Nat.le_trans (List.length_filter_le _ _) (by simp)
  · intro k p _ hkl
    simp only [Array.getD_eq_getD_getElem?, Array.getElem?_replicate] at hkl
    split at hkl <;> simp at hkl
  · have e2 : Reg.seen (Array.replicate l.toArray.size false) = fun k => decide (l.length ≤ k) := by
      funext k
      unfold Reg.seen
      simp only [Array.getD_eq_getD_getElem?, Array.getElem?_replicate, List.size_toArray]
      by_cases hk : k < l.length
      · rw [if_pos hk]; simp; omega
      · rw [if_neg hk]; simp; omega
    rw [e2]
    exact hI _

/-- What is asked of operation i where C speaks of the values too. -/
def OblF (P : Program) (Qp : List PanicEntry → World → Prop) (C : (Nat → Bool) → (Nat → Value) → World → Prop) (G : World → World → Prop) (Fs : List Fact) (A : (Nat → Value) → Act) (o : Oper) (i : Nat) : Prop :=
  ∀ (L : Nat → Bool) (vs : Nat → Value) (w : World), C L vs w → L i = false → Deps Fs vs w o.after.toList → Aw L o.after.toList →
    ∀ K : Value → World → Prop, (∀ v w', C (lay L i) (upd vs i v) w' → G w w' → at_ Fs i v w' → K v w') →
      if wantedV o vs = true then GivesP P K Qp ((execOp (A vs).eval o).run P w) else K undef w
def OblsL (P : Program) (Qp : List PanicEntry → World → Prop) (C : (Nat → Bool) → (Nat → Value) → World → Prop) (G : World → World → Prop) (Fs : List Fact) (fr : Nat → (Nat → Value) → Act) : List Oper → Nat → Prop
  | [], _ => True
  | o :: rest, i => OblF P Qp C G Fs (fr i) o i ∧ OblsL P Qp C G Fs fr rest (i + 1)
theorem wp_region_gen (Qp : List PanicEntry → World → Prop) {id : Nat} {a0 : Act} {w0 : World} {l : List Oper} {Q : Exit → Act → World → Prop} (C : (Nat → Bool) → (Nat → Value) → World → Prop) (G : World → World → Prop) (Fs : List Fact) {A : (Nat → Value) → Act} {fr : Nat → (Nat → Value) → Act} (hQp : ∀ (b : Act) c w, b.defers = a0.defers → Qp c w → Q (.panic c) b w) (hm : P.follows .mixedOrders = true)
    (ht : tidy a0.tmps.size l.toArray = true) (hfr : Frames l.toArray a0 fr) (hlen : Fs.length = l.length) (hA : ∀ vs, fill a0 l 0 (fun _ => true) vs = A vs)
    (hC : ∀ vs, C (fun k => decide (l.length ≤ k)) vs w0.drew) (ho : OblsL P Qp C G Fs fr l 0) (hlast : LastG G Fs)
    (hend : ∀ vs w, C (fun _ => true) vs w → All vs w Fs 0 → Q .normal (A vs) w) : (Code.region id l.toArray true).wp P Q a0 w0 := by
  refine wp_region_inv Qp (fun L vs w => C L vs w ∧ ∀ i, i < l.length → L i = true → at_ Fs i (vs i) w) hQp hm ht hA hfr (fun vs => ⟨hC vs, fun i hi h => ?_⟩) ?_ (fun vs w h => hend vs w h.1 (all_of fun k hk => by simpa using h.2 k (by omega) rfl))
  · simp at h; omega
  · have key : ∀ (r : List Oper) (i : Nat), i + r.length ≤ l.length → (∀ (k : Nat) (o : Oper), r[k]? = some o → ∀ e ∈ o.after, Region.binds .any e = true → e.on < l.length) → OblsL P Qp C G Fs fr r i → OblsI P Qp (fun L vs w => C L vs w ∧ ∀ i, i < l.length → L i = true → at_ Fs i (vs i) w) fr r i := by
      intro r
      induction r with
      | nil => intro i _ _ _; exact trivial
      | cons o r ih =>
        intro i hi he h
        refine ⟨?_, ih (i + 1) (by simp at hi; omega) (fun k o' hk => he (k + 1) o' (by simpa using hk)) h.2⟩
        intro L vs w hI hLi hall K hK
        have h1 := h.1 L vs w hI.1 hLi (deps_of fun e hm hb => hI.2 e.on (he 0 o (by simp) e (by simpa using hm) hb) (hall e hm hb)) (aw_of fun e hm hb => hall e hm hb) K
        refine h1 fun v w' hC' hb hF => hK v w' ⟨hC', fun k hk hL => ?_⟩
        unfold upd
        by_cases hki : k = i
        · subst hki; simpa using hF
        · rw [if_neg hki]
          have hLk : L k = true := by simpa [lay, hki] using hL
          exact at_lastG hlast k _ _ _ (hI.2 k hk hLk) hb
    refine key l 0 (by omega) (fun k o hk e he hb => ?_) ho
    have hko : l.toArray[k]? = some o := by simpa using hk
    have := (tidy_spec ht hko).2.2.1 e he hb
    have h2 := (Array.getElem?_eq_some_iff.1 hko).1
    simp at h2
    omega
/-- No operation looks at a slot that a later one writes. -/
theorem wp_region_free (Qp : List PanicEntry → World → Prop) {id : Nat} {a0 : Act} {w0 : World} {l : List Oper} {Q : Exit → Act → World → Prop} (C : (Nat → Bool) → (Nat → Value) → World → Prop) (G : World → World → Prop) (Fs : List Fact) {A : (Nat → Value) → Act} (hQp : ∀ (b : Act) c w, b.defers = a0.defers → Qp c w → Q (.panic c) b w) (hm : P.follows .mixedOrders = true)
    (ht : (tidy a0.tmps.size l.toArray && noLate l.toArray) = true) (hlen : Fs.length = l.length) (hA : ∀ vs, fill a0 l 0 (fun _ => true) vs = A vs)
    (hC : ∀ vs, C (fun k => decide (l.length ≤ k)) vs w0.drew) (ho : OblsL P Qp C G Fs (fun _ => A) l 0) (hlast : LastG G Fs)
    (hend : ∀ vs w, C (fun _ => true) vs w → All vs w Fs 0 → Q .normal (A vs) w) : (Code.region id l.toArray true).wp P Q a0 w0 := by
  rw [Bool.and_eq_true] at ht
  exact wp_region_gen Qp C G Fs hQp hm ht.1 (frames_plain ht.2 hA) hlen hA hC ho hlast hend
def OblT (P : Program) (Qp : List PanicEntry → World → Prop) (last : Nat) (anc : List Nat) (C0 C1 : World → Prop) (G : World → World → Prop) (Fs : List Fact) (A : (Nat → Value) → Act) (o : Oper) (i : Nat) : Prop :=
  ∀ (b : Bool) (vs : Nat → Value) (w : World), CB C0 C1 b w → ((anc.contains i || i == last) = true → b = false) → Deps Fs vs w o.after.toList →
    ∀ K : Value → World → Prop, (∀ v w', CB C0 C1 (b || i == last) w' → G w w' → at_ Fs i v w' → K v w') →
      if wantedV o vs = true then GivesP P K Qp ((execOp (A vs).eval o).run P w) else K undef w
def OblsT (P : Program) (Qp : List PanicEntry → World → Prop) (last : Nat) (anc : List Nat) (C0 C1 : World → Prop) (G : World → World → Prop) (Fs : List Fact) (A : (Nat → Value) → Act) : List Oper → Nat → Prop
  | [], _ => True
  | o :: rest, i => OblT P Qp last anc C0 C1 G Fs A o i ∧ OblsT P Qp last anc C0 C1 G Fs A rest (i + 1)
theorem wp_region_last (Qp : List PanicEntry → World → Prop) {P : Program} {id : Nat} {a0 : Act} {w0 : World} {l : List Oper} {Q : Exit → Act → World → Prop} (last : Nat) (anc : List Nat) (C0 C1 : World → Prop) (G : World → World → Prop) (Fs : List Fact) {A : (Nat → Value) → Act} (hQp : ∀ (b : Act) c w, b.defers = a0.defers → Qp c w → Q (.panic c) b w) (hm : P.follows .mixedOrders = true)
    (ht : (tidy a0.tmps.size l.toArray && noLate l.toArray) = true) (hanc : (decide (last < l.length) && anc.all fun i => (ancs l l.length [last]).contains i) = true) (hlen : Fs.length = l.length) (hA : ∀ vs, fill a0 l 0 (fun _ => true) vs = A vs)
    (hC : C0 w0.drew) (ho : OblsT P Qp last anc C0 C1 G Fs A l 0) (hlast : LastG G Fs)
    (hend : ∀ vs w, C1 w → All vs w Fs 0 → Q .normal (A vs) w) : (Code.region id l.toArray true).wp P Q a0 w0 := by
  rw [Bool.and_eq_true, decide_eq_true_eq] at hanc
  refine wp_region_free Qp (fun L vs w => Closed l L ∧ CB C0 C1 (L last) w) G Fs hQp hm ht hlen hA (fun vs => ⟨fun i o hi h => ?_, fun _ => hC, fun e => ?_⟩) ?_ hlast (fun vs w h => hend vs w (h.2.2 rfl))
  · have := (List.getElem?_eq_some_iff.1 hi).1
    simp at h; omega
  · have := hanc.1
    simp at e; omega
  · have key : ∀ (r : List Oper) (i : Nat), (∀ k o, r[k]? = some o → l[i + k]? = some o) → OblsT P Qp last anc C0 C1 G Fs A r i → OblsL P Qp (fun L vs w => Closed l L ∧ CB C0 C1 (L last) w) G Fs (fun _ => A) r i := by
      intro r
      induction r with
      | nil => intro i _ _; exact trivial
      | cons o r ih =>
        intro i hi h
        refine ⟨?_, ih (i + 1) (fun k o' hk => by have := hi (k + 1) o' (by simpa using hk); rwa [show i + 1 + k = i + (k + 1) by omega]) h.2⟩
        intro L vs w hC hL hd ha K hK
        refine h.1 (L last) vs w hC.2 (fun hai => ?_) hd K (fun v w' hC' hG hF => hK v w' ⟨?_, ?_⟩ hG hF)
        · cases e : L last with
          | false => rfl
          | true =>
            exfalso
            rw [Bool.or_eq_true] at hai
            rcases hai with hai | hai
            · have h1 := List.all_eq_true.1 hanc.2 i (by simpa using hai)
              have h2 := ancs_up hC.1 l.length (S := [last]) (fun s hs => by simp at hs; rw [hs]; exact e) i (by simpa using h1)
              rw [hL] at h2; cases h2
            · have : i = last := by simpa using hai
              rw [this, e] at hL; cases hL
        · intro j o' hj hLj
          have hmono : ∀ k, L k = true → lay L i k = true := fun k hk => by simp [lay, hk]
          by_cases hji : j = i
          · subst hji
            have := hi 0 o (by simp)
            rw [Nat.add_zero, hj] at this
            obtain rfl := Option.some.inj this
            exact aw_mono hmono ha
          · have : L j = true := by simpa [lay, hji] using hLj
            exact aw_mono hmono (hC.1 j o' hj this)
        · have : lay L i last = (L last || i == last) := by
            unfold lay
            congr 1
            exact Bool.eq_iff_iff.2 ⟨fun h => by rw [beq_iff_eq] at *; exact h.symm, fun h => by rw [beq_iff_eq] at *; exact h.symm⟩
          rw [this]
          exact hC'
    exact key l 0 (fun k o hk => by rw [Nat.zero_add]; exact hk) ho
end
end Go.Proofs.YtbikifibfaaggaaGreatDoor.RegP
