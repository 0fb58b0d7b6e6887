/- A region that draws its order, one of whose operations alone turns the world: all that it waits for comes up before it. -/
import Derived.Test.YtbikifibfaaggaaGreatDoorRegion
namespace Go.Proofs.YtbikifibfaaggaaGreatDoor.Reg
open Go Go.RowKit

/-- Whatever has come up had what it waits for. -/
def Closed (l : List Oper) (L : Nat → Bool) : Prop := ∀ i o, l[i]? = some o → L i = true → Aw L o.after.toList
theorem aw_get {L : Nat → Bool} : ∀ {l : List Edge}, Aw L l → ∀ e ∈ l, Region.binds .any e = true → L e.on = true
  | [], _, e, he, _ => by cases he
  | e0 :: r, h, e, he, hb => by
    rcases List.mem_cons.1 he with rfl | he
    · exact h.1 hb
    · exact aw_get h.2 e he hb
theorem aw_mono {L M : Nat → Bool} (h : ∀ k, L k = true → M k = true) {l : List Edge} (a : Aw L l) : Aw M l := aw_of fun e he hb => h _ (aw_get a e he hb)
def before (l : List Oper) (S : List Nat) : List Nat := (List.range l.length).filter fun j => S.contains j || S.any fun i => match l[i]? with
  | some o => o.after.toList.any fun e => Region.binds .any e && e.on == j
  | none => false
def ancs (l : List Oper) : Nat → List Nat → List Nat
  | 0, S => S
  | n + 1, S => ancs l n (before l S)
theorem before_up {l : List Oper} {L : Nat → Bool} (hc : Closed l L) {S : List Nat} (hS : ∀ s ∈ S, L s = true) : ∀ t ∈ before l S, L t = true := by
  intro t ht
  simp only [before, List.mem_filter, Bool.or_eq_true, List.contains_iff_mem, List.any_eq_true] at ht
  rcases ht.2 with h | ⟨i, hi, h⟩
  · exact hS t h
  · cases ho : l[i]? with
    | none => rw [ho] at h; cases h
    | some o =>
      rw [ho] at h
      simp only [List.any_eq_true, Bool.and_eq_true, beq_iff_eq] at h
      obtain ⟨e, he, hb, hon⟩ := h
      rw [← hon]
      exact aw_get (hc i o ho (hS i hi)) e he hb
theorem ancs_up {l : List Oper} {L : Nat → Bool} (hc : Closed l L) : ∀ (n : Nat) {S : List Nat}, (∀ s ∈ S, L s = true) → ∀ t ∈ ancs l n S, L t = true
  | 0, _, h => h
  | n + 1, _, h => ancs_up hc n (before_up hc h)
/-- What holds ahead of the operation, and behind it. -/
def CB (C0 C1 : World → Prop) (b : Bool) (w : World) : Prop := (b = false → C0 w) ∧ (b = true → C1 w)
theorem CB.pre {C0 C1 : World → Prop} {w : World} {i last : Nat} (h : C0 w) (hi : (i == last) = false) : CB C0 C1 (false || i == last) w := ⟨fun _ => h, fun e => by rw [hi] at e; cases e⟩
theorem CB.post {C0 C1 : World → Prop} {w : World} {b : Bool} {last : Nat} (h : C1 w) : CB C0 C1 (b || last == last) w := ⟨fun e => by simp at e, fun _ => h⟩
theorem CB.same {C0 C1 : World → Prop} {w w' : World} {b : Bool} {i last : Nat} (h : CB C0 C1 b w) (hi : (i == last) = false) (h0 : C0 w → C0 w') (h1 : C1 w → C1 w') : CB C0 C1 (b || i == last) w' := by
  rw [hi, Bool.or_false]
  exact ⟨fun e => h0 (h.1 e), fun e => h1 (h.2 e)⟩
def OblT (P : Program) (last : Nat) (anc : List Nat) (C0 C1 : World → Prop) (G : World → World → Prop) (Fs : List Fact) (A : (Nat → Value) → Act) (o : Oper) (i : Nat) : Prop :=
  ∀ (b : Bool) (vs : Nat → Value) (w : World), CB C0 C1 b w → ((anc.contains i || i == last) = true → b = false) → Deps Fs vs w o.after.toList →
    ∀ K : Value → World → Prop, (∀ v w', CB C0 C1 (b || i == last) w' → G w w' → at_ Fs i v w' → K v w') →
      if wantedV o vs = true then Gives P K ((execOp (A vs).eval o).run P w) else K undef w
def OblsT (P : Program) (last : Nat) (anc : List Nat) (C0 C1 : World → Prop) (G : World → World → Prop) (Fs : List Fact) (A : (Nat → Value) → Act) : List Oper → Nat → Prop
  | [], _ => True
  | o :: rest, i => OblT P last anc C0 C1 G Fs A o i ∧ OblsT P last anc C0 C1 G Fs A rest (i + 1)
theorem wp_region_last {P : Program} {id : Nat} {a0 : Act} {w0 : World} {l : List Oper} {Q : Exit → Act → World → Prop} (last : Nat) (anc : List Nat) (C0 C1 : World → Prop) (G : World → World → Prop) (Fs : List Fact) {A : (Nat → Value) → Act} (hm : P.follows .mixedOrders = true)
    (ht : (tidy a0.tmps.size l.toArray && noLate l.toArray) = true) (hanc : (decide (last < l.length) && anc.all fun i => (ancs l l.length [last]).contains i) = true) (hlen : Fs.length = l.length) (hA : ∀ vs, fill a0 l 0 (fun _ => true) vs = A vs)
    (hC : C0 w0.drew) (ho : OblsT P last anc C0 C1 G Fs A l 0) (hlast : LastG G Fs)
    (hend : ∀ vs w, C1 w → All vs w Fs 0 → Q .normal (A vs) w) : (Code.region id l.toArray true).wp P Q a0 w0 := by
  rw [Bool.and_eq_true, decide_eq_true_eq] at hanc
  refine wp_region_free (fun L vs w => Closed l L ∧ CB C0 C1 (L last) w) G Fs hm ht hlen hA (fun vs => ⟨fun i o hi h => ?_, fun _ => hC, fun e => ?_⟩) ?_ hlast (fun vs w h => hend vs w (h.2.2 rfl))
  · have := (List.getElem?_eq_some_iff.1 hi).1
    simp at h; omega
  · have := hanc.1
    simp at e; omega
  · have key : ∀ (r : List Oper) (i : Nat), (∀ k o, r[k]? = some o → l[i + k]? = some o) → OblsT P last anc C0 C1 G Fs A r i → OblsL P (fun L vs w => Closed l L ∧ CB C0 C1 (L last) w) G Fs (fun _ => A) r i := by
      intro r
      induction r with
      | nil => intro i _ _; exact trivial
      | cons o r ih =>
        intro i hi h
        refine ⟨?_, ih (i + 1) (fun k o' hk => by have := hi (k + 1) o' (by simpa using hk); rwa [show i + 1 + k = i + (k + 1) by omega]) h.2⟩
        intro L vs w hC hL hd ha K hK
        refine h.1 (L last) vs w hC.2 (fun hai => ?_) hd K (fun v w' hC' hG hF => hK v w' ⟨?_, ?_⟩ hG hF)
        · cases e : L last with
          | false => rfl
          | true =>
            exfalso
            rw [Bool.or_eq_true] at hai
            rcases hai with hai | hai
            · have h1 := List.all_eq_true.1 hanc.2 i (by simpa using hai)
              have h2 := ancs_up hC.1 l.length (S := [last]) (fun s hs => by simp at hs; rw [hs]; exact e) i (by simpa using h1)
              rw [hL] at h2; cases h2
            · have : i = last := by simpa using hai
              rw [this, e] at hL; cases hL
        · intro j o' hj hLj
          have hmono : ∀ k, L k = true → lay L i k = true := fun k hk => by simp [lay, hk]
          by_cases hji : j = i
          · subst hji
            have := hi 0 o (by simp)
            rw [Nat.add_zero, hj] at this
            obtain rfl := Option.some.inj this
            exact aw_mono hmono ha
          · have : L j = true := by simpa [lay, hji] using hLj
            exact aw_mono hmono (hC.1 j o' hj this)
        · have : lay L i last = (L last || i == last) := by
            unfold lay
            congr 1
            exact Bool.eq_iff_iff.2 ⟨fun h => by rw [beq_iff_eq] at *; exact h.symm, fun h => by rw [beq_iff_eq] at *; exact h.symm⟩
          rw [this]
          exact hC'
    exact key l 0 (fun k o hk => by rw [Nat.zero_add]; exact hk) ho
end Go.Proofs.YtbikifibfaaggaaGreatDoor.Reg
