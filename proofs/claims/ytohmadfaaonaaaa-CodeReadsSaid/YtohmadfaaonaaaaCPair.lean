/- Two readers over the same bytes, in step: the code's and the reference's. -/
import Derived.Test.YtohmadfaaonaaaaCBoth
import Derived.Test.YtohmadfaaonaaaaCSame
namespace Go.Proofs.Ytohmadfaaonaaaa
open Go.RowKit

theorem shrNum : Shr (M.dec 0 0) := fun _ _ _ h => Nat.le_of_lt (M.dec_len h).1
theorem shrNm : Shr M.decNm := by
  intro l a r h
  unfold M.decNm at h
  split at h
  · rename_i x r1 h1
    have h1' := shrStr _ _ _ h1
    split at h
    · rename_i y r2 h2
      have h2' := shrIv _ _ _ h2
      have h3 := congrArg Prod.snd (Option.some.inj h)
      simp at h3; subst h3; omega
    · cases h
  · cases h
theorem many_len {α : Type} {d : List UInt8 → Option (α × List UInt8)} : ∀ {n : Nat} {l r : List UInt8} {xs : List α}, M.decMany d n l = some (xs, r) → xs.length = n
  | 0, l, r, xs, h => by
    have h3 := congrArg Prod.fst (Option.some.inj h)
    simp at h3; subst h3; rfl
  | n + 1, l, r, xs, h => by
    unfold M.decMany at h
    split at h
    · split at h
      · rename_i y r2 h2
        have h2' := many_len h2
        have h3 := congrArg Prod.fst (Option.some.inj h)
        simp at h3; subst h3; simp; omega
      · cases h
    · cases h
theorem list_size {α : Type} {d : List UInt8 → Option (α × List UInt8)} {l r : List UInt8} {a : List α} (h : M.decList d l = some (a, r)) : a.length ≤ l.length := by
  unfold M.decList at h
  split at h
  · rename_i n r1 h1
    have h2 := count_le h1
    have h3 := many_len h
    omega
  · cases h
theorem sm_facts {l r : List UInt8} {s : Sm} (h : M.decSm l = some (s, r)) : r.length ≤ l.length ∧ s.alarms.length ≤ l.length ∧ s.mod.length ≤ l.length := by
  unfold M.decSm at h
  split at h
  · cases h
  · rename_i als r0 h0
    split at h
    · cases h
    · rename_i b r1 h1
      split at h
      · cases h
      · rename_i iv r2 h2
        split at h
        · cases h
        · rename_i ms r3 h3
          have e := Option.some.inj h
          have e1 := congrArg Prod.fst e
          have e2 := congrArg Prod.snd e
          have a0 := list_len shrAl h0
          have a1 := shrBool _ _ _ h1
          have a2 := shrIv _ _ _ h2
          have a3 := list_len shrNm h3
          have a4 := list_size h0
          have a5 := list_size h3
          simp only [] at e1 e2
          subst e1; subst e2
          exact ⟨by omega, a4, by simp only []; omega⟩
theorem shrSm : Shr M.decSm := fun _ _ _ h => (sm_facts h).1

/-! ### What either reader answers -/
def ans {α : Type} (R : Option (α × List UInt8)) (val : α → Value) (z : Value) : Value := match R with | some (a, _) => val a | none => z
def After {α : Type} (R : Option (α × List UInt8)) (l1 : List UInt8) : Prop := ∀ a r, R = some (a, r) → l1 = r
theorem Ro.any {α : Type} {R : Option (α × List UInt8)} {val : α → Value} {z : Value} {p g : Nat} {w w' : World} {e : Ending} (h : Ro R val z p g w e w') :
    e = .returned (ans R val z) ∧ ∃ l1, RdAt w' p g l1 R.isNone ∧ After R l1 ∧ Keeps [p] w w' := by
  cases R with
  | none => obtain ⟨h1, l', h2, h3⟩ := h; exact ⟨h1, l', h2, fun a r h => (by cases h), h3⟩
  | some x => obtain ⟨a, r⟩ := x; obtain ⟨h1, h2, h3⟩ := h; exact ⟨h1, r, h2, fun a' r' h => by cases h; rfl, h3⟩
theorem Mo.any {α : Type} {R : Option (α × List UInt8)} {val : α → Value} {z : Value} {p g : Nat} {w w' : World} {e : Ending} (h : Mo R val z p g w e w') :
    e = .returned (ans R val z) ∧ ∃ l1, RmAt w' p g l1 R.isNone ∧ After R l1 ∧ Keeps [p] w w' := by
  cases R with
  | none => obtain ⟨h1, l', h2, h3⟩ := h; exact ⟨h1, l', h2, fun a r h => (by cases h), h3⟩
  | some x => obtain ⟨a, r⟩ := x; obtain ⟨h1, h2, h3⟩ := h; exact ⟨h1, r, h2, fun a' r' h => by cases h; rfl, h3⟩
def smOf (R : Option (Sm × List UInt8)) : Sm := match R with | some (s, _) => s | none => ⟨[], false, ⟨false, 0, 0⟩, []⟩
theorem zero_at (B : Nat) (w : World) : SmAt B w zeroSm ⟨[], false, ⟨false, 0, 0⟩, []⟩ := ⟨B, B, none, 0, none, 0, rfl, .inl rfl, .inl rfl, Nat.le_refl _, Nat.le_refl _⟩
theorem RoS.any {R : Option (Sm × List UInt8)} {p g : Nat} {w w' : World} {e : Ending} (h : RoS R p g w e w') :
    ∃ v, e = .returned v ∧ SmAt w.heap.size w' v (smOf R) ∧ ∃ l1, RdAt w' p g l1 R.isNone ∧ After R l1 ∧ Keeps [p] w w' := by
  cases R with
  | none => obtain ⟨h1, l', h2, h3⟩ := h; exact ⟨_, h1, zero_at _ _, l', h2, fun a r h => (by cases h), h3⟩
  | some x => obtain ⟨a, r⟩ := x; obtain ⟨v, h1, h4, h2, h3⟩ := h; exact ⟨v, h1, h4, r, h2, fun a' r' h => by cases h; rfl, h3⟩
theorem MoS.any {R : Option (Sm × List UInt8)} {p g : Nat} {w w' : World} {e : Ending} (h : MoS R p g w e w') :
    ∃ v, e = .returned v ∧ SmAt w.heap.size w' v (smOf R) ∧ ∃ l1, RmAt w' p g l1 R.isNone ∧ After R l1 ∧ Keeps [p] w w' := by
  cases R with
  | none => obtain ⟨h1, l', h2, h3⟩ := h; exact ⟨_, h1, zero_at _ _, l', h2, fun a r h => (by cases h), h3⟩
  | some x => obtain ⟨a, r⟩ := x; obtain ⟨v, h1, h4, h2, h3⟩ := h; exact ⟨v, h1, h4, r, h2, fun a' r' h => by cases h; rfl, h3⟩
theorem SmAt.zero {B : Nat} {w : World} {v : Value} {s : Sm} (h : SmAt B w v s) : SmAt 0 w v s := by
  obtain ⟨h1, h2, Aa, ca, Am, cm, hv, al, nl, b1, b2⟩ := h
  exact ⟨h1, h2, Aa, ca, Am, cm, hv, al, nl, Nat.zero_le _, Nat.zero_le _⟩
theorem ans_num (R : Option (Nat × List UInt8)) : ∃ n : Nat, ans R (fun n => .int .u64 (n : Int)) (.int .u64 0) = .int .u64 (n : Int) := by
  cases R with
  | none => exact ⟨0, rfl⟩
  | some x => exact ⟨x.1, rfl⟩
theorem ans_int (R : Option (Int × List UInt8)) : ∃ n : Int, ans R (fun z => .int .i64 z) (.int .i64 0) = .int .i64 n := by
  cases R with
  | none => exact ⟨0, rfl⟩
  | some x => exact ⟨x.1, rfl⟩
theorem ans_str (R : Option (ByteArray × List UInt8)) : ∃ s : ByteArray, ans R (fun s => .string s) (.string .empty) = .string s := by
  cases R with
  | none => exact ⟨.empty, rfl⟩
  | some x => exact ⟨x.1, rfl⟩
theorem ans_bool (R : Option (Bool × List UInt8)) : ∃ b : Bool, ans R (fun b => .bool b) (.bool false) = .bool b := by
  cases R with
  | none => exact ⟨false, rfl⟩
  | some x => exact ⟨x.1, rfl⟩

/-! ### In step -/
structure Pair (w wr : World) (p g m gm : Nat) (f : Bool) (l l' : List UInt8) : Prop where
  rd : RdAt wr p g l f
  rm : RmAt wr m gm l' f
  same : f = false → l = l'
  len : f = false → l.length ≤ 20000
  ne : p ≠ m
  keeps : Keeps [] w wr
  pw : w.heap.size ≤ p
  mw : w.heap.size ≤ m
section
variable {w wr w1 w2 : World} {p g m gm : Nat} {f f1 : Bool} {l l' l1 l2 : List UInt8} {α : Type} {R : Option (α × List UInt8)}
theorem Pair.first (h : Pair w wr p g m gm f l l') (q2 : Keeps [p] wr w1) : RmAt w1 m gm l' f := by
  obtain ⟨A, cap, hb, _⟩ := h.rd
  exact h.rm.other hb two_no_u8 (Ne.symm h.ne) q2
theorem Pair.next (h : Pair w wr p g m gm f l l') (q1 : RdAt w1 p g l1 R.isNone) (a1 : After R l1) (q2 : Keeps [p] wr w1) (q3 : RmAt w2 m gm l2 R.isNone) (a2 : After R l2) (q4 : Keeps [m] w1 w2)
    (hR : ∀ a r, R = some (a, r) → r.length ≤ 20000) : Pair w w2 p g m gm R.isNone l1 l2 := by
  obtain ⟨A, cap, hb, _⟩ := h.first q2
  refine ⟨q1.other hb two_no_u8 h.ne q4, q3, fun hf => ?_, fun hf => ?_, h.ne, ?_, h.pw, h.mw⟩
  · cases hd : R with
    | none => rw [hd] at hf; cases hf
    | some x => rw [a1 x.1 x.2 hd, a2 x.1 x.2 hd]
  · cases hd : R with
    | none => rw [hd] at hf; cases hf
    | some x => rw [a1 x.1 x.2 hd]; exact hR x.1 x.2 hd
  · have hp := h.pw
    have hm := h.mw
    exact (h.keeps.trans q2 (fun x hx hl => by simp at hx; omega)).trans q4 (fun x hx hl => by simp at hx; omega)
theorem Pair.mid (h : Pair w wr p g m gm f l l') (q2 : Keeps [p] wr w1) (q4 : Keeps [m] w1 w2) : Keeps [] w w2 := by
  have hp := h.pw
  have hm := h.mw
  exact (h.keeps.trans q2 (fun x hx hl => by simp at hx; omega)).trans q4 (fun x hx hl => by simp at hx; omega)
theorem Pair.opt (h : Pair w wr p g m gm f l l') (d : List UInt8 → Option (α × List UInt8)) : M.opt f (d l') = M.opt f (d l) := by
  cases f with
  | true => rfl
  | false => rw [h.same rfl]
theorem Pair.small (h : Pair w wr p g m gm f l l') {d : List UInt8 → Option (α × List UInt8)} (hd : Shr d) : ∀ a r, M.opt f (d l) = some (a, r) → r.length ≤ 20000 := by
  intro a r hr
  cases f with
  | true => cases hr
  | false => have h1 := hd _ _ _ hr; have h2 := h.len rfl; omega
theorem Pair.sizes (h : Pair w wr p g m gm f l l') : (smOf (M.opt f (M.decSm l))).alarms.length ≤ 20000 ∧ (smOf (M.opt f (M.decSm l))).mod.length ≤ 20000 := by
  cases f with
  | true => exact ⟨Nat.zero_le _, Nat.zero_le _⟩
  | false =>
    show (smOf (M.decSm l)).alarms.length ≤ _ ∧ (smOf (M.decSm l)).mod.length ≤ _
    cases hd : M.decSm l with
    | none => exact ⟨Nat.zero_le _, Nat.zero_le _⟩
    | some x =>
      obtain ⟨s, r⟩ := x
      have h1 := sm_facts hd
      have h2 := h.len rfl
      exact ⟨by show s.alarms.length ≤ _; omega, by show s.mod.length ≤ _; omega⟩
theorem Pair.keep (h : Pair w wr p g m gm f l l') (hk : Keeps [] wr w1) : Pair w w1 p g m gm f l l' :=
  ⟨h.rd.keep hk (by simp) (by simp), h.rm.keep hk (by simp) (by simp), h.same, h.len, h.ne, h.keeps.trans hk (by simp), h.pw, h.mw⟩
end

/-! ### b[:n:n] of a slice of bytes -/
theorem slice_full {A : Option Addr} {n cap : Nat} (hcap : n ≤ cap) : ∃ A', (∀ w, (Instr.slice 27 (.slice A n cap) none (some (.int .i64 (n : Int))) (some (.int .i64 (n : Int)))).run Try.prog w = .ok (.slice A' n n) w) ∧
    ∀ w g l, l.length = n → BytesIn w g A l → BytesIn w g A' l ∧ (A' = none → l = []) := by
  refine ⟨if n = 0 then A else A.map (·.add 0), fun w => ?_, fun w g l hl h => ?_⟩
  · have := run_slice_hm (P := Try.prog) w 27 A n cap elemBytes .i64 .i64 (n : Int) (n : Int) (by omega) (by omega) (by omega)
    rw [this]
    have hs : (sizeOf (Try.prog.elem 27)).run Try.prog w = .ok 1 w := by kernel_rfl
    rw [hs]
    simp [Result.andThen, sliced]
  · by_cases hc : n = 0
    · have h0 : l = [] := List.eq_nil_of_length_eq_zero (by omega)
      exact ⟨.inl h0, fun _ => h0⟩
    · rw [if_neg hc]
      rcases h with h | ⟨off, rfl, hc2⟩
      · subst h; simp at hl; omega
      · exact ⟨.inr ⟨off, by rw [Option.map_some, Addr.add_lit]; rfl, hc2⟩, fun h => by cases h⟩
end Go.Proofs.Ytohmadfaaonaaaa
