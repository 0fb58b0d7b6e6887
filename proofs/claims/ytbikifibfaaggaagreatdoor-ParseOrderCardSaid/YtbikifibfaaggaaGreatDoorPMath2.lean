/- Conditions as mathematics. -/
import Derived.Test.YtbikifibfaaggaaGreatDoorPMath
namespace Go.Proofs.YtbikifibfaaggaaGreatDoor
namespace Px
open Lx (Tok Tx)

def isNull (ts : List Tok) : Bool := isName ts && ((txt ts 1 == [61, 61] || txt ts 1 == [33, 61]) && txt ts 2 == [110, 117, 108, 108])
def nullCn (ts : List Tok) : Cn := if txt ts 1 == [33, 61] then .not (.null (txt ts 0)) else .null (txt ts 0)
def cmpOp (ts : List Tok) : Option Nat := if sees ts [33, 61] then some 1 else if sees ts [60] then some 2 else if sees ts [60, 61] then some 3 else if sees ts [62] then some 4 else if sees ts [62, 61] then some 5 else if sees ts [61, 61] then some 0 else none
def cmp (f o : Nat) (ts : List Tok) : R Cn :=
  match sum f o ts with
  | .ok a r =>
    (match cmpOp r with
    | some k =>
      (match sum f o r.tail with
      | .ok c r2 => .ok (.cmp k a c) r2
      | .err e r2 => .err e r2)
    | none => .err 51 r)
  | .err e r => .err e r
mutual
def not : Nat → Nat → List Tok → R Cn
  | 0, _, ts => .err 99 ts
  | f + 1, o, ts =>
    if sees ts [33] then
      if 40 ≤ o then .err 52 ts else
      match not f (o + 1) ts.tail with
      | .ok a r => .ok (.not a) r
      | .err e r => .err e r
    else if sees ts [40] then
      if 40 ≤ o then .err 52 ts else
      match cond f (o + 1) ts.tail with
      | .ok a r => if sees r [41] then .ok a r.tail else .err 51 r
      | .err e r => .err e r
    else if isNull ts then .ok (nullCn ts) (ts.drop 3)
    else cmp f o ts
def andL : Nat → Nat → Cn → List Tok → R Cn
  | 0, _, _, ts => .err 99 ts
  | f + 1, o, a, ts =>
    if sees ts [38, 38] then
      match not f o ts.tail with
      | .ok b r => andL f o (.two 6 a b) r
      | .err e r => .err e r
    else .ok a ts
def and : Nat → Nat → List Tok → R Cn
  | 0, _, ts => .err 99 ts
  | f + 1, o, ts =>
    match not f o ts with
    | .ok a r => andL f o a r
    | .err e r => .err e r
def condL : Nat → Nat → Cn → List Tok → R Cn
  | 0, _, _, ts => .err 99 ts
  | f + 1, o, a, ts =>
    if sees ts [124, 124] then
      match and f o ts.tail with
      | .ok b r => condL f o (.two 7 a b) r
      | .err e r => .err e r
    else .ok a ts
def cond : Nat → Nat → List Tok → R Cn
  | 0, _, ts => .err 99 ts
  | f + 1, o, ts =>
    match and f o ts with
    | .ok a r => condL f o a r
    | .err e r => .err e r
end
theorem sees_len {ts : List Tok} {s : Tx} (hs : s ≠ []) (h : sees ts s = true) : 0 < ts.length := by
  match ts, h with
  | [], h => unfold sees txt at h; simp at h; exact absurd h hs
  | t :: r, h => simp
theorem isNull_form {ts : List Tok} (h : isNull ts = true) : ∃ t0 t1 t2 r, ts = t0 :: t1 :: t2 :: r ∧ isName (t0 :: t1 :: t2 :: r) = true ∧ (t1.text = [61, 61] ∨ t1.text = [33, 61]) ∧ t2.text = [110, 117, 108, 108] := by
  match ts, h with
  | [], h => simp [isNull, isName] at h
  | [t], h => simp [isNull, txt] at h
  | [t, u], h => simp [isNull, txt] at h
  | t :: u :: v :: r, h =>
    unfold isNull at h
    simp only [Bool.and_eq_true, Bool.or_eq_true, beq_iff_eq] at h
    exact ⟨t, u, v, r, rfl, h.1, h.2.1, h.2.2⟩
theorem cmp_len {f o : Nat} {ts r : List Tok} {a : Cn} (h : cmp f o ts = .ok a r) : r.length < ts.length := by
  unfold cmp at h
  split at h
  · rename_i h1
    have q1 := (ex_len f).2.2.2.2 _ _ _ _ h1
    split at h
    · split at h
      · rename_i h2
        have q2 := (ex_len f).2.2.2.2 _ _ _ _ h2
        injection h with _ h; subst h
        simp at q2; omega
      · cases h
    · cases h
  · cases h
theorem cn_len : ∀ (f : Nat), (∀ o ts a r, not f o ts = .ok a r → r.length < ts.length) ∧ (∀ o x ts a r, andL f o x ts = .ok a r → r.length ≤ ts.length) ∧ (∀ o ts a r, and f o ts = .ok a r → r.length < ts.length) ∧ (∀ o x ts a r, condL f o x ts = .ok a r → r.length ≤ ts.length) ∧ (∀ o ts a r, cond f o ts = .ok a r → r.length < ts.length)
  | 0 => ⟨fun o ts a r h => by simp [not] at h, fun o x ts a r h => by simp [andL] at h, fun o ts a r h => by simp [and] at h, fun o x ts a r h => by simp [condL] at h, fun o ts a r h => by simp [cond] at h⟩
  | f + 1 => by
    obtain ⟨h1, h2, h3, h4, h5⟩ := cn_len f
    refine ⟨fun o ts a r h => ?_, fun o x ts a r h => ?_, fun o ts a r h => ?_, fun o x ts a r h => ?_, fun o ts a r h => ?_⟩
    · unfold not at h
      split at h
      · rename_i hs
        have := sees_len (by simp) hs
        split at h
        · cases h
        · split at h
          · rename_i a' r' hr
            have := h1 _ _ _ _ hr
            injection h with _ h
            subst h
            simp at this; omega
          · cases h
      · split at h
        · rename_i hs
          have := sees_len (by simp) hs
          split at h
          · cases h
          · split at h
            · rename_i a' r' hr
              have := h5 _ _ _ _ hr
              split at h
              · injection h with _ h
                subst h
                simp at this ⊢; omega
              · cases h
            · cases h
        · split at h
          · rename_i hs
            obtain ⟨t0, t1, t2, r', rfl, _⟩ := isNull_form hs
            injection h with _ h
            subst h
            simp; omega
          · exact cmp_len h
    · unfold andL at h
      split at h
      · split at h
        · rename_i hr
          have q1 := h1 _ _ _ _ hr
          have q2 := h2 _ _ _ _ _ h
          simp at q1; omega
        · cases h
      · injection h with _ h; subst h; exact Nat.le_refl _
    · unfold and at h
      split at h
      · rename_i hr
        have q1 := h1 _ _ _ _ hr
        have q2 := h2 _ _ _ _ _ h
        omega
      · cases h
    · unfold condL at h
      split at h
      · split at h
        · rename_i hr
          have q1 := h3 _ _ _ _ hr
          have q2 := h4 _ _ _ _ _ h
          simp at q1; omega
        · cases h
      · injection h with _ h; subst h; exact Nat.le_refl _
    · unfold cond at h
      split at h
      · rename_i hr
        have q1 := h3 _ _ _ _ hr
        have q2 := h4 _ _ _ _ _ h
        omega
      · cases h
end Px
end Go.Proofs.YtbikifibfaaggaaGreatDoor
