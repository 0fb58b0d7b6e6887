/- The parser as mathematics: functions on what is left of the tokens. -/
import Derived.Test.YtbikifibfaaggaaGreatDoorLMath
namespace Go.Proofs.YtbikifibfaaggaaGreatDoor
namespace Px
open Lx (Tok Tx)

/-- The text of the token that is n behind the next one. -/
def txt (ts : List Tok) (n : Nat) : Tx := match ts[n]? with | some t => t.text | none => []
def sees (ts : List Tok) (s : Tx) : Bool := txt ts 0 == s
def words : List Tx := [[102, 110], [118, 97, 114], [112, 116, 114], [105, 102], [101, 108, 115, 101], [119, 104, 105, 108, 101], [114, 101, 116, 117, 114, 110], [97, 115, 115, 101, 114, 116], [110, 117, 108, 108], [99, 101, 108, 108], [97, 114, 114, 97, 121]]
def isName : List Tok → Bool | t :: _ => t.kind == 0 && !words.contains t.text | [] => false
def isNum : List Tok → Bool | t :: _ => t.kind == 1 | [] => false
/-- Where the next token begins, or where the text ends. -/
def place (n : Nat) : List Tok → Nat | t :: _ => t.at_ | [] => n
/-- A token as the lexer makes it. -/
structure Wf (t : Tok) : Prop where
  text : t.text ≠ []
  kind : t.kind ≤ 2
  len : t.text.length ≤ 4096
  num : t.kind = 1 → (∀ b ∈ t.text, Lx.digit b = true) ∧ Lx.val t.text ≤ 9223372036854775807
  oth : t.kind ≠ 1 → ∀ b ∈ t.text.head?, Lx.digit b = false
  place : t.at_ ≤ 4096

structure Good (ts : List Tok) : Prop where
  wf : ∀ t ∈ ts, Wf t
  len : ts.length ≤ 5000
theorem Good.tail {t : Tok} {r : List Tok} (h : Good (t :: r)) : Good r := ⟨fun x hx => h.wf x (List.mem_cons_of_mem _ hx), by have := h.len; simp at this; omega⟩
/-- What reading a part comes to: the part and what is left, or an error at what is left. -/
inductive R (α : Type) where
  | ok (a : α) (ts : List Tok)
  | err (e : Nat) (ts : List Tok)

/-- What is behind a part. -/
def R.bind {α β : Type} (r : R α) (g : α → List Tok → R β) : R β := match r with | .ok a ts => g a ts | .err e ts => .err e ts
inductive Ex where
  | num (n : Nat)
  | var (s : Tx)
  | neg (a : Ex)
  | bin (k : Nat) (a b : Ex)
inductive Cn where
  | cmp (k : Nat) (a b : Ex)
  | two (k : Nat) (p q : Cn)
  | not (p : Cn)
  | null (s : Tx)

def mulOp (ts : List Tok) : Option Nat := if sees ts [42] then some 4 else if sees ts [47] then some 5 else if sees ts [37] then some 6 else none
def addOp (ts : List Tok) : Option Nat := if sees ts [43] then some 2 else if sees ts [45] then some 3 else none

mutual
def un : Nat → Nat → List Tok → R Ex
  | 0, _, ts => .err 99 ts
  | f + 1, o, ts =>
    if sees ts [45] then
      if 40 ≤ o then .err 52 ts else
      match un f (o + 1) ts.tail with
      | .ok a r => .ok (.neg a) r
      | .err e r => .err e r
    else if sees ts [40] then
      if 40 ≤ o then .err 52 ts else
      match sum f (o + 1) ts.tail with
      | .ok a r => if sees r [41] then .ok a r.tail else .err 51 r
      | .err e r => .err e r
    else if isNum ts then .ok (.num (Lx.val (txt ts 0))) ts.tail
    else if isName ts then .ok (.var (txt ts 0)) ts.tail
    else .err 51 ts
def prodL : Nat → Nat → Ex → List Tok → R Ex
  | 0, _, _, ts => .err 99 ts
  | f + 1, o, a, ts =>
    match mulOp ts with
    | none => .ok a ts
    | some k =>
      match un f o ts.tail with
      | .ok b r => prodL f o (.bin k a b) r
      | .err e r => .err e r
def prod : Nat → Nat → List Tok → R Ex
  | 0, _, ts => .err 99 ts
  | f + 1, o, ts =>
    match un f o ts with
    | .ok a r => prodL f o a r
    | .err e r => .err e r
def sumL : Nat → Nat → Ex → List Tok → R Ex
  | 0, _, _, ts => .err 99 ts
  | f + 1, o, a, ts =>
    match addOp ts with
    | none => .ok a ts
    | some k =>
      match prod f o ts.tail with
      | .ok b r => sumL f o (.bin k a b) r
      | .err e r => .err e r
def sum : Nat → Nat → List Tok → R Ex
  | 0, _, ts => .err 99 ts
  | f + 1, o, ts =>
    match prod f o ts with
    | .ok a r => sumL f o a r
    | .err e r => .err e r
end

/-- What is left is shorter. -/
theorem ex_len : ∀ (f : Nat), (∀ o ts a r, un f o ts = .ok a r → r.length < ts.length) ∧ (∀ o x ts a r, prodL f o x ts = .ok a r → r.length ≤ ts.length) ∧ (∀ o ts a r, prod f o ts = .ok a r → r.length < ts.length) ∧ (∀ o x ts a r, sumL f o x ts = .ok a r → r.length ≤ ts.length) ∧ (∀ o ts a r, sum f o ts = .ok a r → r.length < ts.length)
  | 0 => ⟨fun o ts a r h => by simp [un] at h, fun o x ts a r h => by simp [prodL] at h, fun o ts a r h => by simp [prod] at h, fun o x ts a r h => by simp [sumL] at h, fun o ts a r h => by simp [sum] at h⟩
  | f + 1 => by
    obtain ⟨h1, h2, h3, h4, h5⟩ := ex_len f
    refine ⟨fun o ts a r h => ?_, fun o x ts a r h => ?_, fun o ts a r h => ?_, fun o x ts a r h => ?_, fun o ts a r h => ?_⟩
    · unfold un at h
      have hnil : ∀ s, s ≠ [] → sees ts s = true → 0 < ts.length := fun s hs h => by
        match ts, h with
        | [], h => unfold sees txt at h; simp at h; exact absurd h hs
        | t :: r, h => simp
      split at h
      · rename_i hs
        have := hnil _ (by simp) hs
        split at h
        · cases h
        · split at h
          · rename_i a' r' hr
            have := h1 _ _ _ _ hr
            injection h with _ h
            subst h
            simp at this; omega
          · cases h
      · split at h
        · rename_i hs
          have := hnil _ (by simp) hs
          split at h
          · cases h
          · split at h
            · rename_i a' r' hr
              have := h5 _ _ _ _ hr
              split at h
              · injection h with _ h
                subst h
                simp at this ⊢; omega
              · cases h
            · cases h
        · split at h
          · rename_i hs
            injection h with _ h
            subst h
            match ts, hs with
            | t :: r, _ => simp
          · split at h
            · rename_i hs
              injection h with _ h
              subst h
              match ts, hs with
              | t :: r, _ => simp
            · cases h
    · unfold prodL at h
      split at h
      · injection h with _ h; subst h; exact Nat.le_refl _
      · split at h
        · rename_i hr
          have q1 := h1 _ _ _ _ hr
          have q2 := h2 _ _ _ _ _ h
          simp at q1; omega
        · cases h
    · unfold prod at h
      split at h
      · rename_i hr
        have q1 := h1 _ _ _ _ hr
        have q2 := h2 _ _ _ _ _ h
        omega
      · cases h
    · unfold sumL at h
      split at h
      · injection h with _ h; subst h; exact Nat.le_refl _
      · split at h
        · rename_i hr
          have q1 := h3 _ _ _ _ hr
          have q2 := h4 _ _ _ _ _ h
          simp at q1; omega
        · cases h
    · unfold sum at h
      split at h
      · rename_i hr
        have q1 := h3 _ _ _ _ hr
        have q2 := h4 _ _ _ _ _ h
        omega
      · cases h
end Px
end Go.Proofs.YtbikifibfaaggaaGreatDoor
