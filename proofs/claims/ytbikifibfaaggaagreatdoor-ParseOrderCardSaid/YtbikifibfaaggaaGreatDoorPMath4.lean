/- Functions as mathematics. -/
import Derived.Test.YtbikifibfaaggaaGreatDoorPMath3
namespace Go.Proofs.YtbikifibfaaggaaGreatDoor
namespace Px
open Lx (Tok Tx)

abbrev Vr := Tx × Bool
def declR (n m : Nat) (ts : List Tok) : R Tx := if isName ts then if n < m then .ok (txt ts 0) ts.tail else .err 53 ts else .err 51 ts
def param (n : Nat) (ts : List Tok) : R Vr := if sees ts [42] then (declR n 6 ts.tail).bind fun s r => .ok (s, true) r else (declR n 6 ts).bind fun s r => .ok (s, false) r
def paramsL : Nat → List Vr → List Tok → R (List Vr)
  | 0, _, ts => .err 99 ts
  | g + 1, l, ts =>
    if sees ts [41] then .ok l ts.tail
    else if l.length = 0 then (param l.length ts).bind fun e r => paramsL g (l ++ [e]) r
    else want [44] ts fun r => (param l.length r).bind fun e r => paramsL g (l ++ [e]) r
def params (f : Nat) (ts : List Tok) : R (List Vr) := want [40] ts fun r => paramsL f [] r
def localsL : Nat → List Vr → List Tok → R (List Vr)
  | 0, _, ts => .err 99 ts
  | g + 1, l, ts =>
    if sees ts [118, 97, 114] || sees ts [112, 116, 114] then (declR l.length 20 ts.tail).bind fun s r => want [59] r fun r => localsL g (l ++ [(s, sees ts [112, 116, 114])]) r
    else .ok l ts
structure Fn where
  name : Tx
  params : List Vr
  locals : List Vr
  body : List Sm
/-- What stands between the braces of a function. -/
def inner (f o : Nat) (ts : List Tok) : R ((List Vr × List Sm) × Nat) := (localsL f [] ts).bind fun ls r => (stmts f o 0 [] r).bind fun p r => .ok ((ls, p.1), p.2) r
def funcR (f : Nat) (ts : List Tok) : R (Fn × Nat) :=
  want [102, 110] ts fun r => (nameR r).bind fun nm r => (params f r).bind fun ps r =>
    (if sees r [123] then inner f 1 r.tail else .err 51 r).bind fun p r => want [125] r fun r => .ok (⟨nm, ps, p.1.1, p.1.2⟩, p.2) r
def fuelOf (ts : List Tok) : Nat := 4 * ts.length + 12
/-- What is read, an error's place and the error. -/
structure Got (α : Type) where
  val : Option α
  pos : Nat
  err : Nat
def top {α : Type} (n : Nat) (r : R α) : Got α := match r with | .ok a [] => ⟨some a, 0, 0⟩ | .ok _ ts => ⟨none, place n ts, 51⟩ | .err e ts => ⟨none, place n ts, e⟩
def funcT (s : Tx) : Got (Fn × Nat) := if (Lx.toks s).err = 0 then top s.length (funcR (fuelOf (Lx.toks s).toks) (Lx.toks s).toks) else ⟨none, (Lx.toks s).pos, (Lx.toks s).err⟩
/-- Globals: the cells, the arrays with their lengths. -/
structure Gl where
  cells : List Tx
  arrays : List (Tx × Nat)
def lenR (ts : List Tok) : R Nat :=
  want [91] ts fun r => (if isNum r then (if Lx.val (txt r 0) = 0 then .err 51 r else if 1048576 < Lx.val (txt r 0) then .err 53 r else .ok (Lx.val (txt r 0)) r.tail) else .err 51 r : R Nat).bind fun n r => want [93] r fun r => .ok n r
def globL : Nat → Gl → List Tok → R Gl
  | 0, _, ts => .err 99 ts
  | f + 1, g, ts =>
    match ts with
    | [] => .ok g []
    | _ =>
      if sees ts [99, 101, 108, 108] then (declR (g.cells.length + g.arrays.length) 20 ts.tail).bind fun s r => want [59] r fun r => globL f ⟨g.cells ++ [s], g.arrays⟩ r
      else want [97, 114, 114, 97, 121] ts fun r => (declR (g.cells.length + g.arrays.length) 20 r).bind fun s r => (lenR r).bind fun n r => want [59] r fun r => globL f ⟨g.cells, g.arrays ++ [(s, n)]⟩ r
def globT (s : Tx) : Got Gl := if (Lx.toks s).err = 0 then top s.length (globL ((Lx.toks s).toks.length + 1) ⟨[], []⟩ (Lx.toks s).toks) else ⟨none, (Lx.toks s).pos, (Lx.toks s).err⟩

theorem declR_len {n m : Nat} {ts : List Tok} {a : Tx} {r : List Tok} (h : declR n m ts = .ok a r) : r.length < ts.length := by
  unfold declR at h
  split at h
  · rename_i h1
    split at h
    · injection h with _ h; subst h
      match ts, h1 with
      | t :: r, _ => simp
    · cases h
  · cases h
theorem param_len {n : Nat} {ts : List Tok} {a : Vr} {r : List Tok} (h : param n ts = .ok a r) : r.length < ts.length := by
  unfold param at h
  split at h
  · obtain ⟨_, _, h1, h⟩ := bind_inv h
    have := declR_len h1
    injection h with _ h; subst h
    simp at this; omega
  · obtain ⟨_, _, h1, h⟩ := bind_inv h
    have := declR_len h1
    injection h with _ h; subst h
    exact this
theorem paramsL_len : ∀ (g : Nat) {l : List Vr} {ts : List Tok} {a : List Vr} {r : List Tok}, paramsL g l ts = .ok a r → r.length < ts.length
  | 0, l, ts, a, r, h => by simp [paramsL] at h
  | g + 1, l, ts, a, r, h => by
    unfold paramsL at h
    split at h
    · rename_i h1
      have := sees_len (by simp) h1
      injection h with _ h; subst h
      simp; omega
    · split at h
      · obtain ⟨_, _, h2, h⟩ := bind_inv h
        have := param_len h2
        have := paramsL_len g h
        omega
      · obtain ⟨_, _, h1, h⟩ := bind_inv h
        obtain ⟨_, _, h2, h⟩ := bind_inv h
        have := passR_len (by simp) h1
        have := param_len h2
        have := paramsL_len g h
        omega
theorem params_len {f : Nat} {ts : List Tok} {a : List Vr} {r : List Tok} (h : params f ts = .ok a r) : r.length < ts.length := by
  obtain ⟨_, _, h1, h⟩ := bind_inv h
  have := passR_len (by simp) h1
  have := paramsL_len f h
  omega
theorem localsL_len : ∀ (g : Nat) {l : List Vr} {ts : List Tok} {a : List Vr} {r : List Tok}, localsL g l ts = .ok a r → r.length ≤ ts.length
  | 0, l, ts, a, r, h => by simp [localsL] at h
  | g + 1, l, ts, a, r, h => by
    unfold localsL at h
    split at h
    · obtain ⟨_, _, h1, h⟩ := bind_inv h
      obtain ⟨_, _, h2, h⟩ := bind_inv h
      have := declR_len h1
      have := passR_len (by simp) h2
      have := localsL_len g h
      simp at *; omega
    · injection h with _ h; subst h; exact Nat.le_refl _
end Px
end Go.Proofs.YtbikifibfaaggaaGreatDoor
