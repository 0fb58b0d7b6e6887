/- How deep: the thirty-two texts, run. -/
import Derived.Test.YtbikifibfaaggaaGreatDoorPRun
namespace Go.Proofs.YtbikifibfaaggaaGreatDoor
namespace Px
open Lx (Tok Tx)
/-- A text so many times. -/
def rep (x : Tx) : Nat → Tx
  | 0 => []
  | n + 1 => rep x n ++ x
theorem rep_len (x : Tx) (n : Nat) : (rep x n).length = n * x.length := by
  induction n with
  | zero => simp [rep]
  | succ n ih => rw [rep, List.length_append, ih, Nat.succ_mul]
def dpre : Tx := [102, 110, 32, 102, 40, 41, 32, 123, 32, 120, 32, 61, 32]
def deep (h k : Nat) : Tx :=
  match h with
  | 0 => (((dpre ++ rep [40] k) ++ [49]) ++ rep [41] k) ++ [59, 32, 125]
  | 1 => (dpre ++ rep [45] k) ++ [49, 59, 32, 125]
  | 2 => ([102, 110, 32, 102, 40, 41, 32, 123, 32, 97, 115, 115, 101, 114, 116, 32, 40] ++ rep [33] k) ++ [120, 32, 61, 61, 32, 49, 41, 59, 32, 125]
  | _ => (([102, 110, 32, 102, 40, 41, 32, 123, 32] ++ rep [105, 102, 32, 40, 120, 32, 61, 61, 32, 49, 41, 32, 123, 32] k) ++ rep [125, 32] k) ++ [125]
def deepAt (h : Nat) : Nat := match h with | 0 => 52 | 1 => 52 | 2 => 56 | _ => 567
def deepOk (h k : Nat) : Bool :=
  match runF (deep h k) with
  | ⟨none, p, e⟩ => Nat.blt 39 k && (Nat.beq p (deepAt h) && Nat.beq e 52)
  | ⟨some (f, _), _, e⟩ => Nat.blt k 40 && (Nat.beq e 0 && Nat.beq f.body.length 1)
def deepAll (h : Nat) : Bool := deepOk h 36 && (deepOk h 37 && (deepOk h 38 && (deepOk h 39 && (deepOk h 40 && (deepOk h 41 && (deepOk h 42 && deepOk h 43))))))
set_option maxRecDepth 100000 in
theorem deep0 : deepAll 0 = true := by kernel_rfl
set_option maxRecDepth 100000 in
theorem deep1 : deepAll 1 = true := by kernel_rfl
set_option maxRecDepth 100000 in
theorem deep2 : deepAll 2 = true := by kernel_rfl
set_option maxRecDepth 100000 in
theorem deep3 : deepAll 3 = true := by kernel_rfl
end Px
end Go.Proofs.YtbikifibfaaggaaGreatDoor
