/- Many: rows of like pieces, lexed. -/
import Derived.Test.YtbikifibfaaggaaGreatDoorPRun
import Derived.Test.YtbikifibfaaggaaGreatDoorPDeepM
namespace Go.Proofs.YtbikifibfaaggaaGreatDoor
namespace Px
open Lx (Tok Tx)
theorem rep_front (x : Tx) (n : Nat) : rep x (n + 1) = x ++ rep x n := by
  induction n with
  | zero => simp [rep]
  | succ n ih =>
    have h : rep x (n + 1 + 1) = rep x (n + 1) ++ x := rfl
    rw [h, ih, List.append_assoc, show rep x n ++ x = rep x (n + 1) from rfl, ih]
theorem lexF_piece {f p : Nat} {acc : List Tok} {q t : Tx} {k : Option Nat} (hq : q ≠ []) (hp : Lx.pieceLen (q ++ t) = q.length) (hj : Lx.judge q = (k, 0)) : lexF (f + 1) (q ++ t) p acc = lexF f t (p + q.length) (Lx.addTok acc k q p) := by
  obtain ⟨c, u, hcu⟩ : ∃ c u, q ++ t = c :: u := by
    cases q with
    | nil => exact absurd rfl hq
    | cons c u => exact ⟨c, u ++ t, rfl⟩
  conv => lhs; unfold lexF
  rw [hcu]
  simp only
  rw [← hcu, hp, List.take_left, List.drop_left, hj]
theorem one_len {b : UInt8} (t : Tx) (h1 : (b == 35) = false) (h2 : Lx.inWord b = false) (h3 : ∀ c, Lx.isOp [b, c] = false) : Lx.pieceLen ([b] ++ t) = 1 := Lx.one_of h1 h2 (fun c _ => h3 c)
theorem no2 (b : UInt8) (h : b ≠ 61 ∧ b ≠ 33 ∧ b ≠ 60 ∧ b ≠ 62 ∧ b ≠ 38 ∧ b ≠ 124) (c : UInt8) : Lx.isOp [b, c] = false := by
  simp [Lx.isOp, Lx.ops2, h]
theorem lx_stmt (f p : Nat) (acc : List Tok) (t : Tx) : lexF (f + 4) (120 :: 61 :: 49 :: 59 :: t) p acc = lexF f t (p + 4) (acc ++ [⟨0, [120], p⟩, ⟨2, [61], p + 1⟩, ⟨1, [49], p + 2⟩, ⟨2, [59], p + 3⟩]) := by
  rw [show (120 :: 61 :: 49 :: 59 :: t : Tx) = [120] ++ (61 :: 49 :: 59 :: t) from rfl, lexF_piece (k := some 0) (by simp) rfl rfl,
    show (61 :: 49 :: 59 :: t : Tx) = [61] ++ (49 :: 59 :: t) from rfl, lexF_piece (k := some 2) (by simp) rfl rfl,
    show (49 :: 59 :: t : Tx) = [49] ++ (59 :: t) from rfl, lexF_piece (k := some 1) (by simp) rfl rfl,
    show (59 :: t : Tx) = [59] ++ t from rfl, lexF_piece (k := some 2) (by simp) (one_len t rfl rfl (no2 59 (by decide))) rfl]
  simp [Lx.addTok]
theorem lx_var (f p : Nat) (acc : List Tok) (t : Tx) : lexF (f + 4) (118 :: 97 :: 114 :: 32 :: 118 :: 59 :: t) p acc = lexF f t (p + 6) (acc ++ [⟨0, [118, 97, 114], p⟩, ⟨0, [118], p + 4⟩, ⟨2, [59], p + 5⟩]) := by
  rw [show (118 :: 97 :: 114 :: 32 :: 118 :: 59 :: t : Tx) = [118, 97, 114] ++ (32 :: 118 :: 59 :: t) from rfl, lexF_piece (k := some 0) (by simp) rfl rfl,
    show (32 :: 118 :: 59 :: t : Tx) = [32] ++ (118 :: 59 :: t) from rfl, lexF_piece (k := none) (by simp) rfl rfl,
    show (118 :: 59 :: t : Tx) = [118] ++ (59 :: t) from rfl, lexF_piece (k := some 0) (by simp) rfl rfl,
    show (59 :: t : Tx) = [59] ++ t from rfl, lexF_piece (k := some 2) (by simp) (one_len t rfl rfl (no2 59 (by decide))) rfl]
  simp [Lx.addTok]
theorem lx_cell (f p : Nat) (acc : List Tok) (t : Tx) : lexF (f + 4) (99 :: 101 :: 108 :: 108 :: 32 :: 99 :: 59 :: t) p acc = lexF f t (p + 7) (acc ++ [⟨0, [99, 101, 108, 108], p⟩, ⟨0, [99], p + 5⟩, ⟨2, [59], p + 6⟩]) := by
  rw [show (99 :: 101 :: 108 :: 108 :: 32 :: 99 :: 59 :: t : Tx) = [99, 101, 108, 108] ++ (32 :: 99 :: 59 :: t) from rfl, lexF_piece (k := some 0) (by simp) rfl rfl,
    show (32 :: 99 :: 59 :: t : Tx) = [32] ++ (99 :: 59 :: t) from rfl, lexF_piece (k := none) (by simp) rfl rfl,
    show (99 :: 59 :: t : Tx) = [99] ++ (59 :: t) from rfl, lexF_piece (k := some 0) (by simp) rfl rfl,
    show (59 :: t : Tx) = [59] ++ t from rfl, lexF_piece (k := some 2) (by simp) (one_len t rfl rfl (no2 59 (by decide))) rfl]
  simp [Lx.addTok]
/-- The tokens of so many pieces of m bytes, from a place on. -/
def rowT (m : Nat) (g : Nat → List Tok) : Nat → Nat → List Tok
  | 0, _ => []
  | n + 1, p => g p ++ rowT m g n (p + m)
theorem lx_row {x : Tx} {m : Nat} {g : Nat → List Tok} (hx : ∀ f p acc t, lexF (f + 4) (x ++ t) p acc = lexF f t (p + m) (acc ++ g p)) : ∀ (n f p : Nat) (acc : List Tok) (t : Tx), lexF (f + 4 * n) (rep x n ++ t) p acc = lexF f t (p + m * n) (acc ++ rowT m g n p)
  | 0, f, p, acc, t => by simp [rep, rowT]
  | n + 1, f, p, acc, t => by
    rw [rep_front, List.append_assoc, show f + 4 * (n + 1) = (f + 4 * n) + 4 by omega, hx, lx_row hx n f _ _ t, rowT, List.append_assoc, show p + m + m * n = p + m * (n + 1) by rw [Nat.mul_succ]; omega]
def stG (p : Nat) : List Tok := [⟨0, [120], p⟩, ⟨2, [61], p + 1⟩, ⟨1, [49], p + 2⟩, ⟨2, [59], p + 3⟩]
def varG (p : Nat) : List Tok := [⟨0, [118, 97, 114], p⟩, ⟨0, [118], p + 4⟩, ⟨2, [59], p + 5⟩]
def cellG (p : Nat) : List Tok := [⟨0, [99, 101, 108, 108], p⟩, ⟨0, [99], p + 5⟩, ⟨2, [59], p + 6⟩]
theorem lx_cells (n : Nat) (t : Tx) (f p : Nat) (acc : List Tok) : lexF (f + 4 * n) (rep [99, 101, 108, 108, 32, 99, 59] n ++ t) p acc = lexF f t (p + 7 * n) (acc ++ rowT 7 cellG n p) := lx_row (fun f p acc t => lx_cell f p acc t) n f p acc t
theorem lx_vars (n : Nat) (t : Tx) (f p : Nat) (acc : List Tok) : lexF (f + 4 * n) (rep [118, 97, 114, 32, 118, 59] n ++ t) p acc = lexF f t (p + 6 * n) (acc ++ rowT 6 varG n p) := lx_row (fun f p acc t => lx_var f p acc t) n f p acc t
theorem lx_stmts (n : Nat) (t : Tx) (f p : Nat) (acc : List Tok) : lexF (f + 4 * n) (rep [120, 61, 49, 59] n ++ t) p acc = lexF f t (p + 4 * n) (acc ++ rowT 4 stG n p) := lx_row (fun f p acc t => lx_stmt f p acc t) n f p acc t
end Px
end Go.Proofs.YtbikifibfaaggaaGreatDoor
