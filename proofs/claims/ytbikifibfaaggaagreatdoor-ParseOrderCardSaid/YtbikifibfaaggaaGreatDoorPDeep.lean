/- ParseDeep. -/
import Derived.Test.YtbikifibfaaggaaGreatDoorPKnown
import Derived.Test.YtbikifibfaaggaaGreatDoorPDeepM
import Derived.IntWalk
namespace Go.Proofs.YtbikifibfaaggaaGreatDoor
open Go.RowKit Go.Shelf
open Lx (Tok Tx)
namespace Px
theorem deep_ok (h k : Nat) (hh : h < 4) (h1 : 36 ≤ k) (h2 : k < 44) : deepOk h k = true := by
  have ha : deepAll h = true := by
    match h, hh with
    | 0, _ => exact deep0
    | 1, _ => exact deep1
    | 2, _ => exact deep2
    | 3, _ => exact deep3
  simp only [deepAll, Bool.and_eq_true] at ha
  obtain ⟨a, b, c, d, e, f, g, i⟩ := ha
  have : k = 36 ∨ k = 37 ∨ k = 38 ∨ k = 39 ∨ k = 40 ∨ k = 41 ∨ k = 42 ∨ k = 43 := by omega
  rcases this with rfl | rfl | rfl | rfl | rfl | rfl | rfl | rfl <;> assumption
theorem deep_len (h k : Nat) (h2 : k < 44) : (deep h k).length ≤ 4096 := by
  unfold deep
  split <;> simp only [List.length_append, rep_len, dpre, List.length_cons, List.length_nil] <;> omega
theorem deep_no (h k : Nat) (hh : h < 4) (h1 : 40 ≤ k) (h2 : k < 44) : funcT (deep h k) = ⟨none, deepAt h, 52⟩ := by
  have hk := deep_ok h k hh (by omega) h2
  rw [funcT_run _ (deep_len h k h2)]
  unfold deepOk at hk
  obtain ⟨o, ho⟩ : ∃ o, o = runF (deep h k) := ⟨_, rfl⟩
  rw [← ho] at hk ⊢
  obtain ⟨v, p, e⟩ := o
  cases v with
  | none =>
    simp only [Bool.and_eq_true, Nat.beq_eq] at hk
    obtain ⟨_, rfl, rfl⟩ := hk
    rfl
  | some fn =>
    simp only [Bool.and_eq_true, Nat.blt_eq] at hk
    omega
theorem deep_yes (h k : Nat) (hh : h < 4) (h1 : 36 ≤ k) (h2 : k < 40) : ∃ f n p, funcT (deep h k) = ⟨some (f, n), p, 0⟩ ∧ f.body.length = 1 := by
  have hk := deep_ok h k hh (by omega) (by omega)
  rw [funcT_run _ (deep_len h k (by omega))]
  unfold deepOk at hk
  obtain ⟨o, ho⟩ : ∃ o, o = runF (deep h k) := ⟨_, rfl⟩
  rw [← ho] at hk ⊢
  obtain ⟨v, p, e⟩ := o
  cases v with
  | none =>
    simp only [Bool.and_eq_true, Nat.blt_eq] at hk
    omega
  | some fn =>
    simp only [Bool.and_eq_true, Nat.beq_eq] at hk
    obtain ⟨_, rfl, h3⟩ := hk
    exact ⟨fn.1, fn.2, p, rfl, h3⟩
end Px
theorem strO_cat (a b : List UInt8) : strO a ++ strO b = strO (a ++ b) := by
  apply ByteArray.ext
  simp [strO]
theorem nat_u8 {n : Int} (wf : (Lit.int .u8 n).wf = true) : ∃ m : Nat, n = (m : Int) ∧ m < 256 := by
  have hb : 0 ≤ n ∧ n ≤ 255 := by
    simpa [Lit.wf, IntKind.min, IntKind.max, IntKind.bits, IntKind.signed] using wf
  exact ⟨n.toNat, by omega, by omega⟩
end Go.Proofs.YtbikifibfaaggaaGreatDoor
