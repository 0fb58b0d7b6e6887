/- Many: rows of like pieces, parsed. -/
import Derived.Test.YtllnebbcnbnbmaaGreatDoorPManyM
namespace Go.Proofs.YtllnebbcnbnbmaaGreatDoor
namespace Px
open Lx (Tok Tx)
theorem st_one (f k p : Nat) (r : List Tok) (hk : k < 200) : ∃ s, stmt (f + 10) 1 k (stG p ++ r) = .ok (s, k + 1) r := by
  refine ⟨.mk 0 [120] [] (some (.num 1)) none none [] [] [] k, ?_⟩
  · unfold stmt
    rw [if_pos (by rfl), if_neg (by omega), if_neg (by simp [sees, txt, stG]), if_neg (by simp [sees, txt, stG])]
    simp [simple, value, sum, prod, un, prodL, sumL, mulOp, addOp, sees, txt, isName, isNum, words, nameR, R.bind, stG]
    rfl
theorem st_no (f p : Nat) (r : List Tok) : stmt (f + 10) 1 200 (stG p ++ r) = .err 53 (stG p ++ r) := by
  unfold stmt
  rw [if_pos (by rfl), if_pos (by omega)]
theorem st_row : ∀ (n f k p : Nat) (acc : List Sm) (q : Nat) (r : List Tok), k ≤ 200 → n + 10 ≤ f →
    (k + n ≤ 200 → ∃ ss, stmts f 1 k acc (rowT 4 stG n p ++ ⟨2, [125], q⟩ :: r) = .ok (ss, k + n) (⟨2, [125], q⟩ :: r) ∧ ss.length = acc.length + n) ∧
    (200 < k + n → ∃ t r', stmts f 1 k acc (rowT 4 stG n p ++ ⟨2, [125], q⟩ :: r) = .err 53 (t :: r') ∧ t.at_ = p + 4 * (200 - k))
  | 0, f, k, p, acc, q, r, hk, hf => by
    obtain ⟨g, rfl⟩ : ∃ g, f = g + 1 := ⟨f - 1, by omega⟩
    refine ⟨fun _ => ⟨acc, ?_, by simp⟩, fun h => by omega⟩
    unfold stmts
    simp [rowT, sees, txt]
  | n + 1, f, k, p, acc, q, r, hk, hf => by
    obtain ⟨g, rfl⟩ : ∃ g, f = g + 10 + 1 := ⟨f - 11, by omega⟩
    have hs : sees (stG p ++ (rowT 4 stG n (p + 4) ++ ⟨2, [125], q⟩ :: r)) [125] = false := by simp [sees, txt, stG]
    by_cases h200 : k < 200
    · obtain ⟨s, hst⟩ := st_one g k p (rowT 4 stG n (p + 4) ++ ⟨2, [125], q⟩ :: r) h200
      obtain ⟨i1, i2⟩ := st_row n (g + 10) (k + 1) (p + 4) (acc ++ [s]) q r (by omega) (by omega)
      have hu : stmts (g + 10 + 1) 1 k acc (rowT 4 stG (n + 1) p ++ ⟨2, [125], q⟩ :: r) = stmts (g + 10) 1 (k + 1) (acc ++ [s]) (rowT 4 stG n (p + 4) ++ ⟨2, [125], q⟩ :: r) := by
        conv => lhs; unfold stmts
        rw [rowT, List.append_assoc, hs, hst]
        rfl
      rw [hu]
      refine ⟨fun h => ?_, fun h => ?_⟩
      · obtain ⟨ss, h1, h2⟩ := i1 (by omega)
        exact ⟨ss, by rw [h1, show k + 1 + n = k + (n + 1) by omega], by rw [h2, List.length_append]; simp; omega⟩
      · obtain ⟨t, r', h1, h2⟩ := i2 (by omega)
        exact ⟨t, r', h1, by rw [h2]; omega⟩
    · obtain rfl : k = 200 := by omega
      refine ⟨fun h => by omega, fun _ => ⟨⟨0, [120], p⟩, ⟨2, [61], p + 1⟩ :: ⟨1, [49], p + 2⟩ :: ⟨2, [59], p + 3⟩ :: (rowT 4 stG n (p + 4) ++ ⟨2, [125], q⟩ :: r), ?_, by simp⟩⟩
      unfold stmts
      rw [rowT, List.append_assoc, hs, st_no]
      rfl
theorem var_row : ∀ (n f p : Nat) (acc : List Vr) (r : List Tok), acc.length ≤ 20 → n < f → (sees r [118, 97, 114] || sees r [112, 116, 114]) = false →
    (acc.length + n ≤ 20 → ∃ ls, localsL f acc (rowT 6 varG n p ++ r) = .ok ls r ∧ ls.length = acc.length + n) ∧
    (20 < acc.length + n → ∃ t r', localsL f acc (rowT 6 varG n p ++ r) = .err 53 (t :: r') ∧ t.at_ = p + 6 * (20 - acc.length) + 4)
  | 0, f, p, acc, r, hk, hf, hr => by
    obtain ⟨g, rfl⟩ : ∃ g, f = g + 1 := ⟨f - 1, by omega⟩
    refine ⟨fun _ => ⟨acc, ?_, by simp⟩, fun h => by omega⟩
    unfold localsL
    rw [rowT, List.nil_append, hr]
    rfl
  | n + 1, f, p, acc, r, hk, hf, hr => by
    obtain ⟨g, rfl⟩ : ∃ g, f = g + 1 := ⟨f - 1, by omega⟩
    by_cases h20 : acc.length < 20
    · obtain ⟨i1, i2⟩ := var_row n g (p + 6) (acc ++ [([118], false)]) r (by simp; omega) (by omega) hr
      have hu : localsL (g + 1) acc (rowT 6 varG (n + 1) p ++ r) = localsL g (acc ++ [([118], false)]) (rowT 6 varG n (p + 6) ++ r) := by
        conv => lhs; unfold localsL
        simp [rowT, varG, sees, txt, declR, isName, words, h20, R.bind]
        rfl
      rw [hu]
      rw [List.length_append] at i1 i2
      simp only [List.length_cons, List.length_nil] at i1 i2
      refine ⟨fun h => ?_, fun h => ?_⟩
      · obtain ⟨ss, h1, h2⟩ := i1 (by omega)
        exact ⟨ss, h1, by omega⟩
      · obtain ⟨t, r', h1, h2⟩ := i2 (by omega)
        exact ⟨t, r', h1, by rw [h2]; omega⟩
    · have h20' : acc.length = 20 := by omega
      refine ⟨fun h => by omega, fun _ => ⟨⟨0, [118], p + 4⟩, ⟨2, [59], p + 5⟩ :: (rowT 6 varG n (p + 6) ++ r), ?_, by simp [h20']⟩⟩
      unfold localsL
      simp [rowT, varG, sees, txt, declR, isName, words, h20', R.bind]
theorem cell_row : ∀ (n f p : Nat) (g : Gl), g.cells.length ≤ 20 → g.arrays = [] → n < f →
    (g.cells.length + n ≤ 20 → ∃ h, globL f g (rowT 7 cellG n p) = .ok h [] ∧ h.cells.length = g.cells.length + n) ∧
    (20 < g.cells.length + n → ∃ t r', globL f g (rowT 7 cellG n p) = .err 53 (t :: r') ∧ t.at_ = p + 7 * (20 - g.cells.length) + 5)
  | 0, f, p, g, hk, ha, hf => by
    obtain ⟨f, rfl⟩ : ∃ g, f = g + 1 := ⟨f - 1, by omega⟩
    exact ⟨fun _ => ⟨g, rfl, by simp⟩, fun h => by omega⟩
  | n + 1, f, p, g, hk, ha, hf => by
    obtain ⟨f, rfl⟩ : ∃ g, f = g + 1 := ⟨f - 1, by omega⟩
    by_cases h20 : g.cells.length < 20
    · obtain ⟨i1, i2⟩ := cell_row n f (p + 7) ⟨g.cells ++ [[99]], g.arrays⟩ (by simp; omega) ha (by omega)
      have hu : globL (f + 1) g (rowT 7 cellG (n + 1) p) = globL f ⟨g.cells ++ [[99]], g.arrays⟩ (rowT 7 cellG n (p + 7)) := by
        conv => lhs; unfold globL
        simp [rowT, cellG, sees, txt, declR, isName, words, h20, ha, R.bind]
        rfl
      rw [hu]
      simp only [List.length_append, List.length_cons, List.length_nil] at i1 i2
      refine ⟨fun h => ?_, fun h => ?_⟩
      · obtain ⟨ss, h1, h2⟩ := i1 (by omega)
        exact ⟨ss, h1, by omega⟩
      · obtain ⟨t, r', h1, h2⟩ := i2 (by omega)
        exact ⟨t, r', h1, by rw [h2]; omega⟩
    · have h20' : g.cells.length = 20 := by omega
      refine ⟨fun h => by omega, fun _ => ⟨⟨0, [99], p + 5⟩, ⟨2, [59], p + 6⟩ :: rowT 7 cellG n (p + 7), ?_, by simp [h20']⟩⟩
      unfold globL
      simp [rowT, cellG, sees, txt, declR, isName, words, h20', ha, R.bind]
end Px
end Go.Proofs.YtllnebbcnbnbmaaGreatDoor
