/- Many: all together; globals. -/
import Derived.Test.YtllnebbcnbnbmaaGreatDoorPManyT
namespace Go.Proofs.YtllnebbcnbnbmaaGreatDoor
namespace Px
open Lx (Tok Tx)
/-- The parameters' text. -/
def ps : Nat → Tx
  | 0 => []
  | 1 => [112]
  | n + 2 => (ps (n + 1) ++ [44]) ++ [112]
def hdTx (p : Nat) : Tx := ([102, 110, 32, 102, 40] ++ ps p) ++ [41, 123]
def manyS (p l n : Nat) : Tx := ((hdTx p ++ rep [118, 97, 114, 32, 118, 59] l) ++ rep [120, 61, 49, 59] n) ++ [125]
/-- Where the first error stands; 0: none. -/
def firstErr (p l n : Nat) : Nat := if 6 < p then 17 else if 20 < l then (hdTx p).length + 124 else if 200 < n then (hdTx p).length + 6 * l + 800 else 0
theorem many_of {p l n : Nat} {vs : List Vr} (hv : vs.length = p) (h6 : p ≤ 6) (h : (l ≤ 20 ∧ n ≤ 200 → ∃ f m, funcT (hdTx p ++ (rep [118, 97, 114, 32, 118, 59] l ++ (rep [120, 61, 49, 59] n ++ [125]))) = ⟨some (f, m), 0, 0⟩ ∧ f.params.length = vs.length ∧ f.locals.length = l ∧ f.body.length = n) ∧
    (20 < l → funcT (hdTx p ++ (rep [118, 97, 114, 32, 118, 59] l ++ (rep [120, 61, 49, 59] n ++ [125]))) = ⟨none, (hdTx p).length + 6 * 20 + 4, 53⟩) ∧
    (l ≤ 20 ∧ 200 < n → funcT (hdTx p ++ (rep [118, 97, 114, 32, 118, 59] l ++ (rep [120, 61, 49, 59] n ++ [125]))) = ⟨none, (hdTx p).length + 6 * l + 4 * 200, 53⟩)) :
    (0 < firstErr p l n → funcT (manyS p l n) = ⟨none, firstErr p l n, 53⟩) ∧ (firstErr p l n = 0 → ∃ f m, funcT (manyS p l n) = ⟨some (f, m), 0, 0⟩ ∧ f.params.length = p ∧ f.locals.length = l ∧ f.body.length = n) := by
  obtain ⟨h1, h2, h3⟩ := h
  have e : manyS p l n = hdTx p ++ (rep [118, 97, 114, 32, 118, 59] l ++ (rep [120, 61, 49, 59] n ++ [125])) := by simp [manyS, List.append_assoc]
  rw [e]
  unfold firstErr
  rw [if_neg (by omega)]
  by_cases c1 : 20 < l
  · rw [if_pos c1]
    exact ⟨fun _ => h2 c1, fun h => by omega⟩
  · rw [if_neg c1]
    by_cases c2 : 200 < n
    · rw [if_pos c2]
      exact ⟨fun _ => h3 ⟨by omega, c2⟩, fun h => by omega⟩
    · rw [if_neg c2]
      refine ⟨fun h => by omega, fun _ => ?_⟩
      obtain ⟨f, m, a, b, c, d⟩ := h1 ⟨by omega, by omega⟩
      exact ⟨f, m, a, by rw [b, hv], c, d⟩
theorem many_len (p l n : Nat) (hp : (hdTx p).length ≤ 30) (hl : l < 24) (hn : n < 205) : (hdTx p ++ (rep [118, 97, 114, 32, 118, 59] l ++ (rep [120, 61, 49, 59] n ++ [125]))).length ≤ 4096 := by
  simp only [List.length_append, rep_len, List.length_cons, List.length_nil] at hp ⊢
  omega
theorem many0 (l n : Nat) (hl : l < 24) (hn : n < 205) : (0 < firstErr 0 l n → funcT (manyS 0 l n) = ⟨none, firstErr 0 l n, 53⟩) ∧ (firstErr 0 l n = 0 → ∃ f m, funcT (manyS 0 l n) = ⟨some (f, m), 0, 0⟩ ∧ f.params.length = 0 ∧ f.locals.length = l ∧ f.body.length = n) := by
  have H : Hd (hdTx 0) (⟨0, [102, 110], 0⟩ :: ⟨0, [102], 3⟩ :: ([⟨2, [40], 4⟩, ⟨2, [41], 5⟩] ++ [⟨2, [123], 6⟩])) := ⟨6, by decide, fun f t => lx_h0 f t⟩
  exact many_of rfl (by omega) (many_yes H pr_h0 l n (many_len 0 l n (by decide) hl hn))
theorem many1 (l n : Nat) (hl : l < 24) (hn : n < 205) : (0 < firstErr 1 l n → funcT (manyS 1 l n) = ⟨none, firstErr 1 l n, 53⟩) ∧ (firstErr 1 l n = 0 → ∃ f m, funcT (manyS 1 l n) = ⟨some (f, m), 0, 0⟩ ∧ f.params.length = 1 ∧ f.locals.length = l ∧ f.body.length = n) := by
  have H : Hd (hdTx 1) (⟨0, [102, 110], 0⟩ :: ⟨0, [102], 3⟩ :: ([⟨2, [40], 4⟩, ⟨0, [112], 5⟩, ⟨2, [41], 6⟩] ++ [⟨2, [123], 7⟩])) := ⟨7, by decide, fun f t => lx_h1 f t⟩
  exact many_of rfl (by omega) (many_yes H pr_h1 l n (many_len 1 l n (by decide) hl hn))
theorem many2 (l n : Nat) (hl : l < 24) (hn : n < 205) : (0 < firstErr 2 l n → funcT (manyS 2 l n) = ⟨none, firstErr 2 l n, 53⟩) ∧ (firstErr 2 l n = 0 → ∃ f m, funcT (manyS 2 l n) = ⟨some (f, m), 0, 0⟩ ∧ f.params.length = 2 ∧ f.locals.length = l ∧ f.body.length = n) := by
  have H : Hd (hdTx 2) (⟨0, [102, 110], 0⟩ :: ⟨0, [102], 3⟩ :: ([⟨2, [40], 4⟩, ⟨0, [112], 5⟩, ⟨2, [44], 6⟩, ⟨0, [112], 7⟩, ⟨2, [41], 8⟩] ++ [⟨2, [123], 9⟩])) := ⟨9, by decide, fun f t => lx_h2 f t⟩
  exact many_of rfl (by omega) (many_yes H pr_h2 l n (many_len 2 l n (by decide) hl hn))
theorem many3 (l n : Nat) (hl : l < 24) (hn : n < 205) : (0 < firstErr 3 l n → funcT (manyS 3 l n) = ⟨none, firstErr 3 l n, 53⟩) ∧ (firstErr 3 l n = 0 → ∃ f m, funcT (manyS 3 l n) = ⟨some (f, m), 0, 0⟩ ∧ f.params.length = 3 ∧ f.locals.length = l ∧ f.body.length = n) := by
  have H : Hd (hdTx 3) (⟨0, [102, 110], 0⟩ :: ⟨0, [102], 3⟩ :: ([⟨2, [40], 4⟩, ⟨0, [112], 5⟩, ⟨2, [44], 6⟩, ⟨0, [112], 7⟩, ⟨2, [44], 8⟩, ⟨0, [112], 9⟩, ⟨2, [41], 10⟩] ++ [⟨2, [123], 11⟩])) := ⟨11, by decide, fun f t => lx_h3 f t⟩
  exact many_of rfl (by omega) (many_yes H pr_h3 l n (many_len 3 l n (by decide) hl hn))
theorem many4 (l n : Nat) (hl : l < 24) (hn : n < 205) : (0 < firstErr 4 l n → funcT (manyS 4 l n) = ⟨none, firstErr 4 l n, 53⟩) ∧ (firstErr 4 l n = 0 → ∃ f m, funcT (manyS 4 l n) = ⟨some (f, m), 0, 0⟩ ∧ f.params.length = 4 ∧ f.locals.length = l ∧ f.body.length = n) := by
  have H : Hd (hdTx 4) (⟨0, [102, 110], 0⟩ :: ⟨0, [102], 3⟩ :: ([⟨2, [40], 4⟩, ⟨0, [112], 5⟩, ⟨2, [44], 6⟩, ⟨0, [112], 7⟩, ⟨2, [44], 8⟩, ⟨0, [112], 9⟩, ⟨2, [44], 10⟩, ⟨0, [112], 11⟩, ⟨2, [41], 12⟩] ++ [⟨2, [123], 13⟩])) := ⟨13, by decide, fun f t => lx_h4 f t⟩
  exact many_of rfl (by omega) (many_yes H pr_h4 l n (many_len 4 l n (by decide) hl hn))
theorem many5 (l n : Nat) (hl : l < 24) (hn : n < 205) : (0 < firstErr 5 l n → funcT (manyS 5 l n) = ⟨none, firstErr 5 l n, 53⟩) ∧ (firstErr 5 l n = 0 → ∃ f m, funcT (manyS 5 l n) = ⟨some (f, m), 0, 0⟩ ∧ f.params.length = 5 ∧ f.locals.length = l ∧ f.body.length = n) := by
  have H : Hd (hdTx 5) (⟨0, [102, 110], 0⟩ :: ⟨0, [102], 3⟩ :: ([⟨2, [40], 4⟩, ⟨0, [112], 5⟩, ⟨2, [44], 6⟩, ⟨0, [112], 7⟩, ⟨2, [44], 8⟩, ⟨0, [112], 9⟩, ⟨2, [44], 10⟩, ⟨0, [112], 11⟩, ⟨2, [44], 12⟩, ⟨0, [112], 13⟩, ⟨2, [41], 14⟩] ++ [⟨2, [123], 15⟩])) := ⟨15, by decide, fun f t => lx_h5 f t⟩
  exact many_of rfl (by omega) (many_yes H pr_h5 l n (many_len 5 l n (by decide) hl hn))
theorem many6 (l n : Nat) (hl : l < 24) (hn : n < 205) : (0 < firstErr 6 l n → funcT (manyS 6 l n) = ⟨none, firstErr 6 l n, 53⟩) ∧ (firstErr 6 l n = 0 → ∃ f m, funcT (manyS 6 l n) = ⟨some (f, m), 0, 0⟩ ∧ f.params.length = 6 ∧ f.locals.length = l ∧ f.body.length = n) := by
  have H : Hd (hdTx 6) (⟨0, [102, 110], 0⟩ :: ⟨0, [102], 3⟩ :: ([⟨2, [40], 4⟩, ⟨0, [112], 5⟩, ⟨2, [44], 6⟩, ⟨0, [112], 7⟩, ⟨2, [44], 8⟩, ⟨0, [112], 9⟩, ⟨2, [44], 10⟩, ⟨0, [112], 11⟩, ⟨2, [44], 12⟩, ⟨0, [112], 13⟩, ⟨2, [44], 14⟩, ⟨0, [112], 15⟩, ⟨2, [41], 16⟩] ++ [⟨2, [123], 17⟩])) := ⟨17, by decide, fun f t => lx_h6 f t⟩
  exact many_of rfl (by omega) (many_yes H pr_h6 l n (many_len 6 l n (by decide) hl hn))
theorem many7 (l n : Nat) (hl : l < 24) (hn : n < 205) : (0 < firstErr 7 l n → funcT (manyS 7 l n) = ⟨none, firstErr 7 l n, 53⟩) ∧ (firstErr 7 l n = 0 → ∃ f m, funcT (manyS 7 l n) = ⟨some (f, m), 0, 0⟩ ∧ f.params.length = 7 ∧ f.locals.length = l ∧ f.body.length = n) := by
  have H : Hd (hdTx 7) (⟨0, [102, 110], 0⟩ :: ⟨0, [102], 3⟩ :: ([⟨2, [40], 4⟩, ⟨0, [112], 5⟩, ⟨2, [44], 6⟩, ⟨0, [112], 7⟩, ⟨2, [44], 8⟩, ⟨0, [112], 9⟩, ⟨2, [44], 10⟩, ⟨0, [112], 11⟩, ⟨2, [44], 12⟩, ⟨0, [112], 13⟩, ⟨2, [44], 14⟩, ⟨0, [112], 15⟩, ⟨2, [44], 16⟩, ⟨0, [112], 17⟩, ⟨2, [41], 18⟩] ++ [⟨2, [123], 19⟩])) := ⟨19, by decide, fun f t => lx_h7 f t⟩
  have e : manyS 7 l n = hdTx 7 ++ (rep [118, 97, 114, 32, 118, 59] l ++ (rep [120, 61, 49, 59] n ++ [125])) := by simp [manyS, List.append_assoc]
  have hno := many_no (t7 := ⟨0, [112], 17⟩) (r7 := [⟨2, [41], 18⟩]) H pr_h7 l n (many_len 7 l n (by decide) hl hn)
  rw [e]
  exact ⟨fun _ => hno, fun h => by simp [firstErr] at h⟩
theorem many8 (l n : Nat) (hl : l < 24) (hn : n < 205) : (0 < firstErr 8 l n → funcT (manyS 8 l n) = ⟨none, firstErr 8 l n, 53⟩) ∧ (firstErr 8 l n = 0 → ∃ f m, funcT (manyS 8 l n) = ⟨some (f, m), 0, 0⟩ ∧ f.params.length = 8 ∧ f.locals.length = l ∧ f.body.length = n) := by
  have H : Hd (hdTx 8) (⟨0, [102, 110], 0⟩ :: ⟨0, [102], 3⟩ :: ([⟨2, [40], 4⟩, ⟨0, [112], 5⟩, ⟨2, [44], 6⟩, ⟨0, [112], 7⟩, ⟨2, [44], 8⟩, ⟨0, [112], 9⟩, ⟨2, [44], 10⟩, ⟨0, [112], 11⟩, ⟨2, [44], 12⟩, ⟨0, [112], 13⟩, ⟨2, [44], 14⟩, ⟨0, [112], 15⟩, ⟨2, [44], 16⟩, ⟨0, [112], 17⟩, ⟨2, [44], 18⟩, ⟨0, [112], 19⟩, ⟨2, [41], 20⟩] ++ [⟨2, [123], 21⟩])) := ⟨21, by decide, fun f t => lx_h8 f t⟩
  have e : manyS 8 l n = hdTx 8 ++ (rep [118, 97, 114, 32, 118, 59] l ++ (rep [120, 61, 49, 59] n ++ [125])) := by simp [manyS, List.append_assoc]
  have hno := many_no (t7 := ⟨0, [112], 17⟩) (r7 := [⟨2, [44], 18⟩, ⟨0, [112], 19⟩, ⟨2, [41], 20⟩]) H pr_h8 l n (many_len 8 l n (by decide) hl hn)
  rw [e]
  exact ⟨fun _ => hno, fun h => by simp [firstErr] at h⟩
theorem many_all (p l n : Nat) (hp : p < 9) (hl : l < 24) (hn : n < 205) : (0 < firstErr p l n → funcT (manyS p l n) = ⟨none, firstErr p l n, 53⟩) ∧ (firstErr p l n = 0 → ∃ f m, funcT (manyS p l n) = ⟨some (f, m), 0, 0⟩ ∧ f.params.length = p ∧ f.locals.length = l ∧ f.body.length = n) := by
  match p, hp with
  | 0, _ => exact many0 l n hl hn
  | 1, _ => exact many1 l n hl hn
  | 2, _ => exact many2 l n hl hn
  | 3, _ => exact many3 l n hl hn
  | 4, _ => exact many4 l n hl hn
  | 5, _ => exact many5 l n hl hn
  | 6, _ => exact many6 l n hl hn
  | 7, _ => exact many7 l n hl hn
  | 8, _ => exact many8 l n hl hn
/-! ### Globals -/
theorem glob_many (n : Nat) (hn : n < 24) : (n ≤ 20 → ∃ g, globT (rep [99, 101, 108, 108, 32, 99, 59] n) = ⟨some g, 0, 0⟩ ∧ g.cells.length = n) ∧ (20 < n → globT (rep [99, 101, 108, 108, 32, 99, 59] n) = ⟨none, 145, 53⟩) := by
  have hl : (rep [99, 101, 108, 108, 32, 99, 59] n).length = n * 7 := rep_len _ n
  have hx : lexF ((rep [99, 101, 108, 108, 32, 99, 59] n).length + 1) (rep [99, 101, 108, 108, 32, 99, 59] n) 0 [] = ⟨rowT 7 cellG n 0, 0, 0⟩ := by
    have h := lx_cells n [] (3 * n + 1) 0 []
    rw [List.append_nil, List.nil_append, show 3 * n + 1 + 4 * n = n * 7 + 1 by omega, ← hl] at h
    rw [h]; rfl
  rw [globT_run _ (by rw [hl]; omega), runG, hx]
  simp only [if_true]
  have e := rowT_len (m := 7) (c := 3) (g := cellG) (fun _ => rfl) n 0
  obtain ⟨c1, c2⟩ := cell_row n ((rowT 7 cellG n 0).length + 1) 0 ⟨[], []⟩ (by simp) rfl (by rw [e]; omega)
  simp only [List.length_nil, Nat.zero_add] at c1 c2
  refine ⟨fun h => ?_, fun h => ?_⟩
  · obtain ⟨g, a, b⟩ := c1 h
    rw [a]
    exact ⟨g, rfl, b⟩
  · obtain ⟨t, r', a, b⟩ := c2 h
    rw [a]
    show (⟨none, t.at_, 53⟩ : Got Gl) = _
    rw [b]
end Px
end Go.Proofs.YtllnebbcnbnbmaaGreatDoor
