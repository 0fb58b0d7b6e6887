/- Many: what such a text means. -/
import Derived.Test.YtllnebbcnbnbmaaGreatDoorPManyH
namespace Go.Proofs.YtllnebbcnbnbmaaGreatDoor
namespace Px
open Lx (Tok Tx)
/-- A text's beginning, as it is lexed. -/
def Hd (h : Tx) (T : List Tok) : Prop := ∃ S, S ≤ h.length ∧ ∀ f t, lexF (f + S) (h ++ t) 0 [] = lexF f t h.length T
def bodyT (L l n : Nat) : List Tok := rowT 6 varG l L ++ (rowT 4 stG n (L + 6 * l) ++ [⟨2, [125], L + 6 * l + 4 * n⟩])
theorem many_toks {h : Tx} {T : List Tok} (H : Hd h T) (l n : Nat) : lexF ((h ++ (rep [118, 97, 114, 32, 118, 59] l ++ (rep [120, 61, 49, 59] n ++ [125]))).length + 1) (h ++ (rep [118, 97, 114, 32, 118, 59] l ++ (rep [120, 61, 49, 59] n ++ [125]))) 0 [] = ⟨T ++ bodyT h.length l n, 0, 0⟩ := by
  obtain ⟨S, hS, H⟩ := H
  simp only [List.length_append, rep_len, List.length_cons, List.length_nil]
  obtain ⟨f, hf⟩ : ∃ f, h.length + (l * 6 + (n * 4 + 1)) + 1 = (((f + 2) + 4 * n) + 4 * l) + S := ⟨h.length + (l * 6 + (n * 4 + 1)) + 1 - S - 4 * l - 4 * n - 2, by omega⟩
  simp only [Nat.zero_add] at hf ⊢
  rw [hf, H, lx_vars, lx_stmts, lx_end]
  simp [bodyT, List.append_assoc]
theorem rowT_len {m c : Nat} {g : Nat → List Tok} (hg : ∀ p, (g p).length = c) : ∀ (n p : Nat), (rowT m g n p).length = c * n
  | 0, p => rfl
  | n + 1, p => by rw [rowT, List.length_append, hg, rowT_len hg n, Nat.mul_succ]; omega
theorem many_body (L l n F : Nat) (hF : l + n + 20 ≤ F) :
    (l ≤ 20 ∧ n ≤ 200 → ∃ ls ss, inner F 1 (bodyT L l n) = .ok ((ls, ss), n) [⟨2, [125], L + 6 * l + 4 * n⟩] ∧ ls.length = l ∧ ss.length = n) ∧
    (20 < l → ∃ t r', inner F 1 (bodyT L l n) = .err 53 (t :: r') ∧ t.at_ = L + 6 * 20 + 4) ∧
    (l ≤ 20 ∧ 200 < n → ∃ t r', inner F 1 (bodyT L l n) = .err 53 (t :: r') ∧ t.at_ = L + 6 * l + 4 * 200) := by
  have hr : (sees (rowT 4 stG n (L + 6 * l) ++ [⟨2, [125], L + 6 * l + 4 * n⟩]) [118, 97, 114] || sees (rowT 4 stG n (L + 6 * l) ++ [⟨2, [125], L + 6 * l + 4 * n⟩]) [112, 116, 114]) = false := by
    cases n <;> simp [rowT, stG, sees, txt]
  obtain ⟨v1, v2⟩ := var_row l F L [] _ (by simp) (by omega) hr
  obtain ⟨s1, s2⟩ := st_row n F 0 (L + 6 * l) [] (L + 6 * l + 4 * n) [] (by omega) (by omega)
  simp only [List.length_nil, Nat.zero_add] at v1 v2 s1 s2
  refine ⟨fun h => ?_, fun h => ?_, fun h => ?_⟩
  · obtain ⟨ls, a1, a2⟩ := v1 h.1
    obtain ⟨ss, b1, b2⟩ := s1 h.2
    refine ⟨ls, ss, ?_, a2, b2⟩
    rw [inner, bodyT, a1]
    show (stmts F 1 0 [] _).bind _ = _
    rw [b1]; rfl
  · obtain ⟨t, r', a1, a2⟩ := v2 h
    refine ⟨t, r', ?_, a2⟩
    rw [inner, bodyT, a1]; rfl
  · obtain ⟨ls, a1, a2⟩ := v1 h.1
    obtain ⟨t, r', b1, b2⟩ := s2 h.2
    refine ⟨t, r', ?_, b2⟩
    rw [inner, bodyT, a1]
    show (stmts F 1 0 [] _).bind _ = _
    rw [b1]; rfl
/-- The whole text, where the parameters are read. -/
theorem many_yes {h : Tx} {P : List Tok} {vs : List Vr} {b : Nat} (H : Hd h (⟨0, [102, 110], 0⟩ :: ⟨0, [102], 3⟩ :: (P ++ [⟨2, [123], b⟩]))) (hP : ∀ g r, params (g + 20) (P ++ r) = .ok vs r) (l n : Nat) (hlen : (h ++ (rep [118, 97, 114, 32, 118, 59] l ++ (rep [120, 61, 49, 59] n ++ [125]))).length ≤ 4096) :
    (l ≤ 20 ∧ n ≤ 200 → ∃ f m, funcT (h ++ (rep [118, 97, 114, 32, 118, 59] l ++ (rep [120, 61, 49, 59] n ++ [125]))) = ⟨some (f, m), 0, 0⟩ ∧ f.params.length = vs.length ∧ f.locals.length = l ∧ f.body.length = n) ∧
    (20 < l → funcT (h ++ (rep [118, 97, 114, 32, 118, 59] l ++ (rep [120, 61, 49, 59] n ++ [125]))) = ⟨none, h.length + 6 * 20 + 4, 53⟩) ∧
    (l ≤ 20 ∧ 200 < n → funcT (h ++ (rep [118, 97, 114, 32, 118, 59] l ++ (rep [120, 61, 49, 59] n ++ [125]))) = ⟨none, h.length + 6 * l + 4 * 200, 53⟩) := by
  rw [funcT_run _ hlen, runF, many_toks H]
  simp only [if_true]
  obtain ⟨F, hF⟩ : ∃ F, fuelOf ((⟨0, [102, 110], 0⟩ : Tok) :: ⟨0, [102], 3⟩ :: (P ++ [⟨2, [123], b⟩]) ++ bodyT h.length l n) = F + 20 ∧ l + n + 20 ≤ F + 20 := by
    have e1 := rowT_len (m := 6) (c := 3) (g := varG) (fun _ => rfl) l h.length
    have e2 := rowT_len (m := 4) (c := 4) (g := stG) (fun _ => rfl) n (h.length + 6 * l)
    refine ⟨_ - 20, (Nat.sub_add_cancel ?_).symm, ?_⟩ <;> simp only [fuelOf, bodyT, List.length_append, List.length_cons, List.length_nil, e1, e2] <;> omega
  rw [hF.1]
  obtain ⟨c1, c2, c3⟩ := many_body h.length l n (F + 20) hF.2
  have hu : funcR (F + 20) ((⟨0, [102, 110], 0⟩ : Tok) :: ⟨0, [102], 3⟩ :: (P ++ [⟨2, [123], b⟩]) ++ bodyT h.length l n) = (inner (F + 20) 1 (bodyT h.length l n)).bind fun p r => want [125] r fun r => .ok (⟨[102], vs, p.1.1, p.1.2⟩, p.2) r := by
    show (params (F + 20) (P ++ [⟨2, [123], b⟩] ++ bodyT h.length l n)).bind _ = _
    rw [List.append_assoc, hP]
    rfl
  rw [hu]
  refine ⟨fun h => ?_, fun h => ?_, fun h => ?_⟩
  · obtain ⟨ls, ss, a1, a2, a3⟩ := c1 h
    rw [a1]
    exact ⟨⟨[102], vs, ls, ss⟩, n, rfl, rfl, a2, a3⟩
  · obtain ⟨t, r', a1, a2⟩ := c2 h
    rw [a1, ← a2]; rfl
  · obtain ⟨t, r', a1, a2⟩ := c3 h
    rw [a1, ← a2]; rfl
theorem many_no {h : Tx} {P r7 : List Tok} {t7 : Tok} {b : Nat} (H : Hd h (⟨0, [102, 110], 0⟩ :: ⟨0, [102], 3⟩ :: (P ++ [⟨2, [123], b⟩]))) (hP : ∀ g r, params (g + 20) (P ++ r) = .err 53 (t7 :: r7 ++ r)) (l n : Nat) (hlen : (h ++ (rep [118, 97, 114, 32, 118, 59] l ++ (rep [120, 61, 49, 59] n ++ [125]))).length ≤ 4096) :
    funcT (h ++ (rep [118, 97, 114, 32, 118, 59] l ++ (rep [120, 61, 49, 59] n ++ [125]))) = ⟨none, t7.at_, 53⟩ := by
  rw [funcT_run _ hlen, runF, many_toks H]
  simp only [if_true]
  obtain ⟨F, hF⟩ : ∃ F, fuelOf ((⟨0, [102, 110], 0⟩ : Tok) :: ⟨0, [102], 3⟩ :: (P ++ [⟨2, [123], b⟩]) ++ bodyT h.length l n) = F + 20 := by
    refine ⟨_ - 20, (Nat.sub_add_cancel ?_).symm⟩
    simp only [fuelOf, bodyT, List.length_append, List.length_cons, List.length_nil]; omega
  rw [hF]
  show top _ ((params (F + 20) (P ++ [⟨2, [123], b⟩] ++ bodyT h.length l n)).bind _) = _
  rw [List.append_assoc, hP]
  rfl
end Px
end Go.Proofs.YtllnebbcnbnbmaaGreatDoor
