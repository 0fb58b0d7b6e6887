/- Tokens as the lexer makes them. -/
import Derived.Test.YtbikifibfaaggaaGreatDoorPMath4
import Derived.Test.YtbikifibfaaggaaGreatDoorLMath2
namespace Go.Proofs.YtbikifibfaaggaaGreatDoor
theorem toks_len' (l : Lx.Tx) : (Lx.toks l).toks.length ≤ 4096 := by
  have key : ∀ (n f : Nat) (acc : List Lx.Tok), l.length - f ≤ n → (Lx.scan l f acc).toks.length ≤ acc.length + (l.length - f) := by
    intro n
    induction n with
    | zero =>
      intro f acc h
      rw [Lx.scan_end (by omega)]; simp
    | succ n ih =>
      intro f acc h
      by_cases hf : f < l.length
      · obtain ⟨⟨k, e⟩, hj⟩ : ∃ j, j = Lx.judge ((l.drop f).take (Lx.pieceLen (l.drop f))) := ⟨_, rfl⟩
        have hp := Lx.pieceLen_pos (Lx.drop_ne hf)
        by_cases he : e = 0
        · subst he
          rw [Lx.scan_step hf rfl rfl hj.symm]
          have := ih (f + Lx.pieceLen (l.drop f)) (Lx.addTok acc k ((l.drop f).take (Lx.pieceLen (l.drop f))) f) (by omega)
          have h2 : (Lx.addTok acc k ((l.drop f).take (Lx.pieceLen (l.drop f))) f).length ≤ acc.length + 1 := by cases k <;> simp [Lx.addTok]
          omega
        · rw [Lx.scan_err hf rfl rfl hj.symm he]; simp
      · rw [Lx.scan_end (by omega)]; simp
  unfold Lx.toks
  split
  · simp
  · have := key l.length 0 [] (by omega)
    simp at this
    omega
theorem judge_wf {p : Lx.Tx} {k : Nat} (h0 : p ≠ []) (hl : p.length ≤ 4096) (h : Lx.judge p = (some k, 0)) (f : Nat) (hf : f ≤ 4096) : Px.Wf ⟨k, p, f⟩ := by
  match p, h0 with
  | b :: t, h0 =>
    unfold Lx.judge at h
    simp only at h
    split at h
    · simp at h
    · split at h
      · rename_i hd
        simp only [Prod.mk.injEq, Option.some.injEq] at h
        obtain ⟨rfl, hn⟩ := h
        unfold Lx.num at hn
        split at hn
        · simp at hn
        · rename_i hv
          split at hn
          · simp at hn
          · rename_i hx
            have hle := (List.takeWhile_prefix (l := b :: t) Lx.digit).length_le
            have heq : (b :: t).takeWhile Lx.digit = b :: t := (List.takeWhile_prefix Lx.digit).eq_of_length (by
              have : ¬ ((b :: t).takeWhile Lx.digit).length < (b :: t).length := fun h => hx (.inl h)
              omega)
            refine ⟨by simp, by simp, hl, fun _ => ⟨?_, ?_⟩, fun h => absurd rfl h, hf⟩
            · intro c hc
              have hc' : c ∈ (b :: t).takeWhile Lx.digit := by rw [heq]; exact hc
              exact Lx.takeWhile_all _ c hc'
            · show Lx.val (b :: t) ≤ _
              rw [← heq]; omega
      · rename_i hd
        have hd' : Lx.digit b = false := by simpa using hd
        split at h
        · simp only [Prod.mk.injEq, Option.some.injEq] at h
          obtain ⟨rfl, hn⟩ := h
          exact ⟨by simp, by simp, hl, fun h => by simp at h, fun _ c hc => by simp at hc; rw [← hc]; exact hd', hf⟩
        · split at h
          · simp only [Prod.mk.injEq, Option.some.injEq] at h
            obtain ⟨rfl, hn⟩ := h
            exact ⟨by simp, by simp, hl, fun h => by simp at h, fun _ c hc => by simp at hc; rw [← hc]; exact hd', hf⟩
          · simp at h
theorem toks_good (l : Lx.Tx) : Px.Good (Lx.toks l).toks := by
  refine ⟨?_, by have := toks_len' l; omega⟩
  by_cases hl : 4096 < l.length
  · unfold Lx.toks; rw [if_pos hl]; intro t ht; simp at ht
  have key : ∀ (n f : Nat) (acc : List Lx.Tok), l.length - f ≤ n → (∀ t ∈ acc, Px.Wf t) → ∀ t ∈ (Lx.scan l f acc).toks, Px.Wf t := by
    intro n
    induction n with
    | zero =>
      intro f acc h hw
      rw [Lx.scan_end (by omega)]; exact hw
    | succ n ih =>
      intro f acc h hw
      by_cases hf : f < l.length
      · obtain ⟨⟨k, e⟩, hj⟩ : ∃ j, j = Lx.judge ((l.drop f).take (Lx.pieceLen (l.drop f))) := ⟨_, rfl⟩
        have hp := Lx.pieceLen_pos (Lx.drop_ne hf)
        by_cases he : e = 0
        · subst he
          rw [Lx.scan_step hf rfl rfl hj.symm]
          refine ih (f + Lx.pieceLen (l.drop f)) _ (by omega) ?_
          cases k with
          | none => exact hw
          | some k =>
            intro t ht
            simp only [Lx.addTok, List.mem_append, List.mem_singleton] at ht
            rcases ht with ht | rfl
            · exact hw t ht
            · have hple := Lx.pieceLen_le (l.drop f)
              have hdl : (l.drop f).length = l.length - f := List.length_drop ..
              exact judge_wf (fun h0 => by
                have := congrArg List.length h0
                simp at this; omega) (by simp; omega) hj.symm f (by omega)
        · rw [Lx.scan_err hf rfl rfl hj.symm he]; intro t ht; simp at ht
      · rw [Lx.scan_end (by omega)]; exact hw
  unfold Lx.toks
  rw [if_neg hl]
  exact key l.length 0 [] (by omega) (by simp)
end Go.Proofs.YtbikifibfaaggaaGreatDoor
