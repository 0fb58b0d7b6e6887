/- Texts that are given: the lexer by fuel, so that the kernel runs it. -/
import Derived.Test.YtbikifibfaaggaaGreatDoorPMath4
import Derived.Test.YtbikifibfaaggaaGreatDoorLMath2
import Derived.Test.YtbikifibfaaggaaGreatDoorKBase
namespace Go.Proofs.YtbikifibfaaggaaGreatDoor
namespace Px
open Lx (Tok Tx)

/-- The lexer on what is left of a text. -/
def lexF : Nat → Tx → Nat → List Tok → Lx.Out
  | 0, _, p, acc => ⟨acc, p, 99⟩
  | f + 1, l, p, acc =>
    match l with
    | [] => ⟨acc, 0, 0⟩
    | c :: t =>
      match Lx.judge ((c :: t).take (Lx.pieceLen (c :: t))) with
      | (k, 0) => lexF f ((c :: t).drop (Lx.pieceLen (c :: t))) (p + Lx.pieceLen (c :: t)) (Lx.addTok acc k ((c :: t).take (Lx.pieceLen (c :: t))) p)
      | (_, e + 1) => ⟨[], p, e + 1⟩
theorem lexF_scan (s : Tx) : ∀ (f p : Nat) (acc : List Tok), s.length - p < f → lexF f (s.drop p) p acc = Lx.scan s p acc := by
  intro f
  induction f with
  | zero => intro p acc h; omega
  | succ f ih =>
    intro p acc h
    by_cases hp : p < s.length
    · obtain ⟨c, t, hct⟩ : ∃ c t, s.drop p = c :: t := by
        match hd : s.drop p with
        | [] => have := congrArg List.length hd; simp at this; omega
        | c :: t => exact ⟨c, t, rfl⟩
      have hpos := Lx.pieceLen_pos (Lx.drop_ne hp)
      unfold lexF
      rw [hct]
      simp only
      rw [← hct]
      obtain ⟨⟨k, e⟩, hj⟩ : ∃ j, j = Lx.judge ((s.drop p).take (Lx.pieceLen (s.drop p))) := ⟨_, rfl⟩
      rw [← hj]
      cases e with
      | zero =>
        simp only
        rw [List.drop_drop, ih _ _ (by omega), Lx.scan_step hp rfl rfl hj.symm]
      | succ e =>
        simp only
        rw [Lx.scan_err hp rfl rfl hj.symm (by omega)]
    · unfold lexF
      rw [List.drop_eq_nil_of_le (by omega), Lx.scan_end (by omega)]
theorem toks_run (s : Tx) (h : s.length ≤ 4096) : Lx.toks s = lexF (s.length + 1) s 0 [] := by
  unfold Lx.toks
  rw [if_neg (by omega)]
  have := lexF_scan s (s.length + 1) 0 [] (by omega)
  rw [List.drop_zero] at this
  exact this.symm
def runF (s : Tx) : Got (Fn × Nat) := match lexF (s.length + 1) s 0 [] with | ⟨ts, p, e⟩ => if e = 0 then top s.length (funcR (fuelOf ts) ts) else ⟨none, p, e⟩
def runG (s : Tx) : Got Gl := match lexF (s.length + 1) s 0 [] with | ⟨ts, p, e⟩ => if e = 0 then top s.length (globL (ts.length + 1) ⟨[], []⟩ ts) else ⟨none, p, e⟩
theorem funcT_run (s : Tx) (h : s.length ≤ 4096) : funcT s = runF s := by unfold funcT runF; rw [toks_run s h]
theorem globT_run (s : Tx) (h : s.length ≤ 4096) : globT s = runG s := by unfold globT runG; rw [toks_run s h]
/-- fn f(x) { return x + 1; } -/
theorem ex1 : funcT [102, 110, 32, 102, 40, 120, 41, 32, 123, 32, 114, 101, 116, 117, 114, 110, 32, 120, 32, 43, 32, 49, 59, 32, 125] = ⟨some (⟨[102], [([120], false)], [], [.mk 9 [] [] (some (.bin 2 (.var [120]) (.num 1))) none none [] [] [] 0]⟩, 1), 0, 0⟩ := by
  rw [funcT_run _ (by decide)]
  kernel_rfl
/-- fn f(x) { return ; } -/
theorem ex2 : funcT [102, 110, 32, 102, 40, 120, 41, 32, 123, 32, 114, 101, 116, 117, 114, 110, 32, 59, 32, 125] = ⟨none, 17, 51⟩ := by
  rw [funcT_run _ (by decide)]
  kernel_rfl
/-- cell c; array a[3]; -/
theorem ex3 : globT [99, 101, 108, 108, 32, 99, 59, 32, 97, 114, 114, 97, 121, 32, 97, 91, 51, 93, 59] = ⟨some ⟨[[99]], [([97], 3)]⟩, 0, 0⟩ := by
  rw [globT_run _ (by decide)]
  kernel_rfl
end Px
end Go.Proofs.YtbikifibfaaggaaGreatDoor
