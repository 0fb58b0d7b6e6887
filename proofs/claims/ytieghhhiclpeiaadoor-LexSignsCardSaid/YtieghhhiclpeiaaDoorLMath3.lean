/- What lies between tokens, in a text of signs, letters, digits and spaces. -/
import Derived.Test.YtieghhhiclpeiaaDoorLMath2
namespace Go.Proofs.YtieghhhiclpeiaaDoor.Lx

/-- From f on the tokens stand one behind the other, spaces alone between. -/
def Chain (S : Tx) : Nat → List Tok → Prop
  | f, [] => f ≤ S.length
  | f, t :: r => f ≤ t.at_ ∧ (∀ x c, f ≤ x → x < t.at_ → S[x]? = some c → c = 32) ∧ t.at_ + t.text.length ≤ S.length ∧ Chain S (t.at_ + t.text.length) r
theorem chain_back {S : Tx} {f : Nat} {r : List Tok} (h : S[f]? = some 32) (hc : Chain S (f + 1) r) : Chain S f r := by
  cases r with
  | nil => exact Nat.le_of_lt (lt_of h)
  | cons t r =>
    obtain ⟨h1, h2, h3, h4⟩ := hc
    refine ⟨by omega, fun x c hx hx2 hs => ?_, h3, h4⟩
    by_cases he : x = f
    · rw [he, h] at hs; exact (Option.some.inj hs).symm
    · exact h2 x c (by omega) hx2 hs
/-- A byte of such a text. -/
def plainB (b : UInt8) : Prop := b ≠ 35 ∧ (blank b = true → b = 32)
theorem chain_scan (S : Tx) (hS : ∀ b ∈ S, plainB b) (f : Nat) (acc : List Tok) (hf : f ≤ S.length) : (scan S f acc).err = 0 → ∃ r, (scan S f acc).toks = acc ++ r ∧ Chain S f r := by
  fun_induction scan S f acc with
  | case1 f acc h hj ih =>
    intro he
    have hpl := pieceLen_le (S.drop f)
    rw [List.length_drop] at hpl
    obtain ⟨r, hr, hc⟩ := ih (by omega) he
    have hb : S[f]? = some S[f] := List.getElem?_eq_getElem h
    have hlen : (pc S f).length = pieceLen (S.drop f) := by unfold pc; rw [List.length_take, List.length_drop]; omega
    cases hk : (judge (pc S f)).1 with
    | some k =>
      rw [hk] at hr
      refine ⟨⟨k, pc S f, f⟩ :: r, by rw [hr]; simp [addTok], Nat.le_refl _, fun x c h1 h2 => absurd h1 (by show ¬ f ≤ x; have : x < f := h2; omega), ?_, ?_⟩
      · show f + (pc S f).length ≤ _; omega
      · show Chain S (f + (pc S f).length) r; rw [hlen]; exact hc
    | none =>
      rw [hk] at hr
      have hd := drop_cons hb
      -- the piece is a gap without a fault: a blank
      have hbl : blank S[f] = true := by
        have hpc : pc S f = S[f] :: (S.drop (f + 1)).take (pieceLen (S.drop f) - 1) := by
          have := pieceLen_pos (drop_ne h)
          unfold pc
          conv => lhs; rw [show pieceLen (S.drop f) = (pieceLen (S.drop f) - 1) + 1 by omega]
          rw [hd, List.take_succ_cons]
        have hne := (hS S[f] (List.getElem_mem h)).1
        rw [hpc] at hk hj
        unfold judge at hk hj
        simp only at hk hj
        by_cases hb2 : blank S[f] = true
        · exact hb2
        · exfalso
          rw [if_neg (by simp [hne, hb2])] at hk hj
          by_cases h3 : digit S[f] = true
          · rw [if_pos h3] at hk; cases hk
          · rw [if_neg h3] at hk hj
            by_cases h4 : letter S[f] = true
            · rw [if_pos h4] at hk; cases hk
            · rw [if_neg h4] at hk hj
              split at hk
              · cases hk
              · rename_i h5
                rw [if_neg h5] at hj
                cases hj
      have h32 := (hS S[f] (List.getElem_mem h)).2 hbl
      obtain ⟨e1, e2, e3⟩ := blank_word hbl
      have hm : pieceLen (S.drop f) = 1 := by rw [hd]; exact one_of e1 e2 (fun c _ => e3 c)
      rw [hm] at hc
      exact ⟨r, by rw [hr]; rfl, chain_back (by rw [hb, h32]) hc⟩
  | case2 f acc h hj => intro he; exact absurd he hj
  | case3 f acc h => exact fun _ => ⟨[], by simp, hf⟩
theorem chain_toks (S : Tx) (hS : ∀ b ∈ S, plainB b) (h : (toks S).err = 0) : Chain S 0 (toks S).toks := by
  unfold toks at h ⊢
  split at h
  · cases h
  · rename_i h1
    rw [if_neg h1]
    obtain ⟨r, hr, hc⟩ := chain_scan S hS 0 [] (Nat.zero_le _) h
    rw [hr]; exact hc
theorem scan_err_nil (S : Tx) (f : Nat) (acc : List Tok) : (scan S f acc).err ≠ 0 → (scan S f acc).toks = [] := by
  fun_induction scan S f acc with
  | case1 f acc h hj ih => exact ih
  | case2 f acc h hj => intro _; rfl
  | case3 f acc h => intro h; exact absurd rfl h
theorem toks_err_nil (S : Tx) (h : (toks S).err ≠ 0) : (toks S).toks = [] := by
  unfold toks at h ⊢
  split at h
  · rename_i h1; rw [if_pos h1]
  · rename_i h1
    rw [if_neg h1]
    exact scan_err_nil S 0 [] h
/-! ### The statement's signs -/
def alpha : Tx := [61, 33, 60, 62, 38, 124, 43, 45, 42, 47, 37, 40, 41, 123, 125, 91, 93, 44, 59, 97, 49, 32]
def sg (l : Tx) : Tx := l.map fun c => alpha.getD (c.toNat % 22) 0
theorem sg_len (l : Tx) : (sg l).length = l.length := by simp [sg]
theorem sg_snoc (l : Tx) (c : UInt8) : sg (l ++ [c]) = sg l ++ [alpha.getD (c.toNat % 22) 0] := by simp [sg]
theorem alpha_plain : ∀ b ∈ alpha, plainB b := by
  unfold plainB
  decide
theorem sg_plain (l : Tx) : ∀ b ∈ sg l, plainB b := by
  intro b hb
  obtain ⟨c, _, rfl⟩ := List.mem_map.1 hb
  refine alpha_plain _ ?_
  have h : c.toNat % 22 < alpha.length := by show _ < 22; omega
  rw [List.getD_eq_getElem?_getD, List.getElem?_eq_getElem h]
  exact List.getElem_mem h
theorem alpha_cut {m : Nat} (h : m < 22) : (alpha.drop m).take 1 = [alpha.getD m 0] := by
  have h' : m < alpha.length := h
  rw [List.drop_eq_getElem_cons h', List.getD_eq_getElem?_getD, List.getElem?_eq_getElem h']
  rfl
end Go.Proofs.YtieghhhiclpeiaaDoor.Lx
