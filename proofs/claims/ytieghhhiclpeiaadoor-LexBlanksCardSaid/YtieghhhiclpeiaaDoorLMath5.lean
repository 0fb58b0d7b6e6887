/- Words with blanks between. -/
import Derived.Test.YtieghhhiclpeiaaDoorLMath2
namespace Go.Proofs.YtieghhhiclpeiaaDoor.Lx

def wordsL : List Tx := [[97], [98, 49], [95], [48], [49, 55], [61], [61, 61], [33, 61], [33], [60], [60, 61], [38], [38, 38], [124, 124], [40], [93], [44], [59], [102, 110], [42], [37]]
def blanksL : List Tx := [[32], [10], [9, 13, 32], [32, 35, 32, 120, 32, 61, 32, 49, 10], [32, 32]]
def wd (a : Nat) : Tx := wordsL.getD a []
def bl (b : Nat) : Tx := blanksL.getD b []
def wk (a : Nat) : Nat := match (judge (wd a)).1 with | some k => k | none => 0
theorem scan_at {pre p x : Tx} {acc : List Tok} {k : Option Nat} (hp : pieceLen (p ++ x) = p.length) (h0 : p ≠ []) (hj : judge p = (k, 0)) : scan (pre ++ (p ++ x)) pre.length acc = scan ((pre ++ p) ++ x) (pre ++ p).length (addTok acc k p pre.length) := by
  have hlen := List.length_pos_iff.2 h0
  have hd : (pre ++ (p ++ x)).drop pre.length = p ++ x := by simp
  have := scan_step (s := pre ++ (p ++ x)) (f := pre.length) (acc := acc) (p := p) (m := p.length) (k := k) (by simp; omega) (by rw [hd]; exact hp) (by rw [hd]; simp) hj
  rw [this, List.append_assoc, List.length_append]
theorem pl_blank {b : UInt8} (h : blank b = true) (x : Tx) : pieceLen ([b] ++ x) = 1 := by
  obtain ⟨h1, h2, h3⟩ := blank_word h
  exact one_of h1 h2 (fun c _ => h3 c)
theorem scan_blank {pre x : Tx} {b : UInt8} {acc : List Tok} (h : blank b = true) : scan (pre ++ ([b] ++ x)) pre.length acc = scan ((pre ++ [b]) ++ x) (pre ++ [b]).length acc :=
  scan_at (k := none) (pl_blank h x) (by simp) (by simp [judge, h])
/-- What stands between is passed by. -/
theorem scan_bl {pre x : Tx} {acc : List Tok} (b : Nat) (hb : b < 5) : scan (pre ++ (bl b ++ x)) pre.length acc = scan ((pre ++ bl b) ++ x) (pre ++ bl b).length acc := by
  match b, hb with
  | 0, _ => exact scan_blank (b := 32) (by decide)
  | 1, _ => exact scan_blank (b := 10) (by decide)
  | 2, _ =>
    have h1 := scan_blank (pre := pre) (x := [13, 32] ++ x) (b := 9) (acc := acc) (by decide)
    have h2 := scan_blank (pre := pre ++ [9]) (x := [32] ++ x) (b := 13) (acc := acc) (by decide)
    have h3 := scan_blank (pre := pre ++ [9] ++ [13]) (x := x) (b := 32) (acc := acc) (by decide)
    have h := (h1.trans h2).trans h3
    have e : pre ++ [9] ++ [13] ++ [32] = pre ++ bl 2 := by simp [bl, blanksL]
    rw [e] at h
    exact h
  | 3, _ =>
    have h1 := scan_blank (pre := pre) (x := [35, 32, 120, 32, 61, 32, 49] ++ ([10] ++ x)) (b := 32) (acc := acc) (by decide)
    have h2 := scan_at (pre := pre ++ [32]) (x := [10] ++ x) (p := [35, 32, 120, 32, 61, 32, 49]) (acc := acc) (k := none) rfl (by simp) (by decide)
    have h3 := scan_blank (pre := pre ++ [32] ++ [35, 32, 120, 32, 61, 32, 49]) (x := x) (b := 10) (acc := acc) (by decide)
    have h := (h1.trans h2).trans h3
    have e : pre ++ [32] ++ [35, 32, 120, 32, 61, 32, 49] ++ [10] = pre ++ bl 3 := by simp [bl, blanksL]
    rw [e] at h
    exact h
  | 4, _ =>
    have h1 := scan_blank (pre := pre) (x := [32] ++ x) (b := 32) (acc := acc) (by decide)
    have h2 := scan_blank (pre := pre ++ [32]) (x := x) (b := 32) (acc := acc) (by decide)
    have h := h1.trans h2
    have e : pre ++ [32] ++ [32] = pre ++ bl 4 := by simp [bl, blanksL]
    rw [e] at h
    exact h
theorem bl_head (b : Nat) (hb : b < 5) : ∃ c t, bl b = c :: t ∧ (c = 32 ∨ c = 10 ∨ c = 9) := by
  match b, hb with
  | 0, _ => exact ⟨_, _, rfl, .inl rfl⟩
  | 1, _ => exact ⟨_, _, rfl, .inr (.inl rfl)⟩
  | 2, _ => exact ⟨_, _, rfl, .inr (.inr rfl)⟩
  | 3, _ => exact ⟨_, _, rfl, .inl rfl⟩
  | 4, _ => exact ⟨_, _, rfl, .inl rfl⟩
theorem wd_piece (a : Nat) (ha : a < 21) (c : UInt8) (hc : c = 32 ∨ c = 10 ∨ c = 9) (t : Tx) : pieceLen (wd a ++ c :: t) = (wd a).length := by
  match a, ha with
  | 0, _ => rcases hc with rfl | rfl | rfl <;> rfl
  | 1, _ => rcases hc with rfl | rfl | rfl <;> rfl
  | 2, _ => rcases hc with rfl | rfl | rfl <;> rfl
  | 3, _ => rcases hc with rfl | rfl | rfl <;> rfl
  | 4, _ => rcases hc with rfl | rfl | rfl <;> rfl
  | 5, _ => rcases hc with rfl | rfl | rfl <;> rfl
  | 6, _ => rcases hc with rfl | rfl | rfl <;> rfl
  | 7, _ => rcases hc with rfl | rfl | rfl <;> rfl
  | 8, _ => rcases hc with rfl | rfl | rfl <;> rfl
  | 9, _ => rcases hc with rfl | rfl | rfl <;> rfl
  | 10, _ => rcases hc with rfl | rfl | rfl <;> rfl
  | 11, _ => rcases hc with rfl | rfl | rfl <;> rfl
  | 12, _ => rcases hc with rfl | rfl | rfl <;> rfl
  | 13, _ => rcases hc with rfl | rfl | rfl <;> rfl
  | 14, _ => rcases hc with rfl | rfl | rfl <;> rfl
  | 15, _ => rcases hc with rfl | rfl | rfl <;> rfl
  | 16, _ => rcases hc with rfl | rfl | rfl <;> rfl
  | 17, _ => rcases hc with rfl | rfl | rfl <;> rfl
  | 18, _ => rcases hc with rfl | rfl | rfl <;> rfl
  | 19, _ => rcases hc with rfl | rfl | rfl <;> rfl
  | 20, _ => rcases hc with rfl | rfl | rfl <;> rfl
  | n + 21, h => exact absurd h (by omega)
theorem wd_judge (a : Nat) (ha : a < 21) : judge (wd a) = (some (wk a), 0) ∧ wd a ≠ [] ∧ (wd a).length ≤ 2 := by
  match a, ha with
  | 0, _ => exact ⟨by decide, by decide, by decide⟩
  | 1, _ => exact ⟨by decide, by decide, by decide⟩
  | 2, _ => exact ⟨by decide, by decide, by decide⟩
  | 3, _ => exact ⟨by decide, by decide, by decide⟩
  | 4, _ => exact ⟨by decide, by decide, by decide⟩
  | 5, _ => exact ⟨by decide, by decide, by decide⟩
  | 6, _ => exact ⟨by decide, by decide, by decide⟩
  | 7, _ => exact ⟨by decide, by decide, by decide⟩
  | 8, _ => exact ⟨by decide, by decide, by decide⟩
  | 9, _ => exact ⟨by decide, by decide, by decide⟩
  | 10, _ => exact ⟨by decide, by decide, by decide⟩
  | 11, _ => exact ⟨by decide, by decide, by decide⟩
  | 12, _ => exact ⟨by decide, by decide, by decide⟩
  | 13, _ => exact ⟨by decide, by decide, by decide⟩
  | 14, _ => exact ⟨by decide, by decide, by decide⟩
  | 15, _ => exact ⟨by decide, by decide, by decide⟩
  | 16, _ => exact ⟨by decide, by decide, by decide⟩
  | 17, _ => exact ⟨by decide, by decide, by decide⟩
  | 18, _ => exact ⟨by decide, by decide, by decide⟩
  | 19, _ => exact ⟨by decide, by decide, by decide⟩
  | 20, _ => exact ⟨by decide, by decide, by decide⟩
  | n + 21, h => exact absurd h (by omega)
/-! ### Texts -/
def txt (its : List (Nat × Nat)) : Tx := its.flatMap fun i => wd i.1 ++ bl i.2
def tks : Nat → List (Nat × Nat) → List Tok
  | _, [] => []
  | f, i :: r => ⟨wk i.1, wd i.1, f⟩ :: tks (f + (wd i.1).length + (bl i.2).length) r
theorem scan_txt : ∀ (its : List (Nat × Nat)) (pre : Tx) (acc : List Tok), (∀ i ∈ its, i.1 < 21 ∧ i.2 < 5) → scan (pre ++ txt its) pre.length acc = ⟨acc ++ tks pre.length its, 0, 0⟩
  | [], pre, acc, _ => by simp [txt, tks, scan_end]
  | i :: r, pre, acc, h => by
    obtain ⟨h1, h2⟩ := h i (by simp)
    obtain ⟨j1, j2, j3⟩ := wd_judge i.1 h1
    obtain ⟨c, t, hbl, hc⟩ := bl_head i.2 h2
    have e1 : pre ++ txt (i :: r) = pre ++ (wd i.1 ++ (bl i.2 ++ txt r)) := by simp [txt]
    have hp : pieceLen (wd i.1 ++ (bl i.2 ++ txt r)) = (wd i.1).length := by rw [hbl]; exact wd_piece i.1 h1 c hc _
    rw [e1, scan_at hp j2 j1, scan_bl i.2 h2, scan_txt r _ _ (fun i hi => h i (by simp [hi]))]
    simp [addTok, tks, List.length_append, Nat.add_assoc]
theorem toks_txt {its : List (Nat × Nat)} (h : ∀ i ∈ its, i.1 < 21 ∧ i.2 < 5) (hl : (txt its).length ≤ 4096) : toks (txt its) = ⟨tks 0 its, 0, 0⟩ := by
  have := scan_txt its [] [] h
  unfold toks
  rw [if_neg (by omega)]
  simpa using this
theorem tks_len : ∀ (its : List (Nat × Nat)) (f : Nat), (tks f its).length = its.length
  | [], _ => rfl
  | i :: r, f => by simp [tks, tks_len r]
theorem tks_get : ∀ (its : List (Nat × Nat)) (f j : Nat) (hj : j < its.length), (tks f its)[j]'(by rw [tks_len]; exact hj) = ⟨wk its[j].1, wd its[j].1, f + (txt (its.take j)).length⟩
  | i :: r, f, 0, _ => by simp [tks, txt]
  | i :: r, f, j + 1, hj => by
    simp only [tks, List.getElem_cons_succ]
    rw [tks_get r _ j (by simpa using hj)]
    simp [txt, Nat.add_assoc]
theorem txt_snoc (its : List (Nat × Nat)) (i : Nat × Nat) : txt (its ++ [i]) = txt its ++ wd i.1 ++ bl i.2 := by simp [txt]
theorem txt_app (a b : List (Nat × Nat)) : txt (a ++ b) = txt a ++ txt b := by simp [txt]
theorem txt_cons (i : Nat × Nat) (r : List (Nat × Nat)) : txt (i :: r) = wd i.1 ++ (bl i.2 ++ txt r) := by simp [txt]
theorem txt_part (its : List (Nat × Nat)) (j : Nat) (hj : j < its.length) : (txt its).drop (txt (its.take j)).length = wd its[j].1 ++ (bl its[j].2 ++ txt (its.drop (j + 1))) := by
  have e : txt its = txt (its.take j) ++ (wd its[j].1 ++ (bl its[j].2 ++ txt (its.drop (j + 1)))) := by
    have h := congrArg txt (List.take_append_drop j its)
    rw [List.drop_eq_getElem_cons hj, txt_app, txt_cons] at h
    exact h.symm
  rw [e]
  simp
theorem txt_next (its : List (Nat × Nat)) (j : Nat) (hj : j < its.length) : (txt (its.take (j + 1))).length = (txt (its.take j)).length + (wd its[j].1).length + (bl its[j].2).length := by
  rw [List.take_succ_eq_append_getElem hj, txt_snoc]
  simp [Nat.add_assoc]
theorem bl_len (b : Nat) (hb : b < 5) : (bl b).length ≤ 9 ∧ 1 ≤ (bl b).length := by
  match b, hb with
  | 0, _ => decide
  | 1, _ => decide
  | 2, _ => decide
  | 3, _ => decide
  | 4, _ => decide
theorem txt_len : ∀ (its : List (Nat × Nat)), (∀ i ∈ its, i.1 < 21 ∧ i.2 < 5) → (txt its).length ≤ 11 * its.length
  | [], _ => by simp [txt]
  | i :: r, h => by
    have ih := txt_len r (fun i hi => h i (by simp [hi]))
    obtain ⟨h1, h2⟩ := h i (by simp)
    have := (wd_judge i.1 h1).2.2
    have := (bl_len i.2 h2).1
    have e : txt (i :: r) = wd i.1 ++ bl i.2 ++ txt r := rfl
    rw [e, List.length_append, List.length_append, List.length_cons]
    omega
/-- A word's first byte, and its kind. -/
theorem wd_class (a : Nat) (ha : a < 21) : ∃ c, (wd a)[0]? = some c ∧ ((48 ≤ c.toNat ∧ c.toNat ≤ 57 ∧ wk a = 1) ∨ (97 ≤ c.toNat ∧ c.toNat ≤ 122 ∧ wk a = 0) ∨ (c.toNat = 95 ∧ wk a = 0) ∨ (c.toNat < 48 ∧ wk a = 2) ∨ (57 < c.toNat ∧ c.toNat < 95 ∧ wk a = 2) ∨ (122 < c.toNat ∧ wk a = 2)) := by
  match a, ha with
  | 0, _ => exact ⟨97, rfl, .inr (.inl ⟨by decide, by decide, by decide⟩)⟩
  | 1, _ => exact ⟨98, rfl, .inr (.inl ⟨by decide, by decide, by decide⟩)⟩
  | 2, _ => exact ⟨95, rfl, .inr (.inr (.inl ⟨by decide, by decide⟩))⟩
  | 3, _ => exact ⟨48, rfl, .inl ⟨by decide, by decide, by decide⟩⟩
  | 4, _ => exact ⟨49, rfl, .inl ⟨by decide, by decide, by decide⟩⟩
  | 5, _ => exact ⟨61, rfl, .inr (.inr (.inr (.inr (.inl ⟨by decide, by decide, by decide⟩))))⟩
  | 6, _ => exact ⟨61, rfl, .inr (.inr (.inr (.inr (.inl ⟨by decide, by decide, by decide⟩))))⟩
  | 7, _ => exact ⟨33, rfl, .inr (.inr (.inr (.inl ⟨by decide, by decide⟩)))⟩
  | 8, _ => exact ⟨33, rfl, .inr (.inr (.inr (.inl ⟨by decide, by decide⟩)))⟩
  | 9, _ => exact ⟨60, rfl, .inr (.inr (.inr (.inr (.inl ⟨by decide, by decide, by decide⟩))))⟩
  | 10, _ => exact ⟨60, rfl, .inr (.inr (.inr (.inr (.inl ⟨by decide, by decide, by decide⟩))))⟩
  | 11, _ => exact ⟨38, rfl, .inr (.inr (.inr (.inl ⟨by decide, by decide⟩)))⟩
  | 12, _ => exact ⟨38, rfl, .inr (.inr (.inr (.inl ⟨by decide, by decide⟩)))⟩
  | 13, _ => exact ⟨124, rfl, .inr (.inr (.inr (.inr (.inr ⟨by decide, by decide⟩))))⟩
  | 14, _ => exact ⟨40, rfl, .inr (.inr (.inr (.inl ⟨by decide, by decide⟩)))⟩
  | 15, _ => exact ⟨93, rfl, .inr (.inr (.inr (.inr (.inl ⟨by decide, by decide, by decide⟩))))⟩
  | 16, _ => exact ⟨44, rfl, .inr (.inr (.inr (.inl ⟨by decide, by decide⟩)))⟩
  | 17, _ => exact ⟨59, rfl, .inr (.inr (.inr (.inr (.inl ⟨by decide, by decide, by decide⟩))))⟩
  | 18, _ => exact ⟨102, rfl, .inr (.inl ⟨by decide, by decide, by decide⟩)⟩
  | 19, _ => exact ⟨42, rfl, .inr (.inr (.inr (.inl ⟨by decide, by decide⟩)))⟩
  | 20, _ => exact ⟨37, rfl, .inr (.inr (.inr (.inl ⟨by decide, by decide⟩)))⟩
  | n + 21, h => exact absurd h (by omega)
end Go.Proofs.YtieghhhiclpeiaaDoor.Lx
