/- Pieces as one who reads ahead finds them. -/
import Derived.Test.YtbikifibfaaggaaGreatDoorLMath
namespace Go.Proofs.YtbikifibfaaggaaGreatDoor.Lx

theorem drop_cons {l : Tx} {f : Nat} {b : UInt8} (h : l[f]? = some b) : l.drop f = b :: l.drop (f + 1) := by
  obtain ⟨hf, rfl⟩ := List.getElem?_eq_some_iff.1 h
  exact List.drop_eq_getElem_cons hf
theorem lt_of {l : Tx} {f : Nat} {b : UInt8} (h : l[f]? = some b) : f < l.length := (List.getElem?_eq_some_iff.1 h).1
theorem tail_len {p : UInt8 → Bool} {l : Tx} {f j : Nat} (hj : j ≤ l.length) (hf : f < j) (h1 : ∀ x c, f < x → x < j → l[x]? = some c → p c = true) (h2 : ∀ c, l[j]? = some c → p c = false) : ((l.drop (f + 1)).takeWhile p).length = j - (f + 1) := by
  refine takeWhile_len (fun i hi hk => ?_) (by rw [List.length_drop]; omega) (fun hi => ?_)
  · rw [List.length_drop] at hi
    rw [List.getElem_drop]
    exact h1 _ _ (by omega) (by omega) (List.getElem?_eq_getElem (by omega))
  · rw [List.length_drop] at hi
    rw [List.getElem_drop]
    have hx : f + 1 + (j - (f + 1)) = j := by omega
    refine h2 _ (List.getElem?_eq_some_iff.2 ⟨by omega, by simp only [hx]⟩)
theorem blank_ne {b : UInt8} (h : blank b = true) : b = 32 ∨ b = 9 ∨ b = 13 ∨ b = 10 := by simpa [blank] using h
theorem blank_word {b : UInt8} (h : blank b = true) : (b == 35) = false ∧ inWord b = false ∧ ∀ c, isOp [b, c] = false := by
  rcases blank_ne h with rfl | rfl | rfl | rfl <;> exact ⟨rfl, rfl, fun c => by simp [isOp, ops2]⟩
theorem one_of {b : UInt8} {t : Tx} (h1 : (b == 35) = false) (h2 : inWord b = false) (h3 : ∀ c, t.head? = some c → isOp [b, c] = false) : pieceLen (b :: t) = 1 := by
  rw [pl_cons, if_neg (by rw [h1]; simp), if_neg (by rw [h2]; simp)]
  cases t with
  | nil => rfl
  | cons c t => simp only; rw [if_neg (by rw [h3 c rfl]; simp)]
theorem ref_blank {l : Tx} {f : Nat} {b : UInt8} {ts : List Tok} (hb : l[f]? = some b) (h : blank b = true) : scan l f ts = scan l (f + 1) ts := by
  obtain ⟨h1, h2, h3⟩ := blank_word h
  have hd := drop_cons hb
  exact scan_step (p := [b]) (k := none) (lt_of hb) (by rw [hd]; exact one_of h1 h2 (fun c _ => h3 c)) (by rw [hd]; rfl) (by simp [judge, h])
theorem ref_hash {l : Tx} {f j : Nat} {ts : List Tok} (hb : l[f]? = some 35) (hj : j ≤ l.length) (hf : f < j) (h1 : ∀ x c, f < x → x < j → l[x]? = some c → (c != 10) = true) (h2 : ∀ c, l[j]? = some c → (c != 10) = false) : scan l f ts = scan l j ts := by
  have hd := drop_cons hb
  have ht := tail_len (p := (· != 10)) hj hf h1 h2
  have := scan_step (acc := ts) (p := (l.drop f).take (j - f)) (k := none) (m := j - f) (lt_of hb) (by rw [hd, pl_cons, if_pos (show ((35 : UInt8) == 35) = true from rfl), ht]; omega) rfl (by
    rw [hd, show j - f = (j - f - 1) + 1 by omega, List.take_succ_cons]; simp [judge])
  rw [show f + (j - f) = j by omega] at this
  exact this
theorem letter_word {b : UInt8} (h : letter b = true) : (b == 35) = false ∧ blank b = false ∧ digit b = false ∧ inWord b = true := by
  have hb : (b == 35) = false := by
    by_cases h35 : b = 35
    · subst h35; exact absurd h (by decide)
    · simp [h35]
  have hbl : blank b = false := by
    cases hbb : blank b with
    | false => rfl
    | true => rcases blank_ne hbb with rfl | rfl | rfl | rfl <;> exact absurd h (by decide)
  refine ⟨hb, hbl, ?_, by unfold inWord; rw [h]; rfl⟩
  simp [letter, ← UInt8.toNat_inj] at h
  rw [Bool.eq_false_iff]
  simp [digit]
  omega
theorem digit_word {b : UInt8} (h : digit b = true) : (b == 35) = false ∧ blank b = false ∧ letter b = false ∧ inWord b = true := by
  have h' := h
  simp [digit] at h'
  refine ⟨?_, ?_, ?_, by unfold inWord; rw [h]; simp⟩
  · rw [Bool.eq_false_iff]; simp [← UInt8.toNat_inj]; omega
  · rw [Bool.eq_false_iff]; simp [blank, ← UInt8.toNat_inj]; omega
  · rw [Bool.eq_false_iff]; simp [letter, ← UInt8.toNat_inj]; omega
theorem take_cons {l : Tx} {f j : Nat} {b : UInt8} (hb : l[f]? = some b) (hf : f < j) : (l.drop f).take (j - f) = b :: (l.drop (f + 1)).take (j - (f + 1)) := by
  rw [drop_cons hb, show j - f = (j - (f + 1)) + 1 by omega, List.take_succ_cons]
theorem ref_name {l : Tx} {f j : Nat} {b : UInt8} {ts : List Tok} (hb : l[f]? = some b) (hw : letter b = true) (hj : j ≤ l.length) (hf : f < j) (h1 : ∀ x c, f < x → x < j → l[x]? = some c → inWord c = true) (h2 : ∀ c, l[j]? = some c → inWord c = false) :
    (j - f ≤ 32 → scan l f ts = scan l j (ts ++ [⟨0, (l.drop f).take (j - f), f⟩])) ∧ (32 < j - f → scan l f ts = ⟨[], f, 53⟩) := by
  obtain ⟨e1, e2, e3, e4⟩ := letter_word hw
  have hd := drop_cons hb
  have ht := tail_len (p := inWord) hj hf h1 h2
  have hm : pieceLen (l.drop f) = j - f := by rw [hd, pl_cons, if_neg (by rw [e1]; simp), if_pos e4, ht]; omega
  have hlen : ((l.drop f).take (j - f)).length = j - f := by rw [List.length_take, List.length_drop]; omega
  have hjd : judge ((l.drop f).take (j - f)) = (some 0, if 32 < j - f then 53 else 0) := by
    rw [take_cons hb hf] at hlen ⊢
    simp only [judge, e1, e2, e3, hw, Bool.or_self, Bool.false_eq_true, if_false, if_true]
    rw [hlen]
  refine ⟨fun h => ?_, fun h => ?_⟩
  · rw [if_neg (by omega)] at hjd
    have := scan_step (acc := ts) (lt_of hb) hm rfl hjd
    rw [show f + (j - f) = j by omega] at this
    exact this
  · rw [if_pos h] at hjd
    exact scan_err (acc := ts) (lt_of hb) hm rfl hjd (by omega)
theorem takeWhile_eq {p : UInt8 → Bool} {t : Tx} {k : Nat} (h : (t.takeWhile p).length = k) : t.takeWhile p = t.take k := by
  rw [← h]
  exact List.prefix_iff_eq_take.1 (List.takeWhile_prefix p)
theorem tw_tw : ∀ (t : Tx), (t.takeWhile inWord).takeWhile digit = t.takeWhile digit
  | [] => rfl
  | c :: t => by
    cases hc : digit c with
    | true => rw [List.takeWhile_cons_of_pos (digit_word hc).2.2.2, List.takeWhile_cons_of_pos hc, List.takeWhile_cons_of_pos hc, tw_tw t]
    | false =>
      rw [List.takeWhile_cons_of_neg (l := t) (p := digit) (by rw [hc]; simp)]
      cases hw : inWord c with
      | true => rw [List.takeWhile_cons_of_pos hw, List.takeWhile_cons_of_neg (by rw [hc]; simp)]
      | false => rw [List.takeWhile_cons_of_neg (by rw [hw]; simp)]; rfl
theorem ref_num {l : Tx} {f j : Nat} {b : UInt8} {ts : List Tok} (hb : l[f]? = some b) (hw : digit b = true) (hj : j ≤ l.length) (hf : f < j) (h1 : ∀ x c, f < x → x < j → l[x]? = some c → digit c = true) (h2 : ∀ c, l[j]? = some c → digit c = false) :
    (9223372036854775807 < val ((l.drop f).take (j - f)) → scan l f ts = ⟨[], f, 53⟩) ∧
    (¬ 9223372036854775807 < val ((l.drop f).take (j - f)) → ((∃ c, l[j]? = some c ∧ letter c = true) ∨ (b = 48 ∧ 1 < j - f)) → scan l f ts = ⟨[], f, 50⟩) ∧
    (¬ 9223372036854775807 < val ((l.drop f).take (j - f)) → ¬ ((∃ c, l[j]? = some c ∧ letter c = true) ∨ (b = 48 ∧ 1 < j - f)) → scan l f ts = scan l j (ts ++ [⟨1, (l.drop f).take (j - f), f⟩])) := by
  obtain ⟨e1, e2, e3, e4⟩ := digit_word hw
  have hd := drop_cons hb
  have hdig := tail_len (p := digit) hj hf h1 h2
  -- the piece
  obtain ⟨m, hm⟩ : ∃ m, m = pieceLen (l.drop f) := ⟨_, rfl⟩
  have hml : m ≤ (l.drop f).length := by rw [hm]; exact pieceLen_le _
  have hm2 : m = 1 + ((l.drop (f + 1)).takeWhile inWord).length := by rw [hm, hd, pl_cons, if_neg (by rw [e1]; simp), if_pos e4]
  have hpre : ((l.drop (f + 1)).takeWhile digit).length ≤ ((l.drop (f + 1)).takeWhile inWord).length := by
    rw [← tw_tw]
    exact (List.takeWhile_prefix _).length_le
  have hjm : j - f ≤ m := by omega
  -- the digits of the piece
  have hpc : (l.drop f).take m = b :: ((l.drop (f + 1)).takeWhile inWord) := by
    rw [hd, hm2, Nat.add_comm 1, List.take_succ_cons, takeWhile_eq rfl]
    simp
  have hdg : ((l.drop f).take m).takeWhile digit = (l.drop f).take (j - f) := by
    rw [hpc, List.takeWhile_cons_of_pos hw, take_cons hb hf]
    congr 1
    rw [tw_tw]
    exact takeWhile_eq hdig
  have hlen : ((l.drop f).take (j - f)).length = j - f := by rw [List.length_take, List.length_drop]; omega
  have hlm : ((l.drop f).take m).length = m := by rw [List.length_take]; omega
  have hhead : ((l.drop f).take m).head? = some b := by rw [hpc]; rfl
  have hjd : judge ((l.drop f).take m) = (some 1, num ((l.drop f).take m)) := by
    rw [hpc]
    simp [judge, e1, e2, hw]
  have hnum : num ((l.drop f).take m) = if 9223372036854775807 < val ((l.drop f).take (j - f)) then 53 else if j - f < m ∨ (b = 48 ∧ 1 < j - f) then 50 else 0 := by
    unfold num
    rw [hdg, hlen, hlm, hhead]
    simp
  have hlet : j - f < m ↔ ∃ c, l[j]? = some c ∧ letter c = true := by
    constructor
    · intro h
      have hjl : j < l.length := by rw [List.length_drop] at hml; omega
      refine ⟨l[j], List.getElem?_eq_getElem hjl, ?_⟩
      have hx : ((l.drop (f + 1)).takeWhile inWord)[j - (f + 1)]? = some l[j] := by
        rw [takeWhile_eq rfl, List.getElem?_take_of_lt (by omega), List.getElem?_drop, show f + 1 + (j - (f + 1)) = j by omega, List.getElem?_eq_getElem hjl]
      have hmem := List.mem_of_getElem? hx
      have hin := List.all_eq_true.1 (List.all_takeWhile (p := inWord) (l := l.drop (f + 1))) _ hmem
      have hnd := h2 l[j] (List.getElem?_eq_getElem hjl)
      unfold inWord at hin
      rw [hnd] at hin
      simpa using hin
    · rintro ⟨c, hc, hcl⟩
      have hjl := lt_of hc
      by_cases h : j - f < m
      · exact h
      · exfalso
        have hmj : ((l.drop (f + 1)).takeWhile inWord).length = j - (f + 1) := by omega
        have htw : (l.drop (f + 1)) = (l.drop (f + 1)).takeWhile inWord ++ (l.drop (f + 1)).dropWhile inWord := (List.takeWhile_append_dropWhile).symm
        have hx : (l.drop (f + 1))[j - (f + 1)]? = some c := by rw [List.getElem?_drop, show f + 1 + (j - (f + 1)) = j by omega]; exact hc
        rw [htw, List.getElem?_append_right (by omega), hmj, Nat.sub_self] at hx
        have hh := List.head?_dropWhile_not inWord (l.drop (f + 1))
        rw [List.head?_eq_getElem?, hx] at hh
        have hw2 := (letter_word hcl).2.2.2
        simp [hw2] at hh
  refine ⟨fun h => ?_, fun h h3 => ?_, fun h h3 => ?_⟩
  · rw [if_pos h] at hnum
    rw [hnum] at hjd
    exact scan_err (acc := ts) (lt_of hb) hm.symm rfl hjd (by omega)
  · rw [if_neg h, if_pos (by rw [hlet]; exact h3)] at hnum
    rw [hnum] at hjd
    exact scan_err (acc := ts) (lt_of hb) hm.symm rfl hjd (by omega)
  · have hn3 : ¬ (j - f < m ∨ (b = 48 ∧ 1 < j - f)) := by rw [hlet]; exact h3
    rw [if_neg h, if_neg hn3] at hnum
    rw [hnum] at hjd
    have hmj : m = j - f := by omega
    have := scan_step (acc := ts) (lt_of hb) hm.symm rfl hjd
    rw [hmj, show f + (j - f) = j by omega] at this
    exact this
theorem val_next {l : Tx} {f j : Nat} {c : UInt8} (hf : f ≤ j) (hc : l[j]? = some c) : val ((l.drop f).take (j + 1 - f)) = 10 * val ((l.drop f).take (j - f)) + (c.toNat - 48) := by
  have hjl := lt_of hc
  have : (l.drop f).take (j + 1 - f) = (l.drop f).take (j - f) ++ [c] := by
    have hx : (l.drop f)[j - f]'(by rw [List.length_drop]; omega) = c := by
      rw [List.getElem_drop]
      obtain ⟨_, h⟩ := List.getElem?_eq_some_iff.1 hc
      rw [← h]; congr 1; omega
    rw [show j + 1 - f = (j - f) + 1 by omega, List.take_succ_eq_append_getElem (by rw [List.length_drop]; omega), hx]
  rw [this, val_snoc]
/-! ### Signs -/
theorem op2_start {b c : UInt8} (h : isOp [b, c] = true) : (b == 35) = false ∧ blank b = false ∧ digit b = false ∧ letter b = false ∧ inWord b = false := by
  have : b = 61 ∨ b = 33 ∨ b = 60 ∨ b = 62 ∨ b = 38 ∨ b = 124 := by
    simp [isOp, ops2] at h
    rcases h with h | h | h | h | h | h <;> simp [h.1]
  rcases this with rfl | rfl | rfl | rfl | rfl | rfl <;> exact ⟨rfl, rfl, rfl, rfl, rfl⟩
theorem ref_two {l : Tx} {f : Nat} {b c : UInt8} {ts : List Tok} (hb : l[f]? = some b) (hc : l[f + 1]? = some c) (h : isOp [b, c] = true) : scan l f ts = scan l (f + 2) (ts ++ [⟨2, [b, c], f⟩]) := by
  obtain ⟨e1, e2, e3, e4, e5⟩ := op2_start h
  have hd := drop_cons hb
  rw [drop_cons hc] at hd
  exact scan_step (p := [b, c]) (k := some 2) (lt_of hb) (by rw [hd, pl_cons, if_neg (by rw [e1]; simp), if_neg (by rw [e5]; simp)]; simp only; rw [if_pos h]) (by rw [hd]; rfl) (by simp [judge, e1, e2, e3, e4, h])
theorem ref_one {l : Tx} {f : Nat} {b : UInt8} {ts : List Tok} (hb : l[f]? = some b) (e1 : (b == 35) = false) (e2 : blank b = false) (e3 : digit b = false) (e4 : letter b = false) (h2 : ∀ c, l[f + 1]? = some c → isOp [b, c] = false) :
    (ops1.contains b = true → scan l f ts = scan l (f + 1) (ts ++ [⟨2, [b], f⟩])) ∧ (ops1.contains b = false → scan l f ts = ⟨[], f, 50⟩) := by
  have hd := drop_cons hb
  have hm : pieceLen (l.drop f) = 1 := by
    rw [hd]
    refine one_of e1 (by unfold inWord; rw [e3, e4]; rfl) (fun c hc => h2 c ?_)
    rw [List.head?_drop] at hc; exact hc
  have hp : (l.drop f).take 1 = [b] := by rw [hd]; rfl
  have ho : isOp [b] = ops1.contains b := by
    unfold isOp
    have : ops2.contains [b] = false := by simp [ops2]
    rw [this]; rfl
  refine ⟨fun h => ?_, fun h => ?_⟩
  · exact scan_step (p := [b]) (k := some 2) (lt_of hb) hm hp (by simp [judge, e1, e2, e3, e4, ho, h, - List.contains_eq_mem])
  · exact scan_err (p := [b]) (k := none) (lt_of hb) hm hp (by simp [judge, e1, e2, e3, e4, ho, h, - List.contains_eq_mem]) (by omega)
end Go.Proofs.YtbikifibfaaggaaGreatDoor.Lx
