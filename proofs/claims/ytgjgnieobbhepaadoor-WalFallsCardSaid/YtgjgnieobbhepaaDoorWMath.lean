/- The log as plain mathematics: numbers of four bytes, records, frames, what an area reads as. -/
import Derived.Test.YtgjgnieobbhepaaDoorDMath
import Derived.Test.YtgjgnieobbhepaaDoorMath
namespace Go.Proofs.YtgjgnieobbhepaaDoor
namespace L

def le32 (n : Nat) : List UInt8 := [UInt8.ofNat n, UInt8.ofNat (n / 256), UInt8.ofNat (n / 65536), UInt8.ofNat (n / 16777216)]
def de32 (l : List UInt8) : Nat := (l.getD 0 0).toNat + 256 * (l.getD 1 0).toNat + 65536 * (l.getD 2 0).toNat + 16777216 * (l.getD 3 0).toNat
theorem le32_length (n : Nat) : (le32 n).length = 4 := rfl
theorem de32_lt (l : List UInt8) : de32 l < 4294967296 := by
  unfold de32
  have := M.u8_lt (l.getD 0 0); have := M.u8_lt (l.getD 1 0); have := M.u8_lt (l.getD 2 0); have := M.u8_lt (l.getD 3 0)
  omega
theorem ofNat_toNat (n : Nat) : (UInt8.ofNat n).toNat = n % 256 := by simp
theorem de_le (n : Nat) (h : n < 4294967296) (r : List UInt8) : de32 (le32 n ++ r) = n := by
  unfold de32 le32
  simp only [List.cons_append, List.getD_cons_zero, List.getD_cons_succ, ofNat_toNat]
  omega
theorem de_prefix {a b : List UInt8} (h : 4 ≤ a.length) : de32 (a ++ b) = de32 a := by
  match a, h with
  | x :: y :: z :: u :: a, _ => rfl
theorem de_take {a : List UInt8} {k : Nat} (h : 4 ≤ k) (hk : k ≤ a.length) : de32 (a.take k) = de32 a := by
  have := de_prefix (a := a.take k) (b := a.drop k) (by rw [List.length_take]; omega)
  rw [List.take_append_drop] at this
  exact this.symm

/-! ### Records -/
def body : List (List UInt8) → List UInt8
  | [] => []
  | r :: rs => le32 r.length ++ (r ++ body rs)
theorem body_append (a b : List (List UInt8)) : body (a ++ b) = body a ++ body b := by
  induction a with
  | nil => rfl
  | cons r rs ih => simp only [List.cons_append, body, ih, List.append_assoc]
theorem body_cons_len (r : List UInt8) (rs : List (List UInt8)) : (body (r :: rs)).length = 4 + r.length + (body rs).length := by
  simp only [body, List.length_append, le32_length]; omega
def split (b : List UInt8) : Option (List (List UInt8)) :=
  if _h0 : b = [] then some []
  else if _h4 : b.length < 4 then none
  else if (b.drop 4).length < de32 b then none
  else (split ((b.drop 4).drop (de32 b))).map fun rs => (b.drop 4).take (de32 b) :: rs
termination_by b.length
decreasing_by simp only [List.length_drop]; omega
theorem split_nil : split [] = some [] := by rw [split]; simp
theorem split_short {b : List UInt8} (h0 : b ≠ []) (h : b.length < 4) : split b = none := by rw [split, dif_neg h0, dif_pos h]
theorem split_cut {b : List UInt8} (h4 : 4 ≤ b.length) (h : b.length - 4 < de32 b) : split b = none := by
  have h0 : b ≠ [] := by rintro rfl; simp at h4
  rw [split, dif_neg h0, dif_neg (by omega), if_pos (by rw [List.length_drop]; exact h)]
theorem split_next {b : List UInt8} (h4 : 4 ≤ b.length) (h : de32 b ≤ b.length - 4) : split b = (split ((b.drop 4).drop (de32 b))).map fun rs => (b.drop 4).take (de32 b) :: rs := by
  have h0 : b ≠ [] := by rintro rfl; simp at h4
  rw [split, dif_neg h0, dif_neg (by omega), if_neg (by rw [List.length_drop]; omega)]
theorem split_body : ∀ {rs : List (List UInt8)}, (∀ r ∈ rs, r.length < 4294967296) → split (body rs) = some rs
  | [], _ => split_nil
  | r :: rs, h => by
    have hr := h r (by simp)
    have e1 : de32 (body (r :: rs)) = r.length := de_le _ hr _
    have e2 : (body (r :: rs)).drop 4 = r ++ body rs := rfl
    rw [split_next (by rw [body_cons_len]; omega) (by rw [e1, body_cons_len]; omega), e1, e2, List.drop_left, List.take_left, split_body (fun x hx => h x (by simp [hx]))]
    rfl

/-! ### Frames -/
def nsec (rs : List (List UInt8)) (s : Nat) : Nat := if rs = [] then 0 else (9 + (body rs).length + s - 1) / s
theorem nsec_nil (s : Nat) : nsec [] s = 0 := if_pos rfl
theorem nsec_some {rs : List (List UInt8)} (h : rs ≠ []) (s : Nat) : nsec rs s = (9 + (body rs).length + s - 1) / s := if_neg h
theorem nsec_bound {rs : List (List UInt8)} {s : Nat} (hs : 0 < s) : nsec rs s * s ≤ 9 + (body rs).length + s - 1 := by
  unfold nsec; split
  · omega
  · exact Nat.div_mul_le_self _ _
theorem nsec_room {rs : List (List UInt8)} {s : Nat} (h : rs ≠ []) (hs : 0 < s) : 9 + (body rs).length ≤ nsec rs s * s := by
  rw [nsec_some h]
  have h1 := Nat.div_add_mod (9 + (body rs).length + s - 1) s
  have h2 := Nat.mod_lt (9 + (body rs).length + s - 1) hs
  rw [Nat.mul_comm] at h1
  omega
theorem nsec_pos {rs : List (List UInt8)} {s : Nat} (h : rs ≠ []) (hs : 0 < s) : 1 ≤ nsec rs s := by
  have := nsec_room h hs
  rcases Nat.eq_zero_or_pos (nsec rs s) with h0 | h0
  · rw [h0] at this; omega
  · exact h0
def check (b : List UInt8) : Nat := M.crc [le32 b.length, b]
/-- A frame of some records: its mark, and all else but the padding. -/
def core (mark : UInt8) (rs : List (List UInt8)) : List UInt8 := mark :: (le32 (body rs).length ++ (le32 (check (body rs)) ++ body rs))
theorem core_length (mark : UInt8) (rs : List (List UInt8)) : (core mark rs).length = 9 + (body rs).length := by
  simp only [core, List.length_cons, List.length_append, le32_length]; omega
/-- A frame, and a sector of zeros. -/
def frame (mark : UInt8) (rs : List (List UInt8)) (s : Nat) : List UInt8 :=
  if rs = [] then List.replicate s 0 else core mark rs ++ List.replicate ((nsec rs s + 1) * s - (9 + (body rs).length)) 0
theorem frame_length (mark : UInt8) (rs : List (List UInt8)) {s : Nat} (hs : 0 < s) : (frame mark rs s).length = (nsec rs s + 1) * s := by
  unfold frame
  split
  · rename_i h; subst h; simp [nsec_nil]
  · rename_i h
    have := nsec_room h hs
    rw [List.length_append, core_length, List.length_replicate, Nat.add_mul]; omega
def readF (s : Nat) (S : List UInt8) : Option (List (List UInt8) × Nat) :=
  if S.length < 9 then none
  else if S.getD 0 0 ≠ 1 then none
  else if S.length - 9 < de32 (S.drop 1) then none
  else if M.crc [(S.drop 1).take 4, (S.drop 9).take (de32 (S.drop 1))] ≠ de32 (S.drop 5) then none
  else (split ((S.drop 9).take (de32 (S.drop 1)))).map fun rs => (rs, (9 + de32 (S.drop 1) + s - 1) / s)
theorem readF_short {s : Nat} {S : List UInt8} (h : S.length < 9) : readF s S = none := if_pos h
theorem readF_unmarked {s : Nat} {S : List UInt8} (h : S.getD 0 0 ≠ 1) : readF s S = none := by
  unfold readF; repeat (first | rfl | split | contradiction)
theorem readF_long {s : Nat} {S : List UInt8} (h : S.length - 9 < de32 (S.drop 1)) : readF s S = none := by
  unfold readF; repeat (first | rfl | split | contradiction)
theorem readF_sum {s : Nat} {S : List UInt8} (h : M.crc [(S.drop 1).take 4, (S.drop 9).take (de32 (S.drop 1))] ≠ de32 (S.drop 5)) : readF s S = none := by
  unfold readF; repeat (first | rfl | split | contradiction)
theorem readF_ok {s : Nat} {S : List UInt8} (h1 : 9 ≤ S.length) (h2 : S.getD 0 0 = 1) (h3 : de32 (S.drop 1) ≤ S.length - 9) (h4 : M.crc [(S.drop 1).take 4, (S.drop 9).take (de32 (S.drop 1))] = de32 (S.drop 5)) :
    readF s S = (split ((S.drop 9).take (de32 (S.drop 1)))).map fun rs => (rs, (9 + de32 (S.drop 1) + s - 1) / s) := by
  unfold readF
  rw [if_neg (by omega), if_neg (by rw [h2]; simp), if_neg (by omega), if_neg (by rw [h4]; simp)]
theorem readF_parts {s : Nat} {S : List UInt8} {rs : List (List UInt8)} {k : Nat} (h : readF s S = some (rs, k)) : 9 ≤ S.length ∧ S.getD 0 0 = 1 ∧ de32 (S.drop 1) ≤ S.length - 9 ∧
    M.crc [(S.drop 1).take 4, (S.drop 9).take (de32 (S.drop 1))] = de32 (S.drop 5) ∧ split ((S.drop 9).take (de32 (S.drop 1))) = some rs ∧ k = (9 + de32 (S.drop 1) + s - 1) / s := by
  unfold readF at h
  split at h
  · cases h
  split at h
  · cases h
  split at h
  · cases h
  split at h
  · cases h
  rename_i h1 h2 h3 h4
  rw [Option.map_eq_some_iff] at h
  obtain ⟨a, ha, he⟩ := h
  simp only [Prod.mk.injEq] at he
  refine ⟨by omega, by simpa using h2, by omega, by simpa using h4, ?_, he.2.symm⟩
  rw [ha, he.1]
theorem readF_pos {s : Nat} {S : List UInt8} {rs : List (List UInt8)} {k : Nat} (hs : 0 < s) (h : readF s S = some (rs, k)) : 1 ≤ k ∧ 9 + de32 (S.drop 1) ≤ k * s ∧ k * s ≤ 9 + de32 (S.drop 1) + s - 1 := by
  obtain ⟨_, _, _, _, _, hk⟩ := readF_parts h
  have h1 := Nat.div_add_mod (9 + de32 (S.drop 1) + s - 1) s
  have h2 := Nat.mod_lt (9 + de32 (S.drop 1) + s - 1) hs
  rw [Nat.mul_comm, ← hk] at h1
  refine ⟨?_, by omega, by omega⟩
  rcases Nat.eq_zero_or_pos k with h0 | h0
  · subst h0; omega
  · exact h0
theorem readF_fits {s c : Nat} {S : List UInt8} {rs : List (List UInt8)} {k : Nat} (hs : 0 < s) (hl : S.length = c * s) (h : readF s S = some (rs, k)) : k ≤ c := by
  obtain ⟨h1, h2, h3⟩ := readF_pos hs h
  obtain ⟨h9, _, h4, _⟩ := readF_parts h
  have : k * s < (c + 1) * s := by rw [Nat.add_mul]; omega
  have := Nat.lt_of_mul_lt_mul_right this
  omega
/-- What is read hangs on the frame's own bytes alone. -/
theorem readF_prefix {s : Nat} {P Q Q' : List UInt8} {rs : List (List UInt8)} {k : Nat} (h : readF s (P ++ Q) = some (rs, k)) (hP : 9 + de32 ((P ++ Q).drop 1) ≤ P.length) : readF s (P ++ Q') = some (rs, k) := by
  obtain ⟨h1, h2, h3, h4, h5, h6⟩ := readF_parts h
  have h9 : 9 ≤ P.length := by omega
  have e0 : ∀ X : List UInt8, (P ++ X).getD 0 0 = P.getD 0 0 := fun X => by
    match P, h9 with
    | x :: P, _ => rfl
  have ed : ∀ (X : List UInt8) (j : Nat), j ≤ 9 → (P ++ X).drop j = P.drop j ++ X := fun X j hj => List.drop_append_of_le_length (by omega)
  have e1 : ∀ X : List UInt8, de32 ((P ++ X).drop 1) = de32 (P.drop 1) := fun X => by rw [ed X 1 (by omega), de_prefix (by rw [List.length_drop]; omega)]
  have e5 : ∀ X : List UInt8, de32 ((P ++ X).drop 5) = de32 (P.drop 5) := fun X => by rw [ed X 5 (by omega), de_prefix (by rw [List.length_drop]; omega)]
  have e4 : ∀ X : List UInt8, ((P ++ X).drop 1).take 4 = (P.drop 1).take 4 := fun X => by rw [ed X 1 (by omega), List.take_append_of_le_length (by rw [List.length_drop]; omega)]
  rw [e1] at hP
  have e9 : ∀ X : List UInt8, ((P ++ X).drop 9).take (de32 (P.drop 1)) = (P.drop 9).take (de32 (P.drop 1)) := fun X => by rw [ed X 9 (by omega), List.take_append_of_le_length (by rw [List.length_drop]; omega)]
  rw [e0] at h2
  rw [e4, e1, e5, e9] at h4
  rw [e1, e9] at h5
  rw [e1] at h6
  rw [readF_ok (by rw [List.length_append]; omega) (by rw [e0]; exact h2) (by rw [e1, List.length_append]; omega) (by rw [e4, e1, e5, e9]; exact h4), e1, e9, h5, h6]
  rfl
theorem readF_core {rs : List (List UInt8)} {s : Nat} (h0 : rs ≠ []) (hb : (body rs).length < 4294967296) (hl : ∀ r ∈ rs, r.length < 4294967296) (Q : List UInt8) : readF s (core 1 rs ++ Q) = some (rs, nsec rs s) := by
  have hc : M.crc [le32 (body rs).length, body rs] < 4294967296 := M.crc_lt _
  have e1 : (core 1 rs ++ Q).drop 1 = le32 (body rs).length ++ (le32 (check (body rs)) ++ body rs ++ Q) := by simp [core]
  have e5 : (core 1 rs ++ Q).drop 5 = le32 (check (body rs)) ++ (body rs ++ Q) := by
    rw [show (5 : Nat) = 1 + 4 by rfl, ← List.drop_drop, e1]; simp [le32]
  have e9 : (core 1 rs ++ Q).drop 9 = body rs ++ Q := by
    rw [show (9 : Nat) = 5 + 4 by rfl, ← List.drop_drop, e5]; simp [le32]
  have d1 : de32 ((core 1 rs ++ Q).drop 1) = (body rs).length := by rw [e1]; exact de_le _ hb _
  have d5 : de32 ((core 1 rs ++ Q).drop 5) = check (body rs) := by rw [e5]; exact de_le _ hc _
  have t4 : ((core 1 rs ++ Q).drop 1).take 4 = le32 (body rs).length := by rw [e1]; rfl
  have t9 : ((core 1 rs ++ Q).drop 9).take (body rs).length = body rs := by rw [e9, List.take_left]
  rw [readF_ok (by rw [List.length_append, core_length]; omega) rfl (by rw [d1, List.length_append, core_length]; omega) (by rw [d1, t4, t9, d5]; rfl), d1, t9, split_body hl, nsec_some h0]
  rfl

/-! ### What an area reads as -/
inductive Reads (s : Nat) : List UInt8 → List (List UInt8) → Nat → Prop
  | stop {S : List UInt8} : readF s S = none → Reads s S [] 0
  | more {S : List UInt8} {r rs : List (List UInt8)} {k u : Nat} : readF s S = some (r, k) → Reads s (S.drop (k * s)) rs u → Reads s S (r ++ rs) (k + u)
theorem Reads.unique {s : Nat} {S : List UInt8} {rs rs' : List (List UInt8)} {u u' : Nat} (h : Reads s S rs u) (h' : Reads s S rs' u') : rs = rs' ∧ u = u' := by
  induction h generalizing rs' u' with
  | stop h =>
    cases h' with
    | stop _ => exact ⟨rfl, rfl⟩
    | more h2 _ => rw [h] at h2; cases h2
  | more h _ ih =>
    cases h' with
    | stop h2 => rw [h] at h2; cases h2
    | more h2 h3 =>
      rw [h] at h2
      cases h2
      obtain ⟨rfl, rfl⟩ := ih h3
      exact ⟨rfl, rfl⟩
theorem Reads.all {s : Nat} (hs : 0 < s) : ∀ (c : Nat) (S : List UInt8), S.length = c * s → ∃ rs u, Reads s S rs u ∧ u ≤ c := by
  intro c
  induction c using Nat.strongRecOn with
  | ind c ih =>
    intro S hS
    cases hr : readF s S with
    | none => exact ⟨[], 0, .stop hr, Nat.zero_le _⟩
    | some p =>
      obtain ⟨r, k⟩ := p
      have hk := readF_pos hs hr
      have hf := readF_fits hs hS hr
      obtain ⟨rs, u, h1, h2⟩ := ih (c - k) (by omega) (S.drop (k * s)) (by rw [List.length_drop, hS, Nat.sub_mul])
      exact ⟨_, _, .more hr h1, by omega⟩
theorem Reads.bound {s c : Nat} (hs : 0 < s) {S : List UInt8} {rs : List (List UInt8)} {u : Nat} (h : Reads s S rs u) (hS : S.length = c * s) : u ≤ c := by
  obtain ⟨rs', u', h', hu⟩ := Reads.all hs c S hS
  obtain ⟨_, rfl⟩ := h.unique h'
  exact hu
/-- Where the frames end nothing can be read. -/
theorem Reads.ends {s : Nat} {S : List UInt8} {rs : List (List UInt8)} {u : Nat} (h : Reads s S rs u) : readF s (S.drop (u * s)) = none := by
  induction h with
  | stop h => simpa using h
  | more _ _ ih => rw [Nat.add_mul, ← List.drop_drop]; exact ih
/-- The frames stay as they are where their own sectors do; what comes behind them follows. -/
theorem Reads.again {s c : Nat} (hs : 0 < s) {S : List UInt8} {rs : List (List UInt8)} {u : Nat} (h : Reads s S rs u) : ∀ {S' : List UInt8} {rs' : List (List UInt8)} {u' : Nat}, S.length = c * s → S.take (u * s) = S'.take (u * s) → S'.length = S.length →
    Reads s (S'.drop (u * s)) rs' u' → Reads s S' (rs ++ rs') (u + u') := by
  induction h generalizing c with
  | stop h => intro S' rs' u' _ _ _ h'; simpa using h'
  | @more S r rs k u hr hrs ih =>
    intro S' rs' u' hS ht hl h'
    have hp := readF_pos hs hr
    have hf := readF_fits hs hS hr
    have hks : k * s ≤ S.length := by rw [hS]; exact Nat.mul_le_mul_right _ hf
    have ht1 : S.take (k * s) = S'.take (k * s) := by
      have := congrArg (List.take (k * s)) ht
      rw [List.take_take, List.take_take, Nat.min_eq_left (by rw [Nat.add_mul]; omega)] at this
      exact this
    have hr' : readF s S' = some (r, k) := by
      rw [← List.take_append_drop (k * s) S'] 
      rw [← ht1]
      refine readF_prefix (Q := S.drop (k * s)) (by rw [List.take_append_drop]; exact hr) ?_
      rw [List.take_append_drop, List.length_take]
      omega
    rw [List.append_assoc, Nat.add_assoc]
    refine .more hr' (ih (c := c - k) (by rw [List.length_drop, hS, Nat.sub_mul]) ?_ (by rw [List.length_drop, List.length_drop, hl]) (by rw [List.drop_drop, ← Nat.add_mul]; exact h'))
    rw [List.take_drop, List.take_drop, ← Nat.add_mul, ht]
end L
end Go.Proofs.YtgjgnieobbhepaaDoor
