/- ParseOrder, the mathematics: a row of signs, lexed and parsed. -/
import Derived.Test.YtbikifibfaaggaaGreatDoorPManyM
import Derived.Test.YtbikifibfaaggaaGreatDoorLMath4
namespace Go.Proofs.YtbikifibfaaggaaGreatDoor
namespace Px
open Lx (Tok Tx)
def sg : Nat → UInt8 | 0 => 43 | 1 => 45 | 2 => 42 | 3 => 47 | _ => 37
def pcb : Nat → UInt8 | 0 => 50 | 1 => 51 | 2 => 52 | 3 => 53 | 4 => 54 | 5 => 55 | 6 => 56 | 7 => 57 | 8 => 97 | 9 => 98 | 10 => 99 | 11 => 100 | 12 => 101 | _ => 102
def pkd (i : Nat) : Nat := if i < 8 then 1 else 0
def pcEx (i : Nat) : Ex := if i < 8 then .num (i + 2) else .var [pcb i]
def opsT : Nat → List Nat → Tx
  | _, [] => []
  | i, c :: r => 32 :: sg c :: 32 :: pcb i :: opsT (i + 1) r
theorem opsT_len : ∀ (cs : List Nat) (i : Nat), (opsT i cs).length = 4 * cs.length
  | [], _ => rfl
  | c :: r, i => by simp only [opsT, List.length_cons, opsT_len r]; omega
theorem opsT_snoc : ∀ (cs : List Nat) (i c : Nat), opsT i (cs ++ [c]) = opsT i cs ++ [32, sg c, 32, pcb (i + cs.length)]
  | [], i, c => rfl
  | d :: r, i, c => by
    simp only [opsT, List.cons_append, opsT_snoc r, List.length_cons]
    rw [show i + 1 + r.length = i + (r.length + 1) by omega]
def rowO : Nat → Nat → List Nat → List Tok
  | _, _, [] => []
  | p, i, c :: r => ⟨2, [sg c], p + 1⟩ :: ⟨pkd i, [pcb i], p + 3⟩ :: rowO (p + 4) (i + 1) r
/-- What follows doesn't go on a word. -/
def Ends (t : Tx) : Prop := ∃ u, t = 32 :: u ∨ t = 59 :: u
theorem lx_pc (i : Nat) (hi : i < 14) (t : Tx) (ht : Ends t) (f p : Nat) (acc : List Tok) : lexF (f + 1) ([pcb i] ++ t) p acc = lexF f t (p + 1) (acc ++ [⟨pkd i, [pcb i], p⟩]) := by
  have key : Lx.pieceLen ([pcb i] ++ t) = 1 ∧ Lx.judge [pcb i] = (some (pkd i), 0) := by
    obtain ⟨u, rfl | rfl⟩ := ht
    all_goals
      match i, hi with
      | 0, _ => exact ⟨rfl, rfl⟩
      | 1, _ => exact ⟨rfl, rfl⟩
      | 2, _ => exact ⟨rfl, rfl⟩
      | 3, _ => exact ⟨rfl, rfl⟩
      | 4, _ => exact ⟨rfl, rfl⟩
      | 5, _ => exact ⟨rfl, rfl⟩
      | 6, _ => exact ⟨rfl, rfl⟩
      | 7, _ => exact ⟨rfl, rfl⟩
      | 8, _ => exact ⟨rfl, rfl⟩
      | 9, _ => exact ⟨rfl, rfl⟩
      | 10, _ => exact ⟨rfl, rfl⟩
      | 11, _ => exact ⟨rfl, rfl⟩
      | 12, _ => exact ⟨rfl, rfl⟩
      | 13, _ => exact ⟨rfl, rfl⟩
  rw [lexF_piece (k := some (pkd i)) (by simp) key.1 key.2]
  rfl
theorem lx_sg (c : Nat) (t : Tx) (f p : Nat) (acc : List Tok) : lexF (f + 1) ([sg c] ++ t) p acc = lexF f t (p + 1) (acc ++ [⟨2, [sg c], p⟩]) := by
  have key : Lx.pieceLen ([sg c] ++ t) = 1 ∧ Lx.judge [sg c] = (some 2, 0) := by
    match c with
    | 0 => exact ⟨one_len t rfl rfl (no2 43 (by decide)), rfl⟩
    | 1 => exact ⟨one_len t rfl rfl (no2 45 (by decide)), rfl⟩
    | 2 => exact ⟨one_len t rfl rfl (no2 42 (by decide)), rfl⟩
    | 3 => exact ⟨one_len t rfl rfl (no2 47 (by decide)), rfl⟩
    | n + 4 => exact ⟨one_len t rfl rfl (no2 37 (by decide)), rfl⟩
  rw [lexF_piece (k := some 2) (by simp) key.1 key.2]
  rfl
theorem lx_sp (t : Tx) (f p : Nat) (acc : List Tok) : lexF (f + 1) ([32] ++ t) p acc = lexF f t (p + 1) acc := by
  rw [lexF_piece (k := none) (by simp) (one_len t rfl rfl (no2 32 (by decide))) rfl]
  rfl
theorem ends_ops (cs : List Nat) (i : Nat) {t : Tx} (ht : Ends t) : Ends (opsT i cs ++ t) := by
  cases cs with
  | nil => exact ht
  | cons c r => exact ⟨_, .inl rfl⟩
theorem lx_ops : ∀ (cs : List Nat) (i f p : Nat) (acc : List Tok) (t : Tx), i + cs.length ≤ 14 → Ends t → lexF (f + 4 * cs.length) (opsT i cs ++ t) p acc = lexF f t (p + 4 * cs.length) (acc ++ rowO p i cs)
  | [], i, f, p, acc, t, _, _ => by simp [opsT, rowO]
  | c :: r, i, f, p, acc, t, hl, ht => by
    simp only [List.length_cons] at hl
    have e : opsT i (c :: r) ++ t = [32] ++ ([sg c] ++ ([32] ++ ([pcb i] ++ (opsT (i + 1) r ++ t)))) := rfl
    rw [e, List.length_cons, show f + 4 * (r.length + 1) = (f + 4 * r.length) + 1 + 1 + 1 + 1 by omega, lx_sp, lx_sg, lx_sp, lx_pc i (by omega) _ (ends_ops _ _ ht), lx_ops r (i + 1) f _ _ t (by omega) ht]
    rw [rowO, List.append_assoc, List.append_assoc, show p + 1 + 1 + 1 + 1 + 4 * r.length = p + 4 * (r.length + 1) by omega]
    rfl
def obeg : Tx := [102, 110, 32, 102, 40, 41, 32, 123, 32, 114, 101, 116, 117, 114, 110, 32, 49]
def obegT : List Tok := [⟨0, [102, 110], 0⟩, ⟨0, [102], 3⟩, ⟨2, [40], 4⟩, ⟨2, [41], 5⟩, ⟨2, [123], 7⟩, ⟨0, [114, 101, 116, 117, 114, 110], 9⟩, ⟨1, [49], 16⟩]
theorem lx_obeg (f : Nat) (t : Tx) (ht : Ends t) : lexF (f + 11) (obeg ++ t) 0 [] = lexF f t 17 obegT := by
  obtain ⟨u, rfl | rfl⟩ := ht
  all_goals
    rw [show (obeg ++ _ : Tx) = [102, 110] ++ ([32] ++ ([102] ++ ([40] ++ ([41] ++ ([32] ++ ([123] ++ ([32] ++ ([114, 101, 116, 117, 114, 110] ++ ([32] ++ ([49] ++ _)))))))))) from rfl]
    rw [lexF_piece (k := some 0) (by simp) rfl rfl, lexF_piece (k := none) (by simp) rfl rfl, lexF_piece (k := some 0) (by simp) rfl rfl, lexF_piece (k := some 2) (by simp) rfl rfl, lexF_piece (k := some 2) (by simp) rfl rfl, lexF_piece (k := none) (by simp) rfl rfl, lexF_piece (k := some 2) (by simp) rfl rfl, lexF_piece (k := none) (by simp) rfl rfl, lexF_piece (k := some 0) (by simp) rfl rfl, lexF_piece (k := none) (by simp) rfl rfl, lexF_piece (k := some 1) (by simp) rfl rfl]
    rfl
def otext (cs : List Nat) : Tx := obeg ++ (opsT 0 cs ++ [59, 32, 125])
def otoks (cs : List Nat) : List Tok := obegT ++ (rowO 17 0 cs ++ [⟨2, [59], 17 + 4 * cs.length⟩, ⟨2, [125], 17 + 4 * cs.length + 2⟩])
theorem otext_len (cs : List Nat) : (otext cs).length = 20 + 4 * cs.length := by
  unfold otext
  rw [List.length_append, List.length_append, opsT_len]
  simp [obeg]; omega
theorem otext_lex (cs : List Nat) (h : cs.length ≤ 12) : Lx.toks (otext cs) = ⟨otoks cs, 0, 0⟩ := by
  rw [toks_run _ (by rw [otext_len]; omega), otext_len]
  have ht : Ends ([59, 32, 125] : Tx) := ⟨_, .inr rfl⟩
  unfold otext
  rw [show 20 + 4 * cs.length + 1 = (6 + 4 + 4 * cs.length) + 11 by omega, lx_obeg _ _ (ends_ops _ _ ht), lx_ops cs 0 (6 + 4) 17 _ _ (by omega) ht]
  obtain ⟨p, hp⟩ : ∃ p, p = 17 + 4 * cs.length := ⟨_, rfl⟩
  have e : otoks cs = (obegT ++ rowO 17 0 cs) ++ [⟨2, [59], p⟩, ⟨2, [125], p + 2⟩] := by rw [hp, List.append_assoc]; rfl
  rw [e, ← hp]
  obtain ⟨acc, _⟩ : ∃ a, a = obegT ++ rowO 17 0 cs := ⟨_, rfl⟩
  show lexF (7 + 3) _ _ _ = _
  rw [show ([59, 32, 125] : Tx) = [59] ++ ([32] ++ ([125] ++ [])) from rfl, lexF_piece (k := some 2) (by simp) rfl rfl, lexF_piece (k := none) (by simp) rfl rfl, lexF_piece (k := some 2) (by simp) rfl rfl]
  simp [lexF, Lx.addTok]
/-! The parts. -/
def clo : Option (Ex × Nat) → Ex → Ex | none, b => b | some (x, k), b => .bin k x b
def goT : Option (Ex × Nat) → Ex → Nat → List Nat → Ex
  | acc, a, _, [] => clo acc a
  | acc, a, i, c :: r => if 2 ≤ c then goT acc (.bin (c + 2) a (pcEx i)) (i + 1) r else goT (some (clo acc a, c + 2)) (pcEx i) (i + 1) r
theorem un_pc (i : Nat) (hi : i < 14) (f o p : Nat) (r : List Tok) : un (f + 1) o (⟨pkd i, [pcb i], p⟩ :: r) = .ok (pcEx i) r := by
  match i, hi with
  | 0, _ => rw [un]; rfl
  | 1, _ => rw [un]; rfl
  | 2, _ => rw [un]; rfl
  | 3, _ => rw [un]; rfl
  | 4, _ => rw [un]; rfl
  | 5, _ => rw [un]; rfl
  | 6, _ => rw [un]; rfl
  | 7, _ => rw [un]; rfl
  | 8, _ => rw [un]; rfl
  | 9, _ => rw [un]; rfl
  | 10, _ => rw [un]; rfl
  | 11, _ => rw [un]; rfl
  | 12, _ => rw [un]; rfl
  | 13, _ => rw [un]; rfl
theorem mul_sg (c : Nat) (hc : c < 5) (p : Nat) (r : List Tok) : mulOp (⟨2, [sg c], p⟩ :: r) = if 2 ≤ c then some (c + 2) else none := by
  match c, hc with
  | 0, _ => rfl
  | 1, _ => rfl
  | 2, _ => rfl
  | 3, _ => rfl
  | 4, _ => rfl
theorem add_sg (c : Nat) (hc : c < 2) (p : Nat) (r : List Tok) : addOp (⟨2, [sg c], p⟩ :: r) = some (c + 2) := by
  match c, hc with
  | 0, _ => rfl
  | 1, _ => rfl
theorem ord_go (o : Nat) : ∀ (cs : List Nat) (i p f g : Nat) (acc : Option (Ex × Nat)) (a : Ex) (rest : List Tok), (∀ c ∈ cs, c < 5) → i + cs.length ≤ 14 → 2 * cs.length + 2 ≤ f → 3 * cs.length + 3 ≤ g → mulOp rest = none → addOp rest = none →
    ((prodL f o a (rowO p i cs ++ rest)).bind fun b r => sumL g o (clo acc b) r) = .ok (goT acc a i cs) rest
  | [], i, p, f, g, acc, a, rest, _, _, hf, hg, hm, ha => by
    obtain ⟨f, rfl⟩ : ∃ x, f = x + 1 := ⟨f - 1, by omega⟩
    obtain ⟨g, rfl⟩ : ∃ x, g = x + 1 := ⟨g - 1, by omega⟩
    rw [rowO, List.nil_append, prodL, hm]
    simp only [R.bind]
    rw [sumL, ha]
    rfl
  | c :: cs, i, p, f, g, acc, a, rest, hc5, hl, hf, hg, hm, ha => by
    simp only [List.length_cons] at hl hf hg
    have hc := hc5 c (List.mem_cons_self ..)
    have hcs : ∀ x ∈ cs, x < 5 := fun x hx => hc5 x (List.mem_cons_of_mem _ hx)
    obtain ⟨f, rfl⟩ : ∃ x, f = x + 2 := ⟨f - 2, by omega⟩
    obtain ⟨g, rfl⟩ : ∃ x, g = x + 3 := ⟨g - 3, by omega⟩
    rw [rowO, List.cons_append, List.cons_append]
    by_cases h2 : 2 ≤ c
    · have ih := ord_go o cs (i + 1) (p + 4) (f + 1) (g + 3) acc (.bin (c + 2) a (pcEx i)) rest hcs (by omega) (by omega) (by omega) hm ha
      have e : goT acc a i (c :: cs) = goT acc (.bin (c + 2) a (pcEx i)) (i + 1) cs := by rw [goT, if_pos h2]
      rw [e, ← ih, prodL, mul_sg c hc, if_pos h2]
      simp only [List.tail_cons]
      rw [un_pc i (by omega)]
    · have ih := ord_go o cs (i + 1) (p + 4) (g + 1) (g + 2) (some (clo acc a, c + 2)) (pcEx i) rest hcs (by omega) (by omega) (by omega) hm ha
      have e : goT acc a i (c :: cs) = goT (some (clo acc a, c + 2)) (pcEx i) (i + 1) cs := by rw [goT, if_neg h2]
      rw [e, ← ih, prodL, mul_sg c hc, if_neg h2]
      simp only [R.bind]
      rw [sumL, add_sg c (by omega)]
      simp only [List.tail_cons]
      rw [prod, un_pc i (by omega)]
      dsimp only
      cases prodL (g + 1) o (pcEx i) (rowO (p + 4) (i + 1) cs ++ rest) <;> rfl
theorem ord_sum (o f p : Nat) (cs : List Nat) (rest : List Tok) (hc : ∀ c ∈ cs, c < 5) (hl : cs.length ≤ 12) (hf : 3 * cs.length + 10 ≤ f) (hm : mulOp rest = none) (ha : addOp rest = none) :
    sum f o (⟨1, [49], p⟩ :: (rowO (p + 1) 0 cs ++ rest)) = .ok (goT none (.num 1) 0 cs) rest := by
  obtain ⟨f, rfl⟩ : ∃ x, f = x + 3 := ⟨f - 3, by omega⟩
  rw [← ord_go o cs 0 (p + 1) (f + 1) (f + 2) none (.num 1) rest hc (by omega) (by omega) (by omega) hm ha, sum, prod]
  rw [show un (f + 1) o (⟨1, [49], p⟩ :: (rowO (p + 1) 0 cs ++ rest)) = .ok (.num 1) (rowO (p + 1) 0 cs ++ rest) from by rw [un]; rfl]
  simp only
  cases prodL (f + 1) o (.num 1) (rowO (p + 1) 0 cs ++ rest) <;> rfl
def ofn (cs : List Nat) : Fn := ⟨[102], [], [], [.mk 9 [] [] (some (goT none (.num 1) 0 cs)) none none [] [] [] 0]⟩
theorem ord_func (cs : List Nat) (hc : ∀ c ∈ cs, c < 5) (hl : cs.length ≤ 12) : funcT (otext cs) = ⟨some (ofn cs, 1), 0, 0⟩ := by
  unfold funcT
  rw [otext_lex cs hl]
  simp only [if_true]
  obtain ⟨F, hF⟩ : ∃ F, F = fuelOf (otoks cs) := ⟨_, rfl⟩
  have hF2 : 3 * cs.length + 20 ≤ F := by
    rw [hF]; unfold fuelOf otoks
    have : (rowO 17 0 cs).length = 2 * cs.length := by
      clear hF hl hc
      have key : ∀ (cs : List Nat) (p i : Nat), (rowO p i cs).length = 2 * cs.length := by
        intro cs
        induction cs with
        | nil => intro p i; rfl
        | cons c r ih => intro p i; simp only [rowO, List.length_cons, ih]; omega
      exact key _ _ _
    simp only [List.length_append, this, obegT, List.length_cons, List.length_nil]
    omega
  rw [← hF]
  obtain ⟨f, rfl⟩ : ∃ x, F = x + 6 := ⟨F - 6, by omega⟩
  obtain ⟨q, hq⟩ : ∃ q, q = 17 + 4 * cs.length := ⟨_, rfl⟩
  have hs := ord_sum 1 (f + 4) 16 cs [⟨2, [59], q⟩, ⟨2, [125], q + 2⟩] hc hl (by omega) rfl rfl
  have e : otoks cs = ⟨0, [102, 110], 0⟩ :: ⟨0, [102], 3⟩ :: ⟨2, [40], 4⟩ :: ⟨2, [41], 5⟩ :: ⟨2, [123], 7⟩ :: ⟨0, [114, 101, 116, 117, 114, 110], 9⟩ :: ⟨1, [49], 16⟩ :: (rowO 17 0 cs ++ [⟨2, [59], q⟩, ⟨2, [125], q + 2⟩]) := by rw [hq]; rfl
  rw [e]
  have h1 : stmt (f + 5) 1 0 (⟨0, [114, 101, 116, 117, 114, 110], 9⟩ :: ⟨1, [49], 16⟩ :: (rowO 17 0 cs ++ [⟨2, [59], q⟩, ⟨2, [125], q + 2⟩])) = .ok (.mk 9 [] [] (some (goT none (.num 1) 0 cs)) none none [] [] [] 0, 1) [⟨2, [125], q + 2⟩] := by
    rw [stmt, if_pos (by rfl), if_neg (by omega), if_neg (by simp [sees, txt]), if_neg (by simp [sees, txt]), simple, if_pos (by rfl), List.tail_cons, hs]
    rfl
  have h2 : stmts (f + 6) 1 0 [] (⟨0, [114, 101, 116, 117, 114, 110], 9⟩ :: ⟨1, [49], 16⟩ :: (rowO 17 0 cs ++ [⟨2, [59], q⟩, ⟨2, [125], q + 2⟩])) = .ok ([.mk 9 [] [] (some (goT none (.num 1) 0 cs)) none none [] [] [] 0], 1) [⟨2, [125], q + 2⟩] := by
    rw [stmts, if_neg (by simp [sees, txt]), h1, bind_ok, stmts, if_pos (by rfl)]
    rfl
  have h3 : localsL (f + 6) [] (⟨0, [114, 101, 116, 117, 114, 110], 9⟩ :: ⟨1, [49], 16⟩ :: (rowO 17 0 cs ++ [⟨2, [59], q⟩, ⟨2, [125], q + 2⟩])) = .ok [] (⟨0, [114, 101, 116, 117, 114, 110], 9⟩ :: ⟨1, [49], 16⟩ :: (rowO 17 0 cs ++ [⟨2, [59], q⟩, ⟨2, [125], q + 2⟩])) := by
    rw [localsL]
    rfl
  have h4 : inner (f + 6) 1 (⟨0, [114, 101, 116, 117, 114, 110], 9⟩ :: ⟨1, [49], 16⟩ :: (rowO 17 0 cs ++ [⟨2, [59], q⟩, ⟨2, [125], q + 2⟩])) = .ok (([], [.mk 9 [] [] (some (goT none (.num 1) 0 cs)) none none [] [] [] 0]), 1) [⟨2, [125], q + 2⟩] := by
    rw [inner, h3]
    simp only [R.bind]
    rw [h2]
  have h5 : funcR (f + 6) (⟨0, [102, 110], 0⟩ :: ⟨0, [102], 3⟩ :: ⟨2, [40], 4⟩ :: ⟨2, [41], 5⟩ :: ⟨2, [123], 7⟩ :: ⟨0, [114, 101, 116, 117, 114, 110], 9⟩ :: ⟨1, [49], 16⟩ :: (rowO 17 0 cs ++ [⟨2, [59], q⟩, ⟨2, [125], q + 2⟩])) = .ok (ofn cs, 1) [] := by
    rw [funcR]
    simp [want, passR, sees, txt, nameR, isName, words, params, paramsL, R.bind, h4]
    rfl
  rw [h5]
  rfl
/-! The texts. -/
def sgT (k : Nat) : Tx := [sg (k - 2)]
def wholeT : Ex → Tx
  | .num n => Lx.dec n
  | .var s => s
  | .bin k a b => [40] ++ wholeT a ++ sgT k ++ wholeT b ++ [41]
  | .neg _ => []
def cloS : Option (Tx × Tx) → Tx → Tx | none, b => b | some (x, k), b => [40] ++ x ++ k ++ b ++ [41]
def spS : Option (Tx × Tx) → Tx → Nat → List Nat → Tx
  | acc, a, _, [] => cloS acc a
  | acc, a, i, c :: r => if 2 ≤ c then spS acc ([40] ++ a ++ [sg c] ++ [pcb i] ++ [41]) (i + 1) r else spS (some (cloS acc a, [sg c])) [pcb i] (i + 1) r
def accS : Option (Ex × Nat) → Option (Tx × Tx) | none => none | some (x, k) => some (wholeT x, sgT k)
theorem whole_clo (acc : Option (Ex × Nat)) (a : Ex) : wholeT (clo acc a) = cloS (accS acc) (wholeT a) := by
  match acc with
  | none => rfl
  | some (x, k) => rfl
theorem whole_pc (i : Nat) (hi : i < 14) : wholeT (pcEx i) = [pcb i] := by
  match i, hi with
  | 0, _ => exact (by simp [pcEx, wholeT, Lx.dec]; rfl)
  | 1, _ => exact (by simp [pcEx, wholeT, Lx.dec]; rfl)
  | 2, _ => exact (by simp [pcEx, wholeT, Lx.dec]; rfl)
  | 3, _ => exact (by simp [pcEx, wholeT, Lx.dec]; rfl)
  | 4, _ => exact (by simp [pcEx, wholeT, Lx.dec]; rfl)
  | 5, _ => exact (by simp [pcEx, wholeT, Lx.dec]; rfl)
  | 6, _ => exact (by simp [pcEx, wholeT, Lx.dec]; rfl)
  | 7, _ => exact (by simp [pcEx, wholeT, Lx.dec]; rfl)
  | 8, _ => rfl
  | 9, _ => rfl
  | 10, _ => rfl
  | 11, _ => rfl
  | 12, _ => rfl
  | 13, _ => rfl
theorem whole_go : ∀ (cs : List Nat) (i : Nat) (acc : Option (Ex × Nat)) (a : Ex), i + cs.length ≤ 14 → wholeT (goT acc a i cs) = spS (accS acc) (wholeT a) i cs
  | [], i, acc, a, _ => whole_clo acc a
  | c :: r, i, acc, a, h => by
    simp only [List.length_cons] at h
    rw [goT, spS]
    by_cases h2 : 2 ≤ c
    · rw [if_pos h2, if_pos h2, whole_go r _ _ _ (by omega)]
      rw [wholeT, whole_pc i (by omega)]
      rfl
    · rw [if_neg h2, if_neg h2, whole_go r _ _ _ (by omega), whole_pc i (by omega)]
      rw [accS, whole_clo]
      rfl
end Px
end Go.Proofs.YtbikifibfaaggaaGreatDoor
