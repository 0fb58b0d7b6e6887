/- ParseDeep. -/
import Derived.Test.YtllnebbcnbnbmaaGreatDoorPKnown
import Derived.Test.YtllnebbcnbnbmaaGreatDoorPDeepM
import Derived.IntWalk
namespace Go.Proofs.YtllnebbcnbnbmaaGreatDoor
open Go.RowKit Go.Shelf
open Lx (Tok Tx)
namespace Px
theorem deep_ok (h k : Nat) (hh : h < 4) (h1 : 36 ≤ k) (h2 : k < 44) : deepOk h k = true := by
  have ha : deepAll h = true := by
    match h, hh with
    | 0, _ => exact deep0
    | 1, _ => exact deep1
    | 2, _ => exact deep2
    | 3, _ => exact deep3
  simp only [deepAll, Bool.and_eq_true] at ha
  obtain ⟨a, b, c, d, e, f, g, i⟩ := ha
  have : k = 36 ∨ k = 37 ∨ k = 38 ∨ k = 39 ∨ k = 40 ∨ k = 41 ∨ k = 42 ∨ k = 43 := by omega
  rcases this with rfl | rfl | rfl | rfl | rfl | rfl | rfl | rfl <;> assumption
theorem deep_len (h k : Nat) (h2 : k < 44) : (deep h k).length ≤ 4096 := by
  unfold deep
  split <;> simp only [List.length_append, rep_len, dpre, List.length_cons, List.length_nil] <;> omega
theorem deep_no (h k : Nat) (hh : h < 4) (h1 : 40 ≤ k) (h2 : k < 44) : funcT (deep h k) = ⟨none, deepAt h, 52⟩ := by
  have hk := deep_ok h k hh (by omega) h2
  rw [funcT_run _ (deep_len h k h2)]
  unfold deepOk at hk
  obtain ⟨o, ho⟩ : ∃ o, o = runF (deep h k) := ⟨_, rfl⟩
  rw [← ho] at hk ⊢
  obtain ⟨v, p, e⟩ := o
  cases v with
  | none =>
    simp only [Bool.and_eq_true, Nat.beq_eq] at hk
    obtain ⟨_, rfl, rfl⟩ := hk
    rfl
  | some fn =>
    simp only [Bool.and_eq_true, Nat.blt_eq] at hk
    omega
theorem deep_yes (h k : Nat) (hh : h < 4) (h1 : 36 ≤ k) (h2 : k < 40) : ∃ f n p, funcT (deep h k) = ⟨some (f, n), p, 0⟩ ∧ f.body.length = 1 := by
  have hk := deep_ok h k hh (by omega) (by omega)
  rw [funcT_run _ (deep_len h k (by omega))]
  unfold deepOk at hk
  obtain ⟨o, ho⟩ : ∃ o, o = runF (deep h k) := ⟨_, rfl⟩
  rw [← ho] at hk ⊢
  obtain ⟨v, p, e⟩ := o
  cases v with
  | none =>
    simp only [Bool.and_eq_true, Nat.blt_eq] at hk
    omega
  | some fn =>
    simp only [Bool.and_eq_true, Nat.beq_eq] at hk
    obtain ⟨_, rfl, h3⟩ := hk
    exact ⟨fn.1, fn.2, p, rfl, h3⟩
end Px
theorem strO_cat (a b : List UInt8) : strO a ++ strO b = strO (a ++ b) := by
  apply ByteArray.ext
  simp [strO]
theorem nat_u8 {n : Int} (wf : (Lit.int .u8 n).wf = true) : ∃ m : Nat, n = (m : Int) ∧ m < 256 := by
  have hb : 0 ≤ n ∧ n ≤ 255 := by
    simpa [Lit.wf, IntKind.min, IntKind.max, IntKind.bits, IntKind.signed] using wf
  exact ⟨n.toNat, by omega, by omega⟩
set_option maxHeartbeats 1000000 in
theorem times_any (w : World) (l : Tx) (n : Nat) (hn : n ≤ 300) (hl : l.length ≤ 100) :
    Calls Tryz.prog 21 #[.string (strO l), .int .i64 (n : Int)] w fun e w' => e = .returned (.string (strO (Px.rep l n))) ∧ w = w' := by
  have HSL := Lib.hid (strO_len l)
  have HR : Hid (∀ j, strO (Px.rep l j) ++ strO l = strO (Px.rep l (j + 1))) := Lib.hid fun j => by rw [strO_cat]; rfl
  have HL : Hid (∀ j, (strO (Px.rep l j)).size = j * l.length) := Lib.hid fun j => by rw [strO_len, Px.rep_len]
  obtain ⟨s, hs⟩ : ∃ s, s = strO l := ⟨_, rfl⟩
  rw [← hs] at HSL HR ⊢
  clear hs
  go_enter Tryz.func21, Tryz.ntmps21
  go_wp2_with fail
  go_loopw [5, 6] (fun tv iv wq => ∃ j : Nat, j ≤ n ∧ tv = .string (strO (Px.rep l j)) ∧ iv = .int .i64 (j : Int) ∧ wq = w) (fun _ iv _ => n - (intOf iv).toNat)
  case atStart => exact ⟨0, Nat.zero_le _, rfl, rfl, rfl⟩
  case round =>
    obtain ⟨j, hj, rfl, rfl, rfl⟩ := hrel
    have hz := HL.out j
    have hr := HR.out j
    have hzz : j * l.length ≤ 30000 := Nat.le_trans (Nat.mul_le_mul (Nat.le_trans hj hn) hl) (by omega)
    have hsz := HSL.out
    by_cases hjn : j < n
    · obtain ⟨t, ht⟩ : ∃ t, t = strO (Px.rep l j) := ⟨_, rfl⟩
      rw [← ht] at hz hr ⊢
      obtain ⟨z, hzd⟩ : ∃ z, z = j * l.length := ⟨_, rfl⟩
      rw [← hzd] at hz hzz
      clear ht hzd
      go_wp2_with fail
      go_roundw
      case rel => exact ⟨j + 1, by omega, rfl, by go_num, trivial⟩
      case measure => simp [intOf]; omega
    · obtain rfl : n = j := by omega
      obtain ⟨t, ht⟩ : ∃ t, t = strO (Px.rep l n) := ⟨_, rfl⟩
      rw [← ht] at hz hr ⊢
      have HT := Lib.hid ht
      clear ht
      go_wp2_with fail
      go_ret
      exact ⟨congrArg (fun x => Ending.returned (Value.string x)) HT.out, rfl⟩
set_option maxHeartbeats 4000000 in
set_option maxRecDepth 100000 in
theorem deep_any0 (w : World) (he : ErrAt w) (bn cn : Nat) (hb : bn < 256) (hc : cn < 256) (hh : cn % 4 = 0) :
    Calls Tryz.prog 6 #[.int .u8 (bn : Int), .int .u8 (cn : Int)] w (Yes w) := by
  have HK0 := Lib.hid (pknown_any w he)
  have HE := Lib.hid he
  obtain ⟨m8, h8⟩ : ∃ m, m = bn % 8 := ⟨_, rfl⟩
  have r8 : ((bn : Nat) : Int) % 8 = (m8 : Int) := by omega
  have t8 : ((bn : Nat) : Int).tmod 8 = (m8 : Int) := by rw [Int.tmod_eq_emod_of_nonneg (by omega)]; omega
  have r4 : ((cn : Nat) : Int) % 4 = 0 := by omega
  have t4 : ((cn : Nat) : Int).tmod 4 = 0 := by rw [Int.tmod_eq_emod_of_nonneg (by omega)]; omega
  obtain ⟨k, hk⟩ : ∃ k, k = 36 + m8 := ⟨_, rfl⟩
  have e36 : (36 : Int) + (m8 : Int) = (k : Int) := by omega
  have hm8 : m8 < 8 := by omega
  have hk1 : 36 ≤ k := by omega
  have hk2 : k < 44 := by omega
  have HT0 := Lib.hid (fun w' => times_any w' [40] k (by omega) (by decide))
  obtain ⟨s0, hs0⟩ : ∃ s, s = strO (Px.rep [40] k) := ⟨_, rfl⟩
  have hz0 : s0.size ≤ 1000 := by rw [hs0, strO_len, Px.rep_len]; simp only [List.length_cons, List.length_nil]; omega
  rw [← hs0, show strO [40] = (⟨#[40]⟩ : ByteArray) from rfl] at HT0
  have HT1 := Lib.hid (fun w' => times_any w' [41] k (by omega) (by decide))
  obtain ⟨s1, hs1⟩ : ∃ s, s = strO (Px.rep [41] k) := ⟨_, rfl⟩
  have hz1 : s1.size ≤ 1000 := by rw [hs1, strO_len, Px.rep_len]; simp only [List.length_cons, List.length_nil]; omega
  rw [← hs1, show strO [41] = (⟨#[41]⟩ : ByteArray) from rfl] at HT1
  have hstr : (((((⟨#[102, 110, 32, 102, 40, 41, 32, 123, 32, 120, 32, 61, 32]⟩ : ByteArray) ++ s0) ++ (⟨#[49]⟩ : ByteArray)) ++ s1) ++ (⟨#[59, 32, 125]⟩ : ByteArray)) = strO (Px.deep 0 k) := by
    rw [hs0, hs1, show (⟨#[102, 110, 32, 102, 40, 41, 32, 123, 32, 120, 32, 61, 32]⟩ : ByteArray) = strO [102, 110, 32, 102, 40, 41, 32, 123, 32, 120, 32, 61, 32] from rfl, show (⟨#[49]⟩ : ByteArray) = strO [49] from rfl, show (⟨#[59, 32, 125]⟩ : ByteArray) = strO [59, 32, 125] from rfl, strO_cat, strO_cat, strO_cat, strO_cat]; rfl
  have HF := Lib.hid (fun w' (h : ErrAt w') => func_any w' (Px.deep 0 k) (by have := Px.deep_len 0 k hk2; omega) h)
  rw [← hstr] at HF
  clear h8 hk hstr he hb hc hh
  by_cases h40 : 40 ≤ k
  · rw [Px.deep_no 0 k (by omega) h40 hk2] at HF
    have hd : decide ((40 : Int) < (k : Int) + 1) = true := by simp; omega
    clear hs0 hs1
    go_enter Tryz.func6, Tryz.ntmps6
    go_wp2_with fail
    refine (HK0.out).mono ?_
    rintro e w1 ⟨rfl, hk3⟩
    have HK1 := Lib.hid hk3
    clear hk3
    go_wp2_with fail
    refine (HT0.out _).mono ?_
    rintro e w' ⟨rfl, rfl⟩
    go_wp2_with fail
    refine (HT1.out _).mono ?_
    rintro e w' ⟨rfl, rfl⟩
    go_wp2_with fail
    refine (HF.out _ (HE.out.keep HK1.out)).mono ?_
    rintro e w2 ⟨v, rfl, hk4, rfl⟩
    have HK2 := Lib.hid (HK1.out.trans hk4 (by simp))
    clear hk4
    simp only [Px.deepAt]
    go_wp2_with fail
    go_ret
    exact ⟨rfl, HK2.out.trans ((Keeps.refl [] w2).alloc _) (by simp)⟩
  · obtain ⟨f, n, p, hf, hbl⟩ := Px.deep_yes 0 k (by omega) hk1 (by omega)
    rw [hf] at HF
    have hd : decide ((40 : Int) < (k : Int) + 1) = false := by simp; omega
    clear hs0 hs1
    go_enter Tryz.func6, Tryz.ntmps6
    go_wp2_with fail
    refine (HK0.out).mono ?_
    rintro e w1 ⟨rfl, hk3⟩
    have HK1 := Lib.hid hk3
    clear hk3
    go_wp2_with fail
    refine (HT0.out _).mono ?_
    rintro e w' ⟨rfl, rfl⟩
    go_wp2_with fail
    refine (HT1.out _).mono ?_
    rintro e w' ⟨rfl, rfl⟩
    go_wp2_with fail
    refine (HF.out _ (HE.out.keep HK1.out)).mono ?_
    rintro e w2 ⟨v, rfl, hk4, b1, -, vp, vl, vb, rfl, hp, hl, B, ⟨cs, hown, -⟩, -⟩
    obtain ⟨A, c, hvb⟩ : ∃ A c, vb = .slice A f.body.length c := row_slice hown
    obtain ⟨Ap, cp, hvp⟩ : ∃ A c, vp = .slice A f.params.length c := hp.form
    obtain ⟨Al, cl, hvl⟩ : ∃ A c, vl = .slice A f.locals.length c := hl.form
    subst hvb hvp hvl
    obtain ⟨np, hnp⟩ : ∃ x, x = f.params.length := ⟨_, rfl⟩
    obtain ⟨nl, hnl⟩ : ∃ x, x = f.locals.length := ⟨_, rfl⟩
    rw [hbl, ← hnp, ← hnl]
    have HK2 := Lib.hid (HK1.out.trans hk4 (by simp))
    clear hk4 hown hp hl hnp hnl
    go_wp2_with fail
    go_ret
    exact ⟨rfl, HK2.out.trans ((Keeps.refl [] w2).alloc _) (by simp)⟩
set_option maxHeartbeats 4000000 in
set_option maxRecDepth 100000 in
theorem deep_any1 (w : World) (he : ErrAt w) (bn cn : Nat) (hb : bn < 256) (hc : cn < 256) (hh : cn % 4 = 1) :
    Calls Tryz.prog 6 #[.int .u8 (bn : Int), .int .u8 (cn : Int)] w (Yes w) := by
  have HK0 := Lib.hid (pknown_any w he)
  have HE := Lib.hid he
  obtain ⟨m8, h8⟩ : ∃ m, m = bn % 8 := ⟨_, rfl⟩
  have r8 : ((bn : Nat) : Int) % 8 = (m8 : Int) := by omega
  have t8 : ((bn : Nat) : Int).tmod 8 = (m8 : Int) := by rw [Int.tmod_eq_emod_of_nonneg (by omega)]; omega
  have r4 : ((cn : Nat) : Int) % 4 = 1 := by omega
  have t4 : ((cn : Nat) : Int).tmod 4 = 1 := by rw [Int.tmod_eq_emod_of_nonneg (by omega)]; omega
  obtain ⟨k, hk⟩ : ∃ k, k = 36 + m8 := ⟨_, rfl⟩
  have e36 : (36 : Int) + (m8 : Int) = (k : Int) := by omega
  have hm8 : m8 < 8 := by omega
  have hk1 : 36 ≤ k := by omega
  have hk2 : k < 44 := by omega
  have HT0 := Lib.hid (fun w' => times_any w' [45] k (by omega) (by decide))
  obtain ⟨s0, hs0⟩ : ∃ s, s = strO (Px.rep [45] k) := ⟨_, rfl⟩
  have hz0 : s0.size ≤ 1000 := by rw [hs0, strO_len, Px.rep_len]; simp only [List.length_cons, List.length_nil]; omega
  rw [← hs0, show strO [45] = (⟨#[45]⟩ : ByteArray) from rfl] at HT0
  have hstr : (((⟨#[102, 110, 32, 102, 40, 41, 32, 123, 32, 120, 32, 61, 32]⟩ : ByteArray) ++ s0) ++ (⟨#[49, 59, 32, 125]⟩ : ByteArray)) = strO (Px.deep 1 k) := by
    rw [hs0, show (⟨#[102, 110, 32, 102, 40, 41, 32, 123, 32, 120, 32, 61, 32]⟩ : ByteArray) = strO [102, 110, 32, 102, 40, 41, 32, 123, 32, 120, 32, 61, 32] from rfl, show (⟨#[49, 59, 32, 125]⟩ : ByteArray) = strO [49, 59, 32, 125] from rfl, strO_cat, strO_cat]; rfl
  have HF := Lib.hid (fun w' (h : ErrAt w') => func_any w' (Px.deep 1 k) (by have := Px.deep_len 1 k hk2; omega) h)
  rw [← hstr] at HF
  clear h8 hk hstr he hb hc hh
  by_cases h40 : 40 ≤ k
  · rw [Px.deep_no 1 k (by omega) h40 hk2] at HF
    have hd : decide ((40 : Int) < (k : Int) + 1) = true := by simp; omega
    clear hs0
    go_enter Tryz.func6, Tryz.ntmps6
    go_wp2_with fail
    refine (HK0.out).mono ?_
    rintro e w1 ⟨rfl, hk3⟩
    have HK1 := Lib.hid hk3
    clear hk3
    go_wp2_with fail
    refine (HT0.out _).mono ?_
    rintro e w' ⟨rfl, rfl⟩
    go_wp2_with fail
    refine (HF.out _ (HE.out.keep HK1.out)).mono ?_
    rintro e w2 ⟨v, rfl, hk4, rfl⟩
    have HK2 := Lib.hid (HK1.out.trans hk4 (by simp))
    clear hk4
    simp only [Px.deepAt]
    go_wp2_with fail
    go_ret
    exact ⟨rfl, HK2.out.trans ((Keeps.refl [] w2).alloc _) (by simp)⟩
  · obtain ⟨f, n, p, hf, hbl⟩ := Px.deep_yes 1 k (by omega) hk1 (by omega)
    rw [hf] at HF
    have hd : decide ((40 : Int) < (k : Int) + 1) = false := by simp; omega
    clear hs0
    go_enter Tryz.func6, Tryz.ntmps6
    go_wp2_with fail
    refine (HK0.out).mono ?_
    rintro e w1 ⟨rfl, hk3⟩
    have HK1 := Lib.hid hk3
    clear hk3
    go_wp2_with fail
    refine (HT0.out _).mono ?_
    rintro e w' ⟨rfl, rfl⟩
    go_wp2_with fail
    refine (HF.out _ (HE.out.keep HK1.out)).mono ?_
    rintro e w2 ⟨v, rfl, hk4, b1, -, vp, vl, vb, rfl, hp, hl, B, ⟨cs, hown, -⟩, -⟩
    obtain ⟨A, c, hvb⟩ : ∃ A c, vb = .slice A f.body.length c := row_slice hown
    obtain ⟨Ap, cp, hvp⟩ : ∃ A c, vp = .slice A f.params.length c := hp.form
    obtain ⟨Al, cl, hvl⟩ : ∃ A c, vl = .slice A f.locals.length c := hl.form
    subst hvb hvp hvl
    obtain ⟨np, hnp⟩ : ∃ x, x = f.params.length := ⟨_, rfl⟩
    obtain ⟨nl, hnl⟩ : ∃ x, x = f.locals.length := ⟨_, rfl⟩
    rw [hbl, ← hnp, ← hnl]
    have HK2 := Lib.hid (HK1.out.trans hk4 (by simp))
    clear hk4 hown hp hl hnp hnl
    go_wp2_with fail
    go_ret
    exact ⟨rfl, HK2.out.trans ((Keeps.refl [] w2).alloc _) (by simp)⟩
set_option maxHeartbeats 4000000 in
set_option maxRecDepth 100000 in
theorem deep_any2 (w : World) (he : ErrAt w) (bn cn : Nat) (hb : bn < 256) (hc : cn < 256) (hh : cn % 4 = 2) :
    Calls Tryz.prog 6 #[.int .u8 (bn : Int), .int .u8 (cn : Int)] w (Yes w) := by
  have HK0 := Lib.hid (pknown_any w he)
  have HE := Lib.hid he
  obtain ⟨m8, h8⟩ : ∃ m, m = bn % 8 := ⟨_, rfl⟩
  have r8 : ((bn : Nat) : Int) % 8 = (m8 : Int) := by omega
  have t8 : ((bn : Nat) : Int).tmod 8 = (m8 : Int) := by rw [Int.tmod_eq_emod_of_nonneg (by omega)]; omega
  have r4 : ((cn : Nat) : Int) % 4 = 2 := by omega
  have t4 : ((cn : Nat) : Int).tmod 4 = 2 := by rw [Int.tmod_eq_emod_of_nonneg (by omega)]; omega
  obtain ⟨k, hk⟩ : ∃ k, k = 36 + m8 := ⟨_, rfl⟩
  have e36 : (36 : Int) + (m8 : Int) = (k : Int) := by omega
  have hm8 : m8 < 8 := by omega
  have hk1 : 36 ≤ k := by omega
  have hk2 : k < 44 := by omega
  have HT0 := Lib.hid (fun w' => times_any w' [33] k (by omega) (by decide))
  obtain ⟨s0, hs0⟩ : ∃ s, s = strO (Px.rep [33] k) := ⟨_, rfl⟩
  have hz0 : s0.size ≤ 1000 := by rw [hs0, strO_len, Px.rep_len]; simp only [List.length_cons, List.length_nil]; omega
  rw [← hs0, show strO [33] = (⟨#[33]⟩ : ByteArray) from rfl] at HT0
  have hstr : (((⟨#[102, 110, 32, 102, 40, 41, 32, 123, 32, 97, 115, 115, 101, 114, 116, 32, 40]⟩ : ByteArray) ++ s0) ++ (⟨#[120, 32, 61, 61, 32, 49, 41, 59, 32, 125]⟩ : ByteArray)) = strO (Px.deep 2 k) := by
    rw [hs0, show (⟨#[102, 110, 32, 102, 40, 41, 32, 123, 32, 97, 115, 115, 101, 114, 116, 32, 40]⟩ : ByteArray) = strO [102, 110, 32, 102, 40, 41, 32, 123, 32, 97, 115, 115, 101, 114, 116, 32, 40] from rfl, show (⟨#[120, 32, 61, 61, 32, 49, 41, 59, 32, 125]⟩ : ByteArray) = strO [120, 32, 61, 61, 32, 49, 41, 59, 32, 125] from rfl, strO_cat, strO_cat]; rfl
  have HF := Lib.hid (fun w' (h : ErrAt w') => func_any w' (Px.deep 2 k) (by have := Px.deep_len 2 k hk2; omega) h)
  rw [← hstr] at HF
  clear h8 hk hstr he hb hc hh
  by_cases h40 : 40 ≤ k
  · rw [Px.deep_no 2 k (by omega) h40 hk2] at HF
    have hd : decide ((40 : Int) < (k : Int) + 1) = true := by simp; omega
    clear hs0
    go_enter Tryz.func6, Tryz.ntmps6
    go_wp2_with fail
    refine (HK0.out).mono ?_
    rintro e w1 ⟨rfl, hk3⟩
    have HK1 := Lib.hid hk3
    clear hk3
    go_wp2_with fail
    refine (HT0.out _).mono ?_
    rintro e w' ⟨rfl, rfl⟩
    go_wp2_with fail
    refine (HF.out _ (HE.out.keep HK1.out)).mono ?_
    rintro e w2 ⟨v, rfl, hk4, rfl⟩
    have HK2 := Lib.hid (HK1.out.trans hk4 (by simp))
    clear hk4
    simp only [Px.deepAt]
    go_wp2_with fail
    go_ret
    exact ⟨rfl, HK2.out.trans ((Keeps.refl [] w2).alloc _) (by simp)⟩
  · obtain ⟨f, n, p, hf, hbl⟩ := Px.deep_yes 2 k (by omega) hk1 (by omega)
    rw [hf] at HF
    have hd : decide ((40 : Int) < (k : Int) + 1) = false := by simp; omega
    clear hs0
    go_enter Tryz.func6, Tryz.ntmps6
    go_wp2_with fail
    refine (HK0.out).mono ?_
    rintro e w1 ⟨rfl, hk3⟩
    have HK1 := Lib.hid hk3
    clear hk3
    go_wp2_with fail
    refine (HT0.out _).mono ?_
    rintro e w' ⟨rfl, rfl⟩
    go_wp2_with fail
    refine (HF.out _ (HE.out.keep HK1.out)).mono ?_
    rintro e w2 ⟨v, rfl, hk4, b1, -, vp, vl, vb, rfl, hp, hl, B, ⟨cs, hown, -⟩, -⟩
    obtain ⟨A, c, hvb⟩ : ∃ A c, vb = .slice A f.body.length c := row_slice hown
    obtain ⟨Ap, cp, hvp⟩ : ∃ A c, vp = .slice A f.params.length c := hp.form
    obtain ⟨Al, cl, hvl⟩ : ∃ A c, vl = .slice A f.locals.length c := hl.form
    subst hvb hvp hvl
    obtain ⟨np, hnp⟩ : ∃ x, x = f.params.length := ⟨_, rfl⟩
    obtain ⟨nl, hnl⟩ : ∃ x, x = f.locals.length := ⟨_, rfl⟩
    rw [hbl, ← hnp, ← hnl]
    have HK2 := Lib.hid (HK1.out.trans hk4 (by simp))
    clear hk4 hown hp hl hnp hnl
    go_wp2_with fail
    go_ret
    exact ⟨rfl, HK2.out.trans ((Keeps.refl [] w2).alloc _) (by simp)⟩
set_option maxHeartbeats 4000000 in
set_option maxRecDepth 100000 in
theorem deep_any3 (w : World) (he : ErrAt w) (bn cn : Nat) (hb : bn < 256) (hc : cn < 256) (hh : cn % 4 = 3) :
    Calls Tryz.prog 6 #[.int .u8 (bn : Int), .int .u8 (cn : Int)] w (Yes w) := by
  have HK0 := Lib.hid (pknown_any w he)
  have HE := Lib.hid he
  obtain ⟨m8, h8⟩ : ∃ m, m = bn % 8 := ⟨_, rfl⟩
  have r8 : ((bn : Nat) : Int) % 8 = (m8 : Int) := by omega
  have t8 : ((bn : Nat) : Int).tmod 8 = (m8 : Int) := by rw [Int.tmod_eq_emod_of_nonneg (by omega)]; omega
  have r4 : ((cn : Nat) : Int) % 4 = 3 := by omega
  have t4 : ((cn : Nat) : Int).tmod 4 = 3 := by rw [Int.tmod_eq_emod_of_nonneg (by omega)]; omega
  obtain ⟨k, hk⟩ : ∃ k, k = 36 + m8 := ⟨_, rfl⟩
  have e36 : (36 : Int) + (m8 : Int) = (k : Int) := by omega
  have hm8 : m8 < 8 := by omega
  have hk1 : 36 ≤ k := by omega
  have hk2 : k < 44 := by omega
  have HT0 := Lib.hid (fun w' => times_any w' [105, 102, 32, 40, 120, 32, 61, 61, 32, 49, 41, 32, 123, 32] k (by omega) (by decide))
  obtain ⟨s0, hs0⟩ : ∃ s, s = strO (Px.rep [105, 102, 32, 40, 120, 32, 61, 61, 32, 49, 41, 32, 123, 32] k) := ⟨_, rfl⟩
  have hz0 : s0.size ≤ 1000 := by rw [hs0, strO_len, Px.rep_len]; simp only [List.length_cons, List.length_nil]; omega
  rw [← hs0, show strO [105, 102, 32, 40, 120, 32, 61, 61, 32, 49, 41, 32, 123, 32] = (⟨#[105, 102, 32, 40, 120, 32, 61, 61, 32, 49, 41, 32, 123, 32]⟩ : ByteArray) from rfl] at HT0
  have HT1 := Lib.hid (fun w' => times_any w' [125, 32] k (by omega) (by decide))
  obtain ⟨s1, hs1⟩ : ∃ s, s = strO (Px.rep [125, 32] k) := ⟨_, rfl⟩
  have hz1 : s1.size ≤ 1000 := by rw [hs1, strO_len, Px.rep_len]; simp only [List.length_cons, List.length_nil]; omega
  rw [← hs1, show strO [125, 32] = (⟨#[125, 32]⟩ : ByteArray) from rfl] at HT1
  have hstr : ((((⟨#[102, 110, 32, 102, 40, 41, 32, 123, 32]⟩ : ByteArray) ++ s0) ++ s1) ++ (⟨#[125]⟩ : ByteArray)) = strO (Px.deep 3 k) := by
    rw [hs0, hs1, show (⟨#[102, 110, 32, 102, 40, 41, 32, 123, 32]⟩ : ByteArray) = strO [102, 110, 32, 102, 40, 41, 32, 123, 32] from rfl, show (⟨#[125]⟩ : ByteArray) = strO [125] from rfl, strO_cat, strO_cat, strO_cat]; rfl
  have HF := Lib.hid (fun w' (h : ErrAt w') => func_any w' (Px.deep 3 k) (by have := Px.deep_len 3 k hk2; omega) h)
  rw [← hstr] at HF
  clear h8 hk hstr he hb hc hh
  by_cases h40 : 40 ≤ k
  · rw [Px.deep_no 3 k (by omega) h40 hk2] at HF
    have hd : decide ((40 : Int) < (k : Int) + 1) = true := by simp; omega
    clear hs0 hs1
    go_enter Tryz.func6, Tryz.ntmps6
    go_wp2_with fail
    refine (HK0.out).mono ?_
    rintro e w1 ⟨rfl, hk3⟩
    have HK1 := Lib.hid hk3
    clear hk3
    go_wp2_with fail
    refine (HT0.out _).mono ?_
    rintro e w' ⟨rfl, rfl⟩
    go_wp2_with fail
    refine (HT1.out _).mono ?_
    rintro e w' ⟨rfl, rfl⟩
    go_wp2_with fail
    refine (HF.out _ (HE.out.keep HK1.out)).mono ?_
    rintro e w2 ⟨v, rfl, hk4, rfl⟩
    have HK2 := Lib.hid (HK1.out.trans hk4 (by simp))
    clear hk4
    simp only [Px.deepAt]
    go_wp2_with fail
    go_ret
    exact ⟨rfl, HK2.out.trans ((Keeps.refl [] w2).alloc _) (by simp)⟩
  · obtain ⟨f, n, p, hf, hbl⟩ := Px.deep_yes 3 k (by omega) hk1 (by omega)
    rw [hf] at HF
    have hd : decide ((40 : Int) < (k : Int) + 1) = false := by simp; omega
    clear hs0 hs1
    go_enter Tryz.func6, Tryz.ntmps6
    go_wp2_with fail
    refine (HK0.out).mono ?_
    rintro e w1 ⟨rfl, hk3⟩
    have HK1 := Lib.hid hk3
    clear hk3
    go_wp2_with fail
    refine (HT0.out _).mono ?_
    rintro e w' ⟨rfl, rfl⟩
    go_wp2_with fail
    refine (HT1.out _).mono ?_
    rintro e w' ⟨rfl, rfl⟩
    go_wp2_with fail
    refine (HF.out _ (HE.out.keep HK1.out)).mono ?_
    rintro e w2 ⟨v, rfl, hk4, b1, -, vp, vl, vb, rfl, hp, hl, B, ⟨cs, hown, -⟩, -⟩
    obtain ⟨A, c, hvb⟩ : ∃ A c, vb = .slice A f.body.length c := row_slice hown
    obtain ⟨Ap, cp, hvp⟩ : ∃ A c, vp = .slice A f.params.length c := hp.form
    obtain ⟨Al, cl, hvl⟩ : ∃ A c, vl = .slice A f.locals.length c := hl.form
    subst hvb hvp hvl
    obtain ⟨np, hnp⟩ : ∃ x, x = f.params.length := ⟨_, rfl⟩
    obtain ⟨nl, hnl⟩ : ∃ x, x = f.locals.length := ⟨_, rfl⟩
    rw [hbl, ← hnp, ← hnl]
    have HK2 := Lib.hid (HK1.out.trans hk4 (by simp))
    clear hk4 hown hp hl hnp hnl
    go_wp2_with fail
    go_ret
    exact ⟨rfl, HK2.out.trans ((Keeps.refl [] w2).alloc _) (by simp)⟩
theorem pdeep_any (w : World) (he : ErrAt w) (n0 : Int) (wf0 : (Lit.int .u8 n0).wf = true) (n1 : Int) (wf1 : (Lit.int .u8 n1).wf = true) :
    Calls Tryz.prog 6 #[.int .u8 n0, .int .u8 n1] w (Yes w) := by
  obtain ⟨b, rfl, hb⟩ := nat_u8 wf0
  obtain ⟨c, rfl, hc⟩ := nat_u8 wf1
  have h4 : c % 4 = 0 ∨ c % 4 = 1 ∨ c % 4 = 2 ∨ c % 4 = 3 := by omega
  rcases h4 with h | h | h | h
  · exact deep_any0 w he b c hb hc h
  · exact deep_any1 w he b c hb hc h
  · exact deep_any2 w he b c hb hc h
  · exact deep_any3 w he b c hb hc h
end Go.Proofs.YtllnebbcnbnbmaaGreatDoor
