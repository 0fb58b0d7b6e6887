/- ParseOrder: what the signs spell. -/
import Derived.Test.YtbikifibfaaggaaGreatDoorPOrdB
namespace Go.Proofs.YtbikifibfaaggaaGreatDoor
open Go.RowKit Go.Shelf
open Lx (Tok Tx)
open Reg (Is Fact)
attribute [local go_sem] Reg.lateFr Reg.wantedV Reg.gives_value Reg.gives_skip Reg.gives_enter

namespace Px
/-- What stands behind i signs: the sums so far, their sign, the product that is open. -/
def spG (cs : List Nat) (i : Nat) : Option (Tx × Tx) × Tx :=
  (cs.take i).zipIdx.foldl (fun s p => if 2 ≤ p.1 then (s.1, [40] ++ s.2 ++ [sg p.1] ++ [pcb p.2] ++ [41]) else (some (cloS s.1 s.2, [sg p.1]), [pcb p.2])) (none, [49])
theorem spG_next (cs : List Nat) (i : Nat) (h : i < cs.length) : spG cs (i + 1) = if 2 ≤ cs[i] then ((spG cs i).1, [40] ++ (spG cs i).2 ++ [sg cs[i]] ++ [pcb i] ++ [41]) else (some (cloS (spG cs i).1 (spG cs i).2, [sg cs[i]]), [pcb i]) := by
  unfold spG
  rw [List.take_add_one, List.getElem?_eq_getElem h]
  simp only [Option.toList_some]
  rw [List.zipIdx_append, List.foldl_append, List.length_take, Nat.min_eq_left (by omega)]
  simp
theorem spS_from : ∀ (cs pre : List Nat), spS (spG (pre ++ cs) pre.length).1 (spG (pre ++ cs) pre.length).2 pre.length cs = cloS (spG (pre ++ cs) (pre ++ cs).length).1 (spG (pre ++ cs) (pre ++ cs).length).2
  | [], pre => by rw [List.append_nil]; rfl
  | c :: r, pre => by
    have hlt : pre.length < (pre ++ c :: r).length := by simp
    have hg : (pre ++ c :: r)[pre.length] = c := by simp
    have hn := spG_next (pre ++ c :: r) pre.length hlt
    have ih := spS_from r (pre ++ [c])
    have e1 : (pre ++ [c]) ++ r = pre ++ c :: r := by simp
    have e2 : (pre ++ [c]).length = pre.length + 1 := by simp
    rw [e1, e2] at ih
    rw [← ih, spS, hn, hg]
    by_cases h2 : 2 ≤ c
    · rw [if_pos h2, if_pos h2]
    · rw [if_neg h2, if_neg h2]
theorem spS_all (cs : List Nat) : spS none [49] 0 cs = cloS (spG cs cs.length).1 (spG cs cs.length).2 := spS_from cs []
theorem cloS_len (x k b : Tx) : (cloS (some (x, k)) b).length = x.length + k.length + b.length + 2 := by
  simp only [cloS, List.length_append, List.length_cons, List.length_nil]; omega
theorem spG_len (cs : List Nat) : ∀ (i : Nat), i ≤ cs.length → (cloS (spG cs i).1 (spG cs i).2).length ≤ 1 + 4 * i
  | 0, _ => by simp [spG, cloS]
  | i + 1, h => by
    have ih := spG_len cs i (by omega)
    rw [spG_next cs i (by omega)]
    by_cases h2 : 2 ≤ cs[i]
    · rw [if_pos h2]
      cases hs : (spG cs i).1 with
      | none => rw [hs] at ih; simp [cloS] at ih ⊢; omega
      | some p => obtain ⟨x, k⟩ := p; rw [hs] at ih; simp [cloS] at ih ⊢; omega
    · rw [if_neg h2, cloS_len]
      simp only [List.length_cons, List.length_nil]
      omega
theorem spG_sign (cs : List Nat) : ∀ (i : Nat), i ≤ cs.length → ∀ x k, (spG cs i).1 = some (x, k) → ∃ c, k = [sg c]
  | 0, _, x, k, h => by cases h
  | i + 1, hi, x, k, h => by
    rw [spG_next cs i (by omega)] at h
    by_cases h2 : 2 ≤ cs[i]
    · rw [if_pos h2] at h; exact spG_sign cs i (by omega) x k h
    · rw [if_neg h2] at h
      injection h with h
      injection h with _ h
      exact ⟨_, h.symm⟩
end Px
def accV (s : Option (Tx × Tx)) : ByteArray × ByteArray := match s with | none => (⟨#[]⟩, ⟨#[]⟩) | some (x, k) => (strO x, strO k)
def sig2 : List Value := [.string ⟨#[43]⟩, .string ⟨#[45]⟩]
theorem sig2_get : ∀ (c : Nat), c < 2 → sig2[c]? = some (.string (strO [Px.sg c]))
  | 0, _ => rfl | 1, _ => rfl
  | n + 2, h => absurd h (by omega)
set_option maxHeartbeats 8000000 in
set_option maxRecDepth 100000 in
theorem spelt_any (w : World) (A : Option Addr) (l : List UInt8) (cap : Nat) (hr : ∃ g, BytesIn w g A l) (hl : l.length ≤ 12) (hc : l.length ≤ cap) :
    Calls Tryz.prog 24 #[.slice A l.length cap] w (WholeP w (Px.spS none [49] 0 (l.map sgOf))) := by
  have HR := Lib.hid hr
  obtain ⟨n, hn⟩ : ∃ n, n = l.length := ⟨_, rfl⟩
  have HN := Lib.hid hn
  have hcsn : (l.map sgOf).length = n := by rw [List.length_map, hn]
  have HEND := Lib.hid (Px.spS_all (l.map sgOf))
  rw [hcsn] at HEND
  obtain ⟨cs, hcs⟩ : ∃ cs, cs = l.map sgOf := ⟨_, rfl⟩
  rw [← hcs] at HEND hcsn ⊢
  have HCS := Lib.hid hcs
  have HCSN := Lib.hid hcsn
  have HLEN := Lib.hid (fun i (h : i ≤ n) => Px.spG_len cs i (by omega))
  have HNX := Lib.hid (fun i (h : i < cs.length) => Px.spG_next cs i h)
  rw [← hn] at hl hc ⊢
  clear hr hn hcs hcsn
  go_enter Tryz.func24, Tryz.ntmps24
  go_wp2_with fail
  go_loopw [3, 4, 5, 6] (fun ov tv sv iv wr => ∃ k : Nat, k ≤ n + 1 ∧ iv = .int .i64 (k : Int) ∧ Keeps [] w wr ∧ (k ≤ n → ov = .string (accV (Px.spG cs k).1).1 ∧ tv = .string (strO (Px.spG cs k).2) ∧ sv = .string (accV (Px.spG cs k).1).2) ∧ (k = n + 1 → ov = .string (strO (Px.cloS (Px.spG cs n).1 (Px.spG cs n).2)) ∧ (∃ y, tv = .string y) ∧ ∃ y, sv = .string y)) (fun _ _ _ iv _ => n + 1 - (intOf iv).toNat)
  case atStart => exact ⟨0, by omega, rfl, Keeps.refl _ _, fun _ => ⟨rfl, rfl, rfl⟩, fun h => by omega⟩
  case round =>
    obtain ⟨k, hk, rfl, hkp, hlive, hdone⟩ := hrel
    have HK := Lib.hid hkp
    clear hkp
    by_cases hend : k = n + 1
    · obtain ⟨rfl, ⟨y1, rfl⟩, y2, rfl⟩ := hdone hend
      subst hend
      clear hlive hdone
      rw [← HEND.out]
      go_wp2_with fail
      go_ret
      exact ⟨rfl, HK.out⟩
    · have hkn : k ≤ n := by omega
      obtain ⟨rfl, rfl, rfl⟩ := hlive hkn
      have HLK := Lib.hid (HLEN.out k hkn)
      clear hlive hdone
      have hp0 : (0 : Int) ≤ (k : Int) := by omega
      have hle : (k : Int) ≤ (n : Int) := by omega
      obtain ⟨k1, hk1⟩ : ∃ m, m = k + 1 := ⟨_, rfl⟩
      have hs1 : IntKind.i64.wrap ((k : Int) + 1) = (k1 : Int) := by rw [IntWalk.i64_in _ (by omega)]; omega
      have r14 : ((k : Nat) : Int) % 14 = (k : Int) := by omega
      have t14 : ((k : Nat) : Int).tmod 14 = (k : Int) := by rw [Int.tmod_eq_emod_of_nonneg (by omega)]; omega
      have hk14 : (k : Int) ≤ (k1 : Int) := by omega
      have hk15 : (k1 : Int) ≤ (14 : Int) := by omega
      have hk16 : (0 : Int) ≤ (k1 : Int) := by omega
      obtain ⟨px, hpx⟩ : ∃ s, s = strO [Px.pcb k] := ⟨_, rfl⟩
      have hsz2 : px.size = 1 := by rw [hpx, strO_len]; rfl
      have hpp := l14_get k (by omega)
      rw [← hpx, ← hk1] at hpp
      have HPX := Lib.hid hpx
      have HK1 := Lib.hid hk1
      clear hpx hk1
      by_cases hlt : k < n
      · obtain ⟨gb, hbi⟩ := HR.out
        have hkl : k < l.length := by have := HN.out; omega
        have hkc : k < cs.length := by have := HCSN.out; omega
        obtain ⟨ob, hA, hcell⟩ : ∃ ob, A = some ⟨gb, ob, none⟩ ∧ w.cell? ⟨gb, ob + k, none⟩ = some (.int .u8 ((l[k].toNat : Nat) : Int)) := by
          rcases hbi with h0 | ⟨o, h1, h2⟩
          · rw [h0] at hkl; simp at hkl
          · exact ⟨o, h1, h2 k hkl⟩
        subst hA
        have HNK := Lib.hid (HNX.out k hkc)
        obtain ⟨bn, hbn⟩ : ∃ m, m = l[k].toNat := ⟨_, rfl⟩
        have hb256 : bn < 256 := by rw [hbn]; exact l[k].toNat_lt
        obtain ⟨c, hcc⟩ : ∃ c, c = cs[k] := ⟨_, rfl⟩
        have hcs9 : cs[k] = sgOf l[k] := by
          have h9 := HCS.out
          subst h9
          simp
        have hc5 : c < 5 := by rw [hcc, hcs9]; exact sgOf_lt _
        have hcm : c = bn % 5 := by rw [hcc, hcs9, hbn]; rfl
        have r5 : ((bn : Nat) : Int) % 5 = (c : Int) := by omega
        have t5 : ((bn : Nat) : Int).tmod 5 = (c : Int) := by rw [Int.tmod_eq_emod_of_nonneg (by omega)]; omega
        rw [← hbn] at hcell
        rw [← hcc] at HNK
        have HCB := Lib.hid (HK.out.cell_some hcell (by simp))
        have hcb := HCB.out
        have HSG := Lib.hid (sigs_get c hc5)
        obtain ⟨sx, hsx⟩ : ∃ s, s = strO [Px.sg c] := ⟨_, rfl⟩
        have HSX := Lib.hid hsx
        have hsz1 : sx.size = 1 := by rw [hsx, strO_len]; rfl
        rw [← hsx] at HSG
        have hl0 : (k : Int) < (n : Int) := by omega
        have hc0 : (0 : Int) ≤ (c : Int) := by omega
        have hcl : (c : Int) < (5 : Int) := by omega
        clear hbi hcell hkl hkc hbn hcc hcs9 hsx hcm
        by_cases h2 : 2 ≤ c
        · have hge : decide ((2 : Int) ≤ (c : Int)) = true := by simp; omega
          obtain ⟨T0, hT0⟩ : ∃ s, s = strO (Px.spG cs k).2 := ⟨_, rfl⟩
          have hz0 : T0.size ≤ 100 := by
            rw [hT0, strO_len]
            have h9 := HLK.out
            cases hs : (Px.spG cs k).1 with
            | none => rw [hs] at h9; simp only [Px.cloS] at h9; omega
            | some p => obtain ⟨x9, k9⟩ := p; rw [hs, Px.cloS_len] at h9; omega
          obtain ⟨T1, hT1⟩ : ∃ s, s = (⟨#[40]⟩ : ByteArray) ++ T0 := ⟨_, rfl⟩
          have hzT1 : T1.size ≤ 101 := by rw [hT1, ByteArray.size_append]; show 1 + _ ≤ _; omega
          have cT1 : ∀ w, (Op.stringOp .add (⟨#[40]⟩ : ByteArray) T0).run Tryz.prog w = .ok (.string T1) w := fun w => by rw [hT1]; exact run_string_add_sum w _ _ (by show 1 + _ ≤ _; omega)
          obtain ⟨T2, hT2⟩ : ∃ s, s = T1 ++ sx := ⟨_, rfl⟩
          have hzT2 : T2.size ≤ 102 := by rw [hT2, ByteArray.size_append]; omega
          have cT2 : ∀ w, (Op.stringOp .add T1 sx).run Tryz.prog w = .ok (.string T2) w := fun w => by rw [hT2]; exact run_string_add_sum w _ _ (by omega)
          obtain ⟨T3, hT3⟩ : ∃ s, s = T2 ++ px := ⟨_, rfl⟩
          have hzT3 : T3.size ≤ 103 := by rw [hT3, ByteArray.size_append]; omega
          have cT3 : ∀ w, (Op.stringOp .add T2 px).run Tryz.prog w = .ok (.string T3) w := fun w => by rw [hT3]; exact run_string_add_sum w _ _ (by omega)
          obtain ⟨T4, hT4⟩ : ∃ s, s = T3 ++ (⟨#[41]⟩ : ByteArray) := ⟨_, rfl⟩
          have hzT4 : T4.size ≤ 104 := by rw [hT4, ByteArray.size_append]; show _ + 1 ≤ _; omega
          have cT4 : ∀ w, (Op.stringOp .add T3 (⟨#[41]⟩ : ByteArray)).run Tryz.prog w = .ok (.string T4) w := fun w => by rw [hT4]; exact run_string_add_sum w _ _ (by show _ + 1 ≤ _; omega)
          have HT4 := Lib.hid (show T4 = strO ([40] ++ (Px.spG cs k).2 ++ [Px.sg c] ++ [Px.pcb k] ++ [41]) by
            rw [hT4, hT3, hT2, hT1, hT0, HSX.out, HPX.out, show (⟨#[40]⟩ : ByteArray) = strO [40] from rfl, show (⟨#[41]⟩ : ByteArray) = strO [41] from rfl, strO_cat, strO_cat, strO_cat, strO_cat])
          have HT0 := Lib.hid hT0
          rw [← hT0]
          clear hT1 hT2 hT3 hT4 hT0
          go_wp2_with fail
          refine Reg.wp_region_late (A := ?A7) (B := ?A7B) [0] [19] (fun _ _ w' => Keeps [] wr w') (Keeps [])
            ((Is (.string T0)) :: (Is (.string T1)) :: (RowF 5 sigs) :: (Is (.slice (some ⟨gb, ob, none⟩) n cap)) :: (Is (.int .i64 (k : Int))) :: (Is (.pointer (some ⟨gb, ob + k, none⟩))) :: (Is (.int .u8 (bn : Int))) :: (Is (.int .u8 (c : Int))) :: (PtrF (.string sx)) :: (Is (.string sx)) :: (Is (.string T2)) :: (Is (.int .i64 (k : Int))) :: (Is (.int .i64 (k : Int))) :: (Is (.int .i64 (k : Int))) :: (Is (.int .i64 (k : Int))) :: (Is (.int .i64 (k1 : Int))) :: (Is (.string px)) :: (Is (.string T3)) :: (Is (.string T4)) :: (Is (.string T4)) :: [])
            (by kernel_rfl) (by kernel_rfl) rfl ?hg7A ?hg7B ?hg7C ?hg7o ?hg7last ?hg7end
          case hg7A => intro vs; simp only [Reg.fill, if_true, Nat.zero_add, Nat.reduceAdd, Act.put, List.setIfInBounds_toArray, List.set_cons_succ, List.set_cons_zero]; exact rfl
          case hg7B => intro vs; simp only [Reg.fill, List.contains_cons, List.contains_nil, Nat.zero_add, Nat.reduceAdd, Nat.reduceBEq, Bool.or_false, Bool.not_true, Bool.not_false, if_true, if_false, Bool.false_eq_true, Act.put, List.setIfInBounds_toArray, List.set_cons_succ, List.set_cons_zero]; exact rfl
          case hg7C => exact fun vs => (Keeps.refl _ _).drew
          case hg7last => repeat (first | exact trivial | refine ⟨Is.lastK, ?_⟩ | refine ⟨RowF.last, ?_⟩ | refine ⟨PtrF.last, ?_⟩)
          case hg7o =>
            repeat' apply And.intro
            all_goals
              first
                | exact trivial
                | (intro Ls vs w' hC hLs hd ha K hK
                   try simp only [Reg.Deps, Reg.at_, List.getD_cons_zero, List.getD_cons_succ, Region.binds, true_implies, Is, and_true] at hd
                   have hcb := hC.cell_some HCB.out (by simp)
                   go_simp
                   first
                     | exact hK _ _ hC (Keeps.refl _ _) rfl
                     | exact hK _ _ hC (Keeps.refl _ _) hd.1
                     | skip)
            · refine hK _ _ (hC.alloc _) ((Keeps.refl _ _).alloc _) ⟨w'.heap.size, rfl, fun j u hu => ?_⟩
              exact (cell_newS w' sigs 9 j).trans hu
            · obtain ⟨⟨x9, hx9, hcl⟩, -⟩ := hd
              rw [hx9]
              go_simp
              exact hK _ _ hC (Keeps.refl _ _) ⟨_, rfl, hcl c _ HSG.out⟩
            · obtain ⟨a9, hxa, hcl⟩ := hd
              rw [hxa]
              simp only [Sem.run_pure, Result.andThen_ok, hcl]
              exact hK _ _ hC (Keeps.refl _ _) rfl
          case hg7end =>
            intro vs w2 hC hall
            simp only [Reg.All, Is, and_true, Nat.zero_add, Nat.reduceAdd] at hall
            have eL := hall.2.2.2.2.2.2.2.2.2.2.2.2.2.2.2.2.2.2.2
            rw [eL]
            clear hall eL
            go_wp2_with fail
            go_roundw
            case rel =>
              have hkk := HK1.out
              subst hkk
              refine ⟨k + 1, by omega, by go_num, HK.out.trans hC (fun _ h _ => h), fun _ => ?_, fun h => by omega⟩
              rw [HNK.out, if_pos h2]
              exact ⟨rfl, by rw [HT4.out], rfl⟩
            case measure => have hkk := HK1.out; subst hkk; simp [intOf] <;> omega
        · have hge : decide ((2 : Int) ≤ (c : Int)) = false := by simp; omega
          have hc2 : (wr.alloc (.cells #[.string ⟨#[43]⟩, .string ⟨#[45]⟩] 9)).cell? ⟨wr.heap.size, c, none⟩ = some (.string sx) := by
            have h := (cell_newS wr sig2 9 c).trans (sig2_get c (by omega))
            rw [← HSX.out] at h
            exact h
          have hcl2 : (c : Int) < (2 : Int) := by omega
          have hcb2 : (wr.alloc (.cells #[.string ⟨#[43]⟩, .string ⟨#[45]⟩] 9)).cell? ⟨gb, ob + k, none⟩ = some (.int .u8 (bn : Int)) := ((Keeps.refl [] wr).alloc _).cell_some hcb (by simp)
          cases hs : (Px.spG cs k).1 with
          | none =>
            have HS9 := Lib.hid hs
            have he0 : ((⟨#[]⟩ : ByteArray).toList == (⟨#[]⟩ : ByteArray).toList) = true := by simp
            simp only [accV]
            obtain ⟨T0, hT0⟩ : ∃ s, s = strO (Px.spG cs k).2 := ⟨_, rfl⟩
            have HT0 := Lib.hid hT0
            rw [← hT0]
            clear hs hT0
            go_wp2_with fail
            go_roundw
            case rel =>
              have hkk := HK1.out
              subst hkk
              refine ⟨k + 1, by omega, by go_num, HK.out.trans ((Keeps.refl [] wr).alloc _) (fun _ h _ => h), fun _ => ?_, fun h => by omega⟩
              rw [HNK.out, if_neg h2, HS9.out]
              exact ⟨by rw [HT0.out]; rfl, by rw [HPX.out], by rw [HSX.out]⟩
            case measure => have hkk := HK1.out; subst hkk; simp [intOf] <;> omega
          | some p9 =>
            obtain ⟨x9, k9⟩ := p9
            have HS9 := Lib.hid hs
            obtain ⟨c9, hk9⟩ := Px.spG_sign cs k (by have := HCSN.out; omega) x9 k9 hs
            have h9 := HLK.out
            rw [hs, Px.cloS_len] at h9
            simp only [accV]
            obtain ⟨o9, ho9⟩ : ∃ s, s = strO x9 := ⟨_, rfl⟩
            obtain ⟨s9, hs9⟩ : ∃ s, s = strO k9 := ⟨_, rfl⟩
            obtain ⟨T0, hT0⟩ : ∃ s, s = strO (Px.spG cs k).2 := ⟨_, rfl⟩
            have he0 : s9.toList.isEmpty = false := by rw [hs9, hk9, strO_toList]; rfl
            have hzo : o9.size ≤ 100 := by rw [ho9, strO_len]; omega
            have hzs : s9.size ≤ 100 := by rw [hs9, strO_len]; omega
            have hz0 : T0.size ≤ 100 := by rw [hT0, strO_len]; omega
            obtain ⟨T1, hT1⟩ : ∃ s, s = (⟨#[40]⟩ : ByteArray) ++ o9 := ⟨_, rfl⟩
            have hzT1 : T1.size ≤ 101 := by rw [hT1, ByteArray.size_append]; show 1 + _ ≤ _; omega
            have cT1 : ∀ w, (Op.stringOp .add (⟨#[40]⟩ : ByteArray) o9).run Tryz.prog w = .ok (.string T1) w := fun w => by rw [hT1]; exact run_string_add_sum w _ _ (by show 1 + _ ≤ _; omega)
            obtain ⟨T2, hT2⟩ : ∃ s, s = T1 ++ s9 := ⟨_, rfl⟩
            have hzT2 : T2.size ≤ 202 := by rw [hT2, ByteArray.size_append]; omega
            have cT2 : ∀ w, (Op.stringOp .add T1 s9).run Tryz.prog w = .ok (.string T2) w := fun w => by rw [hT2]; exact run_string_add_sum w _ _ (by omega)
            obtain ⟨T3, hT3⟩ : ∃ s, s = T2 ++ T0 := ⟨_, rfl⟩
            have hzT3 : T3.size ≤ 303 := by rw [hT3, ByteArray.size_append]; omega
            have cT3 : ∀ w, (Op.stringOp .add T2 T0).run Tryz.prog w = .ok (.string T3) w := fun w => by rw [hT3]; exact run_string_add_sum w _ _ (by omega)
            obtain ⟨T4, hT4⟩ : ∃ s, s = T3 ++ (⟨#[41]⟩ : ByteArray) := ⟨_, rfl⟩
            have hzT4 : T4.size ≤ 304 := by rw [hT4, ByteArray.size_append]; show _ + 1 ≤ _; omega
            have cT4 : ∀ w, (Op.stringOp .add T3 (⟨#[41]⟩ : ByteArray)).run Tryz.prog w = .ok (.string T4) w := fun w => by rw [hT4]; exact run_string_add_sum w _ _ (by show _ + 1 ≤ _; omega)
            have HT4 := Lib.hid (show T4 = strO (Px.cloS (some (x9, k9)) (Px.spG cs k).2) by
              rw [hT4, hT3, hT2, hT1, hT0, ho9, hs9, show (⟨#[40]⟩ : ByteArray) = strO [40] from rfl, show (⟨#[41]⟩ : ByteArray) = strO [41] from rfl, strO_cat, strO_cat, strO_cat, strO_cat]; rfl)
            rw [← ho9, ← hs9, ← hT0]
            clear hT1 hT2 hT3 hT4 hT0 ho9 hs9 hs hk9 h9
            go_wp2_with fail
            go_roundw
            case rel =>
              have hkk := HK1.out
              subst hkk
              refine ⟨k + 1, by omega, by go_num, HK.out.trans ((Keeps.refl [] wr).alloc _) (fun _ h _ => h), fun _ => ?_, fun h => by omega⟩
              rw [HNK.out, if_neg h2, HS9.out]
              exact ⟨by rw [HT4.out], by rw [HPX.out], by rw [HSX.out]⟩
            case measure => have hkk := HK1.out; subst hkk; simp [intOf] <;> omega
      · have hkn2 : k = n := by omega
        subst hkn2
        have hlt0 : decide ((k : Int) < (k : Int)) = false := by simp
        cases hs : (Px.spG cs k).1 with
        | none =>
          have HS9 := Lib.hid hs
          have he0 : ((⟨#[]⟩ : ByteArray).toList == (⟨#[]⟩ : ByteArray).toList) = true := by simp
          simp only [accV]
          obtain ⟨T0, hT0⟩ : ∃ s, s = strO (Px.spG cs k).2 := ⟨_, rfl⟩
          have HT0 := Lib.hid hT0
          rw [← hT0]
          clear hs hT0
          go_wp2_with fail
          go_roundw
          case rel =>
            have hkk := HK1.out
            subst hkk
            refine ⟨k + 1, by omega, by go_num, HK.out, fun h => by omega, fun _ => ⟨?_, ⟨_, rfl⟩, _, rfl⟩⟩
            exact congrArg Value.string HT0.out
          case measure => have hkk := HK1.out; subst hkk; simp [intOf] <;> omega
        | some p9 =>
          obtain ⟨x9, k9⟩ := p9
          have HS9 := Lib.hid hs
          obtain ⟨c9, hk9⟩ := Px.spG_sign cs k (by have := HCSN.out; omega) x9 k9 hs
          have h9 := HLK.out
          rw [hs, Px.cloS_len] at h9
          simp only [accV]
          obtain ⟨o9, ho9⟩ : ∃ s, s = strO x9 := ⟨_, rfl⟩
          obtain ⟨s9, hs9⟩ : ∃ s, s = strO k9 := ⟨_, rfl⟩
          obtain ⟨T0, hT0⟩ : ∃ s, s = strO (Px.spG cs k).2 := ⟨_, rfl⟩
          have he0 : s9.toList.isEmpty = false := by rw [hs9, hk9, strO_toList]; rfl
          have hzo : o9.size ≤ 100 := by rw [ho9, strO_len]; omega
          have hzs : s9.size ≤ 100 := by rw [hs9, strO_len]; omega
          have hz0 : T0.size ≤ 100 := by rw [hT0, strO_len]; omega
          obtain ⟨T1, hT1⟩ : ∃ s, s = (⟨#[40]⟩ : ByteArray) ++ o9 := ⟨_, rfl⟩
          have hzT1 : T1.size ≤ 101 := by rw [hT1, ByteArray.size_append]; show 1 + _ ≤ _; omega
          have cT1 : ∀ w, (Op.stringOp .add (⟨#[40]⟩ : ByteArray) o9).run Tryz.prog w = .ok (.string T1) w := fun w => by rw [hT1]; exact run_string_add_sum w _ _ (by show 1 + _ ≤ _; omega)
          obtain ⟨T2, hT2⟩ : ∃ s, s = T1 ++ s9 := ⟨_, rfl⟩
          have hzT2 : T2.size ≤ 202 := by rw [hT2, ByteArray.size_append]; omega
          have cT2 : ∀ w, (Op.stringOp .add T1 s9).run Tryz.prog w = .ok (.string T2) w := fun w => by rw [hT2]; exact run_string_add_sum w _ _ (by omega)
          obtain ⟨T3, hT3⟩ : ∃ s, s = T2 ++ T0 := ⟨_, rfl⟩
          have hzT3 : T3.size ≤ 303 := by rw [hT3, ByteArray.size_append]; omega
          have cT3 : ∀ w, (Op.stringOp .add T2 T0).run Tryz.prog w = .ok (.string T3) w := fun w => by rw [hT3]; exact run_string_add_sum w _ _ (by omega)
          obtain ⟨T4, hT4⟩ : ∃ s, s = T3 ++ (⟨#[41]⟩ : ByteArray) := ⟨_, rfl⟩
          have hzT4 : T4.size ≤ 304 := by rw [hT4, ByteArray.size_append]; show _ + 1 ≤ _; omega
          have cT4 : ∀ w, (Op.stringOp .add T3 (⟨#[41]⟩ : ByteArray)).run Tryz.prog w = .ok (.string T4) w := fun w => by rw [hT4]; exact run_string_add_sum w _ _ (by show _ + 1 ≤ _; omega)
          have HT4 := Lib.hid (show T4 = strO (Px.cloS (some (x9, k9)) (Px.spG cs k).2) by
            rw [hT4, hT3, hT2, hT1, hT0, ho9, hs9, show (⟨#[40]⟩ : ByteArray) = strO [40] from rfl, show (⟨#[41]⟩ : ByteArray) = strO [41] from rfl, strO_cat, strO_cat, strO_cat, strO_cat]; rfl)
          rw [← ho9, ← hs9, ← hT0]
          clear hT1 hT2 hT3 hT4 hT0 ho9 hs9 hs hk9 h9
          go_wp2_with fail
          go_roundw
          case rel =>
            have hkk := HK1.out
            subst hkk
            refine ⟨k + 1, by omega, by go_num, HK.out, fun h => by omega, fun _ => ⟨?_, ⟨_, rfl⟩, _, rfl⟩⟩
            exact congrArg Value.string HT4.out
          case measure => have hkk := HK1.out; subst hkk; simp [intOf] <;> omega
end Go.Proofs.YtbikifibfaaggaaGreatDoor
