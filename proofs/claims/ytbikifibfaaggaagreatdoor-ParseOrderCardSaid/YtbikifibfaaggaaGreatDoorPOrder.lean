/- ParseOrder, the walk. -/
import Derived.Test.YtbikifibfaaggaaGreatDoorPOrdS
namespace Go.Proofs.YtbikifibfaaggaaGreatDoor
open Go.RowKit Go.Shelf
open Lx (Tok Tx)
open Reg (Is Fact)
attribute [local go_sem] Reg.lateFr Reg.wantedV Reg.gives_value Reg.gives_skip Reg.gives_enter

namespace Px
theorem okE_pc (i : Nat) (hi : i < 14) : OkE (pcEx i) := by
  unfold pcEx
  split
  · show _ < 10; omega
  · trivial
def OkA : Option (Ex × Nat) → Prop | none => True | some (x, k) => OkE x ∧ 2 ≤ k ∧ k ≤ 6
theorem okE_clo {acc : Option (Ex × Nat)} {a : Ex} (h : OkA acc) (ha : OkE a) : OkE (clo acc a) := by
  match acc, h with
  | none, _ => exact ha
  | some (x, k), h => exact ⟨h.2.1, h.2.2, h.1, ha⟩
theorem okE_go : ∀ (cs : List Nat) (i : Nat) (acc : Option (Ex × Nat)) (a : Ex), (∀ c ∈ cs, c < 5) → i + cs.length ≤ 14 → OkA acc → OkE a → OkE (goT acc a i cs)
  | [], i, acc, a, _, _, h, ha => okE_clo h ha
  | c :: r, i, acc, a, hc, hl, h, ha => by
    simp only [List.length_cons] at hl
    have hc5 := hc c (List.mem_cons_self ..)
    have hr : ∀ x ∈ r, x < 5 := fun x hx => hc x (List.mem_cons_of_mem _ hx)
    rw [goT]
    by_cases h2 : 2 ≤ c
    · rw [if_pos h2]
      exact okE_go r _ _ _ hr (by omega) h ⟨by omega, by omega, ha, okE_pc i (by omega)⟩
    · rw [if_neg h2]
      exact okE_go r _ _ _ hr (by omega) ⟨okE_clo h ha, by omega, by omega⟩ (okE_pc i (by omega))
theorem whole_all (cs : List Nat) (hl : cs.length ≤ 12) : wholeT (goT none (.num 1) 0 cs) = spS none [49] 0 cs := by
  have h1 : wholeT (.num 1) = [49] := by rw [wholeT, Lx.dec_small (by omega)]; rfl
  rw [whole_go cs 0 none (.num 1) (by omega), h1]; rfl
theorem spS_len (cs : List Nat) : (spS none [49] 0 cs).length ≤ 1 + 4 * cs.length := by
  rw [spS_all]; exact spG_len cs _ (Nat.le_refl _)
end Px
set_option maxHeartbeats 4000000 in
set_option maxRecDepth 100000 in
theorem porder_walk (w : World) (he : ErrAt w) (A : Option Addr) (l : List UInt8) (cap : Nat) (hr : ∃ g, BytesIn w g A l) (hl : l.length ≤ 12) (hc : l.length ≤ cap) :
    Calls Tryz.prog 8 #[.slice A l.length cap] w (Yes w) := by
  have HK0 := Lib.hid (pknown_any w he)
  have HE := Lib.hid he
  have HR := Lib.hid hr
  obtain ⟨n, hn⟩ : ∃ n, n = l.length := ⟨_, rfl⟩
  have HN := Lib.hid hn
  rw [← hn] at hl hc ⊢
  obtain ⟨X, hX⟩ : ∃ X : Nat → ByteArray, X = fun k => strO (ordX l k) := ⟨_, rfl⟩
  have HX0 : Hid ((⟨#[49]⟩ : ByteArray) = X 0) := Lib.hid (by rw [hX]; rfl)
  have HXZ : Hid (∀ k, (X k).size ≤ 1 + 4 * k) := Lib.hid fun k => by rw [hX]; show (strO _).size ≤ _; rw [strO_len]; exact ordX_len l k
  have HXS : Hid (∀ k (h : k < l.length), (((X k ++ (⟨#[32]⟩ : ByteArray)) ++ strO [Px.sg (sgOf l[k])]) ++ (⟨#[32]⟩ : ByteArray)) ++ strO [Px.pcb k] = X (k + 1)) := Lib.hid fun k h => by
    rw [hX]; simp only
    rw [show (⟨#[32]⟩ : ByteArray) = strO [32] from rfl, strO_cat, strO_cat, strO_cat, strO_cat, ordX_next l k h]
    simp
  have HXE := Lib.hid hX
  clear he hr hn hX
  go_enter Tryz.func8, Tryz.ntmps8
  go_wp2_with fail
  refine (HK0.out).mono ?_
  rintro e w1 ⟨rfl, hk1⟩
  have HK1 := Lib.hid hk1
  clear hk1
  go_wp2_with fail
  go_loopw [3, 4] (fun sv iv wr => ∃ k : Nat, k ≤ n ∧ sv = .string (X k) ∧ iv = .int .i64 (k : Int) ∧ Keeps [] w1 wr) (fun _ iv _ => n - (intOf iv).toNat)
  case atStart => exact ⟨0, Nat.zero_le _, by rw [← HX0.out], rfl, Keeps.refl _ _⟩
  case round =>
    obtain ⟨k, hk, rfl, rfl, hkp⟩ := hrel
    have HK := Lib.hid (HK1.out.trans hkp (fun _ h _ => h))
    have HKP := Lib.hid hkp
    clear hkp
    by_cases hlt : k < n
    · obtain ⟨gb, hbi⟩ := HR.out
      have hkl : k < l.length := by have := HN.out; omega
      obtain ⟨ob, hA, hcell⟩ : ∃ ob, A = some ⟨gb, ob, none⟩ ∧ w.cell? ⟨gb, ob + k, none⟩ = some (.int .u8 ((l[k].toNat : Nat) : Int)) := by
        rcases hbi with h0 | ⟨o, h1, h2⟩
        · rw [h0] at hkl; simp at hkl
        · exact ⟨o, h1, h2 k hkl⟩
      subst hA
      obtain ⟨bn, hbn⟩ : ∃ m, m = l[k].toNat := ⟨_, rfl⟩
      have hb256 : bn < 256 := by rw [hbn]; exact l[k].toNat_lt
      obtain ⟨c, hcc⟩ : ∃ c, c = sgOf l[k] := ⟨_, rfl⟩
      have hc5 : c < 5 := by rw [hcc]; exact sgOf_lt _
      have hcm : c = bn % 5 := by rw [hcc, hbn]; rfl
      have r5 : ((bn : Nat) : Int) % 5 = (c : Int) := by omega
      have t5 : ((bn : Nat) : Int).tmod 5 = (c : Int) := by rw [Int.tmod_eq_emod_of_nonneg (by omega)]; omega
      have r14 : ((k : Nat) : Int) % 14 = (k : Int) := by omega
      have t14 : ((k : Nat) : Int).tmod 14 = (k : Int) := by rw [Int.tmod_eq_emod_of_nonneg (by omega)]; omega
      rw [← hbn] at hcell
      have HCB := Lib.hid (HK.out.cell_some hcell (by simp))
      have hcat := HXS.out k hkl
      rw [← hcc] at hcat
      have HSG := Lib.hid (sigs_get c hc5)
      obtain ⟨sx, hsx⟩ : ∃ s, s = strO [Px.sg c] := ⟨_, rfl⟩
      have hsz1 : sx.size = 1 := by rw [hsx, strO_len]; rfl
      rw [← hsx] at HSG hcat
      obtain ⟨px, hpx⟩ : ∃ s, s = strO [Px.pcb k] := ⟨_, rfl⟩
      have hsz2 : px.size = 1 := by rw [hpx, strO_len]; rfl
      have hpp := l14_get k (by omega)
      rw [← hpx] at hcat hpp
      have hszk := HXZ.out k
      obtain ⟨T0, hT0⟩ : ∃ s, s = X k := ⟨_, rfl⟩
      rw [← hT0] at hcat hszk
      obtain ⟨T1, hT1⟩ : ∃ s, s = T0 ++ (⟨#[32]⟩ : ByteArray) := ⟨_, rfl⟩
      have hz1 : T1.size ≤ 60 := by rw [hT1, ByteArray.size_append]; show _ + 1 ≤ 60; omega
      obtain ⟨T2, hT2⟩ : ∃ s, s = T1 ++ sx := ⟨_, rfl⟩
      have hz2 : T2.size ≤ 61 := by rw [hT2, ByteArray.size_append]; omega
      obtain ⟨T3, hT3⟩ : ∃ s, s = T2 ++ (⟨#[32]⟩ : ByteArray) := ⟨_, rfl⟩
      have hz3 : T3.size ≤ 62 := by rw [hT3, ByteArray.size_append]; show _ + 1 ≤ 62; omega
      obtain ⟨T4, hT4⟩ : ∃ s, s = T3 ++ px := ⟨_, rfl⟩
      have HT4 := Lib.hid (show T4 = X (k + 1) by rw [← hcat, hT4, hT3, hT2, hT1])
      obtain ⟨k1, hk1⟩ : ∃ m, m = k + 1 := ⟨_, rfl⟩
      have hs1 : IntKind.i64.wrap ((k : Int) + 1) = (k1 : Int) := by rw [IntWalk.i64_in _ (by omega)]; omega
      rw [← hk1] at hpp
      have c1 : ∀ w, (Op.stringOp .add T0 (⟨#[32]⟩ : ByteArray)).run Tryz.prog w = .ok (.string T1) w := fun w => by rw [hT1]; exact run_string_add_sum w _ _ (by show _ + 1 ≤ _; omega)
      have c2 : ∀ w, (Op.stringOp .add T1 sx).run Tryz.prog w = .ok (.string T2) w := fun w => by rw [hT2]; exact run_string_add_sum w _ _ (by omega)
      have c3 : ∀ w, (Op.stringOp .add T2 (⟨#[32]⟩ : ByteArray)).run Tryz.prog w = .ok (.string T3) w := fun w => by rw [hT3]; exact run_string_add_sum w _ _ (by show _ + 1 ≤ _; omega)
      have c4 : ∀ w, (Op.stringOp .add T3 px).run Tryz.prog w = .ok (.string T4) w := fun w => by rw [hT4]; exact run_string_add_sum w _ _ (by omega)
      clear hT1 hT2 hT3 hT4
      have hp0 : (0 : Int) ≤ (k : Int) := by omega
      have hl0 : (k : Int) < (n : Int) := by omega
      have hc0 : (0 : Int) ≤ (c : Int) := by omega
      have hcl : (c : Int) < (5 : Int) := by omega
      have hk14 : (k : Int) ≤ (k1 : Int) := by omega
      have hk15 : (k1 : Int) ≤ (14 : Int) := by omega
      have hk16 : (0 : Int) ≤ (k1 : Int) := by omega
      rw [← hT0]
      have HKK := Lib.hid hk1
      clear hcat hbi hcell hkl hbn hcc hsx hpx hcm hT0 hk1
      go_wp2_with fail
      refine Reg.wp_region_late (A := ?A9) (B := ?A9B) [0] [19] (fun _ _ w' => Keeps [] wr w') (Keeps [])
        ((Is (.string T0)) :: (Is (.string T1)) :: (RowF 5 sigs) :: (Is (.slice (some ⟨gb, ob, none⟩) n cap)) :: (Is (.int .i64 (k : Int))) :: (Is (.pointer (some ⟨gb, ob + k, none⟩))) :: (Is (.int .u8 (bn : Int))) :: (Is (.int .u8 (c : Int))) :: (PtrF (.string sx)) :: (Is (.string sx)) :: (Is (.string T2)) :: (Is (.string T3)) :: (Is (.int .i64 (k : Int))) :: (Is (.int .i64 (k : Int))) :: (Is (.int .i64 (k : Int))) :: (Is (.int .i64 (k : Int))) :: (Is (.int .i64 (k1 : Int))) :: (Is (.string px)) :: (Is (.string T4)) :: (Is (.string T4)) :: [])
        (by kernel_rfl) (by kernel_rfl) rfl ?hg9A ?hg9B ?hg9C ?hg9o ?hg9last ?hg9end
      case hg9A => intro vs; simp only [Reg.fill, if_true, Nat.zero_add, Nat.reduceAdd, Act.put, List.setIfInBounds_toArray, List.set_cons_succ, List.set_cons_zero]; exact rfl
      case hg9B => intro vs; simp only [Reg.fill, List.contains_cons, List.contains_nil, Nat.zero_add, Nat.reduceAdd, Nat.reduceBEq, Bool.or_false, Bool.not_true, Bool.not_false, if_true, if_false, Bool.false_eq_true, Act.put, List.setIfInBounds_toArray, List.set_cons_succ, List.set_cons_zero]; exact rfl
      case hg9C => exact fun vs => (Keeps.refl _ _).drew
      case hg9last => repeat (first | exact trivial | refine ⟨Is.lastK, ?_⟩ | refine ⟨RowF.last, ?_⟩ | refine ⟨PtrF.last, ?_⟩)
      case hg9o =>
        repeat' apply And.intro
        all_goals
          first
            | exact trivial
            | (intro Ls vs w' hC hLs hd ha K hK
               try simp only [Reg.Deps, Reg.at_, List.getD_cons_zero, List.getD_cons_succ, Region.binds, true_implies, Is, and_true] at hd
               have hcb := hC.cell_some HCB.out (by simp)
               go_simp
               first
                 | exact hK _ _ hC (Keeps.refl _ _) rfl
                 | exact hK _ _ hC (Keeps.refl _ _) hd.1
                 | skip)
        · refine hK _ _ (hC.alloc _) ((Keeps.refl _ _).alloc _) ⟨w'.heap.size, rfl, fun j u hu => ?_⟩
          exact (cell_newS w' sigs 9 j).trans hu
        · obtain ⟨⟨x9, hx9, hcl⟩, -⟩ := hd
          rw [hx9]
          go_simp
          exact hK _ _ hC (Keeps.refl _ _) ⟨_, rfl, hcl c _ HSG.out⟩
        · obtain ⟨a, hxa, hcl⟩ := hd
          rw [hxa]
          simp only [Sem.run_pure, Result.andThen_ok, hcl]
          exact hK _ _ hC (Keeps.refl _ _) rfl
      case hg9end =>
        intro vs w2 hC hall
        simp only [Reg.All, Is, and_true, Nat.zero_add, Nat.reduceAdd] at hall
        have eL := hall.2.2.2.2.2.2.2.2.2.2.2.2.2.2.2.2.2.2.2
        rw [eL]
        clear hall eL
        go_wp2_with fail
        go_roundw
        case rel => have hk1 := HKK.out; subst hk1; exact ⟨k + 1, by omega, by rw [HT4.out], by go_num, HKP.out.trans hC (fun _ h _ => h)⟩
        case measure => have hk1 := HKK.out; subst hk1; simp [intOf] <;> omega
    · have hkn : k = n := by omega
      subst hkn
      have hcl : (l.map sgOf).length ≤ 12 := by rw [List.length_map, ← HN.out]; exact hl
      have hc5 : ∀ c ∈ l.map sgOf, c < 5 := fun c hc => by
        obtain ⟨b, _, rfl⟩ := List.mem_map.1 hc
        exact sgOf_lt b
      have htx : Px.otext (l.map sgOf) = ([102, 110, 32, 102, 40, 41, 32, 123, 32, 114, 101, 116, 117, 114, 110, 32] ++ ordX l k) ++ [59, 32, 125] := by
        unfold ordX Px.otext
        rw [HN.out, List.take_of_length_le (by rw [List.length_map]; exact Nat.le_refl _)]
        simp [Px.obeg]
      have HF := Lib.hid (fun w' (h : ErrAt w') => func_any w' (Px.otext (l.map sgOf)) (by rw [Px.otext_len]; omega) h)
      rw [Px.ord_func _ hc5 hcl] at HF
      have hwl : (Px.wholeT (Px.goT none (.num 1) 0 (l.map sgOf))).length ≤ 10000 := by rw [Px.whole_all _ hcl]; have := Px.spS_len (l.map sgOf); omega
      have HOK := Lib.hid (And.intro (Px.okE_go (l.map sgOf) 0 none (.num 1) hc5 (by omega) trivial (by show 1 < 10; omega)) hwl)
      have HWS := Lib.hid (Px.whole_all _ hcl)
      have hsz := HXZ.out k
      obtain ⟨S0, hS0⟩ : ∃ s, s = X k := ⟨_, rfl⟩
      have hXK : X k = strO (ordX l k) := by rw [HXE.out]
      obtain ⟨S1, hS1⟩ : ∃ s, s = (⟨#[102, 110, 32, 102, 40, 41, 32, 123, 32, 114, 101, 116, 117, 114, 110, 32]⟩ : ByteArray) ++ S0 := ⟨_, rfl⟩
      rw [← hS0] at hsz
      have hz1 : S1.size ≤ 100 := by rw [hS1, ByteArray.size_append]; show 16 + _ ≤ _; omega
      obtain ⟨S2, hS2⟩ : ∃ s, s = S1 ++ (⟨#[59, 32, 125]⟩ : ByteArray) := ⟨_, rfl⟩
      have hS : strO (Px.otext (l.map sgOf)) = S2 := by
        rw [htx, hS2, hS1, hS0, hXK, show (⟨#[102, 110, 32, 102, 40, 41, 32, 123, 32, 114, 101, 116, 117, 114, 110, 32]⟩ : ByteArray) = strO [102, 110, 32, 102, 40, 41, 32, 123, 32, 114, 101, 116, 117, 114, 110, 32] from rfl, show (⟨#[59, 32, 125]⟩ : ByteArray) = strO [59, 32, 125] from rfl, strO_cat, strO_cat]
      rw [hS] at HF
      have c1 : ∀ w, (Op.stringOp .add (⟨#[102, 110, 32, 102, 40, 41, 32, 123, 32, 114, 101, 116, 117, 114, 110, 32]⟩ : ByteArray) S0).run Tryz.prog w = .ok (.string S1) w := fun w => by rw [hS1]; exact run_string_add_sum w _ _ (by show 16 + _ ≤ _; omega)
      have c2 : ∀ w, (Op.stringOp .add S1 (⟨#[59, 32, 125]⟩ : ByteArray)).run Tryz.prog w = .ok (.string S2) w := fun w => by rw [hS2]; exact run_string_add_sum w _ _ (by show _ + 3 ≤ _; omega)
      have HSP := Lib.hid (fun w' (hk : Keeps [] w w') => spelt_any w' A l cap (by obtain ⟨g, h⟩ := HR.out; exact ⟨g, h.keep hk (by simp)⟩) (by rw [← HN.out]; exact hl) (by rw [← HN.out]; exact hc))
      rw [← HN.out] at HSP
      rw [← hS0]
      clear hcl hc5 htx hwl hXK hS0 hS1 hS2 hS
      go_wp2_with fail
      refine (HF.out _ (HE.out.keep HK.out)).mono ?_
      rintro e w2 ⟨v, rfl, hk2, b1, -, vp, vl, vb, rfl, hp, hlv, B, ⟨cs, hown, -, vs, ds, rfl, hsa, hds⟩, -⟩
      obtain rfl : ds = [] := hds
      obtain ⟨ve, vf, vc, va, vt, vl2, rfl, hex, -⟩ := hsa
      obtain ⟨x, rfl⟩ := ExAt.ptr hex
      obtain ⟨Ap, cp, hvp⟩ : ∃ A c, vp = .slice A 0 c := hp.form
      obtain ⟨Al, cl, hvl⟩ : ∃ A c, vl = .slice A 0 c := hlv.form
      obtain ⟨g, cb, hvb, hcells⟩ := row_at hown (by show ¬ (1 : Nat) = 0; omega)
      have hvb' : vb = .slice (some ⟨g, 0, none⟩) 1 cb := hvb
      subst hvp hvl
      subst hvb'
      have hs : strO [102] = (⟨#[102]⟩ : ByteArray) := rfl
      have hfn : (Px.ofn (l.map sgOf)).name = [102] := rfl
      rw [hfn, hs]
      have hka := (Keeps.refl [] w2).alloc (.cells #[.string ⟨#[102]⟩, .slice Ap 0 cp, .slice Al 0 cl, .slice (some ⟨g, 0, none⟩) 1 cb] 26)
      have HB := Lib.hid (show (w2.alloc (.cells #[.string ⟨#[102]⟩, .slice Ap 0 cp, .slice Al 0 cl, .slice (some ⟨g, 0, none⟩) 1 cb] 26)).heap[w2.heap.size]? = some (.cells #[.string ⟨#[102]⟩, .slice Ap 0 cp, .slice Al 0 cl, .slice (some ⟨g, 0, none⟩) 1 cb] 26 (0, 0)) from heap_alloc_new _ _)
      have HK := Lib.hid ((HK.out.trans hk2 (fun _ h _ => h)).trans hka (fun _ h _ => h))
      have hg3 := hka.cell_some (hcells 3 (.pointer (some ⟨x, 0, none⟩)) rfl) (by simp)
      have HEX := Lib.hid (show ExAt (w2.alloc (.cells #[.string ⟨#[102]⟩, .slice Ap 0 cp, .slice Al 0 cl, .slice (some ⟨g, 0, none⟩) 1 cb] 26)) b1 (Px.goT none (.num 1) 0 (l.map sgOf)) (.pointer (some ⟨x, 0, none⟩)) from ExAt.keep hka (by simp) hex)
      have hb3 := row_cell HB.out 3
      simp only [List.getElem?_toArray, List.getElem?_cons_zero, List.getElem?_cons_succ] at hb3
      have HWH := Lib.hid (whole_any _ _ _ _ HEX.out HOK.out.1 HOK.out.2)
      clear hk2 hp hlv hown hcells hvb hka hex
      go_wp2_with fail
      refine (HWH.out).mono ?_
      rintro e w3 ⟨rfl, hk3⟩
      have HK := Lib.hid (HK.out.trans hk3 (fun _ h _ => h))
      rw [HWS.out]
      obtain ⟨sz, hsz9⟩ : ∃ s, s = strO (Px.spS none [49] 0 (l.map sgOf)) := ⟨_, rfl⟩
      unfold WholeP at HSP
      rw [← hsz9] at HSP ⊢
      have hee : (sz.toList == sz.toList) = true := by simp
      clear hk3 hsz9
      go_wp2_with fail
      refine (HSP.out _ HK.out).mono ?_
      rintro e w4 ⟨rfl, hk4⟩
      have HK := Lib.hid (HK.out.trans hk4 (fun _ h _ => h))
      clear hk4
      go_wp2_with fail
      go_ret
      exact ⟨rfl, HK.out⟩
set_option maxHeartbeats 1000000 in
theorem porder_long (w : World) (he : ErrAt w) (A : Option Addr) (n cap : Nat) (hl : ¬ n ≤ 12) :
    Calls Tryz.prog 8 #[.slice A n cap] w (Yes w) := by
  have HK0 := Lib.hid (pknown_any w he)
  have hgt : decide ((12 : Int) < (n : Int)) = true := by simp; omega
  clear he
  go_enter Tryz.func8, Tryz.ntmps8
  go_wp2_with fail
  refine (HK0.out).mono ?_
  rintro e w1 ⟨rfl, hk1⟩
  have HK1 := Lib.hid hk1
  clear hk1
  go_wp2_with fail
  go_ret
  exact ⟨rfl, HK1.out⟩
theorem porder_any (W : World) (he : ErrAt W) (A0 : Option Addr) (l0 : List UInt8) (cap0 : Nat) (hr0 : ∃ g, BytesIn W g A0 l0) (_hl0 : l0.length ≤ maxLen) (hc0 : l0.length ≤ cap0) (_hm0 : cap0 ≤ maxLen) :
    Calls Tryz.prog 8 #[.slice A0 l0.length cap0] W (Yes W) := by
  by_cases h : l0.length ≤ 12
  · exact porder_walk W he A0 l0 cap0 hr0 h hc0
  · exact porder_long W he A0 _ cap0 h
end Go.Proofs.YtbikifibfaaggaaGreatDoor
