import Derived.Test.YtbikifibfaaggaaGreatDoorVMM
namespace Go.Proofs.YtbikifibfaaggaaGreatDoor
section
set_option maxHeartbeats 4000000
set_option maxRecDepth 100000
open Go.RowKit Go.Shelf
theorem toks_of_own2 {w : World} {base : Nat} {t : TypeId} {v : Value} {cs : List Lx.Tok} (h : w.ownsRow base t 3 v cs.length (tcells cs)) : ∃ A c g, v = .slice A cs.length c ∧ ToksIn w g A cs ∧ (cs ≠ [] → base ≤ g) ∧ cs.length ≤ c ∧ c ≤ maxLen := by
 obtain ⟨A, c, g, h1, h2, h3⟩ := toks_of_own h
 refine ⟨A, c, g, h1, h2, h3, ?_⟩
 rcases h.2 with ⟨rfl, h0⟩ | ⟨g', cap, cur, rfl, hb, hg, hn, hm, _⟩
 ·
  injection h1 with _ h1 h4
  subst h4
  exact ⟨by omega, Nat.zero_le _⟩
 ·
  injection h1 with _ _ h4
  subst h4
  exact ⟨hn, hm⟩
def LexC (w : World) (o : Lx.Out) (e : Ending) (w' : World) : Prop :=
 ∃ A c g, e = .returned (.tuple #[.slice A o.toks.length c, .int .i64 ((o.pos : Nat) : Int), .int .i64 ((o.err : Nat) : Int)]) ∧ ToksIn w' g A o.toks ∧ (o.toks ≠ [] → w.heap.size ≤ g) ∧ Keeps [] w w' ∧ o.toks.length ≤ c ∧ c ≤ maxLen
theorem tokens_cap (w : World) (l : List UInt8) (hl : l.length ≤ 5000) (he : ErrAt w) :
 Calls Tryz.prog 72 #[.string (strO l)] w (LexC w (Lx.toks l)) := by
 have HE := Hd he
 obtain ⟨s, hs⟩ : ∃ s, s = strO l := ⟨_, rfl⟩
 have hsz : s.size = l.length := by rw [hs, strO_len]
 obtain ⟨n, hn⟩ : ∃ n, n = l.length := ⟨_, rfl⟩
 rw [← hn] at hsz hl
 rw [← hs]
 have HS := Hd hs
 have HN := Hd hn
 clear he hs hn
 by_cases hg : 4096 < n
 ·
  have HT := Hd (show Lx.toks l = ⟨[], 0, 53⟩ by unfold Lx.toks; rw [if_pos (by have := HN.out; omega)])
  go_enter Tryz.func72, Tryz.ntmps72
  go_wp2_with fail
  go_ret3
  rw [HT.out]
  exact ⟨none, 0, 0, rfl, .inl rfl, fun h => absurd rfl h, Keeps.refl _ _, Nat.le_refl _, Nat.zero_le _⟩
 ·
  have HT := Hd (show Lx.toks l = Lx.scan l 0 [] by unfold Lx.toks; rw [if_neg (by have := HN.out; omega)])
  obtain ⟨o, ho⟩ : ∃ o, o = Lx.toks l := ⟨_, rfl⟩
  rw [← ho] at HT ⊢
  obtain ⟨iP, hP, hP0, hP1, hP2⟩ := info_parts infoTok
  clear ho
  go_enter Tryz.func72, Tryz.ntmps72
  go_wp2_with fail
  go_loopw [5, 6, 17] (fun tv fv iv wr => ∃ (k f : Nat) (ts : List Lx.Tok), k ≤ n ∧ f ≤ k ∧ fv = .int .i64 (f : Int) ∧ iv = .int .i64 (k : Int) ∧ (k < n → ∀ i, 1 ≤ i → i ≤ k - f → Lx.joinAt (l.drop f) i = true) ∧ (k = n → f = n) ∧ wr.ownsRow w.heap.size 53 3 tv ts.length (tcells ts) ∧ Keeps [] w wr ∧ Lx.scan l f ts = o ∧ ts.length ≤ f) (fun _ _ iv _ => n - (RowKit.intOf iv).toNat)
  case atStart => exact ⟨0, 0, [], by omega, by omega, rfl, rfl, fun _ i h1 h2 => by omega, fun h => h, World.ownsRow_nil _ _ _ _, Keeps.refl _ _, HT.out.symm, Nat.le_refl _⟩
  case round =>
   obtain ⟨k, f, ts, hk, hf, rfl, rfl, hr, hend, ho, hkk, hsc, hts⟩ := hrel
   have HO := Hd ho
   have HK := Hd hkk
   have HR := Hd hr
   have HSC := Hd hsc
   clear ho hkk hr hsc
   by_cases hlt : k < n
   ·
    clear hend
    have hrun := HR.out hlt
    have hln := HN.out
    have hfl : f < l.length := by omega
    have hdl : (l.drop f).length = n - f := by rw [List.length_drop]; omega
    have hb0 : (l.drop f)[0]? = some l[f] := by rw [List.getElem?_drop, Nat.add_zero, List.getElem?_eq_getElem hfl]
    have HEX := Hd (fun j => show s.extract f j = strO ((l.drop f).take (j - f)) by rw [HS.out, strO_extract])
    by_cases hjn : k + 1 < n ∧ Lx.joinAt (l.drop f) (k + 1 - f) = true
    ·
     obtain ⟨hnx, hj⟩ := hjn
     have hcl : (l.drop f)[k + 1 - f]? = some (l[k + 1]'(by omega)) := by rw [List.getElem?_drop, show f + (k + 1 - f) = k + 1 by omega, List.getElem?_eq_getElem (by omega)]
     have HJ := Hd (fun w' => joins_any w' ((l.drop f).take (k + 1 + 1 - f)) l[f] (l[k + 1]'(by omega)) (by rw [List.getElem?_take_of_lt (by omega)]; exact hb0) (k + 1 - f) (by rw [List.length_take]; omega) (by rw [List.getElem?_take_of_lt (by omega)]; exact hcl) (by omega))
     have HJ2 : Hid (∀ w', Calls Tryz.prog 108 #[.string (s.extract f (k + 1 + 1))] w' fun e w2 => e = .returned (.bool true) ∧ w' = w2) := Hd (fun w' => by
      have h := HJ.out w'
      have h2 := Lx.joinAt_eq hb0 hcl
      rw [show k + 1 - f + 1 = k + 1 + 1 - f by omega, hj] at h2
      rw [← h2] at h
      rw [HEX.out]; exact h)
     have HRN := Hd (show k + 1 < n → ∀ i, 1 ≤ i → i ≤ k + 1 - f → Lx.joinAt (l.drop f) i = true from fun _ i h1 h2 => by
      by_cases h : i = k + 1 - f
      · rw [h]; exact hj
      · exact hrun i h1 (by omega))
     clear HJ hcl hj hrun hln hfl hdl hb0 HEX
     go_wp2_with fail
     refine (same (HJ2.out wr)) ?_
     go_wp2_with fail
     go_roundw
     case rel => exact ⟨k + 1, f, ts, by omega, by omega, rfl, by go_num, HRN.out, fun h => by omega, HO.out, HK.out, HSC.out, hts⟩
     case measure => simp [intOf]; omega
    ·
     have HPL := Hd (show Lx.pieceLen (l.drop f) = k - f + 1 from Lx.piece_of_run (by omega) hrun (fun h => by
      by_cases hnx : k + 1 < n
      ·
       have : ¬ Lx.joinAt (l.drop f) (k + 1 - f) = true := fun h => hjn ⟨hnx, h⟩
       rw [show k - f + 1 = k + 1 - f by omega]
       simpa using this
      · omega))
     obtain ⟨pc, hpc⟩ : ∃ x, x = (l.drop f).take (k - f + 1) := ⟨_, rfl⟩
     have hpl : pc.length = k + 1 - f := by rw [hpc, List.length_take]; omega
     have HPC := Hd hpc
     have hpx : s.extract f (k + 1) = strO pc := by rw [HEX.out, hpc, show k + 1 - f = k - f + 1 by omega]
     have hp0 : pc ≠ [] := fun h => by rw [h] at hpl; simp at hpl; omega
     have hp5 : pc.length ≤ 5000 := by omega
     obtain ⟨q, hq⟩ : ∃ q, q = s.extract f (k + 1) := ⟨_, rfl⟩
     rw [← hq] at hpx
     have HQ := Hd hq
     have HQP := Hd hpx
     obtain ⟨jd, hjd⟩ : ∃ j, j = Lx.judge pc := ⟨_, rfl⟩
     have HJD := Hd hjd
     have HRD : Hid (∀ w', ErrAt w' → Calls Tryz.prog 109 #[.string (s.extract f (k + 1))] w' fun e w2 => e = .returned (.tuple #[.int .i64 (kindI jd.1), .int .i64 ((jd.2 : Nat) : Int)]) ∧ Keeps [] w' w2) := Hd (fun w' h => by
      have := read_any w' pc hp0 hp5 h
      rw [← hjd] at this
      rw [← hq, hpx]; exact this)
     have HCL : Hid (∀ w', Calls Tryz.prog 110 #[.string (s.extract f (k + 1))] w' fun e w2 => e = .returned (.string q) ∧ Keeps [] w' w2) := Hd (fun w' => by
      rw [← hq, hpx]; exact sclone_any w' pc hp5)
     have hcase : (k + 1 < n ∧ Lx.joinAt (l.drop f) (k + 1 - f) = false) ∨ k + 1 = n := by
      by_cases hnx : k + 1 < n
      ·
       left
       have : ¬ Lx.joinAt (l.drop f) (k + 1 - f) = true := fun h => hjn ⟨hnx, h⟩
       exact ⟨hnx, by simpa using this⟩
      · right; omega
     have HJ2 : Hid (k + 1 < n → Lx.joinAt (l.drop f) (k + 1 - f) = false → ∀ w', Calls Tryz.prog 108 #[.string (s.extract f (k + 1 + 1))] w' fun e w2 => e = .returned (.bool false) ∧ w' = w2) := Hd (fun hnx hj w' => by
      have hcl : (l.drop f)[k + 1 - f]? = some (l[k + 1]'(by omega)) := by rw [List.getElem?_drop, show f + (k + 1 - f) = k + 1 by omega, List.getElem?_eq_getElem (by omega)]
      have h := joins_any w' ((l.drop f).take (k + 1 + 1 - f)) l[f] (l[k + 1]'(by omega)) (by rw [List.getElem?_take_of_lt (by omega)]; exact hb0) (k + 1 - f) (by rw [List.length_take]; omega) (by rw [List.getElem?_take_of_lt (by omega)]; exact hcl) (by omega)
      have h2 := Lx.joinAt_eq hb0 hcl
      rw [show k + 1 - f + 1 = k + 1 + 1 - f by omega, hj] at h2
      rw [← h2] at h
      rw [HEX.out]; exact h)
     obtain ⟨kd, er⟩ := jd
     have HST : Hid (er = 0 → Lx.scan l (k + 1) (Lx.addTok ts kd pc f) = o) := Hd (fun h0 => by
      subst h0
      have := Lx.scan_step (acc := ts) hfl HPL.out HPC.out.symm HJD.out.symm
      rw [show f + (k - f + 1) = k + 1 by omega] at this
      rw [← this]; exact HSC.out)
     have HSE : Hid (er ≠ 0 → o = ⟨[], f, er⟩) := Hd (fun h0 => by
      rw [← HSC.out]; exact Lx.scan_err (acc := ts) hfl HPL.out HPC.out.symm HJD.out.symm h0)
     clear hjn hrun hln hfl hdl hb0 HEX hpc hpl hpx hp0 hp5 hq hjd HPL HPC
     have HCASE := Hd hcase
     have HRN := Hd (show k + 1 < n → ∀ i, 1 ≤ i → i ≤ k + 1 - (k + 1) → Lx.joinAt (l.drop (k + 1)) i = true from fun _ i h1 h2 => by omega)
     obtain ⟨ki, hki⟩ : ∃ x, x = kindI kd := ⟨_, rfl⟩
     obtain ⟨ei, hei⟩ : ∃ x : Int, x = ((er : Nat) : Int) := ⟨_, rfl⟩
     have HRD' : Hid (∀ w', ErrAt w' → Calls Tryz.prog 109 #[.string (s.extract f (k + 1))] w' fun e w2 => e = .returned (.tuple #[.int .i64 ki, .int .i64 ei]) ∧ Keeps [] w' w2) := Hd (by rw [hki, hei]; exact HRD.out)
     have HKI := Hd hki
     have HEI := Hd hei
     clear hki hei HRD
     by_cases hcase1 : k + 1 < n
     ·
      replace hcase : k + 1 < n ∧ Lx.joinAt (l.drop f) (k + 1 - f) = false := by rcases hcase with h | h; exact h; omega
      obtain ⟨hnx, hj⟩ := hcase
      have HJ3 := Hd (HJ2.out hnx hj)
      clear HJ2 hj
      by_cases h0 : er = 0
      ·
       cases kd with
       | none =>
        have hei0 : ei = 0 := by rw [HEI.out, h0]; rfl
        have hki0 : ki = -1 := HKI.out
        rw [hei0, hki0] at HRD'
        have HST' : Hid (Lx.scan l (k + 1) ts = o) := Hd (HST.out h0)
        clear HST HSE HEI h0 hei0 HKI hki0
        go_wp2_with fail
        refine (same (HJ3.out wr)) ?_
        go_wp2_with fail
        refine (HRD'.out wr (HE.out.keep HK.out)).mono ?_
        rintro e w1 ⟨rfl, hk1⟩
        have HK1 := Hd (HK.out.trans hk1 (by simp))
        have HO1 := Hd (owned_keep3 HO.out hk1)
        clear hk1
        go_wp2_with fail
        go_roundw
        case rel => exact ⟨k + 1, k + 1, ts, by omega, by omega, by go_num, by go_num, HRN.out, fun h => h, HO1.out, HK1.out, HST'.out, by omega⟩
        case measure => simp [intOf]; omega
       | some kk =>
        have hei0 : ei = 0 := by rw [HEI.out, h0]; rfl
        have hki0 : ki = ((kk : Nat) : Int) := HKI.out
        rw [hei0, hki0] at HRD'
        have HST' : Hid (Lx.scan l (k + 1) (ts ++ [Lx.Tok.mk kk pc f]) = o) := Hd (HST.out h0)
        have hkn : (((kk : Nat) : Int) != -1) = true := by first | (simp; done) | (simp; omega)
        clear HST HSE HEI h0 hei0 HKI hki0
        go_wp2_with fail
        refine (same (HJ3.out wr)) ?_
        go_wp2_with fail
        refine (HRD'.out wr (HE.out.keep HK.out)).mono ?_
        rintro e w1 ⟨rfl, hk1⟩
        have HK1 := Hd (HK.out.trans hk1 (by simp))
        have HO1 := Hd (owned_keep3 HO.out hk1)
        clear hk1
        go_wp2_with fail
        refine (HCL.out w1).mono ?_
        rintro e w2 ⟨rfl, hk2⟩
        have HK2 := Hd (HK1.out.trans hk2 (by simp))
        have HO2 := Hd (owned_keep3 HO1.out hk2)
        clear hk2
        go_wp2_with (at_builtin; refine wpList_append_own _ rfl _ _ 49 rfl w.heap.size 53 iP (.agg #[.int .i64 0, .string .empty, .int .i64 0]) 3 32 Tryz.underlying49 hP hP0 hP1 hP2 rfl (by decide) u5 ts.length (tcells ts) rfl (HO2.out.alloc _) ⟨w2.heap.size, 0, none⟩ 1 1 [.int .i64 ((kk : Nat) : Int), .string q, .int .i64 (f : Int)] rfl rfl ?qa1 ?qa2 ?qa3 ?qa4 ?qa5 ?_)
        case qa1 =>
         intro j u hj
         rw [Addr.add_lit, Nat.zero_add, row_cell (heap_alloc_new w2 _)]
         match j, hj with
         | 0, hj => simpa using hj
         | 1, hj => simpa using hj
         | 2, hj => simpa using hj
         | j + 3, hj => simp at hj
        case qa2 => intro u hu; simp at hu; rcases hu with rfl | rfl | rfl <;> rfl
        case qa3 => unfold maxLen; omega
        case qa4 => omega
        case qa5 => have := HK2.out.size; simp; omega
        intro v' w3 hown' hgrow _
        have HO3 := Hd (show w3.ownsRow w.heap.size 53 3 v' (ts ++ [Lx.Tok.mk kk pc f]).length (tcells (ts ++ [Lx.Tok.mk kk pc f])) by
         rw [tcells_snoc, List.length_append]
         rw [HQP.out] at hown'
         exact hown')
        have HK3 := Hd (show Keeps [] w w3 from (HK2.out.alloc _).fresh (Keeps.of_grown hgrow) (fun y hy => (HO2.out.lt y (by simpa using hy)).1))
        clear hown' hgrow
        go_wp2_with fail
        go_roundw
        case rel => exact ⟨k + 1, k + 1, ts ++ [Lx.Tok.mk kk pc f], by omega, by omega, by go_num, by go_num, HRN.out, fun h => h, HO3.out, HK3.out, HST'.out, by rw [List.length_append]; simp; omega⟩
        case measure => simp [intOf]; omega
      ·
       have HR2 := Hd (HSE.out h0)
       have hei0 : (ei != 0) = true := by rw [HEI.out]; first | (simp; done) | (simp; omega)
       clear HSE HST h0
       go_wp2_with fail
       refine (same (HJ3.out wr)) ?_
       go_wp2_with fail
       refine (HRD'.out wr (HE.out.keep HK.out)).mono ?_
       rintro e w1 ⟨rfl, hk1⟩
       have HK1 := Hd (HK.out.trans hk1 (by simp))
       have HO1 := Hd (owned_keep3 HO.out hk1)
       clear hk1
       go_wp2_with fail
       go_ret3
       rw [HR2.out, HEI.out]
       exact ⟨none, 0, 0, rfl, .inl rfl, fun h => absurd rfl h, HK1.out, Nat.le_refl _, Nat.zero_le _⟩
     ·
      replace hcase : k + 1 = n := by rcases hcase with h | h; exact absurd h.1 hcase1; exact h
      have hge : n ≤ k + 1 := by omega
      clear HJ2 hcase hcase1
      by_cases h0 : er = 0
      ·
       cases kd with
       | none =>
        have hei0 : ei = 0 := by rw [HEI.out, h0]; rfl
        have hki0 : ki = -1 := HKI.out
        rw [hei0, hki0] at HRD'
        have HST' : Hid (Lx.scan l (k + 1) ts = o) := Hd (HST.out h0)
        clear HST HSE HEI h0 hei0 HKI hki0
        go_wp2_with fail
        refine (HRD'.out wr (HE.out.keep HK.out)).mono ?_
        rintro e w1 ⟨rfl, hk1⟩
        have HK1 := Hd (HK.out.trans hk1 (by simp))
        have HO1 := Hd (owned_keep3 HO.out hk1)
        clear hk1
        go_wp2_with fail
        go_roundw
        case rel => exact ⟨k + 1, k + 1, ts, by omega, by omega, by go_num, by go_num, HRN.out, fun h => h, HO1.out, HK1.out, HST'.out, by omega⟩
        case measure => simp [intOf]; omega
       | some kk =>
        have hei0 : ei = 0 := by rw [HEI.out, h0]; rfl
        have hki0 : ki = ((kk : Nat) : Int) := HKI.out
        rw [hei0, hki0] at HRD'
        have HST' : Hid (Lx.scan l (k + 1) (ts ++ [Lx.Tok.mk kk pc f]) = o) := Hd (HST.out h0)
        have hkn : (((kk : Nat) : Int) != -1) = true := by first | (simp; done) | (simp; omega)
        clear HST HSE HEI h0 hei0 HKI hki0
        go_wp2_with fail
        refine (HRD'.out wr (HE.out.keep HK.out)).mono ?_
        rintro e w1 ⟨rfl, hk1⟩
        have HK1 := Hd (HK.out.trans hk1 (by simp))
        have HO1 := Hd (owned_keep3 HO.out hk1)
        clear hk1
        go_wp2_with fail
        refine (HCL.out w1).mono ?_
        rintro e w2 ⟨rfl, hk2⟩
        have HK2 := Hd (HK1.out.trans hk2 (by simp))
        have HO2 := Hd (owned_keep3 HO1.out hk2)
        clear hk2
        go_wp2_with (at_builtin; refine wpList_append_own _ rfl _ _ 49 rfl w.heap.size 53 iP (.agg #[.int .i64 0, .string .empty, .int .i64 0]) 3 32 Tryz.underlying49 hP hP0 hP1 hP2 rfl (by decide) u5 ts.length (tcells ts) rfl (HO2.out.alloc _) ⟨w2.heap.size, 0, none⟩ 1 1 [.int .i64 ((kk : Nat) : Int), .string q, .int .i64 (f : Int)] rfl rfl ?qa1 ?qa2 ?qa3 ?qa4 ?qa5 ?_)
        case qa1 =>
         intro j u hj
         rw [Addr.add_lit, Nat.zero_add, row_cell (heap_alloc_new w2 _)]
         match j, hj with
         | 0, hj => simpa using hj
         | 1, hj => simpa using hj
         | 2, hj => simpa using hj
         | j + 3, hj => simp at hj
        case qa2 => intro u hu; simp at hu; rcases hu with rfl | rfl | rfl <;> rfl
        case qa3 => unfold maxLen; omega
        case qa4 => omega
        case qa5 => have := HK2.out.size; simp; omega
        intro v' w3 hown' hgrow _
        have HO3 := Hd (show w3.ownsRow w.heap.size 53 3 v' (ts ++ [Lx.Tok.mk kk pc f]).length (tcells (ts ++ [Lx.Tok.mk kk pc f])) by
         rw [tcells_snoc, List.length_append]
         rw [HQP.out] at hown'
         exact hown')
        have HK3 := Hd (show Keeps [] w w3 from (HK2.out.alloc _).fresh (Keeps.of_grown hgrow) (fun y hy => (HO2.out.lt y (by simpa using hy)).1))
        clear hown' hgrow
        go_wp2_with fail
        go_roundw
        case rel => exact ⟨k + 1, k + 1, ts ++ [Lx.Tok.mk kk pc f], by omega, by omega, by go_num, by go_num, HRN.out, fun h => h, HO3.out, HK3.out, HST'.out, by rw [List.length_append]; simp; omega⟩
        case measure => simp [intOf]; omega
      ·
       have HR2 := Hd (HSE.out h0)
       have hei0 : (ei != 0) = true := by rw [HEI.out]; first | (simp; done) | (simp; omega)
       clear HSE HST h0
       go_wp2_with fail
       refine (HRD'.out wr (HE.out.keep HK.out)).mono ?_
       rintro e w1 ⟨rfl, hk1⟩
       have HK1 := Hd (HK.out.trans hk1 (by simp))
       have HO1 := Hd (owned_keep3 HO.out hk1)
       clear hk1
       go_wp2_with fail
       go_ret3
       rw [HR2.out, HEI.out]
       exact ⟨none, 0, 0, rfl, .inl rfl, fun h => absurd rfl h, HK1.out, Nat.le_refl _, Nat.zero_le _⟩
   ·
    have hkn : k = n := by omega
    subst hkn
    have hfn := hend rfl
    subst hfn
    clear hend
    obtain ⟨A, c, g, rfl, hti, htb, hcc⟩ := toks_of_own2 HO.out
    have HCC := Hd hcc
    clear hcc
    have HTI := Hd hti
    have HTB := Hd htb
    have HR2 := Hd (HSC.out.symm.trans (Lx.scan_end (by have := HN.out; omega)))
    clear hti htb
    go_wp2_with fail
    go_ret3
    rw [HR2.out]
    exact ⟨A, c, g, rfl, HTI.out, HTB.out, HK.out, HCC.out.1, HCC.out.2⟩
end
section
set_option maxHeartbeats 4000000
set_option maxRecDepth 100000
open Go.RowKit Go.Shelf
open Lx (Tok Tx)
open Px (Ex Cn Sm Vr)
theorem SsAt.keepS {lo : Nat} {w w' : World} {b : Nat} {p : List Sm × Nat} {v : Value} {S : List Nat} (h : SsAt lo w b p v) (hk : Keeps S w w') (hS : ∀ y ∈ S, y ≤ b) : SsAt lo w' b p v := by
 obtain ⟨B, h1, h2⟩ := h
 exact ⟨B, h1.keep hk (fun y hy => .inl (hS y hy)), fun g hg => ⟨(h2 g hg).1, by have := (h2 g hg).2; have := hk.size; omega⟩⟩
abbrev Val {α : Type} (At : World → Nat → α → Value → Prop) (zero : Value) (lo : Nat) (w' : World) (g : Option α) (v : Value) : Prop := match g with | some a => ∃ b, lo ≤ b ∧ At w' b a v | none => v = zero
def AttP {α : Type} (At : World → Nat → α → Value → Prop) (zero : Value) (w : World) (g : Px.Got α) (e : Ending) (w' : World) : Prop :=
 ∃ v, e = .returned (.tuple #[v, .int .i64 ((g.pos : Nat) : Int), .int .i64 ((g.err : Nat) : Int)]) ∧ Keeps [] w w' ∧ Val At zero w.heap.size w' g.val v
theorem attempt_F (w : World) (l : Tx) (hl : l.length ≤ 5000) (he : ErrAt w) :
 Calls Tryz.prog 33 #[.string (strO l), .func (.func 34) #[] #[]] w (AttP FnAt (.agg #[.string .empty, .slice none 0 0, .slice none 0 0, .slice none 0 0]) w (Px.funcT l)) := by
 obtain ⟨GG, hgg⟩ : ∃ x, x = Px.funcT l := ⟨_, rfl⟩
 rw [← hgg]
 have HGG := Hd hgg
 clear hgg
 have HT := Hd (fun w' (h : ErrAt w') => tokens_cap w' l hl h)
 have hmf := hmf0
 have HE := Hd he
 have HSL := Hd (strO_len l)
 obtain ⟨o, ho⟩ : ∃ o, o = Lx.toks l := ⟨_, rfl⟩
 rw [← ho] at HT
 have HO := Hd ho
 obtain ⟨s, hs⟩ : ∃ s, s = strO l := ⟨_, rfl⟩
 rw [← hs] at HT HSL ⊢
 have hsz3 : (((w.alloc (.cells #[.string .empty, .slice none 0 0, .slice none 0 0, .slice none 0 0] 26)).alloc (.cells #[.int .i64 0] 3)).alloc (.cells #[.int .i64 0] 27)).heap.size = w.heap.size + 3 := by simp
 have HKA := Hd (show Keeps [] w (((w.alloc (.cells #[.string .empty, .slice none 0 0, .slice none 0 0, .slice none 0 0] 26)).alloc (.cells #[.int .i64 0] 3)).alloc (.cells #[.int .i64 0] 27)) from (((Keeps.refl [] w).alloc _).alloc _).alloc _)
 have HB0 := Hd (show (((w.alloc (.cells #[.string .empty, .slice none 0 0, .slice none 0 0, .slice none 0 0] 26)).alloc (.cells #[.int .i64 0] 3)).alloc (.cells #[.int .i64 0] 27)).heap[w.heap.size]? = some (.cells #[.string .empty, .slice none 0 0, .slice none 0 0, .slice none 0 0] 26 (0, 0)) from block_keep (block_keep (heap_alloc_new w (.cells #[.string .empty, .slice none 0 0, .slice none 0 0, .slice none 0 0] 26)) ((Keeps.refl [] _).alloc _) (by simp)) ((Keeps.refl [] _).alloc _) (by simp))
 have HB1 := Hd (show (((w.alloc (.cells #[.string .empty, .slice none 0 0, .slice none 0 0, .slice none 0 0] 26)).alloc (.cells #[.int .i64 0] 3)).alloc (.cells #[.int .i64 0] 27)).heap[w.heap.size + 1]? = some (.cells #[.int .i64 0] 3 (0, 0)) from block_keep (by have := heap_alloc_new (w.alloc (.cells #[.string .empty, .slice none 0 0, .slice none 0 0, .slice none 0 0] 26)) (.cells #[.int .i64 0] 3); simpa using this) ((Keeps.refl [] _).alloc _) (by simp))
 have HB2 := Hd (show (((w.alloc (.cells #[.string .empty, .slice none 0 0, .slice none 0 0, .slice none 0 0] 26)).alloc (.cells #[.int .i64 0] 3)).alloc (.cells #[.int .i64 0] 27)).heap[w.heap.size + 2]? = some (.cells #[.int .i64 0] 27 (0, 0)) by have := heap_alloc_new ((w.alloc (.cells #[.string .empty, .slice none 0 0, .slice none 0 0, .slice none 0 0] 26)).alloc (.cells #[.int .i64 0] 3)) (.cells #[.int .i64 0] 27); simpa using this)
 have HSZA := Hd hsz3
 clear he ho hs hsz3
 go_enter_defers Tryz.func33, Tryz.ntmps33
 go_wp2_with fail
 refine (HT.out _ (HE.out.keep HKA.out)).mono ?_
 rintro e w1 ⟨A, c, g, rfl, h1, h2, h3, h4, h5⟩
 have HCAP := Hd (And.intro h4 h5)
 have HTI := Hd h1
 have HTG := Hd h2
 have HB0 := Hd (block_keep HB0.out h3 (by simp))
 have HB1 := Hd (block_keep HB1.out h3 (by simp))
 have HB2 := Hd (block_keep HB2.out h3 (by simp))
 have HK1 := zV HKA h3
 have HSZ1 := Hd h3.size
 clear h1 h2 h3 h4 h5
 obtain ⟨X0, hX0⟩ : ∃ x, x = w.heap.size := ⟨_, rfl⟩
 rw [← hX0] at HB0 HB1 HB2
 obtain ⟨X1, hX1⟩ : ∃ x, x = X0 + 1 := ⟨_, rfl⟩
 obtain ⟨X2, hX2⟩ : ∃ x, x = X1 + 1 := ⟨_, rfl⟩
 have hx2 : X0 + 2 = X2 := by omega
 rw [← hX1] at HB1
 rw [hx2] at HB2
 have n01 : X0 ≠ X1 := by omega
 have n10 : X1 ≠ X0 := by omega
 have n02 : X0 ≠ X2 := by omega
 have n20 : X2 ≠ X0 := by omega
 have n12 : X1 ≠ X2 := by omega
 have n21 : X2 ≠ X1 := by omega
 have HX := Hd (And.intro hX0 (And.intro hX1 hX2))
 simp only [← hX0, ← hX1, ← hX2]
 clear hX0 hX1 hX2 hx2
 have hrow := HB0.out
 obtain ⟨c0_0, f0_0, c0_1, f0_1, c0_2, f0_2, c0_3, f0_3⟩ := row4 hrow
 clear hrow
 have hrow := HB1.out
 have f1_0 := row_free hrow 0
 have c1_0 := row_cell hrow 0
 simp only [List.getElem?_toArray, List.getElem?_cons_zero] at c1_0
 clear hrow
 have hrow := HB2.out
 have f2_0 := row_free hrow 0
 have c2_0 := row_cell hrow 0
 simp only [List.getElem?_toArray, List.getElem?_cons_zero] at c2_0
 clear hrow
 by_cases hz : o.err = 0
 ·
  have hz1 : (((o.err : Nat) : Int) != 0) = false := by simp [hz]
  have hz2 : ((o.err : Nat) : Int) = 0 := by simp [hz]
  have hG : Px.funcT l = Px.top l.length (Px.funcR (Px.fuelOf o.toks) o.toks) := by unfold Px.funcT; rw [if_pos (by rw [← HO.out]; exact hz), ← HO.out]
  have HG := Hd hG
  have hgood := toks_good l
  rw [← HO.out] at hgood
  have HGOOD := Hd hgood
  clear hz hG hgood
  obtain ⟨b, hb⟩ : ∃ b, b = w1.heap.size := ⟨_, rfl⟩
  have HBB := Hd hb
  obtain ⟨wa, hwa⟩ : ∃ x, x = ((w1.setCell ⟨X1, 0, none⟩ (.int .i64 ((o.pos : Nat) : Int))).setCell ⟨X2, 0, none⟩ (.int .i64 0)) := ⟨_, rfl⟩
  have HWA := Hd hwa
  have hlt0 := block_lt HB0.out
  have hlt1 := block_lt HB1.out
  have hlt2 := block_lt HB2.out
  have hka : Keeps [X1, X2] w1 wa := by
   rw [hwa]
   repeat (refine Keeps.setCell ?_ (by simp) _)
   exact Keeps.refl _ _
  have hsza : wa.heap.size = b := by rw [hwa, hb]; simp [World.setCell]
  have ha0 := block_keep HB0.out hka (by simp; omega)
  have ha1 : wa.heap[X1]? = some (.cells #[.int .i64 ((o.pos : Nat) : Int)] 3 (0, 0)) := by rw [hwa, set_other n12, row_set HB1.out]; rfl
  have ha2 : wa.heap[X2]? = some (.cells #[.int .i64 0] 27 (0, 0)) := by
   have h2' : (w1.setCell ⟨X1, 0, none⟩ (.int .i64 ((o.pos : Nat) : Int))).heap[X2]? = some (.cells #[.int .i64 0] 27 (0, 0)) := by rw [set_other n21]; exact HB2.out
   rw [hwa, row_set h2']; rfl
  have hg2 : o.toks ≠ [] → X2 < g := fun hne => by
   have h7 := HTG.out hne
   rw [HSZA.out] at h7
   have h8 := HX.out
   omega
  have hta : ToksIn wa g A o.toks := by
   by_cases hne : o.toks = []
   · exact .inl hne
   · exact HTI.out.keep hka (by have := hg2 hne; have h8 := HX.out; simp; omega)
  have hgb : ∃ g', ToksIn wa g' A o.toks ∧ g' < b := by
   by_cases hne : o.toks = []
   · exact ⟨X0, .inl hne, by omega⟩
   ·
    refine ⟨g, hta, ?_⟩
    rcases hta with h0 | ⟨off, _, hc⟩
    · exact absurd h0 hne
    ·
     have := World.block_lt_of_cell? wa _ (hc 0 (List.length_pos_iff.2 hne)).1
     simpa [hsza] using this
  obtain ⟨g', hta', hgb'⟩ := hgb
  obtain ⟨wd, hwd⟩ : ∃ x, x = (wa.alloc (.cells #[.slice A o.toks.length c, .int .i64 (s.size : Int), .int .i64 0, .int .i64 0] 133)).alloc (.cells #[.pointer (some ⟨b, 0, none⟩)] 129) := ⟨_, rfl⟩
  have hkd : Keeps [] wa wd := by rw [hwd]; exact ((Keeps.refl _ _).alloc _).alloc _
  have hrb : wd.heap[b]? = some (.cells #[.slice A o.toks.length c, .int .i64 (s.size : Int), .int .i64 0, .int .i64 0] 133 (0, 0)) := by
   rw [hwd]
   refine block_keep ?_ ((Keeps.refl [] _).alloc _) (by simp)
   have := heap_alloc_new wa (.cells #[.slice A o.toks.length c, .int .i64 (s.size : Int), .int .i64 0, .int .i64 0] 133)
   rw [hsza] at this
   exact this
  have hrq : wd.heap[b + 1]? = some (.cells #[pp b] 129 (0, 0)) := by
   rw [hwd]
   have := heap_alloc_new (wa.alloc (.cells #[.slice A o.toks.length c, .int .i64 (s.size : Int), .int .i64 0, .int .i64 0] 133)) (.cells #[.pointer (some ⟨b, 0, none⟩)] 129)
   have h8 : (wa.alloc (.cells #[.slice A o.toks.length c, .int .i64 (s.size : Int), .int .i64 0, .int .i64 0] 133)).heap.size = b + 1 := by simp [hsza]
   rw [h8] at this
   exact this
  have hpa : PAt wd b l.length o.toks 0 0 := ⟨HGOOD.out, A, c, g', by rw [hrb, HSL.out]; rfl, hta'.keep hkd (by simp), hgb', HCAP.out.1, HCAP.out.2⟩
  have HPA := Hd hpa
  have HD0 := Hd (block_keep ha0 hkd (by simp))
  have HD1 := Hd (block_keep ha1 hkd (by simp))
  have HD2 := Hd (block_keep ha2 hkd (by simp))
  have HDQ := Hd hrq
  have HKD := Hd (show Keeps [] w wd from by
   have h8 := HX.out
   have hk2 := HK1.out.hi hka (fun y hy => by simp at hy; omega)
   exact hk2.trans hkd (by simp))
  have HXB := Hd (show X0 < b ∧ X1 < b ∧ X2 < b from by rw [hb]; exact ⟨hlt0, hlt1, hlt2⟩)
  have HW := Hd (function_any wd b l.length o.toks (Px.fuelOf o.toks) HPA.out (by unfold Px.fuelOf; omega))
  have HWD := Hd hwd
  have hb' := hb.symm
  clear hwa hlt0 hlt1 hlt2 hka hsza ha0 ha1 ha2 hg2 hta hta' hgb' hkd hrb hrq hpa hwd hb
  obtain ⟨rr, hrr⟩ : ∃ x, x = Px.funcR (Px.fuelOf o.toks) o.toks := ⟨_, rfl⟩
  rw [← hrr] at HW
  have hG := HG.out
  rw [← hrr] at hG
  have HG := Hd (HGG.out.trans hG)
  clear hrr hG hb'
  have e1 := HWD.out
  subst e1
  have e2 := HWA.out
  subst e2
  have e3 := HBB.out
  subst e3
  clear HWD HWA HBB
  go_wp2_with fail
  refine (HW.out).mono ?_
  intro e w2 hr
  cases rr with
  | err z r =>
   obtain ⟨rfl, ⟨o', k', h4⟩, h5⟩ := hr
   have H4 := Hd h4
   have hxb := HXB.out
   have HE0 := Hd (block_keep HD0.out h5 (by simp; omega))
   have HE1 := Hd (block_keep HD1.out h5 (by simp; omega))
   have HE2 := Hd (block_keep HD2.out h5 (by simp; omega))
   have HEQ := Hd (block_keep HDQ.out h5 (by simp))
   have HKE := Hd (HKD.out.hi h5 (fun y hy => by have := HX.out; simp at hy; omega))
   clear h4 h5 hxb
   go_wp2
   refine leaves_cons (f := 73) (args := #[.pointer (some ⟨w1.heap.size + 1, 0, none⟩), .pointer (some ⟨X1, 0, none⟩), .pointer (some ⟨X2, 0, none⟩)]) (by simp) (by simp [go_sem]) ?_
   unfold died
   have hxb := HXB.out
   refine (panicking_F w1.heap.size l.length _ _ X1 X2 (w1.heap.size + 1) (r) (z : Int) _ _ [] _ H4.out (by have := row_cell HEQ.out 0; simpa using this) HE1.out HE2.out n12 (by omega) (by omega)).mono ?_
   rintro e u' w'' ⟨rfl, rfl, hk, q1, q2⟩
   have q0 := block_keep HE0.out hk (by simp; exact ⟨n01, n02⟩)
   have r0_0 := row_cell q0 0
   have r0_1 := row_cell q0 1
   have r0_2 := row_cell q0 2
   have r0_3 := row_cell q0 3
   have r1' := row_cell q1 0
   have r2' := row_cell q2 0
   simp only [List.getElem?_toArray, List.getElem?_cons_zero, List.getElem?_cons_succ] at r0_0 r0_1 r0_2 r0_3 r1' r2'
   simp [Leaves, settle, results, Tryz.results33, go_sem, r0_0, r0_1, r0_2, r0_3, r1', r2']
   rw [HG.out]
   have hx := HX.out
   exact ⟨_, rfl, HKE.out.hi hk (fun y hy => by simp at hy; omega), rfl⟩
  | ok a r =>
   obtain ⟨v, rfl, h3, h4, h5⟩ := hr
   obtain ⟨vp, vl, vb, rfl, h3a, h3b, h3c⟩ := h3
   obtain ⟨Ap, cp, rfl⟩ := h3a.form
   obtain ⟨Al, cl, rfl⟩ := h3b.form
   obtain ⟨Ab, cb, rfl⟩ := h3c.form
   have h3 := And.intro h3a (And.intro h3b h3c)
   have H3 := Hd h3
   have H4 := Hd h4
   have hxb := HXB.out
   have HE0 := Hd (block_keep HD0.out h5 (by simp; omega))
   have HE1 := Hd (block_keep HD1.out h5 (by simp; omega))
   have HE2 := Hd (block_keep HD2.out h5 (by simp; omega))
   have HEQ := Hd (block_keep HDQ.out h5 (by simp))
   have HKE := Hd (HKD.out.hi h5 (fun y hy => by have := HX.out; simp at hy; omega))
   have hkx := (Keeps.refl [] w2).alloc (.cells #[.string (strO a.1.name), .slice Ap a.1.params.length cp, .slice Al a.1.locals.length cl, .slice Ab a.1.body.length cb] 26)
   have HE0 := Hd (block_keep HE0.out hkx (by simp))
   have HE1 := Hd (block_keep HE1.out hkx (by simp))
   have HE2 := Hd (block_keep HE2.out hkx (by simp))
   have HEQ := Hd (block_keep HEQ.out hkx (by simp))
   have H4 := Hd (H4.out.keep hkx)
   have HKE := Hd (HKE.out.trans hkx (by simp))
   have HEA := Hd (show (w2.alloc (.cells #[.string (strO a.1.name), .slice Ap a.1.params.length cp, .slice Al a.1.locals.length cl, .slice Ab a.1.body.length cb] 26)).heap[w2.heap.size]? = some (.cells #[.string (strO a.1.name), .slice Ap a.1.params.length cp, .slice Al a.1.locals.length cl, .slice Ab a.1.body.length cb] 26 (0, 0)) from heap_alloc_new _ _)
   have HLT := Hd (show w1.heap.size < w2.heap.size from h4.lt)
   have H3 := Hd (And.intro (H3.out.1.keep hkx (by simp)) (And.intro (H3.out.2.1.keep hkx (by simp)) (H3.out.2.2.keepb (hkx.mono (by simp)))))
   have hp2 := row_cell HEQ.out 0
   simp only [List.getElem?_toArray, List.getElem?_cons_zero] at hp2
   have hleft : ∃ A' cap', (w2.alloc (.cells #[.string (strO a.1.name), .slice Ap a.1.params.length cp, .slice Al a.1.locals.length cl, .slice Ab a.1.body.length cb] 26)).cell? ⟨w1.heap.size, 0, none⟩ = some (.slice A' r.length cap') := by
    obtain ⟨_, A', cap', g', hb', _⟩ := H4.out
    have c0 := row_cell hb' 0
    simp only [List.getElem?_toArray, List.getElem?_cons_zero] at c0
    exact ⟨A', cap', c0⟩
   obtain ⟨A', cap', hcl⟩ := hleft
   clear h3 h4 h5 hxb hkx
   cases r with
   | cons t1 r1 =>
    have hln : (((t1 :: r1).length : Int) == 0) = false := by simp; omega
    obtain ⟨m, hm⟩ : ∃ m, m = (t1 :: r1).length := ⟨_, rfl⟩
    rw [← hm] at hcl hln
    clear hm
    have HN := Hd (fun w' => pneed_no w' 51)
    go_wp2_with fail
    refine (same (HN.out _)) ?_
    go_wp2
    refine leaves_cons (f := 73) (args := #[.pointer (some ⟨w1.heap.size + 1, 0, none⟩), .pointer (some ⟨X1, 0, none⟩), .pointer (some ⟨X2, 0, none⟩)]) (by simp) (by simp [go_sem]) ?_
    unfold died
    have hxb := HXB.out
    refine (panicking_F w1.heap.size l.length _ _ X1 X2 (w1.heap.size + 1) (t1 :: r1) 51 _ _ [] _ H4.out (by have := row_cell HEQ.out 0; simpa using this) HE1.out HE2.out n12 (by omega) (by omega)).mono ?_
    rintro e u' w'' ⟨rfl, rfl, hk, q1, q2⟩
    have q0 := block_keep HE0.out hk (by simp; exact ⟨n01, n02⟩)
    have r0_0 := row_cell q0 0
    have r0_1 := row_cell q0 1
    have r0_2 := row_cell q0 2
    have r0_3 := row_cell q0 3
    have r1' := row_cell q1 0
    have r2' := row_cell q2 0
    simp only [List.getElem?_toArray, List.getElem?_cons_zero, List.getElem?_cons_succ] at r0_0 r0_1 r0_2 r0_3 r1' r2'
    simp [Leaves, settle, results, Tryz.results33, go_sem, r0_0, r0_1, r0_2, r0_3, r1', r2']
    rw [HG.out]
    have hx := HX.out
    exact ⟨_, rfl, HKE.out.hi hk (fun y hy => by simp at hy; omega), rfl⟩
   | nil =>
    simp only [List.length_nil] at hcl
    have HN := Hd (fun w' => pneed_yes w' 51)
    go_wp2_with fail
    refine (same (HN.out _)) ?_
    obtain ⟨w3, hw3⟩ : ∃ x, x = w2.alloc (.cells #[.string (strO a.1.name), .slice Ap a.1.params.length cp, .slice Al a.1.locals.length cl, .slice Ab a.1.body.length cb] 26) := ⟨_, rfl⟩
    obtain ⟨Y, hY⟩ : ∃ x, x = w2.heap.size := ⟨_, rfl⟩
    rw [← hw3] at HE0 HE1 HE2 HEQ H4 HKE HEA H3 hp2 hcl
    rw [← hY] at HEA HLT
    have hxb := HXB.out
    have hlt := HLT.out
    have nY0 : X0 ≠ Y := by omega
    have n0Y : Y ≠ X0 := by omega
    have nY1 : X1 ≠ Y := by omega
    have nY2 : X2 ≠ Y := by omega
    have n1Y : Y ≠ X1 := by omega
    have n2Y : Y ≠ X2 := by omega
    simp only [← hw3, ← hY]
    have HY := Hd hY
    clear hw3 hY hxb hlt hp2 hcl
    clear f0_0 c0_0 f0_1 c0_1 f0_2 c0_2 f0_3 c0_3 f1_0 c1_0 f2_0 c2_0
    have hrow := HE0.out
    obtain ⟨c0_0, f0_0, c0_1, f0_1, c0_2, f0_2, c0_3, f0_3⟩ := row4 hrow
    clear hrow
    have hrow := HE1.out
    have f1_0 := row_free hrow 0
    have c1_0 := row_cell hrow 0
    simp only [List.getElem?_toArray, List.getElem?_cons_zero] at c1_0
    clear hrow
    have hrow := HE2.out
    have f2_0 := row_free hrow 0
    have c2_0 := row_cell hrow 0
    simp only [List.getElem?_toArray, List.getElem?_cons_zero] at c2_0
    clear hrow
    have hrow := HEA.out
    obtain ⟨c3_0, f3_0, c3_1, f3_1, c3_2, f3_2, c3_3, f3_3⟩ := row4 hrow
    clear hrow
    go_wp2
    refine leaves_cons (f := 73) (args := #[.pointer (some ⟨w1.heap.size + 1, 0, none⟩), .pointer (some ⟨X1, 0, none⟩), .pointer (some ⟨X2, 0, none⟩)]) (by simp) (by simp [go_sem]) ?_
    refine (idle_F ⟨w1.heap.size + 1, 0, none⟩ ⟨X1, 0, none⟩ ⟨X2, 0, none⟩ _).mono ?_
    rintro e u' w'' ⟨rfl, rfl, rfl⟩
    simp [Leaves, settle, results, Tryz.results33, go_sem, n01, n10, n02, n20, n12, n21, c0_0, c0_1, c0_2, c0_3, c1_0, c2_0, c3_0, c3_1, c3_2, c3_3]
    refine setsEnd (S := [X0, X1, X2]) (w := w3) ?_ ?_
    ·
     repeat (refine Keeps.setCell ?_ (by simp) _)
     exact Keeps.refl _ _
    intro W hk
    have hx := HX.out
    have hxb := HXB.out
    rw [HG.out]
    exact ⟨_, rfl, HKE.out.hi hk (fun y hy => by simp at hy; omega), w1.heap.size, by omega, ⟨_, _, _, rfl, H3.out.1.keep hk (fun y hy => .inl (by simp at hy; omega)), H3.out.2.1.keep hk (fun y hy => .inl (by simp at hy; omega)), H3.out.2.2.keepS hk (fun y hy => by simp at hy; omega)⟩⟩
 ·
  have hz1 : (((o.err : Nat) : Int) != 0) = true := by simp; omega
  have HZ := Hd hz
  have hG : Px.funcT l = ⟨none, o.pos, o.err⟩ := by unfold Px.funcT; rw [if_neg (by rw [← HO.out]; exact hz), ← HO.out]
  have HG := Hd (HGG.out.trans hG)
  clear hz hG
  go_wp2_with fail
  obtain ⟨wa, hwa⟩ : ∃ x, x = ((w1.setCell ⟨X1, 0, none⟩ (.int .i64 ((o.pos : Nat) : Int))).setCell ⟨X2, 0, none⟩ (.int .i64 ((o.err : Nat) : Int))) := ⟨_, rfl⟩
  have hka : Keeps [X1, X2] w1 wa := by
   rw [hwa]
   repeat (refine Keeps.setCell ?_ (by simp) _)
   exact Keeps.refl _ _
  have HA0 := Hd (block_keep HB0.out hka (by simp; exact ⟨n01, n02⟩))
  have HA1 := Hd (show wa.heap[X1]? = some (.cells #[.int .i64 ((o.pos : Nat) : Int)] 3 (0, 0)) by rw [hwa, set_other n12, row_set HB1.out]; rfl)
  have HA2 := Hd (show wa.heap[X2]? = some (.cells #[.int .i64 ((o.err : Nat) : Int)] 27 (0, 0)) by
   have h2' : (w1.setCell ⟨X1, 0, none⟩ (.int .i64 ((o.pos : Nat) : Int))).heap[X2]? = some (.cells #[.int .i64 0] 27 (0, 0)) := by rw [set_other n21]; exact HB2.out
   rw [hwa, row_set h2']; rfl)
  have HKA2 := Hd (show Keeps [] w wa from by
   have h8 := HX.out
   exact HK1.out.hi hka (fun y hy => by simp at hy; omega))
  clear hka f0_0 c0_0 f0_1 c0_1 f0_2 c0_2 f0_3 c0_3 f1_0 c1_0 f2_0 c2_0
  simp only [← hwa]
  clear hwa
  refine Reg.wp_region_free (fun _ _ w' => w'.heap[X0]? = some (.cells #[.string .empty, .slice none 0 0, .slice none 0 0, .slice none 0 0] 26 (0, 0)) ∧ w'.heap[X1]? = some (.cells #[.int .i64 ((o.pos : Nat) : Int)] 3 (0, 0)) ∧ w'.heap[X2]? = some (.cells #[.int .i64 ((o.err : Nat) : Int)] 27 (0, 0)) ∧ Keeps [] w w') (fun _ _ => True) (A := ?A)
   [Reg.Is (.agg #[.string .empty, .slice none 0 0, .slice none 0 0, .slice none 0 0]), Reg.Is (.int .i64 ((o.pos : Nat) : Int)), Reg.Is (.int .i64 ((o.err : Nat) : Int)), AnyF, AnyF, AnyF]
   (by kernel_rfl) (by kernel_rfl) rfl ?hA ?hC ?ho ?hlast ?hend
  case hA => intro vs; simp only [Reg.fill, if_true, Nat.zero_add, Nat.reduceAdd, Act.put, List.setIfInBounds_toArray, List.set_cons_succ, List.set_cons_zero]; exact rfl
  case hC => exact fun vs => ⟨HA0.out, HA1.out, HA2.out, HKA2.out.drew⟩
  case hlast => repeat (first | exact trivial | refine ⟨fun _ _ _ h _ => h, ?_⟩)
  case ho =>
   repeat' apply And.intro
   all_goals
    first
     | exact trivial
     | (
      intro Ls vs w' hC hL hd ha K hK
      try simp only [Reg.Deps, Reg.at_, List.getD_cons_zero, List.getD_cons_succ, Region.binds, true_implies, Reg.Is, and_true, AnyF, true_and] at hd
      obtain ⟨d0, d1, d2, d3⟩ := id hC
      have f0_0 := row_free d0 0
      have c0_0 := row_cell d0 0
      have f0_1 := row_free d0 1
      have c0_1 := row_cell d0 1
      have f0_2 := row_free d0 2
      have c0_2 := row_cell d0 2
      have f0_3 := row_free d0 3
      have c0_3 := row_cell d0 3
      have f1_0 := row_free d1 0
      have c1_0 := row_cell d1 0
      have f2_0 := row_free d2 0
      have c2_0 := row_cell d2 0
      simp only [List.getElem?_toArray, List.getElem?_cons_zero, List.getElem?_cons_succ] at c0_0 c0_1 c0_2 c0_3 c1_0 c2_0
      try simp only [Reg.wantedV, if_true]
      try go_simp
      try simp only [Reg.gives_value, Reg.gives_skip, Reg.gives_enter]
      first
       | exact hK _ _ hC trivial rfl
       | exact hK _ _ hC trivial trivial
       | skip)
   ·
    have hk0 : Keeps [X0] w' ((((w'.setCell ⟨X0, 0, none⟩ (.string .empty)).setCell ⟨X0, 1, none⟩ (.slice none 0 0)).setCell ⟨X0, 2, none⟩ (.slice none 0 0)).setCell ⟨X0, 3, none⟩ (.slice none 0 0)) := by
     repeat (refine Keeps.setCell ?_ (by simp) _)
     exact Keeps.refl _ _
    refine hK _ _ ⟨by rw [row_set (row_set (row_set (row_set (d0) 0 _) 1 _) 2 _) 3 _]; rfl, ?_, ?_, d3.hi hk0 (by have := HX.out; simp; omega)⟩ trivial trivial
    · simp only [set_other n10]; exact d1
    · simp only [set_other n20]; exact d2
   · refine hK _ _ ⟨by rw [set_other n01]; exact d0, by rw [row_set d1]; rfl, by rw [set_other n21]; exact d2, d3.hi (T := [X1]) ((Keeps.refl _ _).setCell (by simp) _) (by have := HX.out; simp; omega)⟩ trivial trivial
   · refine hK _ _ ⟨by rw [set_other n02]; exact d0, by rw [set_other n12]; exact d1, by rw [row_set d2]; rfl, d3.hi (T := [X2]) ((Keeps.refl _ _).setCell (by simp) _) (by have := HX.out; simp; omega)⟩ trivial trivial
  case hend =>
   intro vs w' hC hall
   obtain ⟨d0, d1, d2, d3⟩ := hC
   have f0_0 := row_free d0 0
   have c0_0 := row_cell d0 0
   have f0_1 := row_free d0 1
   have c0_1 := row_cell d0 1
   have f0_2 := row_free d0 2
   have c0_2 := row_cell d0 2
   have f0_3 := row_free d0 3
   have c0_3 := row_cell d0 3
   have f1_0 := row_free d1 0
   have c1_0 := row_cell d1 0
   have f2_0 := row_free d2 0
   have c2_0 := row_cell d2 0
   simp only [List.getElem?_toArray, List.getElem?_cons_zero, List.getElem?_cons_succ] at c0_0 c0_1 c0_2 c0_3 c1_0 c2_0
   clear hall
   go_wp2
   simp [bodyPostD, Leaves, results, Tryz.results33, go_sem, c0_0, c0_1, c0_2, c0_3, c1_0, c2_0]
   rw [HG.out]
   exact ⟨_, rfl, d3, rfl⟩
end
section
set_option maxHeartbeats 4000000
set_option maxRecDepth 100000
open Go.RowKit Go.Shelf
open Lx (Tok Tx)
open Px (Ex Cn Sm Vr)
theorem FnAt.keepHi {w w' : World} {b : Nat} {p : Px.Fn × Nat} {v : Value} {S : List Nat} (h : FnAt w b p v) (hk : Keeps S w w') (hS : ∀ y ∈ S, y ≤ b) : FnAt w' b p v := by
 obtain ⟨vp, vl, vb, h1, h2, h3, h4⟩ := h
 exact ⟨vp, vl, vb, h1, h2.keep hk (fun y hy => .inl (hS y hy)), h3.keep hk (fun y hy => .inl (hS y hy)), h4.keepS hk hS⟩
theorem got_form_F {w' : World} {w0 : World} {g : Px.Got (Px.Fn × Nat)} {v : Value} (h : Val FnAt (.agg #[.string .empty, .slice none 0 0, .slice none 0 0, .slice none 0 0]) w0.heap.size w' g.val v) : ∃ (x : ByteArray) (A1 : Option Addr) (n1 c1 : Nat) (A2 : Option Addr) (n2 c2 : Nat) (A3 : Option Addr) (n3 c3 : Nat), v = .agg #[.string x, .slice A1 n1 c1, .slice A2 n2 c2, .slice A3 n3 c3] := by
 cases hv : g.val with
 | some a =>
  rw [hv] at h
  obtain ⟨b, _, vp, vl, vb, rfl, h1, h2, h3⟩ := h
  obtain ⟨_, _, rfl⟩ := h1.form
  obtain ⟨_, _, rfl⟩ := h2.form
  obtain ⟨_, _, rfl⟩ := h3.form
  exact ⟨_, _, _, _, _, _, _, _, _, _, rfl⟩
 | none =>
  rw [hv] at h
  subst h
  exact ⟨_, _, _, _, _, _, _, _, _, _, rfl⟩
theorem func_any (w : World) (l : Tx) (hl : l.length ≤ 5000) (he : ErrAt w) :
 Calls Tryz.prog 13 #[.string (strO l)] w (AttP FnAt (.agg #[.string .empty, .slice none 0 0, .slice none 0 0, .slice none 0 0]) w (Px.funcT l)) := by
 have HA := Hd (fun w' (h : ErrAt w') => attempt_F w' l hl h)
 have HE := Hd (he.keep ((Keeps.refl [] w).alloc (.cells #[.string .empty, .slice none 0 0, .slice none 0 0, .slice none 0 0] 26)))
 have HB := Hd (show (w.alloc (.cells #[.string .empty, .slice none 0 0, .slice none 0 0, .slice none 0 0] 26)).heap[w.heap.size]? = some (.cells #[.string .empty, .slice none 0 0, .slice none 0 0, .slice none 0 0] 26 (0, 0)) from heap_alloc_new _ _)
 have HK0 := Hd ((Keeps.refl [] w).alloc (.cells #[.string .empty, .slice none 0 0, .slice none 0 0, .slice none 0 0] 26))
 obtain ⟨GG, hgg⟩ : ∃ x, x = Px.funcT l := ⟨_, rfl⟩
 rw [← hgg] at HA ⊢
 obtain ⟨s, hs⟩ : ∃ s, s = strO l := ⟨_, rfl⟩
 rw [← hs] at HA ⊢
 clear hs hgg he
 go_enter Tryz.func13, Tryz.ntmps13
 go_wp2_with fail
 refine (HA.out _ HE.out).mono ?_
 rintro e w1 ⟨v, rfl, h1, h2⟩
 have HB := Hd (block_keep HB.out h1 (by simp))
 have HK1 := Hd (HK0.out.trans h1 (by simp))
 obtain ⟨x, A1, n1, c1, A2, n2, c2, A3, n3, c3, rfl⟩ := got_form_F h2
 have H2 := Hd h2
 have HSZ := Hd h1.size
 clear h1 h2
 obtain ⟨X0, hX0⟩ : ∃ x, x = w.heap.size := ⟨_, rfl⟩
 have HX0 := Hd hX0
 rw [← hX0] at HB
 simp only [← hX0]
 clear hX0
 obtain ⟨cc0, ff0, cc1, ff1, cc2, ff2, cc3, ff3⟩ := row4 HB.out
 go_wp2_with fail
 refine bodyPost_ret (v := .tuple #[.agg #[.string x, .slice A1 n1 c1, .slice A2 n2 c2, .slice A3 n3 c3], .int .i64 ((GG.pos : Nat) : Int), .int .i64 ((GG.err : Nat) : Int)]) (by simp [results, Tryz.results13, go_sem, cc0, cc1, cc2, cc3]) rfl ?_
 refine setsEnd (S := [X0]) (w := w1) ?_ ?_
 ·
  repeat (refine Keeps.setCell ?_ (by simp) _)
  exact Keeps.refl _ _
 intro W hk
 have hx := HX0.out
 refine ⟨_, rfl, HK1.out.hi hk (by simp; omega), ?_⟩
 have h2 := H2.out
 have hsz := HSZ.out
 cases hv : GG.val with
 | none => rw [hv] at h2; exact h2
 | some a =>
  rw [hv] at h2
  obtain ⟨b, hb, h3⟩ := h2
  have hb' : w.heap.size + 1 ≤ b := by simpa using hb
  exact ⟨b, by omega, h3.keepHi hk (fun y hy => by simp at hy; omega)⟩
def IntAt (_ : World) (_ : Nat) (m : Nat) (v : Value) : Prop := v = .int .i64 (m : Int)
theorem length_any (w : World) (b n o k : Nat) (ts : List Tok) (h : PAt w b n ts o k) :
 Calls Tryz.prog 88 #[pp b] w (RP IntAt (fun _ => k) w b n o (Px.lenR ts)) := by
 obtain ⟨R, hR⟩ : ∃ R, R = Px.lenR ts := ⟨_, rfl⟩
 rw [← hR]
 unfold Px.lenR Px.want at hR
 have HC := Hd (pass_rp w b n o k ts h [91] (by simp))
 obtain ⟨rr, hrr⟩ : ∃ x, x = Px.passR [91] ts := ⟨_, rfl⟩
 rw [← hrr] at HC hR
 have HR := Hd hR
 clear hR hrr h
 cases rr with
 | err z r =>
  go_enter Tryz.func88, Tryz.ntmps88
  go_wp2_with fail
  refine (HC.out).mono ?_
  rintro e w1 ⟨rfl, h4, h5⟩
  have H4 := Hd h4
  have H5 := Hd h5
  clear h4 h5
  go_wp2
  rw [HR.out]
  exact ⟨rfl, rfl, H4.out, H5.out⟩
 | ok u r =>
  have hR := HR.out
  simp only [Px.bind_ok] at hR
  by_cases hy : Px.isNum r = true
  ·
   rw [if_pos hy] at hR
   obtain ⟨t, r1, rfl, hk⟩ := isNum_cons hy
   rw [txt_cons] at hR
   obtain ⟨m, hm⟩ : ∃ m, m = Lx.val t.text := ⟨_, rfl⟩
   have HNU := Hd (fun w' h' => pnumber_yes w' b n o k t r1 h' hk)
   rw [← hm] at hR HNU
   have HTK := Hd (fun w' h' => take_any w' b n o k t r1 h')
   obtain ⟨x, hx⟩ : ∃ x, x = strO t.text := ⟨_, rfl⟩
   rw [← hx] at HTK
   simp only [List.tail_cons] at hR
   have HM := Hd (show ∀ w', PAt w' b n (t :: r1) o k → m ≤ 9223372036854775807 from fun w' h' => by rw [hm]; exact ((h'.1.wf t (by simp)).num hk).2)
   have HN1 := Hd (fun w' ok => pneed_any w' ok 51)
   have HN2 := Hd (fun w' ok => pneed_any w' ok 53)
   clear hy hk hm hx
   by_cases h0 : m = 0
   ·
    rw [if_pos h0] at hR
    have HR := Hd hR
    have hd : decide ((0 : Int) < (m : Int)) = false := decide_eq_false (by omega)
    have HD := Hd hd
    clear hR h0 hd
    go_enter Tryz.func88, Tryz.ntmps88
    go_wp2_with fail
    refine (HC.out).mono ?_
    rintro e w1 ⟨v1, rfl, h3, h4, h5⟩
    obtain rfl : v1 = .tuple #[] := h3
    have H4 := Hd h4
    have H5 := Hd h5
    clear h4 h5
    go_wp2_with fail
    refine (HNU.out _ H4.out).mono ?_
    rintro e w2 ⟨rfl, hk⟩
    have HK := Hd hk
    clear hk
    go_wp2_with fail
    refine (HN1.out _ _).mono ?_
    rintro e w' ⟨he, rfl⟩
    rw [show decide (0 < m) = false from by have := HD.out; simpa using this] at he
    subst he
    go_wp2
    rw [HR.out]
    exact ⟨rfl, rfl, ⟨_, _, H4.out.keep HK.out⟩, H5.out.trans HK.out (by simp)⟩
   ·
    rw [if_neg h0] at hR
    by_cases h1 : 1048576 < m
    ·
     rw [if_pos h1] at hR
     have HR := Hd hR
     have HD := Hd (show 0 < m ∧ ¬ m ≤ 1048576 by omega)
     clear hR h0 h1
     go_enter Tryz.func88, Tryz.ntmps88
     go_wp2_with fail
     refine (HC.out).mono ?_
     rintro e w1 ⟨v1, rfl, h3, h4, h5⟩
     obtain rfl : v1 = .tuple #[] := h3
     have H4 := Hd h4
     have H5 := Hd h5
     clear h4 h5
     go_wp2_with fail
     refine (HNU.out _ H4.out).mono ?_
     rintro e w2 ⟨rfl, hk⟩
     have HK := Hd hk
     clear hk
     go_wp2_with fail
     refine (HN1.out _ _).mono ?_
     rintro e w' ⟨he, rfl⟩
     rw [show decide (0 < m) = true from decide_eq_true HD.out.1] at he
     subst he
     go_wp2_with fail
     refine (HN2.out _ _).mono ?_
     rintro e w' ⟨he, rfl⟩
     first
      | rw [show decide ((m : Int) ≤ 1048576) = false from decide_eq_false (by have := HD.out.2; omega)] at he
      | rw [show decide (m ≤ 1048576) = false from decide_eq_false HD.out.2] at he
     subst he
     go_wp2
     rw [HR.out]
     exact ⟨rfl, rfl, ⟨_, _, H4.out.keep HK.out⟩, H5.out.trans HK.out (by simp)⟩
    ·
     rw [if_neg h1] at hR
     simp only [Px.bind_ok] at hR
     have HD := Hd (show 0 < m ∧ m ≤ 1048576 by omega)
     have HC2 := Hd (fun w' h' => pass_rp w' b n o k r1 h' [93] (by simp))
     obtain ⟨rq, hrq⟩ : ∃ x, x = Px.passR [93] r1 := ⟨_, rfl⟩
     rw [← hrq] at HC2 hR
     have HR := Hd hR
     clear hR h0 h1 hrq
     go_enter Tryz.func88, Tryz.ntmps88
     go_wp2_with fail
     refine (HC.out).mono ?_
     rintro e w1 ⟨v1, rfl, h3, h4, h5⟩
     obtain rfl : v1 = .tuple #[] := h3
     have H4 := Hd h4
     have H5 := Hd h5
     clear h4 h5
     go_wp2_with fail
     refine (HNU.out _ H4.out).mono ?_
     rintro e w2 ⟨rfl, hk⟩
     have HK := Hd hk
     clear hk
     go_wp2_with fail
     refine (HN1.out _ _).mono ?_
     rintro e w' ⟨he, rfl⟩
     rw [show decide (0 < m) = true from decide_eq_true HD.out.1] at he
     subst he
     go_wp2_with fail
     refine (HN2.out _ _).mono ?_
     rintro e w' ⟨he, rfl⟩
     first
      | rw [show decide ((m : Int) ≤ 1048576) = true from decide_eq_true (by have := HD.out.2; omega)] at he
      | rw [show decide (m ≤ 1048576) = true from decide_eq_true HD.out.2] at he
     subst he
     go_wp2_with fail
     refine (HTK.out _ (H4.out.keep HK.out)).mono ?_
     rintro e w3 ⟨rfl, h6, h7⟩
     have H6 := Hd h6
     have H7 := Hd ((H5.out.trans HK.out (by simp)).trans h7 (fun _ h _ => h))
     clear h6 h7
     go_wp2_with fail
     refine (HC2.out _ H6.out).mono ?_
     intro e w4 hr
     cases rq with
     | err z r =>
      obtain ⟨rfl, h4, h5⟩ := hr
      have H8 := Hd h4
      have H9 := zV H7 h5
      clear h4 h5
      go_wp2
      rw [HR.out]
      exact ⟨rfl, rfl, H8.out, H9.out⟩
     | ok u4 r4 =>
      obtain ⟨_, rfl, rfl, h4, h5⟩ := hr
      have H8 := Hd h4
      have H9 := zV H7 h5
      have hmm := HD.out.2
      clear h4 h5
      go_wp2_with fail
      go_ret
      rw [HR.out]
      exact ⟨_, rfl, rfl, H8.out, H9.out⟩
  ·
   rw [if_neg hy] at hR
   have HR := Hd hR
   have HNU := Hd (fun w' h' => pnumber_no w' b n o k r h' (by simpa using hy))
   clear hR hy
   go_enter Tryz.func88, Tryz.ntmps88
   go_wp2_with fail
   refine (HC.out).mono ?_
   rintro e w1 ⟨v1, rfl, h3, h4, h5⟩
   obtain rfl : v1 = .tuple #[] := h3
   have H4 := Hd h4
   have H5 := Hd h5
   clear h4 h5
   go_wp2_with fail
   refine (HNU.out _ H4.out).mono ?_
   rintro e w2 ⟨rfl, rfl⟩
   go_wp2
   rw [HR.out]
   exact ⟨rfl, rfl, ⟨_, _, H4.out⟩, H5.out⟩
end
end Go.Proofs.YtbikifibfaaggaaGreatDoor
