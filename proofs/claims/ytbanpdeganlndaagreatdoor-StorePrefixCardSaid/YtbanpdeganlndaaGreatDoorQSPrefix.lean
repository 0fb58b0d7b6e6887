/- With the merged texts: SPrefix -/
import Derived.Test.YtbanpdeganlndaaGreatDoorQ11
namespace Go.Proofs.YtbanpdeganlndaaGreatDoor
open Go.RowKit
open Reg (Is Fact)
open St (Tx As Ch)

/-- Keys alone, each put with an empty value. -/
def mkp (l : List Tx) : List Ch := l.map fun k => ⟨k, [], false⟩
def keysOf (l : List Tx) : List Tx := (St.apps [] (mkp l)).map (·.1)
theorem mkp_len (l : List Tx) : (mkp l).length = l.length := by simp [mkp]
theorem mkp_snoc (l : List Tx) (k : Tx) : mkp (l ++ [k]) = mkp l ++ [⟨k, [], false⟩] := by simp [mkp]
theorem mkp_small {l : List Tx} (h : ∀ k ∈ l, k.length ≤ 30) : ∀ c ∈ mkp l, c.key.length ≤ 40 ∧ c.val.length ≤ 255 := fun c hc => by
  obtain ⟨k, hk, rfl⟩ := List.mem_map.1 hc
  have := h k hk
  exact ⟨by show k.length ≤ 40; omega, by show (0 : Nat) ≤ 255; omega⟩
theorem apps_mkp (l : List Tx) (k : Tx) : St.apps [] (mkp (l ++ [k])) = (k, []) :: St.del (St.apps [] (mkp l)) k := by
  rw [mkp_snoc, St.apps_snoc]; rfl
theorem keysOf_snoc (l : List Tx) (k : Tx) : keysOf (l ++ [k]) = k :: (keysOf l).filter (fun x => decide (x ≠ k)) := by
  unfold keysOf
  rw [apps_mkp, List.map_cons]
  congr 1
  unfold St.del
  rw [List.filter_map]
  rfl
theorem keysOf_nodup (l : List Tx) : (keysOf l).Nodup := St.keyed_apps St.keyed_nil (mkp l)
theorem snoc_ind {α : Type} {P : List α → Prop} (h0 : P []) (h1 : ∀ l a, P l → P (l ++ [a])) (l : List α) : P l := by
  rw [← List.reverse_reverse l]
  induction l.reverse with
  | nil => exact h0
  | cons a r ih => rw [List.reverse_cons]; exact h1 _ _ ih
theorem mem_keysOf (l : List Tx) : ∀ x, x ∈ keysOf l ↔ x ∈ l := by
  refine snoc_ind (P := fun l => ∀ x, x ∈ keysOf l ↔ x ∈ l) (fun x => by simp [keysOf, mkp, St.apps]) (fun l k ih x => ?_) l
  rw [keysOf_snoc, List.mem_cons, List.mem_filter, ih x, List.mem_append, List.mem_singleton]
  by_cases h : x = k
  · simp [h]
  · simp [h]
theorem vals_mkp (l : List Tx) : ∀ p ∈ St.apps [] (mkp l), p.2 = [] := by
  refine snoc_ind (P := fun l => ∀ p ∈ St.apps [] (mkp l), p.2 = []) (by simp [mkp, St.apps]) (fun l k ih p hp => ?_) l
  rw [apps_mkp] at hp
  rcases List.mem_cons.1 hp with rfl | hp
  · rfl
  · exact ih p (St.mem_del.1 hp).1
theorem look_mkp {l : List Tx} {k : Tx} (h : k ∈ l) : St.look (St.apps [] (mkp l)) k = some [] := by
  obtain ⟨p, hp, rfl⟩ := List.mem_map.1 ((mem_keysOf l k).2 h)
  have hv := vals_mkp l p hp
  exact St.mem_look (St.keyed_apps St.keyed_nil (mkp l)) (by rw [← hv]; exact hp)
/-- The i-th text begins with p and is the first of its kind. -/
def fst1 (p : Tx) (l : List Tx) (k : Tx) : Bool := pre p k && decide (k ∉ l)
def cnt (p : Tx) (l : List Tx) : Nat := ((keysOf l).filter (pre p)).length
theorem cnt_snoc (p : Tx) (l : List Tx) (k : Tx) : cnt p (l ++ [k]) = cnt p l + if fst1 p l k then 1 else 0 := by
  unfold cnt fst1
  by_cases h : k ∈ l
  · have hp : (keysOf (l ++ [k])).Perm (keysOf l) := by
      refine (List.perm_ext_iff_of_nodup (keysOf_nodup _) (keysOf_nodup _)).2 fun x => ?_
      rw [mem_keysOf, mem_keysOf, List.mem_append, List.mem_singleton]
      refine ⟨fun hx => hx.elim id (fun e => e ▸ h), .inl⟩
    rw [(hp.filter (pre p)).length_eq]
    simp [h]
  · have he : (keysOf l).filter (fun x => decide (x ≠ k)) = keysOf l := List.filter_eq_self.2 fun x hx => by
      have : x ≠ k := fun e => h (e ▸ (mem_keysOf l x).1 hx)
      simpa using this
    rw [keysOf_snoc, he, List.filter_cons]
    by_cases hp : pre p k = true
    · simp [h, hp]
    · simp [h, hp]
theorem cnt_next {p : Tx} {l : List Tx} {i : Nat} (h : i < l.length) : cnt p (l.take (i + 1)) = cnt p (l.take i) + if fst1 p (l.take i) l[i] then 1 else 0 := by
  rw [List.take_succ_eq_append_getElem h, cnt_snoc]
theorem cnt_le (p : Tx) (l : List Tx) : cnt p l ≤ l.length := by
  unfold cnt
  refine Nat.le_trans (List.length_filter_le _ _) ?_
  have := len_apps (mkp l) []
  rw [mkp_len] at this
  simpa [keysOf] using this
theorem fst_next {p : Tx} {l : List Tx} {k : Tx} {j : Nat} (h : j < l.length) : fst1 p (l.take (j + 1)) k = (fst1 p (l.take j) k && decide (l[j] ≠ k)) := by
  have e : k ∈ l.take (j + 1) ↔ k ∈ l.take j ∨ k = l[j] := by rw [List.take_succ_eq_append_getElem h, List.mem_append, List.mem_singleton]
  unfold fst1
  by_cases h1 : k ∈ l.take j
  · have h3 : k ∈ l.take (j + 1) := e.2 (.inl h1)
    simp [h1, h3]
  · by_cases h2 : l[j] = k
    · have h3 : k ∈ l.take (j + 1) := e.2 (.inr h2.symm)
      simp [h2, h3]
    · have h3 : k ∉ l.take (j + 1) := fun hm => (e.1 hm).elim h1 (fun q => h2 q.symm)
      simp [h1, h2, h3]
theorem TxsIn.low {w : World} {g : Nat} {A : Option Addr} {l : List Tx} (h : TxsIn w g A l) : l = [] ∨ g < w.heap.size := by
  rcases h with h | ⟨off, hA, hc⟩
  · exact .inl h
  · by_cases h0 : l = []
    · exact .inl h0
    · exact .inr (World.block_lt_of_cell? w _ (hc 0 (List.length_pos_iff.2 h0)))
theorem pre_eq (p k : Tx) : (decide ((strO p).size ≤ (strO k).size) && (((strO k).extract 0 (strO p).size).toList == (strO p).toList)) = pre p k := by rw [Lib.hasPrefix_raw, strO_list, strO_list]; rfl
theorem pre_raw {p k : Tx} (h : pre p k = true) : (strO p).size ≤ (strO k).size ∧ (((strO k).extract 0 (strO p).size).toList == (strO p).toList) = true := by
  have HP : (decide ((strO p).size ≤ (strO k).size) && (((strO k).extract 0 (strO p).size).toList == (strO p).toList)) = pre p k := by rw [Lib.hasPrefix_raw, strO_list, strO_list]; rfl
  rw [h] at HP
  simpa using HP
theorem nsec_one {k : Tx} (h : k.length ≤ 30) : L.nsec (([⟨k, [], false⟩] : List Ch).map St.rec) 512 ≤ 1 := by
  have h1 := L.nsec_bound (s := 512) (rs := ([⟨k, [], false⟩] : List Ch).map St.rec) (by omega)
  have h2 := body_recs (cs := [⟨k, [], false⟩]) (mkp_small (l := [k]) (by simpa using h)) (by simp)
  simp only [List.length_cons, List.length_nil, List.map_cons, List.map_nil] at h1 h2 ⊢
  omega
attribute [local go_sem] Reg.lateFr Reg.wantedV Reg.gives_value Reg.gives_skip Reg.gives_enter in
set_option maxRecDepth 100000 in
set_option maxHeartbeats 8000000 in
theorem sprefix_any (w : World) (ht : TabAt w) (hp : 1 < w.heap.size) (g0 cap : Nat) (A : Option Addr) (l : List Tx) (p : Tx) (hr : TxsIn w g0 A l) :
    Calls Tryz.prog 7 #[.slice A l.length cap, .string (strO p)] w fun e w' => e = .returned (.bool true) ∧ Keeps [] w w' := by
  have HT := Lib.hid ht
  have HR := Lib.hid hr
  have HKN := Lib.hid (sknown_any w ht hp)
  have hps := strO_len p
  clear ht hr
  obtain ⟨pO, hpO⟩ : ∃ a, a = strO p := ⟨_, rfl⟩
  rw [← hpO] at hps ⊢
  have HPS := Lib.hid hps
  have HPO := Lib.hid hpO
  clear hpO
  by_cases hl : l.length ≤ 20
  · have e1 : decide ((20 : Int) < (l.length : Int)) = false := by simp; omega
    by_cases hpl : p.length ≤ 20
    · have e2 : decide ((20 : Int) < (pO.size : Int)) = false := by simp; omega
      clear hps
      go_enter Tryz.func7, Tryz.ntmps7
      go_wp2_with fail
      refine HKN.out.mono ?_
      rintro e w1 ⟨rfl, hk1⟩
      have HK1 := Lib.hid hk1
      have HN := Lib.hid (newD_any w1 400 512 (by omega) (by omega))
      clear hk1
      go_wp2_with fail
      refine HN.out.mono ?_
      intro e w2 hnew
      obtain ⟨h, rfl, ho⟩ := sr_new HK1.out HT.out hp hnew (by omega) (by omega)
      have HO := Lib.hid ho
      clear hnew ho
      go_wp2_with fail
      refine HO.out.mono ?_
      rintro e w3 ⟨sp, mb, lp, B, d, g, rfl, hlit, hu, hsr, hk3⟩
      have HLIT := Lib.hid hlit
      have HU := Lib.hid hu
      have HSR := Lib.hid hsr
      have HK3 := Lib.hid hk3
      clear hlit hu hsr hk3
      have HG0 := Lib.hid HR.out.low
      have HWS := Lib.hid HK3.out.size
      go_wp2_with fail
      go_loopw [7] (fun iv wr => ∃ i : Nat, i ≤ l.length ∧ iv = .int .i64 (i : Int) ∧ (∀ k ∈ l.take i, k.length ≤ 30) ∧ ∃ B d g, SR w wr h B lp d g sp mb (mkp (l.take i)) (St.apps [] (mkp (l.take i))) 400 512 ∧ Lit_ d ∧ g.used ≤ i) (fun iv _ => l.length - (RowKit.intOf iv).toNat)
      case atStart => exact ⟨0, by omega, rfl, by simp, B, d, g, HSR.out, HLIT.out, by have := HU.out; omega⟩
      case round =>
        obtain ⟨i, hi, rfl, h30, B4, d4, g4, hsr4, hlit4, hu4⟩ := hrel
        have HSR4 := Lib.hid hsr4
        have HLIT4 := Lib.hid hlit4
        have H30 := Lib.hid h30
        clear hsr4 hlit4 h30
        by_cases hlt : i < l.length
        · rcases (HR.out.keep HSR4.out.gr.keeps (by simp)) with h0 | ⟨off, rfl, hcell⟩
          · rw [h0] at hlt; simp at hlt
          · have c0 := hcell i hlt
            clear hcell
            obtain ⟨a, ha⟩ : ∃ a, a = strO l[i] := ⟨_, rfl⟩
            have hal : a.size = l[i].length := by rw [ha, strO_len]
            rw [← ha] at c0
            have HA := Lib.hid ha
            clear ha
            by_cases hki : l[i].length ≤ 30
            · have e3 : decide ((30 : Int) < (List.length l[i] : Int)) = false := by simp; omega
              have hka : Keeps [] wr (wr.alloc (.cells #[.string a, .string ⟨#[]⟩, .bool false] 66)) := (Keeps.refl _ _).alloc _
              have hlow := HSR4.out.low
              have HAP := Lib.hid ((HSR4.out.step hka).apply (gp := wr.heap.size) (A := some ⟨wr.heap.size, 0, none⟩) (ds := mkp [l[i]]) 1
                (.inr ⟨0, rfl, fun k hk => by
                  have hk0 : k = 0 := by simpa [mkp] using hk
                  subst hk0
                  refine ⟨?_, ?_, ?_⟩
                  · rw [row_cell (heap_alloc_new wr _), HA.out]; rfl
                  · rw [row_cell (heap_alloc_new wr _)]; rfl
                  · rw [row_cell (heap_alloc_new wr _)]; rfl⟩)
                (.inr (fun hm => by have := hlow _ hm; omega)) (fun c hc => by obtain ⟨k, hk, rfl⟩ := List.mem_map.1 hc; obtain rfl := List.mem_singleton.1 hk; show l[i].length + 0 ≤ 1048512; omega) (by rw [mkp_len]; simp) (by rw [mkp_len, List.length_take]; omega)
                (by have := len_apps (mkp (l.take i)) []; rw [mkp_len, List.length_take] at this; simp at this; omega)
                (by have := body_recs (cs := mkp [l[i]]) (mkp_small (by simpa using hki)) (by rw [mkp_len]; simp); rw [mkp_len] at this; simp at this; omega)
                (by rw [scap400]; exact fit_recs (k := 1) (by omega) (mkp_small (by simpa using hki)) (by rw [mkp_len]; simp) (by omega)))
              clear hka hlow
              rw [mkp_len] at HAP
              go_wp2_with fail
              refine HAP.out.mono ?_
              rintro e w5 ⟨m, rfl, hk5, hout⟩
              obtain ⟨rfl, B5, d5, hlit5, hsr5⟩ := hout.lit HLIT4.out
              have HSR5 := Lib.hid hsr5
              have HLIT5 := Lib.hid hlit5
              clear hk5 hout hsr5 hlit5
              go_wp2_with fail
              go_roundw
              case rel =>
                have e4 : mkp (l.take (i + 1)) = mkp (l.take i) ++ mkp [l[i]] := by rw [List.take_succ_eq_append_getElem hlt, mkp_snoc]; rfl
                have hns := nsec_one hki
                refine ⟨i + 1, by omega, by go_num, ?_, B5, d5, _, by rw [e4, St.apps_append]; exact HSR5.out, HLIT5.out, ?_⟩
                · rw [List.take_succ_eq_append_getElem hlt]
                  intro k hk
                  rcases List.mem_append.1 hk with hk | hk
                  · exact H30.out k hk
                  · obtain rfl := List.mem_singleton.1 hk
                    exact hki
                · show g4.used + L.nsec (([⟨l[i], [], false⟩] : List Ch).map St.rec) 512 ≤ i + 1
                  omega
              case measure => simp [RowKit.intOf]; omega
            · have e3 : decide ((30 : Int) < (List.length l[i] : Int)) = true := by simp; omega
              have HK4 := Lib.hid HSR4.out.gr.keeps
              go_wp2_with fail
              go_ret
              exact ⟨rfl, HK4.out⟩
        · obtain rfl : i = l.length := by omega
          have HST := Lib.hid HSR4.out.st
          have hc4 := HSR4.out.st.c0
          have HKW := Lib.hid HSR4.out.gr.keeps
          have HKE := Lib.hid (keys_all wr mb _ p HST.out.map (by have := len_apps (mkp l) []; rw [mkp_len] at this; simp at this; rw [List.take_length]; omega))
          rw [← HPO.out] at HKE
          go_wp2_with fail
          refine HKE.out.mono ?_
          rintro e w5 ⟨A5, c5, g5, ss, rfl, htx, hpm, hso, hg5, hk5⟩
          have hl5 : ss.length ≤ 20 := by
            rw [hpm.length_eq]
            refine Nat.le_trans (List.length_filter_le _ _) ?_
            rw [List.length_map]
            have := len_apps (mkp l) []
            rw [mkp_len] at this
            simp at this
            rw [List.take_length]
            omega
          have hl6 : pO.size ≤ 20 := by have := HPS.out; omega
          have HTX := Lib.hid htx
          have HPM := Lib.hid hpm
          have HSO := Lib.hid hso
          have HND := Lib.hid (show ss.Nodup from hpm.nodup_iff.2 ((List.take_length (l := l) ▸ keysOf_nodup l).filter _))
          have HK5 := Lib.hid hk5
          have HRI := Lib.hid (show ∀ i (h : i + 1 < ss.length), ss[i] < ss[i + 1] from fun i h => rising HSO.out HND.out h)
          clear htx hpm hso hg5 hk5
          go_wp2_with fail
          go_loopw [9] (fun jv wq => ∃ j : Nat, j ≤ ss.length ∧ jv = .int .i64 (j : Int) ∧ Keeps [] w5 wq) (fun jv _ => ss.length - (RowKit.intOf jv).toNat)
          case atStart => exact ⟨0, by omega, rfl, Keeps.refl _ _⟩
          case round =>
            obtain ⟨j, hj, rfl, hkq⟩ := hrel
            have HKQ := Lib.hid hkq
            clear hkq
            by_cases hjl : j < ss.length
            · rcases HTX.out.keep HKQ.out (by simp) with h0 | ⟨o5, rfl, hc5⟩
              · rw [h0] at hjl; simp at hjl
              · have d1 := Lib.hid (hc5 j hjl)
                have HC5 := Lib.hid hc5
                clear hc5
                have hmem := (HPM.out.mem_iff).1 (List.getElem_mem hjl)
                have HPRE := Lib.hid (List.mem_filter.1 hmem).2
                clear hmem
                obtain ⟨b, hb⟩ : ∃ b, b = strO ss[j] := ⟨_, rfl⟩
                have hbs := pre_raw HPRE.out
                rw [← hb, ← HPO.out] at hbs
                rw [← hb] at d1
                have HB := Lib.hid hb
                obtain ⟨hb1, hb2⟩ := hbs
                have e5 : decide (b.size < pO.size) = false := by simp; omega
                clear hb
                by_cases hjp : 0 < j
                · have e6 : decide (0 < j) = true := by simp; omega
                  obtain ⟨jp, hjp1⟩ : ∃ jp, j = jp + 1 := ⟨j - 1, by omega⟩
                  have d0 := Lib.hid (HC5.out jp (by omega))
                  have HLS := Lib.hid (less_of (HRI.out jp (by omega)))
                  obtain ⟨b0, hb0⟩ : ∃ b, b = strO (ss[jp]'(by omega)) := ⟨_, rfl⟩
                  have hls : Op.bytesLess b0.toList b.toList = true := by
                    have := HLS.out
                    rw [← hb0] at this
                    rw [HB.out]
                    simp only [hjp1]
                    exact this
                  rw [← hb0] at d0
                  have e1 : IntKind.i64.wrap ((j : Int) - 1) = (jp : Int) := by rw [IntWalk.i64_in _ ⟨by omega, by omega⟩]; omega
                  have e1b : IntKind.i64.wrap (jp : Int) = (jp : Int) := IntWalk.i64_in _ ⟨by omega, by omega⟩
                  have hjpl : jp < ss.length := by omega
                  have HJP := Lib.hid hjp1
                  clear hb0 hjp1 HLS
                  go_wp2_with fail
                  refine Reg.wp_region_state (A := ?A1) (fun _ w' => Keeps [] wr w') (fun _ _ => True)
                    (Is (.slice (some ⟨g5, o5, none⟩) ss.length c5) :: Is (.int .i64 (j : Int)) :: Is (.pointer (some ⟨g5, o5 + j, none⟩)) :: Is (.string b) :: Is (.int .i64 (b.size : Int)) :: Is (.string pO) :: Is (.int .i64 (pO.size : Int)) :: Is (.bool false) :: Is (.bool false) :: Is (.slice (some ⟨g5, o5, none⟩) ss.length c5) :: Is (.int .i64 (j : Int)) :: Is (.pointer (some ⟨g5, o5 + j, none⟩)) :: Is (.string b) :: Is (.string pO) :: Is (.int .i64 (pO.size : Int)) :: Is (.string (b.extract 0 pO.size)) :: Is (.string pO) :: Is (.bool false) :: Is (.bool false) :: Is (.bool false) :: Is (.int .i64 (j : Int)) :: Is (.bool true) :: Is (.bool true) :: Is (.slice (some ⟨g5, o5, none⟩) ss.length c5) :: Is (.int .i64 (j : Int)) :: Is (.int .i64 (jp : Int)) :: Is (.pointer (some ⟨g5, o5 + jp, none⟩)) :: Is (.string b0) :: Is (.slice (some ⟨g5, o5, none⟩) ss.length c5) :: Is (.int .i64 (j : Int)) :: Is (.pointer (some ⟨g5, o5 + j, none⟩)) :: Is (.string b) :: Is (.bool false) :: Is (.bool false) :: Is (.bool false) :: [])
                    (by kernel_rfl) (by kernel_rfl) rfl ?hA1 ?hC1 ?ho1 ?hlast1 ?hend1
                  case hA1 => intro vs; simp only [Reg.fill, if_true, Nat.zero_add, Nat.reduceAdd, Act.put, List.setIfInBounds_toArray, List.set_cons_succ, List.set_cons_zero]; exact rfl
                  case hC1 => exact (Keeps.refl _ _).drew
                  case hlast1 => repeat (first | exact trivial | refine ⟨fun _ _ _ h _ => h, ?_⟩)
                  case ho1 =>
                    repeat' apply And.intro
                    all_goals
                      first
                        | exact trivial
                        | (intro L vs w' hC hL hd K hK
                           try simp only [Reg.Deps, Reg.at_, List.getD_cons_zero, List.getD_cons_succ, Region.binds, true_implies, Is, and_true] at hd
                           have hx0' := hC.cell_some d1.out (by simp)
                           have hx1' := hC.cell_some d0.out (by simp)
                           go_simp
                           first
                             | exact hK _ _ hC trivial rfl
                             | skip)
                  case hend1 =>
                    intro vs w2 hC hall
                    simp only [Reg.All, Is, and_true, Nat.zero_add, Nat.reduceAdd] at hall
                    obtain ⟨-, -, -, -, -, -, -, -, -, -, -, -, -, -, -, -, -, -, -, -, -, -, -, -, -, -, -, -, -, -, -, -, -, -, e34⟩ := hall
                    rw [e34]
                    have HK2 := Lib.hid (HKQ.out.trans hC (by simp))
                    clear hC e34
                    go_wp2_with fail
                    go_roundw
                    case rel => exact ⟨j + 1, by omega, by go_num, HK2.out⟩
                    case measure => simp [RowKit.intOf]; omega
                · have e6 : decide (0 < j) = false := by simp; omega
                  have HJ0 := Lib.hid hjp
                  clear hjp
                  go_wp2_with fail
                  refine Reg.wp_region_state (A := ?A0) (fun _ w' => Keeps [] wr w') (fun _ _ => True)
                    (Is (.slice (some ⟨g5, o5, none⟩) ss.length c5) :: Is (.int .i64 (j : Int)) :: Is (.pointer (some ⟨g5, o5 + j, none⟩)) :: Is (.string b) :: Is (.int .i64 (b.size : Int)) :: Is (.string pO) :: Is (.int .i64 (pO.size : Int)) :: Is (.bool false) :: Is (.bool false) :: Is (.slice (some ⟨g5, o5, none⟩) ss.length c5) :: Is (.int .i64 (j : Int)) :: Is (.pointer (some ⟨g5, o5 + j, none⟩)) :: Is (.string b) :: Is (.string pO) :: Is (.int .i64 (pO.size : Int)) :: Is (.string (b.extract 0 pO.size)) :: Is (.string pO) :: Is (.bool false) :: Is (.bool false) :: Is (.bool false) :: Is (.int .i64 (j : Int)) :: Is (.bool false) :: Is (.bool false) :: Is undef :: Is undef :: Is undef :: Is undef :: Is undef :: Is undef :: Is undef :: Is undef :: Is undef :: Is undef :: Is (.bool false) :: Is (.bool false) :: [])
                    (by kernel_rfl) (by kernel_rfl) rfl ?hA0 ?hC0 ?ho0 ?hlast0 ?hend0
                  case hA0 => intro vs; simp only [Reg.fill, if_true, Nat.zero_add, Nat.reduceAdd, Act.put, List.setIfInBounds_toArray, List.set_cons_succ, List.set_cons_zero]; exact rfl
                  case hC0 => exact (Keeps.refl _ _).drew
                  case hlast0 => repeat (first | exact trivial | refine ⟨fun _ _ _ h _ => h, ?_⟩)
                  case ho0 =>
                    repeat' apply And.intro
                    all_goals
                      first
                        | exact trivial
                        | (intro L vs w' hC hL hd K hK
                           try simp only [Reg.Deps, Reg.at_, List.getD_cons_zero, List.getD_cons_succ, Region.binds, true_implies, Is, and_true] at hd
                           have hx0' := hC.cell_some d1.out (by simp)
                           skip
                           go_simp
                           first
                             | exact hK _ _ hC trivial rfl
                             | skip)
                  case hend0 =>
                    intro vs w2 hC hall
                    simp only [Reg.All, Is, and_true, Nat.zero_add, Nat.reduceAdd] at hall
                    obtain ⟨-, -, -, -, -, -, -, -, -, -, -, -, -, -, -, -, -, -, -, -, -, -, -, -, -, -, -, -, -, -, -, -, -, -, e34⟩ := hall
                    rw [e34]
                    have HK2 := Lib.hid (HKQ.out.trans hC (by simp))
                    clear hC e34
                    go_wp2_with fail
                    go_roundw
                    case rel => exact ⟨j + 1, by omega, by go_num, HK2.out⟩
                    case measure => simp [RowKit.intOf]; omega
            · have HKF := Lib.hid (HKW.out.trans (HK5.out.trans HKQ.out (by simp)) (by simp))
              have HMF := Lib.hid (HST.out.map.keep (HK5.out.trans HKQ.out (by simp)) (by simp))
              have hcf := (HK5.out.trans HKQ.out (by simp)).cell_some hc4 (by simp)
              have HCF := Lib.hid hcf
              have HRF := Lib.hid (HR.out.keep HKF.out (by simp))
              have HL0 := Lib.hid (show ss.length = cnt p l by rw [HPM.out.length_eq, List.take_length]; rfl)
              obtain ⟨wf, hwf⟩ : ∃ wf, wf = wr := ⟨_, rfl⟩
              subst hwf
              clear hcf
              go_wp2_with fail
              go_loopw [10, 11] (fun nv iv wq => ∃ i : Nat, i ≤ l.length ∧ iv = .int .i64 (i : Int) ∧ nv = .int .i64 ((cnt p (l.take i) : Nat) : Int) ∧ Keeps [] wf wq) (fun _ iv _ => l.length - (RowKit.intOf iv).toNat)
              case atStart => exact ⟨0, by omega, rfl, rfl, Keeps.refl _ _⟩
              case round =>
                obtain ⟨i, hi, rfl, rfl, hkq⟩ := hrel
                have HKI := Lib.hid hkq
                clear hkq
                by_cases hil : i < l.length
                · rcases HRF.out.keep HKI.out (by simp) with h0 | ⟨off, rfl, hcell⟩
                  · rw [h0] at hil; simp at hil
                  · have c0 := Lib.hid (hcell i hil)
                    have HCL := Lib.hid hcell
                    clear hcell
                    have HRAW := Lib.hid (pre_eq p l[i])
                    obtain ⟨a, ha⟩ : ∃ a, a = strO l[i] := ⟨_, rfl⟩
                    rw [← ha] at c0 HRAW
                    rw [← HPO.out] at HRAW
                    have HA := Lib.hid ha
                    have HF0 := Lib.hid (show fst1 p (l.take 0) l[i] = pre p l[i] by simp [fst1])
                    obtain ⟨f0, hf0⟩ : ∃ f, f = pre p l[i] := ⟨_, rfl⟩
                    rw [← hf0] at HRAW HF0
                    clear ha hf0
                    have c0' := c0.out
                    have HG := Lib.hid (show ∀ w', Keeps [] wf w' → Calls Tryz.prog 24 #[.map (some mb), .string a] w' fun e w2 => e = .returned (.tuple #[.string ⟨#[]⟩, .bool true]) ∧ Keeps [] w' w2 from fun w' hk => by
                      have := get_any w' mb _ (HMF.out.keep hk (by simp)) l[i] (by have := H30.out l[i] (by rw [List.take_length]; exact List.getElem_mem hil); simp [maxLen]; omega)
                      rw [List.take_length, look_mkp (List.getElem_mem hil), ← HA.out] at this
                      exact this)
                    by_cases hsz : pO.size ≤ a.size
                    · have hx : ((a.extract 0 pO.size).toList == pO.toList) = f0 := by
                        have := HRAW.out
                        rw [decide_eq_true hsz, Bool.true_and] at this
                        exact this
                      go_wp2_with fail
                      obtain ⟨wo, hwo⟩ : ∃ wo, wo = wr := ⟨_, rfl⟩
                      subst hwo
                      have HKO := Lib.hid HKI.out
                      go_loopw [12, 13] (fun fv jv wq => ∃ j : Nat, j ≤ i ∧ jv = .int .i64 (j : Int) ∧ fv = .bool (fst1 p (l.take j) l[i]) ∧ Keeps [] wo wq) (fun _ jv _ => i - (RowKit.intOf jv).toNat)
                      case atStart => exact ⟨0, by omega, rfl, by rw [HF0.out], Keeps.refl _ _⟩
                      case round =>
                        obtain ⟨j, hj, rfl, rfl, hkq⟩ := hrel
                        have HKJ := Lib.hid hkq
                        have HFN := Lib.hid (fun h : j < l.length => fst_next (p := p) (k := l[i]) h)
                        obtain ⟨f, hf⟩ : ∃ f, f = fst1 p (l.take j) l[i] := ⟨_, rfl⟩
                        rw [← hf] at HFN ⊢
                        have HF := Lib.hid hf
                        clear hkq hf
                        by_cases hji : j < i
                        · have c1 := Lib.hid (HKJ.out.cell_some (HCL.out j (by omega)) (by simp))
                          have HR1 := Lib.hid (show decide (l[j]'(by omega) ≠ l[i]) = !decide (l[j]'(by omega) = l[i]) by simp)
                          obtain ⟨b, hb⟩ : ∃ b, b = strO (l[j]'(by omega)) := ⟨_, rfl⟩
                          have hq : (b.toList == a.toList) = decide (l[j]'(by omega) = l[i]) := by
                            rw [hb, HA.out, strO_toList, strO_toList]
                            by_cases h : l[j]'(by omega) = l[i]
                            · rw [h]; simp
                            · simp [h]
                          obtain ⟨r, hr⟩ : ∃ r, r = decide (l[j]'(by omega) = l[i]) := ⟨_, rfl⟩
                          rw [← hr] at hq HR1
                          rw [← hb] at c1
                          clear hb hr c0'
                          have hjl2 : j < l.length := by omega
                          cases f with
                          | true =>
                            go_wp2_with fail
                            refine Reg.wp_region_late (A := ?AT) (B := ?BT) [0] [12] (fun _ _ w' => Keeps [] wr w') (fun _ _ => True)
                              (Is (.bool true) :: Is (.bool true) :: Is (.slice (some ⟨g0, off, none⟩) l.length cap) :: Is (.int .i64 (j : Int)) :: Is (.pointer (some ⟨g0, off + j, none⟩)) :: Is (.string b) :: Is (.slice (some ⟨g0, off, none⟩) l.length cap) :: Is (.int .i64 (i : Int)) :: Is (.pointer (some ⟨g0, off + i, none⟩)) :: Is (.string a) :: Is (.bool (!r)) :: Is (.bool (!r)) :: Is (.bool (!r)) :: [])
                              (by kernel_rfl) (by kernel_rfl) rfl ?hAT ?hBT ?hCT ?hoT ?hlastT ?hendT
                            case hAT => intro vs; simp only [Reg.fill, if_true, Nat.zero_add, Nat.reduceAdd, Act.put, List.setIfInBounds_toArray, List.set_cons_succ, List.set_cons_zero]; exact rfl
                            case hBT => intro vs; simp only [Reg.fill, List.contains_cons, List.contains_nil, Nat.zero_add, Nat.reduceAdd, Nat.reduceBEq, Bool.or_false, Bool.not_true, Bool.not_false, if_true, if_false, Bool.false_eq_true, Act.put, List.setIfInBounds_toArray, List.set_cons_succ, List.set_cons_zero]; exact rfl
                            case hCT => exact fun _ => (Keeps.refl _ _).drew
                            case hlastT => repeat (first | exact trivial | refine ⟨fun _ _ _ h _ => h, ?_⟩)
                            case hoT =>
                              repeat' apply And.intro
                              all_goals
                                first
                                  | exact trivial
                                  | (intro L vs w' hC hL hd ha K hK
                                     try simp only [Reg.Deps, Reg.at_, List.getD_cons_zero, List.getD_cons_succ, Region.binds, true_implies, Is, and_true] at hd
                                     have hx0' := hC.cell_some c1.out (by simp)
                                     have hx1' := (HKJ.out.trans hC (by simp)).cell_some c0.out (by simp)
                                     go_simp
                                     first
                                       | exact hK _ _ hC trivial rfl
                                       | skip)
                            case hendT =>
                              intro vs w2 hC hall
                              simp only [Reg.All, Is, and_true, Nat.zero_add, Nat.reduceAdd] at hall
                              obtain ⟨-, -, -, -, -, -, -, -, -, -, -, e11, e12⟩ := hall
                              rw [e11, e12]
                              have HK2 := Lib.hid (HKJ.out.trans hC (by simp))
                              clear hC e11 e12
                              go_wp2_with fail
                              go_roundw
                              case rel => exact ⟨j + 1, by omega, by go_num, by rw [HFN.out (by omega), HR1.out]; simp, HK2.out⟩
                              case measure => simp [RowKit.intOf]; omega
                          | false =>
                            go_wp2_with fail
                            refine Reg.wp_region_late (A := ?AF) (B := ?BF) [0] [12] (fun _ _ w' => Keeps [] wr w') (fun _ _ => True)
                              (Is (.bool false) :: Is (.bool false) :: Is undef :: Is undef :: Is undef :: Is undef :: Is undef :: Is undef :: Is undef :: Is undef :: Is undef :: Is (.bool false) :: Is (.bool false) :: [])
                              (by kernel_rfl) (by kernel_rfl) rfl ?hAF ?hBF ?hCF ?hoF ?hlastF ?hendF
                            case hAF => intro vs; simp only [Reg.fill, if_true, Nat.zero_add, Nat.reduceAdd, Act.put, List.setIfInBounds_toArray, List.set_cons_succ, List.set_cons_zero]; exact rfl
                            case hBF => intro vs; simp only [Reg.fill, List.contains_cons, List.contains_nil, Nat.zero_add, Nat.reduceAdd, Nat.reduceBEq, Bool.or_false, Bool.not_true, Bool.not_false, if_true, if_false, Bool.false_eq_true, Act.put, List.setIfInBounds_toArray, List.set_cons_succ, List.set_cons_zero]; exact rfl
                            case hCF => exact fun _ => (Keeps.refl _ _).drew
                            case hlastF => repeat (first | exact trivial | refine ⟨fun _ _ _ h _ => h, ?_⟩)
                            case hoF =>
                              repeat' apply And.intro
                              all_goals
                                first
                                  | exact trivial
                                  | (intro L vs w' hC hL hd ha K hK
                                     try simp only [Reg.Deps, Reg.at_, List.getD_cons_zero, List.getD_cons_succ, Region.binds, true_implies, Is, and_true] at hd
                                     have hx0' := hC.cell_some c1.out (by simp)
                                     have hx1' := (HKJ.out.trans hC (by simp)).cell_some c0.out (by simp)
                                     go_simp
                                     first
                                       | exact hK _ _ hC trivial rfl
                                       | skip)
                            case hendF =>
                              intro vs w2 hC hall
                              simp only [Reg.All, Is, and_true, Nat.zero_add, Nat.reduceAdd] at hall
                              obtain ⟨-, -, -, -, -, -, -, -, -, -, -, e11, e12⟩ := hall
                              rw [e11, e12]
                              have HK2 := Lib.hid (HKJ.out.trans hC (by simp))
                              clear hC e11 e12
                              go_wp2_with fail
                              go_roundw
                              case rel => exact ⟨j + 1, by omega, by go_num, by rw [HFN.out (by omega)]; rfl, HK2.out⟩
                              case measure => simp [RowKit.intOf]; omega
                        · have HFF := Lib.hid (show f = fst1 p (l.take i) l[i] by rw [HF.out, show j = i by omega])
                          have hcn : cnt p (l.take i) ≤ 20 := by
                            have := cnt_le p (l.take i)
                            rw [List.length_take] at this
                            omega
                          obtain ⟨cn, hcn'⟩ : ∃ n, n = cnt p (l.take i) := ⟨_, rfl⟩
                          have HCN := Lib.hid hcn'
                          rw [← hcn'] at hcn ⊢
                          clear c0' hcn'
                          cases f with
                          | true =>
                            go_wp2_with fail
                            refine Reg.wp_region_state (A := ?AG1) (fun _ w' => Keeps [] wr w') (fun _ _ => True)
                              (Is (.pointer (some ⟨sp, 0, none⟩)) :: Is (.pointer (some ⟨sp, 0, none⟩)) :: Is (.pointer (some ⟨sp, 0, none⟩)) :: Is (.map (some mb)) :: Is (.slice (some ⟨g0, off, none⟩) l.length cap) :: Is (.int .i64 (i : Int)) :: Is (.pointer (some ⟨g0, off + i, none⟩)) :: Is (.string a) :: Is (.tuple #[.string ⟨#[]⟩, .bool true]) :: Is (.tuple #[.string ⟨#[]⟩, .bool true]) :: Is (.string ⟨#[]⟩) :: Is (.bool true) :: Is (.string ⟨#[]⟩) :: Is (.bool true) :: [])
                              (by kernel_rfl) (by kernel_rfl) rfl ?hAG1 ?hCG1 ?hoG1 ?hlastG1 ?hendG1
                            case hAG1 => intro vs; simp only [Reg.fill, if_true, Nat.zero_add, Nat.reduceAdd, Act.put, List.setIfInBounds_toArray, List.set_cons_succ, List.set_cons_zero]; exact rfl
                            case hCG1 => exact (Keeps.refl _ _).drew
                            case hlastG1 => repeat (first | exact trivial | refine ⟨fun _ _ _ h _ => h, ?_⟩)
                            case hoG1 =>
                              repeat' apply And.intro
                              all_goals
                                first
                                  | exact trivial
                                  | (intro L vs w' hC hL hd K hK
                                     try simp only [Reg.Deps, Reg.at_, List.getD_cons_zero, List.getD_cons_succ, Region.binds, true_implies, Is, and_true] at hd
                                     have hx0' := (HKJ.out.trans hC (by simp)).cell_some c0.out (by simp)
                                     have hx1' := (HKO.out.trans (HKJ.out.trans hC (by simp)) (by simp)).cell_some HCF.out (by simp)
                                     go_simp
                                     first
                                       | exact hK _ _ hC trivial rfl
                                       | skip)
                              · refine (HG.out w' (HKO.out.trans (HKJ.out.trans hC (by simp)) (by simp))).mono ?_
                                rintro e w2 ⟨rfl, hk⟩
                                exact ⟨_, rfl, hK _ _ (hC.trans hk (by simp)) trivial rfl⟩
                            case hendG1 =>
                              intro vs w2 hC hall
                              simp only [Reg.All, Is, and_true, Nat.zero_add, Nat.reduceAdd] at hall
                              obtain ⟨-, -, -, -, -, -, -, -, -, -, e10, e11, e12, e13⟩ := hall
                              rw [e12, e13]
                              have HK2 := Lib.hid (HKO.out.trans (HKJ.out.trans hC (by simp)) (by simp))
                              clear hC e10 e11 e12 e13
                              go_wp2_with fail
                              go_roundw
                              case rel => exact ⟨i + 1, by omega, by go_num, by rw [cnt_next hil, ← HFF.out]; rw [← HCN.out]; go_num, HK2.out⟩
                              case measure => simp [RowKit.intOf]; omega
                          | false =>
                            go_wp2_with fail
                            refine Reg.wp_region_state (A := ?AG0) (fun _ w' => Keeps [] wr w') (fun _ _ => True)
                              (Is (.pointer (some ⟨sp, 0, none⟩)) :: Is (.pointer (some ⟨sp, 0, none⟩)) :: Is (.pointer (some ⟨sp, 0, none⟩)) :: Is (.map (some mb)) :: Is (.slice (some ⟨g0, off, none⟩) l.length cap) :: Is (.int .i64 (i : Int)) :: Is (.pointer (some ⟨g0, off + i, none⟩)) :: Is (.string a) :: Is (.tuple #[.string ⟨#[]⟩, .bool true]) :: Is (.tuple #[.string ⟨#[]⟩, .bool true]) :: Is (.string ⟨#[]⟩) :: Is (.bool true) :: Is (.string ⟨#[]⟩) :: Is (.bool true) :: [])
                              (by kernel_rfl) (by kernel_rfl) rfl ?hAG0 ?hCG0 ?hoG0 ?hlastG0 ?hendG0
                            case hAG0 => intro vs; simp only [Reg.fill, if_true, Nat.zero_add, Nat.reduceAdd, Act.put, List.setIfInBounds_toArray, List.set_cons_succ, List.set_cons_zero]; exact rfl
                            case hCG0 => exact (Keeps.refl _ _).drew
                            case hlastG0 => repeat (first | exact trivial | refine ⟨fun _ _ _ h _ => h, ?_⟩)
                            case hoG0 =>
                              repeat' apply And.intro
                              all_goals
                                first
                                  | exact trivial
                                  | (intro L vs w' hC hL hd K hK
                                     try simp only [Reg.Deps, Reg.at_, List.getD_cons_zero, List.getD_cons_succ, Region.binds, true_implies, Is, and_true] at hd
                                     have hx0' := (HKJ.out.trans hC (by simp)).cell_some c0.out (by simp)
                                     have hx1' := (HKO.out.trans (HKJ.out.trans hC (by simp)) (by simp)).cell_some HCF.out (by simp)
                                     go_simp
                                     first
                                       | exact hK _ _ hC trivial rfl
                                       | skip)
                              · refine (HG.out w' (HKO.out.trans (HKJ.out.trans hC (by simp)) (by simp))).mono ?_
                                rintro e w2 ⟨rfl, hk⟩
                                exact ⟨_, rfl, hK _ _ (hC.trans hk (by simp)) trivial rfl⟩
                            case hendG0 =>
                              intro vs w2 hC hall
                              simp only [Reg.All, Is, and_true, Nat.zero_add, Nat.reduceAdd] at hall
                              obtain ⟨-, -, -, -, -, -, -, -, -, -, e10, e11, e12, e13⟩ := hall
                              rw [e12, e13]
                              have HK2 := Lib.hid (HKO.out.trans (HKJ.out.trans hC (by simp)) (by simp))
                              clear hC e10 e11 e12 e13
                              go_wp2_with fail
                              go_roundw
                              case rel => exact ⟨i + 1, by omega, by go_num, by rw [cnt_next hil, ← HFF.out]; rw [← HCN.out]; rfl, HK2.out⟩
                              case measure => simp [RowKit.intOf]; omega
                    · obtain rfl : f0 = false := by
                        have := HRAW.out
                        rw [decide_eq_false hsz, Bool.false_and] at this
                        exact this.symm
                      go_wp2_with fail
                      obtain ⟨wo, hwo⟩ : ∃ wo, wo = wr := ⟨_, rfl⟩
                      subst hwo
                      have HKO := Lib.hid HKI.out
                      go_loopw [12, 13] (fun fv jv wq => ∃ j : Nat, j ≤ i ∧ jv = .int .i64 (j : Int) ∧ fv = .bool (fst1 p (l.take j) l[i]) ∧ Keeps [] wo wq) (fun _ jv _ => i - (RowKit.intOf jv).toNat)
                      case atStart => exact ⟨0, by omega, rfl, by rw [HF0.out], Keeps.refl _ _⟩
                      case round =>
                        obtain ⟨j, hj, rfl, rfl, hkq⟩ := hrel
                        have HKJ := Lib.hid hkq
                        have HFN := Lib.hid (fun h : j < l.length => fst_next (p := p) (k := l[i]) h)
                        obtain ⟨f, hf⟩ : ∃ f, f = fst1 p (l.take j) l[i] := ⟨_, rfl⟩
                        rw [← hf] at HFN ⊢
                        have HF := Lib.hid hf
                        clear hkq hf
                        by_cases hji : j < i
                        · have c1 := Lib.hid (HKJ.out.cell_some (HCL.out j (by omega)) (by simp))
                          have HR1 := Lib.hid (show decide (l[j]'(by omega) ≠ l[i]) = !decide (l[j]'(by omega) = l[i]) by simp)
                          obtain ⟨b, hb⟩ : ∃ b, b = strO (l[j]'(by omega)) := ⟨_, rfl⟩
                          have hq : (b.toList == a.toList) = decide (l[j]'(by omega) = l[i]) := by
                            rw [hb, HA.out, strO_toList, strO_toList]
                            by_cases h : l[j]'(by omega) = l[i]
                            · rw [h]; simp
                            · simp [h]
                          obtain ⟨r, hr⟩ : ∃ r, r = decide (l[j]'(by omega) = l[i]) := ⟨_, rfl⟩
                          rw [← hr] at hq HR1
                          rw [← hb] at c1
                          clear hb hr c0'
                          have hjl2 : j < l.length := by omega
                          cases f with
                          | true =>
                            go_wp2_with fail
                            refine Reg.wp_region_late (A := ?ATx) (B := ?BTx) [0] [12] (fun _ _ w' => Keeps [] wr w') (fun _ _ => True)
                              (Is (.bool true) :: Is (.bool true) :: Is (.slice (some ⟨g0, off, none⟩) l.length cap) :: Is (.int .i64 (j : Int)) :: Is (.pointer (some ⟨g0, off + j, none⟩)) :: Is (.string b) :: Is (.slice (some ⟨g0, off, none⟩) l.length cap) :: Is (.int .i64 (i : Int)) :: Is (.pointer (some ⟨g0, off + i, none⟩)) :: Is (.string a) :: Is (.bool (!r)) :: Is (.bool (!r)) :: Is (.bool (!r)) :: [])
                              (by kernel_rfl) (by kernel_rfl) rfl ?hATx ?hBTx ?hCTx ?hoTx ?hlastTx ?hendTx
                            case hATx => intro vs; simp only [Reg.fill, if_true, Nat.zero_add, Nat.reduceAdd, Act.put, List.setIfInBounds_toArray, List.set_cons_succ, List.set_cons_zero]; exact rfl
                            case hBTx => intro vs; simp only [Reg.fill, List.contains_cons, List.contains_nil, Nat.zero_add, Nat.reduceAdd, Nat.reduceBEq, Bool.or_false, Bool.not_true, Bool.not_false, if_true, if_false, Bool.false_eq_true, Act.put, List.setIfInBounds_toArray, List.set_cons_succ, List.set_cons_zero]; exact rfl
                            case hCTx => exact fun _ => (Keeps.refl _ _).drew
                            case hlastTx => repeat (first | exact trivial | refine ⟨fun _ _ _ h _ => h, ?_⟩)
                            case hoTx =>
                              repeat' apply And.intro
                              all_goals
                                first
                                  | exact trivial
                                  | (intro L vs w' hC hL hd ha K hK
                                     try simp only [Reg.Deps, Reg.at_, List.getD_cons_zero, List.getD_cons_succ, Region.binds, true_implies, Is, and_true] at hd
                                     have hx0' := hC.cell_some c1.out (by simp)
                                     have hx1' := (HKJ.out.trans hC (by simp)).cell_some c0.out (by simp)
                                     go_simp
                                     first
                                       | exact hK _ _ hC trivial rfl
                                       | skip)
                            case hendTx =>
                              intro vs w2 hC hall
                              simp only [Reg.All, Is, and_true, Nat.zero_add, Nat.reduceAdd] at hall
                              obtain ⟨-, -, -, -, -, -, -, -, -, -, -, e11, e12⟩ := hall
                              rw [e11, e12]
                              have HK2 := Lib.hid (HKJ.out.trans hC (by simp))
                              clear hC e11 e12
                              go_wp2_with fail
                              go_roundw
                              case rel => exact ⟨j + 1, by omega, by go_num, by rw [HFN.out (by omega), HR1.out]; simp, HK2.out⟩
                              case measure => simp [RowKit.intOf]; omega
                          | false =>
                            go_wp2_with fail
                            refine Reg.wp_region_late (A := ?AFx) (B := ?BFx) [0] [12] (fun _ _ w' => Keeps [] wr w') (fun _ _ => True)
                              (Is (.bool false) :: Is (.bool false) :: Is undef :: Is undef :: Is undef :: Is undef :: Is undef :: Is undef :: Is undef :: Is undef :: Is undef :: Is (.bool false) :: Is (.bool false) :: [])
                              (by kernel_rfl) (by kernel_rfl) rfl ?hAFx ?hBFx ?hCFx ?hoFx ?hlastFx ?hendFx
                            case hAFx => intro vs; simp only [Reg.fill, if_true, Nat.zero_add, Nat.reduceAdd, Act.put, List.setIfInBounds_toArray, List.set_cons_succ, List.set_cons_zero]; exact rfl
                            case hBFx => intro vs; simp only [Reg.fill, List.contains_cons, List.contains_nil, Nat.zero_add, Nat.reduceAdd, Nat.reduceBEq, Bool.or_false, Bool.not_true, Bool.not_false, if_true, if_false, Bool.false_eq_true, Act.put, List.setIfInBounds_toArray, List.set_cons_succ, List.set_cons_zero]; exact rfl
                            case hCFx => exact fun _ => (Keeps.refl _ _).drew
                            case hlastFx => repeat (first | exact trivial | refine ⟨fun _ _ _ h _ => h, ?_⟩)
                            case hoFx =>
                              repeat' apply And.intro
                              all_goals
                                first
                                  | exact trivial
                                  | (intro L vs w' hC hL hd ha K hK
                                     try simp only [Reg.Deps, Reg.at_, List.getD_cons_zero, List.getD_cons_succ, Region.binds, true_implies, Is, and_true] at hd
                                     have hx0' := hC.cell_some c1.out (by simp)
                                     have hx1' := (HKJ.out.trans hC (by simp)).cell_some c0.out (by simp)
                                     go_simp
                                     first
                                       | exact hK _ _ hC trivial rfl
                                       | skip)
                            case hendFx =>
                              intro vs w2 hC hall
                              simp only [Reg.All, Is, and_true, Nat.zero_add, Nat.reduceAdd] at hall
                              obtain ⟨-, -, -, -, -, -, -, -, -, -, -, e11, e12⟩ := hall
                              rw [e11, e12]
                              have HK2 := Lib.hid (HKJ.out.trans hC (by simp))
                              clear hC e11 e12
                              go_wp2_with fail
                              go_roundw
                              case rel => exact ⟨j + 1, by omega, by go_num, by rw [HFN.out (by omega)]; rfl, HK2.out⟩
                              case measure => simp [RowKit.intOf]; omega
                        · have HFF := Lib.hid (show f = fst1 p (l.take i) l[i] by rw [HF.out, show j = i by omega])
                          have hcn : cnt p (l.take i) ≤ 20 := by
                            have := cnt_le p (l.take i)
                            rw [List.length_take] at this
                            omega
                          obtain ⟨cn, hcn'⟩ : ∃ n, n = cnt p (l.take i) := ⟨_, rfl⟩
                          have HCN := Lib.hid hcn'
                          rw [← hcn'] at hcn ⊢
                          clear c0' hcn'
                          cases f with
                          | true =>
                            go_wp2_with fail
                            refine Reg.wp_region_state (A := ?AG1x) (fun _ w' => Keeps [] wr w') (fun _ _ => True)
                              (Is (.pointer (some ⟨sp, 0, none⟩)) :: Is (.pointer (some ⟨sp, 0, none⟩)) :: Is (.pointer (some ⟨sp, 0, none⟩)) :: Is (.map (some mb)) :: Is (.slice (some ⟨g0, off, none⟩) l.length cap) :: Is (.int .i64 (i : Int)) :: Is (.pointer (some ⟨g0, off + i, none⟩)) :: Is (.string a) :: Is (.tuple #[.string ⟨#[]⟩, .bool true]) :: Is (.tuple #[.string ⟨#[]⟩, .bool true]) :: Is (.string ⟨#[]⟩) :: Is (.bool true) :: Is (.string ⟨#[]⟩) :: Is (.bool true) :: [])
                              (by kernel_rfl) (by kernel_rfl) rfl ?hAG1x ?hCG1x ?hoG1x ?hlastG1x ?hendG1x
                            case hAG1x => intro vs; simp only [Reg.fill, if_true, Nat.zero_add, Nat.reduceAdd, Act.put, List.setIfInBounds_toArray, List.set_cons_succ, List.set_cons_zero]; exact rfl
                            case hCG1x => exact (Keeps.refl _ _).drew
                            case hlastG1x => repeat (first | exact trivial | refine ⟨fun _ _ _ h _ => h, ?_⟩)
                            case hoG1x =>
                              repeat' apply And.intro
                              all_goals
                                first
                                  | exact trivial
                                  | (intro L vs w' hC hL hd K hK
                                     try simp only [Reg.Deps, Reg.at_, List.getD_cons_zero, List.getD_cons_succ, Region.binds, true_implies, Is, and_true] at hd
                                     have hx0' := (HKJ.out.trans hC (by simp)).cell_some c0.out (by simp)
                                     have hx1' := (HKO.out.trans (HKJ.out.trans hC (by simp)) (by simp)).cell_some HCF.out (by simp)
                                     go_simp
                                     first
                                       | exact hK _ _ hC trivial rfl
                                       | skip)
                              · refine (HG.out w' (HKO.out.trans (HKJ.out.trans hC (by simp)) (by simp))).mono ?_
                                rintro e w2 ⟨rfl, hk⟩
                                exact ⟨_, rfl, hK _ _ (hC.trans hk (by simp)) trivial rfl⟩
                            case hendG1x =>
                              intro vs w2 hC hall
                              simp only [Reg.All, Is, and_true, Nat.zero_add, Nat.reduceAdd] at hall
                              obtain ⟨-, -, -, -, -, -, -, -, -, -, e10, e11, e12, e13⟩ := hall
                              rw [e12, e13]
                              have HK2 := Lib.hid (HKO.out.trans (HKJ.out.trans hC (by simp)) (by simp))
                              clear hC e10 e11 e12 e13
                              go_wp2_with fail
                              go_roundw
                              case rel => exact ⟨i + 1, by omega, by go_num, by rw [cnt_next hil, ← HFF.out]; rw [← HCN.out]; go_num, HK2.out⟩
                              case measure => simp [RowKit.intOf]; omega
                          | false =>
                            go_wp2_with fail
                            refine Reg.wp_region_state (A := ?AG0x) (fun _ w' => Keeps [] wr w') (fun _ _ => True)
                              (Is (.pointer (some ⟨sp, 0, none⟩)) :: Is (.pointer (some ⟨sp, 0, none⟩)) :: Is (.pointer (some ⟨sp, 0, none⟩)) :: Is (.map (some mb)) :: Is (.slice (some ⟨g0, off, none⟩) l.length cap) :: Is (.int .i64 (i : Int)) :: Is (.pointer (some ⟨g0, off + i, none⟩)) :: Is (.string a) :: Is (.tuple #[.string ⟨#[]⟩, .bool true]) :: Is (.tuple #[.string ⟨#[]⟩, .bool true]) :: Is (.string ⟨#[]⟩) :: Is (.bool true) :: Is (.string ⟨#[]⟩) :: Is (.bool true) :: [])
                              (by kernel_rfl) (by kernel_rfl) rfl ?hAG0x ?hCG0x ?hoG0x ?hlastG0x ?hendG0x
                            case hAG0x => intro vs; simp only [Reg.fill, if_true, Nat.zero_add, Nat.reduceAdd, Act.put, List.setIfInBounds_toArray, List.set_cons_succ, List.set_cons_zero]; exact rfl
                            case hCG0x => exact (Keeps.refl _ _).drew
                            case hlastG0x => repeat (first | exact trivial | refine ⟨fun _ _ _ h _ => h, ?_⟩)
                            case hoG0x =>
                              repeat' apply And.intro
                              all_goals
                                first
                                  | exact trivial
                                  | (intro L vs w' hC hL hd K hK
                                     try simp only [Reg.Deps, Reg.at_, List.getD_cons_zero, List.getD_cons_succ, Region.binds, true_implies, Is, and_true] at hd
                                     have hx0' := (HKJ.out.trans hC (by simp)).cell_some c0.out (by simp)
                                     have hx1' := (HKO.out.trans (HKJ.out.trans hC (by simp)) (by simp)).cell_some HCF.out (by simp)
                                     go_simp
                                     first
                                       | exact hK _ _ hC trivial rfl
                                       | skip)
                              · refine (HG.out w' (HKO.out.trans (HKJ.out.trans hC (by simp)) (by simp))).mono ?_
                                rintro e w2 ⟨rfl, hk⟩
                                exact ⟨_, rfl, hK _ _ (hC.trans hk (by simp)) trivial rfl⟩
                            case hendG0x =>
                              intro vs w2 hC hall
                              simp only [Reg.All, Is, and_true, Nat.zero_add, Nat.reduceAdd] at hall
                              obtain ⟨-, -, -, -, -, -, -, -, -, -, e10, e11, e12, e13⟩ := hall
                              rw [e12, e13]
                              have HK2 := Lib.hid (HKO.out.trans (HKJ.out.trans hC (by simp)) (by simp))
                              clear hC e10 e11 e12 e13
                              go_wp2_with fail
                              go_roundw
                              case rel => exact ⟨i + 1, by omega, by go_num, by rw [cnt_next hil, ← HFF.out]; rw [← HCN.out]; rfl, HK2.out⟩
                              case measure => simp [RowKit.intOf]; omega
                · have hin : i = l.length := by omega
                  subst hin
                  have q1 : ((ss.length : Int) == ((cnt p l : Nat) : Int)) = true := by rw [HL0.out]; simp
                  have q1d : decide ((ss.length : Int) = ((cnt p l : Nat) : Int)) = true := by rw [HL0.out]; simp
                  have q2 : (ss.length == cnt p l) = true := by rw [HL0.out]; simp
                  have q2d : decide (ss.length = cnt p l) = true := by rw [HL0.out]; simp
                  have HK9 := Lib.hid (HKF.out.trans HKI.out (by simp))
                  go_wp2_with fail
                  go_ret
                  exact ⟨rfl, HK9.out⟩
    · have e2 : decide ((20 : Int) < (pO.size : Int)) = true := by simp; omega
      clear hps
      go_enter Tryz.func7, Tryz.ntmps7
      go_wp2_with fail
      refine HKN.out.mono ?_
      rintro e w1 ⟨rfl, hk1⟩
      have HK1 := Lib.hid hk1
      clear hk1
      go_wp2_with fail
      go_ret
      exact ⟨rfl, HK1.out⟩
  · have e1 : decide ((20 : Int) < (l.length : Int)) = true := by simp; omega
    go_enter Tryz.func7, Tryz.ntmps7
    go_wp2_with fail
    refine HKN.out.mono ?_
    rintro e w1 ⟨rfl, hk1⟩
    have HK1 := Lib.hid hk1
    clear hk1
    go_wp2_with fail
    go_ret
    exact ⟨rfl, HK1.out⟩
end Go.Proofs.YtbanpdeganlndaaGreatDoor
