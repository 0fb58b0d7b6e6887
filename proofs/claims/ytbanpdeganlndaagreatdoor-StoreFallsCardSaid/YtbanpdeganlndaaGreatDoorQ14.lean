/- Merged: SKnown SBatch -/
import Derived.Test.YtbanpdeganlndaaGreatDoorQ13
namespace Go.Proofs.YtbanpdeganlndaaGreatDoor
open Go.RowKit
open Reg (Is Fact)
open St (Tx As Ch)

attribute [local go_sem] Reg.wantedV Reg.gives_value Reg.gives_skip Reg.gives_enter in
set_option maxRecDepth 100000 in
set_option maxHeartbeats 4000000 in
theorem strings_any (w : World) (g1 g2 c1 c2 : Nat) (A1 A2 : Option Addr) (ss : List Tx) (h1 : TxsIn w g1 A1 ss) (h2 : TxsIn w g2 A2 ss) (hl : ss.length ≤ 1000) :
    Calls Tryz.prog 25 #[.slice A1 ss.length c1, .slice A2 ss.length c2] w fun e w' => e = .returned (.bool true) ∧ Keeps [] w w' := by
  have H1 := Lib.hid h1
  have H2 := Lib.hid h2
  clear h1 h2
  go_enter Tryz.func25, Tryz.ntmps25
  go_wp2_with fail
  go_loopw [5] (fun iv wq => ∃ i : Nat, i ≤ ss.length ∧ iv = .int .i64 (i : Int) ∧ Keeps [] w wq) (fun iv _ => ss.length - (RowKit.intOf iv).toNat)
  case atStart => exact ⟨0, by omega, rfl, Keeps.refl _ _⟩
  case round =>
    obtain ⟨i, hi, rfl, hk⟩ := hrel
    have HK := Lib.hid hk
    clear hk
    by_cases hlt : i < ss.length
    · rcases H1.out with h0 | ⟨o1, rfl, hc1⟩
      · rw [h0] at hlt; simp at hlt
      · rcases H2.out with h0 | ⟨o2, rfl, hc2⟩
        · rw [h0] at hlt; simp at hlt
        · have d1 := Lib.hid (HK.out.cell_some (hc1 i hlt) (by simp))
          have d2 := Lib.hid (HK.out.cell_some (hc2 i hlt) (by simp))
          obtain ⟨a, ha⟩ : ∃ a, a = strO ss[i] := ⟨_, rfl⟩
          rw [← ha] at d1 d2
          have hsame : (a.toList == a.toList) = true := by simp
          clear hc1 hc2 ha
          go_wp2_with fail
          refine Reg.wp_region_state (A := ?A2) (fun _ w' => Keeps [] wr w') (fun _ _ => True)
            [Is (.slice (some ⟨g1, o1, none⟩) ss.length c1), Is (.int .i64 (i : Int)), Is (.pointer (some ⟨g1, o1 + i, none⟩)), Is (.string a), Is (.slice (some ⟨g2, o2, none⟩) ss.length c2), Is (.int .i64 (i : Int)), Is (.pointer (some ⟨g2, o2 + i, none⟩)), Is (.string a), Is (.bool false)]
            (by kernel_rfl) (by kernel_rfl) rfl ?hA2 ?hC2 ?ho2 ?hlast2 ?hend2
          case hA2 => intro vs; simp only [Reg.fill, if_true, Nat.zero_add, Nat.reduceAdd, Act.put, List.setIfInBounds_toArray, List.set_cons_succ, List.set_cons_zero]; exact rfl
          case hC2 => exact (Keeps.refl _ _).drew
          case hlast2 => repeat (first | exact trivial | refine ⟨fun _ _ _ h _ => h, ?_⟩)
          case ho2 =>
            repeat' apply And.intro
            all_goals
              first
                | exact trivial
                | (intro L vs w' hC hL hd K hK
                   try simp only [Reg.Deps, Reg.at_, List.getD_cons_zero, List.getD_cons_succ, Region.binds, true_implies, Is, and_true] at hd
                   have hx0' := hC.cell_some d1.out (by simp)
                   have hx1' := hC.cell_some d2.out (by simp)
                   go_simp
                   exact hK _ _ hC trivial rfl)
          case hend2 =>
            intro vs w2 hC hall
            simp only [Reg.All, Is, and_true, Nat.zero_add, Nat.reduceAdd] at hall
            obtain ⟨-, -, -, -, -, -, -, -, e8⟩ := hall
            rw [e8]
            have HK2 := Lib.hid (HK.out.trans hC (by simp))
            clear hC e8
            go_wp2_with fail
            go_roundw
            case rel => exact ⟨i + 1, by omega, by go_num, HK2.out⟩
            case measure => simp [RowKit.intOf]; omega
    · go_wp2_with fail
      go_ret
      exact ⟨rfl, HK.out⟩
/-- Changes of the statements' size fit. -/
theorem fit_recs {cs : List Ch} {s free k : Nat} (hs : 0 < s) (h : ∀ c ∈ cs, c.key.length ≤ 40 ∧ c.val.length ≤ 255) (hk : cs.length ≤ k) (hf : 9 + 308 * k + s - 1 < (free + 1) * s) : fitErr free s (cs.map St.rec) = 0 := by
  have hr : ∀ r ∈ cs.map St.rec, List.length r ≤ 304 := fun r hr => by
    obtain ⟨c, hc, rfl⟩ := List.mem_map.1 hr
    have h1 := h c hc
    have := St.rec_short (c := c) (by omega) (by omega)
    omega
  have hb := body_small hr
  rw [List.length_map] at hb
  have hb' : (L.body (cs.map St.rec)).length ≤ 308 * k := Nat.le_trans hb (Nat.mul_le_mul_left _ hk)
  unfold fitErr
  rw [if_neg, if_neg]
  · have h1 := L.nsec_bound (rs := cs.map St.rec) hs
    intro hlt
    have h2 : (free + 1) * s ≤ L.nsec (cs.map St.rec) s * s := Nat.mul_le_mul_right _ hlt
    omega
  · rintro ⟨r, hr', hl⟩
    have := hr r hr'
    omega
theorem body_recs {cs : List Ch} (h : ∀ c ∈ cs, c.key.length ≤ 40 ∧ c.val.length ≤ 255) (hl : cs.length ≤ 1000) : (L.body (cs.map St.rec)).length ≤ 308 * cs.length := by
  have hr : ∀ r ∈ cs.map St.rec, List.length r ≤ 304 := fun r hr => by
    obtain ⟨c, hc, rfl⟩ := List.mem_map.1 hr
    have h1 := h c hc
    have := St.rec_short (c := c) (by omega) (by omega)
    omega
  have hb := body_small hr
  rw [List.length_map] at hb
  exact hb
theorem SOut.lit {w0 w' : World} {h : DH} {lp : Nat} {d : Dk} {a u sp mb : Nat} {cs next : List Ch} {l l' : As} {N s m : Nat} (x : SOut w0 w' h lp d a u sp mb cs next l l' N s m) (hd : Lit_ d) : m = 0 ∧ ∃ B' d', Lit_ d' ∧ SR w0 w' h B' lp d' ⟨a, u, next.length, true⟩ sp mb next l' N s := by
  rcases x with ⟨h1, B', d', h2, h3⟩ | ⟨_, h2, _⟩
  · exact ⟨h1, B', d', h2 hd, h3⟩
  · exact absurd hd h2
def two : List Ch := [⟨[97], [49], false⟩, ⟨[98], [50, 50], false⟩]
theorem two_in {w : World} {x : Nat} {t : TypeId} (hx : w.heap[x]? = some (.cells #[.string ⟨#[97]⟩, .string ⟨#[49]⟩, .bool false, .string ⟨#[98]⟩, .string ⟨#[50, 50]⟩, .bool false] t (0, 0))) : PairsIn w x (some ⟨x, 0, none⟩) two :=
  .inr ⟨0, rfl, fun k hk => by
    match k, hk with
    | 0, _ => exact ⟨by rw [row_cell hx]; rfl, by rw [row_cell hx]; rfl, by rw [row_cell hx]; rfl⟩
    | 1, _ => exact ⟨by rw [row_cell hx]; rfl, by rw [row_cell hx]; rfl, by rw [row_cell hx]; rfl⟩⟩
theorem two_apps : St.apps [] two = [([98], [50, 50]), ([97], [49])] := by decide
theorem scap200 : L.cap 200 = 98 := by decide
theorem scap400 : L.cap 400 = 198 := by decide
set_option maxRecDepth 100000 in
set_option maxHeartbeats 8000000 in
theorem sknown_any (w : World) (ht : TabAt w) (hp : 1 < w.heap.size) :
    Calls Tryz.prog 9 #[] w fun e w' => e = .returned (.bool true) ∧ Keeps [] w w' := by
  have HT := Lib.hid ht
  have HN := Lib.hid (newD_any w 200 256 (by omega) (by omega))
  clear ht
  go_enter Tryz.func9, Tryz.ntmps9
  go_wp2_with fail
  refine HN.out.mono ?_
  intro e w1 hnew
  obtain ⟨h, rfl, ho⟩ := sr_new (Keeps.refl [] w) HT.out hp hnew (by omega) (by omega)
  have HO := Lib.hid ho
  clear hnew ho
  go_wp2_with fail
  refine HO.out.mono ?_
  rintro e w2 ⟨sp, mb, lp, B, d, g, rfl, hlit, hu, hsr, hk2⟩
  have HSR := Lib.hid hsr
  have HLIT := Lib.hid hlit
  have HU := Lib.hid hu
  clear hsr hlit hu hk2
  have HAP := Lib.hid (show Calls Tryz.prog 14 #[.pointer (some ⟨sp, 0, none⟩), .slice (some ⟨w2.heap.size, 0, none⟩) 2 2] (w2.alloc (.cells #[.string ⟨#[97]⟩, .string ⟨#[49]⟩, .bool false, .string ⟨#[98]⟩, .string ⟨#[50, 50]⟩, .bool false] 66)) fun e w' => ∃ m : Nat, e = .returned (.int .i64 (m : Int)) ∧ m = 0 ∧ ∃ B' d', Lit_ d' ∧ ∃ g', SR w w' h B' lp d' g' sp mb two (St.apps [] two) 200 256 from by
    have hka : Keeps [] w2 (w2.alloc (.cells #[.string ⟨#[97]⟩, .string ⟨#[49]⟩, .bool false, .string ⟨#[98]⟩, .string ⟨#[50, 50]⟩, .bool false] 66)) := (Keeps.refl _ _).alloc _
    refine ((HSR.out.step hka).apply 2 (ds := two) (two_in (heap_alloc_new w2 _)) (.inr (fun hm => by have := HSR.out.low _ hm; omega)) (by decide) (by decide) (by decide) (by decide) ?_ ?_).mono ?_
    · have := body_recs (cs := two) (by decide) (by decide)
      have e2 : two.length = 2 := rfl
      omega
    · rw [HU.out, scap200]
      exact fit_recs (k := 2) (by omega) (by decide) (by decide) (by omega)
    · rintro e w' ⟨m, rfl, _, hout⟩
      obtain ⟨h0, B', d', q1, q2⟩ := hout.lit HLIT.out
      exact ⟨m, rfl, h0, B', d', q1, _, q2⟩)
  go_wp2_with fail
  refine HAP.out.mono ?_
  rintro e w3 ⟨m, rfl, rfl, B3, d3, hlit3, g3, hsr3⟩
  have HOP := Lib.hid (hsr3.opens hlit3 (by decide) (by decide))
  clear hsr3 hlit3
  go_wp2_with fail
  refine HOP.out.mono ?_
  rintro e w4 ⟨sp4, mb4, lp4, B4, d4, g4, rfl, hlit4, _, hsr4, _, _, _⟩
  have hst := hsr4.st
  rw [two_apps] at hst
  have HST := Lib.hid hst
  have HK4 := Lib.hid hsr4.gr.keeps
  have HC0 := Lib.hid hst.c0
  have hc4 := hst.c0
  have HG1 := Lib.hid (show Calls Tryz.prog 24 #[.map (some mb4), .string ⟨#[98]⟩] w4 fun e w' => e = .returned (.tuple #[.string ⟨#[50, 50]⟩, .bool true]) ∧ Keeps [] w4 w' from by
    have := get_any w4 mb4 _ HST.out.map [98] (by simp [maxLen])
    rw [show St.look [([98], [50, 50]), ([97], [49])] [98] = some [50, 50] by decide] at this
    exact this)
  have HG2 := Lib.hid (show ∀ w', Keeps [] w4 w' → Calls Tryz.prog 24 #[.map (some mb4), .string ⟨#[99]⟩] w' fun e w2 => e = .returned (.tuple #[.string ⟨#[]⟩, .bool false]) ∧ Keeps [] w' w2 from fun w' hk => by
    have := get_any w' mb4 _ (HST.out.map.keep hk (by simp)) [99] (by simp [maxLen])
    rw [show St.look [([98], [50, 50]), ([97], [49])] [99] = none by decide] at this
    exact this)
  have HKE := Lib.hid (show ∀ w', Keeps [] w4 w' → Calls Tryz.prog 23 #[.map (some mb4), .string ⟨#[97]⟩] w' (KeysP w' [([98], [50, 50]), ([97], [49])] [97]) from fun w' hk => keys_all w' mb4 _ [97] (HST.out.map.keep hk (by simp)) (by simp))
  have HSZ := Lib.hid (show ∀ w', Keeps [] w4 w' → Calls Tryz.prog 26 #[.map (some mb4)] w' fun e w2 => e = .returned (.int .i64 5) ∧ Keeps [] w' w2 from fun w' hk => ssize_any w' mb4 _ (HST.out.map.keep hk (by simp)) (by decide))
  clear hst hsr4 hlit4
  go_wp2_with fail
  refine HG1.out.mono ?_
  rintro e w5 ⟨rfl, hk5⟩
  have HK5 := Lib.hid hk5
  have hc5 := hk5.cell_some HC0.out (by simp)
  clear hk5
  go_wp2_with fail
  refine (HG2.out w5 HK5.out).mono ?_
  rintro e w6 ⟨rfl, hk6⟩
  have HK6 := Lib.hid (HK5.out.trans hk6 (by simp))
  have hc6 := HK6.out.cell_some HC0.out (by simp)
  clear hk6 hc5 hc4
  go_wp2_with fail
  refine (HKE.out w6 HK6.out).mono ?_
  rintro e w7 ⟨A7, c7, g7, ss, rfl, htx, hpm, _, _, hk7⟩
  rw [show ((([([98], [50, 50]), ([97], [49])] : As).map (·.1)).filter (pre [97])) = [[97]] by decide] at hpm
  obtain rfl := List.perm_singleton.1 hpm
  have HK7 := Lib.hid (HK6.out.trans hk7 (by simp))
  have hka : Keeps [] w7 (w7.alloc (.cells #[.string ⟨#[97]⟩] 9)) := (Keeps.refl _ _).alloc _
  have HK8 := Lib.hid (HK7.out.trans hka (by simp))
  have HSS := Lib.hid (show Calls Tryz.prog 25 #[.slice A7 1 c7, .slice (some ⟨w7.heap.size, 0, none⟩) 1 1] (w7.alloc (.cells #[.string ⟨#[97]⟩] 9)) fun e w' => e = .returned (.bool true) ∧ Keeps [] (w7.alloc (.cells #[.string ⟨#[97]⟩] 9)) w' from
    strings_any _ g7 w7.heap.size c7 1 A7 _ [[97]] (htx.keep hka (by simp)) (.inr ⟨0, rfl, fun k hk => by
      have : k = 0 := by simpa using hk
      subst this
      rw [row_cell (heap_alloc_new w7 _)]; rfl⟩) (by simp))
  clear htx hpm hk7 hka hc6
  go_wp2_with fail
  refine HSS.out.mono ?_
  rintro e w9 ⟨rfl, hk9⟩
  have HK9 := Lib.hid (HK8.out.trans hk9 (by simp))
  have hc9 := HK9.out.cell_some HC0.out (by simp)
  clear hk9
  go_wp2_with fail
  refine (HSZ.out w9 HK9.out).mono ?_
  rintro e w10 ⟨rfl, hk10⟩
  have HK10 := Lib.hid (HK9.out.trans hk10 (by simp))
  have HDN := Lib.hid (down_any w10 sp4 mb4 lp4 false _ (HST.out.keep0 HK10.out))
  clear hk10 hc9
  go_wp2_with fail
  refine HDN.out.mono ?_
  rintro e w11 ⟨rfl, rfl⟩
  go_wp2_with fail
  go_ret
  exact ⟨rfl, HK4.out.trans HK10.out (by simp)⟩
end Go.Proofs.YtbanpdeganlndaaGreatDoor
namespace Go.Proofs.YtbanpdeganlndaaGreatDoor
open Go.RowKit
open Reg (Is Fact)
open St (Tx As Ch)

theorem LPsIn.low {w : World} {g : Nat} {A : Option Addr} {l : List LP} (h : LPsIn w g A l) : l = [] ∨ g < w.heap.size := by
  rcases h with h | ⟨off, hA, hc⟩
  · exact .inl h
  · by_cases h0 : l = []
    · exact .inl h0
    · exact .inr (World.block_lt_of_cell? w _ (hc 0 (List.length_pos_iff.2 h0)).1)
theorem mkc_small {i : Nat} {ps : List LP} : ∀ c ∈ mkc i ps, c.key.length ≤ 40 ∧ c.val.length ≤ 255 := fun c hc => by
  obtain ⟨_, h1, h2⟩ := mkc_ok c hc
  omega
theorem mkc_keys {i : Nat} {ps : List LP} {l : As} (h : ∀ p ∈ l, p.1 ∈ St.ks) : ∀ p ∈ St.apps l (mkc i ps), p.1 ∈ St.ks := St.keys_apps h (fun c hc => (mkc_ok c hc).1)
theorem ssize_cons (p : Tx × Tx) (l : As) : St.size (p :: l) = p.1.length + p.2.length + St.size l := by simp [St.size]
theorem size_del (l : As) (k : Tx) : St.size (St.del l k) ≤ St.size l := by
  induction l with
  | nil => exact Nat.le_refl _
  | cons p l ih =>
    have e : St.del (p :: l) k = if p.1 ≠ k then p :: St.del l k else St.del l k := by
      by_cases hp : p.1 = k
      · simp [St.del, List.filter_cons, hp]
      · simp [St.del, List.filter_cons, hp]
    rw [e, ssize_cons]
    split
    · rw [ssize_cons]; omega
    · omega
theorem size_app (l : As) (c : Ch) : St.size (St.app l c) ≤ St.size l + c.size := by
  unfold St.app
  split
  · have := size_del l c.key; omega
  · have := size_del l c.key
    show St.size ((c.key, c.val) :: St.del l c.key) ≤ _
    rw [ssize_cons]
    show c.key.length + c.val.length + St.size (St.del l c.key) ≤ St.size l + (c.key.length + c.val.length)
    omega
theorem size_apps {k : Nat} : ∀ (cs : List Ch) (l : As), (∀ c ∈ cs, c.size ≤ k) → St.size (St.apps l cs) ≤ St.size l + k * cs.length
  | [], l, _ => by simp [St.apps]
  | c :: cs, l, h => by
    have h1 := size_app l c
    have h2 := size_apps cs (St.app l c) (fun c hc => h c (by simp [hc]))
    have h3 := h c (by simp)
    have e : St.apps l (c :: cs) = St.apps (St.app l c) cs := rfl
    rw [e, List.length_cons, Nat.mul_succ]
    omega
theorem mkc_csize {i : Nat} {ps : List LP} : ∀ c ∈ mkc i ps, c.size ≤ 258 := fun c hc => by
  obtain ⟨_, h1, h2⟩ := mkc_ok c hc
  unfold St.Ch.size; omega
/-- What a batch of few pairs makes is small. -/
theorem mkc_apps {i k : Nat} {ps : List LP} (h : ps.length ≤ k) : St.size (St.apps [] (mkc i ps)) ≤ 258 * k ∧ (St.apps [] (mkc i ps)).length ≤ k := by
  have h1 := size_apps (k := 258) (mkc i ps) [] mkc_csize
  have h2 := len_apps (mkc i ps) []
  rw [mkc_len] at h1 h2
  have e : St.size [] = 0 := rfl
  refine ⟨?_, by simpa using Nat.le_trans h2 (by simpa using h)⟩
  have := Nat.mul_le_mul_left 258 h
  omega
set_option maxRecDepth 100000 in
set_option maxHeartbeats 8000000 in
theorem sbatch_any (w : World) (ht : TabAt w) (hp : 1 < w.heap.size) (g0 cap : Nat) (A : Option Addr) (ps : List LP) (hr : LPsIn w g0 A ps) :
    Calls Tryz.prog 5 #[.slice A ps.length cap] w fun e w' => e = .returned (.bool true) ∧ Keeps [] w w' := by
  have HT := Lib.hid ht
  have HR := Lib.hid hr
  have HKN := Lib.hid (sknown_any w ht hp)
  clear ht hr
  have hmm := @run_makeMap Tryz.prog
  by_cases hl : ps.length ≤ 20
  · have e1 : decide ((20 : Int) < (ps.length : Int)) = false := by simp; omega
    go_enter Tryz.func5, Tryz.ntmps5
    go_wp2_with fail
    refine HKN.out.mono ?_
    rintro e w1 ⟨rfl, hk1⟩
    have HK1 := Lib.hid hk1
    have HN := Lib.hid (newD_any w1 400 512 (by omega) (by omega))
    clear hk1
    go_wp2_with fail
    refine HN.out.mono ?_
    intro e w2 hnew
    obtain ⟨h, rfl, ho⟩ := sr_new HK1.out HT.out hp hnew (by omega) (by omega)
    have HO := Lib.hid ho
    clear hnew ho
    go_wp2_with fail
    refine HO.out.mono ?_
    rintro e w3 ⟨sp, mb, lp, B, d, g, rfl, hlit, hu, hsr, hk3⟩
    have HLIT := Lib.hid hlit
    have HU := Lib.hid hu
    have hkm : Keeps [] w3 (w3.alloc (.map #[] 0)) := (Keeps.refl _ _).alloc _
    have HKM := Lib.hid hkm
    have HSR := Lib.hid hsr
    have HK3 := Lib.hid (hk3.trans hkm (by simp))
    have HMM := Lib.hid (MapAt.made w3 ES)
    have hsz3 := hk3.size
    clear hlit hu hsr hk3
    have HR4 := Lib.hid (HR.out.keep HK3.out (by simp))
    have HPA := Lib.hid (pairs_any _ 1 g0 w3.heap.size cap A ps [] HR4.out HMM.out (by omega) (by omega) (by simp) (HR.out.low.imp id (fun hg => by omega)))
    have HMS := Lib.hid hkm.size
    clear hkm hsz3
    go_wp2_with fail
    refine HPA.out.mono ?_
    rintro e w5 ⟨A5, c5, g5, rfl, hpi, hg5, hm5, hk5⟩
    have HPI := Lib.hid hpi
    have HK35 := Lib.hid (HKM.out.fresh hk5 (by simp))
    have HM5 := Lib.hid hm5
    have hlow := HSR.out.low
    have HAP := Lib.hid ((HSR.out.step HK35.out).apply c5 HPI.out ((Classical.em (mkc 1 ps = [])).imp id (fun hne hm => by have := hlow _ hm; have := hg5 hne; have := HMS.out; omega)) mkc_size (by rw [mkc_len]; omega) (by simp) (by simp)
      (by have := body_recs (cs := mkc 1 ps) mkc_small (by rw [mkc_len]; omega); rw [mkc_len] at this; omega)
      (by rw [HU.out, scap400]; exact fit_recs (k := 20) (by omega) mkc_small (by rw [mkc_len]; omega) (by omega)))
    have HLOW := Lib.hid hlow
    clear hpi hg5 hm5 hk5 hlow
    rw [mkc_len] at *
    go_wp2_with fail
    refine HAP.out.mono ?_
    rintro e w6 ⟨m, rfl, hk6, hout⟩
    obtain ⟨rfl, B6, d6, hlit6, hsr6⟩ := hout.lit HLIT.out
    have HSR6 := Lib.hid hsr6
    have HLIT6 := Lib.hid hlit6
    have HM6 := Lib.hid (HM5.out.keep hk6 (fun hm => by have := HLOW.out _ hm; omega))
    have hsm := mkc_apps (i := 1) (k := 20) (ps := ps) (by omega)
    have hkk := mkc_keys (i := 1) (ps := ps) (l := []) (by simp)
    have hkd := St.keyed_apps St.keyed_nil (mkc 1 ps)
    have HAL := Lib.hid (alike_any w6 sp mb lp w3.heap.size false _ _ HSR6.out.st HM6.out hkk hkk (by omega) (by omega) (by omega))
    rw [same_perm hkd (List.Perm.refl _)] at HAL
    clear hk6 hout hsr6 hlit6
    go_wp2_with fail
    refine HAL.out.mono ?_
    rintro e w7 ⟨rfl, hk7⟩
    have HOP := Lib.hid ((HSR6.out.step hk7).opens HLIT6.out (by simpa using mkc_size) (by rw [List.length_append, mkc_len]; simp; omega))
    have HM7 := Lib.hid (HM6.out.keep hk7 (by simp))
    clear hk7
    go_wp2_with fail
    refine HOP.out.mono ?_
    rintro e w8 ⟨sp8, mb8, lp8, B8, d8, g8, rfl, _, _, hsr8, hk8, _, _⟩
    have HSR8 := Lib.hid hsr8
    have HM8 := Lib.hid (HM7.out.keep hk8 (fun hm => by have := HLOW.out w3.heap.size (by simp [hm]); omega))
    have HAL8 := Lib.hid (alike_any w8 sp8 mb8 lp8 w3.heap.size false _ _ HSR8.out.st HM8.out hkk hkk (by rw [List.nil_append]; omega) (by rw [List.nil_append]; omega) (by omega))
    rw [List.nil_append, same_perm hkd (List.Perm.refl _)] at HAL8
    have HK8 := Lib.hid HSR8.out.gr.keeps
    clear hsr8 hk8
    go_wp2_with fail
    refine HAL8.out.mono ?_
    rintro e w9 ⟨rfl, hk9⟩
    go_wp2_with fail
    go_ret
    exact ⟨rfl, HK8.out.trans hk9 (by simp)⟩
  · have e1 : decide ((20 : Int) < (ps.length : Int)) = true := by simp; omega
    go_enter Tryz.func5, Tryz.ntmps5
    go_wp2_with fail
    refine HKN.out.mono ?_
    rintro e w1 ⟨rfl, hk1⟩
    have HK1 := Lib.hid hk1
    clear hk1
    go_wp2_with fail
    go_ret
    exact ⟨rfl, HK1.out⟩
end Go.Proofs.YtbanpdeganlndaaGreatDoor
