/- CodeWrites: the walk. -/
import Derived.Test.YtpjnckdekoooeaaCL2
import Derived.Test.YtpjnckdekoooeaaCKnown
namespace Go.Proofs.Ytpjnckdekoooeaa.codeWrites
open Go.RowKit
open Reg (Is Fact)

attribute [local go_sem] Reg.wantedV Reg.gives_value Reg.gives_skip Reg.gives_enter
/-- Texts that l2 has made. -/
def TextsF (q h : Nat) (ss : List ByteArray) : Fact := fun v w => ∃ A cap b, v = .slice A ss.length cap ∧ CellsIn w b A (texts ss) ∧ b ≠ q ∧ b ≠ h
theorem TextsF.last {q h : Nat} {ss : List ByteArray} : ∀ v w w', TextsF q h ss v w → GK q h w w' → TextsF q h ss v w' :=
  fun _ _ _ ⟨A, cap, b, h1, h2, h3, h4⟩ hg => ⟨A, cap, b, h1, h2.keep hg (by simp; exact ⟨h3, h4⟩), h3, h4⟩
/-- A copy of l. -/
def CopyB (l : List UInt8) : Fact := fun v w => ∃ A c b, v = .slice A l.length c ∧ BytesIn w b A l
theorem CopyB.last {B : Nat} {l : List UInt8} : ∀ v w w', B ≤ w.heap.size → CopyB l v w → Below w.heap.size w w' → CopyB l v w' :=
  fun _ _ _ _ ⟨A, c, b, h1, h2⟩ hb => ⟨A, c, b, h1, h2.keep (Keeps.of_below hb []) (by simp)⟩
theorem Is.lastB {B : Nat} {u : Value} : ∀ v w w', B ≤ w.heap.size → Is u v w → Below w.heap.size w w' → Is u v w' := fun _ _ _ _ h _ => h
theorem flat_ts_len (ps : List Pt) (h : ∀ p ∈ ps, p.light) : ((ps.map (·.t)).flatMap encT).length ≤ 110 * ps.length := by
  induction ps with
  | nil => simp
  | cons a r ih =>
    have h1 := ih (fun m hm => h m (by simp [hm]))
    have h2 := (h a (by simp)).1
    have h3 := encT_size' a.t
    have h4 := M.enc_len64 (n := a.t.size) (by omega)
    simp only [List.map_cons, List.flatMap_cons, List.length_append, List.length_cons]
    omega

set_option maxHeartbeats 8000000 in
set_option maxRecDepth 100000 in
theorem walk_light (w : World) (hb : Nat) (A : Option Addr) (cap : Nat) (ps : List Pt) (hr : PartsIn w hb A ps) (hf : ∀ p ∈ ps, p.fits) (hlen : ps.length ≤ maxLen) (hli : LightP ps) :
    Calls Try.prog 3 #[.slice A ps.length cap] w fun e w' => e = .returned (.bool true) ∧ Below w.heap.size w w' := by
  have hn12 := hli.1
  have HR := Lib.hid hr
  have HF := Lib.hid hf
  have HLI := Lib.hid hli
  have HLEN := Lib.hid hlen
  clear hr hf hli hlen
  go_enter Try.func3, Try.ntmps3
  go_wp2_with fail
  refine (known_any w).mono ?_
  rintro e w0 ⟨rfl, hk0⟩
  have HK0 := Lib.hid hk0
  clear hk0
  go_wp2_with fail
  refine (light_any w0 hb A cap ps (HR.out.keep HK0.out) HLEN.out HF.out).mono ?_
  rintro e w1 ⟨b, rfl, hbl, hk1⟩
  obtain rfl : b = true := hbl.2 HLI.out
  have HK1 := Lib.hid (HK0.out.trans hk1 (by simp))
  clear hk1 hbl
  go_wp2_with fail
  refine (newWriter_any w1).mono ?_
  rintro e w2 ⟨p, rfl, hp, hw2, hk2⟩
  have HS0 : Hid (WS w w2 p p [] (.slice none 0 0) [] []) := Lib.hid (by
    have := HK1.out.size
    exact ⟨hw2, BufAt.nil _, by simp, fun _ => rfl, HK1.out.trans hk2 (by simp), by omega, by omega⟩)
  clear hp hw2 hk2
  go_wp2_with fail
  go_loopw [4, 5] (fun v i wr => ∃ (k g : Nat) (S : List Nat), k ≤ ps.length ∧ i = .int .i64 k ∧ WS w wr p g S v ((ps.take k).flatMap encPt) ((ps.take k).flatMap encPt)) (fun _ i _ => ps.length - (intOf i).toNat)
  case atStart => exact ⟨0, p, [], Nat.zero_le _, rfl, by simpa using HS0.out⟩
  case round =>
    obtain ⟨k, g, S, hk, rfl, hws⟩ := hrel
    have HS := Lib.hid hws
    clear hws
    by_cases hlt : k < ps.length
    · rcases HR.out with h0 | ⟨off, rfl, hcell⟩
      · rw [h0] at hlt; simp at hlt
      · have hc := hcell k hlt
        have hfk := HF.out _ (List.getElem_mem hlt)
        have hlk := HLI.out.2 _ (List.getElem_mem hlt)
        have HE := Lib.hid (flat_next encPt [] hlt)
        obtain ⟨⟨what, nn, tt, ss⟩, hpt⟩ : ∃ p, p = ps[k] := ⟨_, rfl⟩
        rw [← hpt] at hc hfk hlk HE
        rw [List.nil_append, List.nil_append] at HE
        obtain ⟨h1, h2, Aa, ca, Am, cm, c0, c1, c2, c3, c4, c5, c6, c7, c8, hal, hnm⟩ := hc
        simp only [] at c0 c1 c2 c3 c4 c5 c6 c7 c8 hal hnm
        have hbw : hb < w.heap.size := World.block_lt_of_cell? w _ c0
        obtain ⟨⟨f1, f2, f3⟩, _⟩ := hfk
        obtain ⟨l1, l2⟩ := hlk
        simp only [] at f1 f2 f3 l1 l2
        obtain ⟨L, hL⟩ : ∃ L, L = (ps.take k).flatMap encPt := ⟨_, rfl⟩
        rw [← hL] at HS HE
        have hLlen : L.length ≤ 14000 := by
          rw [hL]
          have h9 := flat_pts_len (ps.take k) (fun m hm => ⟨(HF.out m (List.mem_of_mem_take hm)).1, HLI.out.2 m (List.mem_of_mem_take hm)⟩)
          simp only [List.length_take] at h9
          omega
        have HC0 := Lib.hid c0
        have HC1 := Lib.hid c1
        have HC2 := Lib.hid c2
        have HC3 := Lib.hid c3
        have HC4 := Lib.hid c4
        have HC5 := Lib.hid c5
        have HC6 := Lib.hid c6
        have HC7 := Lib.hid c7
        have HC8 := Lib.hid c8
        have HAL := Lib.hid hal
        have HNM := Lib.hid hnm
        have HNN := Lib.hid f2
        have HSS : Hid (ss.ok ∧ ss.light) := Lib.hid ⟨f3, l2⟩
        have HBW := Lib.hid hbw
        have HKW := Lib.hid HS.out.2.2.2.2.1
        have e0 := HKW.out.cell_some c0 (by simp)
        have e1 := HKW.out.cell_some c1 (by simp)
        have e2 := HKW.out.cell_some c2 (by simp)
        have e3 := HKW.out.cell_some c3 (by simp)
        have e4 := HKW.out.cell_some c4 (by simp)
        have e5 := HKW.out.cell_some c5 (by simp)
        have e6 := HKW.out.cell_some c6 (by simp)
        have e7 := HKW.out.cell_some c7 (by simp)
        have e8 := HKW.out.cell_some c8 (by simp)
        clear hcell hpt c0 c1 c2 c3 c4 c5 c6 c7 c8 hal hnm f2 f3 l2 hbw hL
        go_wp2_with fail
        obtain ⟨ha1, q1, q2⟩ := HAL.out.pick HKW.out (S := S) (fun x hx => (HS.out.2.2.1 x hx).1)
        obtain ⟨ha2, q3, q4⟩ := HNM.out.pick HKW.out (S := S) (fun x hx => (HS.out.2.2.1 x hx).1)
        refine (put_any wr S u4 L ha1 ha2 Aa Am ca cm ⟨what, nn, tt, ss⟩ HS.out.2.1 q1 q3 q2 q4 ⟨f1, HNN.out, HSS.out.1⟩ ⟨l1, HSS.out.2⟩ (by omega)).mono ?_
        rintro e w3 ⟨v3, g3, rfl, hgr⟩
        obtain ⟨g1, hws⟩ := HS.out.put ⟨v3, g3, rfl, hgr⟩
        have HWS := Lib.hid hws
        clear e0 e1 e2 e3 e4 e5 e6 e7 e8 hgr hws q1 q2 q3 q4
        have HK3 := Lib.hid HWS.out.2.2.2.2.1
        have HNB : Hid (hb ∉ [p, g]) := Lib.hid (by have h9 := HWS.out.2.2.2.2.2; have := HBW.out; simp; omega)
        have HD1 := Lib.hid (HK3.out.cell_some HC1.out (by simp))
        have HD2 := Lib.hid (HK3.out.cell_some HC2.out (by simp))
        have d0 := HK3.out.cell_some HC0.out (by simp)
        have d3 := HK3.out.cell_some HC3.out (by simp)
        have d4 := HK3.out.cell_some HC4.out (by simp)
        have d5 := HK3.out.cell_some HC5.out (by simp)
        have d6 := HK3.out.cell_some HC6.out (by simp)
        have d7 := HK3.out.cell_some HC7.out (by simp)
        have d8 := HK3.out.cell_some HC8.out (by simp)
        rcases (show what % 5 = 0 ∨ what % 5 = 1 ∨ what % 5 = 2 ∨ what % 5 = 3 ∨ what % 5 = 4 by omega) with hm | hm | hm | hm | hm
        · have HEP := Lib.hid (show encPt ⟨what, nn, tt, ss⟩ = M.enc nn by unfold encPt; rw [if_pos hm])
          have b0 : ((what : Int) % 5 == 0) = true := by rw [beq_iff_eq]; omega
          clear hm
          go_wp2_with fail
          refine Reg.wp_region_state (A := ?Aa) (CK 9 w3 p g (L ++ M.enc nn)) (GK p g)
            [Is (.pointer (some ⟨p, 0, none⟩)), Is (.pointer (some ⟨p, 0, none⟩)), Is (.pointer (some ⟨p, 0, none⟩)), Is (.slice (some ⟨hb, off, none⟩) ps.length cap), Is (.int .i64 (k : Int)), Is (.pointer (some ⟨hb, off + k * 9, none⟩)), Is (.pointer (some ⟨hb, off + k * 9 + 1, none⟩)), Is (.int .u64 (nn : Int)), RowF p g 1 #[.int .u64 (nn : Int)], Is (.tuple #[])]
            (by kernel_rfl) (by kernel_rfl) rfl ?hAa ?hCa ?hoa ?hlasta ?henda
          case hAa => intro vs; simp only [Reg.fill, if_true, Nat.zero_add, Nat.reduceAdd, Act.put, List.setIfInBounds_toArray, List.set_cons_succ, List.set_cons_zero]; exact rfl
          case hCa => exact CK.start (n := 10) (by decide)
          case hlasta => repeat (first | exact trivial | refine ⟨Is.lastK, ?_⟩ | refine ⟨RowF.last, ?_⟩)
          case hoa =>
            repeat' apply And.intro
            all_goals
              first
                | exact trivial
                | (intro Ls vs w' hC hL hd K hK
                   try simp only [Reg.Deps, Reg.at_, List.getD_cons_zero, List.getD_cons_succ, Region.binds, true_implies, Is, and_true] at hd
                   have k1 := hC.1.cell_some HD1.out HNB.out
                   go_simp
                   first
                     | exact hK _ _ (hC.lay (by decide) (Keeps.refl _ _)) (GK.same _ _ _) rfl
                     | skip)
            · exact hK _ _ (hC.lay (by decide) ((Keeps.refl _ _).alloc _)) (GK.of ((Keeps.refl _ _).alloc _)) (RowF.new HWS.out.1.lt hC.1.size)
            · obtain ⟨-, x', hx, hxb, hx1, hx2⟩ := hd
              rw [hx]
              have hk8 := hC.2.1 hL
              refine (num_any w' p g x' L (some ⟨x', 0, none⟩) [nn] 1 (HWS.out.1.keep hk8 (by simp) (by simp)) (RowF.cells (q := p) (h := g) (n := 1) hxb rfl) hx1 hx2 (by simpa using HNN.out) (by simp; omega)).mono ?_
              rintro e w'' ⟨rfl, h', q1, q2, q3⟩
              exact ⟨_, rfl, hK _ _ (CK.done hk8 (by simpa using q1) q2 q3) q3 rfl⟩
          case henda =>
            intro vs w4 hC hall
            obtain ⟨g4, hws⟩ := HWS.out.wrote (hC.2.2 rfl)
            rw [show L ++ M.enc nn = L ++ encPt ⟨what, nn, tt, ss⟩ by rw [HEP.out]] at hws
            have HR4 := Lib.hid hws
            clear hC hall hws
            go_wp2
            go_roundw
            case rel => exact ⟨k + 1, g4, [g1], by omega, by go_num, by rw [← HE.out]; exact HR4.out⟩
            case measure => simp [intOf]; omega
        · have HEP := Lib.hid (show encPt ⟨what, nn, tt, ss⟩ = encInt (i64of nn) by unfold encPt; rw [if_neg (by simp only []; omega), if_pos hm])
          have b0 : ((what : Int) % 5 == 0) = false := by rw [beq_eq_false_iff_ne]; omega
          have b1 : ((what : Int) % 5 == 1) = true := by rw [beq_iff_eq]; omega
          clear hm
          have hwi : IntKind.i64.wrap (nn : Int) = i64of nn := by rw [IntKind.wrap_i64]; unfold i64of; have := HNN.out; split <;> omega
          go_wp2_with fail
          refine Reg.wp_region_state (A := ?Ab) (CK 10 w3 p g (L ++ encInt (i64of nn))) (GK p g)
            [Is (.pointer (some ⟨p, 0, none⟩)), Is (.pointer (some ⟨p, 0, none⟩)), Is (.pointer (some ⟨p, 0, none⟩)), Is (.slice (some ⟨hb, off, none⟩) ps.length cap), Is (.int .i64 (k : Int)), Is (.pointer (some ⟨hb, off + k * 9, none⟩)), Is (.pointer (some ⟨hb, off + k * 9 + 1, none⟩)), Is (.int .u64 (nn : Int)), Is (.int .i64 (i64of nn)), RowF p g 1 #[.int .i64 (i64of nn)], Is (.tuple #[])]
            (by kernel_rfl) (by kernel_rfl) rfl ?hAb ?hCb ?hob ?hlastb ?hendb
          case hAb => intro vs; simp only [Reg.fill, if_true, Nat.zero_add, Nat.reduceAdd, Act.put, List.setIfInBounds_toArray, List.set_cons_succ, List.set_cons_zero]; exact rfl
          case hCb => exact CK.start (n := 11) (by decide)
          case hlastb => repeat (first | exact trivial | refine ⟨Is.lastK, ?_⟩ | refine ⟨RowF.last, ?_⟩)
          case hob =>
            repeat' apply And.intro
            all_goals
              first
                | exact trivial
                | (intro Ls vs w' hC hL hd K hK
                   try simp only [Reg.Deps, Reg.at_, List.getD_cons_zero, List.getD_cons_succ, Region.binds, true_implies, Is, and_true] at hd
                   have k1 := hC.1.cell_some HD1.out HNB.out
                   go_simp
                   first
                     | exact hK _ _ (hC.lay (by decide) (Keeps.refl _ _)) (GK.same _ _ _) rfl
                     | skip)
            · exact hK _ _ (hC.lay (by decide) ((Keeps.refl _ _).alloc _)) (GK.of ((Keeps.refl _ _).alloc _)) (RowF.new HWS.out.1.lt hC.1.size)
            · obtain ⟨-, x', hx, hxb, hx1, hx2⟩ := hd
              rw [hx]
              have hk8 := hC.2.1 hL
              refine (int_any w' p g x' L (some ⟨x', 0, none⟩) [i64of nn] 1 (HWS.out.1.keep hk8 (by simp) (by simp)) (RowF.cells (q := p) (h := g) (n := 1) hxb rfl) hx1 hx2 (by simpa using i64of_wide HNN.out) (by simp; omega)).mono ?_
              rintro e w'' ⟨rfl, h', q1, q2, q3⟩
              exact ⟨_, rfl, hK _ _ (CK.done hk8 (by simpa using q1) q2 q3) q3 rfl⟩
          case hendb =>
            intro vs w4 hC hall
            obtain ⟨g4, hws⟩ := HWS.out.wrote (hC.2.2 rfl)
            rw [show L ++ encInt (i64of nn) = L ++ encPt ⟨what, nn, tt, ss⟩ by rw [HEP.out]] at hws
            have HR4 := Lib.hid hws
            clear hC hall hws
            go_wp2
            go_roundw
            case rel => exact ⟨k + 1, g4, [g1], by omega, by go_num, by rw [← HE.out]; exact HR4.out⟩
            case measure => simp [intOf]; omega
        · have HEP := Lib.hid (show encPt ⟨what, nn, tt, ss⟩ = encT tt by unfold encPt; rw [if_neg (by simp only []; omega), if_neg (by simp only []; omega), if_pos hm])
          have b0 : ((what : Int) % 5 == 0) = false := by rw [beq_eq_false_iff_ne]; omega
          have b1 : ((what : Int) % 5 == 1) = false := by rw [beq_eq_false_iff_ne]; omega
          have b2 : ((what : Int) % 5 == 2) = true := by rw [beq_iff_eq]; omega
          clear hm
          go_wp2_with fail
          refine Reg.wp_region_state (A := ?Ac) (CK 9 w3 p g (L ++ encT tt)) (GK p g)
            [Is (.pointer (some ⟨p, 0, none⟩)), Is (.pointer (some ⟨p, 0, none⟩)), Is (.pointer (some ⟨p, 0, none⟩)), Is (.slice (some ⟨hb, off, none⟩) ps.length cap), Is (.int .i64 (k : Int)), Is (.pointer (some ⟨hb, off + k * 9, none⟩)), Is (.pointer (some ⟨hb, off + k * 9 + 2, none⟩)), Is (.string tt), RowF p g 1 #[.string tt], Is (.tuple #[])]
            (by kernel_rfl) (by kernel_rfl) rfl ?hAc ?hCc ?hoc ?hlastc ?hendc
          case hAc => intro vs; simp only [Reg.fill, if_true, Nat.zero_add, Nat.reduceAdd, Act.put, List.setIfInBounds_toArray, List.set_cons_succ, List.set_cons_zero]; exact rfl
          case hCc => exact CK.start (n := 10) (by decide)
          case hlastc => repeat (first | exact trivial | refine ⟨Is.lastK, ?_⟩ | refine ⟨RowF.last, ?_⟩)
          case hoc =>
            repeat' apply And.intro
            all_goals
              first
                | exact trivial
                | (intro Ls vs w' hC hL hd K hK
                   try simp only [Reg.Deps, Reg.at_, List.getD_cons_zero, List.getD_cons_succ, Region.binds, true_implies, Is, and_true] at hd
                   have k1 := hC.1.cell_some HD2.out HNB.out
                   go_simp
                   first
                     | exact hK _ _ (hC.lay (by decide) (Keeps.refl _ _)) (GK.same _ _ _) rfl
                     | skip)
            · exact hK _ _ (hC.lay (by decide) ((Keeps.refl _ _).alloc _)) (GK.of ((Keeps.refl _ _).alloc _)) (RowF.new HWS.out.1.lt hC.1.size)
            · obtain ⟨-, x', hx, hxb, hx1, hx2⟩ := hd
              rw [hx]
              have hk8 := hC.2.1 hL
              refine (text_any w' p g x' L (some ⟨x', 0, none⟩) [tt] 1 (HWS.out.1.keep hk8 (by simp) (by simp)) (RowF.cells (q := p) (h := g) (n := 1) hxb rfl) hx1 hx2 (by simp) (by have h7 := encT_size' tt; have h8 := M.enc_len64 (n := tt.size) (by omega); simp only [List.flatMap_cons, List.flatMap_nil, List.append_nil]; omega)).mono ?_
              rintro e w'' ⟨rfl, h', q1, q2, q3⟩
              exact ⟨_, rfl, hK _ _ (CK.done hk8 (by simpa using q1) q2 q3) q3 rfl⟩
          case hendc =>
            intro vs w4 hC hall
            obtain ⟨g4, hws⟩ := HWS.out.wrote (hC.2.2 rfl)
            rw [show L ++ encT tt = L ++ encPt ⟨what, nn, tt, ss⟩ by rw [HEP.out]] at hws
            have HR4 := Lib.hid hws
            clear hC hall hws
            go_wp2
            go_roundw
            case rel => exact ⟨k + 1, g4, [g1], by omega, by go_num, by rw [← HE.out]; exact HR4.out⟩
            case measure => simp [intOf]; omega
        · have HEP := Lib.hid (show encPt ⟨what, nn, tt, ss⟩ = M.encBool (odd nn) by unfold encPt; rw [if_neg (by simp only []; omega), if_neg (by simp only []; omega), if_neg (by simp only []; omega), if_pos hm])
          have b0 : ((what : Int) % 5 == 0) = false := by rw [beq_eq_false_iff_ne]; omega
          have b1 : ((what : Int) % 5 == 1) = false := by rw [beq_eq_false_iff_ne]; omega
          have b2 : ((what : Int) % 5 == 2) = false := by rw [beq_eq_false_iff_ne]; omega
          have b3 : ((what : Int) % 5 == 3) = true := by rw [beq_iff_eq]; omega
          clear hm
          have hwm : ((nn : Int)).tmod 2 = (nn : Int) % 2 := by rw [Int.tmod_eq_emod_of_nonneg (by omega)]
          have hwo : ((nn : Int) % 2 == 1) = odd nn := odd_eq nn
          go_wp2_with fail
          refine Reg.wp_region_state (A := ?Ad) (CK 11 w3 p g (L ++ M.encBool (odd nn))) (GK p g)
            [Is (.pointer (some ⟨p, 0, none⟩)), Is (.pointer (some ⟨p, 0, none⟩)), Is (.pointer (some ⟨p, 0, none⟩)), Is (.slice (some ⟨hb, off, none⟩) ps.length cap), Is (.int .i64 (k : Int)), Is (.pointer (some ⟨hb, off + k * 9, none⟩)), Is (.pointer (some ⟨hb, off + k * 9 + 1, none⟩)), Is (.int .u64 (nn : Int)), Is (.int .u64 ((nn : Int) % 2)), Is (.bool (odd nn)), RowF p g 1 #[.bool (odd nn)], Is (.tuple #[])]
            (by kernel_rfl) (by kernel_rfl) rfl ?hAd ?hCd ?hod ?hlastd ?hendd
          case hAd => intro vs; simp only [Reg.fill, if_true, Nat.zero_add, Nat.reduceAdd, Act.put, List.setIfInBounds_toArray, List.set_cons_succ, List.set_cons_zero]; exact rfl
          case hCd => exact CK.start (n := 12) (by decide)
          case hlastd => repeat (first | exact trivial | refine ⟨Is.lastK, ?_⟩ | refine ⟨RowF.last, ?_⟩)
          case hod =>
            repeat' apply And.intro
            all_goals
              first
                | exact trivial
                | (intro Ls vs w' hC hL hd K hK
                   try simp only [Reg.Deps, Reg.at_, List.getD_cons_zero, List.getD_cons_succ, Region.binds, true_implies, Is, and_true] at hd
                   have k1 := hC.1.cell_some HD1.out HNB.out
                   go_simp
                   first
                     | exact hK _ _ (hC.lay (by decide) (Keeps.refl _ _)) (GK.same _ _ _) rfl
                     | skip)
            · exact hK _ _ (hC.lay (by decide) ((Keeps.refl _ _).alloc _)) (GK.of ((Keeps.refl _ _).alloc _)) (RowF.new HWS.out.1.lt hC.1.size)
            · obtain ⟨-, x', hx, hxb, hx1, hx2⟩ := hd
              rw [hx]
              have hk8 := hC.2.1 hL
              refine (bool_any w' p g x' L (some ⟨x', 0, none⟩) [odd nn] 1 (HWS.out.1.keep hk8 (by simp) (by simp)) (RowF.cells (q := p) (h := g) (n := 1) hxb rfl) hx1 hx2 (by simp; omega)).mono ?_
              rintro e w'' ⟨rfl, h', q1, q2, q3⟩
              exact ⟨_, rfl, hK _ _ (CK.done hk8 (by simpa using q1) q2 q3) q3 rfl⟩
          case hendd =>
            intro vs w4 hC hall
            obtain ⟨g4, hws⟩ := HWS.out.wrote (hC.2.2 rfl)
            rw [show L ++ M.encBool (odd nn) = L ++ encPt ⟨what, nn, tt, ss⟩ by rw [HEP.out]] at hws
            have HR4 := Lib.hid hws
            clear hC hall hws
            go_wp2
            go_roundw
            case rel => exact ⟨k + 1, g4, [g1], by omega, by go_num, by rw [← HE.out]; exact HR4.out⟩
            case measure => simp [intOf]; omega
        · have HEP := Lib.hid (show encPt ⟨what, nn, tt, ss⟩ = encSm ss by unfold encPt; rw [if_neg (by simp only []; omega), if_neg (by simp only []; omega), if_neg (by simp only []; omega), if_neg (by simp only []; omega)])
          have b0 : ((what : Int) % 5 == 0) = false := by rw [beq_eq_false_iff_ne]; omega
          have b1 : ((what : Int) % 5 == 1) = false := by rw [beq_eq_false_iff_ne]; omega
          have b2 : ((what : Int) % 5 == 2) = false := by rw [beq_eq_false_iff_ne]; omega
          have b3 : ((what : Int) % 5 == 3) = false := by rw [beq_eq_false_iff_ne]; omega
          clear hm
          go_wp2_with fail
          have hka := (Keeps.refl [] w3).alloc (.cells #[.slice Aa ss.alarms.length ca, .bool ss.ends, .bool ss.ret.some, .int .i64 ss.ret.lo, .int .i64 ss.ret.hi, .slice Am ss.mod.length cm] 35)
          have hwa := HWS.out.keep hka
          obtain ⟨ha1, q1, q2⟩ := HAL.out.pick hwa.2.2.2.2.1 (S := [p, g]) (by have := hwa.2.2.2.2.2; intro x hx; simp at hx; omega)
          obtain ⟨ha2, q3, q4⟩ := HNM.out.pick hwa.2.2.2.2.1 (S := [p, g]) (by have := hwa.2.2.2.2.2; intro x hx; simp at hx; omega)
          refine (sum_any _ p g w3.heap.size ha1 ha2 L Aa Am ca cm ss hwa.1 (fun j u hu => by rw [new_cell j]; exact hu) q1 q3 q2 q4 HSS.out.1 HSS.out.2 (by omega)).mono ?_
          rintro e w4 ⟨rfl, hu⟩
          obtain ⟨g4, hws⟩ := hwa.wrote hu
          rw [show L ++ encSm ss = L ++ encPt ⟨what, nn, tt, ss⟩ by rw [HEP.out]] at hws
          have HR4 := Lib.hid hws
          clear hu hws hwa hka q1 q2 q3 q4
          go_wp2
          go_roundw
          case rel => exact ⟨k + 1, g4, [g1], by omega, by go_num, by rw [← HE.out]; exact HR4.out⟩
          case measure => simp [intOf]; omega
    · have hke : k = ps.length := by omega
      subst hke
      have hws := HS.out
      obtain ⟨wE, rfl⟩ : ∃ wE : World, wE = wr := ⟨_, rfl⟩
      obtain ⟨LF, hLF⟩ : ∃ LF, LF = (ps.take ps.length).flatMap encPt := ⟨_, rfl⟩
      rw [← hLF] at hws
      have HLF : Hid (LF.length ≤ 140737488355328) := Lib.hid (by
        rw [hLF, List.take_of_length_le (Nat.le_refl _)]
        have h9 := flat_pts_len ps (fun m hm => ⟨(HF.out m hm).1, HLI.out.2 m hm⟩)
        omega)
      have HW1 := Lib.hid hws
      clear hws hLF HS
      go_wp2_with fail
      refine (newWriter_any wE).mono ?_
      rintro e w5 ⟨q, rfl, hq, hw5, hk5⟩
      have HT0 : Hid (WS wE w5 q q [] (.slice none 0 0) [] []) := Lib.hid ⟨hw5, BufAt.nil _, by simp, fun _ => rfl, hk5, hq, hq⟩
      have HLT : Hid (((ps.map (·.t)).flatMap encT).length ≤ 2000) := Lib.hid (by have := flat_ts_len ps HLI.out.2; omega)
      clear hq hw5 hk5
      go_wp2_with fail
      refine Reg.wp_region_state (A := ?Ay) (CK 5 w5 q q ((ps.map (·.t)).flatMap encT)) (GK q q)
        [Is (.pointer (some ⟨q, 0, none⟩)), Is (.pointer (some ⟨q, 0, none⟩)), Is (.pointer (some ⟨q, 0, none⟩)), Is (.slice A ps.length cap), TextsF q q (ps.map (·.t)), Is (.tuple #[])]
        (by kernel_rfl) (by kernel_rfl) rfl ?hAy ?hCy ?hoy ?hlasty ?hendy
      case hAy => intro vs; simp only [Reg.fill, if_true, Nat.zero_add, Nat.reduceAdd, Act.put, List.setIfInBounds_toArray, List.set_cons_succ, List.set_cons_zero]; exact rfl
      case hCy => exact CK.start (n := 6) (by decide)
      case hlasty => repeat (first | exact trivial | refine ⟨Is.lastK, ?_⟩ | refine ⟨TextsF.last, ?_⟩)
      case hoy =>
        repeat' apply And.intro
        all_goals
          first
            | exact trivial
            | (intro Ls vs w' hC hL hd K hK
               try simp only [Reg.Deps, Reg.at_, List.getD_cons_zero, List.getD_cons_succ, Region.binds, true_implies, Is, and_true] at hd
               go_simp
               first
                 | exact hK _ _ (hC.lay (by decide) (Keeps.refl _ _)) (GK.same _ _ _) rfl
                 | skip)
        · have hkw : Keeps [] w w' := ((HW1.out.2.2.2.2.1.trans HT0.out.2.2.2.2.1 (by simp)).trans hC.1 (by intro i hi hl; have h9 := HT0.out.2.2.2.2.2.1; have h8 := HW1.out.2.2.2.2.1.size; simp at hi; omega))
          refine (l2_any w' hb A cap ps (HR.out.keep hkw) hn12).mono ?_
          rintro e w'' ⟨A2, c2, b2, rfl, hcl, hb2, hk2⟩
          exact ⟨_, rfl, hK _ _ (hC.lay (by decide) hk2) (GK.of hk2) ⟨A2, c2, b2, rfl, hcl, by have h7 := HT0.out.1.lt; have h8 := hC.1.size; omega, by have h7 := HT0.out.1.lt; have h8 := hC.1.size; omega⟩⟩
        · obtain ⟨-, ⟨A2, c2, b2, hv, hcl, hn1, hn2⟩, -⟩ := hd
          rw [hv]
          have hk8 := hC.2.1 hL
          have hw8 := HT0.out.1.keep hk8 (by simp) (by simp)
          have hl8 : ([] : List UInt8).length + ((ps.map (·.t)).flatMap encT).length ≤ 70368744177000 := Nat.le_trans (Nat.le_of_eq (Nat.zero_add _)) (Nat.le_trans HLT.out (by decide))
          have hm8 : (ps.map (·.t)).length ≤ 70368744177664 := by rw [List.length_map]; omega
          have ht8 := text_any w' q q b2 [] A2 (ps.map (·.t)) c2 hw8 hcl hn1 hn2 hm8 hl8
          rw [List.nil_append] at ht8
          refine ht8.mono ?_
          rintro e w'' ⟨rfl, h', q1, q2, q3⟩
          exact ⟨_, rfl, hK _ _ (CK.done hk8 q1 q2 q3) q3 rfl⟩
      case hendy =>
        intro vs w6 hC hall
        obtain ⟨gq, hws⟩ := HT0.out.wrote (hC.2.2 rfl)
        have HT1 := Lib.hid hws
        clear hC hall hws
        go_wp2_with fail
        obtain ⟨LT, hLT⟩ : ∃ LT, LT = (ps.map (·.t)).flatMap encT := ⟨_, rfl⟩
        rw [← hLT] at HT1 HLT
        have HLTE := Lib.hid hLT
        clear hLT
        go_loopw [7, 8] (fun v i wr => ∃ (k : Nat) (S : List Nat), k ≤ ps.length ∧ i = .int .i64 k ∧ WS wE wr q gq S v LT (((ps.map (·.t)).take k).flatMap encT)) (fun _ i _ => ps.length - (intOf i).toNat)
        case atStart => exact ⟨0, [], Nat.zero_le _, rfl, by simpa using HT1.out⟩
        case round =>
          obtain ⟨wk, rfl⟩ : ∃ wk : World, wk = wr := ⟨_, rfl⟩
          obtain ⟨k, S, hk, rfl, hws⟩ := hrel
          have HS := Lib.hid hws
          clear hws
          by_cases hlt : k < ps.length
          · rcases HR.out with h0 | ⟨off, rfl, hcell⟩
            · rw [h0] at hlt; simp at hlt
            · have hlm : k < (ps.map (·.t)).length := by rw [List.length_map]; exact hlt
              have HE := Lib.hid (flat_next encT [] hlm)
              have hlk := HLI.out.2 _ (List.getElem_mem hlt)
              obtain ⟨h1, h2, Aa, ca, Am, cm, c0, c1, c2, _⟩ := hcell k hlt
              rw [List.getElem_map, List.nil_append, List.nil_append] at HE
              obtain ⟨pt, hpt⟩ : ∃ p, p = ps[k] := ⟨_, rfl⟩
              rw [← hpt] at c2 hlk HE
              have e2 := (HW1.out.2.2.2.2.1.trans HS.out.2.2.2.2.1 (by simp)).cell_some c2 (by simp)
              obtain ⟨L, hL⟩ : ∃ L, L = ((ps.map (·.t)).take k).flatMap encT := ⟨_, rfl⟩
              have hLl : L.length ≤ 2000 := by rw [hL]; have h9 := flat_take_len encT (ps.map (·.t)) k; have h8 := HLT.out; rw [HLTE.out] at h8; omega
              rw [← hL] at HS HE
              have htt : pt.t.size ≤ 100 := hlk.1
              clear hcell hpt c0 c1 c2 hlk hL
              go_wp2_with fail
              refine (refText_any wk S u7 L pt.t HS.out.2.1 (by omega)).mono ?_
              rintro e w7 ⟨v7, g7, rfl, hgr⟩
              obtain ⟨g8, hws⟩ := HS.out.put ⟨v7, g7, rfl, hgr⟩
              rw [HE.out] at hws
              have HR7 := Lib.hid hws
              clear hgr hws
              go_wp2
              go_roundw
              case rel => exact ⟨k + 1, [g8], by omega, by go_num, HR7.out⟩
              case measure => simp [intOf]; omega
          · have hws := HS.out
            rw [List.take_of_length_le (by rw [List.length_map]; omega), ← HLTE.out] at hws
            have HWF := Lib.hid hws
            have HW2 := Lib.hid (HW1.out.keep hws.2.2.2.2.1)
            obtain ⟨A4, g4, c4, hv4, hb4⟩ := HW2.out.2.1.form
            obtain ⟨A7, g7, c7, hv7, hb7⟩ := hws.2.1.form
            subst hv4 hv7
            have HB4 := Lib.hid hb4
            have HB7 := Lib.hid hb7
            clear hws hb4 hb7 HS
            go_wp2_with fail
            refine Reg.wp_region_facts (A := ?Az) (fun w' => Below wk.heap.size wk w') wk.heap.size
              [Is (.pointer (some ⟨p, 0, none⟩)), Is (.pointer (some ⟨p, 0, none⟩)), Is (.pointer (some ⟨p, 0, none⟩)), CopyB LF, Is (.string (strOf LF)), Is (.slice A4 LF.length c4), Is (.string (strOf LF)), Is (.bool true), Is (.bool true),
               Is (.pointer (some ⟨q, 0, none⟩)), Is (.pointer (some ⟨q, 0, none⟩)), Is (.pointer (some ⟨q, 0, none⟩)), CopyB LT, Is (.string (strOf LT)), Is (.slice A7 LT.length c7), Is (.string (strOf LT)), Is (.bool true), Is (.bool true), Is (.bool true)]
              (by kernel_rfl) (by kernel_rfl) rfl ?hAz ?hCz ?hBz ?hoz ?hlastz ?hendz
            case hAz => intro vs; simp only [Reg.fill, if_true, Nat.zero_add, Nat.reduceAdd, Act.put, List.setIfInBounds_toArray, List.set_cons_succ, List.set_cons_zero]; exact rfl
            case hCz => exact (Below.refl _ _).drew
            case hBz => exact fun w' hb => hb.size
            case hlastz => repeat (first | exact trivial | refine ⟨Is.lastB, ?_⟩ | refine ⟨CopyB.last, ?_⟩)
            case hoz =>
              repeat' apply And.intro
              all_goals
                first
                  | exact trivial
                  | (intro vs w' hC hd K hK
                     try simp only [Reg.Deps, Reg.at_, List.getD_cons_zero, List.getD_cons_succ, Region.binds, true_implies, Is, and_true] at hd
                     go_simp
                     first
                       | exact hK _ _ hC (Below.refl _ _) rfl
                       | skip)
              · refine (bytes_any w' p g LF (HW2.out.1.keep (Keeps.of_below hC []) (by simp) (by simp)) (by have := HLF.out; omega)).mono ?_
                rintro e w'' ⟨A, c, b', rfl, hb', hg', _, _, _, hk⟩
                exact ⟨_, rfl, hK _ _ (hC.trans ((hk.below (B := w'.heap.size) (by simp) (Nat.le_refl _)).mono hC.size)) (hk.below (by simp) (Nat.le_refl _)) ⟨A, c, b', rfl, hb'⟩⟩
              · obtain ⟨A, c, b', hv, hb'⟩ := hd
                rw [hv, conv_text w' b' A LF c hb']
                exact hK _ _ hC (Below.refl _ _) rfl
              · rw [conv_text w' g4 A4 LF c4 (HB4.out.keep (Keeps.of_below hC []) (by simp))]
                exact hK _ _ hC (Below.refl _ _) rfl
              · refine (bytes_any w' q gq LT (HWF.out.1.keep (Keeps.of_below hC []) (by simp) (by simp)) (by have := HLT.out; omega)).mono ?_
                rintro e w'' ⟨A, c, b', rfl, hb', hg', _, _, _, hk⟩
                exact ⟨_, rfl, hK _ _ (hC.trans ((hk.below (B := w'.heap.size) (by simp) (Nat.le_refl _)).mono hC.size)) (hk.below (by simp) (Nat.le_refl _)) ⟨A, c, b', rfl, hb'⟩⟩
              · obtain ⟨⟨A, c, b', hv, hb'⟩, _⟩ := hd
                rw [hv, conv_text w' b' A LT c hb']
                exact hK _ _ hC (Below.refl _ _) rfl
              · rw [conv_text w' g7 A7 LT c7 (HB7.out.keep (Keeps.of_below hC []) (by simp))]
                exact hK _ _ hC (Below.refl _ _) rfl
            case hendz =>
              intro vs w' hC hall
              simp only [Reg.All, Is, and_true, Nat.zero_add, Nat.reduceAdd] at hall
              have h18 : vs 18 = Value.bool true := by simp only [hall]
              have HCK := Lib.hid hC
              clear hall hC
              go_wp2
              go_ret
              exact ⟨by simp [h18], ((HW2.out.2.2.2.2.1).trans (Keeps.of_below HCK.out []) (by simp)).below (by simp) (Nat.le_refl _)⟩
end Go.Proofs.Ytpjnckdekoooeaa.codeWrites

