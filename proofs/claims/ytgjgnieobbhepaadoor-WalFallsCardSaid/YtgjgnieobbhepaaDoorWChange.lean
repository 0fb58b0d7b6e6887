/- change: a change's steps, one behind another; the log is settled first. Printed by mkchange.py. -/
import Derived.Test.YtgjgnieobbhepaaDoorWSteps
namespace Go.Proofs.YtgjgnieobbhepaaDoor
open Go.RowKit

/-- What change makes of disk and log. -/
def chg (d : Dk) (g next : Lg) (l : List (Nat × List UInt8)) : Nat × Dk × Lg :=
  ((L.runSteps d (if g.settled then l else L.settleSteps d.dur.length d.size g.area g.used ++ l)).1, (L.runSteps d (if g.settled then l else L.settleSteps d.dur.length d.size g.area g.used ++ l)).2,
   if (L.runSteps d (if g.settled then l else L.settleSteps d.dur.length d.size g.area g.used ++ l)).1 = 0 then { next with settled := true } else { g with settled := false })
theorem chg_of {d : Dk} {g next : Lg} {l l0 : List (Nat × List UInt8)} (h : (if g.settled then l else L.settleSteps d.dur.length d.size g.area g.used ++ l) = l0) : chg d g next l = ((L.runSteps d l0).1, (L.runSteps d l0).2, if (L.runSteps d l0).1 = 0 then { next with settled := true } else { g with settled := false }) := by
  unfold chg; rw [h]
def ChangeP (w : World) (h : DH) (B : Nat → Prop) (lp : Nat) (r : Nat × Dk × Lg) (e : Ending) (w' : World) : Prop :=
  e = .returned (.int .i64 (r.1 : Int)) ∧ Keeps (lp :: h.l) w w' ∧ LogAt w' lp h.p r.2.2 ∧ ∃ B', DskAt w' h B' r.2.1 ∧ (∀ x, B x → B' x) ∧ (∀ x, B' x → B x ∨ w.heap.size ≤ x)
theorem changeP_of {w w0 w' : World} {h : DH} {B : Nat → Prop} {lp : Nat} {r : Nat × Dk × Lg} {n : Nat} {d' : Dk} {g' : Lg} (hr : r = (n, d', g')) (hk : Keeps [lp] w w0) (hgo : DskGo w0 h B w' d') (hlog : LogAt w' lp h.p g') : ChangeP w h B lp r (.returned (.int .i64 (n : Int))) w' := by
  subst hr
  obtain ⟨k, B', x, h1, h2⟩ := hgo
  exact ⟨rfl, (hk.mono (T := lp :: h.l) (by simp)).trans k (fun i hi _ => by simp [hi]), hlog, B', x, h1, fun y hy => (h2 y hy).imp id (fun e => by have := hk.size; omega)⟩
theorem changeP_end {w w0 w1 w' : World} {h : DH} {B : Nat → Prop} {lp : Nat} {r : Nat × Dk × Lg} {d' : Dk} {g g' : Lg} (hr : r = (0, d', g')) (hk : Keeps [lp] w w0) (hgo : DskGo w0 h B w1 d') (hlog : LogAt w1 lp h.p g) (hn : lp ∉ h.l ∧ ∀ x, B x → x ≠ lp) (hl0 : lp < w0.heap.size)
    (he : w' = (((w1.setCell ⟨lp, 1, none⟩ (.int .i64 (g'.area : Int))).setCell ⟨lp, 2, none⟩ (.int .i64 (g'.used : Int))).setCell ⟨lp, 3, none⟩ (.int .i64 (g'.count : Int))).setCell ⟨lp, 4, none⟩ (.bool g'.settled)) : ChangeP w h B lp r (.returned (.int .i64 (0 : Int))) w' := by
  have hk2 : Keeps [lp] w1 w' := by rw [he]; exact ((((Keeps.refl _ _).setCell (by simp) _).setCell (by simp) _).setCell (by simp) _).setCell (by simp) _
  have hlog2 : LogAt w' lp h.p g' := by
    unfold LogAt
    rw [he, row_set (row_set (row_set (row_set hlog 1 _) 2 _) 3 _) 4 _]
    rfl
  obtain ⟨k, B', x, h1, h2⟩ := hgo
  have hB' : ∀ y ∈ [lp], y ∉ h.l ∧ ¬ B' y := by
    intro y hy
    obtain rfl : y = lp := by simpa using hy
    refine ⟨hn.1, fun hb => ?_⟩
    rcases h2 _ hb with e | e
    · exact hn.2 _ e rfl
    · omega
  subst hr
  exact ⟨rfl, ((hk.mono (T := lp :: h.l) (by simp)).trans k (fun i hi _ => by simp [hi])).trans hk2 (by simp), hlog2, B', x.keep hk2 hB', h1, fun y hy => (h2 y hy).imp id (fun e => by have := hk.size; omega)⟩
set_option maxRecDepth 100000 in
set_option maxHeartbeats 2000000 in
theorem change_settled (w : World) (h : DH) (B : Nat → Prop) (d : Dk) (lp : Nat) (g next : Lg) (G : Nat → Prop) (A : Option Addr) (cap : Nat) (l : List (Nat × List UInt8)) (x : DskAt w h B d) (y : LogAt w lp h.p g) (hlB : ¬ B lp)
    (hs : StepsIn w G A l) (hG : ∀ x, G x → x ∉ h.l ∧ x ≠ lp ∧ x < w.heap.size) (hst : ∀ t ∈ l, t.1 ≤ 65536 ∧ t.2.length ≤ 17179869184) (hl : l.length ≤ 100) (ha : g.area ≤ 1) (hu : g.used ≤ 4096) (hset : g.settled = true) :
    Calls Tryd.prog 37 #[.pointer (some ⟨lp, 0, none⟩), .agg #[.int .i64 (next.area : Int), .int .i64 (next.used : Int), .int .i64 (next.count : Int)], .slice A l.length cap] w (ChangeP w h B lp (chg d g next l)) := by
  obtain ⟨iS, hS, hS0, hS1, hS2⟩ := info_parts infoStep
  obtain ⟨_, _, _, _, c4⟩ := y.cells
  rw [hset] at c4
  have f4 := y.free 4
  have hlt := x.lt
  have hll := y.lt
  have hne := y.ne x
  have hsz := x.ok.size
  have hsecs := x.ok.secs
  have HNE := Lib.hid hne
  have HLB := Lib.hid hlB
  have HST := Lib.hid hst
  have HSET := Lib.hid hset
  obtain ⟨bx, hbx⟩ : ∃ bx, bx = w.heap.size := ⟨_, rfl⟩
  have hka : Keeps [] w (w.alloc (.cells #[.int .i64 (next.area : Int), .int .i64 (next.used : Int), .int .i64 (next.count : Int)] 66)) := (Keeps.refl _ _).alloc _
  have HKA := Lib.hid hka
  have HXA := Lib.hid (x.keep0 hka)
  have HYA := Lib.hid (y.keep hka (by simp))
  have HSA := Lib.hid (hs.keep hka (by simp) (G' := G) (fun _ h => h))
  have HGA := Lib.hid hG
  have hboxa := heap_alloc_new w (.cells #[.int .i64 (next.area : Int), .int .i64 (next.used : Int), .int .i64 (next.count : Int)] 66)
  rw [← hbx] at hboxa
  have HBXA := Lib.hid hboxa
  have c4a := hka.cell_some c4 (by simp)
  have f4a := (HYA.out).free 4
  have HBX := Lib.hid hbx
  have hbxl : bx ∉ h.l ∧ bx ≠ lp := by simp [DH.l]; omega
  have HBXL := Lib.hid hbxl
  have HX9 := Lib.hid x
  have HY9 := Lib.hid y
  have HS9 := Lib.hid hs
  clear x y hs hG hst hset hne hlB c4 f4 hka hboxa hbxl
  go_enter Tryd.func37, Tryd.ntmps37
  have HCH := Lib.hid (chg_of (d := d) (g := g) (next := next) (l := l) (l0 := l) (by rw [HSET.out]; rfl))
  have HG0 := Lib.hid (show ∀ x, G x → x ∉ h.l ∧ x ≠ lp from fun x hx => ⟨(HGA.out x hx).1, (HGA.out x hx).2.1⟩)
  obtain ⟨w0, hw0⟩ : ∃ w0, w0 = (w.setCell ⟨lp, 4, none⟩ (.bool false)).alloc (.cells #[.int .i64 (next.area : Int), .int .i64 (next.used : Int), .int .i64 (next.count : Int)] 66) := ⟨_, rfl⟩
  have hk0 : Keeps [lp] w w0 := by rw [hw0]; exact ((Keeps.refl _ _).setCell (by simp) _).alloc _
  have HS0 := Lib.hid (HS9.out.keep hk0 (fun y hy hGy => by simp at hy; exact (HG0.out _ hGy).2 hy) (G' := G) (fun _ h => h))
  have HX0 := Lib.hid (show DskAt w0 h B d from HX9.out.keep hk0 (fun z hz => ⟨by simp at hz; rw [hz]; exact HNE.out.2.2.2, by simp at hz; rw [hz]; exact HLB.out⟩))
  have HY0 := Lib.hid (show LogAt w0 lp h.p { g with settled := false } by
    have h1 : LogAt (w.setCell ⟨lp, 4, none⟩ (.bool false)) lp h.p { g with settled := false } := by unfold LogAt; rw [row_set HY9.out 4 _]; rfl
    rw [hw0]; exact h1.keep ((Keeps.refl [] _).alloc _) (by simp))
  have HBX0 := Lib.hid (show w0.heap[bx]? = some (.cells #[.int .i64 (next.area : Int), .int .i64 (next.used : Int), .int .i64 (next.count : Int)] 66 (0, 0)) by
    have h1 := heap_alloc_new (w.setCell ⟨lp, 4, none⟩ (.bool false)) (.cells #[.int .i64 (next.area : Int), .int .i64 (next.used : Int), .int .i64 (next.count : Int)] 66)
    rw [hw0, HBX.out]
    simpa [World.setCell] using h1)
  have HKW := Lib.hid hk0
  clear hk0
  subst hw0
  go_wp2_with fail
  go_loopw [24] (fun iv wr => ∃ k : Nat, k ≤ l.length ∧ iv = .int .i64 k ∧ (L.runSteps d (l.take k)).1 = 0 ∧ DskGo ((w.setCell ⟨lp, 4, none⟩ (.bool false)).alloc (.cells #[.int .i64 (next.area : Int), .int .i64 (next.used : Int), .int .i64 (next.count : Int)] 66)) h B wr (L.runSteps d (l.take k)).2) (fun iv _ => l.length - (RowKit.intOf iv).toNat)
  case atStart => exact ⟨0, Nat.zero_le _, rfl, rfl, DskGo.same HX0.out (Keeps.refl _ _)⟩
  case round =>
    obtain ⟨k, hk, rfl, h0, hgo⟩ := hrel
    have HGO := Lib.hid hgo
    obtain ⟨hkq, B1, x1, hb1, hb2⟩ := hgo
    have hlg := HY0.out.keep hkq HNE.out.2.2.2
    have hbr := block_keep HBX0.out hkq HBXL.out.1
    have HLG := Lib.hid hlg
    obtain ⟨D, hD⟩ : ∃ D, D = (L.runSteps d (l.take k)).2 := ⟨_, rfl⟩
    rw [← hD] at x1
    have HX1 := Lib.hid x1
    have HD := Lib.hid hD
    have H0 := Lib.hid h0
    have HB1 := Lib.hid hb1
    have HB2 := Lib.hid hb2
    have HKQ := Lib.hid hkq
    have g1 := hlg.free 1
    have g2 := hlg.free 2
    have g3 := hlg.free 3
    have g4 := hlg.free 4
    obtain ⟨l0, l1, l2, l3, l4⟩ := hlg.cells
    have n0 : wr.cell? ⟨bx, 0, none⟩ = some (.int .i64 (next.area : Int)) := row_cell hbr 0
    have n1 : wr.cell? ⟨bx, 1, none⟩ = some (.int .i64 (next.used : Int)) := row_cell hbr 1
    have n2 : wr.cell? ⟨bx, 2, none⟩ = some (.int .i64 (next.count : Int)) := row_cell hbr 2
    rw [HBX.out] at n0 n1 n2
    clear x1 hD h0 hb1 hb2 hkq hlg hbr
    by_cases hlk : k < l.length
    · obtain ⟨b, off, v, hAe, hGb, q1, q2, A', g', cap', rfl, hbi, hcp, hcm, hor⟩ := HS0.out.at hlk
      subst hAe
      have hst := HST.out _ (List.getElem_mem hlk)
      have HNX := Lib.hid (runSteps_next (d := d) hlk H0.out)
      have hnb := (HG0.out b hGb).1
      have p1 := HKQ.out.cell_some q1 hnb
      have p2 := HKQ.out.cell_some q2 hnb
      obtain ⟨⟨at_, bs⟩, ht⟩ : ∃ t, t = l[k] := ⟨_, rfl⟩
      rw [← ht] at p1 p2 hst HNX hbi hcp hor
      have HBI := Lib.hid (show ∃ g9, g9 ∉ h.l ∧ BytesIn wr g9 A' bs by
        rcases hor with h9 | h9
        · exact ⟨bx, HBXL.out.1, .inl h9⟩
        · exact ⟨g', (HG0.out g' h9).1, hbi.keep HKQ.out (HG0.out g' h9).1⟩)
      obtain ⟨hat, hbs⟩ := hst
      simp only [] at hat hbs p1 p2 hcp
      clear q1 q2 hGb hor hbi ht hnb
      obtain ⟨g9, hg9, hbi9⟩ := HBI.out
      have hal : Keeps [] wr (wr.alloc (.cells #[.int .i64 (at_ : Int), .slice A' bs.length cap'] 77)) := (Keeps.refl _ _).alloc _
      have HPF := Lib.hid (perform_any _ h B1 D lp { g with settled := false } (HX1.out.keep0 hal) (HLG.out.keep hal (by simp)) at_ g9 cap' A' bs hat (hbi9.keep hal (by simp)) hbs hcp hcm hg9)
      have HAL := Lib.hid hal
      rw [← HD.out] at HNX
      obtain ⟨er, her⟩ : ∃ er, er = (L.perform D at_ bs).1 := ⟨_, rfl⟩
      have HER := Lib.hid her
      clear hal hbi9 hg9 her
      go_wp2_with fail
      refine HPF.out.mono ?_
      rintro e w9 ⟨rfl, hgo2⟩
      rw [← HER.out]
      have HLG2 := Lib.hid (show LogAt w9 lp h.p { g with settled := false } from (HLG.out.keep HAL.out (by simp)).keep hgo2.1 HNE.out.2.2.2)
      have HGO2 := Lib.hid (show DskGo ((w.setCell ⟨lp, 4, none⟩ (.bool false)).alloc (.cells #[.int .i64 (next.area : Int), .int .i64 (next.used : Int), .int .i64 (next.count : Int)] 66)) h B w9 (L.runSteps d (l.take (k + 1))).2 by
        rw [HNX.out]
        exact DskGo.later HKQ.out HB1.out HB2.out (DskGo.first0 HAL.out hgo2))
      have HN1 := Lib.hid (show (L.runSteps d (l.take (k + 1))).1 = er by rw [HNX.out, HER.out])
      clear hgo2
      by_cases h0 : er = 0
      · have hz : ((er : Int) != 0) = false := by rw [h0]; rfl
        have HZ := Lib.hid h0
        clear h0
        go_wp2_with fail
        go_roundw
        case rel => exact ⟨k + 1, by omega, by go_num, by rw [HN1.out, HZ.out], HGO2.out⟩
        case measure => simp [RowKit.intOf]; omega
      · have hz : ((er : Int) != 0) = true := by rw [bne_iff_ne]; omega
        have HSTK := Lib.hid (runSteps_stuck (d := d) (l := l) (k := k + 1) (by rw [HN1.out]; exact h0))
        have HZ := Lib.hid h0
        clear h0
        go_wp2_with fail
        go_ret
        refine changeP_of (n := er) (g' := { g with settled := false }) ?_ HKW.out HGO2.out HLG2.out
        rw [HCH.out, HSTK.out, HN1.out, if_neg HZ.out]
    · have hke : l.take k = l := List.take_of_length_le (by omega)
      have HR := Lib.hid (show chg d g next l = (0, D, { next with settled := true }) by
        have h0 := H0.out
        rw [hke] at h0
        rw [HCH.out, h0, if_pos rfl, HD.out, hke])
      have HGE := Lib.hid (show DskGo ((w.setCell ⟨lp, 4, none⟩ (.bool false)).alloc (.cells #[.int .i64 (next.area : Int), .int .i64 (next.used : Int), .int .i64 (next.count : Int)] 66)) h B wr D by rw [HD.out]; exact HGO.out)
      have HKE := Lib.hid hke
      clear hke
      go_wp2_with fail
      go_ret
      refine changeP_end (g := { g with settled := false }) (g' := { next with settled := true }) HR.out HKW.out HGE.out HLG.out ⟨HNE.out.2.2.2, fun z hz => by rintro rfl; exact HLB.out hz⟩ HY0.out.lt ?_
      rfl
set_option maxRecDepth 100000 in
set_option maxHeartbeats 2000000 in
theorem change_unsettled (w : World) (h : DH) (B : Nat → Prop) (d : Dk) (lp : Nat) (g next : Lg) (G : Nat → Prop) (A : Option Addr) (cap : Nat) (l : List (Nat × List UInt8)) (x : DskAt w h B d) (y : LogAt w lp h.p g) (hlB : ¬ B lp)
    (hs : StepsIn w G A l) (hG : ∀ x, G x → x ∉ h.l ∧ x ≠ lp ∧ x < w.heap.size) (hst : ∀ t ∈ l, t.1 ≤ 65536 ∧ t.2.length ≤ 17179869184) (hl : l.length ≤ 100) (ha : g.area ≤ 1) (hu : g.used ≤ 4096) (hset : g.settled = false) :
    Calls Tryd.prog 37 #[.pointer (some ⟨lp, 0, none⟩), .agg #[.int .i64 (next.area : Int), .int .i64 (next.used : Int), .int .i64 (next.count : Int)], .slice A l.length cap] w (ChangeP w h B lp (chg d g next l)) := by
  obtain ⟨iS, hS, hS0, hS1, hS2⟩ := info_parts infoStep
  obtain ⟨_, _, _, _, c4⟩ := y.cells
  rw [hset] at c4
  have f4 := y.free 4
  have hlt := x.lt
  have hll := y.lt
  have hne := y.ne x
  have hsz := x.ok.size
  have hsecs := x.ok.secs
  have HNE := Lib.hid hne
  have HLB := Lib.hid hlB
  have HST := Lib.hid hst
  have HSET := Lib.hid hset
  obtain ⟨bx, hbx⟩ : ∃ bx, bx = w.heap.size := ⟨_, rfl⟩
  have hka : Keeps [] w (w.alloc (.cells #[.int .i64 (next.area : Int), .int .i64 (next.used : Int), .int .i64 (next.count : Int)] 66)) := (Keeps.refl _ _).alloc _
  have HKA := Lib.hid hka
  have HXA := Lib.hid (x.keep0 hka)
  have HYA := Lib.hid (y.keep hka (by simp))
  have HSA := Lib.hid (hs.keep hka (by simp) (G' := G) (fun _ h => h))
  have HGA := Lib.hid hG
  have hboxa := heap_alloc_new w (.cells #[.int .i64 (next.area : Int), .int .i64 (next.used : Int), .int .i64 (next.count : Int)] 66)
  rw [← hbx] at hboxa
  have HBXA := Lib.hid hboxa
  have c4a := hka.cell_some c4 (by simp)
  have f4a := (HYA.out).free 4
  have HBX := Lib.hid hbx
  have hbxl : bx ∉ h.l ∧ bx ≠ lp := by simp [DH.l]; omega
  have HBXL := Lib.hid hbxl
  have HX9 := Lib.hid x
  have HY9 := Lib.hid y
  have HS9 := Lib.hid hs
  clear x y hs hG hst hset hne hlB c4 f4 hka hboxa hbxl
  go_enter Tryd.func37, Tryd.ntmps37
  have HCH := Lib.hid (chg_of (d := d) (g := g) (next := next) (l := l) (l0 := L.settleSteps d.dur.length d.size g.area g.used ++ l) (by rw [HSET.out]; rfl))
  go_wp2_with fail
  refine (settlement_any _ h B d lp g HXA.out HYA.out ha hu).mono ?_
  rintro e w1 ⟨v1, rfl, hns, hk1⟩
  obtain ⟨xs, b1, rfl, hb1, hb1', hxs, hown⟩ := hns.cells (by simp only [List.length_replicate]; unfold maxLen; omega) (by have h9 : (L.hd g.area d.size).length = d.size := L.hd_length (by omega); show (L.hd g.area d.size).length ≤ _; rw [h9]; unfold maxLen; omega)
  have hbase : bx < w1.heap.size ∧ bx + 1 ≤ b1 := by have := hk1.size; simp at this hb1; omega
  have HXS := Lib.hid hxs
  have HXO := Lib.hid hxs.one
  have HOWN := Lib.hid hown
  have HK1 := Lib.hid hk1
  have hn9 := hk1.size
  have c4b := hk1.cell_some c4a (by simp)
  have HS1 := Lib.hid (HSA.out.keep hk1 (by simp) (G' := G) (fun _ h => h))
  clear hxs hown hns hk1
  obtain ⟨ys, hys, hyc, hA0, hyw⟩ : ∃ ys : List Value, ys.length = l.length * 2 ∧ StepCells w1 G ys l ∧ (A = none → l.length = 0) ∧ ∀ ad, A = some ad → ∀ j u, ys[j]? = some u → w1.cell? (ad.add j) = some u := by
    rcases HS1.out with ⟨hA, hl0⟩ | ⟨b, off, ys, hA, _, hc, hcs⟩
    · exact ⟨[], by rw [hl0]; rfl, ⟨by rw [hl0]; rfl, fun j hj => by rw [hl0] at hj; simp at hj⟩, fun _ => by rw [hl0]; rfl, fun ad e => by rw [hA] at e; cases e⟩
    · refine ⟨ys, by rw [hcs.1]; omega, hcs, fun e => (by rw [hA] at e; cases e), fun ad e j u hu => ?_⟩
      rw [hA] at e
      obtain rfl := Option.some.inj e
      rw [Addr.add_lit]
      exact hc j u hu
  have HYS := Lib.hid hys
  have HYC := Lib.hid hyc
  have HA0 := Lib.hid hA0
  have HYW := Lib.hid hyw
  clear hys hyc hA0 hyw
  go_wp2_with (at_builtin; refine wpList_append_in _ rfl _ _ 90 rfl (w.heap.size + 1) 77 iS _ 2 32 Tryd.underlying90 hS hS0 hS1 hS2 rfl (by decide) (.slice (some ⟨b1, 0, none⟩) 2 2) 2 xs rfl (by simpa using HOWN.out) A l.length cap ys rfl HYS.out HA0.out HYW.out HYC.out.one ?c1 ?c2 ?c3 ?_)
  case c1 => unfold maxLen; omega
  case c2 => omega
  case c3 => simp at hn9; omega
  intro v2 w2 hown2 hg2 hat2
  obtain ⟨L0, hL0⟩ : ∃ L0, L0 = L.settleSteps d.dur.length d.size g.area g.used ++ l := ⟨_, rfl⟩
  have hLn : L0.length = 2 + l.length := by rw [hL0, List.length_append]; rfl
  obtain ⟨A2, cap2, rfl, hs2⟩ : ∃ A2 cap2, v2 = .slice A2 L0.length cap2 ∧ StepsIn w2 (fun z => G z ∨ w.heap.size + 1 ≤ z) A2 L0 := by
    have hb1w : w.heap.size + 1 ≤ b1 := by simpa using hb1
    obtain ⟨b2, cap2, rfl, hb2, hb2'⟩ : ∃ b2 cap2, v2 = .slice (some ⟨b2, 0, none⟩) (2 + l.length) cap2 ∧ w.heap.size + 1 ≤ b2 ∧ b2 < w2.heap.size := by
      rcases hown2.2 with ⟨_, h0⟩ | ⟨g2, c2, cu2, hv, hb, hh, _⟩
      · omega
      · exact ⟨g2, c2, hv, hb, block_lt hh⟩
    have hk2 : Keeps [b1] w1 w2 := (Keeps.of_grown hg2).mono (by simp [Value.ownBlock])
    refine ⟨some ⟨b2, 0, none⟩, cap2, by rw [hLn], .inr ⟨b2, 0, xs ++ ys, rfl, .inr hb2, fun j u hu => ?_, ?_⟩⟩
    · have := hown2.cells (g := b2) rfl j u hu
      rwa [Addr.add_lit] at this
    · rw [hL0]
      refine StepCells.append (HXS.out.keep hk2 (fun z hz => by simp at hz; rw [hz]; simp) (fun z hz => .inr (by simpa using hz.1))) (HYC.out.keep hk2 (fun z hz => ?_) (fun z hz => .inl hz))
      simp at hz
      rw [hz]
      intro hGb
      have := (HGA.out b1 hGb).2.2
      omega
  have hk2 : Keeps [b1] w1 w2 := (Keeps.of_grown hg2).mono (by simp [Value.ownBlock])
  have hkw2 : Keeps [] w w2 := ((HKA.out.mono (T := [b1]) (by simp)).trans ((HK1.out.mono (T := [b1]) (by simp)).trans hk2 (fun _ h _ => h)) (fun _ h _ => h)).mono (fun i hi hl => by simp at hi hb1; omega)
  have HCH9 := Lib.hid (show chg d g next l = ((L.runSteps d L0).1, (L.runSteps d L0).2, if (L.runSteps d L0).1 = 0 then { next with settled := true } else { g with settled := false }) by rw [HCH.out, hL0])
  have HST2 := Lib.hid (show ∀ t ∈ L0, t.1 ≤ 65536 ∧ t.2.length ≤ 17179869184 from fun t ht => by
    rw [hL0] at ht
    rcases List.mem_append.1 ht with h9 | h9
    · have hspn := L.st_fits (N := d.dur.length) (a := g.area) hsecs.1 ha
      have hhl : (L.hd g.area d.size).length = d.size := L.hd_length (by omega)
      simp only [L.settleSteps, List.mem_cons, List.not_mem_nil, or_false] at h9
      rcases h9 with rfl | rfl
      · simp only [List.length_replicate]; omega
      · simp only [hhl]; omega
    · exact HST.out t h9)
  have hLn2 : L0.length ≤ 102 := by omega
  have HG0 := Lib.hid (show ∀ z, (G z ∨ w.heap.size + 1 ≤ z) → z ∉ h.l ∧ z ≠ lp from fun z hz => by
    rcases hz with hz | hz
    · exact ⟨(HGA.out z hz).1, (HGA.out z hz).2.1⟩
    · exact ⟨by simp [DH.l]; omega, by omega⟩)
  obtain ⟨w0, hw0⟩ : ∃ w0, w0 = w2.setCell ⟨lp, 4, none⟩ (.bool false) := ⟨_, rfl⟩
  have hk0 : Keeps [lp] w2 w0 := by rw [hw0]; exact (Keeps.refl _ _).setCell (by simp) _
  have HS0 := Lib.hid (hs2.keep hk0 (fun y hy hGy => by simp at hy; exact (HG0.out _ hGy).2 hy) (fun _ h => h))
  have HX0 := Lib.hid (show DskAt w0 h B d from (HX9.out.keep0 hkw2).keep hk0 (fun z hz => ⟨by simp at hz; rw [hz]; exact HNE.out.2.2.2, by simp at hz; rw [hz]; exact HLB.out⟩))
  have hy2 := HY9.out.keep hkw2 (by simp)
  have HY0 := Lib.hid (show LogAt w0 lp h.p { g with settled := false } by unfold LogAt; rw [hw0, row_set hy2 4 _]; rfl)
  have HBX0 := Lib.hid (show w0.heap[bx]? = some (.cells #[.int .i64 (next.area : Int), .int .i64 (next.used : Int), .int .i64 (next.count : Int)] 66 (0, 0)) from
    block_keep (block_keep (block_keep HBXA.out HK1.out (by simp)) hk2 (by simp at hb1 ⊢; omega)) hk0 (by simpa using HBXL.out.2))
  have HKW := Lib.hid (show Keeps [lp] w w0 from (hkw2.mono (by simp)).trans hk0 (by simp))
  have c4c := hk2.cell_some c4b (by simp at hb1 ⊢; omega)
  have f4c := hy2.free 4
  clear hown2 hg2 hat2 hs2 hk2 hkw2 hk0 hy2 hLn hL0 c4a c4b f4a HCH HST HOWN HXS HXO HYS HYC HA0 HYW
  subst hw0
  go_wp2_with fail
  go_loopw [24] (fun iv wr => ∃ k : Nat, k ≤ L0.length ∧ iv = .int .i64 k ∧ (L.runSteps d (L0.take k)).1 = 0 ∧ DskGo (w2.setCell ⟨lp, 4, none⟩ (.bool false)) h B wr (L.runSteps d (L0.take k)).2) (fun iv _ => L0.length - (RowKit.intOf iv).toNat)
  case atStart => exact ⟨0, Nat.zero_le _, rfl, rfl, DskGo.same HX0.out (Keeps.refl _ _)⟩
  case round =>
    obtain ⟨k, hk, rfl, h0, hgo⟩ := hrel
    have HGO := Lib.hid hgo
    obtain ⟨hkq, B1, x1, hb1, hb2⟩ := hgo
    have hlg := HY0.out.keep hkq HNE.out.2.2.2
    have hbr := block_keep HBX0.out hkq HBXL.out.1
    have HLG := Lib.hid hlg
    obtain ⟨D, hD⟩ : ∃ D, D = (L.runSteps d (L0.take k)).2 := ⟨_, rfl⟩
    rw [← hD] at x1
    have HX1 := Lib.hid x1
    have HD := Lib.hid hD
    have H0 := Lib.hid h0
    have HB1 := Lib.hid hb1
    have HB2 := Lib.hid hb2
    have HKQ := Lib.hid hkq
    have g1 := hlg.free 1
    have g2 := hlg.free 2
    have g3 := hlg.free 3
    have g4 := hlg.free 4
    obtain ⟨l0, l1, l2, l3, l4⟩ := hlg.cells
    have n0 : wr.cell? ⟨bx, 0, none⟩ = some (.int .i64 (next.area : Int)) := row_cell hbr 0
    have n1 : wr.cell? ⟨bx, 1, none⟩ = some (.int .i64 (next.used : Int)) := row_cell hbr 1
    have n2 : wr.cell? ⟨bx, 2, none⟩ = some (.int .i64 (next.count : Int)) := row_cell hbr 2
    rw [HBX.out] at n0 n1 n2
    clear x1 hD h0 hb1 hb2 hkq hlg hbr
    by_cases hlk : k < L0.length
    · obtain ⟨b, off, v, hAe, hGb, q1, q2, A', g', cap', rfl, hbi, hcp, hcm, hor⟩ := HS0.out.at hlk
      subst hAe
      have hst := HST2.out _ (List.getElem_mem hlk)
      have HNX := Lib.hid (runSteps_next (d := d) hlk H0.out)
      have hnb := (HG0.out b hGb).1
      have p1 := HKQ.out.cell_some q1 hnb
      have p2 := HKQ.out.cell_some q2 hnb
      obtain ⟨⟨at_, bs⟩, ht⟩ : ∃ t, t = L0[k] := ⟨_, rfl⟩
      rw [← ht] at p1 p2 hst HNX hbi hcp hor
      have HBI := Lib.hid (show ∃ g9, g9 ∉ h.l ∧ BytesIn wr g9 A' bs by
        rcases hor with h9 | h9
        · exact ⟨bx, HBXL.out.1, .inl h9⟩
        · exact ⟨g', (HG0.out g' h9).1, hbi.keep HKQ.out (HG0.out g' h9).1⟩)
      obtain ⟨hat, hbs⟩ := hst
      simp only [] at hat hbs p1 p2 hcp
      clear q1 q2 hGb hor hbi ht hnb
      obtain ⟨g9, hg9, hbi9⟩ := HBI.out
      have hal : Keeps [] wr (wr.alloc (.cells #[.int .i64 (at_ : Int), .slice A' bs.length cap'] 77)) := (Keeps.refl _ _).alloc _
      have HPF := Lib.hid (perform_any _ h B1 D lp { g with settled := false } (HX1.out.keep0 hal) (HLG.out.keep hal (by simp)) at_ g9 cap' A' bs hat (hbi9.keep hal (by simp)) hbs hcp hcm hg9)
      have HAL := Lib.hid hal
      rw [← HD.out] at HNX
      obtain ⟨er, her⟩ : ∃ er, er = (L.perform D at_ bs).1 := ⟨_, rfl⟩
      have HER := Lib.hid her
      clear hal hbi9 hg9 her
      go_wp2_with fail
      refine HPF.out.mono ?_
      rintro e w9 ⟨rfl, hgo2⟩
      rw [← HER.out]
      have HLG2 := Lib.hid (show LogAt w9 lp h.p { g with settled := false } from (HLG.out.keep HAL.out (by simp)).keep hgo2.1 HNE.out.2.2.2)
      have HGO2 := Lib.hid (show DskGo (w2.setCell ⟨lp, 4, none⟩ (.bool false)) h B w9 (L.runSteps d (L0.take (k + 1))).2 by
        rw [HNX.out]
        exact DskGo.later HKQ.out HB1.out HB2.out (DskGo.first0 HAL.out hgo2))
      have HN1 := Lib.hid (show (L.runSteps d (L0.take (k + 1))).1 = er by rw [HNX.out, HER.out])
      clear hgo2
      by_cases h0 : er = 0
      · have hz : ((er : Int) != 0) = false := by rw [h0]; rfl
        have HZ := Lib.hid h0
        clear h0
        go_wp2_with fail
        go_roundw
        case rel => exact ⟨k + 1, by omega, by go_num, by rw [HN1.out, HZ.out], HGO2.out⟩
        case measure => simp [RowKit.intOf]; omega
      · have hz : ((er : Int) != 0) = true := by rw [bne_iff_ne]; omega
        have HSTK := Lib.hid (runSteps_stuck (d := d) (l := L0) (k := k + 1) (by rw [HN1.out]; exact h0))
        have HZ := Lib.hid h0
        clear h0
        go_wp2_with fail
        go_ret
        refine changeP_of (n := er) (g' := { g with settled := false }) ?_ HKW.out HGO2.out HLG2.out
        rw [HCH9.out, HSTK.out, HN1.out, if_neg HZ.out]
    · have hke : L0.take k = L0 := List.take_of_length_le (by omega)
      have HR := Lib.hid (show chg d g next l = (0, D, { next with settled := true }) by
        have h0 := H0.out
        rw [hke] at h0
        rw [HCH9.out, h0, if_pos rfl, HD.out, hke])
      have HGE := Lib.hid (show DskGo (w2.setCell ⟨lp, 4, none⟩ (.bool false)) h B wr D by rw [HD.out]; exact HGO.out)
      have HKE := Lib.hid hke
      clear hke
      go_wp2_with fail
      go_ret
      refine changeP_end (g := { g with settled := false }) (g' := { next with settled := true }) HR.out HKW.out HGE.out HLG.out ⟨HNE.out.2.2.2, fun z hz => by rintro rfl; exact HLB.out hz⟩ HY0.out.lt ?_
      rfl
theorem change_any (w : World) (h : DH) (B : Nat → Prop) (d : Dk) (lp : Nat) (g next : Lg) (G : Nat → Prop) (A : Option Addr) (cap : Nat) (l : List (Nat × List UInt8)) (x : DskAt w h B d) (y : LogAt w lp h.p g) (hlB : ¬ B lp)
    (hs : StepsIn w G A l) (hG : ∀ x, G x → x ∉ h.l ∧ x ≠ lp ∧ x < w.heap.size) (hst : ∀ t ∈ l, t.1 ≤ 65536 ∧ t.2.length ≤ 17179869184) (hl : l.length ≤ 100) (ha : g.area ≤ 1) (hu : g.used ≤ 4096) :
    Calls Tryd.prog 37 #[.pointer (some ⟨lp, 0, none⟩), .agg #[.int .i64 (next.area : Int), .int .i64 (next.used : Int), .int .i64 (next.count : Int)], .slice A l.length cap] w (ChangeP w h B lp (chg d g next l)) := by
  cases hset : g.settled with
  | true => exact change_settled w h B d lp g next G A cap l x y hlB hs hG hst hl ha hu hset
  | false => exact change_unsettled w h B d lp g next G A cap l x y hlB hs hG hst hl ha hu hset
end Go.Proofs.YtgjgnieobbhepaaDoor
