/- CodeBack: the walk. -/
import Derived.Test.YtpjnckdekoooeaaCPlain
import Derived.Test.YtpjnckdekoooeaaCSame
import Derived.Test.YtpjnckdekoooeaaCKnown
import Derived.Test.YtpjnckdekoooeaaCL2
namespace Go.Proofs.Ytpjnckdekoooeaa.codeBack
open Go.RowKit
open Reg (Is Fact)

attribute [local go_sem] Reg.wantedV Reg.gives_value Reg.gives_skip Reg.gives_enter
/-- A slice of bytes, made behind w. -/
def BW (w wr : World) (S : List Nat) (v : Value) (L : List UInt8) : Prop := BufAt wr S v L ∧ (∀ x ∈ S, w.heap.size ≤ x) ∧ Keeps [] w wr
theorem BW.put {w wr w' : World} {S : List Nat} {v v' : Value} {L L' : List UInt8} (h : BW w wr S v L) (hg : Grew wr S L' (.returned v') w') : ∃ g', BW w w' [g'] v' L' := by
  obtain ⟨h1, h2, h3⟩ := h
  obtain ⟨v2, g', he, q1, q2, q3⟩ := hg
  cases he
  have hs := h3.size
  refine ⟨g', q1.buf, fun x hx => ?_, h3.trans q3 (fun x hx hl => by have := h2 x hx; omega)⟩
  obtain rfl : x = g' := by simpa using hx
  rcases q2 with q2 | q2
  · exact h2 x q2
  · omega
theorem BW.keep {w wr w' : World} {S : List Nat} {v : Value} {L : List UInt8} (h : BW w wr S v L) (hk : Keeps [] wr w') : BW w w' S v L := ⟨h.1.keep0 hk, h.2.1, h.2.2.trans hk (by simp)⟩
/-- One call of a reader in a region: before it l is left, behind it l'. -/
def RC (wr : World) (p g : Nat) (l l' : List UInt8) (L : Nat → Bool) (w : World) : Prop := Keeps [p] wr w ∧ (L 1 = false → RdAt w p g l false) ∧ (L 1 = true → RdAt w p g l' false)
def GR (p : Nat) (w w' : World) : Prop := Keeps [p] w w'
theorem GR.same (p : Nat) (w : World) : GR p w w := Keeps.refl _ _
theorem GR.of {p : Nat} {w w' : World} (h : Keeps [] w w') : GR p w w' := h.mono (by simp)
section
variable {wr w w' : World} {p g i : Nat} {l l' : List UInt8} {L : Nat → Bool}
theorem RC.start {n : Nat} (h : RdAt wr p g l false) (hn : 1 < n) : RC wr p g l l' (fun k => decide (n ≤ k)) wr.drew :=
  ⟨(Keeps.refl _ _).drew, fun _ => h.keep ((Keeps.refl [] _).drew) (by simp) (by simp), fun hl => by simp at hl; omega⟩
theorem RC.lay (h : RC wr p g l l' L w) (hi : i ≠ 1) (hk : Keeps [] w w') : RC wr p g l l' (Reg.lay L i) w' := by
  unfold RC
  rw [lay_ne hi]
  exact ⟨h.1.trans hk (by simp), fun e => (h.2.1 e).keep hk (by simp) (by simp), fun e => (h.2.2 e).keep hk (by simp) (by simp)⟩
theorem RC.call (h : RC wr p g l l' L w) (h1 : RdAt w' p g l' false) (hk : Keeps [p] w w') : RC wr p g l l' (Reg.lay L 1) w' := by
  unfold RC
  rw [lay_eq]
  exact ⟨h.1.trans hk (fun _ h _ => h), fun e => (by cases e), fun _ => h1⟩
end
theorem Is.lastR {p : Nat} {u : Value} : ∀ v w w', Is u v w → GR p w w' → Is u v w' := fun _ _ _ h _ => h
/-- A summary that lies apart from the reader. -/
def SmF (p : Nat) (s : Sm) : Fact := fun v w => ∃ h1 h2 Aa ca Am cm, v = .agg #[.slice Aa s.alarms.length ca, .bool s.ends, .bool s.ret.some, .int .i64 s.ret.lo, .int .i64 s.ret.hi, .slice Am s.mod.length cm] ∧ AlsIn w h1 Aa s.alarms ∧ NmsIn w h2 Am s.mod ∧ h1 ≠ p ∧ h2 ≠ p
theorem SmF.last {p : Nat} {s : Sm} : ∀ v w w', SmF p s v w → GR p w w' → SmF p s v w' := by
  rintro v w w' ⟨h1, h2, Aa, ca, Am, cm, hv, al, nl, n1, n2⟩ hk
  exact ⟨h1, h2, Aa, ca, Am, cm, hv, al.keep hk (by simpa using n1), nl.keep hk (by simpa using n2), n1, n2⟩
theorem SmF.at {p : Nat} {s : Sm} {v : Value} {w : World} (h : SmF p s v w) : SmAt 0 w v s := by
  obtain ⟨h1, h2, Aa, ca, Am, cm, hv, al, nl, _, _⟩ := h
  exact ⟨h1, h2, Aa, ca, Am, cm, hv, al, nl, Nat.zero_le _, Nat.zero_le _⟩

set_option maxHeartbeats 8000000 in
set_option maxRecDepth 100000 in
theorem walk_light (w : World) (hb : Nat) (A : Option Addr) (cap : Nat) (ps : List Pt) (hr : PartsIn w hb A ps) (hf : ∀ p ∈ ps, p.fits) (hlen : ps.length ≤ maxLen) (hli : LightP ps) :
    Calls Try.prog 5 #[.slice A ps.length cap] w fun e w' => e = .returned (.bool true) ∧ Below w.heap.size w w' := by
  have hn12 := hli.1
  have HR := Lib.hid hr
  have HF := Lib.hid hf
  have HLI := Lib.hid hli
  have HLEN := Lib.hid hlen
  clear hr hf hli hlen
  go_enter Try.func5, Try.ntmps5
  go_wp2_with fail
  refine (known_any w).mono ?_
  rintro e w0 ⟨rfl, hk0⟩
  have HK0 := Lib.hid hk0
  clear hk0
  go_wp2_with fail
  refine (light_any w0 hb A cap ps (HR.out.keep HK0.out) HLEN.out HF.out).mono ?_
  rintro e w1 ⟨b, rfl, hbl, hk1⟩
  obtain rfl : b = true := hbl.2 HLI.out
  have HK1 := Lib.hid (HK0.out.trans hk1 (by simp))
  clear hk1 hbl
  go_wp2_with fail
  go_loopw [3, 4] (fun v i wr => ∃ (k : Nat) (S : List Nat), k ≤ ps.length ∧ i = .int .i64 (k : Int) ∧ BW w wr S v ((ps.take k).flatMap encPt) ∧ ∀ p ∈ ps.take k, ∀ a ∈ p.s.alarms, M.Al.small a) (fun _ i _ => ps.length - (intOf i).toNat)
  case atStart => exact ⟨0, [], Nat.zero_le _, rfl, by rw [List.take_zero, List.flatMap_nil]; exact ⟨BufAt.nil _, by simp, HK1.out⟩, by simp⟩
  case round =>
    obtain ⟨k, S, hk, rfl, hbw, hsm⟩ := hrel
    have HB := Lib.hid hbw
    have HSM := Lib.hid hsm
    clear hbw hsm
    by_cases hlt : k < ps.length
    · rcases HR.out with h0 | ⟨off, rfl, hcell⟩
      · rw [h0] at hlt; simp at hlt
      · have hc := hcell k hlt
        have hfk := HF.out _ (List.getElem_mem hlt)
        have hlk := HLI.out.2 _ (List.getElem_mem hlt)
        have HE := Lib.hid (flat_next encPt [] hlt)
        have HTK := Lib.hid (List.take_succ_eq_append_getElem hlt)
        obtain ⟨⟨what, nn, tt, ss⟩, hpt⟩ : ∃ p, p = ps[k] := ⟨_, rfl⟩
        rw [← hpt] at hc hfk hlk HE HTK
        rw [List.nil_append, List.nil_append] at HE
        obtain ⟨h1, h2, Aa, ca, Am, cm, c0, c1, c2, c3, c4, c5, c6, c7, c8, hal, hnm⟩ := hc
        simp only [] at c0 c1 c2 c3 c4 c5 c6 c7 c8 hal hnm
        obtain ⟨⟨f1, f2, f3⟩, _⟩ := hfk
        obtain ⟨l1, l2⟩ := hlk
        simp only [] at f1 f2 f3 l1 l2
        have hla := l2.1
        obtain ⟨L, hL⟩ : ∃ L, L = (ps.take k).flatMap encPt := ⟨_, rfl⟩
        rw [← hL] at HB HE
        have hLlen : L.length ≤ 14000 := by
          rw [hL]
          have h9 := flat_pts_len (ps.take k) (fun m hm => ⟨(HF.out m (List.mem_of_mem_take hm)).1, HLI.out.2 m (List.mem_of_mem_take hm)⟩)
          simp only [List.length_take] at h9
          omega
        have HC0 := Lib.hid c0
        have HC1 := Lib.hid c1
        have HC2 := Lib.hid c2
        have HC3 := Lib.hid c3
        have HC4 := Lib.hid c4
        have HC5 := Lib.hid c5
        have HC6 := Lib.hid c6
        have HC7 := Lib.hid c7
        have HC8 := Lib.hid c8
        have HAL := Lib.hid hal
        have HNM := Lib.hid hnm
        have HNN := Lib.hid f2
        have HSS : Hid (ss.ok ∧ ss.light) := Lib.hid ⟨f3, l2⟩
        clear hcell hpt c0 c1 c2 c3 c4 c5 c6 c7 c8 hal hnm f2 f3 l2 hL
        obtain ⟨wo, rfl⟩ : ∃ wo : World, wo = wr := ⟨_, rfl⟩
        go_wp2_with fail
        go_loopw [5] (fun j wr => ∃ m : Nat, m ≤ ss.alarms.length ∧ j = .int .i64 (m : Int) ∧ Keeps [] wo wr ∧ ∀ a ∈ ss.alarms.take m, M.Al.small a) (fun j _ => ss.alarms.length - (intOf j).toNat)
        case atStart => exact ⟨0, Nat.zero_le _, rfl, Keeps.refl _ _, by simp⟩
        case round =>
          obtain ⟨m, hm, rfl, hkm, hsa⟩ := hrel
          have HKM := Lib.hid hkm
          have HSA := Lib.hid hsa
          have HKW := Lib.hid (HB.out.2.2.trans hkm (by simp))
          have e3 := HKW.out.cell_some HC3.out (by simp)
          clear hkm hsa
          by_cases hmt : m < ss.alarms.length
          · rcases HAL.out with h0 | ⟨o1, rfl, hc1⟩
            · rw [h0] at hmt; simp at hmt
            · have ha := hc1 m hmt
              have HTA := Lib.hid (List.take_succ_eq_append_getElem hmt)
              obtain ⟨⟨po, ki⟩, hme⟩ : ∃ a, a = ss.alarms[m] := ⟨_, rfl⟩
              rw [← hme] at ha HTA
              have x0 := HKW.out.cell_some ha.1 (by simp)
              have x1 := HKW.out.cell_some ha.2 (by simp)
              simp only [] at x0 x1
              clear hc1 ha hme
              rcases (show po < -2147483648 ∨ (-2147483648 ≤ po ∧ 2147483647 < po) ∨ ((-2147483648 ≤ po ∧ po ≤ 2147483647) ∧ ki < -2147483648) ∨ ((-2147483648 ≤ po ∧ po ≤ 2147483647) ∧ -2147483648 ≤ ki ∧ 2147483647 < ki) ∨ ((-2147483648 ≤ po ∧ po ≤ 2147483647) ∧ -2147483648 ≤ ki ∧ ki ≤ 2147483647) by omega) with hz | hz | hz | hz | hz
              · have d1 : decide (po < -2147483648) = true := by simpa using hz
                clear hz
                go_wp2_with fail
                go_ret
                exact ⟨rfl, (HKW.out.alloc _).below (by simp) (Nat.le_refl _)⟩
              · have d1 : decide (po < -2147483648) = false := by simp; omega
                have d2 : decide (2147483647 < po) = true := by simpa using hz.2
                clear hz
                go_wp2_with fail
                go_ret
                exact ⟨rfl, (HKW.out.alloc _).below (by simp) (Nat.le_refl _)⟩
              · have d1 : decide (po < -2147483648) = false := by simp; omega
                have d2 : decide (2147483647 < po) = false := by simp; omega
                have d3 : decide (ki < -2147483648) = true := by simpa using hz.2
                clear hz
                go_wp2_with fail
                go_ret
                exact ⟨rfl, (HKW.out.alloc _).below (by simp) (Nat.le_refl _)⟩
              · have d1 : decide (po < -2147483648) = false := by simp; omega
                have d2 : decide (2147483647 < po) = false := by simp; omega
                have d3 : decide (ki < -2147483648) = false := by simp; omega
                have d4 : decide (2147483647 < ki) = true := by simpa using hz.2.2
                clear hz
                go_wp2_with fail
                go_ret
                exact ⟨rfl, (HKW.out.alloc _).below (by simp) (Nat.le_refl _)⟩
              · have d1 : decide (po < -2147483648) = false := by simp; omega
                have d2 : decide (2147483647 < po) = false := by simp; omega
                have d3 : decide (ki < -2147483648) = false := by simp; omega
                have d4 : decide (2147483647 < ki) = false := by simp; omega
                have HZ := Lib.hid hz
                clear hz
                go_wp2_with fail
                go_roundw
                case rel =>
                  refine ⟨m + 1, by omega, by go_num, HKM.out.alloc _, ?_⟩
                  rw [HTA.out]
                  intro a ha
                  rcases List.mem_append.1 ha with ha | ha
                  · exact HSA.out a ha
                  · obtain rfl : a = ⟨po, ki⟩ := by simpa using ha
                    exact HZ.out
                case measure => simp [intOf]; omega
          · have HALL := Lib.hid (show ∀ a ∈ ss.alarms, M.Al.small a by have := HSA.out; rwa [List.take_of_length_le (by omega)] at this)
            have HBM := Lib.hid (HB.out.keep HKM.out)
            have e0 := HKW.out.cell_some HC0.out (by simp)
            have e1 := HKW.out.cell_some HC1.out (by simp)
            have e2 := HKW.out.cell_some HC2.out (by simp)
            have e4 := HKW.out.cell_some HC4.out (by simp)
            have e5 := HKW.out.cell_some HC5.out (by simp)
            have e6 := HKW.out.cell_some HC6.out (by simp)
            have e7 := HKW.out.cell_some HC7.out (by simp)
            have e8 := HKW.out.cell_some HC8.out (by simp)
            go_wp2_with fail
            obtain ⟨ha1, q1, q2⟩ := HAL.out.pick HKW.out (S := S) HB.out.2.1
            obtain ⟨ha2, q3, q4⟩ := HNM.out.pick HKW.out (S := S) HB.out.2.1
            refine (put_any wr S u3 L ha1 ha2 Aa Am ca cm ⟨what, nn, tt, ss⟩ HBM.out.1 q1 q3 q2 q4 ⟨f1, HNN.out, HSS.out.1⟩ ⟨l1, HSS.out.2⟩ (by omega)).mono ?_
            rintro e w3 ⟨v3, g3, rfl, hgr⟩
            obtain ⟨g1, hws⟩ := HBM.out.put ⟨v3, g3, rfl, hgr⟩
            have HWS := Lib.hid hws
            clear e0 e1 e2 e3 e4 e5 e6 e7 e8 hgr hws q1 q2 q3 q4
            go_wp2_with fail
            go_roundw
            case rel =>
              refine ⟨k + 1, [g1], by omega, by go_num, by rw [← HE.out]; exact HWS.out, ?_⟩
              rw [HTK.out]
              intro p hp
              rcases List.mem_append.1 hp with hp | hp
              · exact HSM.out p hp
              · obtain rfl : p = ⟨what, nn, tt, ss⟩ := by simpa using hp
                exact HALL.out
            case measure => simp [intOf]; omega
    · have HSMA := Lib.hid (show ∀ p ∈ ps, ∀ a ∈ p.s.alarms, M.Al.small a by have := HSM.out; rwa [List.take_of_length_le (by omega)] at this)
      have hbz := HB.out
      rw [List.take_of_length_le (by omega)] at hbz
      have hLlen : (ps.flatMap encPt).length ≤ 14000 := by
        have h9 := flat_pts_len ps (fun m hm => ⟨(HF.out m hm).1, HLI.out.2 m hm⟩)
        omega
      obtain ⟨L, hL⟩ : ∃ L, L = ps.flatMap encPt := ⟨_, rfl⟩
      rw [← hL] at hbz hLlen
      obtain ⟨wa, rfl⟩ : ∃ wa : World, wa = wr := ⟨_, rfl⟩
      obtain ⟨A2, g2, cap2, rfl, hbi⟩ := hbz.1.form
      have HBI := Lib.hid hbi
      have HKA := Lib.hid hbz.2.2
      have HL := Lib.hid hL
      clear hbz hbi hL HB HSM
      go_wp2_with fail
      refine (newReader_any wa g2 A2 L cap2 HBI.out (by omega)).mono ?_
      rintro e w5 ⟨p, g, rfl, hrd, hp, hg, hk5⟩
      have hsz := HKA.out.size
      have hpw : w.heap.size ≤ p := by omega
      have hgw : w.heap.size ≤ g := by omega
      have HRD := Lib.hid hrd
      have HK5 := Lib.hid (HKA.out.trans hk5 (by simp))
      clear hrd hp hg hk5 hsz
      go_wp2_with fail
      go_loopw [8] (fun i wr => ∃ k : Nat, k ≤ ps.length ∧ i = .int .i64 (k : Int) ∧ RdAt wr p g ((ps.drop k).flatMap encPt) false ∧ Keeps [] w wr) (fun i _ => ps.length - (intOf i).toNat)
      case atStart => exact ⟨0, Nat.zero_le _, rfl, by rw [List.drop_zero, ← HL.out]; exact HRD.out, HK5.out⟩
      case round =>
        obtain ⟨k2, hk2, rfl, hrd, hkp⟩ := hrel
        have HRD2 := Lib.hid hrd
        have HKW := Lib.hid hkp
        clear hrd hkp
        by_cases hkt : k2 < ps.length
        · rcases HR.out with h0 | ⟨off, rfl, hcell⟩
          · rw [h0] at hkt; simp at hkt
          · have hc := hcell k2 hkt
            have hfk := HF.out _ (List.getElem_mem hkt)
            have hlk := HLI.out.2 _ (List.getElem_mem hkt)
            have hsk := HSMA.out _ (List.getElem_mem hkt)
            have hdr : (ps.drop k2).flatMap encPt = encPt ps[k2] ++ (ps.drop (k2 + 1)).flatMap encPt := by rw [List.drop_eq_getElem_cons hkt, List.flatMap_cons]
            obtain ⟨⟨what, nn, tt, ss⟩, hpt⟩ : ∃ p, p = ps[k2] := ⟨_, rfl⟩
            rw [← hpt] at hc hfk hlk hdr hsk
            rw [hdr] at HRD2
            obtain ⟨rest, hrest⟩ : ∃ rest, rest = (ps.drop (k2 + 1)).flatMap encPt := ⟨_, rfl⟩
            rw [← hrest] at HRD2
            obtain ⟨h1, h2, Aa, ca, Am, cm, c0, c1, c2, c3, c4, c5, c6, c7, c8, hal, hnm⟩ := hc
            simp only [] at c0 c1 c2 c3 c4 c5 c6 c7 c8 hal hnm
            have hbw : hb < w.heap.size := World.block_lt_of_cell? w _ c0
            have HNB : Hid (hb ∉ [p]) := Lib.hid (by simp; omega)
            obtain ⟨⟨f1, f2, f3⟩, g2, g3, g4, g5⟩ := hfk
            obtain ⟨l1, l2⟩ := hlk
            simp only [] at f1 f2 f3 l1 l2 hsk g2 g3 g4 g5
            have HC0 := Lib.hid (HKW.out.cell_some c0 (by simp))
            have HC1 := Lib.hid (HKW.out.cell_some c1 (by simp))
            have HC2 := Lib.hid (HKW.out.cell_some c2 (by simp))
            have HC3 := Lib.hid (HKW.out.cell_some c3 (by simp))
            have HC4 := Lib.hid (HKW.out.cell_some c4 (by simp))
            have HC5 := Lib.hid (HKW.out.cell_some c5 (by simp))
            have HC6 := Lib.hid (HKW.out.cell_some c6 (by simp))
            have HC7 := Lib.hid (HKW.out.cell_some c7 (by simp))
            have HC8 := Lib.hid (HKW.out.cell_some c8 (by simp))
            have e0 := HC0.out
            have HAL := Lib.hid hal
            have HNM := Lib.hid hnm
            have HNN := Lib.hid f2
            have HTT := Lib.hid (show tt.size ≤ 100 from l1)
            have HSS : Hid (ss.ok ∧ ss.light ∧ ∀ a ∈ ss.alarms, M.Al.small a) := Lib.hid ⟨f3, l2, hsk⟩
            have HRE := Lib.hid hrest
            have hll : (encPt ⟨what, nn, tt, ss⟩ ++ rest).length ≤ 1000000000 := by
              rw [hrest, ← hdr]
              have h9 := flat_pts_len (ps.drop k2) (fun m hm => ⟨(HF.out m (List.mem_of_mem_drop hm)).1, HLI.out.2 m (List.mem_of_mem_drop hm)⟩)
              simp only [List.length_drop] at h9
              omega
            have HLL := Lib.hid hll
            clear hcell hpt c0 c1 c2 c3 c4 c5 c6 c7 c8 hal hnm f2 f3 l2 hsk g2 g3 g4 g5 hrest hdr hll l1
            rcases (show what % 5 = 0 ∨ what % 5 = 1 ∨ what % 5 = 2 ∨ what % 5 = 3 ∨ what % 5 = 4 by omega) with hm | hm | hm | hm | hm
            · have HEP := Lib.hid (show encPt ⟨what, nn, tt, ss⟩ = M.enc nn by unfold encPt; rw [if_pos hm])
              have b0 : ((what : Int) % 5 == 0) = true := by rw [beq_iff_eq]; omega
              clear hm
              rw [HEP.out] at HRD2 HLL
              go_wp2_with fail
              refine Reg.wp_region_state (A := ?Aa) (RC wr p g (M.enc nn ++ rest) rest) (GR p)
                [Is (.pointer (some ⟨p, 0, none⟩)), Is (.int .u64 (nn : Int)), Is (.slice (some ⟨hb, off, none⟩) ps.length cap), Is (.int .i64 (k2 : Int)), Is (.pointer (some ⟨hb, off + k2 * 9, none⟩)), Is (.pointer (some ⟨hb, off + k2 * 9 + 1, none⟩)), Is (.int .u64 (nn : Int)), Is (.bool true), Is (.bool true)]
                (by kernel_rfl) (by kernel_rfl) rfl ?hAa ?hCa ?hoa ?hlasta ?henda
              case hAa => intro vs; simp only [Reg.fill, if_true, Nat.zero_add, Nat.reduceAdd, Act.put, List.setIfInBounds_toArray, List.set_cons_succ, List.set_cons_zero]; exact rfl
              case hCa => exact RC.start (n := 9) HRD2.out (by decide)
              case hlasta => repeat (first | exact trivial | refine ⟨Is.lastR, ?_⟩ | refine ⟨SmF.last, ?_⟩)
              case hoa =>
                repeat' apply And.intro
                all_goals
                  first
                    | exact trivial
                    | (intro Ls vs w' hC hL hd K hK
                       try simp only [Reg.Deps, Reg.at_, List.getD_cons_zero, List.getD_cons_succ, Region.binds, true_implies, Is, and_true] at hd
                       have k1 := hC.1.cell_some HC1.out HNB.out
                       go_simp
                       first
                         | exact hK _ _ (hC.lay (by decide) (Keeps.refl _ _)) (GR.same _ _) rfl
                         | skip)
                · refine (Num_gave w' p g (M.enc nn ++ rest) rest _ (hC.2.1 hL) (fun w1 h => num_ok h (M.dec_back HNN.out rest))).mono ?_
                  rintro e w'' ⟨rfl, q1, q2⟩
                  exact ⟨_, rfl, hK _ _ (hC.call q1 q2) q2 rfl⟩
              case henda =>
                intro vs w4 hC hall
                simp only [Reg.All, Is, and_true, Nat.zero_add, Nat.reduceAdd] at hall
                have hv : vs 8 = Value.bool true := by simp only [hall]
                have HK4 := Lib.hid (HKW.out.trans hC.1 (fun x hx hl => by simp at hx; omega))
                have HR4 := Lib.hid (hC.2.2 rfl)
                clear hC hall
                rw [hv]
                clear hv
                go_wp2_with fail
                go_roundw
                case rel => exact ⟨k2 + 1, by omega, by go_num, by rw [← HRE.out]; exact HR4.out, HK4.out⟩
                case measure => simp [intOf]; omega
            · have HEP := Lib.hid (show encPt ⟨what, nn, tt, ss⟩ = encInt (i64of nn) by unfold encPt; rw [if_neg (by simp only []; omega)]; rw [if_pos hm])
              have b0 : ((what : Int) % 5 == 0) = false := by rw [beq_eq_false_iff_ne]; omega
              have b1 : ((what : Int) % 5 == 1) = true := by rw [beq_iff_eq]; omega
              clear hm
              have hwi : IntKind.i64.wrap (nn : Int) = i64of nn := by rw [IntKind.wrap_i64]; unfold i64of; have := HNN.out; split <;> omega
              rw [HEP.out] at HRD2 HLL
              go_wp2_with fail
              refine Reg.wp_region_state (A := ?Ab) (RC wr p g (encInt (i64of nn) ++ rest) rest) (GR p)
                [Is (.pointer (some ⟨p, 0, none⟩)), Is (.int .i64 (i64of nn)), Is (.slice (some ⟨hb, off, none⟩) ps.length cap), Is (.int .i64 (k2 : Int)), Is (.pointer (some ⟨hb, off + k2 * 9, none⟩)), Is (.pointer (some ⟨hb, off + k2 * 9 + 1, none⟩)), Is (.int .u64 (nn : Int)), Is (.int .i64 (i64of nn)), Is (.bool true), Is (.bool true)]
                (by kernel_rfl) (by kernel_rfl) rfl ?hAb ?hCb ?hob ?hlastb ?hendb
              case hAb => intro vs; simp only [Reg.fill, if_true, Nat.zero_add, Nat.reduceAdd, Act.put, List.setIfInBounds_toArray, List.set_cons_succ, List.set_cons_zero]; exact rfl
              case hCb => exact RC.start (n := 10) HRD2.out (by decide)
              case hlastb => repeat (first | exact trivial | refine ⟨Is.lastR, ?_⟩ | refine ⟨SmF.last, ?_⟩)
              case hob =>
                repeat' apply And.intro
                all_goals
                  first
                    | exact trivial
                    | (intro Ls vs w' hC hL hd K hK
                       try simp only [Reg.Deps, Reg.at_, List.getD_cons_zero, List.getD_cons_succ, Region.binds, true_implies, Is, and_true] at hd
                       have k1 := hC.1.cell_some HC1.out HNB.out
                       go_simp
                       first
                         | exact hK _ _ (hC.lay (by decide) (Keeps.refl _ _)) (GR.same _ _) rfl
                         | skip)
                · refine (Int_gave w' p g (encInt (i64of nn) ++ rest) rest (.int .i64 (i64of nn)) (hC.2.1 hL) (fun w1 h => Out.took (int_out w1 p g false _ h) (M.decInt_back (i64of_wide HNN.out) rest))).mono ?_
                  rintro e w'' ⟨rfl, q1, q2⟩
                  exact ⟨_, rfl, hK _ _ (hC.call q1 q2) q2 rfl⟩
              case hendb =>
                intro vs w4 hC hall
                simp only [Reg.All, Is, and_true, Nat.zero_add, Nat.reduceAdd] at hall
                have hv : vs 9 = Value.bool true := by simp only [hall]
                have HK4 := Lib.hid (HKW.out.trans hC.1 (fun x hx hl => by simp at hx; omega))
                have HR4 := Lib.hid (hC.2.2 rfl)
                clear hC hall
                rw [hv]
                clear hv
                go_wp2_with fail
                go_roundw
                case rel => exact ⟨k2 + 1, by omega, by go_num, by rw [← HRE.out]; exact HR4.out, HK4.out⟩
                case measure => simp [intOf]; omega
            · have HEP := Lib.hid (show encPt ⟨what, nn, tt, ss⟩ = encT tt by unfold encPt; rw [if_neg (by simp only []; omega)]; rw [if_neg (by simp only []; omega)]; rw [if_pos hm])
              have b0 : ((what : Int) % 5 == 0) = false := by rw [beq_eq_false_iff_ne]; omega
              have b1 : ((what : Int) % 5 == 1) = false := by rw [beq_eq_false_iff_ne]; omega
              have b2 : ((what : Int) % 5 == 2) = true := by rw [beq_iff_eq]; omega
              clear hm
              have HT64 := Lib.hid (show tt.size < 18446744073709551616 by have := HTT.out; omega)
              rw [HEP.out] at HRD2 HLL
              go_wp2_with fail
              refine Reg.wp_region_state (A := ?Ac) (RC wr p g (encT tt ++ rest) rest) (GR p)
                [Is (.pointer (some ⟨p, 0, none⟩)), Is (.string tt), Is (.slice (some ⟨hb, off, none⟩) ps.length cap), Is (.int .i64 (k2 : Int)), Is (.pointer (some ⟨hb, off + k2 * 9, none⟩)), Is (.pointer (some ⟨hb, off + k2 * 9 + 2, none⟩)), Is (.string tt), Is (.bool true), Is (.bool true)]
                (by kernel_rfl) (by kernel_rfl) rfl ?hAc ?hCc ?hoc ?hlastc ?hendc
              case hAc => intro vs; simp only [Reg.fill, if_true, Nat.zero_add, Nat.reduceAdd, Act.put, List.setIfInBounds_toArray, List.set_cons_succ, List.set_cons_zero]; exact rfl
              case hCc => exact RC.start (n := 9) HRD2.out (by decide)
              case hlastc => repeat (first | exact trivial | refine ⟨Is.lastR, ?_⟩ | refine ⟨SmF.last, ?_⟩)
              case hoc =>
                repeat' apply And.intro
                all_goals
                  first
                    | exact trivial
                    | (intro Ls vs w' hC hL hd K hK
                       try simp only [Reg.Deps, Reg.at_, List.getD_cons_zero, List.getD_cons_succ, Region.binds, true_implies, Is, and_true] at hd
                       have k2 := hC.1.cell_some HC2.out HNB.out
                       go_simp
                       first
                         | exact hK _ _ (hC.lay (by decide) (Keeps.refl _ _)) (GR.same _ _) rfl
                         | skip)
                · refine (Text_gave w' p g (encT tt ++ rest) rest (.string tt) (hC.2.1 hL) (fun w1 h => Out.took (str_out w1 p g false _ h) (M.decStr_back HT64.out rest))).mono ?_
                  rintro e w'' ⟨rfl, q1, q2⟩
                  exact ⟨_, rfl, hK _ _ (hC.call q1 q2) q2 rfl⟩
              case hendc =>
                intro vs w4 hC hall
                simp only [Reg.All, Is, and_true, Nat.zero_add, Nat.reduceAdd] at hall
                have hv : vs 8 = Value.bool true := by simp only [hall]
                have HK4 := Lib.hid (HKW.out.trans hC.1 (fun x hx hl => by simp at hx; omega))
                have HR4 := Lib.hid (hC.2.2 rfl)
                clear hC hall
                rw [hv]
                clear hv
                go_wp2_with fail
                go_roundw
                case rel => exact ⟨k2 + 1, by omega, by go_num, by rw [← HRE.out]; exact HR4.out, HK4.out⟩
                case measure => simp [intOf]; omega
            · have HEP := Lib.hid (show encPt ⟨what, nn, tt, ss⟩ = M.encBool (odd nn) by unfold encPt; rw [if_neg (by simp only []; omega)]; rw [if_neg (by simp only []; omega)]; rw [if_neg (by simp only []; omega)]; rw [if_pos hm])
              have b0 : ((what : Int) % 5 == 0) = false := by rw [beq_eq_false_iff_ne]; omega
              have b1 : ((what : Int) % 5 == 1) = false := by rw [beq_eq_false_iff_ne]; omega
              have b2 : ((what : Int) % 5 == 2) = false := by rw [beq_eq_false_iff_ne]; omega
              have b3 : ((what : Int) % 5 == 3) = true := by rw [beq_iff_eq]; omega
              clear hm
              have hod := odd_eq nn
              rw [HEP.out] at HRD2 HLL
              go_wp2_with fail
              refine Reg.wp_region_state (A := ?Ad) (RC wr p g (M.encBool (odd nn) ++ rest) rest) (GR p)
                [Is (.pointer (some ⟨p, 0, none⟩)), Is (.bool (odd nn)), Is (.slice (some ⟨hb, off, none⟩) ps.length cap), Is (.int .i64 (k2 : Int)), Is (.pointer (some ⟨hb, off + k2 * 9, none⟩)), Is (.pointer (some ⟨hb, off + k2 * 9 + 1, none⟩)), Is (.int .u64 (nn : Int)), Is (.int .u64 ((nn : Int) % 2)), Is (.bool (odd nn)), Is (.bool true), Is (.bool true)]
                (by kernel_rfl) (by kernel_rfl) rfl ?hAd ?hCd ?hod ?hlastd ?hendd
              case hAd => intro vs; simp only [Reg.fill, if_true, Nat.zero_add, Nat.reduceAdd, Act.put, List.setIfInBounds_toArray, List.set_cons_succ, List.set_cons_zero]; exact rfl
              case hCd => exact RC.start (n := 11) HRD2.out (by decide)
              case hlastd => repeat (first | exact trivial | refine ⟨Is.lastR, ?_⟩ | refine ⟨SmF.last, ?_⟩)
              case hod =>
                repeat' apply And.intro
                all_goals
                  first
                    | exact trivial
                    | (intro Ls vs w' hC hL hd K hK
                       try simp only [Reg.Deps, Reg.at_, List.getD_cons_zero, List.getD_cons_succ, Region.binds, true_implies, Is, and_true] at hd
                       have k1 := hC.1.cell_some HC1.out HNB.out
                       go_simp
                       first
                         | exact hK _ _ (hC.lay (by decide) (Keeps.refl _ _)) (GR.same _ _) rfl
                         | skip)
                · refine (Bool_gave w' p g (M.encBool (odd nn) ++ rest) rest (.bool (odd nn)) (hC.2.1 hL) (fun w1 h => Out.took (flag_out w1 p g false _ h) (M.decBool_back (odd nn) rest))).mono ?_
                  rintro e w'' ⟨rfl, q1, q2⟩
                  exact ⟨_, rfl, hK _ _ (hC.call q1 q2) q2 rfl⟩
              case hendd =>
                intro vs w4 hC hall
                simp only [Reg.All, Is, and_true, Nat.zero_add, Nat.reduceAdd] at hall
                have hv : vs 10 = Value.bool true := by simp only [hall]
                have HK4 := Lib.hid (HKW.out.trans hC.1 (fun x hx hl => by simp at hx; omega))
                have HR4 := Lib.hid (hC.2.2 rfl)
                clear hC hall
                rw [hv]
                clear hv
                go_wp2_with fail
                go_roundw
                case rel => exact ⟨k2 + 1, by omega, by go_num, by rw [← HRE.out]; exact HR4.out, HK4.out⟩
                case measure => simp [intOf]; omega
            · have HEP := Lib.hid (show encPt ⟨what, nn, tt, ss⟩ = encSm ss by unfold encPt; rw [if_neg (by simp only []; omega)]; rw [if_neg (by simp only []; omega)]; rw [if_neg (by simp only []; omega)]; rw [if_neg (by simp only []; omega)])
              have b0 : ((what : Int) % 5 == 0) = false := by rw [beq_eq_false_iff_ne]; omega
              have b1 : ((what : Int) % 5 == 1) = false := by rw [beq_eq_false_iff_ne]; omega
              have b2 : ((what : Int) % 5 == 2) = false := by rw [beq_eq_false_iff_ne]; omega
              have b3 : ((what : Int) % 5 == 3) = false := by rw [beq_eq_false_iff_ne]; omega
              clear hm
              have HDS := Lib.hid (M.decSm_back HSS.out.1 HSS.out.2.2 (fun m hm => by have := HSS.out.2.1.2.2 m hm; omega) (by have := HSS.out.2.1.1; omega) (by have := HSS.out.2.1.2.1; omega) rest)
              rw [HEP.out] at HRD2 HLL
              go_wp2_with fail
              refine Reg.wp_region_state (A := ?Ae) (RC wr p g (encSm ss ++ rest) rest) (GR p)
                [Is (.pointer (some ⟨p, 0, none⟩)), SmF p (M.Sm.plain ss), Is (.slice (some ⟨hb, off, none⟩) ps.length cap), Is (.int .i64 (k2 : Int)), Is (.pointer (some ⟨hb, off + k2 * 9, none⟩)), Is (.pointer (some ⟨hb, off + k2 * 9 + 3, none⟩)), Is (.agg #[.slice Aa ss.alarms.length ca, .bool ss.ends, .bool ss.ret.some, .int .i64 ss.ret.lo, .int .i64 ss.ret.hi, .slice Am ss.mod.length cm]), SmF p (M.Sm.plain ss), Is (.bool true), Is (.bool true)]
                (by kernel_rfl) (by kernel_rfl) rfl ?hAe ?hCe ?hoe ?hlaste ?hende
              case hAe => intro vs; simp only [Reg.fill, if_true, Nat.zero_add, Nat.reduceAdd, Act.put, List.setIfInBounds_toArray, List.set_cons_succ, List.set_cons_zero]; exact rfl
              case hCe => exact RC.start (n := 10) HRD2.out (by decide)
              case hlaste => repeat (first | exact trivial | refine ⟨Is.lastR, ?_⟩ | refine ⟨SmF.last, ?_⟩)
              case hoe =>
                repeat' apply And.intro
                all_goals
                  first
                    | exact trivial
                    | (intro Ls vs w' hC hL hd K hK
                       try simp only [Reg.Deps, Reg.at_, List.getD_cons_zero, List.getD_cons_succ, Region.binds, true_implies, Is, and_true] at hd
                       have k3 := hC.1.cell_some HC3.out HNB.out
                       have k4 := hC.1.cell_some HC4.out HNB.out
                       have k5 := hC.1.cell_some HC5.out HNB.out
                       have k6 := hC.1.cell_some HC6.out HNB.out
                       have k7 := hC.1.cell_some HC7.out HNB.out
                       have k8 := hC.1.cell_some HC8.out HNB.out
                       go_simp
                       first
                         | exact hK _ _ (hC.lay (by decide) (Keeps.refl _ _)) (GR.same _ _) rfl
                         | skip)
                · have hlt9 := (hC.2.1 hL).lt
                  refine (Summary_gave w' p g (encSm ss ++ rest) rest (M.Sm.plain ss) (hC.2.1 hL) HDS.out HLL.out).mono ?_
                  rintro e w'' ⟨v, rfl, ⟨g1, g2, Ax, cx, Ay, cy, hv, al, nl, b1, b2⟩, q1, q2⟩
                  exact ⟨_, rfl, hK _ _ (hC.call q1 q2) q2 ⟨g1, g2, Ax, cx, Ay, cy, hv, al, nl, by omega, by omega⟩⟩
                · have hkw' : Keeps [] w w' := HKW.out.trans hC.1 (fun x hx hl => by simp at hx; omega)
                  obtain ⟨ha1, q1, q2⟩ := HAL.out.pick hkw' (S := [p]) (fun x hx => by simp at hx; omega)
                  have hpl : p < w'.heap.size := by
                    cases hL1 : Ls 1 with
                    | true => exact (hC.2.2 hL1).lt
                    | false => exact (hC.2.1 hL1).lt
                  refine (plain_any w' h2 Aa Am ca cm ss (HNM.out.keep hkw' (by simp)) (by have := HSS.out.2.1.2.1; omega)).mono ?_
                  rintro e w'' ⟨g2, An, cn, rfl, nl, b2, hk⟩
                  refine ⟨_, rfl, hK _ _ (hC.lay (by decide) hk) (GR.of hk) ⟨ha1, g2, Aa, ca, An, cn, ?_, q1.keep hk (by simp), nl, by simpa using q2, by omega⟩⟩
                  simp [M.Sm.plain]
                · obtain ⟨hd1, hd2⟩ := hd
                  refine (summary_same w' _ _ (M.Sm.plain ss) (SmF.at hd1) (SmF.at hd2.1) (by have := HSS.out.2.1.1; simp [M.Sm.plain]; omega) (by have := HSS.out.2.1.2.1; simp [M.Sm.plain]; omega)).mono ?_
                  rintro e w'' ⟨rfl, hk⟩
                  exact ⟨_, rfl, hK _ _ (hC.lay (by decide) hk) (GR.of hk) rfl⟩
              case hende =>
                intro vs w4 hC hall
                simp only [Reg.All, Is, and_true, Nat.zero_add, Nat.reduceAdd] at hall
                have hv : vs 9 = Value.bool true := by simp only [hall]
                have HK4 := Lib.hid (HKW.out.trans hC.1 (fun x hx hl => by simp at hx; omega))
                have HR4 := Lib.hid (hC.2.2 rfl)
                clear hC hall
                rw [hv]
                clear hv
                go_wp2_with fail
                go_roundw
                case rel => exact ⟨k2 + 1, by omega, by go_num, by rw [← HRE.out]; exact HR4.out, HK4.out⟩
                case measure => simp [intOf]; omega
        · have HRZ := Lib.hid (show RdAt wr p g [] false by
            have := HRD2.out
            rwa [List.drop_of_length_le (by omega), List.flatMap_nil] at this)
          clear HRD2
          go_wp2_with fail
          refine (done_any wr p g [] false HRZ.out).mono ?_
          rintro e w6 ⟨rfl, rfl⟩
          go_wp2_with fail
          go_ret
          exact ⟨rfl, HKW.out.below (by simp) (Nat.le_refl _)⟩
end Go.Proofs.Ytpjnckdekoooeaa.codeBack
