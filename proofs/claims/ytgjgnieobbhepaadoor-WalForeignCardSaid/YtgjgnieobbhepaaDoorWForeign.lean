/- WalForeign. -/
import Derived.Test.YtgjgnieobbhepaaDoorWForA
import Derived.Test.YtgjgnieobbhepaaDoorDNew
namespace Go.Proofs.YtgjgnieobbhepaaDoor
open Go.RowKit
open Reg (Is Fact CB)

attribute [local go_sem] Reg.lateFr Reg.wantedV Reg.gives_value Reg.gives_skip Reg.gives_enter
theorem cap60 : L.cap 60 = 28 := by decide
theorem lit_write {d : Dk} (h : Lit_ d) (i : Int) (b : List UInt8) : Lit_ (d.write i b) ∧ (d.write i b).dur.length = d.dur.length ∧ (d.write i b).size = d.size := by
  have e : d.drawn = d := by unfold Dk.drawn; rw [h.1, h.2]; rfl
  unfold Dk.write
  repeat' split
  all_goals first | exact ⟨h, rfl, rfl⟩ | (rw [e]; exact ⟨h, rfl, rfl⟩)
theorem lit_flush {d : Dk} (h : Lit_ d) (ok : d.Ok) : Lit_ d.flush ∧ d.flush.dur.length = d.dur.length ∧ d.flush.size = d.size := by
  obtain ⟨_, _, h1, h2, _, h3, h4, _⟩ := L.flush_flat ok h.power
  exact ⟨⟨h4, by rw [h3]; exact h.2⟩, h2, h1⟩
/-- Numbers of two bytes in memory. -/
def U16In (w : World) (A : Option Addr) (l : List Nat) : Prop := l = [] ∨ ∃ b off, A = some ⟨b, off, none⟩ ∧ ∀ k (h : k < l.length), w.cell? ⟨b, off + k, none⟩ = some (.int .u16 ((l[k] : Nat) : Int))
theorem U16In.keep0 {w w' : World} {A : Option Addr} {l : List Nat} (h : U16In w A l) (hk : Keeps [] w w') : U16In w' A l := by
  rcases h with h | ⟨b, off, hA, hc⟩
  · exact .inl h
  · exact .inr ⟨b, off, hA, fun k hk' => hk.cell_some (hc k hk') (by simp)⟩
set_option maxRecDepth 100000 in
set_option maxHeartbeats 2000000 in
theorem foreign_any (w : World) (ht : TabAt w) (hw : 0 < w.heap.size) (cap1 gx cap2 gl cap3 : Nat) (A1 A2 A3 : Option Addr) (ats : List Nat) (xs lens : List UInt8) (hr1 : U16In w A1 ats) (h16 : ∀ n ∈ ats, n < 65536) (hr2 : BytesIn w gx A2 xs) (hr3 : BytesIn w gl A3 lens) :
    Calls Tryd.prog 6 #[.slice A1 ats.length cap1, .slice A2 xs.length cap2, .slice A3 lens.length cap3] w fun e w' => e = .returned (.bool true) ∧ Keeps [] w w' := by
  have HT := Lib.hid ht
  have HR1 := Lib.hid hr1
  have HR2 := Lib.hid hr2
  have HR3 := Lib.hid hr3
  have H16 := Lib.hid h16
  have HKN := Lib.hid (known_any w ht hw)
  clear ht hr1 hr2 hr3 h16
  by_cases hl : ats.length ≤ 30
  · have e1 : decide ((30 : Int) < (ats.length : Int)) = false := by simp; omega
    by_cases hp : xs.length < ats.length
    · have e2 : decide ((xs.length : Int) < (ats.length : Int)) = true := by simp; omega
      go_enter Tryd.func6, Tryd.ntmps6
      go_wp2_with fail
      refine HKN.out.mono ?_
      rintro e w1 ⟨rfl, hk1⟩
      go_wp2_with fail
      go_ret
      exact ⟨rfl, hk1⟩
    · have e2 : decide ((xs.length : Int) < (ats.length : Int)) = false := by simp; omega
      by_cases hq : lens.length ≤ 6
      · have e3 : decide ((6 : Int) < (lens.length : Int)) = false := by simp; omega
        go_enter Tryd.func6, Tryd.ntmps6
        go_wp2_with fail
        refine HKN.out.mono ?_
        rintro e w1 ⟨rfl, hk1⟩
        have HK1 := Lib.hid hk1
        have HN1 := Lib.hid (newD_any w1 60 256 (by omega) (by omega))
        clear hk1
        go_wp2_with fail
        refine HN1.out.mono ?_
        intro e w2 hnew
        obtain ⟨h, B, rfl, ho⟩ := run_new HK1.out HT.out hw hnew (by omega) (by omega)
        have HO := Lib.hid ho
        clear hnew ho
        go_wp2_with fail
        refine HO.out.mono ?_
        rintro e w3 ⟨lp, A4, c4, d3, rfl, hd3, hs3, hrun⟩
        have HB := Lib.hid (batch_any w3 gl cap3 3 A3 lens (HR3.out.keep hrun.keeps (by simp)) (by omega) (by omega))
        have HRU3 := Lib.hid hrun
        have HD3 := Lib.hid hd3
        have HS3 := Lib.hid hs3
        clear hrun hd3 hs3
        go_wp2_with fail
        refine HB.out.mono ?_
        rintro e w4 ⟨v4, rs, rfl, hrl, hrs, hro, hk4⟩
        obtain ⟨A5, c5, rfl, hrow⟩ := hro.fits
        have hbody := body_small hrs
        have HRU4 := Lib.hid (HRU3.out.step hk4)
        have HC4 := Lib.hid (commit_go c5 HRU4.out.live HRU4.out.lit HRU4.out.tab hrow (by omega) (by simp))
        have HF4 := Lib.hid (show fitErr (L.cap d3.dur.length - 0) d3.size rs = 0 by rw [HD3.out, HS3.out, cap60]; exact fit_small (k := 6) (by omega) hrs (by omega) (by decide))
        clear hrs hro hk4 hrow hbody hrl
        go_wp2_with fail
        refine HC4.out.mono ?_
        intro e w5 hc
        obtain ⟨B5, d5, rfl, hk5, hd5, hs5, hrun⟩ := HRU4.out.cyes hc HF4.out
        have HDK := Lib.hid hrun.live.disk
        have HLI := Lib.hid hrun.lit
        have HKW := Lib.hid hrun.keeps
        have HNW := Lib.hid hrun.new.2
        have HZ := Lib.hid hrun.zero
        have HD5 := Lib.hid (hd5.trans HD3.out)
        have HS5 := Lib.hid (hs5.trans HS3.out)
        clear hc hk5 hd5 hs5 hrun
        go_wp2_with fail
        go_loopw [11] (fun iv wr => ∃ (i : Nat) (B : Nat → Prop) (d : Dk), i ≤ ats.length ∧ iv = .int .i64 (i : Int) ∧ DskAt wr h B d ∧ Lit_ d ∧ d.dur.length = 60 ∧ d.size = 256 ∧ Keeps [] w wr) (fun iv _ => ats.length - (RowKit.intOf iv).toNat)
        case atStart => exact ⟨0, B5, d5, by omega, rfl, HDK.out, HLI.out, HD5.out, HS5.out, HKW.out⟩
        case round =>
          obtain ⟨i, B', d, hi, rfl, hx, hli, hd, hs, hkw⟩ := hrel
          have HX := Lib.hid hx
          have HL := Lib.hid hli
          have HDD := Lib.hid hd
          have HSS := Lib.hid hs
          have HK := Lib.hid hkw
          clear hx hli hd hs hkw
          by_cases hin : i < ats.length
          · rcases HR1.out.keep0 HK.out with h0 | ⟨b1, o1, rfl, hc1⟩
            · rw [h0] at hin; simp at hin
            · have hxi : i < xs.length := by omega
              have hck := hc1 i hin
              obtain ⟨k, hkk⟩ : ∃ k, k = ats[i] := ⟨_, rfl⟩
              have hk16 : k < 65536 := by rw [hkk]; exact H16.out _ (List.getElem_mem hin)
              rw [← hkk] at hck
              have HPL := Lib.hid (fun w' => place_any w' k 15360 (by omega) (by omega))
              obtain ⟨p, hp9⟩ : ∃ p, p = k % 15360 := ⟨_, rfl⟩
              have hp15 : p < 15360 := by omega
              rw [← hp9] at HPL
              clear hc1 hkk hp9
              go_wp2_with fail
              refine (HPL.out _).mono ?_
              rintro e w6 ⟨rfl, hk6⟩
              have HX6 := Lib.hid (HX.out.keep0 hk6)
              have HK6 := Lib.hid (HK.out.trans hk6 (by simp))
              obtain ⟨s, hs9⟩ : ∃ s, s = p / 256 := ⟨_, rfl⟩
              obtain ⟨q, hq9⟩ : ∃ q, q = p % 256 := ⟨_, rfl⟩
              have hs60 : s < 60 := by omega
              have hq256 : q < 256 := by omega
              have ed : (p : Int) / 256 = (s : Int) := by omega
              have em : (p : Int) % 256 = (q : Int) := by omega
              have HRD := Lib.hid (read_row w6 h B' d HX6.out HL.out.1 s (by rw [HDD.out]; exact hs60))
              rw [HSS.out] at HRD
              clear hk6 hs9 hq9
              go_wp2_with fail
              refine HRD.out.mono ?_
              rintro e w7 ⟨gb, cb, b, rfl, hbl, hrow, hgb, hcb, hk7⟩
              have HROW := Lib.hid hrow
              have HBL := Lib.hid hbl
              have HX7 := Lib.hid (HX6.out.keep0 hk7)
              have HK7 := Lib.hid (HK6.out.trans hk7 (by simp))
              have HGB := Lib.hid (show ∀ y ∈ h.l, gb ≠ y from fun y hy e => by
                have := HX6.out.lt
                simp [DH.l] at hy
                omega)
              have HGW := Lib.hid (show ∀ y, B' y → gb ≠ y from fun y hy e => by have := HX6.out.low y hy; omega)
              have HG0 := Lib.hid (show w.heap.size ≤ gb by have := HK6.out.size; omega)
              clear hrow hbl hk7
              go_wp2_with fail
              have hx2 := HR2.out.keep HK7.out (by simp)
              rcases hx2 with h0 | ⟨ox, rfl, hxc⟩
              · subst h0; simp at hxi
              · have qx := hxc i hxi
                have qb := HROW.out.cell (k := q) (by have := HBL.out; omega)
                obtain ⟨x0, hx0⟩ : ∃ x0, x0 = (xs[i]).toNat := ⟨_, rfl⟩
                obtain ⟨b0, hb0⟩ : ∃ b0, b0 = (b[q]'(by have := HBL.out; omega)).toNat := ⟨_, rfl⟩
                rw [← hx0] at qx
                rw [← hb0] at qb
                have QX := Lib.hid qx
                have QB := Lib.hid qb
                have em' : (p : Int).tmod 256 = (q : Int) := by rw [← em]; rfl
                have hqi : (q : Int) < 256 := by omega
                clear hxc hx0 hb0 qx qb
                refine Reg.wp_region_last 11 [0, 1, 2, 3, 4, 5, 6, 7, 8, 9, 10] (fun w' => Keeps [] w7 w') (fun w' => ∃ b' : List UInt8, b'.length = 256 ∧ RowS w' gb b' ∧ Keeps [gb] w7 w') (fun _ _ => True) (A := ?A9)
                  [Is (.slice (some ⟨gb, 0, none⟩) 256 cb), Is (.int .i64 (p : Int)), Is (.int .i64 (q : Int)), Is (.pointer (some ⟨gb, q, none⟩)), Is (.int .u8 (b0 : Int)),
                   Is (.slice (some ⟨gx, ox, none⟩) xs.length cap2), Is (.int .i64 (i : Int)), Is (.pointer (some ⟨gx, ox + i, none⟩)), Is (.int .u8 (x0 : Int)), Is (.int .u8 (bits .xor .u8 (b0 : Int) (x0 : Int))), Is (.pointer (some ⟨gb, q, none⟩)), AnyF]
                  (by kernel_rfl) (by kernel_rfl) (by kernel_rfl) rfl ?hA9 ?hC9 ?ho9 ?hlast9 ?hend9
                case hA9 => intro vs; simp only [Reg.fill, if_true, Nat.zero_add, Nat.reduceAdd, Act.put, List.setIfInBounds_toArray, List.set_cons_succ, List.set_cons_zero]; exact rfl
                case hC9 => exact (Keeps.refl _ _).drew
                case hlast9 => repeat (first | exact trivial | refine ⟨Is.lastU, ?_⟩ | refine ⟨fun _ _ _ _ _ => trivial, ?_⟩)
                case ho9 =>
                  repeat' apply And.intro
                  all_goals
                    first
                      | exact trivial
                      | (intro bb vs2 w' hC hb hd K hK
                         have hbb : bb = false := by apply hb; decide
                         subst hbb
                         have hC0 := hC.1 rfl
                         try simp only [Reg.Deps, Reg.at_, List.getD_cons_zero, List.getD_cons_succ, Region.binds, true_implies, Is, and_true] at hd
                         have q1 := hC0.cell_some QX.out (by simp)
                         have q2 := hC0.cell_some QB.out (by simp)
                         have f2 := (HROW.out.keep hC0 (by simp)).free q
                         go_simp
                         first
                           | exact hK _ _ (CB.pre hC0 rfl) trivial rfl
                           | skip)
                  exact hK _ _ (CB.post (by
                    obtain ⟨b', hbl', hrow'⟩ := (HROW.out.keep hC0 (by simp)).put q (bits .xor .u8 (b0 : Int) (x0 : Int)) (bits_within .xor .u8 _ _).1 (Int.lt_of_le_of_lt (bits_within .xor .u8 _ _).2 (by decide))
                    exact ⟨b', hbl'.trans HBL.out, hrow', (hC0.mono (T := [gb]) (by simp)).setCell (by simp) _⟩)) trivial trivial
                case hend9 =>
                  intro vs2 w8 hC hall
                  obtain ⟨b8, hb8, hrow8, hk8⟩ := hC
                  have hsz8 := hk8.size
                  have HX8 := Lib.hid (HX7.out.keep hk8 (fun y hy => by
                    have hy' : y = gb := by simpa using hy
                    subst hy'
                    exact ⟨fun hm => HGB.out _ hm rfl, fun hb => HGW.out _ hb rfl⟩))
                  have HK8 := Lib.hid (((HK7.out.mono (T := [gb]) (by simp)).trans hk8 (fun _ hi _ => hi)).mono (T := []) (fun y hy hlt => by
                    have hy' : y = gb := by simpa using hy
                    have := HG0.out; omega))
                  have HWR := Lib.hid (write_any w8 h B' d HX8.out (s : Int) (some ⟨gb, 0, none⟩) gb cb b8 hrow8.bytes (by omega))
                  rw [hb8] at HWR
                  have ei : IntKind.i64.wrap ((i : Int) + 1) = (i : Int) + 1 := IntWalk.i64_in _ ⟨by omega, by omega⟩
                  clear hall hrow8 hk8 hb8 hsz8 em' hqi
                  go_wp2_with fail
                  refine HWR.out.mono ?_
                  rintro e w9 ⟨rfl, hk9, B9, hx9, _, _⟩
                  obtain ⟨l1, l2, l3⟩ := lit_write HL.out (s : Int) b8
                  have HX9 := Lib.hid hx9
                  have HL9 := Lib.hid l1
                  have HD9 := Lib.hid (l2.trans HDD.out)
                  have HS9 := Lib.hid (l3.trans HSS.out)
                  have HK9 := Lib.hid (((HK8.out.mono (T := h.l) (by simp)).trans hk9 (fun _ hi _ => hi)).mono (T := []) (fun y hy hlt => by have := HNW.out y hy; omega))
                  clear hk9 hx9 l1 l2 l3
                  go_wp2_with fail
                  go_roundw
                  case rel => exact ⟨i + 1, B9, _, by omega, by push_cast; rfl, HX9.out, HL9.out, HD9.out, HS9.out, HK9.out⟩
                  case measure => simp [RowKit.intOf]; omega
          · go_wp2_with fail
            refine (flush_any wr h B' d HX.out).mono ?_
            rintro e w10 ⟨rfl, hx10, hk10⟩
            obtain ⟨l1, l2, l3⟩ := lit_flush HL.out HX.out.ok
            have HK10 := Lib.hid (((HK.out.mono (T := h.l) (by simp)).trans hk10 (fun _ hi _ => hi)).mono (T := []) (fun y hy hlt => by have := HNW.out y hy; omega))
            obtain ⟨a, u, rs9, hld⟩ := L.Loads.all (N := d.flush.dur.length) (s := d.flush.size) (v := d.flush.last) (by rw [l2, HDD.out]; omega) (by rw [l3, HSS.out]; omega) (L.siz_last hx10.ok)
            have HO := Lib.hid (open_go hx10 (HT.out.keep HK10.out (by simp)) HZ.out l1.power (by rw [l2, HDD.out]; omega) (by rw [l3, HSS.out]; omega) hld)
            clear hx10 hk10 l1 l2 l3 hld
            go_wp2_with fail
            refine HO.out.mono ?_
            rintro e w11 ⟨lp9, v9, d9, rfl, _, _, _, _, hro9, _, hk11⟩
            obtain ⟨A9, c9, rfl, _⟩ := hro9.fits
            have HK11 := Lib.hid (((HK10.out.mono (T := h.l) (by simp)).trans hk11 (fun _ hi _ => hi)).mono (T := []) (fun y hy hlt => by have := HNW.out y hy; omega))
            clear hro9 hk11
            go_wp2_with fail
            go_ret
            exact ⟨rfl, HK11.out⟩
      · have e3 : decide ((6 : Int) < (lens.length : Int)) = true := by simp; omega
        go_enter Tryd.func6, Tryd.ntmps6
        go_wp2_with fail
        refine HKN.out.mono ?_
        rintro e w1 ⟨rfl, hk1⟩
        go_wp2_with fail
        go_ret
        exact ⟨rfl, hk1⟩
  · have e1 : decide ((30 : Int) < (ats.length : Int)) = true := by simp; omega
    go_enter Tryd.func6, Tryd.ntmps6
    go_wp2_with fail
    refine HKN.out.mono ?_
    rintro e w1 ⟨rfl, hk1⟩
    go_wp2_with fail
    go_ret
    exact ⟨rfl, hk1⟩
end Go.Proofs.YtgjgnieobbhepaaDoor
