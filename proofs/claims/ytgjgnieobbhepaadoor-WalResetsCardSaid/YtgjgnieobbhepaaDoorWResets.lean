/- WalResets. -/
import Derived.Test.YtgjgnieobbhepaaDoorWLawC
namespace Go.Proofs.YtgjgnieobbhepaaDoor
open Go.RowKit
open Reg (Is Fact CB)

theorem cap80' : L.cap 80 = 38 := by decide
/-- Whatever a commit answers. -/
theorem Run.cany {w0 w w' : World} {h : DH} {B : Nat → Prop} {lp : Nat} {d : Dk} {g : Lg} {rs ls : List (List UInt8)} {e : Ending} (r : Run w0 w h B lp d g rs) (x : CommitP w h B lp d g rs ls e w') :
    ∃ (n : Nat) (B' : Nat → Prop) (d' : Dk) (g' : Lg) (rs' : List (List UInt8)), e = .returned (.int .i64 (n : Int)) ∧ Keeps (lp :: h.l) w w' ∧ d'.dur.length = d.dur.length ∧ d'.size = d.size ∧ Run w0 w' h B' lp d' g' rs' := by
  by_cases hf : fitErr (L.cap d.dur.length - g.used) d.size ls = 0
  · obtain ⟨B', d', h1, h2, h3, h4, h5⟩ := r.cyes x hf
    exact ⟨0, B', d', _, _, h1, h2, h3, h4, h5⟩
  · obtain ⟨B', h1, h2, h3⟩ := r.cno x rfl hf
    exact ⟨_, B', d, g, rs, h1, h2, rfl, rfl, h3⟩
set_option maxRecDepth 100000 in
set_option maxHeartbeats 8000000 in
theorem resets_any (w : World) (ht : TabAt w) (hw : 0 < w.heap.size) (n g cap : Nat) (A : Option Addr) (lens : List UInt8) (hn : n < 256) (hr : BytesIn w g A lens) :
    Calls Tryd.prog 8 #[.int .u8 (n : Int), .slice A lens.length cap] w fun e w' => e = .returned (.bool true) ∧ Keeps [] w w' := by
  have HT := Lib.hid ht
  have HR := Lib.hid hr
  have HKN := Lib.hid (known_any w ht hw)
  clear ht hr
  by_cases hl : lens.length ≤ 6
  · have e1 : decide ((6 : Int) < (lens.length : Int)) = false := by simp; omega
    go_enter Tryd.func8, Tryd.ntmps8
    go_wp2_with fail
    refine HKN.out.mono ?_
    rintro e w1 ⟨rfl, hk1⟩
    have HK1 := Lib.hid hk1
    have HN1 := Lib.hid (newD_any w1 80 256 (by omega) (by omega))
    clear hk1
    go_wp2_with fail
    refine HN1.out.mono ?_
    intro e w2 hnew
    obtain ⟨h, B, rfl, ho⟩ := run_new HK1.out HT.out hw hnew (by omega) (by omega)
    have HO := Lib.hid ho
    clear hnew ho
    go_wp2_with fail
    refine HO.out.mono ?_
    rintro e w3 ⟨lp, A3, c3, d3, rfl, hd3, hs3, hrun⟩
    have HB := Lib.hid (batch_any w3 g cap 2 A lens (HR.out.keep hrun.keeps (by simp)) (by omega) (by omega))
    have HR3 := Lib.hid hrun
    have HD3 := Lib.hid hd3
    have HS3 := Lib.hid hs3
    clear hrun hd3 hs3
    go_wp2_with fail
    refine HB.out.mono ?_
    rintro e w4 ⟨v4, rs, rfl, hrl, hrs, hro, hk4⟩
    obtain ⟨A4, c4, rfl, hrow⟩ := hro.fits
    have hbody := body_small hrs
    have hb2 : (L.body rs).length ≤ 1560 := by omega
    have HR4 := Lib.hid (HR3.out.step hk4)
    have HF4 := Lib.hid (show fitErr (L.cap 80) 256 rs = 0 by rw [cap80']; exact fit_small (k := 6) (by omega) hrs (by omega) (by decide))
    have HRW := Lib.hid hrow
    have HRL := Lib.hid hrl
    have HB2 := Lib.hid hb2
    have HLOW := Lib.hid HR3.out.low
    obtain ⟨W, hW⟩ : ∃ W, W = w3.heap.size := ⟨_, rfl⟩
    rw [← hW] at HRW HLOW
    clear hrs hro hk4 hrow hbody hb2 hrl hW
    obtain ⟨m, hm⟩ : ∃ m, m = n % 40 + 1 := ⟨_, rfl⟩
    have HM := Lib.hid hm
    clear hm
    go_wp2_with fail
    go_loopw [10] (fun kv wr => ∃ (k : Nat) (B' : Nat → Prop) (d : Dk) (g' : Lg) (recs : List (List UInt8)), k ≤ m ∧ kv = .int .i64 (k : Int) ∧ d.dur.length = 80 ∧ d.size = 256 ∧ Run w wr h B' lp d g' recs ∧ RowsIn wr (fun x => W ≤ x) A4 rs ∧ (recs = rs ∨ (k = 0 ∧ recs = []))) (fun kv _ => m - (RowKit.intOf kv).toNat)
    case atStart => exact ⟨0, B, d3, _, [], by omega, rfl, HD3.out, HS3.out, HR4.out, HRW.out, .inr ⟨rfl, rfl⟩⟩
    case round =>
      obtain ⟨k, B', d, g', recs, hk, rfl, hd, hs, hrun, hrows, hrecs⟩ := hrel
      have HR5 := Lib.hid hrun
      have HD5 := Lib.hid hd
      have HS5 := Lib.hid hs
      have HRW5 := Lib.hid hrows
      have HRE := Lib.hid hrecs
      have hmm := HM.out
      clear hrun hd hs hrows hrecs
      by_cases hkm : k < m
      · have e2 : decide ((k : Int) < (n : Int) % 40 + 1) = true := by simp; omega
        have e3 : IntKind.i64.wrap ((k : Int) + 1) = (k : Int) + 1 := IntWalk.i64_in _ ⟨by omega, by omega⟩
        have HB5 := Lib.hid (batch_any (wr.alloc (.cells #[.int .u8 255, .int .u8 255, .int .u8 255] 5)) wr.heap.size 3 k (some ⟨wr.heap.size, 0, none⟩) [255, 255, 255] (.inr ⟨0, rfl, fun j hj => by
          rw [row_cell (heap_alloc_new wr _)]
          match j, hj with
          | 0, _ => rfl
          | 1, _ => rfl
          | 2, _ => rfl⟩) (by simp) (by omega))
        clear hmm
        go_wp2_with fail
        refine HB5.out.mono ?_
        rintro e w6 ⟨v6, rs2, rfl, hrl2, hrs2, hro2, hk6⟩
        obtain ⟨A6, c6, rfl, hrow6⟩ := hro2.fits
        have hb6 := body_small hrs2
        have hl3 : rs2.length = 3 := hrl2
        have hk56 : Keeps [] wr w6 := ((Keeps.refl [] wr).alloc _).trans hk6 (by simp)
        have HR6 := Lib.hid (HR5.out.step hk56)
        have HC6 := Lib.hid (commit_go c6 HR6.out.live HR6.out.lit HR6.out.tab hrow6 (by omega) (by
          have := HRL.out
          rcases HRE.out with h | ⟨_, h⟩
          · rw [h]; omega
          · rw [h]; simp))
        have HRW6 := Lib.hid (HRW5.out.keep hk56 (G' := fun x => W ≤ x) (by simp) (fun _ h => h))
        clear hrl2 hrs2 hro2 hk6 hrow6 hb6 hl3 hk56
        go_wp2_with fail
        refine HC6.out.mono ?_
        intro e w7 hc
        obtain ⟨n7, B7, d7, g7, recs7, rfl, hk7, hd7, hs7, hrun7⟩ := HR6.out.cany hc
        have HR7 := Lib.hid hrun7
        have HD7 := Lib.hid (hd7.trans HD5.out)
        have HS7 := Lib.hid (hs7.trans HS5.out)
        have HRW7 := Lib.hid (HRW6.out.keep hk7 (G' := fun x => W ≤ x) (fun x hx => by have := HLOW.out x hx; omega) (fun _ h => h))
        have HC7 := Lib.hid (reset_go c4 hrun7.live hrun7.lit hrun7.tab HRW7.out (by have := HB2.out; omega))
        clear hc hk7 hd7 hs7 hrun7
        go_wp2_with fail
        refine HC7.out.mono ?_
        intro e w8 hc
        obtain ⟨B8, d8, rfl, hk8, hd8, hs8, hrun8⟩ := HR7.out.ryes hc (by rw [HD7.out, HS7.out]; exact HF4.out)
        have HR8 := Lib.hid hrun8
        have HD8 := Lib.hid (hd8.trans HD7.out)
        have HS8 := Lib.hid (hs8.trans HS7.out)
        have HRW8 := Lib.hid (HRW7.out.keep hk8 (G' := fun x => W ≤ x) (fun x hx => by have := HLOW.out x hx; omega) (fun _ h => h))
        have HC8 : Hid (Calls Tryd.prog 20 #[.pointer (some ⟨lp, 0, none⟩)] w8 fun e w' => e = .returned (.int .i64 (rs.length : Int)) ∧ w8 = w') := Lib.hid (count_any w8 h lp _ hrun8.live.log)
        clear hc hk8 hd8 hs8 hrun8
        go_wp2_with fail
        refine HC8.out.mono ?_
        rintro e w' ⟨rfl, rfl⟩
        go_wp2_with fail
        go_roundw
        case rel => exact ⟨k + 1, B8, d8, _, rs, by omega, by push_cast; rfl, HD8.out, HS8.out, HR8.out, HRW8.out, .inl rfl⟩
        case measure => simp [RowKit.intOf]; omega
      · have e2 : decide ((k : Int) < (n : Int) % 40 + 1) = false := by simp; omega
        have hre : recs = rs := by
          rcases HRE.out with h | ⟨h, _⟩
          · exact h
          · omega
        clear HRE
        subst hre
        have HO5 := Lib.hid HR5.out.opens
        clear hmm
        go_wp2_with fail
        refine HO5.out.mono ?_
        rintro e w9 ⟨lp9, A9, c9, d9, rfl, hrow9, hk9, _, _, hrun9, _⟩
        have HR9 := Lib.hid hrun9
        have HS9 := Lib.hid (same_any w9 _ _ A9 A4 recs recs c9 c4 hrow9 (HRW5.out.keep hk9 (G' := fun x => W ≤ x) (fun x hx => by have := HLOW.out x hx; omega) (fun _ h => h)) (by have := HRL.out; unfold maxLen; omega))
        clear hrow9 hk9 hrun9
        go_wp2_with fail
        refine HS9.out.mono ?_
        rintro e w10 ⟨rfl, hk10⟩
        have HK10 := Lib.hid (HR9.out.step hk10).keeps
        clear hk10
        have hdd : decide (recs = recs) = true := by simp
        go_wp2_with fail
        go_ret
        exact ⟨rfl, HK10.out⟩
  · have e1 : decide ((6 : Int) < (lens.length : Int)) = true := by simp; omega
    go_enter Tryd.func8, Tryd.ntmps8
    go_wp2_with fail
    refine HKN.out.mono ?_
    rintro e w1 ⟨rfl, hk1⟩
    go_wp2_with fail
    go_ret
    exact ⟨rfl, hk1⟩
end Go.Proofs.YtgjgnieobbhepaaDoor
