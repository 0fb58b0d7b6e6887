/- WalKeeps. -/
import Derived.Test.YtgjgnieobbhepaaDoorWActs
namespace Go.Proofs.YtgjgnieobbhepaaDoor
open Go.RowKit
open Reg (Is Fact CB)

theorem cap_half (N : Nat) : N ≤ 2 * L.cap N + 4 ∧ L.cap N ≤ N := by unfold L.cap L.sp; omega
theorem fit_no {rs : List (List UInt8)} {free : Nat} (h : ∀ r ∈ rs, List.length r ≤ 255) (hf : fitErr free 256 rs ≠ 0) : fitErr free 256 rs = 40 ∧ free * 256 ≤ sz rs + 8 := by
  have hb := (sz_body rs).1
  unfold fitErr at hf ⊢
  have hn : ¬ ∃ r ∈ rs, 1048576 < List.length r := by
    rintro ⟨r, hr, hl⟩
    have := h r hr
    omega
  rw [if_neg hn] at hf ⊢
  split at hf
  · rename_i hlt
    rw [if_pos hlt]
    have h1 := L.nsec_bound (rs := rs) (s := 256) (by omega)
    have h2 : (free + 1) * 256 ≤ L.nsec rs 256 * 256 := Nat.mul_le_mul_right _ hlt
    omega
  · exact absurd rfl hf
theorem fit_yes {rs : List (List UInt8)} {free : Nat} (hf : fitErr free 256 rs = 0) : L.nsec rs 256 ≤ free ∧ L.nsec rs 256 * 256 ≤ sz rs + 264 := by
  have hb := (sz_body rs).1
  have h1 := L.nsec_bound (rs := rs) (s := 256) (by omega)
  exact ⟨(fitErr_zero hf).2, by omega⟩
theorem RowsIn.mono {w : World} {G G' : Nat → Prop} {A : Option Addr} {ls : List (List UInt8)} (h : RowsIn w G A ls) (hG : ∀ x, G x → G' x) : RowsIn w G' A ls := h.keep (Keeps.refl [] w) (by simp) hG
theorem Run.room {w0 w : World} {h : DH} {B : Nat → Prop} {lp : Nat} {d : Dk} {g : Lg} {rs : List (List UInt8)} (r : Run w0 w h B lp d g rs) {N : Nat} (hd : d.dur.length = N) (hs : d.size = 256) :
    Calls Tryd.prog 14 #[.pointer (some ⟨lp, 0, none⟩)] w fun e w' => e = .returned (.int .i64 (((L.cap N - g.used) * 256 : Nat) : Int)) ∧ Keeps [] w w' := by
  have := room_any w h B d lp g r.live.disk r.live.log r.live.good.secs r.live.good.used
  rw [hd, hs] at this
  refine this.mono fun e w' hq => ?_
  obtain ⟨h1, n, rfl⟩ := hq
  exact ⟨h1, (Keeps.refl [] w).drewN n⟩
theorem Run.counts {w0 w : World} {h : DH} {B : Nat → Prop} {lp : Nat} {d : Dk} {g : Lg} {rs : List (List UInt8)} (r : Run w0 w h B lp d g rs) :
    Calls Tryd.prog 20 #[.pointer (some ⟨lp, 0, none⟩)] w fun e w' => e = .returned (.int .i64 (rs.length : Int)) ∧ w = w' := by
  have := count_any w h lp g r.live.log
  rw [r.live.good.count] at this
  exact this
set_option maxRecDepth 100000 in
set_option maxHeartbeats 2000000 in
theorem keeps_any (w : World) (ht : TabAt w) (hw : 0 < w.heap.size) (n cap : Nat) (A : Option Addr) (acts : List (Int × List UInt8)) (hn : n < 256) (hr : ActsIn w A acts) :
    Calls Tryd.prog 3 #[.int .u8 (n : Int), .slice A acts.length cap] w fun e w' => e = .returned (.bool true) ∧ Keeps [] w w' := by
  have HT := Lib.hid ht
  have HR := Lib.hid hr
  have HKN := Lib.hid (known_any w ht hw)
  clear ht hr
  by_cases hL : Light acts
  · have eL : decide (Light acts) = true := by simpa using hL
    obtain ⟨N, hN⟩ : ∃ N, N = 60 + n := ⟨_, rfl⟩
    have e60 : IntKind.i64.wrap (60 + (n : Int)) = (N : Int) := by
      rw [show (60 : Int) + (n : Int) = (N : Int) by omega]; exact IntWalk.i64_in _ ⟨by omega, by omega⟩
    have hNr : 60 ≤ N ∧ N ≤ 315 := by omega
    have e60' : (60 : Int) + (n : Int) = (N : Int) := by omega
    have HLI := Lib.hid hL
    clear hL hN
    go_enter Tryd.func3, Tryd.ntmps3
    go_wp2_with fail
    refine HKN.out.mono ?_
    rintro e w1 ⟨rfl, hk1⟩
    have HLT := Lib.hid (light_any w1 A cap acts (HR.out.keep0 hk1))
    have HK1 := Lib.hid hk1
    clear hk1
    go_wp2_with fail
    refine HLT.out.mono ?_
    rintro e w2 ⟨rfl, hk2⟩
    have HK2 := Lib.hid (HK1.out.trans hk2 (by simp))
    rw [eL]
    have HNW := Lib.hid (newD_any w2 N 256 (by omega) (by omega))
    clear hk2
    go_wp2_with fail
    refine HNW.out.mono ?_
    intro e w3 hnew
    obtain ⟨h, B, rfl, ho⟩ := run_new HK2.out HT.out hw hnew (by omega) (by omega)
    have HO := Lib.hid ho
    clear hnew ho
    go_wp2_with fail
    refine HO.out.mono ?_
    rintro e w4 ⟨lp0, A4, c4, d4, rfl, hd4, hs4, hrun⟩
    have HR4 := Lib.hid hrun
    have HD4 := Lib.hid hd4
    have HS4 := Lib.hid hs4
    obtain ⟨R0, hR0⟩ : ∃ R0, R0 = (L.cap N - 0) * 256 := ⟨_, rfl⟩
    have HRO := Lib.hid (show Calls Tryd.prog 14 #[.pointer (some ⟨lp0, 0, none⟩)] w4 fun e w' => e = .returned (.int .i64 (R0 : Int)) ∧ Keeps [] w4 w' by rw [hR0]; exact hrun.room hd4 hs4)
    obtain ⟨M4, hM4⟩ : ∃ M4, M4 = N * 256 := ⟨_, rfl⟩
    obtain ⟨M, hM⟩ : ∃ M, M = N * 64 := ⟨_, rfl⟩
    have hch := cap_half N
    have hlow : M + 512 ≤ R0 + 1024 := by rw [hM, hR0]; omega
    have eM : IntKind.i64.wrap ((N : Int) * 256) = (M4 : Int) := by
      rw [show (N : Int) * 256 = (M4 : Int) by omega]; exact IntWalk.i64_in _ ⟨by omega, by omega⟩
    have eQ : (M4 : Int) / 4 = (M : Int) := by omega
    have eS : IntKind.i64.wrap ((M : Int) - 1024) = (M : Int) - 1024 := IntWalk.i64_in _ ⟨by omega, by omega⟩
    have eT : IntKind.i64.wrap ((M : Int) - 1536) = (M : Int) - 1536 := IntWalk.i64_in _ ⟨by omega, by omega⟩
    have eW : IntKind.i64.wrap (M : Int) = (M : Int) := IntWalk.i64_in _ ⟨by omega, by omega⟩
    have hMr : 3840 ≤ M ∧ M ≤ 20160 := by omega
    have eL0 : decide ((R0 : Int) < (M : Int) - 1024) = false := by simp; omega
    have HMM := Lib.hid (show M = N * 64 from hM)
    have HCH := Lib.hid hch
    clear hrun hd4 hs4 hR0 hM4 hM hch hlow
    go_wp2_with fail
    refine HRO.out.mono ?_
    rintro e w5 ⟨rfl, hk5⟩
    have HR5 := Lib.hid (HR4.out.step hk5)
    clear hk5
    go_wp2_with fail
    clear eS eL0
    go_loopw [7, 10, 11] (fun jv av iv wr => ∃ (i lp ca : Nat) (B : Nat → Prop) (d : Dk) (g : Lg) (recs : List (List UInt8)) (Aa : Option Addr), i ≤ acts.length ∧ iv = .int .i64 (i : Int) ∧ jv = .pointer (some ⟨lp, 0, none⟩) ∧ av = .slice Aa recs.length ca ∧ (Aa = none → recs = []) ∧ RowsIn wr (fun y => y ∉ lp :: h.l) Aa recs ∧ Run w wr h B lp d g recs ∧ d.dur.length = N ∧ d.size = 256 ∧ recs.length ≤ 6 * i ∧ (∀ r ∈ recs, List.length r ≤ 255)) (fun _ _ iv _ => acts.length - (RowKit.intOf iv).toNat)
    case atStart => exact ⟨0, lp0, 0, B, d4, _, [], none, by omega, rfl, rfl, rfl, fun _ => rfl, .inl rfl, HR5.out, HD4.out, HS4.out, by simp, by simp⟩
    case round =>
      obtain ⟨i, lp, ca, B', d, g, recs, Aa, hi, rfl, rfl, rfl, hna, hrows, hrun, hd, hs, hrl, h255⟩ := hrel
      have HNA := Lib.hid hna
      have HROW := Lib.hid hrows
      have HRU := Lib.hid hrun
      have HDD := Lib.hid hd
      have HSS := Lib.hid hs
      have HRL := Lib.hid hrl
      have H25 := Lib.hid h255
      clear hna hrows hrun hd hs hrl h255
      by_cases hin : i < acts.length
      · rcases HR.out.keep0 HRU.out.keeps with h0 | ⟨b1, o1, rfl, hc1⟩
        · rw [h0] at hin; simp at hin
        · obtain ⟨Bl, cl, gl, q1, q2, q3⟩ := hc1 i hin
          have hle6 := HLI.out.2 _ (List.getElem_mem hin)
          have h30 := HLI.out.1
          obtain ⟨lens, hlens⟩ : ∃ lens, lens = (acts[i]).2 := ⟨_, rfl⟩
          obtain ⟨what, hwhat⟩ : ∃ what, what = (acts[i]).1 := ⟨_, rfl⟩
          rw [← hlens] at q2 q3 hle6
          rw [← hwhat] at q1
          have HB := Lib.hid (batch_any wr gl cl i Bl lens q3 (by omega) (by omega))
          have Q1 := Lib.hid q1
          have ek : IntKind.i64.wrap ((i : Int) + 1) = (i : Int) + 1 := IntWalk.i64_in _ ⟨by omega, by omega⟩
          clear hc1 q3 hlens hwhat q1
          go_wp2_with fail
          refine HB.out.mono ?_
          rintro e w6 ⟨v6, b, rfl, hbl, hb255, hro, hk6⟩
          obtain ⟨Ab, cb, rfl, hnb, hrowb, _⟩ := hro.form
          have HR6 := Lib.hid (HRU.out.step hk6)
          obtain ⟨R, hR⟩ : ∃ R, R = (L.cap N - g.used) * 256 := ⟨_, rfl⟩
          have HRO6 := Lib.hid (show Calls Tryd.prog 14 #[.pointer (some ⟨lp, 0, none⟩)] w6 fun e w' => e = .returned (.int .i64 (R : Int)) ∧ Keeps [] w6 w' by rw [hR]; exact HR6.out.room HDD.out HSS.out)
          have HK6 := Lib.hid hk6
          have HNB := Lib.hid hnb
          have HBL := Lib.hid hbl
          have HB25 := Lib.hid hb255
          have HROB := Lib.hid (hrowb.mono (G' := fun y => y ∉ lp :: h.l) (fun y hy hm => by have := HRU.out.low y hm; omega))
          have HRR := Lib.hid hR
          clear hro hrowb hk6 hnb hbl hb255 hR q2
          go_wp2_with fail
          refine HRO6.out.mono ?_
          rintro e w7 ⟨rfl, hk7⟩
          have HR7 := Lib.hid (HR6.out.step hk7)
          have HKK := Lib.hid (HK6.out.trans hk7 (by simp))
          have HRA7 := Lib.hid (HROW.out.keep HKK.out (G' := fun y => y ∉ lp :: h.l) (by simp) (fun _ h => h)).low
          have HRB7 := Lib.hid (HROB.out.keep hk7 (G' := fun y => y ∉ lp :: h.l) (by simp) (fun _ h => h)).low
          have q1 := HKK.out.cell_some Q1.out (by simp)
          clear hk7
          by_cases h5 : what = 5
          · subst h5
            have HOP := Lib.hid HR7.out.opens
            go_wp2_with fail
            refine HOP.out.mono ?_
            rintro e w8 ⟨lp8, A8, c8, d8, rfl, hrow8, hk8, hd8, hs8, _, hrun8, hlp8⟩
            have HR8 := Lib.hid hrun8
            have HD8 := Lib.hid (hd8.trans HDD.out)
            have HS8 := Lib.hid (hs8.trans HSS.out)
            have HRA8 := Lib.hid (HRA7.out.keep hk8 (G' := fun y => y ∉ lp8 :: h.l) (fun x hx hG => hG.1 hx) (fun y hy hm => by
              rcases List.mem_cons.1 hm with rfl | hm
              · omega
              · exact hy.1 (List.mem_cons_of_mem _ hm)))
            have HSM := Lib.hid (same_any w8 _ _ A8 Aa recs recs c8 ca hrow8 HRA8.out (by have := HRL.out; unfold maxLen; omega))
            clear hrow8 hk8 hd8 hs8 hrun8 hlp8
            have hdd : decide (recs = recs) = true := by simp
            go_wp2_with fail
            refine HSM.out.mono ?_
            rintro e w9 ⟨rfl, hk9⟩
            have HR9 := Lib.hid (HR8.out.step hk9)
            have HRA9 := Lib.hid (HRA8.out.keep hk9 (G' := fun y => y ∉ lp8 :: h.l) (by simp) (fun _ h => h))
            clear hk9
            go_wp2_with fail
            go_roundw
            case rel => exact ⟨i + 1, lp8, ca, B', d8, _, recs, Aa, by omega, by push_cast; rfl, rfl, rfl, HNA.out, HRA9.out, HR9.out, HD8.out, HS8.out, by have := HRL.out; omega, H25.out⟩
            case measure => simp [RowKit.intOf]; omega
          · have e5 : (what == 5) = false := by simpa using h5
            have e5' : decide (what = 5) = false := by simpa using h5
            by_cases h4 : what = 4
            · subst h4
              have HLN := Lib.hid (show b.length ≤ 6 by have := HBL.out; omega)
              have hbd := body_small HB25.out
              have hszl := sz_le HB25.out
              obtain ⟨S, hS⟩ : ∃ S, S = sz b := ⟨_, rfl⟩
              have hSb : S ≤ 1626 := by rw [hS]; have := HLN.out; omega
              have HSS2 := Lib.hid hS
              have HBD := Lib.hid (show (L.body b).length < 4294967296 by have := HLN.out; omega)
              have HC := Lib.hid (reset_go cb HR7.out.live HR7.out.lit HR7.out.tab HRB7.out HBD.out)
              clear hbd hszl hS
              go_wp2_with fail
              refine HC.out.mono ?_
              intro e w8 hc
              by_cases hf : fitErr (L.cap N) 256 b = 0
              · obtain ⟨B8, d8, rfl, hk8, hd8, hs8, hrun8⟩ := HR7.out.ryes hc (by rw [HDD.out, HSS.out]; exact hf)
                have HR8 := Lib.hid hrun8
                have HD8 := Lib.hid (hd8.trans HDD.out)
                have HS8 := Lib.hid (hs8.trans HSS.out)
                have HRB8 := Lib.hid (HRB7.out.keep hk8 (G' := fun y => y ∉ lp :: h.l) (fun x hx hG => hG.1 hx) (fun y hy => hy.1))
                have HCN := Lib.hid hrun8.counts
                clear hc hk8 hd8 hs8 hrun8 hf
                go_wp2_with fail
                refine HCN.out.mono ?_
                rintro e w' ⟨rfl, rfl⟩
                go_wp2_with fail
                go_roundw
                case rel => exact ⟨i + 1, lp, cb, B8, d8, _, b, Ab, by omega, by push_cast; rfl, rfl, rfl, HNB.out, HRB8.out, HR8.out, HD8.out, HS8.out, by have := HLN.out; omega, HB25.out⟩
                case measure => simp [RowKit.intOf]; omega
              · obtain ⟨hf40, hsz⟩ := fit_no HB25.out hf
                obtain ⟨B8, rfl, hk8, hrun8⟩ := HR7.out.rno hc (n := 40) (by rw [HDD.out, HSS.out]; exact hf40) (by omega)
                have HR8 := Lib.hid hrun8
                have HRA8 := Lib.hid (HRA7.out.keep hk8 (G' := fun y => y ∉ lp :: h.l) (fun x hx hG => hG.1 hx) (fun y hy => hy.1))
                have HRB8 := Lib.hid (HRB7.out.keep hk8 (G' := fun y => y ∉ lp :: h.l) (fun x hx hG => hG.1 hx) (fun y hy => hy.1))
                have HSZ := Lib.hid (size_of w8 _ Ab cb b HRB8.out HB25.out (by have := HLN.out; omega))
                rw [← HSS2.out] at HSZ hsz
                have el : decide ((S : Int) ≤ (M : Int) - 1536) = false := by
                  have h1 := HCH.out
                  have h2 := HMM.out
                  simp; omega
                clear hc hk8 hrun8 hf hf40 hsz
                go_wp2_with fail
                refine HSZ.out.mono ?_
                rintro e w9 ⟨rfl, hk9⟩
                have HR9 := Lib.hid (HR8.out.step hk9)
                have HRA9 := Lib.hid (HRA8.out.keep hk9 (G' := fun y => y ∉ lp :: h.l) (by simp) (fun _ h => h))
                have HCN := Lib.hid HR9.out.counts
                clear hk9
                go_wp2_with fail
                refine HCN.out.mono ?_
                rintro e w' ⟨rfl, rfl⟩
                go_wp2_with fail
                go_roundw
                case rel => exact ⟨i + 1, lp, ca, B8, d, g, recs, Aa, by omega, by push_cast; rfl, rfl, rfl, HNA.out, HRA9.out, HR9.out, HDD.out, HSS.out, by have := HRL.out; omega, H25.out⟩
                case measure => simp [RowKit.intOf]; omega
            · have e4 : (what == 4) = false := by simpa using h4
              have e4' : decide (what = 4) = false := by simpa using h4
              have HLN := Lib.hid (show b.length ≤ 6 by have := HBL.out; omega)
              have hbd := body_small HB25.out
              have hszl := sz_le HB25.out
              obtain ⟨S, hS⟩ : ∃ S, S = sz b := ⟨_, rfl⟩
              have hSb : S ≤ 1626 := by rw [hS]; have := HLN.out; omega
              have HSS2 := Lib.hid hS
              have HBD := Lib.hid (show (L.body b).length < 4294967296 by have := HLN.out; omega)
              have HC := Lib.hid (commit_go cb HR7.out.live HR7.out.lit HR7.out.tab HRB7.out HBD.out (by have := HRL.out; omega))
              have hRb : R ≤ 80640 := by
                rw [HRR.out]
                have h1 := HCH.out
                have h2 : (L.cap N - g.used) * 256 ≤ N * 256 := Nat.mul_le_mul_right _ (by omega)
                omega
              clear hbd hszl hS
              go_wp2_with fail
              refine HC.out.mono ?_
              intro e w8 hc
              by_cases hf : fitErr (L.cap N - g.used) 256 b = 0
              · obtain ⟨B8, d8, rfl, hk8, hd8, hs8, hrun8⟩ := HR7.out.cyes hc (by rw [HDD.out, HSS.out]; exact hf)
                rw [HSS.out] at hrun8
                obtain ⟨y1, y2⟩ := fit_yes hf
                have hug := HR7.out.live.good.used
                rw [HDD.out] at hug
                have HR8 := Lib.hid hrun8
                have HD8 := Lib.hid (hd8.trans HDD.out)
                have HS8 := Lib.hid (hs8.trans HSS.out)
                have HRA8 := Lib.hid (HRA7.out.keep hk8 (G' := fun y => y ∉ lp :: h.l) (fun x hx hG => hG.1 hx) (fun y hy => hy.1)).low
                have HRB8 := Lib.hid (HRB7.out.keep hk8 (G' := fun y => y ∉ lp :: h.l) (fun x hx hG => hG.1 hx) (fun y hy => hy.1)).low
                obtain ⟨R2, hR2⟩ : ∃ R2, R2 = (L.cap N - (g.used + L.nsec b 256)) * 256 := ⟨_, rfl⟩
                have hR2b : R ≤ R2 + (S + 264) := by
                  have h1 := HRR.out
                  have h2 := HSS2.out
                  have h3 : L.cap N - g.used = (L.cap N - (g.used + L.nsec b 256)) + L.nsec b 256 := by omega
                  rw [h3, Nat.add_mul, ← hR2] at h1
                  omega
                have HROOM := Lib.hid (fun w' (hk : Keeps [] w8 w') => (show Calls Tryd.prog 14 #[.pointer (some ⟨lp, 0, none⟩)] w' fun e w'' => e = .returned (.int .i64 (R2 : Int)) ∧ Keeps [] w' w'' by rw [hR2]; exact (HR8.out.step hk).room HD8.out HS8.out))
                clear hc hk8 hd8 hs8 hrun8 hf y1 y2 hug hR2
                go_wp2_with (at_builtin; refine wpList_append_by rfl _ _ rfl rfl (.slice none 0 0) [] recs Aa ca _ rfl rfl (RowsBy.nil _ _) HRA8.out (fun y _ => by simp [Value.ownBlock]) (by have := HRL.out; simp; omega) ?_)
                intro v9 w9 ho9 hg9 hat9
                have hk9 : Keeps [] w8 w9 := (Keeps.of_grown hg9).mono (by simp [Value.ownBlock])
                have HO9 := Lib.hid (show RowsBy w9 (fun g => g ∉ lp :: h.l ∧ g < w8.heap.size) v9 recs by simpa using ho9)
                have HAT9 := Lib.hid (show v9.ownBlock = none ∨ v9.ownBlock = some w8.heap.size by simpa [Value.ownBlock] using hat9)
                have HRB9 := Lib.hid (HRB8.out.keep hk9 (G' := fun g => g ∉ lp :: h.l ∧ g < w8.heap.size) (by simp) (fun _ h => h))
                have HK9 := Lib.hid hk9
                have HNE9 := Lib.hid (show ∀ y, (y ∉ lp :: h.l ∧ y < w8.heap.size) → v9.ownBlock ≠ some y from fun y hy e => by
                  rcases HAT9.out with h | h
                  · rw [h] at e; simp at e
                  · rw [h] at e
                    have : w8.heap.size = y := by simpa using e
                    have := hy.2
                    omega)
                have HLE9 := Lib.hid (show recs.length + b.length ≤ 1000000 by have := HRL.out; have := HLN.out; omega)
                clear ho9 hg9 hat9 hk9
                go_wp2_with (at_builtin; refine wpList_append_by rfl _ _ rfl rfl v9 recs b Ab cb _ rfl rfl HO9.out HRB9.out HNE9.out HLE9.out ?_)
                intro v10 w10 ho10 hg10 hat10
                obtain ⟨A10, c10, hv10, hn10, hrow10⟩ := ho10.form
                have hk810 : Keeps [] w8 w10 := ((HK9.out.mono (T := v9.ownBlock.toList) (by simp)).trans (Keeps.of_grown hg10) (fun _ hi _ => hi)).mono (fun y hy hlt => by
                  rcases HAT9.out with h | h
                  · rw [h] at hy; simp at hy
                  · rw [h] at hy
                    have : y = w8.heap.size := by simpa using hy
                    omega)
                have own10 : ∀ y, v10.ownBlock = some y → w8.heap.size ≤ y := fun y hy => by
                  rcases hat10 with h | h
                  · rw [h] at hy
                    rcases HAT9.out with h2 | h2
                    · rw [h2] at hy; simp at hy
                    · rw [h2] at hy
                      have : w8.heap.size = y := by simpa using hy
                      omega
                  · rw [h] at hy
                    have : w9.heap.size = y := by simpa using hy
                    have := HK9.out.size
                    omega
                have HRA10 := Lib.hid (hrow10.mono (G' := fun y => y ∉ lp :: h.l) (fun y hy hm => by
                  have := HR8.out.low y hm
                  rcases hy with hy | hy
                  · exact absurd hm (by simpa using hy.1)
                  · have := own10 y hy; omega))
                have HRB10 := Lib.hid (HRB8.out.keep hk810 (G' := fun g => g ∉ lp :: h.l ∧ g < w8.heap.size) (by simp) (fun _ h => h))
                have HR10 := Lib.hid (HR8.out.step hk810)
                have HRM10 := Lib.hid (HROOM.out w10 hk810)
                have HN10 := Lib.hid hn10
                subst hv10
                have eA : IntKind.i64.wrap ((R : Int) - (S : Int)) = (R : Int) - (S : Int) := IntWalk.i64_in _ ⟨by omega, by omega⟩
                have eB : IntKind.i64.wrap ((R : Int) - (S : Int) - 512) = (R : Int) - (S : Int) - 512 := IntWalk.i64_in _ ⟨by omega, by omega⟩
                have eC : decide ((R2 : Int) < (R : Int) - (S : Int) - 512) = false := by simp; omega
                clear ho10 hg10 hat10 hrow10 hk810 own10 hn10
                go_wp2_with fail
                refine HRM10.out.mono ?_
                rintro e w11 ⟨rfl, hk11⟩
                have HSZ11 := Lib.hid (size_of w11 _ Ab cb b (HRB10.out.keep hk11 (G' := fun g => g ∉ lp :: h.l ∧ g < w8.heap.size) (by simp) (fun _ h => h)) HB25.out (by have := HLN.out; omega))
                rw [← HSS2.out] at HSZ11
                have HK11 := Lib.hid hk11
                clear hk11
                go_wp2_with fail
                refine HSZ11.out.mono ?_
                rintro e w12 ⟨rfl, hk12⟩
                have HK12 := Lib.hid (HK11.out.trans hk12 (by simp))
                have HR12 := Lib.hid (HR10.out.step HK12.out)
                have HRA12 := Lib.hid (HRA10.out.keep HK12.out (G' := fun y => y ∉ lp :: h.l) (by simp) (fun _ h => h))
                have HCN := Lib.hid HR12.out.counts
                rw [List.length_append] at HCN
                clear hk12
                go_wp2_with fail
                refine HCN.out.mono ?_
                rintro e w' ⟨rfl, rfl⟩
                go_wp2_with fail
                go_roundw
                case rel => exact ⟨i + 1, lp, c10, B8, d8, _, recs ++ b, A10, by omega, by push_cast; rfl, rfl, by rw [List.length_append], HN10.out, HRA12.out, HR12.out, HD8.out, HS8.out, by have := HRL.out; have := HLN.out; rw [List.length_append]; omega, fun r hr => by
                  rcases List.mem_append.1 hr with h | h
                  · exact H25.out r h
                  · exact HB25.out r h⟩
                case measure => simp [RowKit.intOf]; omega
              · obtain ⟨hf40, hsz⟩ := fit_no HB25.out hf
                obtain ⟨B8, rfl, hk8, hrun8⟩ := HR7.out.cno hc (n := 40) (by rw [HDD.out, HSS.out]; exact hf40) (by omega)
                have HR8 := Lib.hid hrun8
                have HRA8 := Lib.hid (HRA7.out.keep hk8 (G' := fun y => y ∉ lp :: h.l) (fun x hx hG => hG.1 hx) (fun y hy => hy.1))
                have HRB8 := Lib.hid (HRB7.out.keep hk8 (G' := fun y => y ∉ lp :: h.l) (fun x hx hG => hG.1 hx) (fun y hy => hy.1))
                have HSZ := Lib.hid (size_of w8 _ Ab cb b HRB8.out HB25.out (by have := HLN.out; omega))
                rw [← HSS2.out] at HSZ hsz
                rw [← HRR.out] at hsz
                have el : decide ((S : Int) + 512 ≤ (R : Int)) = false := by simp; omega
                clear hc hk8 hrun8 hf hf40 hsz
                go_wp2_with fail
                refine HSZ.out.mono ?_
                rintro e w9 ⟨rfl, hk9⟩
                have HR9 := Lib.hid (HR8.out.step hk9)
                have HRA9 := Lib.hid (HRA8.out.keep hk9 (G' := fun y => y ∉ lp :: h.l) (by simp) (fun _ h => h))
                have HCN := Lib.hid HR9.out.counts
                clear hk9
                go_wp2_with fail
                refine HCN.out.mono ?_
                rintro e w' ⟨rfl, rfl⟩
                go_wp2_with fail
                go_roundw
                case rel => exact ⟨i + 1, lp, ca, B8, d, g, recs, Aa, by omega, by push_cast; rfl, rfl, rfl, HNA.out, HRA9.out, HR9.out, HDD.out, HSS.out, by have := HRL.out; omega, H25.out⟩
                case measure => simp [RowKit.intOf]; omega
      · have hie : i = acts.length := by omega
        have HOP := Lib.hid HRU.out.opens
        go_wp2_with fail
        refine HOP.out.mono ?_
        rintro e w8 ⟨lp8, A8, c8, d8, rfl, hrow8, hk8, hd8, hs8, hrun8, _, _⟩
        have HR8 := Lib.hid hrun8
        have HRA8 := Lib.hid (HROW.out.keep hk8 (G' := fun y => y ∉ lp :: h.l) (fun x hx hG => hG hx) (fun _ h => h))
        have HSM := Lib.hid (same_any w8 _ _ A8 Aa recs recs c8 ca hrow8 HRA8.out (by have := HRL.out; have := HLI.out.1; unfold maxLen; omega))
        clear hrow8 hk8 hd8 hs8 hrun8
        have hdd : decide (recs = recs) = true := by simp
        go_wp2_with fail
        refine HSM.out.mono ?_
        rintro e w9 ⟨rfl, hk9⟩
        have HK9 := Lib.hid (HR8.out.step hk9).keeps
        clear hk9
        go_wp2_with fail
        go_ret
        exact ⟨rfl, HK9.out⟩
  · have eL : decide (Light acts) = false := by simpa using hL
    go_enter Tryd.func3, Tryd.ntmps3
    go_wp2_with fail
    refine HKN.out.mono ?_
    rintro e w1 ⟨rfl, hk1⟩
    have HLT := Lib.hid (light_any w1 A cap acts (HR.out.keep0 hk1))
    have HK1 := Lib.hid hk1
    clear hk1
    go_wp2_with fail
    refine HLT.out.mono ?_
    rintro e w2 ⟨rfl, hk2⟩
    have HK2 := Lib.hid (HK1.out.trans hk2 (by simp))
    rw [eL]
    clear hk2
    go_wp2_with fail
    go_ret
    exact ⟨rfl, HK2.out⟩
end Go.Proofs.YtgjgnieobbhepaaDoor
