/- WalFalls. -/
import Derived.Test.YtgjgnieobbhepaaDoorWFallA
import Derived.Test.YtgjgnieobbhepaaDoorDNew
namespace Go.Proofs.YtgjgnieobbhepaaDoor
open Go.RowKit
open Reg (Is Fact CB)

attribute [local go_sem] Reg.lateFr Reg.wantedV Reg.gives_value Reg.gives_skip Reg.gives_enter
/-- Numbers of eight bytes in memory. -/
def U64In (w : World) (A : Option Addr) (l : List Nat) : Prop := l = [] ∨ ∃ b off, A = some ⟨b, off, none⟩ ∧ ∀ k (h : k < l.length), w.cell? ⟨b, off + k, none⟩ = some (.int .u64 ((l[k] : Nat) : Int))
theorem U64In.keep0 {w w' : World} {A : Option Addr} {l : List Nat} (h : U64In w A l) (hk : Keeps [] w w') : U64In w' A l := by
  rcases h with h | ⟨b, off, hA, hc⟩
  · exact .inl h
  · exact .inr ⟨b, off, hA, fun k hk' => hk.cell_some (hc k hk') (by simp)⟩
set_option maxRecDepth 100000 in
set_option maxHeartbeats 8000000 in
theorem falls_any (w : World) (ht : TabAt w) (hw : 0 < w.heap.size) (n cap g3 cap3 cap4 : Nat) (A A3 A4 : Option Addr) (acts : List (Int × List UInt8)) (cuts : List UInt8) (keep : List Nat) (hn : n < 256) (hr : ActsIn w A acts) (hr3 : BytesIn w g3 A3 cuts) (hr4 : U64In w A4 keep) (h64 : ∀ k ∈ keep, k < 18446744073709551616) :
    Calls Tryd.prog 4 #[.int .u8 (n : Int), .slice A acts.length cap, .slice A3 cuts.length cap3, .slice A4 keep.length cap4] w fun e w' => e = .returned (.bool true) ∧ Keeps [] w w' := by
  have HT := Lib.hid ht
  have HR := Lib.hid hr
  have HR3 := Lib.hid hr3
  have HR4 := Lib.hid hr4
  have H64 := Lib.hid h64
  have HKN := Lib.hid (known_any w ht hw)
  clear ht hr hr3 hr4 h64
  by_cases hL : Light acts
  · have eL : decide (Light acts) = true := by simpa using hL
    by_cases hcl : cuts.length ≤ 30
    · have e1 : decide ((30 : Int) < (cuts.length : Int)) = false := by simp; omega
      by_cases hkl : keep.length ≤ 30
      · have e2 : decide ((30 : Int) < (keep.length : Int)) = false := by simp; omega
        obtain ⟨N, hN⟩ : ∃ N, N = 80 + n % 60 := ⟨_, rfl⟩
        have e80 : IntKind.i64.wrap (80 + (n : Int) % 60) = (N : Int) := by
          rw [show (80 : Int) + (n : Int) % 60 = (N : Int) by omega]; exact IntWalk.i64_in _ ⟨by omega, by omega⟩
        have hNr : 80 ≤ N ∧ N ≤ 139 := by omega
        have e80' : (80 : Int) + (n : Int) % 60 = (N : Int) := by omega
        have HLI := Lib.hid hL
        clear hL hN
        go_enter Tryd.func4, Tryd.ntmps4
        go_wp2_with fail
        refine HKN.out.mono ?_
        rintro e w1 ⟨rfl, hk1⟩
        have HLT := Lib.hid (light_any w1 A cap acts (HR.out.keep0 hk1))
        have HK1 := Lib.hid hk1
        clear hk1
        go_wp2_with fail
        refine HLT.out.mono ?_
        rintro e w2 ⟨rfl, hk2⟩
        have HK2 := Lib.hid (HK1.out.trans hk2 (by simp))
        rw [eL]
        have HNW := Lib.hid (newD_any w2 N 256 (by omega) (by omega))
        clear hk2
        go_wp2_with fail
        refine HNW.out.mono ?_
        intro e w3 hnew
        obtain ⟨h, B, rfl, ho⟩ := run_new HK2.out HT.out hw hnew (by omega) (by omega)
        have HO := Lib.hid ho
        clear hnew ho
        go_wp2_with fail
        refine HO.out.mono ?_
        rintro e w4 ⟨lp0, A0, c0, d0, rfl, hd0, hs0, hrun⟩
        have HR0 := Lib.hid (hrun.c hd0 hs0)
        clear hrun hd0 hs0
        go_wp2_with fail
        go_loopw [10, 13, 14] (fun jv av iv wr => ∃ (i lp ca : Nat) (B : Nat → Prop) (d : Dk) (g : Lg) (recs : List (List UInt8)) (Aa : Option Addr), i ≤ acts.length ∧ iv = .int .i64 (i : Int) ∧ jv = .pointer (some ⟨lp, 0, none⟩) ∧ av = .slice Aa recs.length ca ∧ (Aa = none → recs = []) ∧ RowsIn wr (fun y => y ∉ lp :: h.l) Aa recs ∧ RunC w wr h B lp d g recs N ∧ recs.length ≤ 6 * i ∧ (∀ r ∈ recs, List.length r ≤ 255)) (fun _ _ iv _ => acts.length - (RowKit.intOf iv).toNat)
        case atStart => exact ⟨0, lp0, 0, B, d0, _, [], none, by omega, rfl, rfl, rfl, fun _ => rfl, .inl rfl, HR0.out, by simp, by simp⟩
        case round =>
          obtain ⟨i, lp, ca, B, d, g, recs, Aa, hi, rfl, rfl, rfl, hna, hrows, hrun, hrl, h255⟩ := hrel
          have HNA := Lib.hid hna
          have HROW := Lib.hid hrows
          have HRU := Lib.hid hrun
          have HRL := Lib.hid hrl
          have H25 := Lib.hid h255
          clear hna hrows hrun hrl h255
          by_cases hin : i < acts.length
          · have h30 := HLI.out.1
            rcases HR.out with h0 | ⟨b1, o1, rfl, hc1⟩
            · rw [h0] at hin; simp at hin
            · obtain ⟨Bl, cl, gl, q1, q2, q3⟩ := hc1 i hin
              have hle6 := HLI.out.2 _ (List.getElem_mem hin)
              obtain ⟨lens, hlens⟩ : ∃ lens, lens = (acts[i]).2 := ⟨_, rfl⟩
              obtain ⟨what, hwhat⟩ : ∃ what, what = (acts[i]).1 := ⟨_, rfl⟩
              rw [← hlens] at q2 q3 hle6
              rw [← hwhat] at q1
              have Q1 := Lib.hid q1
              have q1 := HRU.out.keeps.cell_some q1 (by simp)
              have q2 := HRU.out.keeps.cell_some q2 (by simp)
              have q3 := q3.keep HRU.out.keeps (by simp)
              have HB := Lib.hid (batch_any wr gl cl i Bl lens q3 (by omega) (by omega))
              have ek : IntKind.i64.wrap ((i : Int) + 1) = (i : Int) + 1 := IntWalk.i64_in _ ⟨by omega, by omega⟩
              clear hc1 q3 hlens hwhat
              by_cases h5 : what = 5
              · subst h5
                go_wp2_with fail
                go_roundw
                case rel => exact ⟨i + 1, lp, ca, B, d, g, recs, Aa, by omega, by push_cast; rfl, rfl, rfl, HNA.out, HROW.out, HRU.out, by have := HRL.out; omega, H25.out⟩
                case measure => simp [RowKit.intOf]; omega
              · have e5 : (what == 5) = false := by simpa using h5
                have e5' : decide (what = 5) = false := by simpa using h5
                go_wp2_with fail
                refine HB.out.mono ?_
                rintro e w6 ⟨v6, b, rfl, hbl, hb255, hro, hk6⟩
                obtain ⟨Ab, cb, rfl, hnb, hrowb, _⟩ := hro.form
                have HR6 := Lib.hid (HRU.out.step hk6)
                have HNB := Lib.hid hnb
                have HLN := Lib.hid (show b.length ≤ 6 by omega)
                have HB25 := Lib.hid hb255
                have HRB6 := Lib.hid (hrowb.mono (G' := fun y => y ∉ lp :: h.l) (fun y hy hm => by have := HRU.out.low y hm; omega))
                have HRA6 := Lib.hid (HROW.out.keep hk6 (G' := fun y => y ∉ lp :: h.l) (by simp) (fun _ h => h))
                clear hro hrowb hk6 hnb hbl hb255 q1 q2
                by_cases hci : i < cuts.length
                · have eci : decide ((i : Int) < (cuts.length : Int)) = true := by simp; omega
                  have hcx := HR3.out.keep HR6.out.keeps (by simp)
                  rcases hcx with h0 | ⟨o3, rfl, hcc⟩
                  · subst h0; simp at hci
                  · have qc := hcc i hci
                    obtain ⟨c0, hc0⟩ : ∃ c0, c0 = (cuts[i]).toNat := ⟨_, rfl⟩
                    have hc8 : c0 < 256 := by rw [hc0]; exact (cuts[i]).toNat_lt
                    rw [← hc0] at qc
                    have QC := Lib.hid qc
                    obtain ⟨c, hc⟩ : ∃ c, c = c0 % 12 := ⟨_, rfl⟩
                    have ec : (c0 : Int) % 12 = (c : Int) := by omega
                    have ec2 : (c0 : Int).tmod 12 = (c : Int) := by rw [← ec]; rfl
                    have hc12 : c < 12 := by omega
                    have ew : IntKind.i64.wrap (c : Int) = (c : Int) := IntWalk.i64_in _ ⟨by omega, by omega⟩
                    clear hcc hc0 hc qc
                    go_wp2_with fail
                    refine Reg.wp_region_last 9 [0, 1, 2, 3, 4, 5, 6, 7, 8] (fun w' => Keeps [] w6 w') (fun w' => Keeps [h.p] w6 w' ∧ RunC w w' h B lp (d.cutIn c) g recs N) (fun _ _ => True) (A := ?A9)
                      [Is (.pointer (some ⟨h.p, 0, none⟩)), Is (.pointer (some ⟨h.p, 0, none⟩)), Is (.pointer (some ⟨h.p, 3, none⟩)), Is (.slice (some ⟨g3, o3, none⟩) cuts.length cap3), Is (.int .i64 (i : Int)), Is (.pointer (some ⟨g3, o3 + i, none⟩)), Is (.int .u8 (c0 : Int)), Is (.int .u8 (c : Int)), Is (.int .i64 (c : Int)), AnyF]
                      (by kernel_rfl) (by kernel_rfl) (by kernel_rfl) rfl ?hA9 ?hC9 ?ho9 ?hlast9 ?hend9
                    case hA9 => intro vs; simp only [Reg.fill, if_true, Nat.zero_add, Nat.reduceAdd, Act.put, List.setIfInBounds_toArray, List.set_cons_succ, List.set_cons_zero]; exact rfl
                    case hC9 => exact (Keeps.refl _ _).drew
                    case hlast9 => repeat (first | exact trivial | refine ⟨Is.lastU, ?_⟩ | refine ⟨fun _ _ _ _ _ => trivial, ?_⟩)
                    case ho9 =>
                      repeat' apply And.intro
                      all_goals
                        first
                          | exact trivial
                          | (intro bb vs2 w' hC hb hd K hK
                             have hbb : bb = false := by apply hb; decide
                             subst hbb
                             have hC0 := hC.1 rfl
                             try simp only [Reg.Deps, Reg.at_, List.getD_cons_zero, List.getD_cons_succ, Region.binds, true_implies, Is, and_true] at hd
                             have q1 := hC0.cell_some QC.out (by simp)
                             go_simp
                             first
                               | exact hK _ _ (CB.pre hC0 rfl) trivial rfl
                               | skip)
                      refine ((HR6.out.step hC0).cut c (by omega)).mono ?_
                      rintro e w'' ⟨rfl, hk9, hr9⟩
                      exact ⟨_, rfl, hK _ _ (CB.post ⟨(hC0.mono (T := [h.p]) (by simp)).trans hk9 (fun _ hi _ => hi), hr9⟩) trivial trivial⟩
                    case hend9 =>
                      intro vs2 w7 hC hall
                      have HR7 := Lib.hid hC.2
                      have hk67 : Keeps (lp :: h.l) w6 w7 := hC.1.mono (fun y hy _ => by
                        have : y = h.p := by simpa using hy
                        simp [this, DH.l])
                      have HQ7 := Lib.hid (show Keeps [] w w7 from HR7.out.keeps)
                      have HRA := Lib.hid (HRA6.out.keep hk67 (G' := fun y => y ∉ lp :: h.l) (fun x hx hG => hG hx) (fun _ h => h))
                      have HRB := Lib.hid (HRB6.out.keep hk67 (G' := fun y => y ∉ lp :: h.l) (fun x hx hG => hG hx) (fun _ h => h))
                      clear hC hall hk67
                      have HRA7 := Lib.hid HRA.out.low
                      have HRB7 := Lib.hid HRB.out.low
                      go_wp2_with (at_builtin; refine wpList_append_by rfl _ _ rfl rfl (.slice none 0 0) [] recs Aa ca _ rfl rfl (RowsBy.nil _ _) HRA7.out (fun y _ => by simp [Value.ownBlock]) (by have := HRL.out; simp; omega) ?_)
                      intro v8 w8 ho8 hg8 hat8
                      have hk8 : Keeps [] w7 w8 := (Keeps.of_grown hg8).mono (by simp [Value.ownBlock])
                      have HO8 := Lib.hid (show RowsBy w8 (fun y => y ∉ lp :: h.l ∧ y < w7.heap.size) v8 recs by simpa using ho8)
                      have HAT8 := Lib.hid (show v8.ownBlock = none ∨ v8.ownBlock = some w7.heap.size by simpa [Value.ownBlock] using hat8)
                      have HRB8 := Lib.hid (HRB7.out.keep hk8 (G' := fun y => y ∉ lp :: h.l ∧ y < w7.heap.size) (by simp) (fun _ h => h))
                      have HK8 := Lib.hid hk8
                      have HNE8 := Lib.hid (show ∀ y, (y ∉ lp :: h.l ∧ y < w7.heap.size) → v8.ownBlock ≠ some y from fun y hy e => by
                        rcases HAT8.out with h | h
                        · rw [h] at e; simp at e
                        · rw [h] at e
                          have : w7.heap.size = y := by simpa using e
                          have := hy.2
                          omega)
                      have HLE8 := Lib.hid (show recs.length + b.length ≤ 1000000 by have := HRL.out; have := HLN.out; omega)
                      clear ho8 hg8 hat8 hk8
                      go_wp2_with (at_builtin; refine wpList_append_by rfl _ _ rfl rfl v8 recs b Ab cb _ rfl rfl HO8.out HRB8.out HNE8.out HLE8.out ?_)
                      intro v9 w9 ho9 hg9 hat9
                      obtain ⟨An, cn, hvn, hnn, hrown⟩ := ho9.form
                      have hk79 : Keeps [] w7 w9 := ((HK8.out.mono (T := v8.ownBlock.toList) (by simp)).trans (Keeps.of_grown hg9) (fun _ hi _ => hi)).mono (fun y hy hlt => by
                        rcases HAT8.out with h | h
                        · rw [h] at hy; simp at hy
                        · rw [h] at hy
                          have : y = w7.heap.size := by simpa using hy
                          omega)
                      have own9 : ∀ y, v9.ownBlock = some y → w7.heap.size ≤ y := fun y hy => by
                        rcases hat9 with h | h
                        · rw [h] at hy
                          rcases HAT8.out with h2 | h2
                          · rw [h2] at hy; simp at hy
                          · rw [h2] at hy
                            have : w7.heap.size = y := by simpa using hy
                            omega
                        · rw [h] at hy
                          have : w8.heap.size = y := by simpa using hy
                          have := HK8.out.size
                          omega
                      have HRN9 := Lib.hid (hrown.mono (G' := fun y => y ∉ lp :: h.l) (fun y hy hm => by
                        have := HR7.out.low y hm
                        rcases hy with hy | hy
                        · exact absurd hm (by simpa using hy.1)
                        · have := own9 y hy; omega))
                      have HRA9 := Lib.hid (HRA.out.keep hk79 (G' := fun y => y ∉ lp :: h.l) (by simp) (fun _ h => h))
                      have HRB9 := Lib.hid (HRB.out.keep hk79 (G' := fun y => y ∉ lp :: h.l) (by simp) (fun _ h => h))
                      have HR9 := Lib.hid (HR7.out.step hk79)
                      have HNN := Lib.hid hnn
                      have HNB25 := Lib.hid (show ∀ r ∈ recs ++ b, List.length r ≤ 255 from fun r hr => by
                        rcases List.mem_append.1 hr with h | h
                        · exact H25.out r h
                        · exact HB25.out r h)
                      subst hvn
                      have q1 := (HQ7.out.trans hk79 (by simp)).cell_some Q1.out (by simp)
                      clear ho9 hg9 hat9 hrown hk79 own9 hnn
                      by_cases h4 : what = 4
                      · subst h4
                        have HC := Lib.hid (HR9.out.reset cb HRB9.out HB25.out HLN.out)
                        go_wp2_with fail
                        refine HC.out.mono ?_
                        rintro e w10 ⟨n10, rfl, hk10, hout⟩
                        have HK10 := Lib.hid (HR9.out.on hk10)
                        have HRA10 := Lib.hid (HRA9.out.keep hk10 (G' := fun y => y ∉ lp :: h.l) (fun x hx hG => hG hx) (fun _ h => h))
                        have HRN10 := Lib.hid (HRB9.out.keep hk10 (G' := fun y => y ∉ lp :: h.l) (fun x hx hG => hG hx) (fun _ h => h))
                        clear hk10
                        rcases hout with rfl | ⟨rfl, B', d', g', r10⟩ | ⟨rfl, B', d', hdead, x10⟩
                        · go_wp2_with fail
                          go_ret
                          exact ⟨rfl, HK10.out⟩
                        · have HR10 := Lib.hid r10
                          clear r10
                          go_wp2_with fail
                          go_roundw
                          case rel => exact ⟨i + 1, lp, cb, B', d', g', b, Ab, by omega, by push_cast; rfl, rfl, rfl, HNB.out, HRN10.out, HR10.out, by have := HRL.out; have := HLN.out; omega, HB25.out⟩
                          case measure => simp [RowKit.intOf]; omega
                        · have HX10 := Lib.hid x10
                          have HDE := Lib.hid (show Calls Tryd.prog 22 #[.pointer (some ⟨h.p, 3, none⟩)] w10 fun e w' => e = .returned (.bool true) ∧ w10 = w' by
                            have := dead_any w10 h B' d' x10.disk
                            rw [hdead] at this
                            exact this)
                          clear x10 hdead
                          go_wp2_with fail
                          refine HDE.out.mono ?_
                          rintro e w' ⟨rfl, rfl⟩
                          by_cases hki : i < keep.length
                          · rcases HR4.out.keep0 HX10.out.keeps with h0 | ⟨b4, o4, rfl, hc4⟩
                            · rw [h0] at hki; simp at hki
                            · have q4 := hc4 i hki
                              obtain ⟨kk, hkk⟩ : ∃ kk, kk = keep[i] := ⟨_, rfl⟩
                              have KLT := Lib.hid (show kk < 18446744073709551616 by rw [hkk]; exact H64.out _ (List.getElem_mem hki))
                              rw [← hkk] at q4
                              clear hc4 hkk
                              have HCR := Lib.hid (HX10.out.crash kk KLT.out)
                              go_wp2_with fail
                              refine HCR.out.mono ?_
                              rintro e w11 ⟨rfl, hk11, rec, hrec, hfell⟩
                              have HOP := Lib.hid (hfell.opens (by omega))
                              have hk11' : Keeps (lp :: h.l) w10 w11 := hk11.mono (fun y hy _ => by simp [hy])
                              have HRA11 := Lib.hid (HRA10.out.keep hk11' (G' := fun y => y ∉ lp :: h.l) (fun x hx hG => hG hx) (fun _ h => h)).low
                              have HRN11 := Lib.hid (HRN10.out.keep hk11' (G' := fun y => y ∉ lp :: h.l) (fun x hx hG => hG hx) (fun _ h => h)).low
                              have HREC := Lib.hid hrec
                              clear hk11 hk11' hrec hfell
                              go_wp2_with fail
                              refine HOP.out.mono ?_
                              rintro e w12 ⟨lp12, A12, c12, d12, g12, rfl, hrow12, hk12, hlp12, r12⟩
                              have hto : ∀ y, (y ∉ lp :: h.l ∧ y < w11.heap.size) → y ∉ lp12 :: h.l := fun y hy hm => by
                                rcases List.mem_cons.1 hm with rfl | hm
                                · omega
                                · exact hy.1 (List.mem_cons_of_mem _ hm)
                              have HRA12 := Lib.hid (HRA11.out.keep hk12 (G' := fun y => y ∉ lp12 :: h.l) (fun x hx hG => hG.1 (List.mem_cons_of_mem _ hx)) hto)
                              have HRN12 := Lib.hid (HRN11.out.keep hk12 (G' := fun y => y ∉ lp12 :: h.l) (fun x hx hG => hG.1 (List.mem_cons_of_mem _ hx)) hto)
                              have HR12 := Lib.hid r12
                              have HRR12 := Lib.hid hrow12
                              have hm12 : rec.length ≤ maxLen := by
                                have := HRL.out
                                have := HLN.out
                                unfold maxLen
                                rcases HREC.out with h9 | h9
                                · rw [h9]; omega
                                · rw [h9]; omega
                              have HSA := Lib.hid (same_any w12 _ _ A12 Aa rec recs c12 ca hrow12 HRA12.out hm12)
                              have HSB := Lib.hid (fun w' (hk : Keeps [] w12 w') => same_any w' _ _ A12 Ab rec b c12 cb (HRR12.out.keep hk (by simp) (fun _ h => h)) (HRN12.out.keep hk (by simp) (fun _ h => h)) hm12)
                              have HDUM := Lib.hid (show True from trivial)
                              clear hrow12 hk12 hlp12 r12 hto hm12
                              by_cases hsame : rec = recs
                              · have hdd : decide (rec = recs) = true := by simpa using hsame
                                have HRE := Lib.hid hsame
                                clear hsame
                                go_wp2_with fail
                                refine HSA.out.mono ?_
                                rintro e w13 ⟨rfl, hk13⟩
                                have HR13 := Lib.hid (HR12.out.step hk13)
                                have HRA13 := Lib.hid (HRA12.out.keep hk13 (G' := fun y => y ∉ lp12 :: h.l) (by simp) (fun _ h => h))
                                clear hk13
                                go_wp2_with fail
                                go_roundw
                                case rel => exact ⟨i + 1, lp12, ca, B', d12, g12, recs, Aa, by omega, by push_cast; rfl, rfl, rfl, HNA.out, HRA13.out, by have := HR13.out; rwa [HRE.out] at this, by have := HRL.out; omega, H25.out⟩
                                case measure => simp [RowKit.intOf]; omega
                              · have hdd : decide (rec = recs) = false := by simpa using hsame
                                have hne : rec = b := HREC.out.resolve_left hsame
                                have hdn : decide (rec = b) = true := by simpa using hne
                                have HRE := Lib.hid hne
                                clear hsame hne
                                go_wp2_with fail
                                refine HSA.out.mono ?_
                                rintro e w13 ⟨rfl, hk13⟩
                                have HSB' := Lib.hid (HSB.out w13 hk13)
                                have HK13 := Lib.hid hk13
                                clear hk13
                                go_wp2_with fail
                                refine HSB'.out.mono ?_
                                rintro e w14 ⟨rfl, hk14⟩
                                have HK14 := Lib.hid (HK13.out.trans hk14 (by simp))
                                have HR14 := Lib.hid (HR12.out.step HK14.out)
                                have HRN14 := Lib.hid (HRN12.out.keep HK14.out (G' := fun y => y ∉ lp12 :: h.l) (by simp) (fun _ h => h))
                                clear hk14
                                go_wp2_with fail
                                go_roundw
                                case rel => exact ⟨i + 1, lp12, cb, B', d12, g12, b, Ab, by omega, by push_cast; rfl, rfl, rfl, HNB.out, HRN14.out, by have := HR14.out; rwa [HRE.out] at this, by have := HRL.out; have := HLN.out; omega, HB25.out⟩
                                case measure => simp [RowKit.intOf]; omega
                          · have HDU2 := Lib.hid (show True from trivial)
                            have HCR := Lib.hid (HX10.out.crash 0 (by omega))
                            go_wp2_with fail
                            refine HCR.out.mono ?_
                            rintro e w11 ⟨rfl, hk11, rec, hrec, hfell⟩
                            have HOP := Lib.hid (hfell.opens (by omega))
                            have hk11' : Keeps (lp :: h.l) w10 w11 := hk11.mono (fun y hy _ => by simp [hy])
                            have HRA11 := Lib.hid (HRA10.out.keep hk11' (G' := fun y => y ∉ lp :: h.l) (fun x hx hG => hG hx) (fun _ h => h)).low
                            have HRN11 := Lib.hid (HRN10.out.keep hk11' (G' := fun y => y ∉ lp :: h.l) (fun x hx hG => hG hx) (fun _ h => h)).low
                            have HREC := Lib.hid hrec
                            clear hk11 hk11' hrec hfell
                            go_wp2_with fail
                            refine HOP.out.mono ?_
                            rintro e w12 ⟨lp12, A12, c12, d12, g12, rfl, hrow12, hk12, hlp12, r12⟩
                            have hto : ∀ y, (y ∉ lp :: h.l ∧ y < w11.heap.size) → y ∉ lp12 :: h.l := fun y hy hm => by
                              rcases List.mem_cons.1 hm with rfl | hm
                              · omega
                              · exact hy.1 (List.mem_cons_of_mem _ hm)
                            have HRA12 := Lib.hid (HRA11.out.keep hk12 (G' := fun y => y ∉ lp12 :: h.l) (fun x hx hG => hG.1 (List.mem_cons_of_mem _ hx)) hto)
                            have HRN12 := Lib.hid (HRN11.out.keep hk12 (G' := fun y => y ∉ lp12 :: h.l) (fun x hx hG => hG.1 (List.mem_cons_of_mem _ hx)) hto)
                            have HR12 := Lib.hid r12
                            have HRR12 := Lib.hid hrow12
                            have hm12 : rec.length ≤ maxLen := by
                              have := HRL.out
                              have := HLN.out
                              unfold maxLen
                              rcases HREC.out with h9 | h9
                              · rw [h9]; omega
                              · rw [h9]; omega
                            have HSA := Lib.hid (same_any w12 _ _ A12 Aa rec recs c12 ca hrow12 HRA12.out hm12)
                            have HSB := Lib.hid (fun w' (hk : Keeps [] w12 w') => same_any w' _ _ A12 Ab rec b c12 cb (HRR12.out.keep hk (by simp) (fun _ h => h)) (HRN12.out.keep hk (by simp) (fun _ h => h)) hm12)
                            have HDUM := Lib.hid (show True from trivial)
                            clear hrow12 hk12 hlp12 r12 hto hm12
                            by_cases hsame : rec = recs
                            · have hdd : decide (rec = recs) = true := by simpa using hsame
                              have HRE := Lib.hid hsame
                              clear hsame
                              go_wp2_with fail
                              refine HSA.out.mono ?_
                              rintro e w13 ⟨rfl, hk13⟩
                              have HR13 := Lib.hid (HR12.out.step hk13)
                              have HRA13 := Lib.hid (HRA12.out.keep hk13 (G' := fun y => y ∉ lp12 :: h.l) (by simp) (fun _ h => h))
                              clear hk13
                              go_wp2_with fail
                              go_roundw
                              case rel => exact ⟨i + 1, lp12, ca, B', d12, g12, recs, Aa, by omega, by push_cast; rfl, rfl, rfl, HNA.out, HRA13.out, by have := HR13.out; rwa [HRE.out] at this, by have := HRL.out; omega, H25.out⟩
                              case measure => simp [RowKit.intOf]; omega
                            · have hdd : decide (rec = recs) = false := by simpa using hsame
                              have hne : rec = b := HREC.out.resolve_left hsame
                              have hdn : decide (rec = b) = true := by simpa using hne
                              have HRE := Lib.hid hne
                              clear hsame hne
                              go_wp2_with fail
                              refine HSA.out.mono ?_
                              rintro e w13 ⟨rfl, hk13⟩
                              have HSB' := Lib.hid (HSB.out w13 hk13)
                              have HK13 := Lib.hid hk13
                              clear hk13
                              go_wp2_with fail
                              refine HSB'.out.mono ?_
                              rintro e w14 ⟨rfl, hk14⟩
                              have HK14 := Lib.hid (HK13.out.trans hk14 (by simp))
                              have HR14 := Lib.hid (HR12.out.step HK14.out)
                              have HRN14 := Lib.hid (HRN12.out.keep HK14.out (G' := fun y => y ∉ lp12 :: h.l) (by simp) (fun _ h => h))
                              clear hk14
                              go_wp2_with fail
                              go_roundw
                              case rel => exact ⟨i + 1, lp12, cb, B', d12, g12, b, Ab, by omega, by push_cast; rfl, rfl, rfl, HNB.out, HRN14.out, by have := HR14.out; rwa [HRE.out] at this, by have := HRL.out; have := HLN.out; omega, HB25.out⟩
                              case measure => simp [RowKit.intOf]; omega
                      · have e4 : (what == 4) = false := by simpa using h4
                        have e4' : decide (what = 4) = false := by simpa using h4
                        have HC := Lib.hid (HR9.out.commit cb HRB9.out HB25.out HLN.out (by have := HRL.out; omega))
                        go_wp2_with fail
                        refine HC.out.mono ?_
                        rintro e w10 ⟨n10, rfl, hk10, hout⟩
                        have HK10 := Lib.hid (HR9.out.on hk10)
                        have HRA10 := Lib.hid (HRA9.out.keep hk10 (G' := fun y => y ∉ lp :: h.l) (fun x hx hG => hG hx) (fun _ h => h))
                        have HRN10 := Lib.hid (HRN9.out.keep hk10 (G' := fun y => y ∉ lp :: h.l) (fun x hx hG => hG hx) (fun _ h => h))
                        clear hk10
                        rcases hout with rfl | ⟨rfl, B', d', g', r10⟩ | ⟨rfl, B', d', hdead, x10⟩
                        · go_wp2_with fail
                          go_ret
                          exact ⟨rfl, HK10.out⟩
                        · have HR10 := Lib.hid r10
                          clear r10
                          go_wp2_with fail
                          go_roundw
                          case rel => exact ⟨i + 1, lp, cn, B', d', g', (recs ++ b), An, by omega, by push_cast; rfl, rfl, by rw [List.length_append], HNN.out, HRN10.out, HR10.out, by have := HRL.out; have := HLN.out; rw [List.length_append]; omega, HNB25.out⟩
                          case measure => simp [RowKit.intOf]; omega
                        · have HX10 := Lib.hid x10
                          have HDE := Lib.hid (show Calls Tryd.prog 22 #[.pointer (some ⟨h.p, 3, none⟩)] w10 fun e w' => e = .returned (.bool true) ∧ w10 = w' by
                            have := dead_any w10 h B' d' x10.disk
                            rw [hdead] at this
                            exact this)
                          clear x10 hdead
                          go_wp2_with fail
                          refine HDE.out.mono ?_
                          rintro e w' ⟨rfl, rfl⟩
                          by_cases hki : i < keep.length
                          · rcases HR4.out.keep0 HX10.out.keeps with h0 | ⟨b4, o4, rfl, hc4⟩
                            · rw [h0] at hki; simp at hki
                            · have q4 := hc4 i hki
                              obtain ⟨kk, hkk⟩ : ∃ kk, kk = keep[i] := ⟨_, rfl⟩
                              have KLT := Lib.hid (show kk < 18446744073709551616 by rw [hkk]; exact H64.out _ (List.getElem_mem hki))
                              rw [← hkk] at q4
                              clear hc4 hkk
                              have HCR := Lib.hid (HX10.out.crash kk KLT.out)
                              go_wp2_with fail
                              refine HCR.out.mono ?_
                              rintro e w11 ⟨rfl, hk11, rec, hrec, hfell⟩
                              have HOP := Lib.hid (hfell.opens (by omega))
                              have hk11' : Keeps (lp :: h.l) w10 w11 := hk11.mono (fun y hy _ => by simp [hy])
                              have HRA11 := Lib.hid (HRA10.out.keep hk11' (G' := fun y => y ∉ lp :: h.l) (fun x hx hG => hG hx) (fun _ h => h)).low
                              have HRN11 := Lib.hid (HRN10.out.keep hk11' (G' := fun y => y ∉ lp :: h.l) (fun x hx hG => hG hx) (fun _ h => h)).low
                              have HREC := Lib.hid hrec
                              clear hk11 hk11' hrec hfell
                              go_wp2_with fail
                              refine HOP.out.mono ?_
                              rintro e w12 ⟨lp12, A12, c12, d12, g12, rfl, hrow12, hk12, hlp12, r12⟩
                              have hto : ∀ y, (y ∉ lp :: h.l ∧ y < w11.heap.size) → y ∉ lp12 :: h.l := fun y hy hm => by
                                rcases List.mem_cons.1 hm with rfl | hm
                                · omega
                                · exact hy.1 (List.mem_cons_of_mem _ hm)
                              have HRA12 := Lib.hid (HRA11.out.keep hk12 (G' := fun y => y ∉ lp12 :: h.l) (fun x hx hG => hG.1 (List.mem_cons_of_mem _ hx)) hto)
                              have HRN12 := Lib.hid (HRN11.out.keep hk12 (G' := fun y => y ∉ lp12 :: h.l) (fun x hx hG => hG.1 (List.mem_cons_of_mem _ hx)) hto)
                              have HR12 := Lib.hid r12
                              have HRR12 := Lib.hid hrow12
                              have hm12 : rec.length ≤ maxLen := by
                                have := HRL.out
                                have := HLN.out
                                unfold maxLen
                                rcases HREC.out with h9 | h9
                                · rw [h9]; omega
                                · rw [h9]; rw [List.length_append]; omega
                              have HSA := Lib.hid (same_any w12 _ _ A12 Aa rec recs c12 ca hrow12 HRA12.out hm12)
                              have HSB := Lib.hid (fun w' (hk : Keeps [] w12 w') => same_any w' _ _ A12 An rec (recs ++ b) c12 cn (HRR12.out.keep hk (by simp) (fun _ h => h)) (HRN12.out.keep hk (by simp) (fun _ h => h)) hm12)
                              simp only [List.length_append] at HSB
                              clear hrow12 hk12 hlp12 r12 hto hm12
                              by_cases hsame : rec = recs
                              · have hdd : decide (rec = recs) = true := by simpa using hsame
                                have HRE := Lib.hid hsame
                                clear hsame
                                go_wp2_with fail
                                refine HSA.out.mono ?_
                                rintro e w13 ⟨rfl, hk13⟩
                                have HR13 := Lib.hid (HR12.out.step hk13)
                                have HRA13 := Lib.hid (HRA12.out.keep hk13 (G' := fun y => y ∉ lp12 :: h.l) (by simp) (fun _ h => h))
                                clear hk13
                                go_wp2_with fail
                                go_roundw
                                case rel => exact ⟨i + 1, lp12, ca, B', d12, g12, recs, Aa, by omega, by push_cast; rfl, rfl, rfl, HNA.out, HRA13.out, by have := HR13.out; rwa [HRE.out] at this, by have := HRL.out; omega, H25.out⟩
                                case measure => simp [RowKit.intOf]; omega
                              · have hdd : decide (rec = recs) = false := by simpa using hsame
                                have hne : rec = (recs ++ b) := HREC.out.resolve_left hsame
                                have hdn : decide (rec = (recs ++ b)) = true := by simpa using hne
                                have HRE := Lib.hid hne
                                clear hsame hne
                                go_wp2_with fail
                                refine HSA.out.mono ?_
                                rintro e w13 ⟨rfl, hk13⟩
                                have HSB' := Lib.hid (HSB.out w13 hk13)
                                have HK13 := Lib.hid hk13
                                clear hk13
                                go_wp2_with fail
                                refine HSB'.out.mono ?_
                                rintro e w14 ⟨rfl, hk14⟩
                                have HK14 := Lib.hid (HK13.out.trans hk14 (by simp))
                                have HR14 := Lib.hid (HR12.out.step HK14.out)
                                have HRN14 := Lib.hid (HRN12.out.keep HK14.out (G' := fun y => y ∉ lp12 :: h.l) (by simp) (fun _ h => h))
                                clear hk14
                                go_wp2_with fail
                                go_roundw
                                case rel => exact ⟨i + 1, lp12, cn, B', d12, g12, (recs ++ b), An, by omega, by push_cast; rfl, rfl, by rw [List.length_append], HNN.out, HRN14.out, by have := HR14.out; rwa [HRE.out] at this, by have := HRL.out; have := HLN.out; rw [List.length_append]; omega, HNB25.out⟩
                                case measure => simp [RowKit.intOf]; omega
                          · have HDU2 := Lib.hid (show True from trivial)
                            have HCR := Lib.hid (HX10.out.crash 0 (by omega))
                            go_wp2_with fail
                            refine HCR.out.mono ?_
                            rintro e w11 ⟨rfl, hk11, rec, hrec, hfell⟩
                            have HOP := Lib.hid (hfell.opens (by omega))
                            have hk11' : Keeps (lp :: h.l) w10 w11 := hk11.mono (fun y hy _ => by simp [hy])
                            have HRA11 := Lib.hid (HRA10.out.keep hk11' (G' := fun y => y ∉ lp :: h.l) (fun x hx hG => hG hx) (fun _ h => h)).low
                            have HRN11 := Lib.hid (HRN10.out.keep hk11' (G' := fun y => y ∉ lp :: h.l) (fun x hx hG => hG hx) (fun _ h => h)).low
                            have HREC := Lib.hid hrec
                            clear hk11 hk11' hrec hfell
                            go_wp2_with fail
                            refine HOP.out.mono ?_
                            rintro e w12 ⟨lp12, A12, c12, d12, g12, rfl, hrow12, hk12, hlp12, r12⟩
                            have hto : ∀ y, (y ∉ lp :: h.l ∧ y < w11.heap.size) → y ∉ lp12 :: h.l := fun y hy hm => by
                              rcases List.mem_cons.1 hm with rfl | hm
                              · omega
                              · exact hy.1 (List.mem_cons_of_mem _ hm)
                            have HRA12 := Lib.hid (HRA11.out.keep hk12 (G' := fun y => y ∉ lp12 :: h.l) (fun x hx hG => hG.1 (List.mem_cons_of_mem _ hx)) hto)
                            have HRN12 := Lib.hid (HRN11.out.keep hk12 (G' := fun y => y ∉ lp12 :: h.l) (fun x hx hG => hG.1 (List.mem_cons_of_mem _ hx)) hto)
                            have HR12 := Lib.hid r12
                            have HRR12 := Lib.hid hrow12
                            have hm12 : rec.length ≤ maxLen := by
                              have := HRL.out
                              have := HLN.out
                              unfold maxLen
                              rcases HREC.out with h9 | h9
                              · rw [h9]; omega
                              · rw [h9]; rw [List.length_append]; omega
                            have HSA := Lib.hid (same_any w12 _ _ A12 Aa rec recs c12 ca hrow12 HRA12.out hm12)
                            have HSB := Lib.hid (fun w' (hk : Keeps [] w12 w') => same_any w' _ _ A12 An rec (recs ++ b) c12 cn (HRR12.out.keep hk (by simp) (fun _ h => h)) (HRN12.out.keep hk (by simp) (fun _ h => h)) hm12)
                            simp only [List.length_append] at HSB
                            clear hrow12 hk12 hlp12 r12 hto hm12
                            by_cases hsame : rec = recs
                            · have hdd : decide (rec = recs) = true := by simpa using hsame
                              have HRE := Lib.hid hsame
                              clear hsame
                              go_wp2_with fail
                              refine HSA.out.mono ?_
                              rintro e w13 ⟨rfl, hk13⟩
                              have HR13 := Lib.hid (HR12.out.step hk13)
                              have HRA13 := Lib.hid (HRA12.out.keep hk13 (G' := fun y => y ∉ lp12 :: h.l) (by simp) (fun _ h => h))
                              clear hk13
                              go_wp2_with fail
                              go_roundw
                              case rel => exact ⟨i + 1, lp12, ca, B', d12, g12, recs, Aa, by omega, by push_cast; rfl, rfl, rfl, HNA.out, HRA13.out, by have := HR13.out; rwa [HRE.out] at this, by have := HRL.out; omega, H25.out⟩
                              case measure => simp [RowKit.intOf]; omega
                            · have hdd : decide (rec = recs) = false := by simpa using hsame
                              have hne : rec = (recs ++ b) := HREC.out.resolve_left hsame
                              have hdn : decide (rec = (recs ++ b)) = true := by simpa using hne
                              have HRE := Lib.hid hne
                              clear hsame hne
                              go_wp2_with fail
                              refine HSA.out.mono ?_
                              rintro e w13 ⟨rfl, hk13⟩
                              have HSB' := Lib.hid (HSB.out w13 hk13)
                              have HK13 := Lib.hid hk13
                              clear hk13
                              go_wp2_with fail
                              refine HSB'.out.mono ?_
                              rintro e w14 ⟨rfl, hk14⟩
                              have HK14 := Lib.hid (HK13.out.trans hk14 (by simp))
                              have HR14 := Lib.hid (HR12.out.step HK14.out)
                              have HRN14 := Lib.hid (HRN12.out.keep HK14.out (G' := fun y => y ∉ lp12 :: h.l) (by simp) (fun _ h => h))
                              clear hk14
                              go_wp2_with fail
                              go_roundw
                              case rel => exact ⟨i + 1, lp12, cn, B', d12, g12, (recs ++ b), An, by omega, by push_cast; rfl, rfl, by rw [List.length_append], HNN.out, HRN14.out, by have := HR14.out; rwa [HRE.out] at this, by have := HRL.out; have := HLN.out; rw [List.length_append]; omega, HNB25.out⟩
                              case measure => simp [RowKit.intOf]; omega
                · have eci : decide ((i : Int) < (cuts.length : Int)) = false := by simp; omega
                  obtain ⟨w7, hw7⟩ : ∃ w7, w7 = w6 := ⟨_, rfl⟩
                  rw [← hw7] at HR6 HRA6 HRB6
                  subst hw7
                  have HR7 := HR6
                  have HQ7 := Lib.hid (show Keeps [] w w7 from HR7.out.keeps)
                  have HRA := HRA6
                  have HRB := HRB6
                  have HRA7 := Lib.hid HRA.out.low
                  have HRB7 := Lib.hid HRB.out.low
                  go_wp2_with (at_builtin; refine wpList_append_by rfl _ _ rfl rfl (.slice none 0 0) [] recs Aa ca _ rfl rfl (RowsBy.nil _ _) HRA7.out (fun y _ => by simp [Value.ownBlock]) (by have := HRL.out; simp; omega) ?_)
                  intro v8 w8 ho8 hg8 hat8
                  have hk8 : Keeps [] w7 w8 := (Keeps.of_grown hg8).mono (by simp [Value.ownBlock])
                  have HO8 := Lib.hid (show RowsBy w8 (fun y => y ∉ lp :: h.l ∧ y < w7.heap.size) v8 recs by simpa using ho8)
                  have HAT8 := Lib.hid (show v8.ownBlock = none ∨ v8.ownBlock = some w7.heap.size by simpa [Value.ownBlock] using hat8)
                  have HRB8 := Lib.hid (HRB7.out.keep hk8 (G' := fun y => y ∉ lp :: h.l ∧ y < w7.heap.size) (by simp) (fun _ h => h))
                  have HK8 := Lib.hid hk8
                  have HNE8 := Lib.hid (show ∀ y, (y ∉ lp :: h.l ∧ y < w7.heap.size) → v8.ownBlock ≠ some y from fun y hy e => by
                    rcases HAT8.out with h | h
                    · rw [h] at e; simp at e
                    · rw [h] at e
                      have : w7.heap.size = y := by simpa using e
                      have := hy.2
                      omega)
                  have HLE8 := Lib.hid (show recs.length + b.length ≤ 1000000 by have := HRL.out; have := HLN.out; omega)
                  clear ho8 hg8 hat8 hk8
                  go_wp2_with (at_builtin; refine wpList_append_by rfl _ _ rfl rfl v8 recs b Ab cb _ rfl rfl HO8.out HRB8.out HNE8.out HLE8.out ?_)
                  intro v9 w9 ho9 hg9 hat9
                  obtain ⟨An, cn, hvn, hnn, hrown⟩ := ho9.form
                  have hk79 : Keeps [] w7 w9 := ((HK8.out.mono (T := v8.ownBlock.toList) (by simp)).trans (Keeps.of_grown hg9) (fun _ hi _ => hi)).mono (fun y hy hlt => by
                    rcases HAT8.out with h | h
                    · rw [h] at hy; simp at hy
                    · rw [h] at hy
                      have : y = w7.heap.size := by simpa using hy
                      omega)
                  have own9 : ∀ y, v9.ownBlock = some y → w7.heap.size ≤ y := fun y hy => by
                    rcases hat9 with h | h
                    · rw [h] at hy
                      rcases HAT8.out with h2 | h2
                      · rw [h2] at hy; simp at hy
                      · rw [h2] at hy
                        have : w7.heap.size = y := by simpa using hy
                        omega
                    · rw [h] at hy
                      have : w8.heap.size = y := by simpa using hy
                      have := HK8.out.size
                      omega
                  have HRN9 := Lib.hid (hrown.mono (G' := fun y => y ∉ lp :: h.l) (fun y hy hm => by
                    have := HR7.out.low y hm
                    rcases hy with hy | hy
                    · exact absurd hm (by simpa using hy.1)
                    · have := own9 y hy; omega))
                  have HRA9 := Lib.hid (HRA.out.keep hk79 (G' := fun y => y ∉ lp :: h.l) (by simp) (fun _ h => h))
                  have HRB9 := Lib.hid (HRB.out.keep hk79 (G' := fun y => y ∉ lp :: h.l) (by simp) (fun _ h => h))
                  have HR9 := Lib.hid (HR7.out.step hk79)
                  have HNN := Lib.hid hnn
                  have HNB25 := Lib.hid (show ∀ r ∈ recs ++ b, List.length r ≤ 255 from fun r hr => by
                    rcases List.mem_append.1 hr with h | h
                    · exact H25.out r h
                    · exact HB25.out r h)
                  subst hvn
                  have q1 := (HQ7.out.trans hk79 (by simp)).cell_some Q1.out (by simp)
                  clear ho9 hg9 hat9 hrown hk79 own9 hnn
                  by_cases h4 : what = 4
                  · subst h4
                    have HC := Lib.hid (HR9.out.reset cb HRB9.out HB25.out HLN.out)
                    go_wp2_with fail
                    refine HC.out.mono ?_
                    rintro e w10 ⟨n10, rfl, hk10, hout⟩
                    have HK10 := Lib.hid (HR9.out.on hk10)
                    have HRA10 := Lib.hid (HRA9.out.keep hk10 (G' := fun y => y ∉ lp :: h.l) (fun x hx hG => hG hx) (fun _ h => h))
                    have HRN10 := Lib.hid (HRB9.out.keep hk10 (G' := fun y => y ∉ lp :: h.l) (fun x hx hG => hG hx) (fun _ h => h))
                    clear hk10
                    rcases hout with rfl | ⟨rfl, B', d', g', r10⟩ | ⟨rfl, B', d', hdead, x10⟩
                    · go_wp2_with fail
                      go_ret
                      exact ⟨rfl, HK10.out⟩
                    · have HR10 := Lib.hid r10
                      clear r10
                      go_wp2_with fail
                      go_roundw
                      case rel => exact ⟨i + 1, lp, cb, B', d', g', b, Ab, by omega, by push_cast; rfl, rfl, rfl, HNB.out, HRN10.out, HR10.out, by have := HRL.out; have := HLN.out; omega, HB25.out⟩
                      case measure => simp [RowKit.intOf]; omega
                    · have HX10 := Lib.hid x10
                      have HDE := Lib.hid (show Calls Tryd.prog 22 #[.pointer (some ⟨h.p, 3, none⟩)] w10 fun e w' => e = .returned (.bool true) ∧ w10 = w' by
                        have := dead_any w10 h B' d' x10.disk
                        rw [hdead] at this
                        exact this)
                      clear x10 hdead
                      go_wp2_with fail
                      refine HDE.out.mono ?_
                      rintro e w' ⟨rfl, rfl⟩
                      by_cases hki : i < keep.length
                      · rcases HR4.out.keep0 HX10.out.keeps with h0 | ⟨b4, o4, rfl, hc4⟩
                        · rw [h0] at hki; simp at hki
                        · have q4 := hc4 i hki
                          obtain ⟨kk, hkk⟩ : ∃ kk, kk = keep[i] := ⟨_, rfl⟩
                          have KLT := Lib.hid (show kk < 18446744073709551616 by rw [hkk]; exact H64.out _ (List.getElem_mem hki))
                          rw [← hkk] at q4
                          clear hc4 hkk
                          have HCR := Lib.hid (HX10.out.crash kk KLT.out)
                          go_wp2_with fail
                          refine HCR.out.mono ?_
                          rintro e w11 ⟨rfl, hk11, rec, hrec, hfell⟩
                          have HOP := Lib.hid (hfell.opens (by omega))
                          have hk11' : Keeps (lp :: h.l) w10 w11 := hk11.mono (fun y hy _ => by simp [hy])
                          have HRA11 := Lib.hid (HRA10.out.keep hk11' (G' := fun y => y ∉ lp :: h.l) (fun x hx hG => hG hx) (fun _ h => h)).low
                          have HRN11 := Lib.hid (HRN10.out.keep hk11' (G' := fun y => y ∉ lp :: h.l) (fun x hx hG => hG hx) (fun _ h => h)).low
                          have HREC := Lib.hid hrec
                          clear hk11 hk11' hrec hfell
                          go_wp2_with fail
                          refine HOP.out.mono ?_
                          rintro e w12 ⟨lp12, A12, c12, d12, g12, rfl, hrow12, hk12, hlp12, r12⟩
                          have hto : ∀ y, (y ∉ lp :: h.l ∧ y < w11.heap.size) → y ∉ lp12 :: h.l := fun y hy hm => by
                            rcases List.mem_cons.1 hm with rfl | hm
                            · omega
                            · exact hy.1 (List.mem_cons_of_mem _ hm)
                          have HRA12 := Lib.hid (HRA11.out.keep hk12 (G' := fun y => y ∉ lp12 :: h.l) (fun x hx hG => hG.1 (List.mem_cons_of_mem _ hx)) hto)
                          have HRN12 := Lib.hid (HRN11.out.keep hk12 (G' := fun y => y ∉ lp12 :: h.l) (fun x hx hG => hG.1 (List.mem_cons_of_mem _ hx)) hto)
                          have HR12 := Lib.hid r12
                          have HRR12 := Lib.hid hrow12
                          have hm12 : rec.length ≤ maxLen := by
                            have := HRL.out
                            have := HLN.out
                            unfold maxLen
                            rcases HREC.out with h9 | h9
                            · rw [h9]; omega
                            · rw [h9]; omega
                          have HSA := Lib.hid (same_any w12 _ _ A12 Aa rec recs c12 ca hrow12 HRA12.out hm12)
                          have HSB := Lib.hid (fun w' (hk : Keeps [] w12 w') => same_any w' _ _ A12 Ab rec b c12 cb (HRR12.out.keep hk (by simp) (fun _ h => h)) (HRN12.out.keep hk (by simp) (fun _ h => h)) hm12)
                          have HDUM := Lib.hid (show True from trivial)
                          clear hrow12 hk12 hlp12 r12 hto hm12
                          by_cases hsame : rec = recs
                          · have hdd : decide (rec = recs) = true := by simpa using hsame
                            have HRE := Lib.hid hsame
                            clear hsame
                            go_wp2_with fail
                            refine HSA.out.mono ?_
                            rintro e w13 ⟨rfl, hk13⟩
                            have HR13 := Lib.hid (HR12.out.step hk13)
                            have HRA13 := Lib.hid (HRA12.out.keep hk13 (G' := fun y => y ∉ lp12 :: h.l) (by simp) (fun _ h => h))
                            clear hk13
                            go_wp2_with fail
                            go_roundw
                            case rel => exact ⟨i + 1, lp12, ca, B', d12, g12, recs, Aa, by omega, by push_cast; rfl, rfl, rfl, HNA.out, HRA13.out, by have := HR13.out; rwa [HRE.out] at this, by have := HRL.out; omega, H25.out⟩
                            case measure => simp [RowKit.intOf]; omega
                          · have hdd : decide (rec = recs) = false := by simpa using hsame
                            have hne : rec = b := HREC.out.resolve_left hsame
                            have hdn : decide (rec = b) = true := by simpa using hne
                            have HRE := Lib.hid hne
                            clear hsame hne
                            go_wp2_with fail
                            refine HSA.out.mono ?_
                            rintro e w13 ⟨rfl, hk13⟩
                            have HSB' := Lib.hid (HSB.out w13 hk13)
                            have HK13 := Lib.hid hk13
                            clear hk13
                            go_wp2_with fail
                            refine HSB'.out.mono ?_
                            rintro e w14 ⟨rfl, hk14⟩
                            have HK14 := Lib.hid (HK13.out.trans hk14 (by simp))
                            have HR14 := Lib.hid (HR12.out.step HK14.out)
                            have HRN14 := Lib.hid (HRN12.out.keep HK14.out (G' := fun y => y ∉ lp12 :: h.l) (by simp) (fun _ h => h))
                            clear hk14
                            go_wp2_with fail
                            go_roundw
                            case rel => exact ⟨i + 1, lp12, cb, B', d12, g12, b, Ab, by omega, by push_cast; rfl, rfl, rfl, HNB.out, HRN14.out, by have := HR14.out; rwa [HRE.out] at this, by have := HRL.out; have := HLN.out; omega, HB25.out⟩
                            case measure => simp [RowKit.intOf]; omega
                      · have HDU2 := Lib.hid (show True from trivial)
                        have HCR := Lib.hid (HX10.out.crash 0 (by omega))
                        go_wp2_with fail
                        refine HCR.out.mono ?_
                        rintro e w11 ⟨rfl, hk11, rec, hrec, hfell⟩
                        have HOP := Lib.hid (hfell.opens (by omega))
                        have hk11' : Keeps (lp :: h.l) w10 w11 := hk11.mono (fun y hy _ => by simp [hy])
                        have HRA11 := Lib.hid (HRA10.out.keep hk11' (G' := fun y => y ∉ lp :: h.l) (fun x hx hG => hG hx) (fun _ h => h)).low
                        have HRN11 := Lib.hid (HRN10.out.keep hk11' (G' := fun y => y ∉ lp :: h.l) (fun x hx hG => hG hx) (fun _ h => h)).low
                        have HREC := Lib.hid hrec
                        clear hk11 hk11' hrec hfell
                        go_wp2_with fail
                        refine HOP.out.mono ?_
                        rintro e w12 ⟨lp12, A12, c12, d12, g12, rfl, hrow12, hk12, hlp12, r12⟩
                        have hto : ∀ y, (y ∉ lp :: h.l ∧ y < w11.heap.size) → y ∉ lp12 :: h.l := fun y hy hm => by
                          rcases List.mem_cons.1 hm with rfl | hm
                          · omega
                          · exact hy.1 (List.mem_cons_of_mem _ hm)
                        have HRA12 := Lib.hid (HRA11.out.keep hk12 (G' := fun y => y ∉ lp12 :: h.l) (fun x hx hG => hG.1 (List.mem_cons_of_mem _ hx)) hto)
                        have HRN12 := Lib.hid (HRN11.out.keep hk12 (G' := fun y => y ∉ lp12 :: h.l) (fun x hx hG => hG.1 (List.mem_cons_of_mem _ hx)) hto)
                        have HR12 := Lib.hid r12
                        have HRR12 := Lib.hid hrow12
                        have hm12 : rec.length ≤ maxLen := by
                          have := HRL.out
                          have := HLN.out
                          unfold maxLen
                          rcases HREC.out with h9 | h9
                          · rw [h9]; omega
                          · rw [h9]; omega
                        have HSA := Lib.hid (same_any w12 _ _ A12 Aa rec recs c12 ca hrow12 HRA12.out hm12)
                        have HSB := Lib.hid (fun w' (hk : Keeps [] w12 w') => same_any w' _ _ A12 Ab rec b c12 cb (HRR12.out.keep hk (by simp) (fun _ h => h)) (HRN12.out.keep hk (by simp) (fun _ h => h)) hm12)
                        have HDUM := Lib.hid (show True from trivial)
                        clear hrow12 hk12 hlp12 r12 hto hm12
                        by_cases hsame : rec = recs
                        · have hdd : decide (rec = recs) = true := by simpa using hsame
                          have HRE := Lib.hid hsame
                          clear hsame
                          go_wp2_with fail
                          refine HSA.out.mono ?_
                          rintro e w13 ⟨rfl, hk13⟩
                          have HR13 := Lib.hid (HR12.out.step hk13)
                          have HRA13 := Lib.hid (HRA12.out.keep hk13 (G' := fun y => y ∉ lp12 :: h.l) (by simp) (fun _ h => h))
                          clear hk13
                          go_wp2_with fail
                          go_roundw
                          case rel => exact ⟨i + 1, lp12, ca, B', d12, g12, recs, Aa, by omega, by push_cast; rfl, rfl, rfl, HNA.out, HRA13.out, by have := HR13.out; rwa [HRE.out] at this, by have := HRL.out; omega, H25.out⟩
                          case measure => simp [RowKit.intOf]; omega
                        · have hdd : decide (rec = recs) = false := by simpa using hsame
                          have hne : rec = b := HREC.out.resolve_left hsame
                          have hdn : decide (rec = b) = true := by simpa using hne
                          have HRE := Lib.hid hne
                          clear hsame hne
                          go_wp2_with fail
                          refine HSA.out.mono ?_
                          rintro e w13 ⟨rfl, hk13⟩
                          have HSB' := Lib.hid (HSB.out w13 hk13)
                          have HK13 := Lib.hid hk13
                          clear hk13
                          go_wp2_with fail
                          refine HSB'.out.mono ?_
                          rintro e w14 ⟨rfl, hk14⟩
                          have HK14 := Lib.hid (HK13.out.trans hk14 (by simp))
                          have HR14 := Lib.hid (HR12.out.step HK14.out)
                          have HRN14 := Lib.hid (HRN12.out.keep HK14.out (G' := fun y => y ∉ lp12 :: h.l) (by simp) (fun _ h => h))
                          clear hk14
                          go_wp2_with fail
                          go_roundw
                          case rel => exact ⟨i + 1, lp12, cb, B', d12, g12, b, Ab, by omega, by push_cast; rfl, rfl, rfl, HNB.out, HRN14.out, by have := HR14.out; rwa [HRE.out] at this, by have := HRL.out; have := HLN.out; omega, HB25.out⟩
                          case measure => simp [RowKit.intOf]; omega
                  · have e4 : (what == 4) = false := by simpa using h4
                    have e4' : decide (what = 4) = false := by simpa using h4
                    have HC := Lib.hid (HR9.out.commit cb HRB9.out HB25.out HLN.out (by have := HRL.out; omega))
                    go_wp2_with fail
                    refine HC.out.mono ?_
                    rintro e w10 ⟨n10, rfl, hk10, hout⟩
                    have HK10 := Lib.hid (HR9.out.on hk10)
                    have HRA10 := Lib.hid (HRA9.out.keep hk10 (G' := fun y => y ∉ lp :: h.l) (fun x hx hG => hG hx) (fun _ h => h))
                    have HRN10 := Lib.hid (HRN9.out.keep hk10 (G' := fun y => y ∉ lp :: h.l) (fun x hx hG => hG hx) (fun _ h => h))
                    clear hk10
                    rcases hout with rfl | ⟨rfl, B', d', g', r10⟩ | ⟨rfl, B', d', hdead, x10⟩
                    · go_wp2_with fail
                      go_ret
                      exact ⟨rfl, HK10.out⟩
                    · have HR10 := Lib.hid r10
                      clear r10
                      go_wp2_with fail
                      go_roundw
                      case rel => exact ⟨i + 1, lp, cn, B', d', g', (recs ++ b), An, by omega, by push_cast; rfl, rfl, by rw [List.length_append], HNN.out, HRN10.out, HR10.out, by have := HRL.out; have := HLN.out; rw [List.length_append]; omega, HNB25.out⟩
                      case measure => simp [RowKit.intOf]; omega
                    · have HX10 := Lib.hid x10
                      have HDE := Lib.hid (show Calls Tryd.prog 22 #[.pointer (some ⟨h.p, 3, none⟩)] w10 fun e w' => e = .returned (.bool true) ∧ w10 = w' by
                        have := dead_any w10 h B' d' x10.disk
                        rw [hdead] at this
                        exact this)
                      clear x10 hdead
                      go_wp2_with fail
                      refine HDE.out.mono ?_
                      rintro e w' ⟨rfl, rfl⟩
                      by_cases hki : i < keep.length
                      · rcases HR4.out.keep0 HX10.out.keeps with h0 | ⟨b4, o4, rfl, hc4⟩
                        · rw [h0] at hki; simp at hki
                        · have q4 := hc4 i hki
                          obtain ⟨kk, hkk⟩ : ∃ kk, kk = keep[i] := ⟨_, rfl⟩
                          have KLT := Lib.hid (show kk < 18446744073709551616 by rw [hkk]; exact H64.out _ (List.getElem_mem hki))
                          rw [← hkk] at q4
                          clear hc4 hkk
                          have HCR := Lib.hid (HX10.out.crash kk KLT.out)
                          go_wp2_with fail
                          refine HCR.out.mono ?_
                          rintro e w11 ⟨rfl, hk11, rec, hrec, hfell⟩
                          have HOP := Lib.hid (hfell.opens (by omega))
                          have hk11' : Keeps (lp :: h.l) w10 w11 := hk11.mono (fun y hy _ => by simp [hy])
                          have HRA11 := Lib.hid (HRA10.out.keep hk11' (G' := fun y => y ∉ lp :: h.l) (fun x hx hG => hG hx) (fun _ h => h)).low
                          have HRN11 := Lib.hid (HRN10.out.keep hk11' (G' := fun y => y ∉ lp :: h.l) (fun x hx hG => hG hx) (fun _ h => h)).low
                          have HREC := Lib.hid hrec
                          clear hk11 hk11' hrec hfell
                          go_wp2_with fail
                          refine HOP.out.mono ?_
                          rintro e w12 ⟨lp12, A12, c12, d12, g12, rfl, hrow12, hk12, hlp12, r12⟩
                          have hto : ∀ y, (y ∉ lp :: h.l ∧ y < w11.heap.size) → y ∉ lp12 :: h.l := fun y hy hm => by
                            rcases List.mem_cons.1 hm with rfl | hm
                            · omega
                            · exact hy.1 (List.mem_cons_of_mem _ hm)
                          have HRA12 := Lib.hid (HRA11.out.keep hk12 (G' := fun y => y ∉ lp12 :: h.l) (fun x hx hG => hG.1 (List.mem_cons_of_mem _ hx)) hto)
                          have HRN12 := Lib.hid (HRN11.out.keep hk12 (G' := fun y => y ∉ lp12 :: h.l) (fun x hx hG => hG.1 (List.mem_cons_of_mem _ hx)) hto)
                          have HR12 := Lib.hid r12
                          have HRR12 := Lib.hid hrow12
                          have hm12 : rec.length ≤ maxLen := by
                            have := HRL.out
                            have := HLN.out
                            unfold maxLen
                            rcases HREC.out with h9 | h9
                            · rw [h9]; omega
                            · rw [h9]; rw [List.length_append]; omega
                          have HSA := Lib.hid (same_any w12 _ _ A12 Aa rec recs c12 ca hrow12 HRA12.out hm12)
                          have HSB := Lib.hid (fun w' (hk : Keeps [] w12 w') => same_any w' _ _ A12 An rec (recs ++ b) c12 cn (HRR12.out.keep hk (by simp) (fun _ h => h)) (HRN12.out.keep hk (by simp) (fun _ h => h)) hm12)
                          simp only [List.length_append] at HSB
                          clear hrow12 hk12 hlp12 r12 hto hm12
                          by_cases hsame : rec = recs
                          · have hdd : decide (rec = recs) = true := by simpa using hsame
                            have HRE := Lib.hid hsame
                            clear hsame
                            go_wp2_with fail
                            refine HSA.out.mono ?_
                            rintro e w13 ⟨rfl, hk13⟩
                            have HR13 := Lib.hid (HR12.out.step hk13)
                            have HRA13 := Lib.hid (HRA12.out.keep hk13 (G' := fun y => y ∉ lp12 :: h.l) (by simp) (fun _ h => h))
                            clear hk13
                            go_wp2_with fail
                            go_roundw
                            case rel => exact ⟨i + 1, lp12, ca, B', d12, g12, recs, Aa, by omega, by push_cast; rfl, rfl, rfl, HNA.out, HRA13.out, by have := HR13.out; rwa [HRE.out] at this, by have := HRL.out; omega, H25.out⟩
                            case measure => simp [RowKit.intOf]; omega
                          · have hdd : decide (rec = recs) = false := by simpa using hsame
                            have hne : rec = (recs ++ b) := HREC.out.resolve_left hsame
                            have hdn : decide (rec = (recs ++ b)) = true := by simpa using hne
                            have HRE := Lib.hid hne
                            clear hsame hne
                            go_wp2_with fail
                            refine HSA.out.mono ?_
                            rintro e w13 ⟨rfl, hk13⟩
                            have HSB' := Lib.hid (HSB.out w13 hk13)
                            have HK13 := Lib.hid hk13
                            clear hk13
                            go_wp2_with fail
                            refine HSB'.out.mono ?_
                            rintro e w14 ⟨rfl, hk14⟩
                            have HK14 := Lib.hid (HK13.out.trans hk14 (by simp))
                            have HR14 := Lib.hid (HR12.out.step HK14.out)
                            have HRN14 := Lib.hid (HRN12.out.keep HK14.out (G' := fun y => y ∉ lp12 :: h.l) (by simp) (fun _ h => h))
                            clear hk14
                            go_wp2_with fail
                            go_roundw
                            case rel => exact ⟨i + 1, lp12, cn, B', d12, g12, (recs ++ b), An, by omega, by push_cast; rfl, rfl, by rw [List.length_append], HNN.out, HRN14.out, by have := HR14.out; rwa [HRE.out] at this, by have := HRL.out; have := HLN.out; rw [List.length_append]; omega, HNB25.out⟩
                            case measure => simp [RowKit.intOf]; omega
                      · have HDU2 := Lib.hid (show True from trivial)
                        have HCR := Lib.hid (HX10.out.crash 0 (by omega))
                        go_wp2_with fail
                        refine HCR.out.mono ?_
                        rintro e w11 ⟨rfl, hk11, rec, hrec, hfell⟩
                        have HOP := Lib.hid (hfell.opens (by omega))
                        have hk11' : Keeps (lp :: h.l) w10 w11 := hk11.mono (fun y hy _ => by simp [hy])
                        have HRA11 := Lib.hid (HRA10.out.keep hk11' (G' := fun y => y ∉ lp :: h.l) (fun x hx hG => hG hx) (fun _ h => h)).low
                        have HRN11 := Lib.hid (HRN10.out.keep hk11' (G' := fun y => y ∉ lp :: h.l) (fun x hx hG => hG hx) (fun _ h => h)).low
                        have HREC := Lib.hid hrec
                        clear hk11 hk11' hrec hfell
                        go_wp2_with fail
                        refine HOP.out.mono ?_
                        rintro e w12 ⟨lp12, A12, c12, d12, g12, rfl, hrow12, hk12, hlp12, r12⟩
                        have hto : ∀ y, (y ∉ lp :: h.l ∧ y < w11.heap.size) → y ∉ lp12 :: h.l := fun y hy hm => by
                          rcases List.mem_cons.1 hm with rfl | hm
                          · omega
                          · exact hy.1 (List.mem_cons_of_mem _ hm)
                        have HRA12 := Lib.hid (HRA11.out.keep hk12 (G' := fun y => y ∉ lp12 :: h.l) (fun x hx hG => hG.1 (List.mem_cons_of_mem _ hx)) hto)
                        have HRN12 := Lib.hid (HRN11.out.keep hk12 (G' := fun y => y ∉ lp12 :: h.l) (fun x hx hG => hG.1 (List.mem_cons_of_mem _ hx)) hto)
                        have HR12 := Lib.hid r12
                        have HRR12 := Lib.hid hrow12
                        have hm12 : rec.length ≤ maxLen := by
                          have := HRL.out
                          have := HLN.out
                          unfold maxLen
                          rcases HREC.out with h9 | h9
                          · rw [h9]; omega
                          · rw [h9]; rw [List.length_append]; omega
                        have HSA := Lib.hid (same_any w12 _ _ A12 Aa rec recs c12 ca hrow12 HRA12.out hm12)
                        have HSB := Lib.hid (fun w' (hk : Keeps [] w12 w') => same_any w' _ _ A12 An rec (recs ++ b) c12 cn (HRR12.out.keep hk (by simp) (fun _ h => h)) (HRN12.out.keep hk (by simp) (fun _ h => h)) hm12)
                        simp only [List.length_append] at HSB
                        clear hrow12 hk12 hlp12 r12 hto hm12
                        by_cases hsame : rec = recs
                        · have hdd : decide (rec = recs) = true := by simpa using hsame
                          have HRE := Lib.hid hsame
                          clear hsame
                          go_wp2_with fail
                          refine HSA.out.mono ?_
                          rintro e w13 ⟨rfl, hk13⟩
                          have HR13 := Lib.hid (HR12.out.step hk13)
                          have HRA13 := Lib.hid (HRA12.out.keep hk13 (G' := fun y => y ∉ lp12 :: h.l) (by simp) (fun _ h => h))
                          clear hk13
                          go_wp2_with fail
                          go_roundw
                          case rel => exact ⟨i + 1, lp12, ca, B', d12, g12, recs, Aa, by omega, by push_cast; rfl, rfl, rfl, HNA.out, HRA13.out, by have := HR13.out; rwa [HRE.out] at this, by have := HRL.out; omega, H25.out⟩
                          case measure => simp [RowKit.intOf]; omega
                        · have hdd : decide (rec = recs) = false := by simpa using hsame
                          have hne : rec = (recs ++ b) := HREC.out.resolve_left hsame
                          have hdn : decide (rec = (recs ++ b)) = true := by simpa using hne
                          have HRE := Lib.hid hne
                          clear hsame hne
                          go_wp2_with fail
                          refine HSA.out.mono ?_
                          rintro e w13 ⟨rfl, hk13⟩
                          have HSB' := Lib.hid (HSB.out w13 hk13)
                          have HK13 := Lib.hid hk13
                          clear hk13
                          go_wp2_with fail
                          refine HSB'.out.mono ?_
                          rintro e w14 ⟨rfl, hk14⟩
                          have HK14 := Lib.hid (HK13.out.trans hk14 (by simp))
                          have HR14 := Lib.hid (HR12.out.step HK14.out)
                          have HRN14 := Lib.hid (HRN12.out.keep HK14.out (G' := fun y => y ∉ lp12 :: h.l) (by simp) (fun _ h => h))
                          clear hk14
                          go_wp2_with fail
                          go_roundw
                          case rel => exact ⟨i + 1, lp12, cn, B', d12, g12, (recs ++ b), An, by omega, by push_cast; rfl, rfl, by rw [List.length_append], HNN.out, HRN14.out, by have := HR14.out; rwa [HRE.out] at this, by have := HRL.out; have := HLN.out; rw [List.length_append]; omega, HNB25.out⟩
                          case measure => simp [RowKit.intOf]; omega
          · have HCR := Lib.hid (HRU.out.dead.crash 0 (by omega))
            go_wp2_with fail
            refine HCR.out.mono ?_
            rintro e w7 ⟨rfl, hk7, rec, hrec, hfell⟩
            obtain rfl : rec = recs := by rcases hrec with h9 | h9 <;> exact h9
            have HOP := Lib.hid (hfell.opens (by omega))
            have HRA7 := Lib.hid (HROW.out.keep hk7 (G' := fun y => y ∉ lp :: h.l) (fun x hx hG => hG (List.mem_cons_of_mem _ hx)) (fun _ h => h))
            clear hk7 hrec hfell
            go_wp2_with fail
            refine HOP.out.mono ?_
            rintro e w8 ⟨lp8, A8, c8, d8, g8, rfl, hrow8, hk8, _, r8⟩
            have HSA := Lib.hid (same_any w8 _ _ A8 Aa rec rec c8 ca hrow8 (HRA7.out.keep hk8 (G' := fun y => y ∉ lp :: h.l) (fun x hx hG => hG (List.mem_cons_of_mem _ hx)) (fun _ h => h)) (by have := HRL.out; have := HLI.out.1; unfold maxLen; omega))
            have HR8 := Lib.hid r8
            clear hrow8 hk8 r8
            have hdd : decide (rec = rec) = true := by simp
            go_wp2_with fail
            refine HSA.out.mono ?_
            rintro e w9 ⟨rfl, hk9⟩
            have HK9 := Lib.hid (HR8.out.step hk9).keeps
            clear hk9
            go_wp2_with fail
            go_ret
            exact ⟨rfl, HK9.out⟩
      · have e2 : decide ((30 : Int) < (keep.length : Int)) = true := by simp; omega
        go_enter Tryd.func4, Tryd.ntmps4
        go_wp2_with fail
        refine HKN.out.mono ?_
        rintro e w1 ⟨rfl, hk1⟩
        have HLT := Lib.hid (light_any w1 A cap acts (HR.out.keep0 hk1))
        have HK1 := Lib.hid hk1
        clear hk1
        go_wp2_with fail
        refine HLT.out.mono ?_
        rintro e w2 ⟨rfl, hk2⟩
        have HK2 := Lib.hid (HK1.out.trans hk2 (by simp))
        rw [eL]
        clear hk2
        go_wp2_with fail
        go_ret
        exact ⟨rfl, HK2.out⟩
    · have e1 : decide ((30 : Int) < (cuts.length : Int)) = true := by simp; omega
      go_enter Tryd.func4, Tryd.ntmps4
      go_wp2_with fail
      refine HKN.out.mono ?_
      rintro e w1 ⟨rfl, hk1⟩
      have HLT := Lib.hid (light_any w1 A cap acts (HR.out.keep0 hk1))
      have HK1 := Lib.hid hk1
      clear hk1
      go_wp2_with fail
      refine HLT.out.mono ?_
      rintro e w2 ⟨rfl, hk2⟩
      have HK2 := Lib.hid (HK1.out.trans hk2 (by simp))
      rw [eL]
      clear hk2
      go_wp2_with fail
      go_ret
      exact ⟨rfl, HK2.out⟩
  · have eL : decide (Light acts) = false := by simpa using hL
    go_enter Tryd.func4, Tryd.ntmps4
    go_wp2_with fail
    refine HKN.out.mono ?_
    rintro e w1 ⟨rfl, hk1⟩
    have HLT := Lib.hid (light_any w1 A cap acts (HR.out.keep0 hk1))
    have HK1 := Lib.hid hk1
    clear hk1
    go_wp2_with fail
    refine HLT.out.mono ?_
    rintro e w2 ⟨rfl, hk2⟩
    have HK2 := Lib.hid (HK1.out.trans hk2 (by simp))
    rw [eL]
    clear hk2
    go_wp2_with fail
    go_ret
    exact ⟨rfl, HK2.out⟩
end Go.Proofs.YtgjgnieobbhepaaDoor
