/- LexSigns: signs that stand close together. -/
import Derived.Test.YtieghhhiclpeiaaDoorLReads
import Derived.Test.YtieghhhiclpeiaaDoorLMath3
import Derived.Test.YtieghhhiclpeiaaDoorLBytes
import Derived.IntWalk
namespace Go.Proofs.YtieghhhiclpeiaaDoor
open Go.RowKit Go.Shelf

def signsS : ByteArray := ⟨#[61, 33, 60, 62, 38, 124, 43, 45, 42, 47, 37, 40, 41, 123, 125, 91, 93, 44, 59, 97, 49, 32]⟩
theorem strO_add1 (a : List UInt8) (b : UInt8) : strO a ++ strO [b] = strO (a ++ [b]) := strO_add a [b]
set_option maxHeartbeats 4000000 in
set_option maxRecDepth 100000 in
theorem lsigns_any (w : World) (he : ErrAt w) (A : Option Addr) (l : List UInt8) (cap : Nat) (hr : ∃ g, BytesIn w g A l) (hl : l.length ≤ maxLen) (_hc : l.length ≤ cap) (_hm : cap ≤ maxLen) :
    Calls Tryd.prog 6 #[.slice A l.length cap] w (Yes w) := by
  unfold maxLen at hl
  obtain ⟨g, hr⟩ := hr
  have HK0 := Lib.hid (known_any w he)
  have HE := Lib.hid he
  have HB := Lib.hid hr
  clear he hr
  by_cases h40 : l.length ≤ 40
  · go_enter Tryd.func6, Tryd.ntmps6
    go_wp2_with fail
    refine (HK0.out).mono ?_
    rintro e w1 ⟨rfl, hk1⟩
    have HK1 := Lib.hid hk1
    clear hk1
    go_wp2_with fail
    go_loopw [3, 4] (fun sv iv wr => ∃ k : Nat, k ≤ l.length ∧ iv = .int .i64 (k : Int) ∧ sv = .string (strO (Lx.sg (l.take k))) ∧ Keeps [] w wr) (fun _ iv _ => l.length - (intOf iv).toNat)
    case atStart => exact ⟨0, Nat.zero_le _, rfl, rfl, HK1.out⟩
    case round =>
      obtain ⟨k, hk, rfl, rfl, hkp⟩ := hrel
      have HK := Lib.hid hkp
      clear hkp
      by_cases hlt : k < l.length
      · rcases HB.out with h0 | ⟨off, rfl, hcell⟩
        · rw [h0] at hlt; simp at hlt
        · have d1 := HK.out.cell_some (hcell k hlt) (by simp)
          obtain ⟨c, hc⟩ : ∃ c, c = l[k] := ⟨_, rfl⟩
          rw [← hc] at d1
          have hc256 : c.toNat < 256 := c.toNat_lt
          obtain ⟨m, hm⟩ : ∃ m, m = c.toNat % 22 := ⟨_, rfl⟩
          obtain ⟨cn, hcn⟩ : ∃ x, x = c.toNat := ⟨_, rfl⟩
          rw [← hcn] at d1 hm hc256
          have hm22 : m < 22 := by omega
          have r1 : ((cn : Nat) : Int).tmod 22 = (m : Int) := by rw [Int.tmod_eq_emod_of_nonneg (by omega)]; omega
          have r2 : IntKind.u8.wrap ((m : Int) + 1) = (m : Int) + 1 := IntWalk.u8_in _ ⟨by omega, by omega⟩
          have r3 : IntKind.u8.wrap (m : Int) = (m : Int) := IntWalk.u8_in _ ⟨by omega, by omega⟩
          obtain ⟨q, hq⟩ : ∃ q, q = strO [Lx.alpha.getD m 0] := ⟨_, rfl⟩
          have hsl : ∀ w, (Instr.slice 9 (.string ⟨#[61, 33, 60, 62, 38, 124, 43, 45, 42, 47, 37, 40, 41, 123, 125, 91, 93, 44, 59, 97, 49, 32]⟩) (some (.int .u8 (m : Int))) (some (.int .u8 ((m : Int) + 1))) none).run Tryd.prog w = .ok (.string q) w := fun w => by
            rw [show (⟨#[61, 33, 60, 62, 38, 124, 43, 45, 42, 47, 37, 40, 41, 123, 125, 91, 93, 44, 59, 97, 49, 32]⟩ : ByteArray) = strO Lx.alpha from rfl, run_slice_string w 9 _ .u8 .u8 _ _ Tryd.underlying9 (by omega) (by omega) (by rw [strO_len]; show _ ≤ ((22 : Nat) : Int); omega), strO_extract, show ((m : Int) + 1).toNat - ((m : Int)).toNat = 1 by omega, Int.toNat_natCast, Lx.alpha_cut hm22, hq]
          obtain ⟨st, hst⟩ : ∃ s, s = strO (Lx.sg (l.take k)) := ⟨_, rfl⟩
          have hss : st.size ≤ 40 := by rw [hst, strO_len, Lx.sg_len, List.length_take]; omega
          have hqs : q.size ≤ 1 := by rw [hq, strO_len]; simp
          have hcat : ∀ w, (Op.stringOp .add st q).run Tryd.prog w = .ok (.string (st ++ q)) w := fun w => run_string_add_sum w st q (by omega)
          have HTK := Lib.hid (show st ++ q = strO (Lx.sg (l.take (k + 1))) by
            rw [hst, hq, strO_add1, hm, hcn, hc, ← Lx.sg_snoc, List.take_succ_eq_append_getElem hlt])
          rw [← hst]
          clear hcell hc hcn hm hq hst hm22 hc256
          go_wp2_with fail
          go_quiet (fail)
          go_wp2_with fail
          go_roundw
          case rel => exact ⟨k + 1, by omega, by go_num, by rw [HTK.out], HK.out.drewN nq⟩
          case measure => simp [intOf]; omega
      · have hkl : k = l.length := by omega
        subst hkl
        rw [List.take_length]
        have HT := Lib.hid (fun w' (h : ErrAt w') => tokens_any w' (Lx.sg l) (by rw [Lx.sg_len]; omega) h)
        have HR := Lib.hid (fun w' => rtokens_any w' (Lx.sg l) (by rw [Lx.sg_len]; omega))
        have hlen := toks_len (Lx.sg l)
        have HCH := Lib.hid (fun h => Lx.chain_toks (Lx.sg l) (Lx.sg_plain l) h)
        have HNIL := Lib.hid (Lx.toks_err_nil (Lx.sg l))
        obtain ⟨⟨ts, po, er⟩, ho⟩ : ∃ o, o = Lx.toks (Lx.sg l) := ⟨_, rfl⟩
        rw [← ho] at HT HR hlen HCH HNIL
        simp only at hlen
        obtain ⟨S, hS⟩ : ∃ S, S = Lx.sg l := ⟨_, rfl⟩
        have hSl : S.length ≤ 40 := by rw [hS, Lx.sg_len]; exact h40
        rw [← hS] at HT HR HCH
        rw [← hS]
        obtain ⟨s, hs⟩ : ∃ s, s = strO S := ⟨_, rfl⟩
        have hsz : s.size = S.length := by rw [hs, strO_len]
        have HSS := Lib.hid hs
        rw [← hs] at HT HR
        rw [← hs]
        obtain ⟨pi, hpi⟩ : ∃ x : Int, x = ((po : Nat) : Int) := ⟨_, rfl⟩
        obtain ⟨ei, hei⟩ : ∃ x : Int, x = ((er : Nat) : Int) := ⟨_, rfl⟩
        have HEI := Lib.hid hei
        have HPI := Lib.hid hpi
        have HSZ := Lib.hid hsz
        clear ho hS hs hpi hei hsz
        go_wp2_with fail
        refine (HT.out wr (HE.out.keep HK.out)).mono ?_
        rintro e w2 ⟨A1, c1, g1, rfl, hti, _, hk2⟩
        have HK2 := Lib.hid (HK.out.trans hk2 (by simp))
        have HTI := Lib.hid hti
        simp only at HTI
        rw [← HPI.out, ← HEI.out]
        clear hk2 hti
        go_wp2_with fail
        refine (HR.out w2).mono ?_
        rintro e w3 ⟨A2, c2, g2, rfl, hti, _, hk3⟩
        have HSM := Lib.hid (toks_same w3 g1 g2 A1 A2 c1 c2 ts (HTI.out.keep hk3 (by simp)) hti (by omega))
        have HKB := Lib.hid hk3
        have HK3 := Lib.hid (HK2.out.trans hk3 (by simp))
        rw [← HPI.out, ← HEI.out]
        clear hk3 hti
        go_wp2_with fail
        refine (HSM.out).mono ?_
        rintro e w4 ⟨rfl, hk4⟩
        have HK4 := Lib.hid (HK3.out.trans hk4 (by simp))
        have HTI4 := Lib.hid ((HTI.out.keep HKB.out (by simp)).keep hk4 (by simp))
        clear hk4
        have HCC := Lib.hid (show er = 0 → Lx.Chain S 0 ts from fun h => HCH.out h)
        have HNN := Lib.hid (show er ≠ 0 → ts = [] from fun h => HNIL.out h)
        clear HCH HNIL HT HR
        go_wp2_with fail
        go_loopw [11, 12] (fun av jv wq => ∃ (j f : Nat), j ≤ ts.length ∧ f ≤ 100 ∧ jv = .int .i64 (j : Int) ∧ av = .int .i64 (f : Int) ∧ Hid (er = 0 → f ≤ S.length ∧ Lx.Chain S f (ts.drop j)) ∧ wq = w4) (fun _ jv _ => ts.length - (intOf jv).toNat)
        case atStart => exact ⟨0, 0, Nat.zero_le _, Nat.zero_le _, rfl, rfl, Lib.hid (fun h => ⟨Nat.zero_le _, by simpa using HCC.out h⟩), rfl⟩
        case round =>
          obtain ⟨j, f, hj, hf, rfl, rfl, HCJ, rfl⟩ := hrel
          by_cases hlt : j < ts.length
          · have her : er = 0 := by
              by_cases h : er = 0
              · exact h
              · rw [HNN.out h] at hlt; simp at hlt
            rcases HTI4.out with h0 | ⟨off, rfl, hcell⟩
            · rw [h0] at hlt; simp at hlt
            · obtain ⟨_, c2, c3⟩ := hcell j hlt
              obtain ⟨_, hch⟩ := HCJ.out her
              rw [List.drop_eq_getElem_cons hlt] at hch
              obtain ⟨⟨kd, tx, po1⟩, ht⟩ : ∃ t, t = ts[j] := ⟨_, rfl⟩
              rw [← ht] at c2 c3 hch
              obtain ⟨h1, h2, h3, h4⟩ := hch
              simp only at h1 h2 h3 h4 c2 c3
              have HC4 := Lib.hid h4
              have HC2 := Lib.hid h2
              have HC1 := Lib.hid (strO_len tx)
              obtain ⟨txs, htx⟩ : ∃ x, x = strO tx := ⟨_, rfl⟩
              rw [← htx] at c2 HC1
              obtain ⟨tn, htn⟩ : ∃ x, x = tx.length := ⟨_, rfl⟩
              rw [← htn] at HC1 h3 HC4
              have HTN := Lib.hid htn
              have hts : txs.size = tn := HC1.out
              clear hcell ht h4 h2 htx her htn
              go_wp2_with fail
              obtain ⟨wo, hwo⟩ : ∃ wo, wo = wr := ⟨_, rfl⟩
              subst hwo
              go_loopw [11] (fun av wq => ∃ x : Nat, f ≤ x ∧ x ≤ po1 ∧ av = .int .i64 (x : Int) ∧ wq = wo) (fun av _ => po1 - (intOf av).toNat)
              case atStart => exact ⟨f, Nat.le_refl _, h1, rfl, rfl⟩
              case round =>
                obtain ⟨x, hx1, hx2, rfl, rfl⟩ := hrel
                by_cases hxl : x < po1
                · have hxS : x < S.length := by omega
                  have hg : S[x]? = some S[x] := List.getElem?_eq_getElem hxS
                  have h32 := HC2.out x S[x] hx1 hxl hg
                  rw [h32] at hg
                  have ix := idxN HSS.out hg
                  have hz : x < s.size := by rw [HSZ.out]; exact hxS
                  clear hg h32 hxS
                  go_wp2_with fail
                  go_roundw
                  case rel => exact ⟨x + 1, by omega, by omega, by go_num, by trivial⟩
                  case measure => simp [intOf]; omega
                · have hxp : x = po1 := by omega
                  subst hxp
                  go_wp2_with fail
                  go_roundw
                  case rel => exact ⟨j + 1, x + tn, by omega, by omega, by go_num, by go_num, Lib.hid (fun _ => ⟨h3, HC4.out⟩), by trivial⟩
                  case measure => simp [intOf]; omega
          · have hje : j = ts.length := by omega
            by_cases her : er = 0
            · have hei0 : ei = 0 := by rw [HEI.out, her]; rfl
              have hfs : f ≤ s.size := by rw [HSZ.out]; exact (HCJ.out her).1
              subst hei0
              clear her hje
              go_wp2_with fail
              all_goals
                go_ret
                exact ⟨rfl, HK4.out⟩
            · have hei0 : (ei != 0) = true := by rw [HEI.out]; first | (simp; done) | (simp; omega)
              clear her hje
              go_wp2_with fail
              go_ret
              exact ⟨rfl, HK4.out⟩
  · have h40' : 40 < l.length := by omega
    go_enter Tryd.func6, Tryd.ntmps6
    go_wp2_with fail
    refine (HK0.out).mono ?_
    rintro e w1 ⟨rfl, hk1⟩
    have HK1 := Lib.hid hk1
    clear hk1
    go_wp2_with fail
    go_ret
    exact ⟨rfl, HK1.out⟩
end Go.Proofs.YtieghhhiclpeiaaDoor
