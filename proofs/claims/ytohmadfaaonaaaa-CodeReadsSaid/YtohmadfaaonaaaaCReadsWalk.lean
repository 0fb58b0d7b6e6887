/- CodeReads: the walk. -/
import Derived.Test.YtohmadfaaonaaaaCPair
import Derived.Test.YtohmadfaaonaaaaCKnown
import Derived.Test.YtohmadfaaonaaaaCL2
namespace Go.Proofs.Ytohmadfaaonaaaa.codeReads
open Go.RowKit
open Reg (Is Fact)

attribute [local go_sem] Reg.lateFr Reg.wantedV Reg.gives_value Reg.gives_skip Reg.gives_enter
/-- The bytes that are read. -/
def BufR (w wr : World) (v : Value) (L : List UInt8) : Prop := ∃ A g cap, v = .slice A L.length cap ∧ BytesIn wr g A L ∧ L.length ≤ cap ∧ cap ≤ maxLen ∧ Keeps [] w wr
def OwnF (L : List UInt8) : Fact := fun v w => ∃ g, OwnAt w g v L
theorem OwnF.last {L : List UInt8} : ∀ v w w', OwnF L v w → Keeps [] w w' → OwnF L v w' := fun _ _ _ ⟨g, h⟩ hk => ⟨g, h.keep hk (by simp)⟩
theorem Is.last0 {u : Value} : ∀ v w w', Is u v w → Keeps [] w w' → Is u v w' := fun _ _ _ h _ => h

set_option maxHeartbeats 8000000 in
set_option maxRecDepth 100000 in
theorem walk_light (w : World) (h0 : Nat) (A0 : Option Addr) (cap0 : Nat) (bs : List UInt8) (hb : Nat) (A : Option Addr) (cap : Nat) (ps : List Pt) (hh : Nat) (Ah : Option Addr) (caph : Nat) (hs : List UInt8)
    (hr0 : BytesIn w h0 A0 bs) (hc0 : bs.length ≤ cap0) (hm0 : cap0 ≤ maxLen) (hr : PartsIn w hb A ps) (hf : ∀ p ∈ ps, p.fits) (hlen : ps.length ≤ maxLen) (hli : LightP ps) (hrh : BytesIn w hh Ah hs) (h500 : bs.length ≤ 500) (h30 : hs.length ≤ 30) :
    Calls Try.prog 4 #[.slice A0 bs.length cap0, .slice A ps.length cap, .slice Ah hs.length caph] w fun e w' => e = .returned (.bool true) ∧ Below w.heap.size w w' := by
  have hn12 := hli.1
  have HR := Lib.hid hr
  have HF := Lib.hid hf
  have HLI := Lib.hid hli
  have HLEN := Lib.hid hlen
  have HR0 := Lib.hid (show ∀ wr, Keeps [] w wr → BufR w wr (.slice A0 bs.length cap0) (bs ++ (ps.take 0).flatMap encPt) from fun wr hk => by
    rw [List.take_zero, List.flatMap_nil, List.append_nil]
    exact ⟨A0, h0, cap0, rfl, hr0.keep hk (by simp), hc0, hm0, hk⟩)
  have HRH := Lib.hid hrh
  have e500 : decide ((500 : Int) < (bs.length : Int)) = false := by simp; omega
  have e30 : decide ((30 : Int) < (hs.length : Int)) = false := by simp; omega
  have f500 : decide (500 < bs.length) = false := by simp; omega
  have f30 : decide (30 < hs.length) = false := by simp; omega
  clear hr hf hli hlen hr0 hc0 hm0 hrh
  go_enter Try.func4, Try.ntmps4
  go_wp2_with fail
  refine (known_any w).mono ?_
  rintro e w0 ⟨rfl, hk0⟩
  have HK0 := Lib.hid hk0
  clear hk0
  go_wp2_with fail
  refine (light_any w0 hb A cap ps (HR.out.keep HK0.out) HLEN.out HF.out).mono ?_
  rintro e w1 ⟨b, rfl, hbl, hk1⟩
  obtain rfl : b = true := hbl.2 HLI.out
  have HK1 := Lib.hid (HK0.out.trans hk1 (by simp))
  clear hk1 hbl
  go_wp2_with fail
  clear e500 f500
  go_loopw [0, 7] (fun v i wr => ∃ k : Nat, k ≤ ps.length ∧ i = .int .i64 (k : Int) ∧ BufR w wr v (bs ++ (ps.take k).flatMap encPt)) (fun _ i _ => ps.length - (intOf i).toNat)
  case atStart => exact ⟨0, Nat.zero_le _, rfl, HR0.out _ HK1.out⟩
  case round =>
    obtain ⟨k, hk, rfl, hbuf⟩ := hrel
    by_cases hlt : k < ps.length
    · rcases HR.out with h0 | ⟨off, rfl, hcell⟩
      · rw [h0] at hlt; simp at hlt
      · have hc := hcell k hlt
        have hfk := HF.out _ (List.getElem_mem hlt)
        have hlk := HLI.out.2 _ (List.getElem_mem hlt)
        have HE := Lib.hid (flat_next encPt [] hlt)
        obtain ⟨⟨what, nn, tt, ss⟩, hpt⟩ : ∃ p, p = ps[k] := ⟨_, rfl⟩
        rw [← hpt] at hc hfk hlk HE
        rw [List.nil_append, List.nil_append] at HE
        obtain ⟨h1, h2, Aa, ca, Am, cm, c0, c1, c2, c3, c4, c5, c6, c7, c8, hal, hnm⟩ := hc
        simp only [] at c0 c1 c2 c3 c4 c5 c6 c7 c8 hal hnm
        obtain ⟨⟨f1, f2, f3⟩, _⟩ := hfk
        obtain ⟨l1, l2⟩ := hlk
        simp only [] at f1 f2 f3 l1 l2
        have hLlen : (bs ++ (ps.take k).flatMap encPt).length ≤ 14000 := by
          have h9 := flat_pts_len (ps.take k) (fun m hm => ⟨(HF.out m (List.mem_of_mem_take hm)).1, HLI.out.2 m (List.mem_of_mem_take hm)⟩)
          simp only [List.length_take] at h9
          rw [List.length_append]
          omega
        have HE2 := Lib.hid (show bs ++ (ps.take (k + 1)).flatMap encPt = (bs ++ (ps.take k).flatMap encPt) ++ encPt ⟨what, nn, tt, ss⟩ by rw [List.append_assoc, HE.out])
        obtain ⟨L, hL⟩ : ∃ L, L = bs ++ (ps.take k).flatMap encPt := ⟨_, rfl⟩
        rw [← hL] at hbuf HE2 hLlen
        obtain ⟨A1, g1, cap1, rfl, hbi, hc1, hm1, hkw⟩ := hbuf
        obtain ⟨A2, hsl, hby⟩ := slice_full hc1
        have HSL := Lib.hid hsl
        have HBY := Lib.hid (hby wr g1 L rfl hbi)
        have HKW := Lib.hid hkw
        have HC0 := Lib.hid (hkw.cell_some c0 (by simp))
        have HC1 := Lib.hid (hkw.cell_some c1 (by simp))
        have HC2 := Lib.hid (hkw.cell_some c2 (by simp))
        have HC3 := Lib.hid (hkw.cell_some c3 (by simp))
        have HC4 := Lib.hid (hkw.cell_some c4 (by simp))
        have HC5 := Lib.hid (hkw.cell_some c5 (by simp))
        have HC6 := Lib.hid (hkw.cell_some c6 (by simp))
        have HC7 := Lib.hid (hkw.cell_some c7 (by simp))
        have HC8 := Lib.hid (hkw.cell_some c8 (by simp))
        have HAL := Lib.hid (hal.keep hkw (by simp))
        have HNM := Lib.hid (hnm.keep hkw (by simp))
        have HP := Lib.hid (show Pt.ok ⟨what, nn, tt, ss⟩ ∧ Pt.light ⟨what, nn, tt, ss⟩ from ⟨⟨f1, f2, f3⟩, ⟨l1, l2⟩⟩)
        have HLL := Lib.hid (show L.length ≤ 10000000 by omega)
        have hL47 : L.length ≤ 9223372036854775807 := by omega
        clear hcell hpt c0 c1 c2 c3 c4 c5 c6 c7 c8 hal hnm f1 f2 f3 l1 l2 hL hsl hby hkw hbi hc1 hm1 HE hLlen
        go_wp2_with fail
        refine Reg.wp_region_late (A := ?A) (B := ?B) [0, 1, 3] [11] (fun _ _ w' => Keeps [] wr w') (Keeps [])
          [Is (.slice A1 L.length cap1), Is (.slice A1 L.length cap1), Is (.int .i64 (L.length : Int)), Is (.slice A1 L.length cap1), Is (.int .i64 (L.length : Int)), Is (.slice A2 L.length L.length), Is (.slice (some ⟨hb, off, none⟩) ps.length cap), Is (.int .i64 (k : Int)), Is (.pointer (some ⟨hb, off + k * 9, none⟩)),
            Is (.agg #[.int .u8 (what : Int), .int .u64 (nn : Int), .string tt, .slice Aa ss.alarms.length ca, .bool ss.ends, .bool ss.ret.some, .int .i64 ss.ret.lo, .int .i64 ss.ret.hi, .slice Am ss.mod.length cm]), OwnF (L ++ encPt ⟨what, nn, tt, ss⟩), OwnF (L ++ encPt ⟨what, nn, tt, ss⟩)]
          (by kernel_rfl) (by kernel_rfl) rfl ?hA ?hB ?hC ?ho ?hlast ?hend
        case hA => intro vs; simp only [Reg.fill, if_true, Nat.zero_add, Nat.reduceAdd, Act.put, List.setIfInBounds_toArray, List.set_cons_succ, List.set_cons_zero]; exact rfl
        case hB => intro vs; simp only [Reg.fill, List.contains_cons, List.contains_nil, Nat.zero_add, Nat.reduceAdd, Nat.reduceBEq, Bool.or_false, Bool.not_true, Bool.not_false, if_true, if_false, Bool.false_eq_true, Act.put, List.setIfInBounds_toArray, List.set_cons_succ, List.set_cons_zero]; exact rfl
        case hC => exact fun vs => (Keeps.refl _ _).drew
        case hlast => repeat (first | exact trivial | refine ⟨Is.last0, ?_⟩ | refine ⟨OwnF.last, ?_⟩)
        case ho =>
          repeat' apply And.intro
          all_goals
            first
              | exact trivial
              | (intro Ls vs w' hC hL hd ha K hK
                 try simp only [Reg.Deps, Reg.at_, List.getD_cons_zero, List.getD_cons_succ, Region.binds, true_implies, Is, and_true] at hd
                 have k0 := hC.cell_some HC0.out (by simp)
                 have k1 := hC.cell_some HC1.out (by simp)
                 have k2 := hC.cell_some HC2.out (by simp)
                 have k3 := hC.cell_some HC3.out (by simp)
                 have k4 := hC.cell_some HC4.out (by simp)
                 have k5 := hC.cell_some HC5.out (by simp)
                 have k6 := hC.cell_some HC6.out (by simp)
                 have k7 := hC.cell_some HC7.out (by simp)
                 have k8 := hC.cell_some HC8.out (by simp)
                 have ks := HSL.out w'
                 go_simp
                 first
                   | exact hK _ _ hC (Keeps.refl _ _) rfl
                   | exact hK _ _ hC (Keeps.refl _ _) hd.1
                   | skip)
          · refine (put_any w' [] _ L h1 h2 Aa Am ca cm ⟨what, nn, tt, ss⟩ (.inr ⟨rfl, A2, g1, rfl, HBY.out.1.keep hC (by simp), HBY.out.2⟩) (HAL.out.keep hC (by simp)) (HNM.out.keep hC (by simp)) (by simp) (by simp) HP.out.1 HP.out.2 HLL.out).mono ?_
            rintro e w'' ⟨v, g, rfl, q1, _, q3⟩
            exact ⟨_, rfl, hK _ _ (hC.trans q3 (by simp)) q3 ⟨g, q1⟩⟩
        case hend =>
          intro vs w4 hC hall
          simp only [Reg.All, Is, and_true, Nat.zero_add, Nat.reduceAdd] at hall
          obtain ⟨-, -, -, -, -, -, -, -, -, -, -, g4, hg4⟩ := hall
          obtain ⟨cap4, hv4, hb4, hc4, hm4⟩ := hg4.bytes
          rw [hv4]
          have HB4 := Lib.hid (show BufR w w4 (.slice (some ⟨g4, 0, none⟩) (L ++ encPt ⟨what, nn, tt, ss⟩).length cap4) (L ++ encPt ⟨what, nn, tt, ss⟩) from ⟨_, g4, cap4, rfl, hb4, hc4, hm4, HKW.out.trans hC (by simp)⟩)
          clear hC hg4 hv4 hb4 hc4 hm4
          go_wp2_with fail
          go_roundw
          case rel => exact ⟨k + 1, by omega, by go_num, by rw [HE2.out]; exact HB4.out⟩
          case measure => simp [intOf]; omega
    · have hLlen : (bs ++ (ps.take k).flatMap encPt).length ≤ 14000 := by
        have h9 := flat_pts_len (ps.take k) (fun m hm => ⟨(HF.out m (List.mem_of_mem_take hm)).1, HLI.out.2 m (List.mem_of_mem_take hm)⟩)
        simp only [List.length_take] at h9
        rw [List.length_append]
        omega
      obtain ⟨L, hL⟩ : ∃ L, L = bs ++ (ps.take k).flatMap encPt := ⟨_, rfl⟩
      rw [← hL] at hbuf hLlen
      obtain ⟨A1, g1, cap1, rfl, hbi, hc1, hm1, hkw⟩ := hbuf
      have HBI := Lib.hid hbi
      have HKW := Lib.hid hkw
      have HCM := Lib.hid (show L.length ≤ cap1 ∧ cap1 ≤ maxLen from ⟨hc1, hm1⟩)
      have HLL := Lib.hid hLlen
      obtain ⟨wa, rfl⟩ : ∃ wa : World, wa = wr := ⟨_, rfl⟩
      clear hL hbi hc1 hm1 hkw hLlen
      go_wp2_with fail
      refine (newReader_any wa g1 A1 L cap1 HBI.out (by have := HLL.out; omega)).mono ?_
      rintro e w5 ⟨p, g, rfl, hrd, hp, hg, hk5⟩
      have HP0 := Lib.hid (show Pair w (w5.alloc (.cells #[.slice A1 L.length cap1, .bool false] 55)) p g w5.heap.size g1 false L L from
        have hk6 : Keeps [] w5 (w5.alloc (.cells #[.slice A1 L.length cap1, .bool false] 55)) := (Keeps.refl [] _).alloc _
        have hsz := HKW.out.size
        have hsz5 := hk5.size
        ⟨hrd.keep hk6 (by simp) (by simp), ⟨A1, cap1, heap_alloc_new w5 _, (HBI.out.keep hk5 (by simp)).keep hk6 (by simp), HCM.out.1, HCM.out.2⟩, fun _ => rfl, fun _ => by have := HLL.out; omega, by have := hrd.lt; omega, (HKW.out.trans hk5 (by simp)).trans hk6 (by simp), by omega, by omega⟩)
      clear hrd hp hg hk5
      go_wp2_with fail
      go_loopw [10] (fun i wr => ∃ (k : Nat) (f : Bool) (l l' : List UInt8), k ≤ hs.length ∧ i = .int .i64 (k : Int) ∧ Pair w wr p g w5.heap.size g1 f l l') (fun i _ => hs.length - (intOf i).toNat)
      case atStart => exact ⟨0, false, L, L, Nat.zero_le _, rfl, HP0.out⟩
      case round =>
        obtain ⟨j, f, l, l', hj, rfl, hpr⟩ := hrel
        have HPR := Lib.hid hpr
        clear hpr
        by_cases hjt : j < hs.length
        · rcases HRH.out with h0 | ⟨oh, rfl, hcell⟩
          · rw [h0] at hjt; simp at hjt
          · have hcx := HPR.out.keeps.cell_some (hcell j hjt) (by simp)
            obtain ⟨x, hx⟩ : ∃ x : Nat, x = hs[j].toNat := ⟨_, rfl⟩
            have hx256 : x < 256 := by rw [hx]; exact UInt8.toNat_lt _
            rw [← hx] at hcx
            clear hcell hx
            rcases (show x % 5 = 0 ∨ x % 5 = 1 ∨ x % 5 = 2 ∨ x % 5 = 3 ∨ x % 5 = 4 by omega) with hm | hm | hm | hm | hm
            · have b0 : ((x : Int) % 5 == 0) = true := by rw [beq_iff_eq]; omega
              clear hm
              go_wp2_with fail
              refine (rNum wr p g f l HPR.out.rd).mono ?_
              rintro e w6 h6
              obtain ⟨rfl, l1, q1, a1, q2⟩ := Ro.any h6
              obtain ⟨n, hn⟩ := ans_num (M.opt f (M.dec 0 0 l))
              rw [hn]
              have HM := Lib.hid (HPR.out.first q2)
              have HQ1 := Lib.hid q1
              have HA1 := Lib.hid a1
              have HQ2 := Lib.hid q2
              have HN := Lib.hid hn
              clear h6 q1 a1 q2 hn
              go_wp2_with fail
              refine (mNum w6 w5.heap.size g1 f l' HM.out).mono ?_
              rintro e w7 h7
              rw [HPR.out.opt (M.dec 0 0)] at h7
              obtain ⟨rfl, l2, q3, a2, q4⟩ := Mo.any h7
              rw [HN.out]
              have HNX := Lib.hid (HPR.out.next HQ1.out HA1.out HQ2.out q3 a2 q4 (HPR.out.small shrNum))
              clear h7 q3 a2 q4
              go_wp2_with fail
              go_roundw
              case rel => exact ⟨j + 1, _, l1, l2, by omega, by go_num, HNX.out⟩
              case measure => simp [intOf]; omega
            · have b0 : ((x : Int) % 5 == 0) = false := by rw [beq_eq_false_iff_ne]; omega
              have b1 : ((x : Int) % 5 == 1) = true := by rw [beq_iff_eq]; omega
              clear hm
              go_wp2_with fail
              refine (rInt wr p g f l HPR.out.rd).mono ?_
              rintro e w6 h6
              obtain ⟨rfl, l1, q1, a1, q2⟩ := Ro.any h6
              obtain ⟨n, hn⟩ := ans_int (M.opt f (M.decInt l))
              rw [hn]
              have HM := Lib.hid (HPR.out.first q2)
              have HQ1 := Lib.hid q1
              have HA1 := Lib.hid a1
              have HQ2 := Lib.hid q2
              have HN := Lib.hid hn
              clear h6 q1 a1 q2 hn
              go_wp2_with fail
              refine (whole_any w6 w5.heap.size g1 f l' HM.out).mono ?_
              rintro e w7 h7
              rw [HPR.out.opt (M.decInt)] at h7
              obtain ⟨rfl, l2, q3, a2, q4⟩ := Mo.any h7
              rw [HN.out]
              have HNX := Lib.hid (HPR.out.next HQ1.out HA1.out HQ2.out q3 a2 q4 (HPR.out.small shrInt))
              clear h7 q3 a2 q4
              go_wp2_with fail
              go_roundw
              case rel => exact ⟨j + 1, _, l1, l2, by omega, by go_num, HNX.out⟩
              case measure => simp [intOf]; omega
            · have b0 : ((x : Int) % 5 == 0) = false := by rw [beq_eq_false_iff_ne]; omega
              have b1 : ((x : Int) % 5 == 1) = false := by rw [beq_eq_false_iff_ne]; omega
              have b2 : ((x : Int) % 5 == 2) = true := by rw [beq_iff_eq]; omega
              clear hm
              go_wp2_with fail
              refine (rText wr p g f l HPR.out.rd).mono ?_
              rintro e w6 h6
              obtain ⟨rfl, l1, q1, a1, q2⟩ := Ro.any h6
              obtain ⟨n, hn⟩ := ans_str (M.opt f (M.decStr l))
              rw [hn]
              have HM := Lib.hid (HPR.out.first q2)
              have HQ1 := Lib.hid q1
              have HA1 := Lib.hid a1
              have HQ2 := Lib.hid q2
              have HN := Lib.hid hn
              clear h6 q1 a1 q2 hn
              go_wp2_with fail
              refine (mText w6 w5.heap.size g1 f l' HM.out).mono ?_
              rintro e w7 h7
              rw [HPR.out.opt (M.decStr)] at h7
              obtain ⟨rfl, l2, q3, a2, q4⟩ := Mo.any h7
              rw [HN.out]
              have HNX := Lib.hid (HPR.out.next HQ1.out HA1.out HQ2.out q3 a2 q4 (HPR.out.small shrStr))
              clear h7 q3 a2 q4
              go_wp2_with fail
              go_roundw
              case rel => exact ⟨j + 1, _, l1, l2, by omega, by go_num, HNX.out⟩
              case measure => simp [intOf]; omega
            · have b0 : ((x : Int) % 5 == 0) = false := by rw [beq_eq_false_iff_ne]; omega
              have b1 : ((x : Int) % 5 == 1) = false := by rw [beq_eq_false_iff_ne]; omega
              have b2 : ((x : Int) % 5 == 2) = false := by rw [beq_eq_false_iff_ne]; omega
              have b3 : ((x : Int) % 5 == 3) = true := by rw [beq_iff_eq]; omega
              clear hm
              go_wp2_with fail
              refine (rBool wr p g f l HPR.out.rd).mono ?_
              rintro e w6 h6
              obtain ⟨rfl, l1, q1, a1, q2⟩ := Ro.any h6
              obtain ⟨n, hn⟩ := ans_bool (M.opt f (M.decBool l))
              rw [hn]
              have HM := Lib.hid (HPR.out.first q2)
              have HQ1 := Lib.hid q1
              have HA1 := Lib.hid a1
              have HQ2 := Lib.hid q2
              have HN := Lib.hid hn
              clear h6 q1 a1 q2 hn
              go_wp2_with fail
              refine (mBool w6 w5.heap.size g1 f l' HM.out).mono ?_
              rintro e w7 h7
              rw [HPR.out.opt (M.decBool)] at h7
              obtain ⟨rfl, l2, q3, a2, q4⟩ := Mo.any h7
              rw [HN.out]
              have HNX := Lib.hid (HPR.out.next HQ1.out HA1.out HQ2.out q3 a2 q4 (HPR.out.small shrBool))
              clear h7 q3 a2 q4
              go_wp2_with fail
              go_roundw
              case rel => exact ⟨j + 1, _, l1, l2, by omega, by go_num, HNX.out⟩
              case measure => simp [intOf]; omega
            · have b0 : ((x : Int) % 5 == 0) = false := by rw [beq_eq_false_iff_ne]; omega
              have b1 : ((x : Int) % 5 == 1) = false := by rw [beq_eq_false_iff_ne]; omega
              have b2 : ((x : Int) % 5 == 2) = false := by rw [beq_eq_false_iff_ne]; omega
              have b3 : ((x : Int) % 5 == 3) = false := by rw [beq_eq_false_iff_ne]; omega
              clear hm
              go_wp2_with fail
              refine (rSummary wr p g f l HPR.out.rd (fun hf => by have := HPR.out.len hf; omega)).mono ?_
              rintro e w6 h6
              obtain ⟨v6, rfl, s6, l1, q1, a1, q2⟩ := RoS.any h6
              have HM := Lib.hid (HPR.out.first q2)
              have HQ1 := Lib.hid q1
              have HA1 := Lib.hid a1
              have HQ2 := Lib.hid q2
              have HS6 := Lib.hid s6
              clear h6 q1 a1 q2 s6
              go_wp2_with fail
              refine (mSummary w6 w5.heap.size g1 f l' HM.out (fun hf => by have := HPR.out.len hf; rw [← HPR.out.same hf]; omega)).mono ?_
              rintro e w7 h7
              rw [HPR.out.opt M.decSm] at h7
              obtain ⟨v7, rfl, s7, l2, q3, a2, q4⟩ := MoS.any h7
              have HNX := Lib.hid (HPR.out.next HQ1.out HA1.out HQ2.out q3 a2 q4 (HPR.out.small shrSm))
              have HS7 := Lib.hid s7.zero
              have HS6' := Lib.hid ((HS6.out.keep (fun y hy => by simp at hy; have := HPR.out.rm.lt; omega) q4).zero)
              clear h7 q3 a2 q4 s7
              go_wp2_with fail
              refine (summary_same w7 v6 v7 _ HS6'.out HS7.out (by have := HPR.out.sizes.1; omega) (by have := HPR.out.sizes.2; omega)).mono ?_
              rintro e w8 ⟨rfl, hk8⟩
              have HNY := Lib.hid (HNX.out.keep hk8)
              clear hk8
              go_wp2_with fail
              go_roundw
              case rel => exact ⟨j + 1, _, l1, l2, by omega, by go_num, HNY.out⟩
              case measure => simp [intOf]; omega
        · obtain ⟨Am, cm, hbm, _, hcm, hmm⟩ := HPR.out.rm
          have m0 : wr.cell? ⟨w5.heap.size, 0, none⟩ = some (.slice Am l'.length cm) := row_cell hbm 0
          have m1 : wr.cell? ⟨w5.heap.size, 1, none⟩ = some (.bool f) := row_cell hbm 1
          have hl9 : l'.length ≤ 9223372036854775807 := by unfold maxLen at hmm; omega
          have HD := Lib.hid (show ∀ wx, Keeps [] wr wx → Calls Try.prog 33 #[.pointer (some ⟨p, 0, none⟩)] wx fun e w' => e = .returned (.int .i64 (doneNum l f)) ∧ w' = wx from
            fun wx hk => (done_any wx p g l f (HPR.out.rd.keep hk (by simp) (by simp))).mono fun _ _ h => ⟨h.1, h.2.symm⟩)
          have HKZ := Lib.hid HPR.out.keeps
          clear hbm hcm hmm
          cases f with
          | true =>
            have hd20 : doneNum l true = 20 := by unfold doneNum; rw [if_pos (.inl rfl)]
            rw [hd20] at HD
            go_wp2_with fail
            go_quiet ((go_at_call 33; exact Calls.quiet_of_same (HD.out _ ((Keeps.refl _ _).drewN _))))
            go_wp2_with fail
            go_ret
            exact ⟨rfl, (HKZ.out.drewN nq).below (by simp) (Nat.le_refl _)⟩
          | false =>
            obtain rfl := HPR.out.same rfl
            by_cases hl0 : l.length = 0
            · have hd0 : doneNum l false = 0 := by unfold doneNum; rw [if_neg (by simp; simpa using hl0)]
              rw [hd0] at HD
              go_wp2_with fail
              go_quiet ((go_at_call 33; exact Calls.quiet_of_same (HD.out _ ((Keeps.refl _ _).drewN _))))
              go_wp2_with fail
              go_ret
              exact ⟨rfl, (HKZ.out.drewN nq).below (by simp) (Nat.le_refl _)⟩
            · have hd0 : doneNum l false = 20 := by unfold doneNum; rw [if_pos (.inr (by omega))]
              rw [hd0] at HD
              have e0 : ((l.length : Int) == 0) = false := by rw [beq_eq_false_iff_ne]; omega
              go_wp2_with fail
              go_quiet ((go_at_call 33; exact Calls.quiet_of_same (HD.out _ ((Keeps.refl _ _).drewN _))))
              go_wp2_with fail
              go_ret
              exact ⟨rfl, (HKZ.out.drewN nq).below (by simp) (Nat.le_refl _)⟩
end Go.Proofs.Ytohmadfaaonaaaa.codeReads
