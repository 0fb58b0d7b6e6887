/- frame: a frame's bytes are made. -/
import Derived.Test.YtgjgnieobbhepaaDoorWFrame
namespace Go.Proofs.YtgjgnieobbhepaaDoor
open Go.RowKit
open Reg (Is Fact)

attribute [local go_sem] Reg.lateFr Reg.wantedV Reg.gives_value Reg.gives_skip Reg.gives_enter
/-- What a region leaves whose one operation 'last' writes. -/
def CW (last : Nat) (w1 : World) (Post : World → Prop) (L : Nat → Bool) (w : World) : Prop := (L last = false → Keeps [] w1 w) ∧ (L last = true → Post w)
theorem CW.lay {last i : Nat} {w1 w w' : World} {Post : World → Prop} {L : Nat → Bool} (hC : CW last w1 Post L w) (hi : i ≠ last) (hk : Keeps [] w w') (hP : ∀ a b, Post a → Keeps [] a b → Post b) : CW last w1 Post (Reg.lay L i) w' := by
  unfold CW
  rw [lay_ne hi]
  exact ⟨fun h => (hC.1 h).trans hk (by simp), fun h => hP _ _ (hC.2 h) hk⟩
theorem CW.done {last : Nat} {w1 w' : World} {Post : World → Prop} {L : Nat → Bool} (h : Post w') : CW last w1 Post (Reg.lay L last) w' :=
  ⟨fun e => (by rw [lay_eq] at e; cases e), fun _ => h⟩
theorem CW.start {last n : Nat} {w : World} {Post : World → Prop} (h : last < n) : CW last w Post (fun k => decide (n ≤ k)) w.drew :=
  ⟨fun _ => (Keeps.refl _ _).drew, fun e => by simp at e; omega⟩
/-- A row of cells in a block apart from S. -/
def NewRow (S : List Nat) (W : Nat) (t : TypeId) (cs : Array Value) : Fact := fun v w => ∃ x, v = .slice (some ⟨x, 0, none⟩) cs.size cs.size ∧ w.heap[x]? = some (.cells cs t (0, 0)) ∧ x ∉ S ∧ W ≤ x
theorem NewRow.keep {S : List Nat} {W : Nat} {t : TypeId} {cs : Array Value} : ∀ v w w', NewRow S W t cs v w → Keeps S w w' → NewRow S W t cs v w' := by
  rintro v w w' ⟨x, h1, h2, h3, h4⟩ hk
  exact ⟨x, h1, block_keep h2 hk h3, h3, h4⟩
theorem Is.keepS {S : List Nat} {u : Value} : ∀ v w w', Is u v w → Keeps S w w' → Is u v w' := fun _ _ _ h _ => h

/-- A buffer of T bytes: nine of its own, m, zeros. -/
def buf (T : Nat) (m : List UInt8) : List UInt8 := List.replicate 9 0 ++ m ++ List.replicate (T - 9 - m.length) 0
theorem buf_length {T : Nat} {m : List UInt8} (h : 9 + m.length ≤ T) : (buf T m).length = T := by simp [buf]; omega
theorem buf_nil {T : Nat} (h : 9 ≤ T) : List.replicate T 0 = buf T [] := by
  rw [buf, List.append_nil, List.replicate_append_replicate]; congr 1; simp; omega
theorem buf_over {T : Nat} {m x : List UInt8} (h : 9 + m.length + x.length ≤ T) : over (buf T m) (9 + m.length) x = buf T (m ++ x) := by
  unfold over buf
  have e1 : (List.replicate 9 (0 : UInt8) ++ m).length = 9 + m.length := by simp; omega
  rw [← e1, List.take_left, ← List.drop_drop, List.drop_left, List.drop_replicate]
  simp only [List.append_assoc, List.length_append]
  congr 4
  omega
theorem buf_done {T n c : Nat} {mark : UInt8} {m : List UInt8} : over (over ((buf T m).set 0 mark) 1 (L.le32 n)) 5 (L.le32 c) = mark :: (L.le32 n ++ (L.le32 c ++ m)) ++ List.replicate (T - 9 - m.length) 0 := by
  unfold buf over
  simp [L.le32, List.replicate_succ]
theorem buf_rows {T n : Nat} {mark : UInt8} {m : List UInt8} (h : 9 + m.length ≤ T) : ((over ((buf T m).set 0 mark) 1 (L.le32 n)).drop 1).take 4 = L.le32 n ∧ ((over ((buf T m).set 0 mark) 1 (L.le32 n)).drop 9).take m.length = m ∧ (over ((buf T m).set 0 mark) 1 (L.le32 n)).length = T := by
  refine ⟨?_, ?_, ?_⟩
  · unfold buf over; simp [L.le32, List.replicate_succ]
  · unfold buf over; simp [L.le32, List.replicate_succ, List.take_append]
  · rw [over_length (by simp [L.le32, buf_length h]; have := buf_length h; omega), List.length_set, buf_length h]
theorem crc_two {w : World} {x c1 c2 c g1 g2 : Nat} {A1 A2 : Option Addr} {l1 l2 : List UInt8} {n1 n2 : Nat} (ht : TabAt w) (hx : w.heap[x]? = some (.cells #[.slice A1 n1 c1, .slice A2 n2 c2] 34 (0, 0))) (e1 : n1 = l1.length) (e2 : n2 = l2.length) (h1 : BytesIn w g1 A1 l1) (h2 : BytesIn w g2 A2 l2) (m1 : l1.length ≤ maxLen) (m2 : l2.length ≤ maxLen) :
    Calls Tryd.prog 52 #[.slice (some ⟨x, 0, none⟩) 2 c] w fun e w' => e = .returned (.int .u32 ((M.crc [l1, l2] : Nat) : Int)) ∧ w = w' := by
  subst e1 e2
  refine crc_any (some ⟨x, 0, none⟩) [l1, l2] c w (by simp [maxLen]) (.inr ⟨x, 0, rfl, fun j hj => ?_⟩) ht
  match j, hj with
  | 0, _ => exact ⟨A1, c1, by rw [row_cell hx]; rfl, h1.at, m1⟩
  | 1, _ => exact ⟨A2, c2, by rw [row_cell hx]; rfl, h2.at, m2⟩

set_option maxRecDepth 100000 in
set_option maxHeartbeats 2000000 in
theorem frame_any (w : World) (G : Nat → Prop) (A : Option Addr) (ls : List (List UInt8)) (cap s : Nat) (mark : UInt8) (ht : TabAt w) (hr : RowsIn w G A ls) (hG : ∀ x, G x → x < w.heap.size) (hb : (L.body ls).length < 4294967296) (hs : 64 ≤ s ∧ s ≤ 4096) :
    Calls Tryd.prog 35 #[.int .u8 ((mark.toNat : Nat) : Int), .slice A ls.length cap, .int .i64 (s : Int)] w (MadeP (L.frame mark ls s) w) := by
  obtain ⟨iU, hU, hU0, hU1, hU2⟩ := info_parts infoU8
  have HSEC := Lib.hid (sectors_of w G A ls cap s hr (by omega) (by omega))
  have hbound := L.nsec_bound (rs := ls) (s := s) (by omega)
  have hcount := body_count ls
  obtain ⟨ns, hns⟩ : ∃ ns, ns = L.nsec ls s := ⟨_, rfl⟩
  obtain ⟨T, hT⟩ : ∃ T, T = (ns + 1) * s := ⟨_, rfl⟩
  have hT2 : T = ns * s + s := by rw [hT, Nat.add_mul]; omega
  rw [← hns] at HSEC hbound
  have hTs : 64 ≤ T ∧ T ≤ 4294975495 := by omega
  have hnsl : ns ≤ 4294971401 := by
    have : ns * 1 ≤ ns * s := Nat.mul_le_mul_left _ (by omega)
    omega
  have eT : ((ns : Int) + 1) * (s : Int) = (T : Int) := by rw [hT]; push_cast; rfl
  have HR := Lib.hid hr
  have HTAB := Lib.hid ht
  have HG := Lib.hid hG
  have HF := Lib.hid (show L.frame mark ls s = if ls = [] then List.replicate T 0 else L.core mark ls ++ List.replicate (T - (9 + (L.body ls).length)) 0 by
    unfold L.frame
    split
    · rename_i h0
      have e0 : ns = 0 := by rw [hns, h0]; exact L.nsec_nil s
      rw [hT, e0, Nat.zero_add, Nat.one_mul]
    · rw [hT, hns])
  have HROOM := Lib.hid (show ls ≠ [] → 9 + (L.body ls).length ≤ ns * s from fun h0 => by rw [hns]; exact L.nsec_room h0 (by omega))
  have HT2 := Lib.hid hT2
  clear hr ht hG hT hT2 hns hbound
  by_cases h0 : ls = []
  · have HE := Lib.hid (show L.frame mark ls s = List.replicate T 0 by rw [HF.out, if_pos h0])
    have HL := Lib.hid (show (L.frame mark ls s).length = T by rw [HE.out]; simp)
    have hz : ((ls.length : Int) == 0) = true := by rw [h0]; rfl
    clear h0
    go_enter Tryd.func35, Tryd.ntmps35
    go_wp2_with fail
    refine HSEC.out.mono ?_
    rintro e w' ⟨rfl, rfl⟩
    go_wp2_with (at_make; refine wpList_make_full _ rfl _ _ 34 rfl w.heap.size 5 iU (.int .u8 0) 1 Tryd.underlying34 hU hU0 hU1 .i64 .i64 (T : Int) (T : Int) T rfl rfl rfl rfl (by rw [hU2]; omega) (by unfold maxLen; omega) (Nat.le_refl _) ?_)
    intro w1 ho1 hg1
    have HK := Lib.hid ((Keeps.of_grown hg1).mono (T := []) (by simp))
    have HZ := Lib.hid (made_row ho1)
    clear ho1 hg1
    go_wp2_with fail
    go_ret
    exact ⟨w.heap.size, by rw [HL.out]; rfl, by rw [HE.out]; exact HZ.out, Nat.le_refl _, HK.out⟩
  · have hpos : 0 < ls.length := List.length_pos_iff.2 h0
    have hz : ((ls.length : Int) == 0) = false := by rw [beq_eq_false_iff_ne]; omega
    have hroom : 9 + (L.body ls).length + s ≤ T := by have := HROOM.out h0; have := HT2.out; omega
    have HE := Lib.hid (show L.frame mark ls s = L.core mark ls ++ List.replicate (T - 9 - (L.body ls).length) 0 by rw [HF.out, if_neg h0, Nat.sub_sub])
    have HL := Lib.hid (show (L.frame mark ls s).length = T by rw [HE.out, List.length_append, L.core_length, List.length_replicate]; omega)
    clear h0
    go_enter Tryd.func35, Tryd.ntmps35
    go_wp2_with fail
    refine HSEC.out.mono ?_
    rintro e w' ⟨rfl, rfl⟩
    go_wp2_with (at_make; refine wpList_make_full _ rfl _ _ 34 rfl w.heap.size 5 iU (.int .u8 0) 1 Tryd.underlying34 hU hU0 hU1 .i64 .i64 (T : Int) (T : Int) T rfl rfl rfl rfl (by rw [hU2]; omega) (by unfold maxLen; omega) (Nat.le_refl _) ?_)
    intro w1 ho1 hg1
    have HK := Lib.hid ((Keeps.of_grown hg1).mono (T := []) (by simp))
    have HZ := Lib.hid (show U8At w1 w.heap.size (buf T []) by rw [← buf_nil (by omega)]; exact made_row ho1)
    clear ho1 hg1 eT
    go_wp2_with fail
    go_loopw [8, 24] (fun av iv wr => ∃ k m : Nat, k ≤ ls.length ∧ iv = .int .i64 k ∧ av = .int .i64 (m : Int) ∧ m = 9 + (L.body (ls.take k)).length ∧ U8At wr w.heap.size (buf T (L.body (ls.take k))) ∧ Keeps [] w wr) (fun _ iv _ => ls.length - (RowKit.intOf iv).toNat)
    case atStart => exact ⟨0, 9, Nat.zero_le _, rfl, rfl, rfl, HZ.out, HK.out⟩
    case round =>
      obtain ⟨k, m, hk, rfl, rfl, hm, hu, hkp⟩ := hrel
      have hle := body_take_le ls k
      have HM := Lib.hid hm
      have HU := Lib.hid hu
      have HKP := Lib.hid hkp
      have hmle : m + s ≤ T ∧ 9 ≤ m := by omega
      by_cases hlt : k < ls.length
      · have HRw := Lib.hid (HR.out.keep0 hkp)
        rcases HRw.out with h0 | ⟨b, off, rfl, hGb, hc⟩
        · subst h0; simp at hpos
        · obtain ⟨v, hcv, A', g', cap', rfl, hbi, hcp, hcm, hor⟩ := hc k hlt
          have hl := body_le hlt
          have hbt := body_take hlt
          have hle2 := body_take_le ls (k + 1)
          have HBN := Lib.hid (show L.body (ls.take (k + 1)) = L.body (ls.take k) ++ L.le32 ls[k].length ++ ls[k] by
            rw [List.take_succ_eq_append_getElem hlt, L.body_append]; simp [L.body])
          obtain ⟨r, hr'⟩ : ∃ r, r = ls[k] := ⟨_, rfl⟩
          rw [← hr'] at hcv hl hbt HBN hbi hcp hor
          have hn2 : r.length < 4294967296 := by omega
          have hfit : m + 4 + r.length + s ≤ T := by omega
          have HB := Lib.hid hbi
          have HOR := Lib.hid (show r = [] ∨ g' ≠ w.heap.size from hor.imp id (fun h => by have := HG.out _ h; omega))
          have HBO1 := Lib.hid (show over (buf T (L.body (ls.take k))) m (L.le32 r.length) = buf T (L.body (ls.take k) ++ L.le32 r.length) by rw [HM.out]; exact buf_over (by rw [L.le32_length]; omega))
          have HBO2 := Lib.hid (show over (buf T (L.body (ls.take k) ++ L.le32 r.length)) (m + 4) r = buf T (L.body (ls.take (k + 1))) by
            rw [HM.out, HBN.out, show 9 + (L.body (ls.take k)).length + 4 = 9 + (L.body (ls.take k) ++ L.le32 r.length).length by rw [List.length_append, L.le32_length]; omega]
            exact buf_over (by rw [List.length_append, L.le32_length]; omega))
          have HLB := Lib.hid (show (buf T (L.body (ls.take k))).length = T from buf_length (by omega))
          have HLB2 := Lib.hid (show (buf T (L.body (ls.take k) ++ L.le32 r.length)).length = T from buf_length (by rw [List.length_append, L.le32_length]; omega))
          have HMN := Lib.hid (show m + 4 + r.length = 9 + (L.body (ls.take (k + 1))).length by omega)
          clear hc hr' hm hu hkp hle hl hbt hle2 hor hbi hGb
          have hmT : ¬ T = m := by omega
          have hmT2 : ¬ T = m + 4 := by omega
          go_wp2_with fail
          refine (putNumber_any wr w.heap.size m (T - m) (T - m) (buf T (L.body (ls.take k))) r.length HU.out (by rw [HLB.out]; omega) (by omega) hn2).mono ?_
          rintro e w2 ⟨rfl, hu2, hk2⟩
          have HU2 := Lib.hid (show U8At w2 w.heap.size (buf T (L.body (ls.take k) ++ L.le32 r.length)) by rw [← HBO1.out]; exact hu2)
          have HK2 := Lib.hid hk2
          clear hu2 hk2
          go_wp2_with (with_reducible refine wpList_copy_over rfl _ _ rfl (buf T (L.body (ls.take k) ++ L.le32 r.length)) r w.heap.size g' (m + 4) (T - (m + 4)) (T - (m + 4)) cap' A' rfl rfl HU2.out ?c1 ?c2 ?c3 ?_)
          case c1 =>
            rcases HOR.out with e | e
            · exact .inl e
            · exact HB.out.keep HK2.out (by simpa using e)
          case c2 => omega
          case c3 => rw [HLB2.out]; omega
          intro w3 hu3 hk3
          have HU3 := Lib.hid (show U8At w3 w.heap.size (buf T (L.body (ls.take (k + 1)))) by rw [← HBO2.out]; exact hu3)
          have HK3 := Lib.hid (show Keeps [] w w3 from ((HKP.out.mono (T := [w.heap.size]) (by simp)).trans (HK2.out.trans hk3 (fun _ h _ => h)) (fun _ h _ => h)).mono (fun i hi hl => by simp at hi; omega))
          clear hu3 hk3
          go_wp2_with fail
          go_roundw
          case rel => exact ⟨k + 1, m + 4 + r.length, by omega, by go_num, by go_num, HMN.out, HU3.out, HK3.out⟩
          case measure => simp [RowKit.intOf]; omega
      · have hke : ls.take k = ls := List.take_of_length_le (by omega)
        obtain ⟨bd, hbd⟩ : ∃ bd, bd = L.body ls := ⟨_, rfl⟩
        rw [hke, ← hbd] at hm hu
        rw [← hbd] at hb hroom HE
        have HKP9 := Lib.hid (hkp.mono (T := [w.heap.size]) (by simp))
        have HTW := Lib.hid (HTAB.out.keep hkp (by simp))
        obtain ⟨y, c0⟩ : ∃ y : Value, wr.cell? ⟨w.heap.size, 0, none⟩ = some y := ⟨_, hu.cell (i := 0) (by rw [buf_length (by omega)]; omega)⟩
        have f0 := row_free hu 0
        have HP := Lib.hid (hu.set 0 mark)
        have hgs := block_lt hu
        obtain ⟨q1, q2, q3⟩ := buf_rows (T := T) (n := bd.length) (mark := mark) (m := bd) (by omega)
        have HQ1 := Lib.hid q1
        have HQ2 := Lib.hid q2
        have HQ3 := Lib.hid q3
        have HD := Lib.hid (buf_done (T := T) (n := bd.length) (c := L.check bd) (mark := mark) (m := bd))
        have HCO := Lib.hid (show L.core mark ls = mark :: (L.le32 bd.length ++ (L.le32 (L.check bd) ++ bd)) by unfold L.core; rw [← hbd])
        have hcl : L.check bd < 4294967296 := M.crc_lt _
        have em : (m : Int) - 9 = (bd.length : Int) := by omega
        have hT1 : ¬ T = 1 := by omega
        have hT5 : ¬ T = 5 := by omega
        have hT9 : ¬ T = 9 := by omega
        have hm9 : 9 ≤ m := by omega
        have hmT : m ≤ T := by omega
        have HMB := Lib.hid (show m = 9 + bd.length from hm)
        have HSB := Lib.hid (show ((buf T bd).set 0 mark).length = T by rw [List.length_set]; exact buf_length (by omega))
        clear hke hm hu hkp hle hbd q1 q2 q3 HM HU hmle
        go_wp2_with fail
        refine (putNumber_any _ w.heap.size 1 (T - 1) (T - 1) ((buf T bd).set 0 mark) bd.length HP.out (by rw [HSB.out]; omega) (by omega) hb).mono ?_
        rintro e w2 ⟨rfl, hu2, hk2⟩
        have HU2 := Lib.hid hu2
        have HK2 := Lib.hid (show Keeps [w.heap.size] wr w2 from ((Keeps.refl _ _).setCell (by simp) _).trans hk2 (fun _ h _ => h))
        have HT2W := Lib.hid (HTW.out.keep HK2.out (by have := HTAB.out.pos; simp; omega))
        have hg2 := block_lt hu2
        clear hu2 hk2 c0 f0 em
        have HFR := Lib.hid (show over (over ((buf T bd).set 0 mark) 1 (L.le32 bd.length)) 5 (L.le32 (L.check bd)) = L.frame mark ls s by rw [HD.out, HE.out, HCO.out])
        have HBB1 := Lib.hid (show ∀ w', CW 9 w2 (fun w' => U8At w' w.heap.size (L.frame mark ls s) ∧ Keeps [w.heap.size] w2 w') (fun _ => false) w' ∨ U8At w' w.heap.size (L.frame mark ls s) → BytesIn w' w.heap.size (some ⟨w.heap.size, 1, none⟩) (L.le32 bd.length) ∧ BytesIn w' w.heap.size (some ⟨w.heap.size, 9, none⟩) bd from fun w' hk => by
          rcases hk with hk | hk
          · have hk0 := hk.1 rfl
            have t1 := HU2.out.part 1 4 (by rw [HQ3.out]; omega)
            rw [HQ1.out] at t1
            have t2 := HU2.out.part 9 bd.length (by rw [HQ3.out]; omega)
            rw [HQ2.out] at t2
            exact ⟨t1.keep hk0 (by simp), t2.keep hk0 (by simp)⟩
          · have t1 := hk.part 1 4 (by rw [HL.out]; omega)
            have t2 := hk.part 9 bd.length (by rw [HL.out]; omega)
            rw [← HFR.out, HD.out] at t1 t2
            refine ⟨?_, ?_⟩
            · have e : (((mark :: (L.le32 bd.length ++ (L.le32 (L.check bd) ++ bd)) ++ List.replicate (T - 9 - bd.length) 0)).drop 1).take 4 = L.le32 bd.length := by simp [L.le32]
              rw [e] at t1; exact t1
            · have e : (((mark :: (L.le32 bd.length ++ (L.le32 (L.check bd) ++ bd)) ++ List.replicate (T - 9 - bd.length) 0)).drop 9).take bd.length = bd := by simp [L.le32]
              rw [e] at t2; exact t2)
        have h5T : (5 : Int) ≤ (T : Int) := by omega
        have h9m : (9 : Int) ≤ (m : Int) := by omega
        have HKW := Lib.hid (show Keeps [w.heap.size] w w2 from HKP9.out.trans HK2.out (fun _ h _ => h))
        go_wp2_with fail
        refine Reg.wp_region_state (A := ?A) (CW 9 w2 (fun w' => U8At w' w.heap.size (L.frame mark ls s) ∧ Keeps [w.heap.size] w2 w')) (Keeps [w.heap.size])
          [Is (.slice (some ⟨w.heap.size, 0, none⟩) T T), Is (.slice (some ⟨w.heap.size, 5, none⟩) (T - 5) (T - 5)), Is (.slice (some ⟨w.heap.size, 0, none⟩) T T), Is (.slice (some ⟨w.heap.size, 1, none⟩) 4 (T - 1)),
           Is (.slice (some ⟨w.heap.size, 0, none⟩) T T), Is (.int .i64 (m : Int)), Is (.slice (some ⟨w.heap.size, 9, none⟩) (m - 9) (T - 9)), NewRow [w.heap.size] w2.heap.size 34 #[.slice (some ⟨w.heap.size, 1, none⟩) 4 (T - 1), .slice (some ⟨w.heap.size, 9, none⟩) (m - 9) (T - 9)],
           Is (.int .u32 ((L.check bd : Nat) : Int)), Is (.tuple #[])]
          (by kernel_rfl) (by kernel_rfl) rfl ?hA ?hC ?ho ?hlast ?hend
        case hA => intro vs; simp only [Reg.fill, if_true, Nat.zero_add, Nat.reduceAdd, Act.put, List.setIfInBounds_toArray, List.set_cons_succ, List.set_cons_zero]; exact rfl
        case hC => exact CW.start (by decide)
        case hlast => repeat (first | exact trivial | refine ⟨Is.keepS, ?_⟩ | refine ⟨NewRow.keep, ?_⟩)
        case ho =>
          repeat' apply And.intro
          all_goals
            first
              | exact trivial
              | (intro Ls vs w' hC hL hd K hK
                 try simp only [Reg.Deps, Reg.at_, List.getD_cons_zero, List.getD_cons_succ, Region.binds, true_implies, Is, and_true] at hd
                 go_simp
                 first
                   | exact hK _ _ (hC.lay (by decide) (Keeps.refl _ _) (fun a b hp hk => ⟨hp.1.keep hk (by simp), hp.2.trans hk (by simp)⟩)) (Keeps.refl _ _) rfl
                   | skip)
          · have hks : Keeps [w.heap.size] w2 w' := by
              cases e9 : Ls 9 with
              | false => exact (hC.1 e9).mono (by simp)
              | true => exact (hC.2 e9).2
            exact hK _ _ (hC.lay (by decide) ((Keeps.refl _ _).alloc _) (fun a b hp hk => ⟨hp.1.keep hk (by simp), hp.2.trans hk (by simp)⟩)) ((Keeps.refl _ _).alloc _) ⟨w'.heap.size, rfl, heap_alloc_new _ _, by have := hks.size; simp; omega, hks.size⟩
          · obtain ⟨x, hx, hxb, _⟩ := hd
            rw [hx]
            have hks : Keeps [w.heap.size] w2 w' := by
              cases e9 : Ls 9 with
              | false => exact (hC.1 e9).mono (by simp)
              | true => exact (hC.2 e9).2
            obtain ⟨b1, b2⟩ := HBB1.out w' (by
              cases e9 : Ls 9 with
              | false => exact .inl ⟨fun _ => hC.1 e9, fun e => by cases e⟩
              | true => exact .inr (hC.2 e9).1)
            refine (crc_two (HT2W.out.keep hks (by have := HTAB.out.pos; simp; omega)) hxb rfl (by rw [HMB.out]; omega) b1 b2 (by rw [L.le32_length]; unfold maxLen; omega) (by unfold maxLen; omega)).mono ?_
            rintro e w'' ⟨rfl, rfl⟩
            exact ⟨_, rfl, hK _ _ (hC.lay (by decide) (Keeps.refl _ _) (fun a b hp hk => ⟨hp.1.keep hk (by simp), hp.2.trans hk (by simp)⟩)) (Keeps.refl _ _) rfl⟩
          · have hk0 := hC.1 hL
            refine (putNumber_any w' w.heap.size 5 (T - 5) (T - 5) _ (L.check bd) (HU2.out.keep hk0 (by simp)) (by rw [HQ3.out]; omega) (by omega) hcl).mono ?_
            rintro e w'' ⟨rfl, hu3, hk3⟩
            rw [HFR.out] at hu3
            exact ⟨_, rfl, hK _ _ (CW.done ⟨hu3, (hk0.mono (by simp)).trans hk3 (fun _ h _ => h)⟩) hk3 rfl⟩
        case hend =>
          intro vs w3 hC hall
          obtain ⟨r1, r2⟩ := hC.2 rfl
          have HR1 := Lib.hid r1
          have HR2 := Lib.hid (show Keeps [] w w3 from (HKW.out.trans r2 (fun _ h _ => h)).mono (fun i hi hl => by simp at hi; omega))
          clear hC hall r1 r2
          go_wp2_with fail
          go_ret
          exact ⟨w.heap.size, by rw [HL.out]; rfl, HR1.out, Nat.le_refl _, HR2.out⟩
end Go.Proofs.YtgjgnieobbhepaaDoor
