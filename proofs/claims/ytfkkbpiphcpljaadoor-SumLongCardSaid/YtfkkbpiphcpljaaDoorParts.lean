/- SumParts: cut a list of bytes anywhere: the checksum stays; the fingerprint of the two pieces is the reference's. -/
import Derived.Test.YtfkkbpiphcpljaaDoorSeat
import Derived.Test.YtfkkbpiphcpljaaDoorRegion
namespace Go.Proofs.YtfkkbpiphcpljaaDoor.sumParts
open Go.ChangeShapes Go.WideShapes Go.ChangeAt Go.RowKit
open B (StrsAt texts)
open Reg (Is Fact)

theorem add_plain (b off k : Nat) : (⟨b, off, none⟩ : Addr).add k = ⟨b, off + k, none⟩ := by
  unfold Addr.add
  by_cases h : k = 0
  · subst h; simp
  · simp [h]
theorem BytesAt.take {w : World} {A : Option Addr} {l : List UInt8} (h : BytesAt w A l) (k : Nat) : BytesAt w A (l.take k) := by
  rcases h with rfl | ⟨b, off, rfl, hc⟩
  · exact .inl (by simp)
  · exact .inr ⟨b, off, rfl, fun j hj => by
      have : j < l.length := by simp at hj; omega
      rw [hc j this]; simp⟩
theorem BytesAt.drop {w : World} {A : Option Addr} {l : List UInt8} {cap : Nat} (h : BytesAt w A l) (k : Nat) (hcap : l.length ≤ cap) : BytesAt w (if cap = k then A else A.map (·.add k)) (l.drop k) := by
  by_cases hk : l.length ≤ k
  · exact .inl (List.drop_eq_nil_of_le hk)
  · rcases h with rfl | ⟨b, off, rfl, hc⟩
    · simp at hk
    · rw [if_neg (by omega)]
      refine .inr ⟨b, off + k, by simp [add_plain], fun j hj => ?_⟩
      have : k + j < l.length := by simp at hj; omega
      have h1 := hc (k + j) this
      rw [Nat.add_assoc, h1]; simp

attribute [local go_sem] Reg.wantedV Reg.gives_value Reg.gives_skip Reg.gives_enter
/-- A new row of the cells cs. -/
def Row (_t : TypeId) (n : Nat) (cs : Array Value) : Fact := fun v w => ∃ g, v = .slice (some ⟨g, 0, none⟩) n n ∧ g < w.heap.size ∧ ∀ j, w.cell? ⟨g, j, none⟩ = cs[j]?
theorem Row.last {t n B} {cs : Array Value} : ∀ v w w', B ≤ w.heap.size → Row t n cs v w → Below w.heap.size w w' → Row t n cs v w' :=
  fun _ _ _ _ ⟨g, hv, hg, hc⟩ hb => ⟨g, hv, Nat.lt_of_lt_of_le hg hb.size, fun j => (hb.cell (p := ⟨g, j, none⟩) hg).trans (hc j)⟩
theorem Is.last {u : Value} {B} : ∀ v w w', B ≤ w.heap.size → Is u v w → Below w.heap.size w w' → Is u v w' := fun _ _ _ _ h _ => h

/-- b[:k], b[k:] of a slice of bytes. -/
theorem cut_high {A : Option Addr} {l : List UInt8} {cap k : Nat} (hk : k ≤ l.length) (hcap : l.length ≤ cap) : ∃ A', (∀ w, (Instr.slice 33 (.slice A l.length cap) none (some (.int .i64 (k : Int))) none).run Tryd.prog w = .ok (.slice A' k cap) w) ∧
    ∀ w, BytesAt w A l → BytesAt w A' (l.take k) := by
  refine ⟨if cap = 0 then A else A.map (·.add 0), fun w => ?_, fun w h => ?_⟩
  · have := run_slice_h (P := Tryd.prog) w 33 A l.length cap Tryd.underlying33 .i64 (k : Int) (by omega) (by omega)
    rw [this]
    have hs : (sizeOf (Tryd.prog.elem 33)).run Tryd.prog w = .ok 1 w := by kernel_rfl
    rw [hs]
    simp [Result.andThen, sliced]
  · have h2 := BytesAt.take h k
    by_cases hc : cap = 0
    · rw [if_pos hc]; exact h2
    · rw [if_neg hc]
      rcases h2 with h2 | ⟨b, off, rfl, hc2⟩
      · exact .inl h2
      · exact .inr ⟨b, off, by simp [add_plain], hc2⟩
theorem cut_low {A : Option Addr} {l : List UInt8} {cap k : Nat} (hk : k ≤ l.length) (hcap : l.length ≤ cap) : ∃ A' n c, n = (l.drop k).length ∧ (∀ w, (Instr.slice 33 (.slice A l.length cap) (some (.int .i64 (k : Int))) none none).run Tryd.prog w = .ok (.slice A' n c) w) ∧
    ∀ w, BytesAt w A l → BytesAt w A' (l.drop k) := by
  refine ⟨if cap = k then A else A.map (·.add k), l.length - k, cap - k, by simp, fun w => ?_, fun w h => BytesAt.drop h k hcap⟩
  have := run_slice_l (P := Tryd.prog) w 33 A l.length cap Tryd.underlying33 .i64 (k : Int) (by omega) (by omega)
  rw [this]
  have hs : (sizeOf (Tryd.prog.elem 33)).run Tryd.prog w = .ok 1 w := by kernel_rfl
  rw [hs]
  simp [Result.andThen, sliced]

theorem Row.new {w : World} {t : TypeId} {n : Nat} {cs : Array Value} : Row t n cs (.slice (some ⟨w.heap.size, 0, none⟩) n n) (w.alloc (.cells cs t)) :=
  ⟨_, rfl, by simp, fun j => cell_new rfl j⟩
theorem rows_of {w : World} {g : Nat} {cs : Array Value} {ls : List (List UInt8)} (hc : ∀ j, w.cell? ⟨g, j, none⟩ = cs[j]?)
    (h : ∀ j (hj : j < ls.length), ∃ Aj cap, cs[j]? = some (.slice Aj ls[j].length cap) ∧ BytesAt w Aj ls[j] ∧ ls[j].length ≤ maxLen) : RowsAt w (some ⟨g, 0, none⟩) ls :=
  .inr ⟨g, 0, rfl, fun j hj => by
    obtain ⟨Aj, cap, h1, h2, h3⟩ := h j hj
    exact ⟨Aj, cap, by rw [Nat.zero_add, hc, h1], h2, h3⟩⟩
theorem strs_of {w : World} {g : Nat} {cs : Array Value} {ss : List ByteArray} (hc : ∀ j, w.cell? ⟨g, j, none⟩ = cs[j]?)
    (h : ∀ j (hj : j < ss.length), cs[j]? = some (.string ss[j]) ∧ ss[j].size ≤ maxLen) : StrsAt w (some ⟨g, 0, none⟩) ss :=
  .inr ⟨g, 0, rfl, fun j hj => ⟨by rw [Nat.zero_add, hc, (h j hj).1], (h j hj).2⟩⟩
theorem strOf_size (l : List UInt8) : (strOf l).size = l.length := by simp [strOf, ByteArray.size]

/-- Crc of two slices of bytes. -/
theorem crc_two {w : World} {g n1 n2 c1 c2 c : Nat} {A1 A2 : Option Addr} {l1 l2 : List UInt8} (ht : TabAt w) (hc : ∀ j, w.cell? ⟨g, j, none⟩ = (#[.slice A1 n1 c1, .slice A2 n2 c2] : Array Value)[j]?)
    (e1 : n1 = l1.length) (e2 : n2 = l2.length) (h1 : BytesAt w A1 l1) (h2 : BytesAt w A2 l2) (m1 : l1.length ≤ maxLen) (m2 : l2.length ≤ maxLen) :
    Calls Tryd.prog 9 #[.slice (some ⟨g, 0, none⟩) 2 c] w fun e w' => e = .returned (.int .u32 ((M.crc [l1, l2] : Nat) : Int)) ∧ w = w' :=
  crc_any (some ⟨g, 0, none⟩) [l1, l2] c w (by simp [maxLen]) (rows_of hc fun j hj => match j, hj with
    | 0, _ => ⟨A1, c1, by rw [e1]; rfl, h1, m1⟩
    | 1, _ => ⟨A2, c2, by rw [e2]; rfl, h2, m2⟩) ht
theorem crc_one {w : World} {g n1 c1 c : Nat} {A1 : Option Addr} {l1 : List UInt8} (ht : TabAt w) (hc : ∀ j, w.cell? ⟨g, j, none⟩ = (#[.slice A1 n1 c1] : Array Value)[j]?)
    (e1 : n1 = l1.length) (h1 : BytesAt w A1 l1) (m1 : l1.length ≤ maxLen) :
    Calls Tryd.prog 9 #[.slice (some ⟨g, 0, none⟩) 1 c] w fun e w' => e = .returned (.int .u32 ((M.crc [l1] : Nat) : Int)) ∧ w = w' :=
  crc_any (some ⟨g, 0, none⟩) [l1] c w (by simp [maxLen]) (rows_of hc fun j hj => match j, hj with
    | 0, _ => ⟨A1, c1, by rw [e1]; rfl, h1, m1⟩) ht
theorem print_two {w : World} {g c : Nat} {l1 l2 : List UInt8} (hc : ∀ j, w.cell? ⟨g, j, none⟩ = (#[.string (strOf l1), .string (strOf l2)] : Array Value)[j]?) (m1 : l1.length ≤ maxLen) (m2 : l2.length ≤ maxLen) :
    Calls Tryd.prog 11 #[.slice (some ⟨g, 0, none⟩) 2 c] w fun e w' => e = .returned (.int .u64 ((M.fnv [l1, l2] : Nat) : Int)) ∧ w = w' :=
  B.print_any (some ⟨g, 0, none⟩) [strOf l1, strOf l2] c w (by simp [maxLen]) (strs_of hc fun j hj => match j, hj with
    | 0, _ => ⟨rfl, by show (strOf l1).size ≤ _; rw [strOf_size]; exact m1⟩
    | 1, _ => ⟨rfl, by show (strOf l2).size ≤ _; rw [strOf_size]; exact m2⟩)
theorem refPrint_two {w : World} {g c : Nat} {l1 l2 : List UInt8} (hc : ∀ j, w.cell? ⟨g, j, none⟩ = (#[.string (strOf l1), .string (strOf l2)] : Array Value)[j]?) (m1 : l1.length ≤ maxLen) (m2 : l2.length ≤ maxLen) :
    Calls Tryd.prog 13 #[.slice (some ⟨g, 0, none⟩) 2 c] w fun e w' => e = .returned (.int .u64 ((M.fnv [l1, l2] : Nat) : Int)) ∧ w = w' :=
  refPrint_any (some ⟨g, 0, none⟩) [strOf l1, strOf l2] c w (by simp [maxLen]) (strs_of hc fun j hj => match j, hj with
    | 0, _ => ⟨rfl, by show (strOf l1).size ≤ _; rw [strOf_size]; exact m1⟩
    | 1, _ => ⟨rfl, by show (strOf l2).size ≤ _; rw [strOf_size]; exact m2⟩)

set_option maxRecDepth 100000 in
set_option maxHeartbeats 2000000 in
theorem walk_up (A : Option Addr) (l : List UInt8) (cap : Nat) (at_ : Int) (w : World) (hcap : l.length ≤ cap) (_hcm : cap ≤ maxLen) (HR : Hid (BytesAt w A l)) (HT : Hid (TabAt w)) (HL : Hid (l.length ≤ maxLen)) (hs : 0 < w.heap.size)
    (hn' : (l.length : Int) ≤ 1000) (k : Nat) (hk : k ≤ l.length) (hkk : at_.tmod ((l.length : Int) + 1) = (k : Int)) :
    Calls Tryd.prog 4 #[.slice A l.length cap, .int .i64 at_] w fun e w' => e = .returned (.bool true) ∧ Below w.heap.size w w' := by
  unfold maxLen at _hcm
  go_enter Tryd.func4, Tryd.ntmps4
  go_wp2_with fail
  refine (known_any w HT.out hs).mono ?_
  rintro e w1 ⟨rfl, hb1⟩
  have HB1 := Lib.hid hb1
  clear hb1
  go_wp2_with fail
  obtain ⟨A2, hS2, hB2⟩ := cut_high (A := A) hk hcap
  obtain ⟨A5, n5, c5, hn5, hS5, hB5⟩ := cut_low (A := A) hk hcap
  have HN5 := Lib.hid hn5
  have HB2 := Lib.hid hB2
  have HB5 := Lib.hid hB5
  clear hB2 hB5 hn5
  obtain ⟨c0, hc0⟩ : ∃ c, c = M.crc [l] := ⟨_, rfl⟩
  obtain ⟨p0, hp0⟩ : ∃ p, p = M.fnv [l.take k, l.drop k] := ⟨_, rfl⟩
  have HC0 := Lib.hid hc0
  have HP0 := Lib.hid hp0
  clear hc0 hp0
  have HRw : ∀ w', Below w1.heap.size w1 w' → BytesAt w' A l := fun w' hb => (HR.out.keep HB1.out).keep hb
  have HTw : ∀ w', Below w1.heap.size w1 w' → TabAt w' := fun w' hb => (HT.out.below HB1.out hs).below hb (Nat.lt_of_lt_of_le hs HB1.out.size)
  have HLK := Lib.hid (show k = (l.take k).length by simp; omega)
  have hm2 : (l.take k).length ≤ maxLen := by unfold maxLen; simp; omega
  have hm5 : (l.drop k).length ≤ maxLen := by unfold maxLen; simp; omega
  have HV2 : Hid (∀ w', Below w1.heap.size w1 w' → (convert 33 9 (.slice A2 k cap)).run Tryd.prog w' = .ok (.string (strOf (l.take k))) w') := Lib.hid (fun w' hb => by
    have h := conv_text w' A2 (l.take k) cap (HB2.out _ (HRw w' hb))
    rwa [← HLK.out] at h)
  have HV5 : Hid (∀ w', Below w1.heap.size w1 w' → (convert 33 9 (.slice A5 n5 c5)).run Tryd.prog w' = .ok (.string (strOf (l.drop k))) w') := Lib.hid (fun w' hb => by
    have h := conv_text w' A5 (l.drop k) c5 (HB5.out _ (HRw w' hb))
    rwa [← HN5.out] at h)
  refine Reg.wp_region_facts (A := ?A) (fun w' => Below w1.heap.size w1 w') w1.heap.size
    [Is (.slice A l.length cap), Is (.int .i64 k), Is (.slice A2 k cap), Is (.slice A l.length cap), Is (.int .i64 k), Is (.slice A5 n5 c5),
     Row 33 2 #[.slice A2 k cap, .slice A5 n5 c5], Is (.int .u32 c0), Is (.slice A l.length cap), Row 33 1 #[.slice A l.length cap], Is (.int .u32 c0), Is (.bool true), Is (.bool true),
     Is (.slice A l.length cap), Row 33 2 #[.slice A l.length cap, .slice none 0 0], Is (.int .u32 c0), Is (.slice A l.length cap), Row 33 1 #[.slice A l.length cap], Is (.int .u32 c0), Is (.bool true), Is (.bool true), Is (.bool true),
     Is (.slice A l.length cap), Is (.int .i64 k), Is (.slice A2 k cap), Is (.string (strOf (l.take k))), Is (.slice A l.length cap), Is (.int .i64 k), Is (.slice A5 n5 c5), Is (.string (strOf (l.drop k))),
     Row 9 2 #[.string (strOf (l.take k)), .string (strOf (l.drop k))], Is (.int .u64 p0),
     Is (.slice A l.length cap), Is (.int .i64 k), Is (.slice A2 k cap), Is (.string (strOf (l.take k))), Is (.slice A l.length cap), Is (.int .i64 k), Is (.slice A5 n5 c5), Is (.string (strOf (l.drop k))),
     Row 9 2 #[.string (strOf (l.take k)), .string (strOf (l.drop k))], Is (.int .u64 p0), Is (.bool true), Is (.bool true), Is (.bool true)]
    (by kernel_rfl) (by kernel_rfl) rfl ?hA ?hC ?hB ?ho ?hlast ?hend
  case hA => intro vs; simp only [Reg.fill, if_true, Nat.zero_add, Nat.reduceAdd, Act.put, List.setIfInBounds_toArray, List.set_cons_succ, List.set_cons_zero]; exact rfl
  case hC => exact (Below.refl _ _).drew
  case hB => exact fun w' hb => hb.size
  case hlast => repeat (first | exact trivial | refine ⟨Is.last, ?_⟩ | refine ⟨Row.last, ?_⟩)
  case ho =>
    repeat' apply And.intro
    all_goals
      first
        | exact trivial
        | (intro vs w' hC hd K hK
           try simp only [Reg.Deps, Reg.at_, List.getD_cons_zero, List.getD_cons_succ, Region.binds, true_implies, Is, and_true] at hd
           first
             | (obtain ⟨hd1, hd2, hd⟩ := hd)
             | (obtain ⟨hd1, hd⟩ := hd)
             | skip
           go_simp
           first
             | exact hK _ _ hC (Below.refl _ _) rfl
             | exact hK _ _ (hC.alloc hC.size _) ((Below.refl _ _).alloc (Nat.le_refl _) _) Row.new
             | skip)
    · refine (crc_two (HTw w' hC) hd.2 HLK.out HN5.out (HB2.out _ (HRw w' hC)) (HB5.out _ (HRw w' hC)) hm2 hm5).mono ?_
      rintro e w'' ⟨rfl, rfl⟩
      exact ⟨_, rfl, hK _ _ hC (Below.refl _ _) (by rw [M.crc_cut, ← HC0.out]; rfl)⟩
    · obtain ⟨g, hg, -, hcell⟩ := hd1
      rw [hg]
      refine (crc_one (HTw w' hC) hcell rfl (HRw w' hC) HL.out).mono ?_
      rintro e w'' ⟨rfl, rfl⟩
      exact ⟨_, rfl, hK _ _ hC (Below.refl _ _) (by rw [← HC0.out]; rfl)⟩
    · obtain ⟨g, hg, -, hcell⟩ := hd1
      rw [hg]
      refine (crc_two (l2 := []) (HTw w' hC) hcell rfl rfl (HRw w' hC) (.inl rfl) HL.out (Nat.zero_le _)).mono ?_
      rintro e w'' ⟨rfl, rfl⟩
      exact ⟨_, rfl, hK _ _ hC (Below.refl _ _) (by rw [M.crc_nil, ← HC0.out]; rfl)⟩
    · obtain ⟨g, hg, -, hcell⟩ := hd1
      rw [hg]
      refine (crc_one (HTw w' hC) hcell rfl (HRw w' hC) HL.out).mono ?_
      rintro e w'' ⟨rfl, rfl⟩
      exact ⟨_, rfl, hK _ _ hC (Below.refl _ _) (by rw [← HC0.out]; rfl)⟩
    · rw [HV2.out w' hC]
      exact hK _ _ hC (Below.refl _ _) rfl
    · rw [HV5.out w' hC]
      exact hK _ _ hC (Below.refl _ _) rfl
    · obtain ⟨g, hg, -, hcell⟩ := hd1
      rw [hg]
      refine (print_two hcell hm2 hm5).mono ?_
      rintro e w'' ⟨rfl, rfl⟩
      exact ⟨_, rfl, hK _ _ hC (Below.refl _ _) (by rw [← HP0.out]; rfl)⟩
    · rw [HV2.out w' hC]
      exact hK _ _ hC (Below.refl _ _) rfl
    · rw [HV5.out w' hC]
      exact hK _ _ hC (Below.refl _ _) rfl
    · obtain ⟨g, hg, -, hcell⟩ := hd1
      rw [hg]
      refine (refPrint_two hcell hm2 hm5).mono ?_
      rintro e w'' ⟨rfl, rfl⟩
      exact ⟨_, rfl, hK _ _ hC (Below.refl _ _) (by rw [← HP0.out]; rfl)⟩
  case hend =>
    intro vs w' hC hall
    simp only [Reg.All, Is, and_true, Nat.zero_add, Nat.reduceAdd] at hall
    have h44 : vs 44 = Value.bool true := by simp only [hall]
    have HB : Hid (Below w.heap.size w w') := Lib.hid (HB1.out.trans (hC.mono HB1.out.size))
    clear hall hC
    go_wp2
    go_ret
    exact ⟨by simp [h44], HB.out⟩

set_option maxRecDepth 100000 in
set_option maxHeartbeats 2000000 in
theorem walk_down (A : Option Addr) (l : List UInt8) (cap : Nat) (at_ : Int) (w : World) (hcap : l.length ≤ cap) (_hcm : cap ≤ maxLen) (HR : Hid (BytesAt w A l)) (HT : Hid (TabAt w)) (HL : Hid (l.length ≤ maxLen)) (hs : 0 < w.heap.size)
    (hn' : (l.length : Int) ≤ 1000) (k : Nat) (hk : k ≤ l.length) (hkk : at_.tmod ((l.length : Int) + 1) = -(k : Int)) (hpos : 0 < (k : Int)) :
    Calls Tryd.prog 4 #[.slice A l.length cap, .int .i64 at_] w fun e w' => e = .returned (.bool true) ∧ Below w.heap.size w w' := by
  unfold maxLen at _hcm
  go_enter Tryd.func4, Tryd.ntmps4
  go_wp2_with fail
  refine (known_any w HT.out hs).mono ?_
  rintro e w1 ⟨rfl, hb1⟩
  have HB1 := Lib.hid hb1
  clear hb1
  go_wp2_with fail
  obtain ⟨A2, hS2, hB2⟩ := cut_high (A := A) hk hcap
  obtain ⟨A5, n5, c5, hn5, hS5, hB5⟩ := cut_low (A := A) hk hcap
  have HN5 := Lib.hid hn5
  have HB2 := Lib.hid hB2
  have HB5 := Lib.hid hB5
  clear hB2 hB5 hn5
  obtain ⟨c0, hc0⟩ : ∃ c, c = M.crc [l] := ⟨_, rfl⟩
  obtain ⟨p0, hp0⟩ : ∃ p, p = M.fnv [l.take k, l.drop k] := ⟨_, rfl⟩
  have HC0 := Lib.hid hc0
  have HP0 := Lib.hid hp0
  clear hc0 hp0
  have HRw : ∀ w', Below w1.heap.size w1 w' → BytesAt w' A l := fun w' hb => (HR.out.keep HB1.out).keep hb
  have HTw : ∀ w', Below w1.heap.size w1 w' → TabAt w' := fun w' hb => (HT.out.below HB1.out hs).below hb (Nat.lt_of_lt_of_le hs HB1.out.size)
  have HLK := Lib.hid (show k = (l.take k).length by simp; omega)
  have hm2 : (l.take k).length ≤ maxLen := by unfold maxLen; simp; omega
  have hm5 : (l.drop k).length ≤ maxLen := by unfold maxLen; simp; omega
  have HV2 : Hid (∀ w', Below w1.heap.size w1 w' → (convert 33 9 (.slice A2 k cap)).run Tryd.prog w' = .ok (.string (strOf (l.take k))) w') := Lib.hid (fun w' hb => by
    have h := conv_text w' A2 (l.take k) cap (HB2.out _ (HRw w' hb))
    rwa [← HLK.out] at h)
  have HV5 : Hid (∀ w', Below w1.heap.size w1 w' → (convert 33 9 (.slice A5 n5 c5)).run Tryd.prog w' = .ok (.string (strOf (l.drop k))) w') := Lib.hid (fun w' hb => by
    have h := conv_text w' A5 (l.drop k) c5 (HB5.out _ (HRw w' hb))
    rwa [← HN5.out] at h)
  refine Reg.wp_region_facts (A := ?A) (fun w' => Below w1.heap.size w1 w') w1.heap.size
    [Is (.slice A l.length cap), Is (.int .i64 k), Is (.slice A2 k cap), Is (.slice A l.length cap), Is (.int .i64 k), Is (.slice A5 n5 c5),
     Row 33 2 #[.slice A2 k cap, .slice A5 n5 c5], Is (.int .u32 c0), Is (.slice A l.length cap), Row 33 1 #[.slice A l.length cap], Is (.int .u32 c0), Is (.bool true), Is (.bool true),
     Is (.slice A l.length cap), Row 33 2 #[.slice A l.length cap, .slice none 0 0], Is (.int .u32 c0), Is (.slice A l.length cap), Row 33 1 #[.slice A l.length cap], Is (.int .u32 c0), Is (.bool true), Is (.bool true), Is (.bool true),
     Is (.slice A l.length cap), Is (.int .i64 k), Is (.slice A2 k cap), Is (.string (strOf (l.take k))), Is (.slice A l.length cap), Is (.int .i64 k), Is (.slice A5 n5 c5), Is (.string (strOf (l.drop k))),
     Row 9 2 #[.string (strOf (l.take k)), .string (strOf (l.drop k))], Is (.int .u64 p0),
     Is (.slice A l.length cap), Is (.int .i64 k), Is (.slice A2 k cap), Is (.string (strOf (l.take k))), Is (.slice A l.length cap), Is (.int .i64 k), Is (.slice A5 n5 c5), Is (.string (strOf (l.drop k))),
     Row 9 2 #[.string (strOf (l.take k)), .string (strOf (l.drop k))], Is (.int .u64 p0), Is (.bool true), Is (.bool true), Is (.bool true)]
    (by kernel_rfl) (by kernel_rfl) rfl ?hA ?hC ?hB ?ho ?hlast ?hend
  case hA => intro vs; simp only [Reg.fill, if_true, Nat.zero_add, Nat.reduceAdd, Act.put, List.setIfInBounds_toArray, List.set_cons_succ, List.set_cons_zero]; exact rfl
  case hC => exact (Below.refl _ _).drew
  case hB => exact fun w' hb => hb.size
  case hlast => repeat (first | exact trivial | refine ⟨Is.last, ?_⟩ | refine ⟨Row.last, ?_⟩)
  case ho =>
    repeat' apply And.intro
    all_goals
      first
        | exact trivial
        | (intro vs w' hC hd K hK
           try simp only [Reg.Deps, Reg.at_, List.getD_cons_zero, List.getD_cons_succ, Region.binds, true_implies, Is, and_true] at hd
           first
             | (obtain ⟨hd1, hd2, hd⟩ := hd)
             | (obtain ⟨hd1, hd⟩ := hd)
             | skip
           go_simp
           first
             | exact hK _ _ hC (Below.refl _ _) rfl
             | exact hK _ _ (hC.alloc hC.size _) ((Below.refl _ _).alloc (Nat.le_refl _) _) Row.new
             | skip)
    · refine (crc_two (HTw w' hC) hd.2 HLK.out HN5.out (HB2.out _ (HRw w' hC)) (HB5.out _ (HRw w' hC)) hm2 hm5).mono ?_
      rintro e w'' ⟨rfl, rfl⟩
      exact ⟨_, rfl, hK _ _ hC (Below.refl _ _) (by rw [M.crc_cut, ← HC0.out]; rfl)⟩
    · obtain ⟨g, hg, -, hcell⟩ := hd1
      rw [hg]
      refine (crc_one (HTw w' hC) hcell rfl (HRw w' hC) HL.out).mono ?_
      rintro e w'' ⟨rfl, rfl⟩
      exact ⟨_, rfl, hK _ _ hC (Below.refl _ _) (by rw [← HC0.out]; rfl)⟩
    · obtain ⟨g, hg, -, hcell⟩ := hd1
      rw [hg]
      refine (crc_two (l2 := []) (HTw w' hC) hcell rfl rfl (HRw w' hC) (.inl rfl) HL.out (Nat.zero_le _)).mono ?_
      rintro e w'' ⟨rfl, rfl⟩
      exact ⟨_, rfl, hK _ _ hC (Below.refl _ _) (by rw [M.crc_nil, ← HC0.out]; rfl)⟩
    · obtain ⟨g, hg, -, hcell⟩ := hd1
      rw [hg]
      refine (crc_one (HTw w' hC) hcell rfl (HRw w' hC) HL.out).mono ?_
      rintro e w'' ⟨rfl, rfl⟩
      exact ⟨_, rfl, hK _ _ hC (Below.refl _ _) (by rw [← HC0.out]; rfl)⟩
    · rw [HV2.out w' hC]
      exact hK _ _ hC (Below.refl _ _) rfl
    · rw [HV5.out w' hC]
      exact hK _ _ hC (Below.refl _ _) rfl
    · obtain ⟨g, hg, -, hcell⟩ := hd1
      rw [hg]
      refine (print_two hcell hm2 hm5).mono ?_
      rintro e w'' ⟨rfl, rfl⟩
      exact ⟨_, rfl, hK _ _ hC (Below.refl _ _) (by rw [← HP0.out]; rfl)⟩
    · rw [HV2.out w' hC]
      exact hK _ _ hC (Below.refl _ _) rfl
    · rw [HV5.out w' hC]
      exact hK _ _ hC (Below.refl _ _) rfl
    · obtain ⟨g, hg, -, hcell⟩ := hd1
      rw [hg]
      refine (refPrint_two hcell hm2 hm5).mono ?_
      rintro e w'' ⟨rfl, rfl⟩
      exact ⟨_, rfl, hK _ _ hC (Below.refl _ _) (by rw [← HP0.out]; rfl)⟩
  case hend =>
    intro vs w' hC hall
    simp only [Reg.All, Is, and_true, Nat.zero_add, Nat.reduceAdd] at hall
    have h44 : vs 44 = Value.bool true := by simp only [hall]
    have HB : Hid (Below w.heap.size w w') := Lib.hid (HB1.out.trans (hC.mono HB1.out.size))
    clear hall hC
    go_wp2
    go_ret
    exact ⟨by simp [h44], HB.out⟩

set_option maxHeartbeats 400000 in
theorem walk (A : Option Addr) (l : List UInt8) (cap : Nat) (at_ : Int) (w : World) (hl : l.length ≤ maxLen) (hcap : l.length ≤ cap) (hcm : cap ≤ maxLen) (hr : BytesAt w A l) (_wf : (Lit.int .i64 at_).wf = true) (ht : TabAt w) (hs : 0 < w.heap.size) :
    Calls Tryd.prog 4 #[.slice A l.length cap, .int .i64 at_] w fun e w' => e = .returned (.bool true) ∧ Below w.heap.size w w' := by
  by_cases hn : l.length ≤ 1000
  · have hn' : (l.length : Int) ≤ 1000 := by omega
    obtain ⟨k, hk, hkk⟩ : ∃ k : Nat, k ≤ l.length ∧ ((at_.tmod ((l.length : Int) + 1) = (k : Int)) ∨ (at_.tmod ((l.length : Int) + 1) = -(k : Int) ∧ 0 < (k : Int))) := by
      have h1 := Int.natAbs_tmod at_ ((l.length : Int) + 1)
      refine ⟨(at_.tmod ((l.length : Int) + 1)).natAbs, ?_, ?_⟩
      · rw [h1]
        have := Nat.mod_lt at_.natAbs (show 0 < ((l.length : Int) + 1).natAbs by omega)
        omega
      · omega
    rcases hkk with hkk | ⟨hkk, hpos⟩
    · exact walk_up A l cap at_ w hcap hcm hr ht hl hs hn' k hk hkk
    · exact walk_down A l cap at_ w hcap hcm hr ht hl hs hn' k hk hkk hpos
  · have HT := Lib.hid ht
    clear ht hr
    have hn' : 1000 < (l.length : Int) := by omega
    go_enter Tryd.func4, Tryd.ntmps4
    go_wp2_with fail
    refine (known_any w HT.out hs).mono ?_
    rintro e w1 ⟨rfl, hb1⟩
    have HB1 := Lib.hid hb1
    clear hb1
    go_wp2_with fail
    go_ret
    exact ⟨rfl, HB1.out⟩

/-- The row's step: the arguments opened, the walk, the arguments read again. -/
theorem contract (H : Type) (enc : TypeId × Value → H) (W : World) (base : Nat) (args : Array Value) (ds gs : List (DataW H)) (before : List MemPlace)
    (hval : ∀ (j : Nat) t v, Tryd.f4.params[j]? = some t → args[j]? = some v → Value.okWide Tryd.prog W .any base t v)
    (hW : DataW.Whole enc Tryd.prog Tryd.f4.params.toList Rows.sumPartsSpec.vars false W args.toList ds gs before) (hL : laidMetH Tryd.prog Rows.sumPartsRow.laid W) :
    Calls Tryd.prog 4 args W fun e W' => ∃ v, e = .returned v ∧ Rows.sumPartsSpec.post enc Tryd.prog Tryd.f4 false true false false W args v W' := by
  have hW' := hW
  obtain ⟨p, q, hA0, hV, rfl, hfz, hnd⟩ := hW
  have hA : DataW.TrodAll enc Tryd.prog W 0 (fun _ => true) true Tryd.f4.params.toList args.toList ds p := hA0
  rw [Tryd.params4] at hA hval
  obtain ⟨v0, vs0, d0, ds0, p0, q0, hargs, rfl, rfl, h0, r0⟩ := trodAll_cons hA
  obtain ⟨v1, vs1, d1, ds1, p1, q1, rfl, rfl, rfl, h1, r1⟩ := trodAll_cons r0
  obtain ⟨rfl, rfl, rfl⟩ := trodAll_nil r1
  obtain rfl : args = #[v0, v1] := by cases args; simp_all
  obtain ⟨rfl, rfl⟩ := trodVars_none hV
  have hsl0 := okWide_slice Tryd.underlying33 (hval 0 33 v0 rfl rfl)
  have k0 := h0
  have lt0 : ∀ x ∈ p0, x.block < W.heap.size := by obtain ⟨m, hm⟩ := k0; exact DataW.trod_lt m _ _ _ hm
  obtain ⟨A0, l0, cap0, rfl, hr0, hl0, hc0, hm0⟩ := open_bytes hsl0 h0
  obtain ⟨n1, rfl, rfl, rfl, wf1⟩ := open_int Tryd.underlying3 (hval 1 3 v1 rfl rfl) h1
  obtain ⟨ht, hs⟩ := tab_of hL
  clear hA0
  refine (walk A0 l0 cap0 n1 W hl0 hc0 hm0 hr0 wf1 ht hs).mono fun e W' ⟨he, bel⟩ => ?_
  subst he
  exact ⟨_, rfl, _, _, _, [], _, [], hW', trodAll_mk1 (shut_bool Tryd.underlying4 _), (trodAll_cons_mk (Below.trod laidOut (by kernel_rfl) (of_decide_eq_true (by kernel_rfl)) k0 bel lt0) (trodAll_cons_mk (shut_int Tryd.underlying3 wf1) trodAll_mk0)), rfl, bel.frame _, fun h => by cases h⟩

theorem laid_met (os : Os) : laidMet Tryd.prog Rows.sumPartsRow.laid ((laidWorld os).forCall (fun _ _ => 0) ⟨#[], #[.slice none 0 0, .int .i64 0], []⟩).memory :=
  laidMet_of_run' 8 (by kernel_rfl) (by kernel_rfl)
theorem reads (os : Os) {H : Type} (enc : TypeId × Value → H) : ∃ places, DataW.whole enc Tryd.prog ((laidWorld os).forCall (fun _ _ => 0) ⟨#[], #[.slice none 0 0, .int .i64 0], []⟩).memory Tryd.f4.params.toList Rows.sumPartsSpec.vars false (#[.slice none 0 0, .int .i64 0] : Array Value).toList 8 = some ([.nil, .lit (.int .i64 0)], [], places) :=
  ⟨[], by kernel_rfl⟩

set_option maxRecDepth 100000 in
theorem lifted (os : Os) (started : os.Started) (H : Type) (enc : TypeId × Value → H) (F : Stop.Interp) :
    ReturnsInHanded {} Tryd.checked os 4 .any ((OpenSpec.ofChange Rows.sumPartsSpec).preRow enc Tryd.prog Tryd.f4 Rows.sumPartsRow.domain false Rows.sumPartsRow.laid) (((OpenSpec.ofChange Rows.sumPartsSpec).at F).post enc Tryd.prog Tryd.f4 false true false false) := by
  obtain ⟨places, hx⟩ := reads os enc
  refine returnsInHanded_of_row (C := Tryd.checked) (s := OpenSpec.ofChange Rows.sumPartsSpec) own started (by kernel_rfl) Tryd.func4
    (witness_row_at (enc := enc) (C := Tryd.checked) false (laidWorld os) #[.slice none 0 0, .int .i64 0] rfl (by kernel_rfl) (by kernel_rfl) (by kernel_rfl)
      (OpenSpec.preRow_of_cond 8 hx (by kernel_rfl) (fun k hk => by cases hk) (by kernel_rfl) (laid_met os))) ?_
  intro W base args ds gs before hval hW _ _ _ hL _ _
  exact contract H enc W base args ds gs before hval hW hL

theorem said : Rows.SumPartsSaid :=
  OpenClaim.holds_of_cond 4 Tryd.f4 rfl rfl rfl rfl rfl rfl rfl ⟨rfl, rfl, rfl, rfl, rfl⟩ rfl rfl rfl rfl rfl (by kernel_rfl) Tryd.func4 (by kernel_rfl)
    (of_decide_eq_true (by kernel_rfl)) (by unfold Func.isWrapper; first | (rw [if_pos (by decide +kernel)]; kernel_rfl) | (rw [if_neg (by decide +kernel)]; exact ⟨rfl, rfl⟩))
    (fun os started H enc _ F => by rw [OpenClaim.pre_eq_preRow]; exact lifted os started H enc F)

theorem plain (f : FuncId) (fn : Func) (hf : Tryd.pinned.checked.prog.funcNamed "augur/augurlaw1.SumParts" = some f) (hfn : Tryd.pinned.checked.prog.funcs[f]? = some fn) :
    false = Tryd.pinned.checked.prog.looks [] ∧ ∀ (j : Nat) t, fn.params[j]? = some t → Tryd.pinned.checked.prog.wantsStandIn t = false := by
  obtain rfl : f = 4 := Option.some.inj ((show Tryd.prog.funcNamed "augur/augurlaw1.SumParts" = some 4 by kernel_rfl).symm.trans hf) |>.symm
  obtain rfl : fn = Tryd.f4 := (Option.some.inj (Tryd.func4.symm.trans hfn)).symm
  refine ⟨by kernel_rfl, fun j t ht => ?_⟩
  rw [Tryd.params4] at ht
  have hm := Array.mem_of_getElem? ht
  simp only [List.mem_toArray, List.mem_cons, List.not_mem_nil, or_false] at hm
  rcases hm with rfl | rfl
  · exact (show Tryd.prog.wantsStandIn 33 = false by kernel_rfl)
  · exact (show Tryd.prog.wantsStandIn 3 = false by kernel_rfl)

/-- THE CARD. -/
theorem card : Rows.SumPartsCardSaid :=
  Claim7.holds_tied_plain_at .later [] _ _ _ _ said (fun _ h => by cases h) (by kernel_rfl) (fun _ h => by cases h) sumParts_row_tie rfl ⟨rfl, rfl⟩ (by kernel_rfl) rfl plain (by kernel_rfl)
end Go.Proofs.YtfkkbpiphcpljaaDoor.sumParts
