/- The reference's reader: its state, Num. -/
import Derived.Test.YtohmadfaaonaaaaCSumR
namespace Go.Proofs.Ytohmadfaaonaaaa
open Go.RowKit

/-- The reference's reader at block m. -/
def RmAt (w : World) (m g : Nat) (l : List UInt8) (f : Bool) : Prop :=
  ∃ A cap, w.heap[m]? = some (.cells #[.slice A l.length cap, .bool f] 55 (0, 0)) ∧ BytesIn w g A l ∧ l.length ≤ cap ∧ cap ≤ maxLen
theorem RmAt.keep {S : List Nat} {w w' : World} {p g : Nat} {l : List UInt8} {f : Bool} (h : RmAt w p g l f) (hk : Keeps S w w') (hp : p ∉ S) (hg : g ∉ S) : RmAt w' p g l f := by
  obtain ⟨A, cap, h1, h2, h3, h4⟩ := h
  exact ⟨A, cap, block_keep h1 hk hp, h2.keep hk hg, h3, h4⟩
theorem RmAt.lt {w : World} {p g : Nat} {l : List UInt8} {f : Bool} (h : RmAt w p g l f) : p < w.heap.size := by
  obtain ⟨A, cap, h1, _⟩ := h
  exact block_lt h1
theorem two_no_u8 {A : Option Addr} {n c : Nat} {f : Bool} : ∀ (i : Nat) (z : Int), (#[.slice A n c, .bool f] : Array Value)[i]? ≠ some (.int .u8 z) := by
  intro i z
  match i with
  | 0 => simp
  | 1 => simp
  | i + 2 => simp
theorem bytes_apart {w : World} {x g : Nat} {A : Option Addr} {l : List UInt8} {cs : Array Value} {t : TypeId} (hx : w.heap[x]? = some (.cells cs t (0, 0))) (hn : ∀ (i : Nat) (c : Int), cs[i]? ≠ some (.int .u8 c)) (h : BytesIn w g A l) (hl : 0 < l.length) : g ≠ x := by
  rintro rfl
  rcases h with h | ⟨off, rfl, hcell⟩
  · subst h; simp at hl
  · have h1 := hcell 0 hl
    rw [row_cell hx] at h1
    exact hn _ _ h1
theorem RmAt.other {w w' : World} {p g x : Nat} {l : List UInt8} {f : Bool} {cs : Array Value} {t : TypeId} (h : RmAt w p g l f) (hx : w.heap[x]? = some (.cells cs t (0, 0))) (hn : ∀ (i : Nat) (c : Int), cs[i]? ≠ some (.int .u8 c)) (hp : p ≠ x) (hk : Keeps [x] w w') : RmAt w' p g l f := by
  obtain ⟨A, cap, hb, hbi, hc, hm⟩ := h
  refine ⟨A, cap, block_keep hb hk (by simpa using hp), ?_, hc, hm⟩
  by_cases hl : l.length = 0
  · exact .inl (List.eq_nil_of_length_eq_zero hl)
  · exact hbi.keep hk (by simpa using bytes_apart hx hn hbi (by omega))
/-- It turns bad. -/
theorem RmAt.spoil {w : World} {p g : Nat} {l : List UInt8} {f : Bool} (h : RmAt w p g l f) : RmAt (w.setCell ⟨p, 1, none⟩ (.bool true)) p g l true := by
  obtain ⟨A, cap, hb, hbi, hc, hm⟩ := h
  refine ⟨A, cap, two_setCell1 hb, ?_, hc, hm⟩
  by_cases hl : l.length = 0
  · exact .inl (List.eq_nil_of_length_eq_zero hl)
  · exact hbi.keep ((Keeps.refl [p] w).setCell (by simp) _) (by simpa using bytes_apart hb two_no_u8 hbi (by omega))
/-- Its slice is another one. -/
theorem RmAt.moved {w : World} {p g cap cap' : Nat} {f : Bool} {l l' : List UInt8} {A A' : Option Addr} (hb : w.heap[p]? = some (.cells #[.slice A l.length cap, .bool f] 55 (0, 0))) (hi : BytesIn w g A l)
    (hi' : BytesIn w g A' l') (hs : l'.length ≤ l.length) (hc : l'.length ≤ cap') (hm : cap' ≤ maxLen) : RmAt (w.setCell ⟨p, 0, none⟩ (.slice A' l'.length cap')) p g l' f := by
  refine ⟨A', cap', two_setCell0 hb, ?_, hc, hm⟩
  by_cases hl : l'.length = 0
  · exact .inl (List.eq_nil_of_length_eq_zero hl)
  · exact hi'.keep ((Keeps.refl [p] w).setCell (by simp) _) (by simpa using bytes_apart hb two_no_u8 hi (by omega))

/-- What a method of the reference's reader answers: R, or z where it can't. -/
def Mo {α : Type} (R : Option (α × List UInt8)) (val : α → Value) (z : Value) (m g : Nat) (w : World) (e : Ending) (w' : World) : Prop :=
  match R with
  | some (a, r) => e = .returned (val a) ∧ RmAt w' m g r false ∧ Keeps [m] w w'
  | none => e = .returned z ∧ ∃ l', RmAt w' m g l' true ∧ Keeps [m] w w'
theorem mo_none {α : Type} {R : Option (α × List UInt8)} {val : α → Value} {z : Value} {m g : Nat} {w w' : World} {l' : List UInt8} (hR : R = none) (h1 : RmAt w' m g l' true) (h2 : Keeps [m] w w') : Mo R val z m g w (.returned z) w' := by
  subst hR; exact ⟨rfl, l', h1, h2⟩
theorem mo_some {α : Type} {R : Option (α × List UInt8)} {val : α → Value} {z : Value} {m g : Nat} {w w' : World} {r : List UInt8} {a : α} (hR : R = some (a, r)) (h1 : RmAt w' m g r false) (h2 : Keeps [m] w w') : Mo R val z m g w (.returned (val a)) w' := by
  subst hR; exact ⟨rfl, h1, h2⟩
section
variable {α : Type} {R : Option (α × List UInt8)} {val : α → Value} {z : Value} {m g : Nat} {w : World} {P : Program} {k : Nat} {as_ : Array Value} {a : α} {r : List UInt8}
theorem Mo.yes (h : Calls P k as_ w (Mo R val z m g w)) (hd : R = some (a, r)) : Calls P k as_ w (fun e w' => e = .returned (val a) ∧ RmAt w' m g r false ∧ Keeps [m] w w') := by subst hd; exact h
theorem Mo.no (h : Calls P k as_ w (Mo R val z m g w)) (hd : R = none) : Calls P k as_ w (fun e w' => e = .returned z ∧ ∃ l', RmAt w' m g l' true ∧ Keeps [m] w w') := by subst hd; exact h
end
namespace M
def opt {α : Type} (f : Bool) (R : Option α) : Option α := if f then none else R
theorem and_127 {b : Nat} (h : b < 256) : bits .and .u8 (b : Int) 127 = ((b % 128 : Nat) : Int) := by
  have h1 := u8_and_nat b 127 h (by omega)
  have e : ∀ x, x < 256 → x &&& 127 = x % 128 := by decide +kernel
  rw [e _ h] at h1
  exact h1
theorem lay_steps' {i s acc c : Nat} (hi : i ≤ 9) (hs : s = 7 * i) (hacc : acc < 128 ^ i) (hc : c < 256) (h9 : i < 9 ∨ c ≤ 1) : ∃ m x acc' : Nat,
    bits .and .u8 (c : Int) 127 = (m : Int) ∧ m < 128 ∧ IntKind.u64.wrap ((m : Int) * 2 ^ s) = (x : Int) ∧ bits .or .u64 (acc : Int) (x : Int) = (acc' : Int) ∧
    acc' = acc + c % 128 * 128 ^ i ∧ acc' < 18446744073709551616 ∧ (i < 9 → acc' < 128 ^ (i + 1)) := by
  obtain ⟨m, x, acc', e1, hm, e3, e4, h5, h6, h7⟩ := lay_steps hi hs hacc hc h9
  refine ⟨m, x, acc', ?_, hm, e3, e4, h5, h6, h7⟩
  rw [and_127 hc, ← andNot_128 hc]; exact e1
end M

set_option maxHeartbeats 4000000 in
set_option maxRecDepth 100000 in
theorem mNum (w : World) (m g : Nat) (f : Bool) (l : List UInt8) (hr : RmAt w m g l f) :
    Calls Try.prog 23 #[.pointer (some ⟨m, 0, none⟩)] w (Mo (M.opt f (M.dec 0 0 l)) (fun n => .int .u64 (n : Int)) (.int .u64 0) m g w) := by
  have HW := Lib.hid hr
  have HSP := Lib.hid hr.spoil
  have HKS := Lib.hid ((Keeps.refl [m] w).setCell (p := ⟨m, 1, none⟩) (by simp) (.bool true))
  obtain ⟨A, cap, hb, hbi, hc, hm⟩ := id hr
  have c1 : w.cell? ⟨m, 1, none⟩ = some (.bool f) := row_cell hb 1
  have z1 := row_free hb 1
  have c0 : w.cell? ⟨m, 0, none⟩ = some (.slice A l.length cap) := row_cell hb 0
  have z0 := row_free hb 0
  have HB := Lib.hid hb
  have HBI := Lib.hid hbi
  have HCAP := Lib.hid hc
  have HCM := Lib.hid hm
  clear hr hb hbi
  cases f with
  | true =>
    clear hc hm
    go_enter Try.func23, Try.ntmps23
    go_wp2_with fail
    go_loopw [3, 4, 5] (fun nv sv iv wr => nv = .int .u64 0 ∧ sv = .int .i64 0 ∧ iv = .int .i64 0 ∧ wr = w) (fun _ _ _ _ => 1)
    case atStart => exact ⟨rfl, rfl, rfl, rfl⟩
    case round =>
      obtain ⟨rfl, rfl, rfl, rfl⟩ := hrel
      go_wp2_with fail
      go_ret
      exact mo_none rfl HSP.out HKS.out
  | false =>
    obtain ⟨R, hR⟩ : ∃ R, M.opt false (M.dec 0 0 l) = R := ⟨_, rfl⟩
    rw [hR]
    have HR : Hid (M.dec 0 0 l = R) := Lib.hid (by rw [← hR]; rfl)
    have hlm : l.length ≤ 9223372036854775807 := by unfold maxLen at hm; omega
    have hcm : cap ≤ 9223372036854775807 := by unfold maxLen at hm; omega
    clear hR hm hc
    go_enter Try.func23, Try.ntmps23
    go_wp2_with fail
    go_loopw [3, 4, 5] (fun nv sv iv wr => ∃ (i acc s : Nat), i ≤ 9 ∧ iv = .int .i64 (i : Int) ∧ nv = .int .u64 (acc : Int) ∧ sv = .int .i64 (s : Int) ∧ s = 7 * i ∧ acc < 128 ^ i ∧ i ≤ l.length ∧ M.dec i acc (l.drop i) = R ∧ wr = w) (fun _ _ iv _ => 10 - (intOf iv).toNat)
    case atStart => exact ⟨0, 0, 0, by omega, rfl, rfl, rfl, rfl, by simp, Nat.zero_le _, HR.out, rfl⟩
    case round =>
      obtain ⟨i, acc, s, hi, rfl, rfl, rfl, hs, hacc, hil, hdec, rfl⟩ := hrel
      have hs63 : s ≤ 63 := by omega
      have HS := Lib.hid hs
      have HA := Lib.hid hacc
      have HD := Lib.hid hdec
      clear hs hacc hdec
      have d10 : decide (10 ≤ (i : Int)) = false := by simp; omega
      by_cases hlt : i < l.length
      · have hdr : l.drop i = l[i] :: l.drop (i + 1) := List.drop_eq_getElem_cons hlt
        rcases HBI.out with h0 | ⟨off, rfl, hcell⟩
        · rw [h0] at hlt; simp at hlt
        · have hci := hcell i hlt
          obtain ⟨b, hbb⟩ : ∃ b, b = l[i] := ⟨_, rfl⟩
          rw [← hbb] at hci hdr
          obtain ⟨r, hrr⟩ : ∃ r, r = l.drop (i + 1) := ⟨_, rfl⟩
          rw [← hrr] at hdr
          rw [hdr] at HD
          obtain ⟨c, hcc⟩ : ∃ c, c = b.toNat := ⟨_, rfl⟩
          rw [← hcc] at hci
          have hc256 : c < 256 := by rw [hcc]; exact b.toNat_lt
          have HC := Lib.hid hcc
          have HRR := Lib.hid hrr
          have dl : decide ((l.length : Int) ≤ (i : Int)) = false := by simp; omega
          have dl' : decide (l.length ≤ i) = false := by simp; omega
          clear hcell hdr hcc hbb hrr
          by_cases hover : i = 9 ∧ 1 < c
          · have HE := Lib.hid (M.dec_over (acc := acc) (r := r) HC.out (i := i) (by omega) (by omega))
            have d9 : ((i : Int) == 9) = true := by rw [beq_iff_eq]; omega
            have dc : decide (1 < (c : Int)) = true := by simp; omega
            clear hover
            go_wp2_with fail
            go_ret
            exact mo_none (HD.out.symm.trans HE.out) HSP.out HKS.out
          · obtain ⟨mm, x, acc', e1, hmm, e3, e4, hacc', hlt', hnew⟩ := M.lay_steps' hi HS.out HA.out hc256 (by omega)
            have HACC := Lib.hid hacc'
            have HLT := Lib.hid hlt'
            have HNEW := Lib.hid hnew
            clear hacc' hlt' hnew
            have hor : ((i : Int) == 9) = false ∨ (((i : Int) == 9) = true ∧ decide (1 < (c : Int)) = false) := by
              by_cases h9 : i = 9
              · exact .inr ⟨by rw [beq_iff_eq]; omega, by simp; omega⟩
              · exact .inl (by rw [beq_eq_false_iff_ne]; omega)
            by_cases h128 : c < 128
            · have d128 : decide ((c : Int) < 128) = true := by simp; omega
              by_cases hz : c = 0 ∧ 0 < i
              · have HE := Lib.hid (M.dec_zero (acc := acc) (r := r) HC.out (i := i) hz.1 (by omega))
                have b0 : ((c : Int) == 0) = true := by rw [beq_iff_eq]; omega
                have dp : decide (0 < (i : Int)) = true := by simp; omega
                have dp' : decide (0 < i) = true := by simp; omega
                clear hz hover h128
                rcases hor with h9 | ⟨h9, d1⟩
                all_goals
                  go_wp2_with fail
                  go_ret
                  exact mo_none (HD.out.symm.trans HE.out) HSP.out HKS.out
              · have HE := Lib.hid (M.dec_end (acc := acc) (r := r) HC.out (i := i) (by omega) h128 (by omega))
                have hcz : ((c : Int) == 0) = false ∨ (((c : Int) == 0) = true ∧ decide (0 < (i : Int)) = false ∧ decide (0 < i) = false) := by
                  by_cases h0 : c = 0
                  · exact .inr ⟨by rw [beq_iff_eq]; omega, by simp; omega, by simp; omega⟩
                  · exact .inl (by rw [beq_eq_false_iff_ne]; omega)
                have hrl : r.length = l.length - (i + 1) := by rw [HRR.out]; simp
                by_cases hce : cap = i + 1
                · subst hce
                  have hr0 : r = [] := List.eq_nil_of_length_eq_zero (by have := HCAP.out; omega)
                  have HM := Lib.hid (RmAt.moved (A' := some ⟨g, off, none⟩) (l' := r) (cap' := 0) HB.out HBI.out (.inl hr0) (by omega) (by rw [hr0]; exact Nat.le_refl _) (Nat.zero_le _))
                  rw [hrl] at HM
                  have HKM := Lib.hid ((Keeps.refl [m] wr).setCell (p := ⟨m, 0, none⟩) (by simp) (.slice (some ⟨g, off, none⟩) (l.length - (i + 1)) 0))
                  clear hz hover h128 hrl hr0
                  rcases hor with h9 | ⟨h9, d1⟩
                  · rcases hcz with b0 | ⟨b0, dp, dp'⟩
                    all_goals
                      go_wp2_with fail
                      go_ret
                      exact mo_some (val := fun n : Nat => Value.int .u64 (n : Int)) (a := acc') (HD.out.symm.trans (by rw [HE.out, HACC.out])) HM.out HKM.out
                  · rcases hcz with b0 | ⟨b0, dp, dp'⟩
                    all_goals
                      go_wp2_with fail
                      go_ret
                      exact mo_some (val := fun n : Nat => Value.int .u64 (n : Int)) (a := acc') (HD.out.symm.trans (by rw [HE.out, HACC.out])) HM.out HKM.out
                · have hbd := BytesIn.drop HBI.out (i + 1) HCAP.out
                  rw [if_neg hce, Option.map_some, Addr.add_lit, ← HRR.out] at hbd
                  have HM := Lib.hid (RmAt.moved (A' := some ⟨g, off + (i + 1), none⟩) (l' := r) (cap' := cap - (i + 1)) HB.out HBI.out hbd (by omega) (by have := HCAP.out; omega) (by have := HCM.out; omega))
                  rw [hrl] at HM
                  have HKM := Lib.hid ((Keeps.refl [m] wr).setCell (p := ⟨m, 0, none⟩) (by simp) (.slice (some ⟨g, off + (i + 1), none⟩) (l.length - (i + 1)) (cap - (i + 1))))
                  clear hz hover h128 hrl hbd
                  rcases hor with h9 | ⟨h9, d1⟩
                  · rcases hcz with b0 | ⟨b0, dp, dp'⟩
                    all_goals
                      go_wp2_with fail
                      go_ret
                      exact mo_some (val := fun n : Nat => Value.int .u64 (n : Int)) (a := acc') (HD.out.symm.trans (by rw [HE.out, HACC.out])) HM.out HKM.out
                  · rcases hcz with b0 | ⟨b0, dp, dp'⟩
                    all_goals
                      go_wp2_with fail
                      go_ret
                      exact mo_some (val := fun n : Nat => Value.int .u64 (n : Int)) (a := acc') (HD.out.symm.trans (by rw [HE.out, HACC.out])) HM.out HKM.out
            · have hi9 : i < 9 := by omega
              have HE := Lib.hid (M.dec_more (acc := acc) (r := r) HC.out (i := i) hi9 h128)
              have d128 : decide ((c : Int) < 128) = false := by simp; omega
              have h9 : ((i : Int) == 9) = false := by rw [beq_eq_false_iff_ne]; omega
              clear hor hover h128
              go_wp2_with fail
              go_roundw
              case rel => exact ⟨i + 1, acc', s + 7, by omega, by go_num, rfl, by go_num, by have := HS.out; omega, HNEW.out hi9, by omega, by rw [← HRR.out, ← HD.out, HE.out, HACC.out], by first | rfl | trivial⟩
              case measure => simp [intOf]; omega
      · have HE := Lib.hid (M.dec_nil i acc)
        have hnil : l.drop i = [] := List.drop_of_length_le (by omega)
        rw [hnil] at HD
        have dl : decide ((l.length : Int) ≤ (i : Int)) = true := by simp; omega
        clear hnil
        go_wp2_with fail
        go_ret
        exact mo_none (HD.out.symm.trans HE.out) HSP.out HKS.out
end Go.Proofs.Ytohmadfaaonaaaa
