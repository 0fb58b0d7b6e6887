/- The walks of the reader's parts: next, num, signed, count, text, flag. -/
import Derived.Test.YtohmadfaaonaaaaCOut
import Derived.Test.YtohmadfaaonaaaaCMath
import Derived.Deep.DeepFit
namespace Go.Proofs.Ytohmadfaaonaaaa
open Go.RowKit

/-- A part was read: v, l' is left. -/
def Took (v : Value) (l' : List UInt8) (p g : Nat) (f : Bool) (w : World) (e : Ending) (w' : World) : Prop := e = .returned v ∧ RdAt w' p g l' f ∧ Keeps [p] w w'
/-- A part could not be read: a panic. -/
def Fell (p g : Nat) (f : Bool) (w : World) (e : Ending) (w' : World) : Prop := e = .panicked refused ∧ ∃ l', RdAt w' p g l' f ∧ Keeps [p] w w'

set_option maxHeartbeats 400000 in
theorem next_none (w : World) (p g : Nat) (f : Bool) (hr : RdAt w p g [] f) :
    Calls Try.prog 61 #[.pointer (some ⟨p, 0, none⟩)] w (Fell p g f w) := by
  obtain ⟨A, cap, hb, hbi, hc, hm⟩ := id hr
  have hc0 := cell_of_two0 hb
  have HR := Lib.hid hr
  clear hb hbi hc hm hr
  go_enter Try.func61, Try.ntmps61
  go_wp2_with fail
  refine (need_no w).mono ?_
  rintro e w' ⟨rfl, rfl⟩
  go_wp2
  exact ⟨rfl, rfl, [], HR.out, Keeps.refl _ _⟩

set_option maxHeartbeats 400000 in
theorem next_some (w : World) (p g : Nat) (f : Bool) (b : UInt8) (l : List UInt8) (hr : RdAt w p g (b :: l) f) :
    Calls Try.prog 61 #[.pointer (some ⟨p, 0, none⟩)] w (Took (.int .u8 ((b.toNat : Nat) : Int)) l p g f w) := by
  obtain ⟨A, cap, hb, hbi, hc, hm⟩ := id hr
  rcases hbi with hbi | ⟨off, rfl, hcell⟩
  · cases hbi
  · have hc0 := cell_of_two0 hb
    have hf0 := free_of_two hb 0
    have hgp : g ≠ p := RdAt.apart hb (by intro i c; match i with | 0 => simp | 1 => simp | i + 2 => simp) (by simp) hcell
    have hcb : w.cell? ⟨g, off, none⟩ = some (.int .u8 ((b.toNat : Nat) : Int)) := hcell 0 (by simp)
    have HCELL := Lib.hid hcell
    have HB := Lib.hid hb
    have HL : l.length + 1 ≤ cap := by simpa using hc
    unfold maxLen at hm
    clear hb hr hcell hc
    by_cases hcap : cap = 1
    · obtain rfl : l = [] := List.eq_nil_of_length_eq_zero (by omega)
      subst hcap
      go_enter Try.func61, Try.ntmps61
      go_wp2_with fail
      refine (need_yes w).mono ?_
      rintro e w' ⟨rfl, rfl⟩
      go_wp2
      go_ret
      exact ⟨rfl, ⟨_, _, two_setCell0 HB.out, .inl rfl, Nat.le_refl _, Nat.zero_le _⟩, (Keeps.refl _ _).setCell (by simp) _⟩
    · have hcap1 : 1 < cap := by omega
      go_enter Try.func61, Try.ntmps61
      go_wp2_with fail
      refine (need_yes w).mono ?_
      rintro e w' ⟨rfl, rfl⟩
      go_wp2
      go_ret
      refine ⟨rfl, ⟨_, _, two_setCell0 HB.out, .inr ⟨off + 1, rfl, fun k hk => ?_⟩, by omega, by unfold maxLen; omega⟩, (Keeps.refl _ _).setCell (by simp) _⟩
      rw [World.cell?_setCell_other _ _ _ _ (by simp)]
      have := HCELL.out (k + 1) (by simpa using hk)
      rw [show off + 1 + k = off + (k + 1) by omega, this]
      rfl

/-- A number was read, or none could be. -/
def NumOut (R : Option (Nat × List UInt8)) (p g : Nat) (f : Bool) (w : World) (e : Ending) (w' : World) : Prop :=
  match R with
  | some (n, r) => Took (.int .u64 (n : Int)) r p g f w e w'
  | none => Fell p g f w e w'

theorem num_end {R : Option (Nat × List UInt8)} {p g n a : Nat} {f : Bool} {r : List UInt8} {w wr w2 : World} (hR : R = some (n, r)) (hn : a = n) (h1 : RdAt w2 p g r f) (hk : Keeps [p] w wr) (h2 : Keeps [p] wr w2) :
    NumOut R p g f w (.returned (.int .u64 (a : Int))) w2 := by
  subst hR hn
  exact ⟨rfl, h1, hk.trans h2 (fun _ h _ => h)⟩
theorem num_fell {R : Option (Nat × List UInt8)} {p g : Nat} {f : Bool} {r : List UInt8} {w wr w2 : World} (hR : R = none) (h1 : RdAt w2 p g r f) (hk : Keeps [p] w wr) (h2 : Keeps [p] wr w2) :
    NumOut R p g f w (.panicked refused) w2 := by
  subst hR
  exact ⟨rfl, r, h1, hk.trans h2 (fun _ h _ => h)⟩

set_option maxHeartbeats 1000000 in
set_option maxRecDepth 100000 in
theorem num_out (w : World) (p g : Nat) (f : Bool) (l : List UInt8) (hr : RdAt w p g l f) :
    Calls Try.prog 45 #[.pointer (some ⟨p, 0, none⟩)] w (NumOut (M.dec 0 0 l) p g f w) := by
  obtain ⟨R, hR⟩ : ∃ R, M.dec 0 0 l = R := ⟨_, rfl⟩
  rw [hR]
  have HR := Lib.hid hR
  have HW := Lib.hid hr
  clear hR hr
  go_enter Try.func45, Try.ntmps45
  go_wp2
  go_loopw [3, 4] (fun nv sv wr => ∃ (i acc s : Nat) (l' : List UInt8), i ≤ 9 ∧ nv = .int .u64 (acc : Int) ∧ sv = .int .i64 (s : Int) ∧ s = 7 * i ∧ acc < 128 ^ i ∧ RdAt wr p g l' f ∧ M.dec i acc l' = R ∧ Keeps [p] w wr) (fun _ sv _ => 70 - (intOf sv).toNat)
  case atStart => exact ⟨0, 0, 0, l, by omega, rfl, rfl, rfl, by simp, HW.out, HR.out, Keeps.refl _ _⟩
  case round =>
    obtain ⟨i, acc, s, l', hi, rfl, rfl, hs, hacc, hrd, hdec, hk⟩ := hrel
    have hs63 : s ≤ 63 := by omega
    have HS := Lib.hid hs
    have HA := Lib.hid hacc
    have HD := Lib.hid hdec
    have HK := Lib.hid hk
    have HRD := Lib.hid hrd
    clear hs hacc hdec hk hrd
    cases l' with
    | nil =>
      go_wp2_with fail
      refine (next_none wr p g f HRD.out).mono ?_
      rintro e w' ⟨rfl, l2, h1, h2⟩
      have H1 := Lib.hid h1
      have H2 := Lib.hid h2
      clear h1 h2
      have HE := Lib.hid (M.dec_nil i acc)
      go_wp2
      exact ⟨rfl, num_fell (HD.out.symm.trans HE.out) H1.out HK.out H2.out⟩
    | cons b r =>
      go_wp2_with fail
      refine (next_some wr p g f b r HRD.out).mono ?_
      rintro e w2 ⟨rfl, h1, h2⟩
      have H1 := Lib.hid h1
      have H2 := Lib.hid h2
      clear h1 h2
      obtain ⟨c, hc⟩ : ∃ c, c = b.toNat := ⟨_, rfl⟩
      have hc256 : c < 256 := by rw [hc]; exact b.toNat_lt
      rw [← hc]
      have HC := Lib.hid hc
      clear hc
      by_cases hgo : s < 63 ∨ c ≤ 1
      · obtain ⟨m, x, acc', e1, hm, e3, e4, hacc', hlt', hnew⟩ := M.lay_steps hi HS.out HA.out hc256 (by have := HS.out; omega)
        have HACC := Lib.hid hacc'
        have HLT := Lib.hid hlt'
        have HNEW := Lib.hid hnew
        clear hacc' hlt' hnew
        by_cases hc128 : c < 128
        · by_cases hc0 : c = 0
          · have hb0 : ((c : Int) != 0) = false := by rw [hc0]; rfl
            by_cases hs0 : s = 0
            · have hbs : ((s : Int) == 0) = true := by rw [hs0]; rfl
              have HE := Lib.hid (M.dec_end (acc := acc) (r := r) HC.out (i := i) (by have := HS.out; omega) hc128 (.inr (by have := HS.out; omega)))
              have HC0 := Lib.hid hc0
              have hlo : s < 63 := by omega
              have HS0 := Lib.hid hs0
              clear hc0 hs0 hgo
              go_wp2_with fail
              refine (need_yes w2).mono ?_
              rintro e w' ⟨rfl, rfl⟩
              go_wp2_with fail
              refine (need_yes w2).mono ?_
              rintro e w' ⟨rfl, rfl⟩
              go_wp2_with fail
              go_ret
              exact num_end (HD.out.symm.trans HE.out) HACC.out H1.out HK.out H2.out
            · have hbs : ((s : Int) == 0) = false := by rw [beq_eq_false_iff_ne]; omega
              have HE := Lib.hid (M.dec_zero (acc := acc) (r := r) HC.out (i := i) hc0 (by have := HS.out; omega))
              have HC0 := Lib.hid hc0
              have hc1 : c ≤ 1 := by omega
              clear hc0 hgo
              have hd2 : decide ((c : Int) ≤ 1) = true := by simp; omega
              rcases (show s < 63 ∨ decide ((s : Int) < 63) = false from by simp; omega) with hlo | hlo
              all_goals
                go_wp2_with fail
                refine (need_yes w2).mono ?_
                rintro e w' ⟨rfl, rfl⟩
                go_wp2_with fail
                refine (need_no w2).mono ?_
                rintro e w' ⟨rfl, rfl⟩
                go_wp2_with fail
                exact ⟨rfl, num_fell (HD.out.symm.trans HE.out) H1.out HK.out H2.out⟩
          · have HE := Lib.hid (M.dec_end (acc := acc) (r := r) HC.out (i := i) (by have := HS.out; omega) hc128 (.inl hc0))
            have hb0 : ((c : Int) != 0) = true := by rw [bne_iff_ne]; omega
            rcases Nat.lt_or_ge s 63 with hlo | hlo
            · go_wp2_with fail
              refine (need_yes w2).mono ?_
              rintro e w' ⟨rfl, rfl⟩
              go_wp2_with fail
              refine (need_yes w2).mono ?_
              rintro e w' ⟨rfl, rfl⟩
              go_wp2_with fail
              go_ret
              exact num_end (HD.out.symm.trans HE.out) HACC.out H1.out HK.out H2.out
            · have hc1 : c ≤ 1 := by omega
              have hd2 : decide ((c : Int) ≤ 1) = true := by simp; omega
              have hd1 : decide ((s : Int) < 63) = false := by simp; omega
              go_wp2_with fail
              refine (need_yes w2).mono ?_
              rintro e w' ⟨rfl, rfl⟩
              go_wp2_with fail
              refine (need_yes w2).mono ?_
              rintro e w' ⟨rfl, rfl⟩
              go_wp2_with fail
              go_ret
              exact num_end (HD.out.symm.trans HE.out) HACC.out H1.out HK.out H2.out
        · have hlo : s < 63 := by omega
          have HE := Lib.hid (M.dec_more (acc := acc) (r := r) HC.out (i := i) (by have := HS.out; omega) hc128)
          go_wp2_with fail
          refine (need_yes w2).mono ?_
          rintro e w' ⟨rfl, rfl⟩
          go_wp2
          go_roundw
          case rel =>
            have := HS.out
            refine ⟨i + 1, acc', s + 7, r, by omega, rfl, by go_num, by omega, HNEW.out (by omega), H1.out, ?_, HK.out.trans H2.out (fun _ h _ => h)⟩
            rw [← HD.out, HE.out, HACC.out]
          case measure => simp [intOf]; omega
      · have h63 : 63 ≤ s := by omega
        have hc1 : 1 < c := by omega
        have hd2 : decide ((c : Int) ≤ 1) = false := by simp; omega
        have hd1 : decide ((s : Int) < 63) = false := by simp; omega
        have HE := Lib.hid (M.dec_over (acc := acc) (r := r) HC.out (i := i) (by have := HS.out; omega) (by omega))
        go_wp2_with fail
        refine (need_no w2).mono ?_
        rintro e w' ⟨rfl, rfl⟩
        go_wp2_with fail
        exact ⟨rfl, num_fell (HD.out.symm.trans HE.out) H1.out HK.out H2.out⟩
end Go.Proofs.Ytohmadfaaonaaaa
