/- The reference's reader: Int, whole, Small. -/
import Derived.Test.YtohmadfaaonaaaaCRmNum
namespace Go.Proofs.Ytohmadfaaonaaaa
open Go.RowKit

theorem opt_none {α : Type} {f : Bool} {R : Option α} (h : M.opt f R = none) (hf : f = false) : R = none := by subst hf; exact h
theorem M.opt_int {f : Bool} {l : List UInt8} : M.opt f (M.decInt l) = (match M.opt f (M.dec 0 0 l) with | some (n, r) => some (M.unzig n, r) | none => none) := by
  cases f
  · rfl
  · rfl
theorem and_one (n : Nat) (h : n < 18446744073709551616) : bits .and .u64 (n : Int) 1 = ((n % 2 : Nat) : Int) := by
  have h1 := u64_and_nat n 1 h (by omega)
  rw [Nat.and_one_is_mod] at h1
  exact h1

set_option maxHeartbeats 1000000 in
theorem mInt (w : World) (m g : Nat) (f : Bool) (l : List UInt8) (hr : RmAt w m g l f) :
    Calls Try.prog 48 #[.pointer (some ⟨m, 0, none⟩)] w (Mo (M.opt f (M.decInt l)) (fun z => .int .i64 z) (.int .i64 0) m g w) := by
  rw [M.opt_int]
  have HN := Lib.hid (mNum w m g f l hr)
  clear hr
  have h64 : ∀ n r, M.opt f (M.dec 0 0 l) = some (n, r) → n < 18446744073709551616 := by
    intro n r h
    cases f with
    | true => cases h
    | false => exact (M.dec_len h).2
  cases hd : M.opt f (M.dec 0 0 l) with
  | none =>
    have HD := Lib.hid hd
    have ha : bits .and .u64 (0 : Int) 1 = 0 := and_one 0 (by decide)
    clear hd h64
    go_enter Try.func48, Try.ntmps48
    go_wp2_with fail
    refine (Mo.no HN.out HD.out).mono ?_
    rintro e w' ⟨rfl, l', h1, h2⟩
    have H1 := Lib.hid h1
    have H2 := Lib.hid h2
    clear h1 h2
    go_wp2_with fail
    go_ret
    exact ⟨rfl, l', H1.out, H2.out⟩
  | some x =>
    obtain ⟨n, r⟩ := x
    have hn := h64 n r hd
    have HD := Lib.hid hd
    have ha := and_one n hn
    clear hd h64
    by_cases h2 : n % 2 = 1
    · have HU := Lib.hid (show -((n : Int) / 2) - 1 = M.unzig n by unfold M.unzig; rw [if_pos h2]; omega)
      have hb : (((n % 2 : Nat) : Int) == 1) = true := by rw [beq_iff_eq]; omega
      go_enter Try.func48, Try.ntmps48
      go_wp2_with fail
      refine (Mo.yes HN.out HD.out).mono ?_
      rintro e w' ⟨rfl, h1, h3⟩
      have H1 := Lib.hid h1
      have H2 := Lib.hid h3
      clear h1 h3
      rw [h2] at ha
      go_wp2_with fail
      go_ret
      exact ⟨by rw [← HU.out]; rfl, H1.out, H2.out⟩
    · have HU := Lib.hid (show (n : Int) / 2 = M.unzig n by unfold M.unzig; rw [if_neg h2]; omega)
      have h20 : n % 2 = 0 := by omega
      go_enter Try.func48, Try.ntmps48
      go_wp2_with fail
      refine (Mo.yes HN.out HD.out).mono ?_
      rintro e w' ⟨rfl, h1, h3⟩
      have H1 := Lib.hid h1
      have H2 := Lib.hid h3
      clear h1 h3
      rw [h20] at ha
      go_wp2_with fail
      go_ret
      exact ⟨by rw [← HU.out]; rfl, H1.out, H2.out⟩

set_option maxHeartbeats 1000000 in
theorem whole_any (w : World) (m g : Nat) (f : Bool) (l : List UInt8) (hr : RmAt w m g l f) :
    Calls Try.prog 25 #[.pointer (some ⟨m, 0, none⟩)] w (Mo (M.opt f (M.decInt l)) (fun z => .int .i64 z) (.int .i64 0) m g w) := by
  have HN := Lib.hid (mInt w m g f l hr)
  clear hr
  cases hd : M.opt f (M.decInt l) with
  | none =>
    have HD := Lib.hid hd
    clear hd
    go_enter Try.func25, Try.ntmps25
    go_wp2_with fail
    refine (Mo.no HN.out HD.out).mono ?_
    rintro e w' ⟨rfl, l', h1, h2⟩
    obtain ⟨A, cap, hb, _⟩ := id h1
    have c1 : w'.cell? ⟨m, 1, none⟩ = some (.bool true) := row_cell hb 1
    have H1 := Lib.hid h1
    have H2 := Lib.hid h2
    clear h1 h2 hb
    go_wp2_with fail
    go_ret
    exact ⟨rfl, l', H1.out, H2.out⟩
  | some x =>
    obtain ⟨n, r⟩ := x
    have HD := Lib.hid hd
    clear hd
    go_enter Try.func25, Try.ntmps25
    go_wp2_with fail
    refine (Mo.yes HN.out HD.out).mono ?_
    rintro e w' ⟨rfl, h1, h2⟩
    obtain ⟨A, cap, hb, _⟩ := id h1
    have c1 : w'.cell? ⟨m, 1, none⟩ = some (.bool false) := row_cell hb 1
    have H1 := Lib.hid h1
    have H2 := Lib.hid h2
    clear h1 h2 hb
    go_wp2_with fail
    go_ret
    exact ⟨rfl, H1.out, H2.out⟩

set_option maxHeartbeats 1000000 in
theorem mSmall (w : World) (m g : Nat) (f : Bool) (l : List UInt8) (hr : RmAt w m g l f) :
    Calls Try.prog 70 #[.pointer (some ⟨m, 0, none⟩)] w (Mo (M.opt f (M.decSmall l)) (fun z => .int .i64 z) (.int .i64 0) m g w) := by
  have HN := Lib.hid (mInt w m g f l hr)
  clear hr
  cases hd : M.opt f (M.decInt l) with
  | none =>
    have HD := Lib.hid hd
    have e : M.opt f (M.decSmall l) = none := by
      cases f with
      | true => rfl
      | false => show M.decSmall l = none; unfold M.decSmall; rw [show M.decInt l = none from hd]
    rw [e]
    clear hd e
    go_enter Try.func70, Try.ntmps70
    go_wp2_with fail
    refine (Mo.no HN.out HD.out).mono ?_
    rintro e w' ⟨rfl, l', h1, h2⟩
    have H1 := Lib.hid h1
    have H2 := Lib.hid h2
    clear h1 h2
    go_wp2_with fail
    go_ret
    exact ⟨rfl, l', H1.out, H2.out⟩
  | some x =>
    obtain ⟨z, r⟩ := x
    have HD := Lib.hid hd
    have hf : f = false := by cases f with | true => cases hd | false => rfl
    subst hf
    have hd' : M.decInt l = some (z, r) := hd
    clear hd
    by_cases hz : -2147483648 ≤ z ∧ z ≤ 2147483647
    · have e : M.opt false (M.decSmall l) = some (z, r) := by show M.decSmall l = _; unfold M.decSmall; rw [hd']; exact if_pos hz
      rw [e]
      have d1 : decide (z < -2147483648) = false := by simp; omega
      have d2 : decide (2147483647 < z) = false := by simp; omega
      clear e hz
      go_enter Try.func70, Try.ntmps70
      go_wp2_with fail
      refine (Mo.yes HN.out HD.out).mono ?_
      rintro e w' ⟨rfl, h1, h2⟩
      have H1 := Lib.hid h1
      have H2 := Lib.hid h2
      clear h1 h2
      go_wp2_with fail
      go_ret
      exact ⟨rfl, H1.out, H2.out⟩
    · have e : M.opt false (M.decSmall l) = none := by show M.decSmall l = _; unfold M.decSmall; rw [hd']; exact if_neg hz
      rw [e]
      have hor : decide (z < -2147483648) = true ∨ (decide (z < -2147483648) = false ∧ decide (2147483647 < z) = true) := by
        by_cases h : z < -2147483648
        · exact .inl (by simpa using h)
        · exact .inr ⟨by simp; omega, by simp; omega⟩
      clear e hz
      rcases hor with d1 | ⟨d1, d2⟩
      all_goals
        go_enter Try.func70, Try.ntmps70
        go_wp2_with fail
        refine (Mo.yes HN.out HD.out).mono ?_
        rintro e w' ⟨rfl, h1, h2⟩
        have hb := h1.spoil
        obtain ⟨A, cap, hbx, _⟩ := id h1
        have c1 : w'.cell? ⟨m, 1, none⟩ = some (.bool false) := row_cell hbx 1
        have z1 := row_free hbx 1
        have H1 := Lib.hid hb
        have H2 := Lib.hid (h2.setCell (p := ⟨m, 1, none⟩) (by simp) (.bool true))
        clear h1 h2 hb hbx
        go_wp2_with fail
        go_ret
        exact ⟨rfl, r, H1.out, H2.out⟩
end Go.Proofs.Ytohmadfaaonaaaa
