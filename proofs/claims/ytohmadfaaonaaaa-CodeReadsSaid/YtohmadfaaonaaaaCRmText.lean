/- The reference's reader: Text, Bool. -/
import Derived.Test.YtohmadfaaonaaaaCRmInt
namespace Go.Proofs.Ytohmadfaaonaaaa
open Go.RowKit

/-- b[:k], b[k:] of a slice of bytes, k of whatever kind. -/
theorem slice_high_k (kk : IntKind) {A : Option Addr} {n cap k : Nat} (hk : k ≤ n) (hcap : n ≤ cap) : ∃ A', (∀ w, (Instr.slice 27 (.slice A n cap) none (some (.int kk (k : Int))) none).run Try.prog w = .ok (.slice A' k cap) w) ∧
    ∀ w g l, l.length = n → BytesIn w g A l → BytesIn w g A' (l.take k) := by
  refine ⟨if cap = 0 then A else A.map (·.add 0), fun w => ?_, fun w g l _ h => ?_⟩
  · have := run_slice_h (P := Try.prog) w 27 A n cap elemBytes kk (k : Int) (by omega) (by omega)
    rw [this]
    have hs : (sizeOf (Try.prog.elem 27)).run Try.prog w = .ok 1 w := by kernel_rfl
    rw [hs]
    simp [Result.andThen, sliced]
  · have h2 := BytesIn.take h k
    by_cases hc : cap = 0
    · rw [if_pos hc]; exact h2
    · rw [if_neg hc]
      rcases h2 with h2 | ⟨off, rfl, hc2⟩
      · exact .inl h2
      · exact .inr ⟨off, by rw [Option.map_some, Addr.add_lit]; rfl, hc2⟩
theorem slice_low_k (kk : IntKind) {A : Option Addr} {n cap k : Nat} (hk : k ≤ n) (hcap : n ≤ cap) : ∃ A', (∀ w, (Instr.slice 27 (.slice A n cap) (some (.int kk (k : Int))) none none).run Try.prog w = .ok (.slice A' (n - k) (cap - k)) w) ∧
    ∀ w g l, l.length = n → BytesIn w g A l → BytesIn w g A' (l.drop k) := by
  refine ⟨if cap = k then A else A.map (·.add k), fun w => ?_, fun w g l hl h => BytesIn.drop h k (by omega)⟩
  have := run_slice_l (P := Try.prog) w 27 A n cap elemBytes kk (k : Int) (by omega) (by omega)
  rw [this]
  have hs : (sizeOf (Try.prog.elem 27)).run Try.prog w = .ok 1 w := by kernel_rfl
  rw [hs]
  simp [Result.andThen, sliced]

set_option maxHeartbeats 2000000 in
set_option maxRecDepth 100000 in
theorem mText (w : World) (m g : Nat) (f : Bool) (l : List UInt8) (hr : RmAt w m g l f) :
    Calls Try.prog 27 #[.pointer (some ⟨m, 0, none⟩)] w (Mo (M.opt f (M.decStr l)) (fun s => .string s) (.string .empty) m g w) := by
  have HN := Lib.hid (mNum w m g f l hr)
  clear hr
  cases hd : M.opt f (M.dec 0 0 l) with
  | none =>
    have HD := Lib.hid hd
    have e : M.opt f (M.decStr l) = none := by
      cases f with
      | true => rfl
      | false => show M.decStr l = none; unfold M.decStr; rw [M.decText_none (show M.dec 0 0 l = none from hd)]
    rw [e]
    clear hd e
    go_enter Try.func27, Try.ntmps27
    go_wp2_with fail
    refine (Mo.no HN.out HD.out).mono ?_
    rintro e w' ⟨rfl, l', h1, h2⟩
    have hb := h1.spoil
    obtain ⟨A, cap, hbx, _⟩ := id h1
    have c1 : w'.cell? ⟨m, 1, none⟩ = some (.bool true) := row_cell hbx 1
    have z1 := row_free hbx 1
    have H1 := Lib.hid hb
    have H2 := Lib.hid (h2.setCell (p := ⟨m, 1, none⟩) (by simp) (.bool true))
    clear h1 h2 hb hbx
    go_wp2_with fail
    go_ret
    exact ⟨rfl, l', H1.out, H2.out⟩
  | some x =>
    obtain ⟨n, r⟩ := x
    have HD := Lib.hid hd
    have hf : f = false := by cases f with | true => cases hd | false => rfl
    subst hf
    have hd' : M.dec 0 0 l = some (n, r) := hd
    clear hd
    by_cases hn : n ≤ r.length
    · have e : M.opt false (M.decStr l) = some (strOf (r.take n), r.drop n) := by show M.decStr l = _; unfold M.decStr; rw [M.decText_some hd' hn]
      rw [e]
      clear e hd'
      go_enter Try.func27, Try.ntmps27
      go_wp2_with fail
      refine (Mo.yes HN.out HD.out).mono ?_
      rintro e w1 ⟨rfl, h1, h2⟩
      obtain ⟨A, cap, hb, hbi, hc, hm⟩ := id h1
      have c0 : w1.cell? ⟨m, 0, none⟩ = some (.slice A r.length cap) := row_cell hb 0
      have c1 : w1.cell? ⟨m, 1, none⟩ = some (.bool false) := row_cell hb 1
      have z0 := row_free hb 0
      obtain ⟨A2, hS2, hB2⟩ := slice_high_k .u64 (A := A) hn hc
      obtain ⟨A5, hS5, hB5⟩ := slice_low_k .u64 (A := A) hn hc
      have hnl : n = (r.take n).length := by simp; omega
      have hcv := conv_text w1 g A2 (r.take n) cap (hB2 w1 g r rfl hbi)
      rw [← hnl] at hcv
      have HM := Lib.hid (RmAt.moved (A' := A5) (l' := r.drop n) (cap' := cap - n) hb hbi (hB5 w1 g r rfl hbi) (by simp) (by simp; omega) (by omega))
      rw [show (r.drop n).length = r.length - n by simp] at HM
      have hlen : r.length ≤ 9223372036854775807 := by unfold maxLen at hm; omega
      have dn : decide ((r.length : Int) < (n : Int)) = false := by simp; omega
      have dn' : decide (r.length < n) = false := by simp; omega
      have HKM := Lib.hid (h2.setCell (p := ⟨m, 0, none⟩) (by simp) (.slice A5 (r.length - n) (cap - n)))
      clear h1 h2 hb hbi hB2 hB5 hnl hc hm
      go_wp2_with fail
      go_ret
      exact ⟨rfl, HM.out, HKM.out⟩
    · have e : M.opt false (M.decStr l) = none := by show M.decStr l = _; unfold M.decStr; rw [M.decText_long hd' hn]
      rw [e]
      clear e hd'
      go_enter Try.func27, Try.ntmps27
      go_wp2_with fail
      refine (Mo.yes HN.out HD.out).mono ?_
      rintro e w1 ⟨rfl, h1, h2⟩
      have hsp := h1.spoil
      obtain ⟨A, cap, hb, hbi, hc, hm⟩ := id h1
      have c0 : w1.cell? ⟨m, 0, none⟩ = some (.slice A r.length cap) := row_cell hb 0
      have c1 : w1.cell? ⟨m, 1, none⟩ = some (.bool false) := row_cell hb 1
      have z1 := row_free hb 1
      have hlen : r.length ≤ 9223372036854775807 := by unfold maxLen at hm; omega
      have dn : decide ((r.length : Int) < (n : Int)) = true := by simp; omega
      have dn' : decide (r.length < n) = true := by simp; omega
      have H1 := Lib.hid hsp
      have H2 := Lib.hid (h2.setCell (p := ⟨m, 1, none⟩) (by simp) (.bool true))
      clear h1 h2 hb hbi hc hm hsp
      go_wp2_with fail
      go_ret
      exact ⟨rfl, r, H1.out, H2.out⟩

set_option maxHeartbeats 2000000 in
set_option maxRecDepth 100000 in
theorem mBool (w : World) (m g : Nat) (f : Bool) (l : List UInt8) (hr : RmAt w m g l f) :
    Calls Try.prog 29 #[.pointer (some ⟨m, 0, none⟩)] w (Mo (M.opt f (M.decBool l)) (fun b => .bool b) (.bool false) m g w) := by
  have HSP := Lib.hid hr.spoil
  have HKS := Lib.hid ((Keeps.refl [m] w).setCell (p := ⟨m, 1, none⟩) (by simp) (.bool true))
  obtain ⟨A, cap, hb, hbi, hc, hm⟩ := id hr
  have c1 : w.cell? ⟨m, 1, none⟩ = some (.bool f) := row_cell hb 1
  have z1 := row_free hb 1
  have c0 : w.cell? ⟨m, 0, none⟩ = some (.slice A l.length cap) := row_cell hb 0
  have z0 := row_free hb 0
  have HB := Lib.hid hb
  have HBI := Lib.hid hbi
  have HCAP := Lib.hid hc
  have HCM := Lib.hid hm
  clear hr hb hbi hm
  cases f with
  | true =>
    clear hc
    go_enter Try.func29, Try.ntmps29
    go_wp2_with fail
    go_ret
    exact ⟨rfl, l, HSP.out, HKS.out⟩
  | false =>
    cases l with
    | nil =>
      clear hc
      go_enter Try.func29, Try.ntmps29
      go_wp2_with fail
      go_ret
      exact ⟨rfl, [], HSP.out, HKS.out⟩
    | cons b r =>
      rcases HBI.out with h0 | ⟨off, rfl, hcell⟩
      · cases h0
      · have hcb : w.cell? ⟨g, off, none⟩ = some (.int .u8 ((b.toNat : Nat) : Int)) := hcell 0 (by simp)
        obtain ⟨c, hcc⟩ : ∃ c, c = b.toNat := ⟨_, rfl⟩
        rw [← hcc] at hcb
        have HC := Lib.hid hcc
        by_cases h1 : c ≤ 1
        · have e : M.opt false (M.decBool (b :: r)) = some (b == 1, r) := (if_pos (by rw [← hcc]; exact h1) : M.decBool (b :: r) = some (b == 1, r))
          rw [e]
          have hE : ((c : Int) == 1) = (b == 1) := by rw [Bool.eq_iff_iff, beq_iff_eq, beq_iff_eq, hcc, ← UInt8.toNat_inj]; simp; omega
          have dc : decide (1 < (c : Int)) = false := by simp; omega
          have hbd := BytesIn.drop HBI.out 1 HCAP.out
          by_cases hcap : cap = 1
          · subst hcap
            have hr0 : r = [] := List.eq_nil_of_length_eq_zero (by have h9 : r.length + 1 ≤ 1 := HCAP.out; omega)
            subst hr0
            have HM := Lib.hid (RmAt.moved (A' := some ⟨g, off, none⟩) (l' := []) (cap' := 0) HB.out HBI.out (.inl rfl) (by simp) (by simp) (Nat.zero_le _))
            have HKM := Lib.hid ((Keeps.refl [m] w).setCell (p := ⟨m, 0, none⟩) (by simp) (.slice (some ⟨g, off, none⟩) 0 0))
            clear e hcell hcc h1 hc hbd
            go_enter Try.func29, Try.ntmps29
            go_wp2_with fail
            go_ret
            exact ⟨rfl, HM.out, HKM.out⟩
          · rw [if_neg hcap, Option.map_some, Addr.add_lit, List.drop_one, List.tail_cons] at hbd
            have hlc : r.length + 1 ≤ cap := by simpa using hc
            have hcap1 : 1 < cap := by omega
            have HM := Lib.hid (RmAt.moved (A' := some ⟨g, off + 1, none⟩) (l' := r) (cap' := cap - 1) HB.out HBI.out hbd (by simp) (by omega) (by have := HCM.out; omega))
            have HKM := Lib.hid ((Keeps.refl [m] w).setCell (p := ⟨m, 0, none⟩) (by simp) (.slice (some ⟨g, off + 1, none⟩) r.length (cap - 1)))
            clear e hcell hcc h1 hc hbd
            go_enter Try.func29, Try.ntmps29
            go_wp2_with fail
            go_ret
            exact ⟨rfl, HM.out, HKM.out⟩
        · have e : M.opt false (M.decBool (b :: r)) = none := (if_neg (by rw [← hcc]; exact h1) : M.decBool (b :: r) = none)
          rw [e]
          have dc : decide (1 < (c : Int)) = true := by simp; omega
          clear e hcell hcc hc
          go_enter Try.func29, Try.ntmps29
          go_wp2_with fail
          go_ret
          exact ⟨rfl, b :: r, HSP.out, HKS.out⟩
end Go.Proofs.Ytohmadfaaonaaaa
