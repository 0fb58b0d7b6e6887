/- The walks of the reader's parts: signed, count, text, flag. -/
import Derived.Test.YtohmadfaaonaaaaCRead
import Derived.Laws.BytesString
namespace Go.Proofs.Ytohmadfaaonaaaa
open Go.RowKit

theorem num_ok {w : World} {p g n : Nat} {f : Bool} {l r : List UInt8} (hr : RdAt w p g l f) (h : M.dec 0 0 l = some (n, r)) :
    Calls Try.prog 45 #[.pointer (some ⟨p, 0, none⟩)] w (Took (.int .u64 (n : Int)) r p g f w) := by
  have := num_out w p g f l hr
  rw [h] at this
  exact this
theorem num_bad {w : World} {p g : Nat} {f : Bool} {l : List UInt8} (hr : RdAt w p g l f) (h : M.dec 0 0 l = none) :
    Calls Try.prog 45 #[.pointer (some ⟨p, 0, none⟩)] w (Fell p g f w) := by
  have := num_out w p g f l hr
  rw [h] at this
  exact this

set_option maxHeartbeats 400000 in
theorem signed_bad {w : World} {p g : Nat} {f : Bool} {l : List UInt8} (hr : RdAt w p g l f) (h : M.dec 0 0 l = none) :
    Calls Try.prog 47 #[.pointer (some ⟨p, 0, none⟩)] w (Fell p g f w) := by
  have H := Lib.hid h
  have HR := Lib.hid hr
  clear h hr
  go_enter Try.func47, Try.ntmps47
  go_wp2_with fail
  refine (num_bad HR.out H.out).mono ?_
  rintro e w' ⟨rfl, h1⟩
  have H1 := Lib.hid h1
  clear h1
  go_wp2_with fail
  exact ⟨rfl, rfl, H1.out⟩
set_option maxHeartbeats 400000 in
set_option maxRecDepth 100000 in
theorem signed_ok {w : World} {p g n : Nat} {f : Bool} {l r : List UInt8} (hr : RdAt w p g l f) (h : M.dec 0 0 l = some (n, r)) :
    Calls Try.prog 47 #[.pointer (some ⟨p, 0, none⟩)] w (Took (.int .i64 (M.unzig n)) r p g f w) := by
  have h64 := (M.dec_some l 0 0 n r (by omega) (by simp) h).1
  have H := Lib.hid h
  have HR := Lib.hid hr
  clear h hr
  by_cases h2 : n % 2 = 1
  · have hb2 : ((n : Int) % 2 == 1) = true := by rw [beq_iff_eq]; omega
    have HU := Lib.hid (show -((n : Int) / 2) - 1 = M.unzig n by unfold M.unzig; rw [if_pos h2]; omega)
    clear h2
    go_enter Try.func47, Try.ntmps47
    go_wp2_with fail
    refine (num_ok HR.out H.out).mono ?_
    rintro e w' ⟨rfl, h1⟩
    have H1 := Lib.hid h1
    clear h1
    go_wp2_with fail
    go_ret
    exact ⟨by rw [← HU.out]; rfl, H1.out⟩
  · have hb2 : ((n : Int) % 2 == 1) = false := by rw [beq_eq_false_iff_ne]; omega
    have HU := Lib.hid (show (n : Int) / 2 = M.unzig n by unfold M.unzig; rw [if_neg h2]; omega)
    clear h2
    go_enter Try.func47, Try.ntmps47
    go_wp2_with fail
    refine (num_ok HR.out H.out).mono ?_
    rintro e w' ⟨rfl, h1⟩
    have H1 := Lib.hid h1
    clear h1
    go_wp2_with fail
    go_ret
    exact ⟨by rw [← HU.out]; rfl, H1.out⟩

/-! ### count -/
set_option maxHeartbeats 400000 in
theorem count_bad {w : World} {p g : Nat} {f : Bool} {l : List UInt8} (hr : RdAt w p g l f) (h : M.dec 0 0 l = none) :
    Calls Try.prog 65 #[.pointer (some ⟨p, 0, none⟩)] w (Fell p g f w) := by
  have H := Lib.hid h
  have HR := Lib.hid hr
  clear h hr
  go_enter Try.func65, Try.ntmps65
  go_wp2_with fail
  refine (num_bad HR.out H.out).mono ?_
  rintro e w' ⟨rfl, h1⟩
  have H1 := Lib.hid h1
  clear h1
  go_wp2_with fail
  exact ⟨rfl, rfl, H1.out⟩
set_option maxHeartbeats 400000 in
set_option maxRecDepth 100000 in
theorem count_long {w : World} {p g n : Nat} {f : Bool} {l r : List UInt8} (hr : RdAt w p g l f) (h : M.dec 0 0 l = some (n, r)) (hn : ¬ n ≤ r.length) :
    Calls Try.prog 65 #[.pointer (some ⟨p, 0, none⟩)] w (Fell p g f w) := by
  have H := Lib.hid h
  have HR := Lib.hid hr
  clear h hr
  go_enter Try.func65, Try.ntmps65
  go_wp2_with fail
  refine (num_ok HR.out H.out).mono ?_
  rintro e w1 ⟨rfl, h1, h2⟩
  obtain ⟨A, cap, hb, _, hc, hm⟩ := id h1
  have hc0 := cell_of_two0 hb
  have H1 := Lib.hid h1
  have H2 := Lib.hid h2
  have hlen : r.length ≤ 9223372036854775807 := by unfold maxLen at hm; omega
  clear h1 h2 hb hc hm
  go_wp2_with fail
  refine (need_no w1).mono ?_
  rintro e w' ⟨rfl, rfl⟩
  go_wp2_with fail
  exact ⟨rfl, rfl, r, H1.out, H2.out⟩
set_option maxHeartbeats 400000 in
set_option maxRecDepth 100000 in
theorem count_ok {w : World} {p g n : Nat} {f : Bool} {l r : List UInt8} (hr : RdAt w p g l f) (h : M.dec 0 0 l = some (n, r)) (hn : n ≤ r.length) :
    Calls Try.prog 65 #[.pointer (some ⟨p, 0, none⟩)] w (Took (.int .i64 (n : Int)) r p g f w) := by
  have H := Lib.hid h
  have HR := Lib.hid hr
  clear h hr
  go_enter Try.func65, Try.ntmps65
  go_wp2_with fail
  refine (num_ok HR.out H.out).mono ?_
  rintro e w1 ⟨rfl, h1, h2⟩
  obtain ⟨A, cap, hb, _, hc, hm⟩ := id h1
  have hc0 := cell_of_two0 hb
  have H1 := Lib.hid h1
  have H2 := Lib.hid h2
  have hlen : r.length ≤ 9223372036854775807 := by unfold maxLen at hm; omega
  clear h1 h2 hb hc hm
  go_wp2_with fail
  refine (need_yes w1).mono ?_
  rintro e w' ⟨rfl, rfl⟩
  go_wp2_with fail
  go_ret
  exact ⟨rfl, H1.out, H2.out⟩

/-! ### flag -/
set_option maxHeartbeats 400000 in
theorem flag_none {w : World} {p g : Nat} {f : Bool} (hr : RdAt w p g [] f) : Calls Try.prog 52 #[.pointer (some ⟨p, 0, none⟩)] w (Fell p g f w) := by
  have HR := Lib.hid hr
  clear hr
  go_enter Try.func52, Try.ntmps52
  go_wp2_with fail
  refine (next_none w p g f HR.out).mono ?_
  rintro e w' ⟨rfl, h1⟩
  have H1 := Lib.hid h1
  clear h1
  go_wp2_with fail
  exact ⟨rfl, rfl, H1.out⟩
set_option maxHeartbeats 400000 in
theorem flag_bad {w : World} {p g : Nat} {f : Bool} {b : UInt8} {l : List UInt8} (hr : RdAt w p g (b :: l) f) (h : ¬ b.toNat ≤ 1) : Calls Try.prog 52 #[.pointer (some ⟨p, 0, none⟩)] w (Fell p g f w) := by
  have HR := Lib.hid hr
  obtain ⟨c, hc⟩ : ∃ c, c = b.toNat := ⟨_, rfl⟩
  rw [← hc] at h
  have HC := Lib.hid hc
  have hd : decide ((c : Int) ≤ 1) = false := by simp; omega
  clear hr hc h
  go_enter Try.func52, Try.ntmps52
  go_wp2_with fail
  refine (next_some w p g f b l HR.out).mono ?_
  rw [← HC.out]
  rintro e w1 ⟨rfl, h1, h2⟩
  have H1 := Lib.hid h1
  have H2 := Lib.hid h2
  clear h1 h2
  go_wp2_with fail
  refine (need_no w1).mono ?_
  rintro e w' ⟨rfl, rfl⟩
  go_wp2_with fail
  exact ⟨rfl, rfl, l, H1.out, H2.out⟩
set_option maxHeartbeats 400000 in
theorem flag_ok {w : World} {p g : Nat} {f : Bool} {b : UInt8} {l : List UInt8} (hr : RdAt w p g (b :: l) f) (h : b.toNat ≤ 1) : Calls Try.prog 52 #[.pointer (some ⟨p, 0, none⟩)] w (Took (.bool (b == 1)) l p g f w) := by
  have HR := Lib.hid hr
  obtain ⟨c, hc⟩ : ∃ c, c = b.toNat := ⟨_, rfl⟩
  rw [← hc] at h
  have hd : decide ((c : Int) ≤ 1) = true := by simp; omega
  have HE := Lib.hid (show ((c : Int) == 1) = (b == 1) by
    rw [Bool.eq_iff_iff, beq_iff_eq, beq_iff_eq, hc, ← UInt8.toNat_inj]; simp; omega)
  have HC := Lib.hid hc
  clear hr hc h
  go_enter Try.func52, Try.ntmps52
  go_wp2_with fail
  refine (next_some w p g f b l HR.out).mono ?_
  rw [← HC.out]
  rintro e w1 ⟨rfl, h1, h2⟩
  have H1 := Lib.hid h1
  have H2 := Lib.hid h2
  clear h1 h2
  go_wp2_with fail
  refine (need_yes w1).mono ?_
  rintro e w' ⟨rfl, rfl⟩
  go_wp2_with fail
  go_ret
  exact ⟨by rw [← HE.out]; rfl, H1.out, H2.out⟩

/-! ### text -/
def strOf (l : List UInt8) : ByteArray := ⟨l.toArray⟩
theorem strOf_size (l : List UInt8) : (strOf l).size = l.length := by simp [strOf, ByteArray.size]
/-- string(b). -/
theorem conv_text (w : World) (g : Nat) (A : Option Addr) (l : List UInt8) (cap : Nat) (h : BytesIn w g A l) :
    (convert 27 9 (.slice A l.length cap)).run Try.prog w = .ok (.string (strOf l)) w := by
  rcases A with _ | a
  · rcases h with rfl | ⟨off, h, _⟩
    · rw [run_convert_bytes_string w _ _ 5 none _ cap Try.underlying27 Try.underlying5 Try.underlying9]
      rfl
    · cases h
  · refine run_convert_bytes_back w _ _ 5 a cap l Try.underlying27 Try.underlying5 Try.underlying9 fun j hj => ?_
    rcases h with rfl | ⟨off, h, hc⟩
    · simp at hj
    · cases h
      have := hc j hj
      rwa [Addr.add_lit]
theorem BytesIn.take {w : World} {g : Nat} {A : Option Addr} {l : List UInt8} (h : BytesIn w g A l) (k : Nat) : BytesIn w g A (l.take k) := by
  rcases h with rfl | ⟨off, rfl, hc⟩
  · exact .inl (by simp)
  · exact .inr ⟨off, rfl, fun j hj => by
      have : j < l.length := by simp at hj; omega
      rw [hc j this]; simp⟩
theorem BytesIn.drop {w : World} {g : Nat} {A : Option Addr} {l : List UInt8} {cap : Nat} (h : BytesIn w g A l) (k : Nat) (hcap : l.length ≤ cap) : BytesIn w g (if cap = k then A else A.map (·.add k)) (l.drop k) := by
  by_cases hk : l.length ≤ k
  · exact .inl (List.drop_eq_nil_of_le hk)
  · rcases h with rfl | ⟨off, rfl, hc⟩
    · simp at hk
    · rw [if_neg (by omega)]
      refine .inr ⟨off + k, by rw [Option.map_some, Addr.add_lit], fun j hj => ?_⟩
      have : k + j < l.length := by simp at hj; omega
      have h1 := hc (k + j) this
      rw [Nat.add_assoc, h1]; simp
theorem elemBytes : Try.prog.underlying 27 = some (.slice (Try.prog.elem 27)) := by
  rw [show Try.prog.elem 27 = 5 by kernel_rfl]; exact Try.underlying27
/-- b[:k], b[k:] of a slice of bytes. -/
theorem slice_high {A : Option Addr} {n cap k : Nat} (hk : k ≤ n) (hcap : n ≤ cap) : ∃ A', (∀ w, (Instr.slice 27 (.slice A n cap) none (some (.int .i64 (k : Int))) none).run Try.prog w = .ok (.slice A' k cap) w) ∧
    ∀ w g l, l.length = n → BytesIn w g A l → BytesIn w g A' (l.take k) := by
  refine ⟨if cap = 0 then A else A.map (·.add 0), fun w => ?_, fun w g l _ h => ?_⟩
  · have := run_slice_h (P := Try.prog) w 27 A n cap elemBytes .i64 (k : Int) (by omega) (by omega)
    rw [this]
    have hs : (sizeOf (Try.prog.elem 27)).run Try.prog w = .ok 1 w := by kernel_rfl
    rw [hs]
    simp [Result.andThen, sliced]
  · have h2 := BytesIn.take h k
    by_cases hc : cap = 0
    · rw [if_pos hc]; exact h2
    · rw [if_neg hc]
      rcases h2 with h2 | ⟨off, rfl, hc2⟩
      · exact .inl h2
      · exact .inr ⟨off, by rw [Option.map_some, Addr.add_lit]; rfl, hc2⟩
theorem slice_low {A : Option Addr} {n cap k : Nat} (hk : k ≤ n) (hcap : n ≤ cap) : ∃ A', (∀ w, (Instr.slice 27 (.slice A n cap) (some (.int .i64 (k : Int))) none none).run Try.prog w = .ok (.slice A' (n - k) (cap - k)) w) ∧
    ∀ w g l, l.length = n → BytesIn w g A l → BytesIn w g A' (l.drop k) := by
  refine ⟨if cap = k then A else A.map (·.add k), fun w => ?_, fun w g l hl h => BytesIn.drop h k (by omega)⟩
  have := run_slice_l (P := Try.prog) w 27 A n cap elemBytes .i64 (k : Int) (by omega) (by omega)
  rw [this]
  have hs : (sizeOf (Try.prog.elem 27)).run Try.prog w = .ok 1 w := by kernel_rfl
  rw [hs]
  simp [Result.andThen, sliced]
/-- A reader whose slice is another one. -/
theorem RdAt.moved {w : World} {p g cap cap' : Nat} {f : Bool} {l l' : List UInt8} {A A' : Option Addr} (hb : w.heap[p]? = some (.cells #[.slice A l.length cap, .bool f] 90 (0, 0))) (hi : BytesIn w g A l)
    (hi' : BytesIn w g A' l') (hs : l'.length ≤ l.length) (hc : l'.length ≤ cap') (hm : cap' ≤ maxLen) : RdAt (w.setCell ⟨p, 0, none⟩ (.slice A' l'.length cap')) p g l' f := by
  refine ⟨A', cap', two_setCell0 hb, ?_, hc, hm⟩
  by_cases hl : l'.length = 0
  · exact .inl (List.eq_nil_of_length_eq_zero hl)
  · have hgp : g ≠ p := by
      rcases hi with h | ⟨off, rfl, hcell⟩
      · subst h
        exact absurd (Nat.le_zero.1 hs) hl
      · exact RdAt.apart hb (by intro i c; match i with | 0 => simp | 1 => simp | i + 2 => simp) (by omega) hcell
    exact hi'.keep ((Keeps.refl [p] w).setCell (by simp) _) (by simpa using hgp)

set_option maxHeartbeats 400000 in
theorem text_bad {w : World} {p g : Nat} {f : Bool} {l : List UInt8} (hr : RdAt w p g l f) (h : M.decText l = none) :
    Calls Try.prog 50 #[.pointer (some ⟨p, 0, none⟩)] w (Fell p g f w) := by
  have hcount : Calls Try.prog 65 #[.pointer (some ⟨p, 0, none⟩)] w (Fell p g f w) := by
    cases hd : M.dec 0 0 l with
    | none => exact count_bad hr hd
    | some x =>
      obtain ⟨n, r⟩ := x
      refine count_long hr hd fun hn => ?_
      rw [M.decText_some hd hn] at h
      cases h
  have HC := Lib.hid hcount
  clear hcount hr h
  go_enter Try.func50, Try.ntmps50
  go_wp2_with fail
  refine HC.out.mono ?_
  rintro e w' ⟨rfl, h1⟩
  have H1 := Lib.hid h1
  clear h1
  go_wp2_with fail
  exact ⟨rfl, rfl, H1.out⟩

set_option maxHeartbeats 1000000 in
set_option maxRecDepth 100000 in
theorem text_ok {w : World} {p g : Nat} {f : Bool} {l s r : List UInt8} (hr : RdAt w p g l f) (h : M.decText l = some (s, r)) :
    Calls Try.prog 50 #[.pointer (some ⟨p, 0, none⟩)] w (Took (.string (strOf s)) r p g f w) := by
  obtain ⟨n, m, hd, hn, hs, hr'⟩ : ∃ n m, M.dec 0 0 l = some (n, m) ∧ n ≤ m.length ∧ s = m.take n ∧ r = m.drop n := by
    unfold M.decText at h
    split at h
    · rename_i n m hd
      split at h
      · rename_i hn
        have h2 := Option.some.inj h
        exact ⟨n, m, hd, hn, (congrArg Prod.fst h2).symm, (congrArg Prod.snd h2).symm⟩
      · cases h
    · cases h
  have HC := Lib.hid (count_ok hr hd hn)
  have HS := Lib.hid hs
  have HR' := Lib.hid hr'
  clear hr h hd hs hr'
  go_enter Try.func50, Try.ntmps50
  go_wp2_with fail
  refine HC.out.mono ?_
  rintro e w1 ⟨rfl, h1, h2⟩
  obtain ⟨A, cap, hb, hbi, hc, hm⟩ := id h1
  have hc0 := cell_of_two0 hb
  have hf0 := free_of_two hb 0
  obtain ⟨A2, hS2, hB2⟩ := slice_high (A := A) hn hc
  obtain ⟨A5, hS5, hB5⟩ := slice_low (A := A) hn hc
  have hnl : n = (m.take n).length := by simp; omega
  have hcv := conv_text w1 g A2 (m.take n) cap (hB2 w1 g m rfl hbi)
  rw [← hnl, ← HS.out] at hcv
  have HM := Lib.hid (RdAt.moved (A' := A5) (l' := r) (cap' := cap - n) hb hbi (by rw [HR'.out]; exact hB5 w1 g m rfl hbi) (by rw [HR'.out]; simp) (by rw [HR'.out]; simp; omega) (by omega))
  rw [show r.length = m.length - n by rw [HR'.out]; simp] at HM
  have H1 := Lib.hid h1
  have H2 := Lib.hid h2
  have HNL := Lib.hid hnl
  clear h1 h2 hb hbi hB2 hB5 hnl hc hm
  go_wp2
  go_ret
  exact ⟨rfl, HM.out, H2.out.setCell (by simp) _⟩
end Go.Proofs.Ytohmadfaaonaaaa
