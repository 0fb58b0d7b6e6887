/- Parts of what is written; put. -/
import Derived.Test.YtohmadfaaonaaaaCRefS
namespace Go.Proofs.Ytohmadfaaonaaaa
open Go.RowKit

structure Pt where
  what : Nat
  n : Nat
  t : ByteArray
  s : Sm
def Pt.ok (p : Pt) : Prop := p.what < 256 ∧ p.n < 18446744073709551616 ∧ p.s.ok
def Pt.light (p : Pt) : Prop := p.t.size ≤ 100 ∧ p.s.light
/-- int64 of a uint64. -/
def i64of (n : Nat) : Int := if n < 9223372036854775808 then (n : Int) else (n : Int) - 18446744073709551616
theorem i64of_wide {n : Nat} (h : n < 18446744073709551616) : Wide (i64of n) := by unfold i64of Wide; split <;> omega
def odd (n : Nat) : Bool := n % 2 == 1
def encPt (p : Pt) : List UInt8 :=
  if p.what % 5 = 0 then M.enc p.n else if p.what % 5 = 1 then encInt (i64of p.n) else if p.what % 5 = 2 then encT p.t else if p.what % 5 = 3 then M.encBool (odd p.n) else encSm p.s
theorem encSm_len {s : Sm} (h : s.ok) (hl : s.light) : (encSm s).length ≤ 1100 := by
  have h1 := M.enc_len64 (n := s.alarms.length) (by have := hl.1; omega)
  have h2 := flat_als_len s.alarms h.1
  have h3 := encIv_len h.2.1
  have h4 := M.enc_len64 (n := s.mod.length) (by have := hl.2.1; omega)
  have h5 := flat_nms_len s.mod (fun m hm => ⟨hl.2.2 m hm, h.2.2 m hm⟩)
  have h6 := hl.1
  have h7 := hl.2.1
  unfold encSm
  simp only [List.length_append, M.encBool, List.length_cons, List.length_nil]
  omega
theorem encT_size' (s : ByteArray) : (encT s).length = (M.enc s.size).length + s.size := by
  unfold encT M.encText
  rw [List.length_append, Array.length_toList]
  rfl
theorem encPt_len {p : Pt} (h : p.ok) (hl : p.light) : (encPt p).length ≤ 1100 := by
  unfold encPt
  split
  · have := M.enc_len64 h.2.1; omega
  · split
    · have := encInt_len (i64of_wide h.2.1); omega
    · split
      · have h1 := hl.1
        have h2 := encT_size' p.t
        have h3 := M.enc_len64 (n := p.t.size) (by omega)
        omega
      · split
        · simp [M.encBool]
        · exact encSm_len h.2.2 hl.2
theorem flat_pts_len : ∀ (ps : List Pt), (∀ p ∈ ps, p.ok ∧ p.light) → (ps.flatMap encPt).length ≤ 1100 * ps.length
  | [], _ => by simp
  | a :: r, h => by
    have h1 := flat_pts_len r (fun m hm => h m (by simp [hm]))
    have h2 := encPt_len (h a (by simp)).1 (h a (by simp)).2
    simp only [List.flatMap_cons, List.length_append, List.length_cons]
    omega

theorem wrap_i64of {n : Nat} (h : n < 18446744073709551616) : wrap64 (n : Int) = i64of n := by unfold wrap64 i64of; split <;> omega
theorem odd_eq (n : Nat) : ((n : Int) % 2 == 1) = odd n := by
  unfold odd
  rw [Bool.eq_iff_iff, beq_iff_eq, beq_iff_eq]; omega

set_option maxHeartbeats 2000000 in
set_option maxRecDepth 100000 in
theorem put_any (w : World) (S : List Nat) (v : Value) (l : List UInt8) (h1 h2 : Nat) (Aa Am : Option Addr) (ca cm : Nat) (p : Pt) (hb : BufAt w S v l) (hra : AlsIn w h1 Aa p.s.alarms) (hrm : NmsIn w h2 Am p.s.mod) (hh1 : h1 ∉ S) (hh2 : h2 ∉ S) (hok : p.ok) (hli : p.light) (hl : l.length ≤ 10000000) :
    Calls Try.prog 12 #[v, .agg #[.int .u8 (p.what : Int), .int .u64 (p.n : Int), .string p.t, .slice Aa p.s.alarms.length ca, .bool p.s.ends, .bool p.s.ret.some, .int .i64 p.s.ret.lo, .int .i64 p.s.ret.hi, .slice Am p.s.mod.length cm]] w (Grew w S (l ++ encPt p)) := by
  obtain ⟨what, n, t, ⟨als, ends, ⟨rs, rlo, rhi⟩, ms⟩⟩ := p
  simp only [] at hra hrm
  obtain ⟨ok1, ok2, ok3⟩ := hok
  obtain ⟨li1, li2⟩ := hli
  simp only [] at ok1 ok2 ok3 li1 li2
  have HB := Lib.hid hb
  have HRA := Lib.hid hra
  have HRM := Lib.hid hrm
  have HOK := Lib.hid ok3
  have HLI := Lib.hid li2
  have HN := Lib.hid ok2
  clear hb hra hrm ok3 li2
  rcases (show what % 5 = 0 ∨ what % 5 = 1 ∨ what % 5 = 2 ∨ what % 5 = 3 ∨ what % 5 = 4 by omega) with hm | hm | hm | hm | hm
  · have HE := Lib.hid (show encPt ⟨what, n, t, ⟨als, ends, ⟨rs, rlo, rhi⟩, ms⟩⟩ = M.enc n by unfold encPt; rw [if_pos hm])
    have b0 : ((what : Int) % 5 == 0) = true := by rw [beq_iff_eq]; omega
    rw [HE.out]
    clear hm
    go_enter Try.func12, Try.ntmps12
    go_wp2_with fail
    refine (refNum_any _ S v l n (HB.out.keep0 ((Keeps.refl [] w).alloc _)) HN.out (by omega)).mono ?_
    rintro e w' ⟨v', g, rfl, q1, q2, q3⟩
    have HG := Lib.hid (show Grew w S (l ++ M.enc n) (.returned v') w' from ⟨v', g, rfl, q1, q2.imp id (fun h => by simp at h; omega), ((Keeps.refl S w).alloc _).trans q3 (fun _ h _ => h)⟩)
    clear q1 q2 q3
    go_wp2_with fail
    go_ret
    exact HG.out
  · have HE := Lib.hid (show encPt ⟨what, n, t, ⟨als, ends, ⟨rs, rlo, rhi⟩, ms⟩⟩ = encInt (i64of n) by unfold encPt; rw [if_neg (by simp only []; omega), if_pos hm])
    have b0 : ((what : Int) % 5 == 0) = false := by rw [beq_eq_false_iff_ne]; omega
    have b1 : ((what : Int) % 5 == 1) = true := by rw [beq_iff_eq]; omega
    rw [HE.out]
    clear hm
    go_enter Try.func12, Try.ntmps12
    go_wp2_with fail
    rw [wrap_i64of HN.out]
    refine (refInt_any _ S v l _ (HB.out.keep0 ((Keeps.refl [] w).alloc _)) (i64of_wide HN.out) (by omega)).mono ?_
    rintro e w' ⟨v', g, rfl, q1, q2, q3⟩
    have HG := Lib.hid (show Grew w S (l ++ encInt (i64of n)) (.returned v') w' from ⟨v', g, rfl, q1, q2.imp id (fun h => by simp at h; omega), ((Keeps.refl S w).alloc _).trans q3 (fun _ h _ => h)⟩)
    clear q1 q2 q3
    go_wp2_with fail
    go_ret
    exact HG.out
  · have HE := Lib.hid (show encPt ⟨what, n, t, ⟨als, ends, ⟨rs, rlo, rhi⟩, ms⟩⟩ = encT t by unfold encPt; rw [if_neg (by simp only []; omega), if_neg (by simp only []; omega), if_pos hm])
    have b0 : ((what : Int) % 5 == 0) = false := by rw [beq_eq_false_iff_ne]; omega
    have b1 : ((what : Int) % 5 == 1) = false := by rw [beq_eq_false_iff_ne]; omega
    have b2 : ((what : Int) % 5 == 2) = true := by rw [beq_iff_eq]; omega
    rw [HE.out]
    clear hm
    go_enter Try.func12, Try.ntmps12
    go_wp2_with fail
    refine (refText_any _ S v l t (HB.out.keep0 ((Keeps.refl [] w).alloc _)) (by omega)).mono ?_
    rintro e w' ⟨v', g, rfl, q1, q2, q3⟩
    have HG := Lib.hid (show Grew w S (l ++ encT t) (.returned v') w' from ⟨v', g, rfl, q1, q2.imp id (fun h => by simp at h; omega), ((Keeps.refl S w).alloc _).trans q3 (fun _ h _ => h)⟩)
    clear q1 q2 q3
    go_wp2_with fail
    go_ret
    exact HG.out
  · have HE := Lib.hid (show encPt ⟨what, n, t, ⟨als, ends, ⟨rs, rlo, rhi⟩, ms⟩⟩ = M.encBool (odd n) by unfold encPt; rw [if_neg (by simp only []; omega), if_neg (by simp only []; omega), if_neg (by simp only []; omega), if_pos hm])
    have b0 : ((what : Int) % 5 == 0) = false := by rw [beq_eq_false_iff_ne]; omega
    have b1 : ((what : Int) % 5 == 1) = false := by rw [beq_eq_false_iff_ne]; omega
    have b2 : ((what : Int) % 5 == 2) = false := by rw [beq_eq_false_iff_ne]; omega
    have b3 : ((what : Int) % 5 == 3) = true := by rw [beq_iff_eq]; omega
    rw [HE.out]
    clear hm
    go_enter Try.func12, Try.ntmps12
    go_wp2_with fail
    rw [odd_eq]
    refine (refBool_any _ S v l _ (HB.out.keep0 ((Keeps.refl [] w).alloc _)) (by omega)).mono ?_
    rintro e w' ⟨v', g, rfl, q1, q2, q3⟩
    have HG := Lib.hid (show Grew w S (l ++ M.encBool (odd n)) (.returned v') w' from ⟨v', g, rfl, q1, q2.imp id (fun h => by simp at h; omega), ((Keeps.refl S w).alloc _).trans q3 (fun _ h _ => h)⟩)
    clear q1 q2 q3
    go_wp2_with fail
    go_ret
    exact HG.out
  · have HE := Lib.hid (show encPt ⟨what, n, t, ⟨als, ends, ⟨rs, rlo, rhi⟩, ms⟩⟩ = encSm ⟨als, ends, ⟨rs, rlo, rhi⟩, ms⟩ by unfold encPt; rw [if_neg (by simp only []; omega), if_neg (by simp only []; omega), if_neg (by simp only []; omega), if_neg (by simp only []; omega)])
    have b0 : ((what : Int) % 5 == 0) = false := by rw [beq_eq_false_iff_ne]; omega
    have b1 : ((what : Int) % 5 == 1) = false := by rw [beq_eq_false_iff_ne]; omega
    have b2 : ((what : Int) % 5 == 2) = false := by rw [beq_eq_false_iff_ne]; omega
    have b3 : ((what : Int) % 5 == 3) = false := by rw [beq_eq_false_iff_ne]; omega
    rw [HE.out]
    clear hm
    go_enter Try.func12, Try.ntmps12
    go_wp2_with fail
    refine (refSummary_any _ S v l h1 h2 Aa Am ca cm ⟨als, ends, ⟨rs, rlo, rhi⟩, ms⟩ (HB.out.keep0 ((Keeps.refl [] w).alloc _)) (HRA.out.keep ((Keeps.refl [] w).alloc _) (by simp)) (HRM.out.keep ((Keeps.refl [] w).alloc _) (by simp)) hh1 hh2 HOK.out HLI.out (by omega)).mono ?_
    rintro e w' ⟨v', g, rfl, q1, q2, q3⟩
    have HG := Lib.hid (show Grew w S (l ++ encSm ⟨als, ends, ⟨rs, rlo, rhi⟩, ms⟩) (.returned v') w' from ⟨v', g, rfl, q1, q2.imp id (fun h => by simp at h; omega), ((Keeps.refl S w).alloc _).trans q3 (fun _ h _ => h)⟩)
    clear q1 q2 q3
    go_wp2_with fail
    go_ret
    exact HG.out
end Go.Proofs.Ytohmadfaaonaaaa
