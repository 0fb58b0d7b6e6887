/- Done; the statements' helps known and zig. -/
import Derived.Test.YtohmadfaaonaaaaCTry
import Derived.Test.YtohmadfaaonaaaaCInt
namespace Go.Proofs.Ytohmadfaaonaaaa
open Go.RowKit

def doneNum (l : List UInt8) (f : Bool) : Int := if f = true ∨ 0 < l.length then 20 else 0
set_option maxHeartbeats 400000 in
theorem done_any (w : World) (p g : Nat) (l : List UInt8) (f : Bool) (hr : RdAt w p g l f) :
    Calls Try.prog 33 #[.pointer (some ⟨p, 0, none⟩)] w fun e w' => e = .returned (.int .i64 (doneNum l f)) ∧ w = w' := by
  obtain ⟨A, cap, hb, hbi, hc, hm⟩ := hr
  have hc0 := cell_of_two0 hb
  have hc1 := cell_of_two1 hb
  have hlen : l.length ≤ 9223372036854775807 := by unfold maxLen at hm; omega
  clear hb hbi hc hm
  cases f with
  | true =>
    go_enter Try.func33, Try.ntmps33
    go_wp2_with fail
    go_ret
    exact ⟨rfl, rfl⟩
  | false =>
    by_cases hl : 0 < l.length
    · have HD := Lib.hid (show doneNum l false = 20 by unfold doneNum; rw [if_pos (.inr hl)])
      go_enter Try.func33, Try.ntmps33
      go_wp2_with fail
      go_ret
      exact ⟨by rw [HD.out]; rfl, rfl⟩
    · have HD := Lib.hid (show doneNum l false = 0 by unfold doneNum; rw [if_neg (by simp; simpa using hl)])
      have hl0 : (l.length : Int) ≤ 0 := by omega
      go_enter Try.func33, Try.ntmps33
      go_wp2_with fail
      go_ret
      exact ⟨by rw [HD.out]; rfl, rfl⟩

theorem zig_any (z : Int) (h : Wide z) (w : World) : Calls Try.prog 35 #[.int .i64 z] w fun e w' => e = .returned (.int .u64 ((M.zig z : Nat) : Int)) ∧ w = w' := by
  obtain ⟨h1, h2⟩ := h
  by_cases hneg : z < 0
  · have HZ := Lib.hid (show -(z + 1) * 2 + 1 = ((M.zig z : Nat) : Int) by unfold M.zig; rw [if_pos hneg]; omega)
    go_enter Try.func35, Try.ntmps35
    go_wp2_with fail
    go_ret
    exact ⟨by rw [← HZ.out]; rfl, rfl⟩
  · have hpos : 0 ≤ z := by omega
    have HZ := Lib.hid (show z * 2 = ((M.zig z : Nat) : Int) by unfold M.zig; rw [if_neg hneg]; omega)
    clear hneg
    go_enter Try.func35, Try.ntmps35
    go_wp2_with fail
    go_ret
    exact ⟨by rw [← HZ.out]; rfl, rfl⟩

theorem enc_m1 : [(-1 : Int), 1].flatMap encInt = [1, 2] := by
  simp only [List.flatMap_cons, List.flatMap_nil, List.append_nil]
  have h1 : encInt (-1) = [1] := by unfold encInt; rw [show M.zig (-1) = 1 by rfl, M.enc_small (by omega)]; rfl
  have h2 : encInt 1 = [2] := by unfold encInt; rw [show M.zig 1 = 2 by rfl, M.enc_small (by omega)]; rfl
  rw [h1, h2]; rfl
theorem dec_12 : M.dec 0 0 [1, 2] = some (1, [2]) := by rfl
theorem dec_2 : M.dec 0 0 [2] = some (2, []) := by rfl

set_option maxHeartbeats 2000000 in
set_option maxRecDepth 100000 in
theorem known_any (w : World) : Calls Try.prog 9 #[] w fun e w' => e = .returned (.bool true) ∧ Keeps [] w w' := by
  go_enter Try.func9, Try.ntmps9
  go_wp2_with fail
  refine (newWriter_any w).mono ?_
  rintro e w1 ⟨p, rfl, hp, hw1, hk1⟩
  have HP := Lib.hid hp
  have HW1 := Lib.hid hw1
  have HK1 := Lib.hid hk1
  clear hp hw1 hk1
  go_wp2_with fail
  have hka := (Keeps.refl [] w1).alloc (.cells #[.int .i64 (-1), .int .i64 1] 2)
  have hlt1 := HW1.out.lt
  refine (int_any _ p p w1.heap.size [] _ [-1, 1] 2 (HW1.out.keep hka (by simp) (by simp)) (.inr ⟨0, rfl, fun k hk => ?_⟩) (by omega) (by omega) (by simp [Wide]) (by simp)).mono ?_
  · match k, hk with
    | 0, _ => simp [ints]
    | 1, _ => simp [ints]
  rintro e w2 ⟨rfl, g2, hw2, hg2, hk2⟩
  rw [List.nil_append, enc_m1] at hw2
  have hk02 : Keeps [] w w2 := (HK1.out.trans (hka.mono (T := []) (by simp)) (by simp)).trans hk2 (by intro i hi hl; have := HP.out; simp at hi; omega)
  have HW2 := Lib.hid hw2
  have HK2 := Lib.hid hk02
  clear hw2 hg2 hk2 hka hk02 hlt1
  go_wp2_with fail
  refine (bytes_any w2 p g2 [1, 2] HW2.out (by simp)).mono ?_
  rintro e w3 ⟨A3, c3, b3, rfl, hb3, hg3, _, _, _, hk3⟩
  have HB3 := Lib.hid hb3
  have HK3 := Lib.hid hk3
  clear hb3 hk3 hg3
  go_wp2_with fail
  refine (newReader_any w3 b3 A3 [1, 2] c3 HB3.out (by simp)).mono ?_
  rintro e w4 ⟨q, gq, rfl, hr4, hq, hgq, hk4⟩
  have HR4 := Lib.hid hr4
  have HK4 := Lib.hid hk4
  have HQ := Lib.hid hq
  have HGQ := Lib.hid hgq
  have HW4 := Lib.hid ((HW2.out.keep HK3.out (by simp) (by simp)).keep hk4 (by simp) (by simp))
  have HK04 := Lib.hid ((HK2.out.trans HK3.out (by simp)).trans hk4 (by simp))
  clear hr4 hk4 hq hgq
  go_wp2_with fail
  refine (bytes_any w4 p g2 [1, 2] HW4.out (by simp)).mono ?_
  rintro e w5 ⟨A5, c5, b5, rfl, hb5, hg5, _, _, _, hk5⟩
  have hcv : (convert 27 9 (.slice A5 2 c5)).run Try.prog w5 = .ok (.string ⟨#[1, 2]⟩) w5 := conv_text w5 b5 A5 [1, 2] c5 hb5
  have HK5 := Lib.hid hk5
  have HR5 := Lib.hid (HR4.out.keep hk5 (by simp) (by simp))
  clear hb5 hk5 hg5
  go_wp2_with fail
  refine (Int_gave w5 q gq [1, 2] [2] _ HR5.out (fun w1 h => signed_ok h dec_12)).mono ?_
  rintro e w6 ⟨rfl, hr6, hk6⟩
  have HR6 := Lib.hid hr6
  have HK6 := Lib.hid hk6
  clear hr6 hk6
  have hu1 : M.unzig 1 = -1 := rfl
  go_wp2_with fail
  refine (Int_gave w6 q gq [2] [] _ HR6.out (fun w1 h => signed_ok h dec_2)).mono ?_
  rintro e w7 ⟨rfl, hr7, hk7⟩
  have HR7 := Lib.hid hr7
  have HK7 := Lib.hid hk7
  clear hr7 hk7
  have hu2 : M.unzig 2 = 1 := rfl
  go_wp2_with fail
  refine (done_any w7 q gq [] false HR7.out).mono ?_
  rintro e w' ⟨rfl, rfl⟩
  have hd1 : doneNum [] false = 0 := rfl
  go_wp2_with fail
  refine (Text_fell w7 q gq [] HR7.out (fun w1 h => text_bad h rfl)).mono ?_
  rintro e w8 ⟨rfl, l8, hr8, hk8⟩
  have HR8 := Lib.hid hr8
  have HK8 := Lib.hid hk8
  clear hr8 hk8
  go_wp2_with fail
  refine (done_any w8 q gq l8 true HR8.out).mono ?_
  rintro e w' ⟨rfl, rfl⟩
  have hd2 : doneNum l8 true = 20 := rfl
  go_wp2_with fail
  go_ret
  refine ⟨rfl, ?_⟩
  have hq : ∀ i, i ∈ [q] → i < w.heap.size → i ∈ ([] : List Nat) := by
    intro i hi hl
    have h1 := HQ.out
    have h2 := (HK2.out.trans HK3.out (by simp)).size
    simp at hi
    omega
  exact ((((HK04.out.trans HK5.out (by simp)).trans HK6.out hq).trans HK7.out hq).trans HK8.out hq)
end Go.Proofs.Ytohmadfaaonaaaa
