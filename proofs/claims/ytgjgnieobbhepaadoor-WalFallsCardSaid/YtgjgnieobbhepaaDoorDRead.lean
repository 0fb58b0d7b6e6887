/- A disk's reading calls: has, last, Dead, Sectors, Size, Read. -/
import Derived.Test.YtgjgnieobbhepaaDoorDBase
namespace Go.Proofs.YtgjgnieobbhepaaDoor
open Go.RowKit

theorem keyLaw : Maps.Keyed Tryd.prog 3 := Maps.int_keyed Tryd.underlying3
theorem zeroBytes (w : World) : (zeroValue 34).run Tryd.prog w = .ok (.slice none 0 0) w := by kernel_rfl
theorem key_of {i : Nat} (hi : i ≤ 4096) : keyOf Tryd.prog 3 (.int .i64 (i : Int)) = some (key i) := Maps.keyOf_int_mk Tryd.underlying3 (by simp [Lit.wf, IntKind.min, IntKind.max, IntKind.bits, IntKind.signed]; omega)
def Dk.has (d : Dk) (i : Int) : Bool := decide (0 ≤ i) && decide (i < (d.dur.length : Int))
theorem Dk.has_iff (d : Dk) (i : Int) : d.has i = true ↔ 0 ≤ i ∧ i < (d.dur.length : Int) := by unfold Dk.has; simp
section
variable (w : World) (h : DH) (B : Nat → Prop) (d : Dk)
theorem DskAt.cells {w : World} {h : DH} {B : Nat → Prop} {d : Dk} (x : DskAt w h B d) : ∃ cap, w.cell? ⟨h.p, 0, none⟩ = some (.int .i64 (d.size : Int)) ∧ w.cell? ⟨h.p, 1, none⟩ = some (.slice (some ⟨h.gd, 0, none⟩) d.dur.length cap) ∧
    w.cell? ⟨h.p, 2, none⟩ = some (.map (some h.gm)) ∧ w.cell? ⟨h.p, 3, none⟩ = some (.bool d.dead) ∧ w.cell? ⟨h.p, 4, none⟩ = some (.bool d.cut) ∧ w.cell? ⟨h.p, 5, none⟩ = some (.int .i64 (d.left : Int)) := by
  obtain ⟨cap, hb⟩ := x.box
  exact ⟨cap, row_cell hb 0, row_cell hb 1, row_cell hb 2, row_cell hb 3, row_cell hb 4, row_cell hb 5⟩
theorem DskAt.free {w : World} {h : DH} {B : Nat → Prop} {d : Dk} (x : DskAt w h B d) (j : Nat) : w.frozen? ⟨h.p, j, none⟩ = false := by
  obtain ⟨cap, hb⟩ := x.box
  exact row_free hb j
set_option maxHeartbeats 400000 in
theorem has_any (x : DskAt w h B d) (i : Int) : Calls Tryd.prog 44 #[.pointer (some ⟨h.p, 0, none⟩), .int .i64 i] w fun e w' => e = .returned (.bool (d.has i)) ∧ w = w' := by
  obtain ⟨cap, _, c1, _⟩ := x.cells
  have hn := x.ok.secs.2
  clear x
  by_cases h0 : 0 ≤ i
  · by_cases h1 : i < (d.dur.length : Int)
    · have HH := Lib.hid ((d.has_iff i).2 ⟨h0, h1⟩)
      have d0 : decide (0 ≤ i) = true := by simpa using h0
      have d1 : decide (i < (d.dur.length : Int)) = true := by simpa using h1
      go_enter Tryd.func44, Tryd.ntmps44
      go_wp2_with fail
      go_ret
      exact ⟨by rw [HH.out]; rfl, rfl⟩
    · have HH := Lib.hid (show d.has i = false by rw [Bool.eq_false_iff]; intro hh; exact h1 ((d.has_iff i).1 hh).2)
      have d0 : decide (0 ≤ i) = true := by simpa using h0
      have d1 : decide (i < (d.dur.length : Int)) = false := by simpa using h1
      go_enter Tryd.func44, Tryd.ntmps44
      go_wp2_with fail
      go_ret
      exact ⟨by rw [HH.out]; rfl, rfl⟩
  · have HH := Lib.hid (show d.has i = false by rw [Bool.eq_false_iff]; intro hh; exact h0 ((d.has_iff i).1 hh).1)
    have d0 : decide (0 ≤ i) = false := by simpa using h0
    go_enter Tryd.func44, Tryd.ntmps44
    go_wp2_with fail
    go_ret
    exact ⟨by rw [HH.out]; rfl, rfl⟩
set_option maxHeartbeats 400000 in
theorem dead_any (x : DskAt w h B d) : Calls Tryd.prog 22 #[.pointer (some ⟨h.p, 3, none⟩)] w fun e w' => e = .returned (.bool d.dead) ∧ w = w' := by
  obtain ⟨cap, _, _, _, c3, _⟩ := x.cells
  clear x
  go_enter Tryd.func22, Tryd.ntmps22
  go_wp2_with fail
  go_ret
  exact ⟨rfl, rfl⟩
set_option maxHeartbeats 400000 in
theorem sectors_any (x : DskAt w h B d) : Calls Tryd.prog 29 #[.pointer (some ⟨h.p, 0, none⟩)] w fun e w' => e = .returned (.int .i64 (d.dur.length : Int)) ∧ w = w' := by
  obtain ⟨cap, _, c1, _⟩ := x.cells
  have hn := x.ok.secs.2
  clear x
  go_enter Tryd.func29, Tryd.ntmps29
  go_wp2_with fail
  go_ret
  exact ⟨rfl, rfl⟩
set_option maxHeartbeats 400000 in
theorem size_any (x : DskAt w h B d) : Calls Tryd.prog 30 #[.pointer (some ⟨h.p, 0, none⟩)] w fun e w' => e = .returned (.int .i64 (d.size : Int)) ∧ w = w' := by
  obtain ⟨cap, c0, _⟩ := x.cells
  clear x
  go_enter Tryd.func30, Tryd.ntmps30
  go_wp2_with fail
  go_ret
  exact ⟨rfl, rfl⟩
def LastP (d : Dk) (i : Nat) (B : Nat → Prop) (w : World) (e : Ending) (w' : World) : Prop := ∃ v, e = .returned v ∧ SecV w B v (d.last i) ∧ w = w'
set_option maxHeartbeats 800000 in
theorem last_any (x : DskAt w h B d) (i : Nat) (hi : i < d.dur.length) : Calls Tryd.prog 45 #[.pointer (some ⟨h.p, 0, none⟩), .int .i64 (i : Int)] w (LastP d i B w) := by
  obtain ⟨cap, _, c1, c2, _⟩ := x.cells
  have hn := x.ok.secs.2
  obtain ⟨k, D, ho, hk1, hk2⟩ := x.fresh
  have HO := Lib.hid ho
  have hkey := key_of (i := i) (by omega)
  have HKEY := Lib.hid hkey
  clear hkey
  cases hf : d.fr i with
  | some b =>
    obtain ⟨hhas, v0, hat, hsec⟩ := hk2 i b hf
    have HHAS := Lib.hid hhas
    have HAT := Lib.hid hat
    have HSEC := Lib.hid (show SecV w B v0 (d.last i) by unfold Dk.last; rw [hf]; exact hsec)
    clear x ho hk1 hk2 hf hhas hat hsec
    go_enter Tryd.func45, Tryd.ntmps45
    go_wp2_with (at_lookup; refine wpList_lookup_own_ok _ rfl _ _ 43 rfl 3 34 keyLaw Tryd.underlying43 Raw (zeroBytes _) (.held (.slice none 0 0)) [] rfl h.gm k D rfl HO.out _ (key i) rfl HKEY.out ?_)
    intro v ps hv
    have hv0 : v = v0 := by
      rw [HAT.out] at hv
      simp only [Raw, Option.some.injEq, Prod.mk.injEq, DataW.held.injEq] at hv
      exact hv.1
    subst hv0
    rw [HHAS.out]
    clear hv
    go_wp2_with fail
    go_ret
    exact ⟨_, rfl, HSEC.out, rfl⟩
  | none =>
    have hhas : Maps.has D (key i) = false := by
      rw [Bool.eq_false_iff]
      intro hh
      obtain ⟨j, hj, he, hs⟩ := hk1 _ hh
      have := key_inj he
      subst this
      rw [hf] at hs; cases hs
    obtain ⟨vs, hr, hv⟩ := x.rows
    obtain ⟨v0, hv0, hsec⟩ := hv i hi
    have cr : w.cell? ⟨h.gd, i, none⟩ = some v0 := by rw [row_cell hr]; exact hv0
    have HHAS := Lib.hid hhas
    have HSEC := Lib.hid (show SecV w B v0 (d.last i) by
      unfold Dk.last; rw [hf]
      show SecV w B v0 (d.dur.getD i [])
      rw [List.getD_eq_getElem?_getD, List.getElem?_eq_getElem hi, Option.getD_some]
      exact hsec)
    clear x ho hk1 hk2 hf hhas hsec hr hv hv0
    go_enter Tryd.func45, Tryd.ntmps45
    go_wp2_with (at_lookup; refine wpList_lookup_own_ok _ rfl _ _ 43 rfl 3 34 keyLaw Tryd.underlying43 Raw (zeroBytes _) (.held (.slice none 0 0)) [] rfl h.gm k D rfl HO.out _ (key i) rfl HKEY.out ?_)
    intro v ps hv
    rw [HHAS.out]
    clear hv
    go_wp2_with fail
    go_ret
    exact ⟨_, rfl, HSEC.out, rfl⟩
end
theorem last_len_le {w : World} {h : DH} {B : Nat → Prop} {d : Dk} (x : DskAt w h B d) {n : Nat} (hn : n < d.dur.length) : (d.last n).length ≤ 4096 := by
  have := Dk.last_len x.ok hn
  have := x.ok.size
  omega
/-- What Read answers: err, and where it is none a new copy of what was written last. -/
def ReadP (d : Dk) (i : Int) (w : World) (e : Ending) (w' : World) : Prop :=
  if d.dead then e = .returned (.tuple #[.slice none 0 0, .int .i64 32]) ∧ w = w'
  else if d.has i = false then e = .returned (.tuple #[.slice none 0 0, .int .i64 30]) ∧ w = w'
  else ∃ A g cap, e = .returned (.tuple #[.slice A (d.last i.toNat).length cap, .int .i64 0]) ∧ BytesIn w' g A (d.last i.toNat) ∧ w.heap.size ≤ g ∧ (d.last i.toNat).length ≤ cap ∧ cap ≤ maxLen ∧ (A = none → d.last i.toNat = []) ∧ Keeps [] w w'
theorem readP_dead {d : Dk} {i : Int} {w : World} (hd : d.dead = true) : ReadP d i w (.returned (.tuple #[.slice none 0 0, .int .i64 32])) w := by
  unfold ReadP; rw [if_pos hd]; exact ⟨rfl, rfl⟩
theorem readP_place {d : Dk} {i : Int} {w : World} (hd : d.dead = false) (hh : d.has i = false) : ReadP d i w (.returned (.tuple #[.slice none 0 0, .int .i64 30])) w := by
  unfold ReadP; rw [if_neg (by rw [hd]; simp), if_pos hh]; exact ⟨rfl, rfl⟩
theorem readP_ok {d : Dk} {n : Nat} {w w' : World} {e : Ending} (hd : d.dead = false) (hh : d.has (n : Int) = true) (h : CopyAt w (d.last n) e w') : ∃ A cap, e = .returned (.slice A (d.last n).length cap) ∧ ReadP d (n : Int) w (.returned (.tuple #[.slice A (d.last n).length cap, .int .i64 0])) w' := by
  obtain ⟨A, cap, g, he, hc⟩ := h
  refine ⟨A, cap, he, ?_⟩
  unfold ReadP; rw [if_neg (by rw [hd]; simp), if_neg (by rw [hh]; simp), Int.toNat_natCast]
  exact ⟨A, g, cap, rfl, hc⟩
set_option maxHeartbeats 800000 in
theorem read_any (w : World) (h : DH) (B : Nat → Prop) (d : Dk) (x : DskAt w h B d) (i : Int) : Calls Tryd.prog 25 #[.pointer (some ⟨h.p, 0, none⟩), .int .i64 i] w (ReadP d i w) := by
  obtain ⟨cap, _, c1, c2, c3, _⟩ := x.cells
  have HX := Lib.hid x
  cases hd : d.dead with
  | true =>
    have HD := Lib.hid hd
    rw [hd] at c3
    clear x hd
    go_enter Tryd.func25, Tryd.ntmps25
    go_wp2_with fail
    go_ret2
    exact readP_dead HD.out
  | false =>
    have HD := Lib.hid hd
    rw [hd] at c3
    cases hh : d.has i with
    | false =>
      have HH := Lib.hid hh
      clear x hd hh
      go_enter Tryd.func25, Tryd.ntmps25
      go_wp2_with fail
      refine (has_any w h B d HX.out i).mono ?_
      rintro e w' ⟨rfl, rfl⟩
      rw [HH.out]
      go_wp2_with fail
      go_ret2
      exact readP_place HD.out HH.out
    | true =>
      obtain ⟨q0, q1⟩ := (d.has_iff i).1 hh
      obtain ⟨n, rfl⟩ : ∃ n : Nat, i = (n : Int) := ⟨i.toNat, by omega⟩
      have hn : n < d.dur.length := by omega
      have hlen := last_len_le x hn
      have HH := Lib.hid hh
      clear x hd hh q0 q1
      go_enter Tryd.func25, Tryd.ntmps25
      go_wp2_with fail
      refine (has_any w h B d HX.out (n : Int)).mono ?_
      rintro e w' ⟨rfl, rfl⟩
      rw [HH.out]
      go_wp2_with fail
      refine (last_any w h B d HX.out n hn).mono ?_
      rintro e w' ⟨v, rfl, ⟨g, off, cp, rfl, hb, _⟩, rfl⟩
      have HB := Lib.hid hb
      clear hb
      go_wp2_with fail
      refine (clone_any w g _ _ cp HB.out (by omega)).mono ?_
      intro e w' hc
      obtain ⟨A', cap', rfl, hR⟩ := readP_ok HD.out HH.out hc
      have HR := Lib.hid hR
      clear hc hR
      go_wp2_with fail
      go_ret2
      exact HR.out
end Go.Proofs.YtgjgnieobbhepaaDoor
