/- A disk's writing calls: draw, Cut, Write. -/
import Derived.Test.YtgjgnieobbhepaaDoorDMap
import Derived.Test.YtgjgnieobbhepaaDoorRegion
namespace Go.Proofs.YtgjgnieobbhepaaDoor
open Go.RowKit
open Reg (Is Fact)

attribute [local go_sem] Reg.lateFr Reg.wantedV Reg.gives_value Reg.gives_skip Reg.gives_enter
def errOf (b : Bool) : Int := if b then 0 else 32
def DrawP (w : World) (h : DH) (B : Nat → Prop) (d : Dk) (e : Ending) (w' : World) : Prop := e = .returned (.int .i64 (errOf d.power)) ∧ DskAt w' h B d.drawn ∧ Keeps [h.p] w w'
section
variable (w : World) (h : DH) (B : Nat → Prop) (d : Dk)
set_option maxHeartbeats 800000 in
theorem draw_any (x : DskAt w h B d) : Calls Tryd.prog 46 #[.pointer (some ⟨h.p, 3, none⟩)] w (DrawP w h B d) := by
  obtain ⟨cap, _, _, _, c3, c4, c5⟩ := x.cells
  have z3 := x.free 3
  have z5 := x.free 5
  have hl := x.ok.left
  obtain ⟨capb, hb⟩ := x.box
  have HX := Lib.hid x
  cases hd : d.dead with
  | true =>
    rw [hd] at c3
    have HR := Lib.hid (show DrawP w h B d (.returned (.int .i64 32)) w from ⟨by simp [errOf, Dk.power, hd], by
      have e : d.drawn = d := by unfold Dk.drawn; rw [if_pos hd]
      rw [e]; exact x, Keeps.refl _ _⟩)
    clear x hd hb
    go_enter Tryd.func46, Tryd.ntmps46
    go_wp2_with fail
    go_ret
    exact HR.out
  | false =>
    rw [hd] at c3
    cases hc : d.cut with
    | false =>
      rw [hc] at c4
      have HR := Lib.hid (show DrawP w h B d (.returned (.int .i64 0)) w from ⟨by simp [errOf, Dk.power, hd, hc], by
        have e : d.drawn = d := by unfold Dk.drawn; rw [if_neg (by rw [hd]; simp), if_neg (by rw [hc]; simp)]
        rw [e]; exact x, Keeps.refl _ _⟩)
      clear x hd hc hb
      go_enter Tryd.func46, Tryd.ntmps46
      go_wp2_with fail
      go_ret
      exact HR.out
    | true =>
      rw [hc] at c4
      by_cases h0 : d.left = 0
      · have e0 : ((d.left : Int) == 0) = true := by rw [beq_iff_eq]; omega
        have hk : Keeps [h.p] w (w.setCell ⟨h.p, 3, none⟩ (.bool true)) := (Keeps.refl _ _).setCell (by simp) _
        have HR := Lib.hid (show DrawP w h B d (.returned (.int .i64 32)) (w.setCell ⟨h.p, 3, none⟩ (.bool true)) from ⟨by simp [errOf, Dk.power, hd, hc, h0], by
          have e : d.drawn = { d with dead := true } := by unfold Dk.drawn; rw [if_neg (by rw [hd]; simp), if_pos hc, if_pos h0]
          refine x.turn hk (Dk.ok_drawn x.ok) (by rw [e]) (by rw [e]) (by rw [e]) ⟨capb, ?_⟩
          rw [six_set hb 3 (.bool true), e]; rfl, hk⟩)
        clear x hd hc hb hk h0
        go_enter Tryd.func46, Tryd.ntmps46
        go_wp2_with fail
        go_ret
        exact HR.out
      · have e0 : ((d.left : Int) == 0) = false := by rw [beq_eq_false_iff_ne]; omega
        have e1 : ((d.left : Int) - 1) = ((d.left - 1 : Nat) : Int) := by omega
        have hk : Keeps [h.p] w (w.setCell ⟨h.p, 5, none⟩ (.int .i64 ((d.left : Int) - 1))) := (Keeps.refl _ _).setCell (by simp) _
        have HR := Lib.hid (show DrawP w h B d (.returned (.int .i64 0)) (w.setCell ⟨h.p, 5, none⟩ (.int .i64 ((d.left : Int) - 1))) from ⟨by simp [errOf, Dk.power, hd, hc, h0], by
          have e : d.drawn = { d with left := d.left - 1 } := by unfold Dk.drawn; rw [if_neg (by rw [hd]; simp), if_pos hc, if_neg h0]
          refine x.turn hk (Dk.ok_drawn x.ok) (by rw [e]) (by rw [e]) (by rw [e]) ⟨capb, ?_⟩
          rw [six_set hb 5 _, e, e1]; rfl, hk⟩)
        clear x hd hc hb hk h0 e1
        go_enter Tryd.func46, Tryd.ntmps46
        go_wp2_with fail
        go_ret
        exact HR.out
theorem draw_no (x : DskAt w h B d) (hp : d.power = false) : Calls Tryd.prog 46 #[.pointer (some ⟨h.p, 3, none⟩)] w fun e w' => e = .returned (.int .i64 32) ∧ DskAt w' h B d.drawn ∧ Keeps [h.p] w w' :=
  (draw_any w h B d x).mono fun e w' hq => ⟨by rw [hq.1, hp]; rfl, hq.2⟩
theorem draw_yes (x : DskAt w h B d) (hp : d.power = true) : Calls Tryd.prog 46 #[.pointer (some ⟨h.p, 3, none⟩)] w fun e w' => e = .returned (.int .i64 0) ∧ DskAt w' h B d.drawn ∧ Keeps [h.p] w w' :=
  (draw_any w h B d x).mono fun e w' hq => ⟨by rw [hq.1, hp]; rfl, hq.2⟩
def CutP (w : World) (h : DH) (B : Nat → Prop) (d' : Dk) (e : Ending) (w' : World) : Prop := e = .returned (.tuple #[]) ∧ DskAt w' h B d' ∧ Keeps [h.p] w w'
theorem cutP_of {w w2 : World} {h : DH} {B : Nat → Prop} {d : Dk} {n z : Int} (x : DskAt w h B d) (hn : Wide n) (hz : max n 0 = z) (hw2 : w2 = (w.setCell ⟨h.p, 4, none⟩ (.bool true)).setCell ⟨h.p, 5, none⟩ (.int .i64 z)) : CutP w h B (d.cutIn n) (.returned (.tuple #[])) w2 := by
  obtain ⟨capb, hb⟩ := x.box
  have hk : Keeps [h.p] w w2 := by rw [hw2]; exact ((Keeps.refl _ _).setCell (by simp) _).setCell (by simp) _
  refine ⟨rfl, ?_, hk⟩
  refine x.turn hk (Dk.ok_cut x.ok hn.2) rfl rfl rfl ⟨capb, ?_⟩
  have e1 : ((max n 0).toNat : Int) = z := by omega
  rw [hw2, six_set (six_set hb 4 (.bool true)) 5 _]
  show _ = some (Obj.cells #[_, _, _, _, _, .int .i64 (((max n 0).toNat : Nat) : Int)] _ _)
  rw [e1]; rfl
set_option maxHeartbeats 800000 in
theorem cut_any (x : DskAt w h B d) (n : Int) (hn : Wide n) : Calls Tryd.prog 21 #[.pointer (some ⟨h.p, 3, none⟩), .int .i64 n] w (CutP w h B (d.cutIn n)) := by
  obtain ⟨cap, _, _, _, c3, c4, c5⟩ := x.cells
  have z4 := x.free 4
  have z5 := x.free 5
  by_cases h0 : n < 0
  · have HR := Lib.hid (fun w2 h2 => cutP_of (w2 := w2) (z := 0) x hn (by omega) h2)
    clear x
    go_enter Tryd.func21, Tryd.ntmps21
    go_wp2_with fail
    go_end0
    exact HR.out _ rfl
  · have HR := Lib.hid (fun w2 h2 => cutP_of (w2 := w2) (z := n) x hn (by omega) h2)
    clear x
    go_enter Tryd.func21, Tryd.ntmps21
    go_wp2_with fail
    go_end0
    exact HR.out _ rfl
end
end Go.Proofs.YtgjgnieobbhepaaDoor
