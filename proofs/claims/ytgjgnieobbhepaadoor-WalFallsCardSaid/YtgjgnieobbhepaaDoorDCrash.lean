/- A disk's Crash where nothing is torn. -/
import Derived.Test.YtgjgnieobbhepaaDoorDLose
namespace Go.Proofs.YtgjgnieobbhepaaDoor
open Go.RowKit

def CrashP (w : World) (h : DH) (B : Nat → Prop) (d' : Dk) (e : Ending) (w' : World) : Prop := e = .returned (.tuple #[]) ∧ DskAt w' h B d' ∧ Keeps h.l w w'
theorem crashP_of {w w2 w3 : World} {h : DH} {B : Nat → Prop} {d : Dk} {keep : Nat} (x : DskAt w h B d) (hk : Keeps h.l w w2) (x2 : DskAt w2 h B (d.lose keep).settle) (hw : w3 = ((w2.setCell ⟨h.p, 3, none⟩ (.bool false)).setCell ⟨h.p, 4, none⟩ (.bool false)).setCell ⟨h.p, 5, none⟩ (.int .i64 0)) : CrashP w h B (d.crash keep) (.returned (.tuple #[])) w3 := by
  obtain ⟨capb, hb⟩ := x2.box
  have hk3 : Keeps [h.p] w2 w3 := by rw [hw]; exact (((Keeps.refl _ _).setCell (by simp) _).setCell (by simp) _).setCell (by simp) _
  refine ⟨rfl, x2.turn hk3 (Dk.ok_crash x.ok keep) rfl rfl rfl ⟨capb, ?_⟩, hk.trans hk3 (by simp [DH.l])⟩
  rw [hw, six_set (six_set (six_set hb 3 _) 4 _) 5 _]
  rfl
set_option maxHeartbeats 1000000 in
theorem crash_any (w : World) (h : DH) (B : Nat → Prop) (d : Dk) (x : DskAt w h B d) (keep : Nat) (hkeep : keep < 18446744073709551616) (torn : Int) (ht : torn < 0) : Calls Tryd.prog 23 #[.pointer (some ⟨h.p, 0, none⟩), .int .u64 (keep : Int), .int .i64 torn, .int .i64 0] w (CrashP w h B (d.crash keep)) := by
  have HX := Lib.hid x
  clear x
  go_enter Tryd.func23, Tryd.ntmps23
  go_wp2_with fail
  refine (lose_any w h B d HX.out keep hkeep torn ht).mono ?_
  rintro e w1 ⟨rfl, q1, q2⟩
  have HX1 := Lib.hid q1
  have HK1 := Lib.hid (q2.mono (T := h.l) (by simp [DH.l]))
  clear q1 q2
  go_wp2_with fail
  refine (settle_any w1 h B _ HX1.out).mono ?_
  rintro e w2 ⟨rfl, q1, q2⟩
  have HX2 := Lib.hid q1
  have HK2 := Lib.hid (HK1.out.trans q2 (fun _ h _ => h))
  obtain ⟨capk, _, _, _, m3, m4, m5⟩ := q1.cells
  have z3 := q1.free 3
  have z4 := q1.free 4
  have z5 := q1.free 5
  clear q1 q2
  go_wp2_with fail
  go_end0
  exact crashP_of HX.out HK2.out HX2.out rfl
end Go.Proofs.YtgjgnieobbhepaaDoor
