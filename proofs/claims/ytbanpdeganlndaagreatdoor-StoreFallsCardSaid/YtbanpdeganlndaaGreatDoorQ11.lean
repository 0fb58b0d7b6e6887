/- Merged: DTear -/
import Derived.Test.YtbanpdeganlndaaGreatDoorQ10
import Derived.Test.YtbanpdeganlndaaGreatDoorQ3
namespace Go.Proofs.YtbanpdeganlndaaGreatDoor
open Go.RowKit

/-- A disk that woke with what a crash left. -/
def Dk.woke (d : Dk) (fr' : Nat → Option (List UInt8)) : Dk := { (d.with fr').settle with dead := false, cut := false, left := 0 }
def CrashT (w : World) (h : DH) (B : Nat → Prop) (d : Dk) (e : Ending) (w' : World) : Prop :=
  e = .returned (.tuple #[]) ∧ ∃ fr' B', Torn d fr' ∧ DskAt w' h B' (d.woke fr') ∧ (∀ x, B x → B' x) ∧ (∀ x, B' x → B x ∨ w.heap.size ≤ x) ∧ Keeps h.l w w'
theorem ok_woke {d : Dk} (h : d.Ok) {fr' : Nat → Option (List UInt8)} (ht : Torn d fr') : (d.woke fr').Ok := by
  have h1 := Dk.ok_settle (ok_with h ht)
  exact ⟨h1.size, h1.secs, h1.len, h1.fr, by simp [Dk.woke]⟩
theorem crasht_of {w w2 w3 : World} {h : DH} {B B' : Nat → Prop} {d : Dk} {fr' : Nat → Option (List UInt8)} (ok : d.Ok) (ht : Torn d fr') (hk : Keeps h.l w w2) (x2 : DskAt w2 h B' (d.with fr').settle) (h1 : ∀ x, B x → B' x) (h2 : ∀ x, B' x → B x ∨ w.heap.size ≤ x)
    (hw : w3 = ((w2.setCell ⟨h.p, 3, none⟩ (.bool false)).setCell ⟨h.p, 4, none⟩ (.bool false)).setCell ⟨h.p, 5, none⟩ (.int .i64 0)) : CrashT w h B d (.returned (.tuple #[])) w3 := by
  obtain ⟨capb, hb⟩ := x2.box
  have hk3 : Keeps [h.p] w2 w3 := by rw [hw]; exact (((Keeps.refl _ _).setCell (by simp) _).setCell (by simp) _).setCell (by simp) _
  refine ⟨rfl, fr', B', ht, x2.turn hk3 (ok_woke ok ht) rfl rfl rfl ⟨capb, ?_⟩, h1, h2, hk.trans hk3 (by simp [DH.l])⟩
  rw [hw, six_set (six_set (six_set hb 3 _) 4 _) 5 _]
  rfl
set_option maxHeartbeats 1000000 in
theorem crasht_any (w : World) (h : DH) (B : Nat → Prop) (d : Dk) (x : DskAt w h B d) (keep : Nat) (hkeep : keep < 18446744073709551616) (torn pos : Int) : Calls Tryz.prog 20 #[.pointer (some ⟨h.p, 0, none⟩), .int .u64 (keep : Int), .int .i64 torn, .int .i64 pos] w (CrashT w h B d) := by
  have HX := Lib.hid x
  clear x
  go_enter Tryz.func20, Tryz.ntmps20
  go_wp2_with fail
  refine (loset_any w h B d HX.out keep hkeep torn pos).mono ?_
  rintro e w1 ⟨rfl, fr', B', ht, q1, hb1, hb2, q2⟩
  have HT := Lib.hid ht
  have HB1 := Lib.hid hb1
  have HB2 := Lib.hid hb2
  have HX1 := Lib.hid q1
  have HK1 := Lib.hid (q2.mono (T := h.l) (by simp [DH.l]))
  clear q1 q2 ht hb1 hb2
  go_wp2_with fail
  refine (settle_any w1 h B' _ HX1.out).mono ?_
  rintro e w2 ⟨rfl, q1, q2⟩
  have HX2 := Lib.hid q1
  have HK2 := Lib.hid (HK1.out.trans q2 (fun _ h _ => h))
  obtain ⟨capk, _, _, _, m3, m4, m5⟩ := q1.cells
  have z3 := q1.free 3
  have z4 := q1.free 4
  have z5 := q1.free 5
  clear q1 q2
  go_wp2_with fail
  go_end0
  exact crasht_of HX.out.ok HT.out HK2.out HX2.out HB1.out HB2.out rfl
end Go.Proofs.YtbanpdeganlndaaGreatDoor
