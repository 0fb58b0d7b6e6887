/- The reference's reader: Summary. -/
import Derived.Test.YtohmadfaaonaaaaCRmAl
import Derived.Test.YtohmadfaaonaaaaCSumM
namespace Go.Proofs.Ytohmadfaaonaaaa
open Go.RowKit

def MoS (R : Option (Sm × List UInt8)) (m g : Nat) (w : World) (e : Ending) (w' : World) : Prop :=
  match R with
  | some (s, r) => ∃ v, e = .returned v ∧ SmAt w.heap.size w' v s ∧ RmAt w' m g r false ∧ Keeps [m] w w'
  | none => e = .returned zeroSm ∧ ∃ l', RmAt w' m g l' true ∧ Keeps [m] w w'
theorem mos_none {R : Option (Sm × List UInt8)} {m g : Nat} {w w' : World} {l' : List UInt8} (hR : R = none) (h1 : RmAt w' m g l' true) (h2 : Keeps [m] w w') : MoS R m g w (.returned zeroSm) w' := by subst hR; exact ⟨rfl, l', h1, h2⟩
theorem MoA.yes {R : Option (List Al × List UInt8)} {m g : Nat} {w : World} {P : Program} {k : Nat} {as_ : Array Value} {a : List Al} {r : List UInt8} (h : Calls P k as_ w (MoA R m g w)) (hd : R = some (a, r)) : Calls P k as_ w (fun e w' => ∃ A c h, e = .returned (.slice A a.length c) ∧ AlsIn w' h A a ∧ w.heap.size ≤ h ∧ RmAt w' m g r false ∧ Keeps [m] w w') := by subst hd; exact h
theorem MoA.no {R : Option (List Al × List UInt8)} {m g : Nat} {w : World} {P : Program} {k : Nat} {as_ : Array Value} (h : Calls P k as_ w (MoA R m g w)) (hd : R = none) : Calls P k as_ w (fun e w' => e = .returned (.slice none 0 0) ∧ ∃ l', RmAt w' m g l' true ∧ Keeps [m] w w') := by subst hd; exact h
theorem MoI.yes {R : Option (Iv × List UInt8)} {m g : Nat} {w : World} {P : Program} {k : Nat} {as_ : Array Value} {a : Iv} {r : List UInt8} (h : Calls P k as_ w (MoI R m g w)) (hd : R = some (a, r)) : Calls P k as_ w (fun e w' => e = .returned (ivVal a) ∧ RmAt w' m g r false ∧ Keeps [m] w w') := by subst hd; exact h
theorem MoI.no {R : Option (Iv × List UInt8)} {m g : Nat} {w : World} {P : Program} {k : Nat} {as_ : Array Value} (h : Calls P k as_ w (MoI R m g w)) (hd : R = none) : Calls P k as_ w (fun e w' => ∃ iv l', e = .returned (ivVal iv) ∧ RmAt w' m g l' true ∧ Keeps [m] w w') := by subst hd; exact h

/-- Within Summary: the two boxes behind w. -/
def SQ (w wr : World) (m g : Nat) (l : List UInt8) (f : Bool) (va vm : Value) (als : List Al) (ms : List Nm) (b : Bool) (iv : Iv) : Prop :=
  RmAt wr m g l f ∧ Keeps [m] w wr ∧ wr.heap[w.heap.size]? = some (.cells #[.slice none 0 0, .bool false, .bool false, .int .i64 0, .int .i64 0, .slice none 0 0] 35 (0, 0)) ∧
  wr.heap[w.heap.size + 1]? = some (.cells #[va, .bool b, .bool iv.some, .int .i64 iv.lo, .int .i64 iv.hi, vm] 35 (0, 0)) ∧
  (∃ h A c, va = .slice A als.length c ∧ AlsIn wr h A als ∧ w.heap.size + 2 ≤ h ∧ (als = [] ∨ vm.ownBlock ≠ some h)) ∧ wr.ownsRow (w.heap.size + 2) 87 4 vm ms.length (nmCells ms) ∧ m < w.heap.size
section
variable {w wr w1 w2 : World} {m g : Nat} {l l' : List UInt8} {f f' : Bool} {va vm v1 : Value} {als : List Al} {ms : List Nm} {b : Bool} {iv : Iv}
theorem SQ.start (h : RmAt w m g l f) : SQ w ((w.alloc (.cells #[.slice none 0 0, .bool false, .bool false, .int .i64 0, .int .i64 0, .slice none 0 0] 35)).alloc (.cells #[.slice none 0 0, .bool false, .bool false, .int .i64 0, .int .i64 0, .slice none 0 0] 35)) m g l f (.slice none 0 0) (.slice none 0 0) [] [] false ⟨false, 0, 0⟩ := by
  have hk : Keeps [] w ((w.alloc (.cells #[.slice none 0 0, .bool false, .bool false, .int .i64 0, .int .i64 0, .slice none 0 0] 35)).alloc (.cells #[.slice none 0 0, .bool false, .bool false, .int .i64 0, .int .i64 0, .slice none 0 0] 35)) := ((Keeps.refl [] w).alloc _).alloc _
  refine ⟨h.keep hk (by simp) (by simp), hk.mono (by simp), block_keep (heap_alloc_new w _) ((Keeps.refl [] _).alloc _) (by simp), ?_, ⟨w.heap.size + 2, none, 0, rfl, .inl rfl, Nat.le_refl _, .inl rfl⟩, World.ownsRow_nil _ _ _ _, h.lt⟩
  have := heap_alloc_new (w.alloc (.cells #[.slice none 0 0, .bool false, .bool false, .int .i64 0, .int .i64 0, .slice none 0 0] 35)) (.cells #[.slice none 0 0, .bool false, .bool false, .int .i64 0, .int .i64 0, .slice none 0 0] 35)
  have hs : (w.alloc (.cells #[.slice none 0 0, .bool false, .bool false, .int .i64 0, .int .i64 0, .slice none 0 0] 35)).heap.size = w.heap.size + 1 := by simp
  rw [hs] at this
  exact this
theorem SQ.read (h : SQ w wr m g l f va vm als ms b iv) (h1 : RmAt w1 m g l' f') (hk : Keeps [m] wr w1) : SQ w w1 m g l' f' va vm als ms b iv := by
  obtain ⟨_, a2, a3, a4, ⟨h, A, c, hv, al, hh⟩, a6, a7⟩ := h
  exact ⟨h1, a2.trans hk (fun _ h _ => h), block_keep a3 hk (by simp; omega), block_keep a4 hk (by simp; omega), ⟨h, A, c, hv, al.keep hk (by have := hh.1; simp; omega), hh⟩, owned_keep a6 hk (fun k hv => by have := (a6.lt k hv).1; simp; omega), a7⟩
theorem SQ.noU8 (h : SQ w wr m g l f va vm als ms b iv) : ∀ (i : Nat) (z : Int), (#[va, .bool b, .bool iv.some, .int .i64 iv.lo, .int .i64 iv.hi, vm] : Array Value)[i]? ≠ some (.int .u8 z) := by
  obtain ⟨_, _, _, _, ⟨_, A, c, hv, _, _, _⟩, a6, _⟩ := h
  obtain ⟨Am, cm, hm⟩ := own_sl a6
  subst hv hm
  exact no_u8
/-- A store into the second box. -/
theorem SQ.store (h : SQ w wr m g l f va vm als ms b iv) (hk : Keeps [w.heap.size + 1] wr w1) {va' vm' : Value} {b' : Bool} {iv' : Iv} {als' : List Al} {ms' : List Nm}
    (hb : w1.heap[w.heap.size + 1]? = some (.cells #[va', .bool b', .bool iv'.some, .int .i64 iv'.lo, .int .i64 iv'.hi, vm'] 35 (0, 0)))
    (h4 : ∃ h A c, va' = .slice A als'.length c ∧ AlsIn wr h A als' ∧ w.heap.size + 2 ≤ h ∧ (als' = [] ∨ vm'.ownBlock ≠ some h)) (h5 : wr.ownsRow (w.heap.size + 2) 87 4 vm' ms'.length (nmCells ms')) : SQ w w1 m g l f va' vm' als' ms' b' iv' := by
  have hno := h.noU8
  obtain ⟨a1, a2, a3, a4, _, _, a7⟩ := h
  obtain ⟨h, A, c, hv, al, hh⟩ := h4
  exact ⟨a1.other a4 hno (by omega) hk, a2.trans hk (fun x hx hl => by simp at hx; omega), block_keep a3 hk (by simp), hb, ⟨h, A, c, hv, al.keep hk (by have := hh.1; simp; omega), hh⟩, owned_keep h5 hk (fun k hv => by have := (h5.lt k hv).1; simp; omega), a7⟩
theorem SQ.cell (h : SQ w wr m g l f va vm als ms b iv) (j : Nat) : wr.cell? ⟨w.heap.size + 1, j, none⟩ = #[va, .bool b, .bool iv.some, .int .i64 iv.lo, .int .i64 iv.hi, vm][j]? := row_cell h.2.2.2.1 j
theorem SQ.free (h : SQ w wr m g l f va vm als ms b iv) (j : Nat) : wr.frozen? ⟨w.heap.size + 1, j, none⟩ = false := row_free h.2.2.2.1 j
theorem SQ.cellz (h : SQ w wr m g l f va vm als ms b iv) (j : Nat) : wr.cell? ⟨w.heap.size, j, none⟩ = #[.slice none 0 0, .bool false, .bool false, .int .i64 0, .int .i64 0, .slice none 0 0][j]? := row_cell h.2.2.1 j
theorem SQ.freez (h : SQ w wr m g l f va vm als ms b iv) (j : Nat) : wr.frozen? ⟨w.heap.size, j, none⟩ = false := row_free h.2.2.1 j
theorem SQ.bad (h : SQ w wr m g l f va vm als ms b iv) : ∃ A cap, wr.heap[m]? = some (.cells #[.slice A l.length cap, .bool f] 55 (0, 0)) ∧ cap ≤ maxLen ∧ l.length ≤ cap := by
  obtain ⟨⟨A, cap, hb, _, hc, hm⟩, _⟩ := h
  exact ⟨A, cap, hb, hm, hc⟩
theorem SQ.fin (h : SQ w wr m g l f va vm als ms b iv) (v0 v1 v2 v3 v4 v5 : Value) : RmAt ((((((wr.setCell ⟨w.heap.size, 0, none⟩ v0).setCell ⟨w.heap.size, 1, none⟩ v1).setCell ⟨w.heap.size, 2, none⟩ v2).setCell ⟨w.heap.size, 3, none⟩ v3).setCell ⟨w.heap.size, 4, none⟩ v4).setCell ⟨w.heap.size, 5, none⟩ v5) m g l f ∧
    Keeps [m] w ((((((wr.setCell ⟨w.heap.size, 0, none⟩ v0).setCell ⟨w.heap.size, 1, none⟩ v1).setCell ⟨w.heap.size, 2, none⟩ v2).setCell ⟨w.heap.size, 3, none⟩ v3).setCell ⟨w.heap.size, 4, none⟩ v4).setCell ⟨w.heap.size, 5, none⟩ v5) := by
  obtain ⟨a1, a2, a3, _, _, _, a7⟩ := h
  have hst := six_keep (x := w.heap.size) wr v0 v1 v2 v3 v4 v5
  exact ⟨a1.other a3 no_u8 (by omega) hst, a2.trans hst (fun x hx hl => by simp at hx; omega)⟩
end

set_option maxHeartbeats 8000000 in
set_option maxRecDepth 100000 in
theorem mSummary_bad (w : World) (m g : Nat) (f : Bool) (l : List UInt8) (hr : RmAt w m g l f) (hl : f = false → l.length ≤ 1000000000) (hA : M.opt f (M.decList M.decAl l) = none) :
    Calls Try.prog 32 #[.pointer (some ⟨m, 0, none⟩)] w (MoS none m g w) := by
  have HS := Lib.hid (SQ.start hr)
  have HA := Lib.hid hA
  clear hr hA
  go_enter Try.func32, Try.ntmps32
  go_wp2_with fail
  refine (MoA.no (mAlarms _ m g f l HS.out.1 hl) HA.out).mono ?_
  rintro e w1 ⟨rfl, l1, h1, h2⟩
  have hq := HS.out.read h1 h2
  have c0 : w1.cell? ⟨w.heap.size + 1, 0, none⟩ = some (.slice none 0 0) := hq.cell 0
  have f0 := hq.free 0
  have HS1 := Lib.hid (hq.store (als' := []) (iv' := ⟨false, 0, 0⟩) ((Keeps.refl _ _).setCell (by simp) (.slice none 0 0)) (row_set hq.2.2.2.1 0 (.slice none 0 0)) ⟨w.heap.size + 2, none, 0, rfl, .inl rfl, Nat.le_refl _, .inl rfl⟩ hq.2.2.2.2.2.1)
  clear h1 h2 hq
  go_wp2_with fail
  refine (Mo.no (mBool _ m g true l1 HS1.out.1) (rfl : M.opt true (M.decBool l1) = none)).mono ?_
  rintro e w2 ⟨rfl, l2, h1, h2⟩
  have hq := HS1.out.read h1 h2
  have c1 : w2.cell? ⟨w.heap.size + 1, 1, none⟩ = some (.bool false) := hq.cell 1
  have f1 := hq.free 1
  have HS2 := Lib.hid (hq.store (iv' := ⟨false, 0, 0⟩) ((Keeps.refl _ _).setCell (by simp) (.bool false)) (row_set hq.2.2.2.1 1 (.bool false)) hq.2.2.2.2.1 hq.2.2.2.2.2.1)
  clear h1 h2 hq
  go_wp2_with fail
  refine (MoI.no (mIval _ m g true l2 HS2.out.1) (rfl : M.opt true (M.decIv l2) = none)).mono ?_
  rintro e w3 ⟨iv, l3, rfl, h1, h2⟩
  unfold ivVal
  have hq := HS2.out.read h1 h2
  have c2 : w3.cell? ⟨w.heap.size + 1, 2, none⟩ = some (.bool false) := hq.cell 2
  have f2 := hq.free 2
  have c3 : w3.cell? ⟨w.heap.size + 1, 3, none⟩ = some (.int .i64 0) := hq.cell 3
  have f3 := hq.free 3
  have c4 : w3.cell? ⟨w.heap.size + 1, 4, none⟩ = some (.int .i64 0) := hq.cell 4
  have f4 := hq.free 4
  have HS3 := Lib.hid (hq.store (iv' := iv) ((((Keeps.refl _ _).setCell (by simp) (.bool iv.some)).setCell (by simp) (.int .i64 iv.lo)).setCell (by simp) (.int .i64 iv.hi)) (row_set (row_set (row_set hq.2.2.2.1 2 (.bool iv.some)) 3 (.int .i64 iv.lo)) 4 (.int .i64 iv.hi)) hq.2.2.2.2.1 hq.2.2.2.2.2.1)
  clear h1 h2 hq
  go_wp2_with fail
  refine (Mo.no (mNum _ m g true l3 HS3.out.1) (rfl : M.opt true (M.dec 0 0 l3) = none)).mono ?_
  rintro e w4 ⟨rfl, l4, h1, h2⟩
  have hz := HS3.out.read h1 h2
  clear h1 h2
  obtain ⟨A, cap, hbx, hmx, hcx⟩ := hz.bad
  have r0 : w4.cell? ⟨m, 0, none⟩ = some (.slice A l4.length cap) := row_cell hbx 0
  have r1 : w4.cell? ⟨m, 1, none⟩ = some (.bool true) := row_cell hbx 1
  have hlen : l4.length ≤ 9223372036854775807 := by unfold maxLen at hmx; omega
  have HZ := Lib.hid hz
  clear hbx hmx hcx hz
  clear c1 c2 c3 c4 f1 f2 f3 f4
  go_wp2_with fail
  go_loopw [5] (fun i wr => i = .int .u64 0 ∧ w4 = wr) (fun _ _ => 1)
  case atStart => exact ⟨rfl, rfl⟩
  case round =>
    obtain ⟨rfl, rfl⟩ := hrel
    have z0 : w4.cell? ⟨w.heap.size, 0, none⟩ = some (.slice none 0 0) := HZ.out.cellz 0
    have z1 : w4.cell? ⟨w.heap.size, 1, none⟩ = some (.bool false) := HZ.out.cellz 1
    have z2 : w4.cell? ⟨w.heap.size, 2, none⟩ = some (.bool false) := HZ.out.cellz 2
    have z3 : w4.cell? ⟨w.heap.size, 3, none⟩ = some (.int .i64 0) := HZ.out.cellz 3
    have z4 : w4.cell? ⟨w.heap.size, 4, none⟩ = some (.int .i64 0) := HZ.out.cellz 4
    have z5 : w4.cell? ⟨w.heap.size, 5, none⟩ = some (.slice none 0 0) := HZ.out.cellz 5
    have y0 := HZ.out.freez 0
    have y1 := HZ.out.freez 1
    have y2 := HZ.out.freez 2
    have y3 := HZ.out.freez 3
    have y4 := HZ.out.freez 4
    have y5 := HZ.out.freez 5
    go_wp2_with fail
    refine bodyPost_ret (v := zeroSm) (by simp [results, Try.results32, go_sem, zeroSm, z0, z1, z2, z3, z4, z5]) rfl ?_
    exact ⟨rfl, l4, (HZ.out.fin _ _ _ _ _ _).1, (HZ.out.fin _ _ _ _ _ _).2⟩
end Go.Proofs.Ytohmadfaaonaaaa
