/- The log in memory: its own words; its small readers. -/
import Derived.Test.YtgjgnieobbhepaaDoorWSafe
import Derived.Test.YtgjgnieobbhepaaDoorDSettle
import Derived.Test.YtgjgnieobbhepaaDoorWSum
import Derived.IntWalk
namespace Go.Proofs.YtgjgnieobbhepaaDoor
open Go.RowKit

/-- A log's own fields. -/
structure Lg where
  area : Nat
  used : Nat
  count : Nat
  settled : Bool
/-- A log lies in block lp; its disk in dp. -/
def LogAt (w : World) (lp dp : Nat) (g : Lg) : Prop :=
  w.heap[lp]? = some (.cells #[.pointer (some ⟨dp, 0, none⟩), .int .i64 (g.area : Int), .int .i64 (g.used : Int), .int .i64 (g.count : Int), .bool g.settled] 68 (0, 0))
theorem LogAt.keep {S : List Nat} {w w' : World} {lp dp : Nat} {g : Lg} (h : LogAt w lp dp g) (hk : Keeps S w w') (hn : lp ∉ S) : LogAt w' lp dp g := block_keep h hk hn
theorem LogAt.lt {w : World} {lp dp : Nat} {g : Lg} (h : LogAt w lp dp g) : lp < w.heap.size := block_lt h
theorem LogAt.cells {w : World} {lp dp : Nat} {g : Lg} (h : LogAt w lp dp g) : w.cell? ⟨lp, 0, none⟩ = some (.pointer (some ⟨dp, 0, none⟩)) ∧ w.cell? ⟨lp, 1, none⟩ = some (.int .i64 (g.area : Int)) ∧
    w.cell? ⟨lp, 2, none⟩ = some (.int .i64 (g.used : Int)) ∧ w.cell? ⟨lp, 3, none⟩ = some (.int .i64 (g.count : Int)) ∧ w.cell? ⟨lp, 4, none⟩ = some (.bool g.settled) :=
  ⟨row_cell h 0, row_cell h 1, row_cell h 2, row_cell h 3, row_cell h 4⟩
theorem LogAt.free {w : World} {lp dp : Nat} {g : Lg} (h : LogAt w lp dp g) (j : Nat) : w.frozen? ⟨lp, j, none⟩ = false := row_free h j
/-- The log's block is none of the disk's. -/
theorem LogAt.ne {w : World} {lp : Nat} {h : DH} {B : Nat → Prop} {d : Dk} {g : Lg} (y : LogAt w lp h.p g) (x : DskAt w h B d) : lp ≠ h.p ∧ lp ≠ h.gd ∧ lp ≠ h.gm ∧ lp ∉ h.l := by
  obtain ⟨cap, hb⟩ := x.box
  obtain ⟨vs, hr, _⟩ := x.rows
  obtain ⟨k, D, ⟨es, c, hm, _⟩, _⟩ := x.fresh
  have h1 : lp ≠ h.p := fun e => by rw [e] at y; rw [y] at hb; simp at hb
  have h2 : lp ≠ h.gd := fun e => by rw [e] at y; rw [y] at hr; simp at hr
  have h3 : lp ≠ h.gm := fun e => by rw [e] at y; rw [y] at hm; simp at hm
  exact ⟨h1, h2, h3, by simp [DH.l, h1, h2, h3]⟩
theorem ret_int {k : IntKind} {a b : Int} (h : a = b) : Ending.returned (.int k a) = .returned (.int k b) := by rw [h]
/-- A contract that only reads, whatever it draws. -/
def Only (w : World) (v : Value) (e : Ending) (w' : World) : Prop := e = .returned v ∧ ∃ n, w' = w.drewN n
theorem Only.keeps {w w' : World} {v : Value} {e : Ending} (h : Only w v e w') : e = .returned v ∧ Keeps [] w w' := by
  obtain ⟨h1, n, rfl⟩ := h
  exact ⟨h1, (Keeps.refl [] w).drewN n⟩
theorem Only.zero {w : World} {v : Value} : Only w v (.returned v) w := ⟨rfl, 0, rfl⟩
theorem Only.n {w : World} {v v' : Value} (n : Nat) (h : v' = v) : Only w v (.returned v') (w.drewN n) := ⟨by rw [h], n, rfl⟩
section
variable (w : World) (h : DH) (B : Nat → Prop) (d : Dk) (lp : Nat) (g : Lg)
theorem drewN_dsk {w : World} {h : DH} {B : Nat → Prop} {d : Dk} (x : DskAt w h B d) (n : Nat) : DskAt (w.drewN n) h B d := x.keep0 ((Keeps.refl [] w).drewN n)
theorem drewN_log {w : World} {lp dp : Nat} {g : Lg} (y : LogAt w lp dp g) (n : Nat) : LogAt (w.drewN n) lp dp g := y.keep ((Keeps.refl [] w).drewN n) (by simp)
theorem sp_le {d : Dk} (h : d.Ok) : L.sp d.dur.length ≤ 2048 := by have := h.secs; unfold L.sp; omega
set_option maxHeartbeats 400000 in
theorem span_any (x : DskAt w h B d) (y : LogAt w lp h.p g) : Calls Tryd.prog 50 #[.pointer (some ⟨lp, 0, none⟩)] w fun e w' => e = .returned (.int .i64 (L.sp d.dur.length : Int)) ∧ w = w' := by
  obtain ⟨c0, _⟩ := y.cells
  have hn := x.ok.secs
  have HX := Lib.hid x
  have HR := Lib.hid (show ((d.dur.length : Int) - 1) / 2 = (L.sp d.dur.length : Int) by unfold L.sp; omega)
  clear x y
  go_enter Tryd.func50, Tryd.ntmps50
  go_wp2_with fail
  refine (sectors_any w h B d HX.out).mono ?_
  rintro e w' ⟨rfl, rfl⟩
  go_wp2_with fail
  go_ret
  exact ⟨ret_int HR.out, rfl⟩
set_option maxHeartbeats 400000 in
theorem start_any (x : DskAt w h B d) (y : LogAt w lp h.p g) (a : Nat) (ha : a ≤ 1) : Calls Tryd.prog 38 #[.pointer (some ⟨lp, 0, none⟩), .int .i64 (a : Int)] w fun e w' => e = .returned (.int .i64 (L.st d.dur.length a : Int)) ∧ w = w' := by
  have hn := sp_le x.ok
  have HX := Lib.hid x
  have HY := Lib.hid y
  clear x y
  have HR := Lib.hid (show (1 : Int) + (a : Int) * (L.sp d.dur.length : Int) = (L.st d.dur.length a : Int) by unfold L.st; push_cast; rfl)
  have h1 : (0 : Int) ≤ (a : Int) * (L.sp d.dur.length : Int) := Int.mul_nonneg (by omega) (by omega)
  have h2 : (a : Int) * (L.sp d.dur.length : Int) ≤ 2048 := by
    obtain rfl | rfl : a = 0 ∨ a = 1 := by omega
    · simp
    · simp; omega
  go_enter Tryd.func38, Tryd.ntmps38
  go_wp2_with fail
  refine (span_any w h B d lp g HX.out HY.out).mono ?_
  rintro e w' ⟨rfl, rfl⟩
  go_wp2_with fail
  go_ret
  exact ⟨ret_int HR.out, rfl⟩
set_option maxHeartbeats 400000 in
theorem capacity_any (x : DskAt w h B d) (y : LogAt w lp h.p g) (hN : 16 ≤ d.dur.length) : Calls Tryd.prog 34 #[.pointer (some ⟨lp, 0, none⟩)] w fun e w' => e = .returned (.int .i64 (L.cap d.dur.length : Int)) ∧ w = w' := by
  have hn := sp_le x.ok
  have hc := L.cap_room hN
  have HX := Lib.hid x
  have HY := Lib.hid y
  have HR := Lib.hid (show ((L.sp d.dur.length : Int) - 1) = (L.cap d.dur.length : Int) by omega)
  clear x y hc
  go_enter Tryd.func34, Tryd.ntmps34
  go_wp2_with fail
  refine (span_any w h B d lp g HX.out HY.out).mono ?_
  rintro e w' ⟨rfl, rfl⟩
  go_wp2_with fail
  go_ret
  exact ⟨ret_int HR.out, rfl⟩
set_option maxHeartbeats 400000 in
theorem end_any (x : DskAt w h B d) (y : LogAt w lp h.p g) (ha : g.area ≤ 1) (hu : g.used ≤ 4096) : Calls Tryd.prog 41 #[.pointer (some ⟨lp, 0, none⟩)] w (Only w (.int .i64 ((L.st d.dur.length g.area + g.used : Nat) : Int))) := by
  obtain ⟨c0, c1, c2, _⟩ := y.cells
  have hn := sp_le x.ok
  have h2 : L.st d.dur.length g.area ≤ 2049 := by
    unfold L.st
    obtain e | e : g.area = 0 ∨ g.area = 1 := by omega
    · rw [e]; omega
    · rw [e]; omega
  have HX := Lib.hid x
  have HY := Lib.hid y
  have HR := Lib.hid (show ((L.st d.dur.length g.area : Int) + (g.used : Int)) = ((L.st d.dur.length g.area + g.used : Nat) : Int) by omega)
  obtain ⟨a, hae⟩ : ∃ a, a = g.area := ⟨_, rfl⟩
  obtain ⟨u, hue⟩ : ∃ u, u = g.used := ⟨_, rfl⟩
  rw [← hae] at c1 ha h2 HR ⊢
  rw [← hue] at c2 hu HR ⊢
  have e1 : IntKind.i64.wrap ((L.st d.dur.length a : Int) + (u : Int)) = (L.st d.dur.length a : Int) + (u : Int) := IntWalk.i64_in _ ⟨by omega, by omega⟩
  clear x y hae hue
  go_enter Tryd.func41, Tryd.ntmps41
  go_wp2_with fail
  go_quiet ((go_at_call 38; exact Calls.quiet_of_same ((start_any _ h B d lp g (drewN_dsk HX.out _) (drewN_log HY.out _) a ha).mono fun _ _ hq => ⟨hq.1, hq.2.symm⟩)))
  go_wp2_with fail
  go_ret
  exact Only.n _ (by first | rfl | (rw [← HR.out]; rfl))
set_option maxHeartbeats 400000 in
theorem free_any (x : DskAt w h B d) (y : LogAt w lp h.p g) (hN : 16 ≤ d.dur.length) (hu : g.used ≤ L.cap d.dur.length) : Calls Tryd.prog 32 #[.pointer (some ⟨lp, 0, none⟩)] w (Only w (.int .i64 ((L.cap d.dur.length - g.used : Nat) : Int))) := by
  obtain ⟨c0, c1, c2, _⟩ := y.cells
  have hn := sp_le x.ok
  have hc := L.cap_room hN
  have HX := Lib.hid x
  have HY := Lib.hid y
  have HN := Lib.hid hN
  have HR := Lib.hid (show ((L.cap d.dur.length : Int) - (g.used : Int)) = ((L.cap d.dur.length - g.used : Nat) : Int) by omega)
  obtain ⟨u, hue⟩ : ∃ u, u = g.used := ⟨_, rfl⟩
  rw [← hue] at c2 hu HR ⊢
  have e1 : IntKind.i64.wrap ((L.cap d.dur.length : Int) - (u : Int)) = (L.cap d.dur.length : Int) - (u : Int) := IntWalk.i64_in _ ⟨by omega, by omega⟩
  clear x y hue hN hc
  go_enter Tryd.func32, Tryd.ntmps32
  go_wp2_with fail
  go_quiet ((go_at_call 34; exact Calls.quiet_of_same ((capacity_any _ h B d lp g (drewN_dsk HX.out _) (drewN_log HY.out _) HN.out).mono fun _ _ hq => ⟨hq.1, hq.2.symm⟩)))
  go_wp2_with fail
  go_ret
  exact Only.n _ (by first | rfl | (rw [← HR.out]; rfl))
set_option maxHeartbeats 400000 in
theorem room_any (x : DskAt w h B d) (y : LogAt w lp h.p g) (hN : 16 ≤ d.dur.length) (hu : g.used ≤ L.cap d.dur.length) : Calls Tryd.prog 14 #[.pointer (some ⟨lp, 0, none⟩)] w (Only w (.int .i64 (((L.cap d.dur.length - g.used) * d.size : Nat) : Int))) := by
  obtain ⟨c0, c1, c2, _⟩ := y.cells
  have hn := sp_le x.ok
  have hc := L.cap_room hN
  have hz := x.ok.size
  have HX := Lib.hid x
  have HY := Lib.hid y
  have HN := Lib.hid hN
  have HU := Lib.hid hu
  have hb : (L.cap d.dur.length - g.used) * d.size ≤ 2048 * 4096 := Nat.mul_le_mul (by omega) hz.2
  obtain ⟨f, hfe⟩ : ∃ f, f = L.cap d.dur.length - g.used := ⟨_, rfl⟩
  rw [← hfe] at hb ⊢
  have HF : Hid (∀ n, Calls Tryd.prog 32 #[.pointer (some ⟨lp, 0, none⟩)] (w.drewN n) (Only (w.drewN n) (.int .i64 (f : Int)))) := Lib.hid (fun n => by rw [hfe]; exact free_any _ h B d lp g (drewN_dsk x n) (drewN_log y n) hN hu)
  have HR := Lib.hid (show ((f : Int) * (d.size : Int)) = ((f * d.size : Nat) : Int) by push_cast; rfl)
  have e1 : IntKind.i64.wrap ((f : Int) * (d.size : Int)) = ((f * d.size : Nat) : Int) := by rw [HR.out]; exact IntWalk.i64_in _ ⟨by omega, by omega⟩
  clear x y hN hc hu hfe
  go_enter Tryd.func14, Tryd.ntmps14
  go_wp2_with fail
  go_quiet ((first | (go_at_call 32; exact Calls.quiet_of (HF.out _)) | (go_at_call 30; exact Calls.quiet_of_same ((size_any _ h B d (drewN_dsk HX.out _)).mono fun _ _ hq => ⟨hq.1, hq.2.symm⟩))))
  go_wp2_with fail
  go_ret
  exact Only.n _ rfl
set_option maxHeartbeats 400000 in
theorem count_any (y : LogAt w lp h.p g) : Calls Tryd.prog 20 #[.pointer (some ⟨lp, 0, none⟩)] w fun e w' => e = .returned (.int .i64 (g.count : Int)) ∧ w = w' := by
  obtain ⟨c0, c1, c2, c3, _⟩ := y.cells
  clear y
  go_enter Tryd.func20, Tryd.ntmps20
  go_wp2_with fail
  go_ret
  exact ⟨rfl, rfl⟩
end
end Go.Proofs.YtgjgnieobbhepaaDoor
