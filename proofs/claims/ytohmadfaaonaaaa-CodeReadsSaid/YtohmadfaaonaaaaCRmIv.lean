/- The reference's reader: Ival. -/
import Derived.Test.YtohmadfaaonaaaaCRmText
namespace Go.Proofs.Ytohmadfaaonaaaa
open Go.RowKit

def MoI (R : Option (Iv × List UInt8)) (m g : Nat) (w : World) (e : Ending) (w' : World) : Prop :=
  match R with
  | some (iv, r) => e = .returned (ivVal iv) ∧ RmAt w' m g r false ∧ Keeps [m] w w'
  | none => ∃ iv l', e = .returned (ivVal iv) ∧ RmAt w' m g l' true ∧ Keeps [m] w w'
theorem no_u8_3 {b : Bool} {lo hi : Int} : ∀ (i : Nat) (z : Int), (#[.bool b, .int .i64 lo, .int .i64 hi] : Array Value)[i]? ≠ some (.int .u8 z) := by
  intro i z
  match i with
  | 0 => simp
  | 1 => simp
  | 2 => simp
  | i + 3 => simp
/-- Within Ival: two boxes behind w. -/
def IB (w wr : World) (m g : Nat) (l : List UInt8) (f : Bool) (b : Bool) (lo hi : Int) : Prop :=
  RmAt wr m g l f ∧ Keeps [m] w wr ∧ wr.heap[w.heap.size]? = some (.cells #[.bool false, .int .i64 0, .int .i64 0] 32 (0, 0)) ∧ wr.heap[w.heap.size + 1]? = some (.cells #[.bool b, .int .i64 lo, .int .i64 hi] 32 (0, 0)) ∧ m < w.heap.size
section
variable {w wr w1 : World} {m g : Nat} {l l' : List UInt8} {f f' b b' : Bool} {lo hi lo' hi' : Int}
theorem IB.start (h : RmAt w m g l f) : IB w ((w.alloc (.cells #[.bool false, .int .i64 0, .int .i64 0] 32)).alloc (.cells #[.bool false, .int .i64 0, .int .i64 0] 32)) m g l f false 0 0 := by
  have hk : Keeps [] w ((w.alloc (.cells #[.bool false, .int .i64 0, .int .i64 0] 32)).alloc (.cells #[.bool false, .int .i64 0, .int .i64 0] 32)) := ((Keeps.refl [] w).alloc _).alloc _
  refine ⟨h.keep hk (by simp) (by simp), hk.mono (by simp), block_keep (heap_alloc_new w _) ((Keeps.refl [] _).alloc _) (by simp), ?_, h.lt⟩
  have := heap_alloc_new (w.alloc (.cells #[.bool false, .int .i64 0, .int .i64 0] 32)) (.cells #[.bool false, .int .i64 0, .int .i64 0] 32)
  have hs : (w.alloc (.cells #[.bool false, .int .i64 0, .int .i64 0] 32)).heap.size = w.heap.size + 1 := by simp
  rw [hs] at this
  exact this
theorem IB.read (h : IB w wr m g l f b lo hi) (h1 : RmAt w1 m g l' f') (hk : Keeps [m] wr w1) : IB w w1 m g l' f' b lo hi := by
  obtain ⟨_, a2, a3, a4, a5⟩ := h
  exact ⟨h1, a2.trans hk (fun _ h _ => h), block_keep a3 hk (by simp; omega), block_keep a4 hk (by simp; omega), a5⟩
theorem IB.store (h : IB w wr m g l f b lo hi) (j : Nat) (u : Value) (hc : (#[.bool b, .int .i64 lo, .int .i64 hi] : Array Value).setIfInBounds j u = #[.bool b', .int .i64 lo', .int .i64 hi']) : IB w (wr.setCell ⟨w.heap.size + 1, j, none⟩ u) m g l f b' lo' hi' := by
  obtain ⟨a1, a2, a3, a4, a5⟩ := h
  have hst : Keeps [w.heap.size + 1] wr (wr.setCell ⟨w.heap.size + 1, j, none⟩ u) := (Keeps.refl _ _).setCell (by simp) _
  exact ⟨a1.other a4 no_u8_3 (by omega) hst, a2.setCell (fun h => by simp at h; omega) _, block_keep a3 hst (by simp), by rw [← hc]; exact row_set a4 j u, a5⟩
theorem IB.cell (h : IB w wr m g l f b lo hi) (j : Nat) : wr.cell? ⟨w.heap.size + 1, j, none⟩ = #[.bool b, .int .i64 lo, .int .i64 hi][j]? := row_cell h.2.2.2.1 j
theorem IB.free (h : IB w wr m g l f b lo hi) (j : Nat) : wr.frozen? ⟨w.heap.size + 1, j, none⟩ = false := row_free h.2.2.2.1 j
theorem IB.cellz (h : IB w wr m g l f b lo hi) (j : Nat) : wr.cell? ⟨w.heap.size, j, none⟩ = #[.bool false, .int .i64 0, .int .i64 0][j]? := row_cell h.2.2.1 j
theorem IB.freez (h : IB w wr m g l f b lo hi) (j : Nat) : wr.frozen? ⟨w.heap.size, j, none⟩ = false := row_free h.2.2.1 j
theorem IB.done (h : IB w wr m g l f b lo hi) (v0 v1 v2 : Value) : RmAt (((wr.setCell ⟨w.heap.size, 0, none⟩ v0).setCell ⟨w.heap.size, 1, none⟩ v1).setCell ⟨w.heap.size, 2, none⟩ v2) m g l f ∧ Keeps [m] w (((wr.setCell ⟨w.heap.size, 0, none⟩ v0).setCell ⟨w.heap.size, 1, none⟩ v1).setCell ⟨w.heap.size, 2, none⟩ v2) := by
  obtain ⟨a1, a2, a3, a4, a5⟩ := h
  have hst : Keeps [w.heap.size] wr (((wr.setCell ⟨w.heap.size, 0, none⟩ v0).setCell ⟨w.heap.size, 1, none⟩ v1).setCell ⟨w.heap.size, 2, none⟩ v2) := (((Keeps.refl _ _).setCell (by simp) _).setCell (by simp) _).setCell (by simp) _
  exact ⟨a1.other a3 no_u8_3 (by omega) hst, a2.trans hst (fun x hx hl => by simp at hx; omega)⟩
end

set_option maxHeartbeats 4000000 in
set_option maxRecDepth 100000 in
theorem mIval (w : World) (m g : Nat) (f : Bool) (l : List UInt8) (hr : RmAt w m g l f) :
    Calls Try.prog 57 #[.pointer (some ⟨m, 0, none⟩)] w (MoI (M.opt f (M.decIv l)) m g w) := by
  have HS := Lib.hid (IB.start hr)
  have HBO := Lib.hid (mBool _ m g f l HS.out.1)
  clear hr
  cases hb : M.opt f (M.decBool l) with
  | none =>
    have HD := Lib.hid hb
    have e : M.opt f (M.decIv l) = none := by
      cases f with
      | true => rfl
      | false => show M.decIv l = none; unfold M.decIv; rw [show M.decBool l = none from hb]
    rw [e]
    clear hb e
    go_enter Try.func57, Try.ntmps57
    go_wp2_with fail
    refine (Mo.no HBO.out HD.out).mono ?_
    rintro e w1 ⟨rfl, l1, h1, h2⟩
    have hib := HS.out.read h1 h2
    clear h1 h2
    have c0 : w1.cell? ⟨w.heap.size + 1, 0, none⟩ = some (.bool false) := hib.cell 0
    have c1 : w1.cell? ⟨w.heap.size + 1, 1, none⟩ = some (.int .i64 0) := hib.cell 1
    have c2 : w1.cell? ⟨w.heap.size + 1, 2, none⟩ = some (.int .i64 0) := hib.cell 2
    have f0 := hib.free 0
    have f1 := hib.free 1
    have f2 := hib.free 2
    have x0 : w1.cell? ⟨w.heap.size, 0, none⟩ = some (.bool false) := hib.cellz 0
    have x1 : w1.cell? ⟨w.heap.size, 1, none⟩ = some (.int .i64 0) := hib.cellz 1
    have x2 : w1.cell? ⟨w.heap.size, 2, none⟩ = some (.int .i64 0) := hib.cellz 2
    have g0 := hib.freez 0
    have g1 := hib.freez 1
    have g2 := hib.freez 2
    have HI := Lib.hid hib
    clear hib
    go_wp2_with fail
    refine bodyPost_ret (v := ivVal ⟨false, 0, 0⟩) (by simp [results, Try.results57, go_sem, ivVal, x0, x1, x2]) rfl ?_
    exact ⟨_, l1, rfl, (HI.out.done _ _ _).1, (HI.out.done _ _ _).2⟩
  | some x =>
    obtain ⟨b, r⟩ := x
    have hf : f = false := by cases f with | true => cases hb | false => rfl
    subst hf
    have hb' : M.decBool l = some (b, r) := hb
    have HD := Lib.hid hb
    clear hb
    cases b with
    | false =>
      have e : M.opt false (M.decIv l) = some (⟨false, 0, 0⟩, r) := by show M.decIv l = _; unfold M.decIv; rw [hb']
      rw [e]
      clear hb' e
      go_enter Try.func57, Try.ntmps57
      go_wp2_with fail
      refine (Mo.yes HBO.out HD.out).mono ?_
      rintro e w1 ⟨rfl, h1, h2⟩
      have hib := HS.out.read h1 h2
      clear h1 h2
      have c0 : w1.cell? ⟨w.heap.size + 1, 0, none⟩ = some (.bool false) := hib.cell 0
      have c1 : w1.cell? ⟨w.heap.size + 1, 1, none⟩ = some (.int .i64 0) := hib.cell 1
      have c2 : w1.cell? ⟨w.heap.size + 1, 2, none⟩ = some (.int .i64 0) := hib.cell 2
      have f0 := hib.free 0
      have f1 := hib.free 1
      have f2 := hib.free 2
      have x0 : w1.cell? ⟨w.heap.size, 0, none⟩ = some (.bool false) := hib.cellz 0
      have x1 : w1.cell? ⟨w.heap.size, 1, none⟩ = some (.int .i64 0) := hib.cellz 1
      have x2 : w1.cell? ⟨w.heap.size, 2, none⟩ = some (.int .i64 0) := hib.cellz 2
      have g0 := hib.freez 0
      have g1 := hib.freez 1
      have g2 := hib.freez 2
      have HI := Lib.hid hib
      clear hib
      go_wp2_with fail
      refine bodyPost_ret (v := ivVal ⟨false, 0, 0⟩) (by simp [results, Try.results57, go_sem, ivVal, x0, x1, x2]) rfl ?_
      exact ⟨rfl, (HI.out.done _ _ _).1, (HI.out.done _ _ _).2⟩
    | true =>
      cases hlo : M.decInt r with
      | none =>
        have e : M.opt false (M.decIv l) = none := by show M.decIv l = _; unfold M.decIv; rw [hb']; simp only [hlo]
        rw [e]
        have HL : Hid (M.opt false (M.decInt r) = none) := Lib.hid hlo
        clear hb' e hlo
        go_enter Try.func57, Try.ntmps57
        go_wp2_with fail
        refine (Mo.yes HBO.out HD.out).mono ?_
        rintro e w1 ⟨rfl, h1, h2⟩
        have hib := HS.out.read h1 h2
        clear h1 h2
        have c0 : w1.cell? ⟨w.heap.size + 1, 0, none⟩ = some (.bool false) := hib.cell 0
        have c1 : w1.cell? ⟨w.heap.size + 1, 1, none⟩ = some (.int .i64 0) := hib.cell 1
        have c2 : w1.cell? ⟨w.heap.size + 1, 2, none⟩ = some (.int .i64 0) := hib.cell 2
        have f0 := hib.free 0
        have f1 := hib.free 1
        have f2 := hib.free 2
        have HI := Lib.hid (hib.store 0 (.bool true) (b' := true) (lo' := 0) (hi' := 0) rfl)
        clear hib
        go_wp2_with fail
        refine (Mo.no (mInt _ m g false r HI.out.1) HL.out).mono ?_
        rintro e w2 ⟨rfl, l2, h1, h2⟩
        have hib := HI.out.read h1 h2
        clear h1 h2
        clear c0 c1 c2 f0 f1 f2
        have c0 : w2.cell? ⟨w.heap.size + 1, 0, none⟩ = some (.bool true) := hib.cell 0
        have c1 : w2.cell? ⟨w.heap.size + 1, 1, none⟩ = some (.int .i64 0) := hib.cell 1
        have c2 : w2.cell? ⟨w.heap.size + 1, 2, none⟩ = some (.int .i64 0) := hib.cell 2
        have f0 := hib.free 0
        have f1 := hib.free 1
        have f2 := hib.free 2
        have HJ := Lib.hid (hib.store 1 (.int .i64 0) (b' := true) (lo' := 0) (hi' := 0) rfl)
        clear hib
        go_wp2_with fail
        refine (Mo.no (mInt _ m g true l2 HJ.out.1) (rfl : M.opt true (M.decInt l2) = none)).mono ?_
        rintro e w3 ⟨rfl, l3, h1, h2⟩
        have hib := HJ.out.read h1 h2
        clear h1 h2
        clear c0 c1 c2 f0 f1 f2
        have c0 : w3.cell? ⟨w.heap.size + 1, 0, none⟩ = some (.bool true) := hib.cell 0
        have c1 : w3.cell? ⟨w.heap.size + 1, 1, none⟩ = some (.int .i64 0) := hib.cell 1
        have c2 : w3.cell? ⟨w.heap.size + 1, 2, none⟩ = some (.int .i64 0) := hib.cell 2
        have f0 := hib.free 0
        have f1 := hib.free 1
        have f2 := hib.free 2
        have x0 : w3.cell? ⟨w.heap.size, 0, none⟩ = some (.bool false) := hib.cellz 0
        have x1 : w3.cell? ⟨w.heap.size, 1, none⟩ = some (.int .i64 0) := hib.cellz 1
        have x2 : w3.cell? ⟨w.heap.size, 2, none⟩ = some (.int .i64 0) := hib.cellz 2
        have g0 := hib.freez 0
        have g1 := hib.freez 1
        have g2 := hib.freez 2
        have HK := Lib.hid (hib.store 2 (.int .i64 0) (b' := true) (lo' := 0) (hi' := 0) rfl)
        clear hib
        go_wp2_with fail
        refine bodyPost_ret (v := ivVal ⟨true, 0, 0⟩) (by simp [results, Try.results57, go_sem, ivVal, x0, x1, x2]) rfl ?_
        exact ⟨_, l3, rfl, (HK.out.done _ _ _).1, (HK.out.done _ _ _).2⟩
      | some x =>
        obtain ⟨lo, r1⟩ := x
        cases hhi : M.decInt r1 with
        | none =>
          have e : M.opt false (M.decIv l) = none := by show M.decIv l = _; unfold M.decIv; rw [hb']; simp only [hlo, hhi]
          rw [e]
          have HL : Hid (M.opt false (M.decInt r) = some (lo, r1)) := Lib.hid hlo
          have HH : Hid (M.opt false (M.decInt r1) = none) := Lib.hid hhi
          clear hb' e hlo hhi
          go_enter Try.func57, Try.ntmps57
          go_wp2_with fail
          refine (Mo.yes HBO.out HD.out).mono ?_
          rintro e w1 ⟨rfl, h1, h2⟩
          have hib := HS.out.read h1 h2
          clear h1 h2
          have c0 : w1.cell? ⟨w.heap.size + 1, 0, none⟩ = some (.bool false) := hib.cell 0
          have c1 : w1.cell? ⟨w.heap.size + 1, 1, none⟩ = some (.int .i64 0) := hib.cell 1
          have c2 : w1.cell? ⟨w.heap.size + 1, 2, none⟩ = some (.int .i64 0) := hib.cell 2
          have f0 := hib.free 0
          have f1 := hib.free 1
          have f2 := hib.free 2
          have HI := Lib.hid (hib.store 0 (.bool true) (b' := true) (lo' := 0) (hi' := 0) rfl)
          clear hib
          go_wp2_with fail
          refine (Mo.yes (mInt _ m g false r HI.out.1) HL.out).mono ?_
          rintro e w2 ⟨rfl, h1, h2⟩
          have hib := HI.out.read h1 h2
          clear h1 h2
          clear c0 c1 c2 f0 f1 f2
          have c0 : w2.cell? ⟨w.heap.size + 1, 0, none⟩ = some (.bool true) := hib.cell 0
          have c1 : w2.cell? ⟨w.heap.size + 1, 1, none⟩ = some (.int .i64 0) := hib.cell 1
          have c2 : w2.cell? ⟨w.heap.size + 1, 2, none⟩ = some (.int .i64 0) := hib.cell 2
          have f0 := hib.free 0
          have f1 := hib.free 1
          have f2 := hib.free 2
          have HJ := Lib.hid (hib.store 1 (.int .i64 lo) (b' := true) (lo' := lo) (hi' := 0) rfl)
          clear hib
          go_wp2_with fail
          refine (Mo.no (mInt _ m g false r1 HJ.out.1) HH.out).mono ?_
          rintro e w3 ⟨rfl, l3, h1, h2⟩
          have hib := HJ.out.read h1 h2
          clear h1 h2
          clear c0 c1 c2 f0 f1 f2
          have c0 : w3.cell? ⟨w.heap.size + 1, 0, none⟩ = some (.bool true) := hib.cell 0
          have c1 : w3.cell? ⟨w.heap.size + 1, 1, none⟩ = some (.int .i64 lo) := hib.cell 1
          have c2 : w3.cell? ⟨w.heap.size + 1, 2, none⟩ = some (.int .i64 0) := hib.cell 2
          have f0 := hib.free 0
          have f1 := hib.free 1
          have f2 := hib.free 2
          have x0 : w3.cell? ⟨w.heap.size, 0, none⟩ = some (.bool false) := hib.cellz 0
          have x1 : w3.cell? ⟨w.heap.size, 1, none⟩ = some (.int .i64 0) := hib.cellz 1
          have x2 : w3.cell? ⟨w.heap.size, 2, none⟩ = some (.int .i64 0) := hib.cellz 2
          have g0 := hib.freez 0
          have g1 := hib.freez 1
          have g2 := hib.freez 2
          have HK := Lib.hid (hib.store 2 (.int .i64 0) (b' := true) (lo' := lo) (hi' := 0) rfl)
          clear hib
          go_wp2_with fail
          refine bodyPost_ret (v := ivVal ⟨true, lo, 0⟩) (by simp [results, Try.results57, go_sem, ivVal, x0, x1, x2]) rfl ?_
          exact ⟨_, l3, rfl, (HK.out.done _ _ _).1, (HK.out.done _ _ _).2⟩
        | some x =>
          obtain ⟨hi, r2⟩ := x
          have e : M.opt false (M.decIv l) = some (⟨true, lo, hi⟩, r2) := by show M.decIv l = _; unfold M.decIv; rw [hb']; simp only [hlo, hhi]
          rw [e]
          have HL : Hid (M.opt false (M.decInt r) = some (lo, r1)) := Lib.hid hlo
          have HH : Hid (M.opt false (M.decInt r1) = some (hi, r2)) := Lib.hid hhi
          clear hb' e hlo hhi
          go_enter Try.func57, Try.ntmps57
          go_wp2_with fail
          refine (Mo.yes HBO.out HD.out).mono ?_
          rintro e w1 ⟨rfl, h1, h2⟩
          have hib := HS.out.read h1 h2
          clear h1 h2
          have c0 : w1.cell? ⟨w.heap.size + 1, 0, none⟩ = some (.bool false) := hib.cell 0
          have c1 : w1.cell? ⟨w.heap.size + 1, 1, none⟩ = some (.int .i64 0) := hib.cell 1
          have c2 : w1.cell? ⟨w.heap.size + 1, 2, none⟩ = some (.int .i64 0) := hib.cell 2
          have f0 := hib.free 0
          have f1 := hib.free 1
          have f2 := hib.free 2
          have HI := Lib.hid (hib.store 0 (.bool true) (b' := true) (lo' := 0) (hi' := 0) rfl)
          clear hib
          go_wp2_with fail
          refine (Mo.yes (mInt _ m g false r HI.out.1) HL.out).mono ?_
          rintro e w2 ⟨rfl, h1, h2⟩
          have hib := HI.out.read h1 h2
          clear h1 h2
          clear c0 c1 c2 f0 f1 f2
          have c0 : w2.cell? ⟨w.heap.size + 1, 0, none⟩ = some (.bool true) := hib.cell 0
          have c1 : w2.cell? ⟨w.heap.size + 1, 1, none⟩ = some (.int .i64 0) := hib.cell 1
          have c2 : w2.cell? ⟨w.heap.size + 1, 2, none⟩ = some (.int .i64 0) := hib.cell 2
          have f0 := hib.free 0
          have f1 := hib.free 1
          have f2 := hib.free 2
          have HJ := Lib.hid (hib.store 1 (.int .i64 lo) (b' := true) (lo' := lo) (hi' := 0) rfl)
          clear hib
          go_wp2_with fail
          refine (Mo.yes (mInt _ m g false r1 HJ.out.1) HH.out).mono ?_
          rintro e w3 ⟨rfl, h1, h2⟩
          have hib := HJ.out.read h1 h2
          clear h1 h2
          clear c0 c1 c2 f0 f1 f2
          have c0 : w3.cell? ⟨w.heap.size + 1, 0, none⟩ = some (.bool true) := hib.cell 0
          have c1 : w3.cell? ⟨w.heap.size + 1, 1, none⟩ = some (.int .i64 lo) := hib.cell 1
          have c2 : w3.cell? ⟨w.heap.size + 1, 2, none⟩ = some (.int .i64 0) := hib.cell 2
          have f0 := hib.free 0
          have f1 := hib.free 1
          have f2 := hib.free 2
          have x0 : w3.cell? ⟨w.heap.size, 0, none⟩ = some (.bool false) := hib.cellz 0
          have x1 : w3.cell? ⟨w.heap.size, 1, none⟩ = some (.int .i64 0) := hib.cellz 1
          have x2 : w3.cell? ⟨w.heap.size, 2, none⟩ = some (.int .i64 0) := hib.cellz 2
          have g0 := hib.freez 0
          have g1 := hib.freez 1
          have g2 := hib.freez 2
          have HK := Lib.hid (hib.store 2 (.int .i64 hi) (b' := true) (lo' := lo) (hi' := hi) rfl)
          clear hib
          go_wp2_with fail
          refine bodyPost_ret (v := ivVal ⟨true, lo, hi⟩) (by simp [results, Try.results57, go_sem, ivVal, x0, x1, x2]) rfl ?_
          exact ⟨rfl, (HK.out.done _ _ _).1, (HK.out.done _ _ _).2⟩
end Go.Proofs.Ytohmadfaaonaaaa
