/- The reader's method Summary: what it answers. -/
import Derived.Test.YtohmadfaaonaaaaCTryS
namespace Go.Proofs.Ytohmadfaaonaaaa
open Go.RowKit

/-- The world behind the box of a result. -/
def W1 (w : World) : World := w.alloc (.cells #[.slice none 0 0, .bool false, .bool false, .int .i64 0, .int .i64 0, .slice none 0 0] 35)
theorem W1.keeps (w : World) : Keeps [] w (W1 w) := (Keeps.refl [] w).alloc _
theorem W1.box (w : World) : (W1 w).heap[w.heap.size]? = some (.cells #[.slice none 0 0, .bool false, .bool false, .int .i64 0, .int .i64 0, .slice none 0 0] 35 (0, 0)) := heap_alloc_new w _
theorem W1.size (w : World) : (W1 w).heap.size = w.heap.size + 1 := by simp [W1]
theorem six_keep {x : Nat} (w1 : World) (v0 v1 v2 v3 v4 v5 : Value) : Keeps [x] w1 ((((((w1.setCell ⟨x, 0, none⟩ v0).setCell ⟨x, 1, none⟩ v1).setCell ⟨x, 2, none⟩ v2).setCell ⟨x, 3, none⟩ v3).setCell ⟨x, 4, none⟩ v4).setCell ⟨x, 5, none⟩ v5) :=
  ((((((Keeps.refl [x] w1).setCell (by simp) _).setCell (by simp) _).setCell (by simp) _).setCell (by simp) _).setCell (by simp) _).setCell (by simp) _

set_option maxHeartbeats 2000000 in
theorem Summary_gave (w : World) (p g : Nat) (l l' : List UInt8) (s : Sm) (hr : RdAt w p g l false) (hd : M.decSm l = some (s, l')) (hl : l.length ≤ 1000000000) :
    Calls Try.prog 31 #[.pointer (some ⟨p, 0, none⟩)] w (GaveS s l' p g w) := by
  have hmf : ∀ (fn : Fn) (first cap : Array Value) (w : World), (Instr.makeFunc fn first cap).run Try.prog w = .ok (.func fn first cap) w := fun _ _ _ _ => rfl
  have hp := hr.lt
  have HK := Lib.hid (W1.keeps w)
  have HB := Lib.hid (W1.box w)
  have HSZ := Lib.hid (W1.size w)
  have HREAD := Lib.hid (attempt_ok_sm (W1 w) p g l l' s (hr.keep HK.out (by simp) (by simp)) hd hl)
  clear hr hd
  unfold W1 at HB HK HREAD HSZ
  go_enter Try.func31, Try.ntmps31
  go_wp2_with fail
  refine HREAD.out.mono ?_
  rintro e w1 ⟨v, rfl, h0, h1, h2⟩
  rw [HSZ.out] at h0
  have hbx := block_keep HB.out h2 (by simp; omega)
  obtain ⟨g1, g2, Aa, ca, Am, cm, rfl, al, nl, b1, b2⟩ := h0
  have c0 : w1.cell? ⟨w.heap.size, 0, none⟩ = some (.slice none 0 0) := row_cell hbx 0
  have c1 : w1.cell? ⟨w.heap.size, 1, none⟩ = some (.bool false) := row_cell hbx 1
  have c2 : w1.cell? ⟨w.heap.size, 2, none⟩ = some (.bool false) := row_cell hbx 2
  have c3 : w1.cell? ⟨w.heap.size, 3, none⟩ = some (.int .i64 0) := row_cell hbx 3
  have c4 : w1.cell? ⟨w.heap.size, 4, none⟩ = some (.int .i64 0) := row_cell hbx 4
  have c5 : w1.cell? ⟨w.heap.size, 5, none⟩ = some (.slice none 0 0) := row_cell hbx 5
  have f0 := row_free hbx 0
  have f1 := row_free hbx 1
  have f2 := row_free hbx 2
  have f3 := row_free hbx 3
  have f4 := row_free hbx 4
  have f5 := row_free hbx 5
  have HX := Lib.hid hbx
  have H1 := Lib.hid h1
  have H2 := Lib.hid ((HK.out.mono (by simp)).trans h2 (fun _ h _ => h))
  have HAL := Lib.hid al
  have HNL := Lib.hid nl
  clear h1 h2 hbx al nl
  go_wp2_with fail
  refine bodyPost_ret (v := .agg #[.slice Aa s.alarms.length ca, .bool s.ends, .bool s.ret.some, .int .i64 s.ret.lo, .int .i64 s.ret.hi, .slice Am s.mod.length cm]) (by simp [results, Try.results31, go_sem, c0, c1, c2, c3, c4, c5]) rfl ?_
  exact ⟨_, rfl, ⟨g1, g2, _, _, _, _, rfl, HAL.out.keep (six_keep _ _ _ _ _ _ _) (by simp; omega), HNL.out.keep (six_keep _ _ _ _ _ _ _) (by simp; omega), by omega, by omega⟩, H1.out.other HX.out no_u8 (by omega) (six_keep _ _ _ _ _ _ _), H2.out.trans (six_keep _ _ _ _ _ _ _) (fun x hx hl => by simp at hx; omega)⟩

/-- What does not answer. -/
theorem Summary_zero (w : World) (p g : Nat) (hp : p < w.heap.size) (hread : ∀ fv, fv = .func (.func 55) #[.pointer (some ⟨p, 0, none⟩)] #[] → Calls Try.prog 54 #[.pointer (some ⟨p, 0, none⟩), fv] (W1 w) (Gone zeroSm p g (W1 w))) :
    Calls Try.prog 31 #[.pointer (some ⟨p, 0, none⟩)] w (Gone zeroSm p g w) := by
  have hmf : ∀ (fn : Fn) (first cap : Array Value) (w : World), (Instr.makeFunc fn first cap).run Try.prog w = .ok (.func fn first cap) w := fun _ _ _ _ => rfl
  have HK := Lib.hid (W1.keeps w)
  have HB := Lib.hid (W1.box w)
  have HREAD := Lib.hid (hread _ rfl)
  clear hread
  unfold W1 at HB HK HREAD
  go_enter Try.func31, Try.ntmps31
  go_wp2_with fail
  refine HREAD.out.mono ?_
  rintro e w1 ⟨rfl, l', h1, h2⟩
  unfold zeroSm
  have hbx := block_keep HB.out h2 (by simp; omega)
  have c0 : w1.cell? ⟨w.heap.size, 0, none⟩ = some (.slice none 0 0) := row_cell hbx 0
  have c1 : w1.cell? ⟨w.heap.size, 1, none⟩ = some (.bool false) := row_cell hbx 1
  have c2 : w1.cell? ⟨w.heap.size, 2, none⟩ = some (.bool false) := row_cell hbx 2
  have c3 : w1.cell? ⟨w.heap.size, 3, none⟩ = some (.int .i64 0) := row_cell hbx 3
  have c4 : w1.cell? ⟨w.heap.size, 4, none⟩ = some (.int .i64 0) := row_cell hbx 4
  have c5 : w1.cell? ⟨w.heap.size, 5, none⟩ = some (.slice none 0 0) := row_cell hbx 5
  have f0 := row_free hbx 0
  have f1 := row_free hbx 1
  have f2 := row_free hbx 2
  have f3 := row_free hbx 3
  have f4 := row_free hbx 4
  have f5 := row_free hbx 5
  have HX := Lib.hid hbx
  have H1 := Lib.hid h1
  have H2 := Lib.hid ((HK.out.mono (by simp)).trans h2 (fun _ h _ => h))
  clear h1 h2 hbx
  go_wp2_with fail
  refine bodyPost_ret (v := .agg #[.slice none 0 0, .bool false, .bool false, .int .i64 0, .int .i64 0, .slice none 0 0]) (by simp [results, Try.results31, go_sem, c0, c1, c2, c3, c4, c5]) rfl ?_
  exact ⟨rfl, l', H1.out.other HX.out no_u8 (by omega) (six_keep _ _ _ _ _ _ _), H2.out.trans (six_keep _ _ _ _ _ _ _) (fun x hx hl => by simp at hx; omega)⟩
theorem Summary_gone (w : World) (p g : Nat) (l : List UInt8) (hr : RdAt w p g l true) : Calls Try.prog 31 #[.pointer (some ⟨p, 0, none⟩)] w (Gone zeroSm p g w) :=
  Summary_zero w p g hr.lt fun fv _ => attempt_gone_sm (W1 w) p g l fv (hr.keep (W1.keeps w) (by simp) (by simp))
theorem Summary_fell (w : World) (p g : Nat) (l : List UInt8) (hr : RdAt w p g l false) (hd : M.decSm l = none) (hl : l.length ≤ 1000000000) : Calls Try.prog 31 #[.pointer (some ⟨p, 0, none⟩)] w (Gone zeroSm p g w) :=
  Summary_zero w p g hr.lt fun fv hf => by subst hf; exact attempt_fell_sm (W1 w) p g l (hr.keep (W1.keeps w) (by simp) (by simp)) hd hl
end Go.Proofs.Ytohmadfaaonaaaa
