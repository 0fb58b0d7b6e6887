/- The reader's ival. -/
import Derived.Test.YtohmadfaaonaaaaCDec
namespace Go.Proofs.Ytohmadfaaonaaaa
open Go.RowKit
theorem row_free {w : World} {b : Nat} {cs : Array Value} {t : TypeId} (h : w.heap[b]? = some (.cells cs t (0, 0))) (i : Nat) : w.frozen? ⟨b, i, none⟩ = false := by simp [World.frozen?, h]
theorem row_cell {w : World} {b : Nat} {cs : Array Value} {t : TypeId} (h : w.heap[b]? = some (.cells cs t (0, 0))) (i : Nat) : w.cell? ⟨b, i, none⟩ = cs[i]? := cell_of_row _ _ _ _ _ _ h
theorem row_set {w : World} {b : Nat} {cs : Array Value} {t : TypeId} (h : w.heap[b]? = some (.cells cs t (0, 0))) (j : Nat) (u : Value) : (w.setCell ⟨b, j, none⟩ u).heap[b]? = some (.cells (cs.setIfInBounds j u) t (0, 0)) := by
  simp [World.setCell, Array.getElem?_modify, h]
theorem RdAt.other {w w' : World} {p g x : Nat} {l : List UInt8} {f : Bool} {cs : Array Value} {t : TypeId} (h : RdAt w p g l f) (hx : w.heap[x]? = some (.cells cs t (0, 0))) (hn : ∀ (i : Nat) (c : Int), cs[i]? ≠ some (.int .u8 c)) (hp : p ≠ x) (hk : Keeps [x] w w') : RdAt w' p g l f := by
  obtain ⟨A, cap, hb, hbi, hc, hm⟩ := h
  refine ⟨A, cap, block_keep hb hk (by simpa using hp), ?_, hc, hm⟩
  by_cases hl : l.length = 0
  · exact .inl (List.eq_nil_of_length_eq_zero hl)
  · refine hbi.keep hk ?_
    intro hm
    obtain rfl : g = x := by simpa using hm
    rcases hbi with h | ⟨off, rfl, hcell⟩
    · subst h; exact absurd rfl hl
    · have h1 := hcell 0 (by omega)
      rw [row_cell hx] at h1
      exact hn _ _ h1
def ivVal (v : Iv) : Value := .agg #[.bool v.some, .int .i64 v.lo, .int .i64 v.hi]
set_option maxHeartbeats 1000000 in
theorem ival_out (w : World) (p g : Nat) (f : Bool) (l : List UInt8) (hr : RdAt w p g l f) : Calls Try.prog 69 #[.pointer (some ⟨p, 0, none⟩)] w (Out (M.decIv l) ivVal p g f w) := by
  have hlt := hr.lt
  have hk0 := (Keeps.refl [] w).alloc (.cells #[.bool false, .int .i64 0, .int .i64 0] 32)
  have HK0 := Lib.hid hk0
  have HR := Lib.hid (hr.keep hk0 (by simp) (by simp))
  have HF := Lib.hid (flag_out _ p g f l HR.out)
  clear hr hk0
  cases h : M.decBool l with
  | none =>
    have e : M.decIv l = none := by unfold M.decIv; rw [h]
    rw [e]
    have H := Lib.hid h
    clear h e
    go_enter Try.func69, Try.ntmps69
    go_wp2_with fail
    refine (Out.fell HF.out H.out).mono ?_
    rintro e w' ⟨rfl, l', h1, h2⟩
    have H1 := Lib.hid h1
    have H2 := Lib.hid h2
    clear h1 h2
    go_wp2_with fail
    exact ⟨rfl, rfl, l', H1.out, (HK0.out.mono (by simp)).trans H2.out (fun _ h _ => h)⟩
  | some x =>
    obtain ⟨b, r⟩ := x
    cases b with
    | false =>
      have e : M.decIv l = some (⟨false, 0, 0⟩, r) := by unfold M.decIv; rw [h]
      rw [e]
      have H := Lib.hid h
      clear h e
      go_enter Try.func69, Try.ntmps69
      go_wp2_with fail
      refine (Out.took HF.out H.out).mono ?_
      rintro e w1 ⟨rfl, h1, h2⟩
      have hb := block_keep (heap_alloc_new w (.cells #[.bool false, .int .i64 0, .int .i64 0] 32)) h2 (by simp; omega)
      have c0 : w1.cell? ⟨w.heap.size, 0, none⟩ = some (.bool false) := row_cell hb 0
      have c1 : w1.cell? ⟨w.heap.size, 1, none⟩ = some (.int .i64 0) := row_cell hb 1
      have c2 : w1.cell? ⟨w.heap.size, 2, none⟩ = some (.int .i64 0) := row_cell hb 2
      have f0 := row_free hb 0
      have f1 := row_free hb 1
      have f2 := row_free hb 2
      have HB := Lib.hid hb
      have H1 := Lib.hid h1
      have H2 := Lib.hid h2
      clear h1 h2 hb
      go_wp2_with fail
      refine bodyPost_ret (v := ivVal ⟨false, 0, 0⟩) (by simp [results, Try.results69, go_sem, ivVal, c0, c1, c2]) rfl ?_
      refine ⟨rfl, H1.out.other HB.out (by intro i c; match i with | 0 => simp | 1 => simp | 2 => simp | i + 3 => simp) (by omega) ((((Keeps.refl [w.heap.size] w1).setCell (by simp) _).setCell (by simp) _).setCell (by simp) _), ?_⟩
      exact ((((HK0.out.mono (by simp)).trans H2.out (fun _ h _ => h)).setCell (by simp) _).setCell (by simp) _).setCell (by simp) _
    | true =>
      have H := Lib.hid h
      clear h
      cases h2 : M.decInt r with
      | none =>
        have e : M.decIv l = none := by unfold M.decIv; rw [H.out]; simp only [h2]
        rw [e]
        have HL := Lib.hid h2
        clear h2 e
        go_enter Try.func69, Try.ntmps69
        go_wp2_with fail
        refine (Out.took HF.out H.out).mono ?_
        rintro e w1 ⟨rfl, h1, h2⟩
        have H1 := Lib.hid h1
        have H2 := Lib.hid h2
        clear h1 h2
        go_wp2_with fail
        refine (Out.fell (int_out w1 p g f r H1.out) HL.out).mono ?_
        rintro e w2 ⟨rfl, l', h1, h2⟩
        have H3 := Lib.hid h1
        have H4 := Lib.hid (H2.out.trans h2 (fun _ h _ => h))
        clear h1 h2
        go_wp2_with fail
        exact ⟨rfl, rfl, l', H3.out, (HK0.out.mono (by simp)).trans H4.out (fun _ h _ => h)⟩
      | some x =>
        obtain ⟨lo, r1⟩ := x
        have HL := Lib.hid h2
        clear h2
        cases h3 : M.decInt r1 with
        | none =>
          have e : M.decIv l = none := by unfold M.decIv; rw [H.out]; simp only [HL.out, h3]
          rw [e]
          have HU := Lib.hid h3
          clear h3 e
          go_enter Try.func69, Try.ntmps69
          go_wp2_with fail
          refine (Out.took HF.out H.out).mono ?_
          rintro e w1 ⟨rfl, h1, h2⟩
          have H1 := Lib.hid h1
          have H2 := Lib.hid h2
          clear h1 h2
          go_wp2_with fail
          refine (Out.took (int_out w1 p g f r H1.out) HL.out).mono ?_
          rintro e w2 ⟨rfl, h1, h2⟩
          have H3 := Lib.hid h1
          have H4 := Lib.hid (H2.out.trans h2 (fun _ h _ => h))
          clear h1 h2
          go_wp2_with fail
          refine (Out.fell (int_out w2 p g f r1 H3.out) HU.out).mono ?_
          rintro e w3 ⟨rfl, l', h1, h2⟩
          have H5 := Lib.hid h1
          have H6 := Lib.hid (H4.out.trans h2 (fun _ h _ => h))
          clear h1 h2
          go_wp2_with fail
          exact ⟨rfl, rfl, l', H5.out, (HK0.out.mono (by simp)).trans H6.out (fun _ h _ => h)⟩
        | some x =>
          obtain ⟨hi, r2⟩ := x
          have e : M.decIv l = some (⟨true, lo, hi⟩, r2) := by unfold M.decIv; rw [H.out]; simp only [HL.out, h3]
          rw [e]
          have HU := Lib.hid h3
          clear h3 e
          go_enter Try.func69, Try.ntmps69
          go_wp2_with fail
          refine (Out.took HF.out H.out).mono ?_
          rintro e w1 ⟨rfl, h1, h2⟩
          have H1 := Lib.hid h1
          have H2 := Lib.hid h2
          clear h1 h2
          go_wp2_with fail
          refine (Out.took (int_out w1 p g f r H1.out) HL.out).mono ?_
          rintro e w2 ⟨rfl, h1, h2⟩
          have H3 := Lib.hid h1
          have H4 := Lib.hid (H2.out.trans h2 (fun _ h _ => h))
          clear h1 h2
          go_wp2_with fail
          refine (Out.took (int_out w2 p g f r1 H3.out) HU.out).mono ?_
          rintro e w3 ⟨rfl, h1, h2⟩
          have hk := H4.out.trans h2 (fun _ h _ => h)
          have hb := block_keep (heap_alloc_new w (.cells #[.bool false, .int .i64 0, .int .i64 0] 32)) hk (by simp; omega)
          have c0 : w3.cell? ⟨w.heap.size, 0, none⟩ = some (.bool false) := row_cell hb 0
          have c1 : w3.cell? ⟨w.heap.size, 1, none⟩ = some (.int .i64 0) := row_cell hb 1
          have c2 : w3.cell? ⟨w.heap.size, 2, none⟩ = some (.int .i64 0) := row_cell hb 2
          have f0 := row_free hb 0
          have f1 := row_free hb 1
          have f2 := row_free hb 2
          have HB := Lib.hid hb
          have H5 := Lib.hid h1
          have H6 := Lib.hid hk
          clear h1 h2 hb hk
          go_wp2_with fail
          refine bodyPost_ret (v := ivVal ⟨true, lo, hi⟩) (by simp [results, Try.results69, go_sem, ivVal, c0, c1, c2]) rfl ?_
          refine ⟨rfl, H5.out.other HB.out (by intro i c; match i with | 0 => simp | 1 => simp | 2 => simp | i + 3 => simp) (by omega) ((((Keeps.refl [w.heap.size] w3).setCell (by simp) _).setCell (by simp) _).setCell (by simp) _), ?_⟩
          exact ((((HK0.out.mono (by simp)).trans H6.out (fun _ h _ => h)).setCell (by simp) _).setCell (by simp) _).setCell (by simp) _
end Go.Proofs.Ytohmadfaaonaaaa
