/- comparison; and, cond; the contracts of conditions. -/
import Derived.Test.YtbikifibfaaggaaGreatDoorPNot
namespace Go.Proofs.YtbikifibfaaggaaGreatDoor
open Go.RowKit Go.Shelf
open Lx (Tok Tx)
open Px (Ex Cn)

theorem set_other {w : World} {x y : Nat} (h : y ≠ x) (j : Nat) (u : Value) : (w.setCell ⟨x, j, none⟩ u).heap[y]? = w.heap[y]? := Below.heap_setCell _ _ _ _ (by simpa using h)
theorem ExAt.setCond {w : World} {b x j : Nat} {cs : Array Value} {u : Value} (hx : w.heap[x]? = some (.cells cs 105 (0, 0))) : ∀ {e : Ex} {v : Value}, ExAt w b e v → ExAt (w.setCell ⟨x, j, none⟩ u) b e v := by
  have hne : ∀ {y : Nat} {ds : Array Value}, w.heap[y]? = some (.cells ds 74 (0, 0)) → (w.setCell ⟨x, j, none⟩ u).heap[y]? = some (.cells ds 74 (0, 0)) := fun {y ds} h => by
    rw [set_other _ j u]; exact h
    rintro rfl
    rw [h] at hx
    simp at hx
  intro e
  induction e with
  | num m =>
    intro v h
    obtain ⟨y, h1, h2, h3⟩ := h
    exact ⟨y, h1, h2, hne h3⟩
  | var s =>
    intro v h
    obtain ⟨y, h1, h2, h3⟩ := h
    exact ⟨y, h1, h2, hne h3⟩
  | neg a ih =>
    intro v h
    obtain ⟨y, va, h1, h2, h3, h4⟩ := h
    exact ⟨y, va, h1, h2, hne h3, ih h4⟩
  | bin k a c iha ihc =>
    intro v h
    obtain ⟨y, va, vc, h1, h2, h3, h4, h5⟩ := h
    exact ⟨y, va, vc, h1, h2, hne h3, iha h4, ihc h5⟩
theorem PAt.setOther {w : World} {b n o k x j : Nat} {ts : List Tok} {u : Value} (h : PAt w b n ts o k) (hx : b < x) : PAt (w.setCell ⟨x, j, none⟩ u) b n ts o k := by
  obtain ⟨hwf, A, cap, g, h1, h2, h3, h4, h5⟩ := h
  refine ⟨hwf, A, cap, g, by rw [set_other (by omega)]; exact h1, ?_, h3, h4, h5⟩
  rcases h2 with h2 | ⟨off, hA, hc⟩
  · exact .inl h2
  · exact .inr ⟨off, hA, fun k hk => by
      obtain ⟨q1, q2, q3⟩ := hc k hk
      have e : ∀ i, (w.setCell ⟨x, j, none⟩ u).cell? ⟨g, i, none⟩ = w.cell? ⟨g, i, none⟩ := fun i => World.cell?_setCell_other _ _ _ _ (ne_blk (by omega))
      exact ⟨(e _).trans q1, (e _).trans q2, (e _).trans q3⟩⟩
set_option maxHeartbeats 4000000 in
set_option maxRecDepth 100000 in
theorem cmp_any (w : World) (b n o k : Nat) (ts : List Tok) (h : PAt w b n ts o k) (ho2 : o ≤ 1000) (f : Nat) (hf : 4 * ts.length + 3 ≤ f) :
    Calls Tryz.prog 238 #[pp b] w (RP CnAt (fun _ => k) w b n o (Px.cmp f o ts)) := by
  have HU := Lib.hid (sum_any w b n o k ts f h ho2 hf)
  have HLEN := Lib.hid ((Px.ex_len f).2.2.2.2 o ts)
  have HF := Lib.hid hf
  have hc : Px.cmp f o ts = (Px.sum f o ts).bind (fun a r => match Px.cmpOp r with | some k => (Px.sum f o r.tail).bind (fun c r2 => .ok (.cmp k a c) r2) | none => .err 51 r) := by
    unfold Px.cmp Px.R.bind
    cases Px.sum f o ts with
    | err z r => rfl
    | ok a r =>
      simp only
      cases Px.cmpOp r with
      | none => rfl
      | some k => simp only; cases Px.sum f o r.tail <;> rfl
  rw [hc]
  obtain ⟨rr, hrr⟩ : ∃ rr, rr = Px.sum f o ts := ⟨_, rfl⟩
  rw [← hrr] at HU HLEN ⊢
  clear h hrr hc hf
  cases rr with
  | err z r =>
    show Calls _ _ _ _ (RP CnAt _ w b n o (.err z r))
    go_enter Tryz.func238, Tryz.ntmps238
    go_wp2_with fail
    refine (HU.out).mono ?_
    rintro e w1 ⟨rfl, h4, h5⟩
    have H4 := Lib.hid h4
    have H5 := Lib.hid h5
    clear h4 h5
    go_wp2
    exact ⟨rfl, rfl, H4.out, H5.out⟩
  | ok a r =>
    have HLX := Lib.hid (HLEN.out a r rfl)
    clear HLEN
    show Calls _ _ _ _ (RP CnAt _ w b n o (match Px.cmpOp r with | some k => (Px.sum f o r.tail).bind (fun c r2 => .ok (.cmp k a c) r2) | none => .err 51 r))
    by_cases hs0 : Px.sees r [33, 61] = true
    · have hop : Px.cmpOp r = some 1 := by unfold Px.cmpOp; simp only [hs0]; simp
      rw [hop]
      show Calls _ _ _ _ (RP CnAt _ w b n o ((Px.sum f o r.tail).bind (fun c r2 => .ok (.cmp 1 a c) r2)))
      have HSY := Lib.hid (fun w' (h' : PAt w' b n r o k) => passes_yes w' b n o k r h' [33, 61] (by simp) hs0)
      have HU2 := Lib.hid (fun w' (h' : PAt w' b n r.tail o k) => sum_any w' b n o k r.tail f h' ho2 (by have := HF.out; have := HLX.out; have := Px.sees_len (by simp) hs0; simp; omega))
      obtain ⟨rr, hrr⟩ : ∃ rr, rr = Px.sum f o r.tail := ⟨_, rfl⟩
      rw [← hrr] at HU2 ⊢
      clear hrr hop hs0 
      go_enter Tryz.func238, Tryz.ntmps238
      go_wp2_with fail
      refine (HU.out).mono ?_
      rintro e w2 ⟨va, rfl, h3, h4, h5⟩
      have H3 := Lib.hid h3
      have H4 := Lib.hid h4
      have H5 := Lib.hid h5
      obtain ⟨xa, rfl⟩ := h3.ptr
      clear h3 h4 h5 HU
      go_wp2_with fail
      have HQ := Lib.hid (H4.out.keep ((Keeps.refl [] w2).alloc (.cells #[.int .i64 0, .pointer (some ⟨xa, 0, none⟩), .pointer none, .pointer none, .pointer none, .string .empty] 105)))
      have HX := Lib.hid (H3.out.alloc (.cells #[.int .i64 0, .pointer (some ⟨xa, 0, none⟩), .pointer none, .pointer none, .pointer none, .string .empty] 105))
      have HB := Lib.hid (show (w2.alloc (.cells #[.int .i64 0, .pointer (some ⟨xa, 0, none⟩), .pointer none, .pointer none, .pointer none, .string .empty] 105)).heap[w2.heap.size]? = some (.cells #[.int .i64 0, .pointer (some ⟨xa, 0, none⟩), .pointer none, .pointer none, .pointer none, .string .empty] 105 (0, 0)) from heap_alloc_new _ _)
      have HK1 := Lib.hid (H5.out.alloc (.cells #[.int .i64 0, .pointer (some ⟨xa, 0, none⟩), .pointer none, .pointer none, .pointer none, .string .empty] 105))
      have HLTB := Lib.hid H4.out.lt
      refine (HSY.out _ HQ.out).mono ?_
      rintro e w3 ⟨rfl, h6, h7⟩
      have H6 := Lib.hid h6
      have HK2 := Lib.hid (HK1.out.trans h7 (fun _ h _ => h))
      have HX2 := Lib.hid (HX.out.keep h7 (by simp))
      have hb3 := block_keep HB.out h7 (by have := HLTB.out; simp; omega)
      have HB3 := Lib.hid hb3
      have c0 := row_cell hb3 0
      have f0 := row_free hb3 0
      simp only [List.getElem?_toArray, List.getElem?_cons_zero] at c0
      clear h6 h7 hb3
      obtain ⟨x, hx⟩ : ∃ x, x = w2.heap.size := ⟨_, rfl⟩
      have HXX := Lib.hid hx
      rw [← hx] at c0 f0 HB3
      simp only [← hx]
      clear hx
      go_wp2_with fail
      have hbx : b < x := by rw [HXX.out]; exact HLTB.out
      have HBX := Lib.hid hbx
      have HROW := Lib.hid (show (w3.setCell ⟨x, 0, none⟩ (.int .i64 1)).heap[x]? = some (.cells #[.int .i64 1, .pointer (some ⟨xa, 0, none⟩), .pointer none, .pointer none, .pointer none, .string .empty] 105 (0, 0)) by rw [row_set HB3.out]; rfl)
      have HX3 := Lib.hid (show ExAt (w3.setCell ⟨x, 0, none⟩ (.int .i64 1)) b a (.pointer (some ⟨xa, 0, none⟩)) from HX2.out.setCond HB3.out)
      have HK3 := Lib.hid (show Keeps [b] w (w3.setCell ⟨x, 0, none⟩ (.int .i64 1)) from HK2.out.setCell (fun h => by have h5 := H5.out.size; have hxx := HXX.out; simp at h; omega) _)
      have HPA := Lib.hid (show PAt (w3.setCell ⟨x, 0, none⟩ (.int .i64 1)) b n r.tail o k from H6.out.setOther HBX.out)
      clear hbx c0 f0
      obtain ⟨ww, hww⟩ : ∃ ww, ww = w3.setCell ⟨x, 0, none⟩ (.int .i64 1) := ⟨_, rfl⟩
      rw [← hww] at HROW HX3 HK3 HPA
      try simp only [← hww]
      clear hww
      refine (HU2.out _ HPA.out).mono ?_
      intro e w5 hr
      cases rr with
      | err z r2 =>
        obtain ⟨rfl, h4, h5⟩ := hr
        have H8 := Lib.hid h4
        have HK4 := Lib.hid (HK3.out.trans h5 (fun _ h _ => h))
        clear h4 h5
        go_wp2
        exact ⟨rfl, rfl, H8.out, HK4.out⟩
      | ok c r2 =>
        obtain ⟨vc, rfl, h3, h4, h5⟩ := hr
        have H3C := Lib.hid h3
        have H8 := Lib.hid h4
        have HK4 := Lib.hid (HK3.out.trans h5 (fun _ h _ => h))
        have HX4 := Lib.hid (HX3.out.keep h5 (by simp))
        have hb5 := block_keep HROW.out h5 (by have := HBX.out; simp; omega)
        have HB5 := Lib.hid hb5
        have c2 := row_cell hb5 2
        have f2 := row_free hb5 2
        simp only [List.getElem?_toArray, List.getElem?_cons_zero, List.getElem?_cons_succ] at c2
        obtain ⟨xc, rfl⟩ := h3.ptr
        clear h3 h4 h5 hb5
        go_wp2_with fail
        go_ret
        exact ⟨_, rfl, ⟨x, _, _, rfl, HBX.out, by rw [row_set HB5.out]; rfl, HX4.out.setCond HB5.out, H3C.out.setCond HB5.out⟩, H8.out.setOther HBX.out, HK4.out.setCell (fun h => by have h5 := H5.out.size; have hxx := HXX.out; simp at h; omega) _⟩
    · have hn0 : Px.sees r [33, 61] = false := by simpa using hs0
      clear hs0
      by_cases hs1 : Px.sees r [60] = true
      · have hop : Px.cmpOp r = some 2 := by unfold Px.cmpOp; simp only [hs1, hn0]; simp
        rw [hop]
        show Calls _ _ _ _ (RP CnAt _ w b n o ((Px.sum f o r.tail).bind (fun c r2 => .ok (.cmp 2 a c) r2)))
        have HSY := Lib.hid (fun w' (h' : PAt w' b n r o k) => passes_yes w' b n o k r h' [60] (by simp) hs1)
        have HN0 := Lib.hid (fun w' (h' : PAt w' b n r o k) => passes_no w' b n o k r h' [33, 61] hn0)
        have HU2 := Lib.hid (fun w' (h' : PAt w' b n r.tail o k) => sum_any w' b n o k r.tail f h' ho2 (by have := HF.out; have := HLX.out; have := Px.sees_len (by simp) hs1; simp; omega))
        obtain ⟨rr, hrr⟩ : ∃ rr, rr = Px.sum f o r.tail := ⟨_, rfl⟩
        rw [← hrr] at HU2 ⊢
        clear hrr hop hs1 hn0
        go_enter Tryz.func238, Tryz.ntmps238
        go_wp2_with fail
        refine (HU.out).mono ?_
        rintro e w2 ⟨va, rfl, h3, h4, h5⟩
        have H3 := Lib.hid h3
        have H4 := Lib.hid h4
        have H5 := Lib.hid h5
        obtain ⟨xa, rfl⟩ := h3.ptr
        clear h3 h4 h5 HU
        go_wp2_with fail
        have HQ := Lib.hid (H4.out.keep ((Keeps.refl [] w2).alloc (.cells #[.int .i64 0, .pointer (some ⟨xa, 0, none⟩), .pointer none, .pointer none, .pointer none, .string .empty] 105)))
        have HX := Lib.hid (H3.out.alloc (.cells #[.int .i64 0, .pointer (some ⟨xa, 0, none⟩), .pointer none, .pointer none, .pointer none, .string .empty] 105))
        have HB := Lib.hid (show (w2.alloc (.cells #[.int .i64 0, .pointer (some ⟨xa, 0, none⟩), .pointer none, .pointer none, .pointer none, .string .empty] 105)).heap[w2.heap.size]? = some (.cells #[.int .i64 0, .pointer (some ⟨xa, 0, none⟩), .pointer none, .pointer none, .pointer none, .string .empty] 105 (0, 0)) from heap_alloc_new _ _)
        have HK1 := Lib.hid (H5.out.alloc (.cells #[.int .i64 0, .pointer (some ⟨xa, 0, none⟩), .pointer none, .pointer none, .pointer none, .string .empty] 105))
        have HLTB := Lib.hid H4.out.lt
        refine (HN0.out _ HQ.out).mono ?_
        rintro e w' ⟨rfl, rfl⟩
        go_wp2_with fail
        refine (HSY.out _ HQ.out).mono ?_
        rintro e w3 ⟨rfl, h6, h7⟩
        have H6 := Lib.hid h6
        have HK2 := Lib.hid (HK1.out.trans h7 (fun _ h _ => h))
        have HX2 := Lib.hid (HX.out.keep h7 (by simp))
        have hb3 := block_keep HB.out h7 (by have := HLTB.out; simp; omega)
        have HB3 := Lib.hid hb3
        have c0 := row_cell hb3 0
        have f0 := row_free hb3 0
        simp only [List.getElem?_toArray, List.getElem?_cons_zero] at c0
        clear h6 h7 hb3
        obtain ⟨x, hx⟩ : ∃ x, x = w2.heap.size := ⟨_, rfl⟩
        have HXX := Lib.hid hx
        rw [← hx] at c0 f0 HB3
        simp only [← hx]
        clear hx
        go_wp2_with fail
        have hbx : b < x := by rw [HXX.out]; exact HLTB.out
        have HBX := Lib.hid hbx
        have HROW := Lib.hid (show (w3.setCell ⟨x, 0, none⟩ (.int .i64 2)).heap[x]? = some (.cells #[.int .i64 2, .pointer (some ⟨xa, 0, none⟩), .pointer none, .pointer none, .pointer none, .string .empty] 105 (0, 0)) by rw [row_set HB3.out]; rfl)
        have HX3 := Lib.hid (show ExAt (w3.setCell ⟨x, 0, none⟩ (.int .i64 2)) b a (.pointer (some ⟨xa, 0, none⟩)) from HX2.out.setCond HB3.out)
        have HK3 := Lib.hid (show Keeps [b] w (w3.setCell ⟨x, 0, none⟩ (.int .i64 2)) from HK2.out.setCell (fun h => by have h5 := H5.out.size; have hxx := HXX.out; simp at h; omega) _)
        have HPA := Lib.hid (show PAt (w3.setCell ⟨x, 0, none⟩ (.int .i64 2)) b n r.tail o k from H6.out.setOther HBX.out)
        clear hbx c0 f0
        obtain ⟨ww, hww⟩ : ∃ ww, ww = w3.setCell ⟨x, 0, none⟩ (.int .i64 2) := ⟨_, rfl⟩
        rw [← hww] at HROW HX3 HK3 HPA
        try simp only [← hww]
        clear hww
        refine (HU2.out _ HPA.out).mono ?_
        intro e w5 hr
        cases rr with
        | err z r2 =>
          obtain ⟨rfl, h4, h5⟩ := hr
          have H8 := Lib.hid h4
          have HK4 := Lib.hid (HK3.out.trans h5 (fun _ h _ => h))
          clear h4 h5
          go_wp2
          exact ⟨rfl, rfl, H8.out, HK4.out⟩
        | ok c r2 =>
          obtain ⟨vc, rfl, h3, h4, h5⟩ := hr
          have H3C := Lib.hid h3
          have H8 := Lib.hid h4
          have HK4 := Lib.hid (HK3.out.trans h5 (fun _ h _ => h))
          have HX4 := Lib.hid (HX3.out.keep h5 (by simp))
          have hb5 := block_keep HROW.out h5 (by have := HBX.out; simp; omega)
          have HB5 := Lib.hid hb5
          have c2 := row_cell hb5 2
          have f2 := row_free hb5 2
          simp only [List.getElem?_toArray, List.getElem?_cons_zero, List.getElem?_cons_succ] at c2
          obtain ⟨xc, rfl⟩ := h3.ptr
          clear h3 h4 h5 hb5
          go_wp2_with fail
          go_ret
          exact ⟨_, rfl, ⟨x, _, _, rfl, HBX.out, by rw [row_set HB5.out]; rfl, HX4.out.setCond HB5.out, H3C.out.setCond HB5.out⟩, H8.out.setOther HBX.out, HK4.out.setCell (fun h => by have h5 := H5.out.size; have hxx := HXX.out; simp at h; omega) _⟩
      · have hn1 : Px.sees r [60] = false := by simpa using hs1
        clear hs1
        by_cases hs2 : Px.sees r [60, 61] = true
        · have hop : Px.cmpOp r = some 3 := by unfold Px.cmpOp; simp only [hs2, hn0, hn1]; simp
          rw [hop]
          show Calls _ _ _ _ (RP CnAt _ w b n o ((Px.sum f o r.tail).bind (fun c r2 => .ok (.cmp 3 a c) r2)))
          have HSY := Lib.hid (fun w' (h' : PAt w' b n r o k) => passes_yes w' b n o k r h' [60, 61] (by simp) hs2)
          have HN0 := Lib.hid (fun w' (h' : PAt w' b n r o k) => passes_no w' b n o k r h' [33, 61] hn0)
          have HN1 := Lib.hid (fun w' (h' : PAt w' b n r o k) => passes_no w' b n o k r h' [60] hn1)
          have HU2 := Lib.hid (fun w' (h' : PAt w' b n r.tail o k) => sum_any w' b n o k r.tail f h' ho2 (by have := HF.out; have := HLX.out; have := Px.sees_len (by simp) hs2; simp; omega))
          obtain ⟨rr, hrr⟩ : ∃ rr, rr = Px.sum f o r.tail := ⟨_, rfl⟩
          rw [← hrr] at HU2 ⊢
          clear hrr hop hs2 hn0 hn1
          go_enter Tryz.func238, Tryz.ntmps238
          go_wp2_with fail
          refine (HU.out).mono ?_
          rintro e w2 ⟨va, rfl, h3, h4, h5⟩
          have H3 := Lib.hid h3
          have H4 := Lib.hid h4
          have H5 := Lib.hid h5
          obtain ⟨xa, rfl⟩ := h3.ptr
          clear h3 h4 h5 HU
          go_wp2_with fail
          have HQ := Lib.hid (H4.out.keep ((Keeps.refl [] w2).alloc (.cells #[.int .i64 0, .pointer (some ⟨xa, 0, none⟩), .pointer none, .pointer none, .pointer none, .string .empty] 105)))
          have HX := Lib.hid (H3.out.alloc (.cells #[.int .i64 0, .pointer (some ⟨xa, 0, none⟩), .pointer none, .pointer none, .pointer none, .string .empty] 105))
          have HB := Lib.hid (show (w2.alloc (.cells #[.int .i64 0, .pointer (some ⟨xa, 0, none⟩), .pointer none, .pointer none, .pointer none, .string .empty] 105)).heap[w2.heap.size]? = some (.cells #[.int .i64 0, .pointer (some ⟨xa, 0, none⟩), .pointer none, .pointer none, .pointer none, .string .empty] 105 (0, 0)) from heap_alloc_new _ _)
          have HK1 := Lib.hid (H5.out.alloc (.cells #[.int .i64 0, .pointer (some ⟨xa, 0, none⟩), .pointer none, .pointer none, .pointer none, .string .empty] 105))
          have HLTB := Lib.hid H4.out.lt
          refine (HN0.out _ HQ.out).mono ?_
          rintro e w' ⟨rfl, rfl⟩
          go_wp2_with fail
          refine (HN1.out _ HQ.out).mono ?_
          rintro e w' ⟨rfl, rfl⟩
          go_wp2_with fail
          refine (HSY.out _ HQ.out).mono ?_
          rintro e w3 ⟨rfl, h6, h7⟩
          have H6 := Lib.hid h6
          have HK2 := Lib.hid (HK1.out.trans h7 (fun _ h _ => h))
          have HX2 := Lib.hid (HX.out.keep h7 (by simp))
          have hb3 := block_keep HB.out h7 (by have := HLTB.out; simp; omega)
          have HB3 := Lib.hid hb3
          have c0 := row_cell hb3 0
          have f0 := row_free hb3 0
          simp only [List.getElem?_toArray, List.getElem?_cons_zero] at c0
          clear h6 h7 hb3
          obtain ⟨x, hx⟩ : ∃ x, x = w2.heap.size := ⟨_, rfl⟩
          have HXX := Lib.hid hx
          rw [← hx] at c0 f0 HB3
          simp only [← hx]
          clear hx
          go_wp2_with fail
          have hbx : b < x := by rw [HXX.out]; exact HLTB.out
          have HBX := Lib.hid hbx
          have HROW := Lib.hid (show (w3.setCell ⟨x, 0, none⟩ (.int .i64 3)).heap[x]? = some (.cells #[.int .i64 3, .pointer (some ⟨xa, 0, none⟩), .pointer none, .pointer none, .pointer none, .string .empty] 105 (0, 0)) by rw [row_set HB3.out]; rfl)
          have HX3 := Lib.hid (show ExAt (w3.setCell ⟨x, 0, none⟩ (.int .i64 3)) b a (.pointer (some ⟨xa, 0, none⟩)) from HX2.out.setCond HB3.out)
          have HK3 := Lib.hid (show Keeps [b] w (w3.setCell ⟨x, 0, none⟩ (.int .i64 3)) from HK2.out.setCell (fun h => by have h5 := H5.out.size; have hxx := HXX.out; simp at h; omega) _)
          have HPA := Lib.hid (show PAt (w3.setCell ⟨x, 0, none⟩ (.int .i64 3)) b n r.tail o k from H6.out.setOther HBX.out)
          clear hbx c0 f0
          obtain ⟨ww, hww⟩ : ∃ ww, ww = w3.setCell ⟨x, 0, none⟩ (.int .i64 3) := ⟨_, rfl⟩
          rw [← hww] at HROW HX3 HK3 HPA
          try simp only [← hww]
          clear hww
          refine (HU2.out _ HPA.out).mono ?_
          intro e w5 hr
          cases rr with
          | err z r2 =>
            obtain ⟨rfl, h4, h5⟩ := hr
            have H8 := Lib.hid h4
            have HK4 := Lib.hid (HK3.out.trans h5 (fun _ h _ => h))
            clear h4 h5
            go_wp2
            exact ⟨rfl, rfl, H8.out, HK4.out⟩
          | ok c r2 =>
            obtain ⟨vc, rfl, h3, h4, h5⟩ := hr
            have H3C := Lib.hid h3
            have H8 := Lib.hid h4
            have HK4 := Lib.hid (HK3.out.trans h5 (fun _ h _ => h))
            have HX4 := Lib.hid (HX3.out.keep h5 (by simp))
            have hb5 := block_keep HROW.out h5 (by have := HBX.out; simp; omega)
            have HB5 := Lib.hid hb5
            have c2 := row_cell hb5 2
            have f2 := row_free hb5 2
            simp only [List.getElem?_toArray, List.getElem?_cons_zero, List.getElem?_cons_succ] at c2
            obtain ⟨xc, rfl⟩ := h3.ptr
            clear h3 h4 h5 hb5
            go_wp2_with fail
            go_ret
            exact ⟨_, rfl, ⟨x, _, _, rfl, HBX.out, by rw [row_set HB5.out]; rfl, HX4.out.setCond HB5.out, H3C.out.setCond HB5.out⟩, H8.out.setOther HBX.out, HK4.out.setCell (fun h => by have h5 := H5.out.size; have hxx := HXX.out; simp at h; omega) _⟩
        · have hn2 : Px.sees r [60, 61] = false := by simpa using hs2
          clear hs2
          by_cases hs3 : Px.sees r [62] = true
          · have hop : Px.cmpOp r = some 4 := by unfold Px.cmpOp; simp only [hs3, hn0, hn1, hn2]; simp
            rw [hop]
            show Calls _ _ _ _ (RP CnAt _ w b n o ((Px.sum f o r.tail).bind (fun c r2 => .ok (.cmp 4 a c) r2)))
            have HSY := Lib.hid (fun w' (h' : PAt w' b n r o k) => passes_yes w' b n o k r h' [62] (by simp) hs3)
            have HN0 := Lib.hid (fun w' (h' : PAt w' b n r o k) => passes_no w' b n o k r h' [33, 61] hn0)
            have HN1 := Lib.hid (fun w' (h' : PAt w' b n r o k) => passes_no w' b n o k r h' [60] hn1)
            have HN2 := Lib.hid (fun w' (h' : PAt w' b n r o k) => passes_no w' b n o k r h' [60, 61] hn2)
            have HU2 := Lib.hid (fun w' (h' : PAt w' b n r.tail o k) => sum_any w' b n o k r.tail f h' ho2 (by have := HF.out; have := HLX.out; have := Px.sees_len (by simp) hs3; simp; omega))
            obtain ⟨rr, hrr⟩ : ∃ rr, rr = Px.sum f o r.tail := ⟨_, rfl⟩
            rw [← hrr] at HU2 ⊢
            clear hrr hop hs3 hn0 hn1 hn2
            go_enter Tryz.func238, Tryz.ntmps238
            go_wp2_with fail
            refine (HU.out).mono ?_
            rintro e w2 ⟨va, rfl, h3, h4, h5⟩
            have H3 := Lib.hid h3
            have H4 := Lib.hid h4
            have H5 := Lib.hid h5
            obtain ⟨xa, rfl⟩ := h3.ptr
            clear h3 h4 h5 HU
            go_wp2_with fail
            have HQ := Lib.hid (H4.out.keep ((Keeps.refl [] w2).alloc (.cells #[.int .i64 0, .pointer (some ⟨xa, 0, none⟩), .pointer none, .pointer none, .pointer none, .string .empty] 105)))
            have HX := Lib.hid (H3.out.alloc (.cells #[.int .i64 0, .pointer (some ⟨xa, 0, none⟩), .pointer none, .pointer none, .pointer none, .string .empty] 105))
            have HB := Lib.hid (show (w2.alloc (.cells #[.int .i64 0, .pointer (some ⟨xa, 0, none⟩), .pointer none, .pointer none, .pointer none, .string .empty] 105)).heap[w2.heap.size]? = some (.cells #[.int .i64 0, .pointer (some ⟨xa, 0, none⟩), .pointer none, .pointer none, .pointer none, .string .empty] 105 (0, 0)) from heap_alloc_new _ _)
            have HK1 := Lib.hid (H5.out.alloc (.cells #[.int .i64 0, .pointer (some ⟨xa, 0, none⟩), .pointer none, .pointer none, .pointer none, .string .empty] 105))
            have HLTB := Lib.hid H4.out.lt
            refine (HN0.out _ HQ.out).mono ?_
            rintro e w' ⟨rfl, rfl⟩
            go_wp2_with fail
            refine (HN1.out _ HQ.out).mono ?_
            rintro e w' ⟨rfl, rfl⟩
            go_wp2_with fail
            refine (HN2.out _ HQ.out).mono ?_
            rintro e w' ⟨rfl, rfl⟩
            go_wp2_with fail
            refine (HSY.out _ HQ.out).mono ?_
            rintro e w3 ⟨rfl, h6, h7⟩
            have H6 := Lib.hid h6
            have HK2 := Lib.hid (HK1.out.trans h7 (fun _ h _ => h))
            have HX2 := Lib.hid (HX.out.keep h7 (by simp))
            have hb3 := block_keep HB.out h7 (by have := HLTB.out; simp; omega)
            have HB3 := Lib.hid hb3
            have c0 := row_cell hb3 0
            have f0 := row_free hb3 0
            simp only [List.getElem?_toArray, List.getElem?_cons_zero] at c0
            clear h6 h7 hb3
            obtain ⟨x, hx⟩ : ∃ x, x = w2.heap.size := ⟨_, rfl⟩
            have HXX := Lib.hid hx
            rw [← hx] at c0 f0 HB3
            simp only [← hx]
            clear hx
            go_wp2_with fail
            have hbx : b < x := by rw [HXX.out]; exact HLTB.out
            have HBX := Lib.hid hbx
            have HROW := Lib.hid (show (w3.setCell ⟨x, 0, none⟩ (.int .i64 4)).heap[x]? = some (.cells #[.int .i64 4, .pointer (some ⟨xa, 0, none⟩), .pointer none, .pointer none, .pointer none, .string .empty] 105 (0, 0)) by rw [row_set HB3.out]; rfl)
            have HX3 := Lib.hid (show ExAt (w3.setCell ⟨x, 0, none⟩ (.int .i64 4)) b a (.pointer (some ⟨xa, 0, none⟩)) from HX2.out.setCond HB3.out)
            have HK3 := Lib.hid (show Keeps [b] w (w3.setCell ⟨x, 0, none⟩ (.int .i64 4)) from HK2.out.setCell (fun h => by have h5 := H5.out.size; have hxx := HXX.out; simp at h; omega) _)
            have HPA := Lib.hid (show PAt (w3.setCell ⟨x, 0, none⟩ (.int .i64 4)) b n r.tail o k from H6.out.setOther HBX.out)
            clear hbx c0 f0
            obtain ⟨ww, hww⟩ : ∃ ww, ww = w3.setCell ⟨x, 0, none⟩ (.int .i64 4) := ⟨_, rfl⟩
            rw [← hww] at HROW HX3 HK3 HPA
            try simp only [← hww]
            clear hww
            refine (HU2.out _ HPA.out).mono ?_
            intro e w5 hr
            cases rr with
            | err z r2 =>
              obtain ⟨rfl, h4, h5⟩ := hr
              have H8 := Lib.hid h4
              have HK4 := Lib.hid (HK3.out.trans h5 (fun _ h _ => h))
              clear h4 h5
              go_wp2
              exact ⟨rfl, rfl, H8.out, HK4.out⟩
            | ok c r2 =>
              obtain ⟨vc, rfl, h3, h4, h5⟩ := hr
              have H3C := Lib.hid h3
              have H8 := Lib.hid h4
              have HK4 := Lib.hid (HK3.out.trans h5 (fun _ h _ => h))
              have HX4 := Lib.hid (HX3.out.keep h5 (by simp))
              have hb5 := block_keep HROW.out h5 (by have := HBX.out; simp; omega)
              have HB5 := Lib.hid hb5
              have c2 := row_cell hb5 2
              have f2 := row_free hb5 2
              simp only [List.getElem?_toArray, List.getElem?_cons_zero, List.getElem?_cons_succ] at c2
              obtain ⟨xc, rfl⟩ := h3.ptr
              clear h3 h4 h5 hb5
              go_wp2_with fail
              go_ret
              exact ⟨_, rfl, ⟨x, _, _, rfl, HBX.out, by rw [row_set HB5.out]; rfl, HX4.out.setCond HB5.out, H3C.out.setCond HB5.out⟩, H8.out.setOther HBX.out, HK4.out.setCell (fun h => by have h5 := H5.out.size; have hxx := HXX.out; simp at h; omega) _⟩
          · have hn3 : Px.sees r [62] = false := by simpa using hs3
            clear hs3
            by_cases hs4 : Px.sees r [62, 61] = true
            · have hop : Px.cmpOp r = some 5 := by unfold Px.cmpOp; simp only [hs4, hn0, hn1, hn2, hn3]; simp
              rw [hop]
              show Calls _ _ _ _ (RP CnAt _ w b n o ((Px.sum f o r.tail).bind (fun c r2 => .ok (.cmp 5 a c) r2)))
              have HSY := Lib.hid (fun w' (h' : PAt w' b n r o k) => passes_yes w' b n o k r h' [62, 61] (by simp) hs4)
              have HN0 := Lib.hid (fun w' (h' : PAt w' b n r o k) => passes_no w' b n o k r h' [33, 61] hn0)
              have HN1 := Lib.hid (fun w' (h' : PAt w' b n r o k) => passes_no w' b n o k r h' [60] hn1)
              have HN2 := Lib.hid (fun w' (h' : PAt w' b n r o k) => passes_no w' b n o k r h' [60, 61] hn2)
              have HN3 := Lib.hid (fun w' (h' : PAt w' b n r o k) => passes_no w' b n o k r h' [62] hn3)
              have HU2 := Lib.hid (fun w' (h' : PAt w' b n r.tail o k) => sum_any w' b n o k r.tail f h' ho2 (by have := HF.out; have := HLX.out; have := Px.sees_len (by simp) hs4; simp; omega))
              obtain ⟨rr, hrr⟩ : ∃ rr, rr = Px.sum f o r.tail := ⟨_, rfl⟩
              rw [← hrr] at HU2 ⊢
              clear hrr hop hs4 hn0 hn1 hn2 hn3
              go_enter Tryz.func238, Tryz.ntmps238
              go_wp2_with fail
              refine (HU.out).mono ?_
              rintro e w2 ⟨va, rfl, h3, h4, h5⟩
              have H3 := Lib.hid h3
              have H4 := Lib.hid h4
              have H5 := Lib.hid h5
              obtain ⟨xa, rfl⟩ := h3.ptr
              clear h3 h4 h5 HU
              go_wp2_with fail
              have HQ := Lib.hid (H4.out.keep ((Keeps.refl [] w2).alloc (.cells #[.int .i64 0, .pointer (some ⟨xa, 0, none⟩), .pointer none, .pointer none, .pointer none, .string .empty] 105)))
              have HX := Lib.hid (H3.out.alloc (.cells #[.int .i64 0, .pointer (some ⟨xa, 0, none⟩), .pointer none, .pointer none, .pointer none, .string .empty] 105))
              have HB := Lib.hid (show (w2.alloc (.cells #[.int .i64 0, .pointer (some ⟨xa, 0, none⟩), .pointer none, .pointer none, .pointer none, .string .empty] 105)).heap[w2.heap.size]? = some (.cells #[.int .i64 0, .pointer (some ⟨xa, 0, none⟩), .pointer none, .pointer none, .pointer none, .string .empty] 105 (0, 0)) from heap_alloc_new _ _)
              have HK1 := Lib.hid (H5.out.alloc (.cells #[.int .i64 0, .pointer (some ⟨xa, 0, none⟩), .pointer none, .pointer none, .pointer none, .string .empty] 105))
              have HLTB := Lib.hid H4.out.lt
              refine (HN0.out _ HQ.out).mono ?_
              rintro e w' ⟨rfl, rfl⟩
              go_wp2_with fail
              refine (HN1.out _ HQ.out).mono ?_
              rintro e w' ⟨rfl, rfl⟩
              go_wp2_with fail
              refine (HN2.out _ HQ.out).mono ?_
              rintro e w' ⟨rfl, rfl⟩
              go_wp2_with fail
              refine (HN3.out _ HQ.out).mono ?_
              rintro e w' ⟨rfl, rfl⟩
              go_wp2_with fail
              refine (HSY.out _ HQ.out).mono ?_
              rintro e w3 ⟨rfl, h6, h7⟩
              have H6 := Lib.hid h6
              have HK2 := Lib.hid (HK1.out.trans h7 (fun _ h _ => h))
              have HX2 := Lib.hid (HX.out.keep h7 (by simp))
              have hb3 := block_keep HB.out h7 (by have := HLTB.out; simp; omega)
              have HB3 := Lib.hid hb3
              have c0 := row_cell hb3 0
              have f0 := row_free hb3 0
              simp only [List.getElem?_toArray, List.getElem?_cons_zero] at c0
              clear h6 h7 hb3
              obtain ⟨x, hx⟩ : ∃ x, x = w2.heap.size := ⟨_, rfl⟩
              have HXX := Lib.hid hx
              rw [← hx] at c0 f0 HB3
              simp only [← hx]
              clear hx
              go_wp2_with fail
              have hbx : b < x := by rw [HXX.out]; exact HLTB.out
              have HBX := Lib.hid hbx
              have HROW := Lib.hid (show (w3.setCell ⟨x, 0, none⟩ (.int .i64 5)).heap[x]? = some (.cells #[.int .i64 5, .pointer (some ⟨xa, 0, none⟩), .pointer none, .pointer none, .pointer none, .string .empty] 105 (0, 0)) by rw [row_set HB3.out]; rfl)
              have HX3 := Lib.hid (show ExAt (w3.setCell ⟨x, 0, none⟩ (.int .i64 5)) b a (.pointer (some ⟨xa, 0, none⟩)) from HX2.out.setCond HB3.out)
              have HK3 := Lib.hid (show Keeps [b] w (w3.setCell ⟨x, 0, none⟩ (.int .i64 5)) from HK2.out.setCell (fun h => by have h5 := H5.out.size; have hxx := HXX.out; simp at h; omega) _)
              have HPA := Lib.hid (show PAt (w3.setCell ⟨x, 0, none⟩ (.int .i64 5)) b n r.tail o k from H6.out.setOther HBX.out)
              clear hbx c0 f0
              obtain ⟨ww, hww⟩ : ∃ ww, ww = w3.setCell ⟨x, 0, none⟩ (.int .i64 5) := ⟨_, rfl⟩
              rw [← hww] at HROW HX3 HK3 HPA
              try simp only [← hww]
              clear hww
              refine (HU2.out _ HPA.out).mono ?_
              intro e w5 hr
              cases rr with
              | err z r2 =>
                obtain ⟨rfl, h4, h5⟩ := hr
                have H8 := Lib.hid h4
                have HK4 := Lib.hid (HK3.out.trans h5 (fun _ h _ => h))
                clear h4 h5
                go_wp2
                exact ⟨rfl, rfl, H8.out, HK4.out⟩
              | ok c r2 =>
                obtain ⟨vc, rfl, h3, h4, h5⟩ := hr
                have H3C := Lib.hid h3
                have H8 := Lib.hid h4
                have HK4 := Lib.hid (HK3.out.trans h5 (fun _ h _ => h))
                have HX4 := Lib.hid (HX3.out.keep h5 (by simp))
                have hb5 := block_keep HROW.out h5 (by have := HBX.out; simp; omega)
                have HB5 := Lib.hid hb5
                have c2 := row_cell hb5 2
                have f2 := row_free hb5 2
                simp only [List.getElem?_toArray, List.getElem?_cons_zero, List.getElem?_cons_succ] at c2
                obtain ⟨xc, rfl⟩ := h3.ptr
                clear h3 h4 h5 hb5
                go_wp2_with fail
                go_ret
                exact ⟨_, rfl, ⟨x, _, _, rfl, HBX.out, by rw [row_set HB5.out]; rfl, HX4.out.setCond HB5.out, H3C.out.setCond HB5.out⟩, H8.out.setOther HBX.out, HK4.out.setCell (fun h => by have h5 := H5.out.size; have hxx := HXX.out; simp at h; omega) _⟩
            · have hn4 : Px.sees r [62, 61] = false := by simpa using hs4
              clear hs4
              by_cases hs5 : Px.sees r [61, 61] = true
              · have hop : Px.cmpOp r = some 0 := by unfold Px.cmpOp; simp only [hs5, hn0, hn1, hn2, hn3, hn4]; simp
                rw [hop]
                show Calls _ _ _ _ (RP CnAt _ w b n o ((Px.sum f o r.tail).bind (fun c r2 => .ok (.cmp 0 a c) r2)))
                have HSY := Lib.hid (fun w' (h' : PAt w' b n r o k) => pass_yes w' b n o k r h' [61, 61] (by simp) hs5)
                have HN0 := Lib.hid (fun w' (h' : PAt w' b n r o k) => passes_no w' b n o k r h' [33, 61] hn0)
                have HN1 := Lib.hid (fun w' (h' : PAt w' b n r o k) => passes_no w' b n o k r h' [60] hn1)
                have HN2 := Lib.hid (fun w' (h' : PAt w' b n r o k) => passes_no w' b n o k r h' [60, 61] hn2)
                have HN3 := Lib.hid (fun w' (h' : PAt w' b n r o k) => passes_no w' b n o k r h' [62] hn3)
                have HN4 := Lib.hid (fun w' (h' : PAt w' b n r o k) => passes_no w' b n o k r h' [62, 61] hn4)
                have HU2 := Lib.hid (fun w' (h' : PAt w' b n r.tail o k) => sum_any w' b n o k r.tail f h' ho2 (by have := HF.out; have := HLX.out; have := Px.sees_len (by simp) hs5; simp; omega))
                obtain ⟨rr, hrr⟩ : ∃ rr, rr = Px.sum f o r.tail := ⟨_, rfl⟩
                rw [← hrr] at HU2 ⊢
                clear hrr hop hs5 hn0 hn1 hn2 hn3 hn4
                go_enter Tryz.func238, Tryz.ntmps238
                go_wp2_with fail
                refine (HU.out).mono ?_
                rintro e w2 ⟨va, rfl, h3, h4, h5⟩
                have H3 := Lib.hid h3
                have H4 := Lib.hid h4
                have H5 := Lib.hid h5
                obtain ⟨xa, rfl⟩ := h3.ptr
                clear h3 h4 h5 HU
                go_wp2_with fail
                have HQ := Lib.hid (H4.out.keep ((Keeps.refl [] w2).alloc (.cells #[.int .i64 0, .pointer (some ⟨xa, 0, none⟩), .pointer none, .pointer none, .pointer none, .string .empty] 105)))
                have HX := Lib.hid (H3.out.alloc (.cells #[.int .i64 0, .pointer (some ⟨xa, 0, none⟩), .pointer none, .pointer none, .pointer none, .string .empty] 105))
                have HB := Lib.hid (show (w2.alloc (.cells #[.int .i64 0, .pointer (some ⟨xa, 0, none⟩), .pointer none, .pointer none, .pointer none, .string .empty] 105)).heap[w2.heap.size]? = some (.cells #[.int .i64 0, .pointer (some ⟨xa, 0, none⟩), .pointer none, .pointer none, .pointer none, .string .empty] 105 (0, 0)) from heap_alloc_new _ _)
                have HK1 := Lib.hid (H5.out.alloc (.cells #[.int .i64 0, .pointer (some ⟨xa, 0, none⟩), .pointer none, .pointer none, .pointer none, .string .empty] 105))
                have HLTB := Lib.hid H4.out.lt
                refine (HN0.out _ HQ.out).mono ?_
                rintro e w' ⟨rfl, rfl⟩
                go_wp2_with fail
                refine (HN1.out _ HQ.out).mono ?_
                rintro e w' ⟨rfl, rfl⟩
                go_wp2_with fail
                refine (HN2.out _ HQ.out).mono ?_
                rintro e w' ⟨rfl, rfl⟩
                go_wp2_with fail
                refine (HN3.out _ HQ.out).mono ?_
                rintro e w' ⟨rfl, rfl⟩
                go_wp2_with fail
                refine (HN4.out _ HQ.out).mono ?_
                rintro e w' ⟨rfl, rfl⟩
                go_wp2_with fail
                refine (HSY.out _ HQ.out).mono ?_
                rintro e w3 ⟨rfl, h6, h7⟩
                have H6 := Lib.hid h6
                have HK2 := Lib.hid (HK1.out.trans h7 (fun _ h _ => h))
                have HX2 := Lib.hid (HX.out.keep h7 (by simp))
                have hb3 := block_keep HB.out h7 (by have := HLTB.out; simp; omega)
                have HB3 := Lib.hid hb3
                have c0 := row_cell hb3 0
                have f0 := row_free hb3 0
                simp only [List.getElem?_toArray, List.getElem?_cons_zero] at c0
                clear h6 h7 hb3
                obtain ⟨x, hx⟩ : ∃ x, x = w2.heap.size := ⟨_, rfl⟩
                have HXX := Lib.hid hx
                rw [← hx] at c0 f0 HB3
                simp only [← hx]
                clear hx
                go_wp2_with fail
                have hbx : b < x := by rw [HXX.out]; exact HLTB.out
                have HBX := Lib.hid hbx
                have HROW := Lib.hid (show (w3.setCell ⟨x, 0, none⟩ (.int .i64 0)).heap[x]? = some (.cells #[.int .i64 0, .pointer (some ⟨xa, 0, none⟩), .pointer none, .pointer none, .pointer none, .string .empty] 105 (0, 0)) by rw [row_set HB3.out]; rfl)
                have HX3 := Lib.hid (show ExAt (w3.setCell ⟨x, 0, none⟩ (.int .i64 0)) b a (.pointer (some ⟨xa, 0, none⟩)) from HX2.out.setCond HB3.out)
                have HK3 := Lib.hid (show Keeps [b] w (w3.setCell ⟨x, 0, none⟩ (.int .i64 0)) from HK2.out.setCell (fun h => by have h5 := H5.out.size; have hxx := HXX.out; simp at h; omega) _)
                have HPA := Lib.hid (show PAt (w3.setCell ⟨x, 0, none⟩ (.int .i64 0)) b n r.tail o k from H6.out.setOther HBX.out)
                clear hbx c0 f0
                obtain ⟨ww, hww⟩ : ∃ ww, ww = w3.setCell ⟨x, 0, none⟩ (.int .i64 0) := ⟨_, rfl⟩
                rw [← hww] at HROW HX3 HK3 HPA
                try simp only [← hww]
                clear hww
                refine (HU2.out _ HPA.out).mono ?_
                intro e w5 hr
                cases rr with
                | err z r2 =>
                  obtain ⟨rfl, h4, h5⟩ := hr
                  have H8 := Lib.hid h4
                  have HK4 := Lib.hid (HK3.out.trans h5 (fun _ h _ => h))
                  clear h4 h5
                  go_wp2
                  exact ⟨rfl, rfl, H8.out, HK4.out⟩
                | ok c r2 =>
                  obtain ⟨vc, rfl, h3, h4, h5⟩ := hr
                  have H3C := Lib.hid h3
                  have H8 := Lib.hid h4
                  have HK4 := Lib.hid (HK3.out.trans h5 (fun _ h _ => h))
                  have HX4 := Lib.hid (HX3.out.keep h5 (by simp))
                  have hb5 := block_keep HROW.out h5 (by have := HBX.out; simp; omega)
                  have HB5 := Lib.hid hb5
                  have c2 := row_cell hb5 2
                  have f2 := row_free hb5 2
                  simp only [List.getElem?_toArray, List.getElem?_cons_zero, List.getElem?_cons_succ] at c2
                  obtain ⟨xc, rfl⟩ := h3.ptr
                  clear h3 h4 h5 hb5
                  go_wp2_with fail
                  go_ret
                  exact ⟨_, rfl, ⟨x, _, _, rfl, HBX.out, by rw [row_set HB5.out]; rfl, HX4.out.setCond HB5.out, H3C.out.setCond HB5.out⟩, H8.out.setOther HBX.out, HK4.out.setCell (fun h => by have h5 := H5.out.size; have hxx := HXX.out; simp at h; omega) _⟩
              · have hn5 : Px.sees r [61, 61] = false := by simpa using hs5
                clear hs5
                have hop : Px.cmpOp r = none := by unfold Px.cmpOp; simp only [hn0, hn1, hn2, hn3, hn4, hn5]; simp
                rw [hop]
                show Calls _ _ _ _ (RP CnAt _ w b n o (.err 51 r))
                have HN0 := Lib.hid (fun w' (h' : PAt w' b n r o k) => passes_no w' b n o k r h' [33, 61] hn0)
                have HN1 := Lib.hid (fun w' (h' : PAt w' b n r o k) => passes_no w' b n o k r h' [60] hn1)
                have HN2 := Lib.hid (fun w' (h' : PAt w' b n r o k) => passes_no w' b n o k r h' [60, 61] hn2)
                have HN3 := Lib.hid (fun w' (h' : PAt w' b n r o k) => passes_no w' b n o k r h' [62] hn3)
                have HN4 := Lib.hid (fun w' (h' : PAt w' b n r o k) => passes_no w' b n o k r h' [62, 61] hn4)
                have HSY := Lib.hid (fun w' (h' : PAt w' b n r o k) => pass_no w' b n o k r h' [61, 61] hn5)
                clear hop hn0 hn1 hn2 hn3 hn4 hn5
                go_enter Tryz.func238, Tryz.ntmps238
                go_wp2_with fail
                refine (HU.out).mono ?_
                rintro e w2 ⟨va, rfl, h3, h4, h5⟩
                have H3 := Lib.hid h3
                have H4 := Lib.hid h4
                have H5 := Lib.hid h5
                obtain ⟨xa, rfl⟩ := h3.ptr
                clear h3 h4 h5 HU
                go_wp2_with fail
                have HQ := Lib.hid (H4.out.keep ((Keeps.refl [] w2).alloc (.cells #[.int .i64 0, .pointer (some ⟨xa, 0, none⟩), .pointer none, .pointer none, .pointer none, .string .empty] 105)))
                have HX := Lib.hid (H3.out.alloc (.cells #[.int .i64 0, .pointer (some ⟨xa, 0, none⟩), .pointer none, .pointer none, .pointer none, .string .empty] 105))
                have HB := Lib.hid (show (w2.alloc (.cells #[.int .i64 0, .pointer (some ⟨xa, 0, none⟩), .pointer none, .pointer none, .pointer none, .string .empty] 105)).heap[w2.heap.size]? = some (.cells #[.int .i64 0, .pointer (some ⟨xa, 0, none⟩), .pointer none, .pointer none, .pointer none, .string .empty] 105 (0, 0)) from heap_alloc_new _ _)
                have HK1 := Lib.hid (H5.out.alloc (.cells #[.int .i64 0, .pointer (some ⟨xa, 0, none⟩), .pointer none, .pointer none, .pointer none, .string .empty] 105))
                have HLTB := Lib.hid H4.out.lt
                refine (HN0.out _ HQ.out).mono ?_
                rintro e w' ⟨rfl, rfl⟩
                go_wp2_with fail
                refine (HN1.out _ HQ.out).mono ?_
                rintro e w' ⟨rfl, rfl⟩
                go_wp2_with fail
                refine (HN2.out _ HQ.out).mono ?_
                rintro e w' ⟨rfl, rfl⟩
                go_wp2_with fail
                refine (HN3.out _ HQ.out).mono ?_
                rintro e w' ⟨rfl, rfl⟩
                go_wp2_with fail
                refine (HN4.out _ HQ.out).mono ?_
                rintro e w' ⟨rfl, rfl⟩
                go_wp2_with fail
                refine (HSY.out _ HQ.out).mono ?_
                rintro e w3 ⟨rfl, rfl⟩
                go_wp2
                exact ⟨rfl, rfl, ⟨_, _, HQ.out⟩, HK1.out⟩
end Go.Proofs.YtbikifibfaaggaaGreatDoor
