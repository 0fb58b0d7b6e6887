import Derived.Test.YtbikifibfaaggaaGreatDoorVMF
namespace Go.Proofs.YtbikifibfaaggaaGreatDoor
section
set_option maxHeartbeats 4000000
set_option maxRecDepth 100000
open Go.RowKit Go.Shelf
open Lx (Tok Tx)
open Px (Ex Cn)
theorem set_other {w : World} {x y : Nat} (h : y ≠ x) (j : Nat) (u : Value) : (w.setCell ⟨x, j, none⟩ u).heap[y]? = w.heap[y]? := Below.heap_setCell _ _ _ _ (by simpa using h)
theorem ExAt.setCond {w : World} {b x j : Nat} {cs : Array Value} {u : Value} (hx : w.heap[x]? = some (.cells cs 105 (0, 0))) : ∀ {e : Ex} {v : Value}, ExAt w b e v → ExAt (w.setCell ⟨x, j, none⟩ u) b e v := by
 have hne : ∀ {y : Nat} {ds : Array Value}, w.heap[y]? = some (.cells ds 74 (0, 0)) → (w.setCell ⟨x, j, none⟩ u).heap[y]? = some (.cells ds 74 (0, 0)) := fun {y ds} h => by
  rw [set_other _ j u]; exact h
  rintro rfl
  rw [h] at hx
  simp at hx
 intro e
 induction e with
 | num m =>
  intro v h
  obtain ⟨y, h1, h2, h3⟩ := h
  exact ⟨y, h1, h2, hne h3⟩
 | var s =>
  intro v h
  obtain ⟨y, h1, h2, h3⟩ := h
  exact ⟨y, h1, h2, hne h3⟩
 | neg a ih =>
  intro v h
  obtain ⟨y, va, h1, h2, h3, h4⟩ := h
  exact ⟨y, va, h1, h2, hne h3, ih h4⟩
 | bin k a c iha ihc =>
  intro v h
  obtain ⟨y, va, vc, h1, h2, h3, h4, h5⟩ := h
  exact ⟨y, va, vc, h1, h2, hne h3, iha h4, ihc h5⟩
theorem PAt.setOther {w : World} {b n o k x j : Nat} {ts : List Tok} {u : Value} (h : PAt w b n ts o k) (hx : b < x) : PAt (w.setCell ⟨x, j, none⟩ u) b n ts o k := by
 obtain ⟨hwf, A, cap, g, h1, h2, h3, h4, h5⟩ := h
 refine ⟨hwf, A, cap, g, by rw [set_other (by omega)]; exact h1, ?_, h3, h4, h5⟩
 rcases h2 with h2 | ⟨off, hA, hc⟩
 · exact .inl h2
 ·
  exact .inr ⟨off, hA, fun k hk => by
   obtain ⟨q1, q2, q3⟩ := hc k hk
   have e : ∀ i, (w.setCell ⟨x, j, none⟩ u).cell? ⟨g, i, none⟩ = w.cell? ⟨g, i, none⟩ := fun i => World.cell?_setCell_other _ _ _ _ (ne_blk (by omega))
   exact ⟨(e _).trans q1, (e _).trans q2, (e _).trans q3⟩⟩
theorem cmp_any (w : World) (b n o k : Nat) (ts : List Tok) (h : PAt w b n ts o k) (ho2 : o ≤ 1000) (f : Nat) (hf : 4 * ts.length + 3 ≤ f) :
 Calls Tryz.prog 238 #[pp b] w (RP CnAt (fun _ => k) w b n o (Px.cmp f o ts)) := by
 have HU := Hd (sum_any w b n o k ts f h ho2 hf)
 have HLEN := Hd ((Px.ex_len f).2.2.2.2 o ts)
 have HF := Hd hf
 have hc : Px.cmp f o ts = (Px.sum f o ts).bind (fun a r => match Px.cmpOp r with | some k => (Px.sum f o r.tail).bind (fun c r2 => .ok (.cmp k a c) r2) | none => .err 51 r) := by
  unfold Px.cmp Px.R.bind
  cases Px.sum f o ts with
  | err z r => rfl
  | ok a r =>
   simp only
   cases Px.cmpOp r with
   | none => rfl
   | some k => simp only; cases Px.sum f o r.tail <;> rfl
 rw [hc]
 obtain ⟨rr, hrr⟩ : ∃ rr, rr = Px.sum f o ts := ⟨_, rfl⟩
 rw [← hrr] at HU HLEN ⊢
 clear h hrr hc hf
 cases rr with
 | err z r =>
  show Calls _ _ _ _ (RP CnAt _ w b n o (.err z r))
  go_enter Tryz.func238, Tryz.ntmps238
  go_wp2_with fail
  refine (HU.out).mono ?_
  rintro e w1 ⟨rfl, h4, h5⟩
  have H4 := Hd h4
  have H5 := Hd h5
  clear h4 h5
  go_wp2
  exact ⟨rfl, rfl, H4.out, H5.out⟩
 | ok a r =>
  have HLX := Hd (HLEN.out a r rfl)
  clear HLEN
  show Calls _ _ _ _ (RP CnAt _ w b n o (match Px.cmpOp r with | some k => (Px.sum f o r.tail).bind (fun c r2 => .ok (.cmp k a c) r2) | none => .err 51 r))
  by_cases hs0 : Px.sees r [33, 61] = true
  ·
   have hop : Px.cmpOp r = some 1 := by unfold Px.cmpOp; simp only [hs0]; simp
   rw [hop]
   show Calls _ _ _ _ (RP CnAt _ w b n o ((Px.sum f o r.tail).bind (fun c r2 => .ok (.cmp 1 a c) r2)))
   have HSY := Hd (fun w' (h' : PAt w' b n r o k) => passes_yes w' b n o k r h' [33, 61] (by simp) hs0)
   have HU2 := Hd (fun w' (h' : PAt w' b n r.tail o k) => sum_any w' b n o k r.tail f h' ho2 (by have := HF.out; have := HLX.out; have := Px.sees_len (by simp) hs0; simp; omega))
   obtain ⟨rr, hrr⟩ : ∃ rr, rr = Px.sum f o r.tail := ⟨_, rfl⟩
   rw [← hrr] at HU2 ⊢
   clear hrr hop hs0
   go_enter Tryz.func238, Tryz.ntmps238
   go_wp2_with fail
   refine (HU.out).mono ?_
   rintro e w2 ⟨va, rfl, h3, h4, h5⟩
   have H3 := Hd h3
   have H4 := Hd h4
   have H5 := Hd h5
   obtain ⟨xa, rfl⟩ := h3.ptr
   clear h3 h4 h5 HU
   go_wp2_with fail
   obtain ⟨HQ, HX, HB, HK1⟩ := start_c xa H4 H3 H5
   have HLTB := Hd H4.out.lt
   refine (HSY.out _ HQ.out).mono ?_
   rintro e w3 ⟨rfl, h6, h7⟩
   have H6 := Hd h6
   have HK2 := zV HK1 h7
   have HX2 := Hd (HX.out.keep h7 (by simp))
   have hb3 := block_keep HB.out h7 (by have := HLTB.out; simp; omega)
   have HB3 := Hd hb3
   have c0 := row_cell hb3 0
   have f0 := row_free hb3 0
   simp only [List.getElem?_toArray, List.getElem?_cons_zero] at c0
   clear h6 h7 hb3
   obtain ⟨x, hx⟩ : ∃ x, x = w2.heap.size := ⟨_, rfl⟩
   have HXX := Hd hx
   rw [← hx] at c0 f0 HB3
   simp only [← hx]
   clear hx
   go_wp2_with fail
   have hbx : b < x := by rw [HXX.out]; exact HLTB.out
   have HBX := Hd hbx
   have HROW := Hd (show (w3.setCell ⟨x, 0, none⟩ (.int .i64 1)).heap[x]? = some (.cells #[.int .i64 1, .pointer (some ⟨xa, 0, none⟩), .pointer none, .pointer none, .pointer none, .string .empty] 105 (0, 0)) by rw [row_set HB3.out]; rfl)
   have HX3 := Hd (show ExAt (w3.setCell ⟨x, 0, none⟩ (.int .i64 1)) b a (.pointer (some ⟨xa, 0, none⟩)) from HX2.out.setCond HB3.out)
   have HK3 := Hd (show Keeps [b] w (w3.setCell ⟨x, 0, none⟩ (.int .i64 1)) from HK2.out.setCell (fun h => by have h5 := H5.out.size; have hxx := HXX.out; simp at h; omega) _)
   have HPA := Hd (show PAt (w3.setCell ⟨x, 0, none⟩ (.int .i64 1)) b n r.tail o k from H6.out.setOther HBX.out)
   clear hbx c0 f0
   obtain ⟨ww, hww⟩ : ∃ ww, ww = w3.setCell ⟨x, 0, none⟩ (.int .i64 1) := ⟨_, rfl⟩
   rw [← hww] at HROW HX3 HK3 HPA
   try simp only [← hww]
   clear hww
   refine (HU2.out _ HPA.out).mono ?_
   intro e w5 hr
   cases rr with
   | err z r2 =>
    obtain ⟨rfl, h4, h5⟩ := hr
    have H8 := Hd h4
    have HK4 := zV HK3 h5
    clear h4 h5
    go_wp2
    exact ⟨rfl, rfl, H8.out, HK4.out⟩
   | ok c r2 =>
    obtain ⟨vc, rfl, h3, h4, h5⟩ := hr
    have H3C := Hd h3
    have H8 := Hd h4
    have HK4 := zV HK3 h5
    have HX4 := Hd (HX3.out.keep h5 (by simp))
    have hb5 := block_keep HROW.out h5 (by have := HBX.out; simp; omega)
    have HB5 := Hd hb5
    obtain ⟨c2, f2⟩ := rowi hb5 2
    obtain ⟨xc, rfl⟩ := h3.ptr
    clear h3 h4 h5 hb5
    go_wp2_with fail
    go_ret
    exact ⟨_, rfl, ⟨x, _, _, rfl, HBX.out, by rw [row_set HB5.out]; rfl, HX4.out.setCond HB5.out, H3C.out.setCond HB5.out⟩, H8.out.setOther HBX.out, HK4.out.setCell (fun h => by have h5 := H5.out.size; have hxx := HXX.out; simp at h; omega) _⟩
  ·
   have hn0 : Px.sees r [33, 61] = false := by simpa using hs0
   clear hs0
   by_cases hs1 : Px.sees r [60] = true
   ·
    have hop : Px.cmpOp r = some 2 := by unfold Px.cmpOp; simp only [hs1, hn0]; simp
    rw [hop]
    show Calls _ _ _ _ (RP CnAt _ w b n o ((Px.sum f o r.tail).bind (fun c r2 => .ok (.cmp 2 a c) r2)))
    have HSY := Hd (fun w' (h' : PAt w' b n r o k) => passes_yes w' b n o k r h' [60] (by simp) hs1)
    have HN0 := Hd (fun w' (h' : PAt w' b n r o k) => passes_no w' b n o k r h' [33, 61] hn0)
    have HU2 := Hd (fun w' (h' : PAt w' b n r.tail o k) => sum_any w' b n o k r.tail f h' ho2 (by have := HF.out; have := HLX.out; have := Px.sees_len (by simp) hs1; simp; omega))
    obtain ⟨rr, hrr⟩ : ∃ rr, rr = Px.sum f o r.tail := ⟨_, rfl⟩
    rw [← hrr] at HU2 ⊢
    clear hrr hop hs1 hn0
    go_enter Tryz.func238, Tryz.ntmps238
    go_wp2_with fail
    refine (HU.out).mono ?_
    rintro e w2 ⟨va, rfl, h3, h4, h5⟩
    have H3 := Hd h3
    have H4 := Hd h4
    have H5 := Hd h5
    obtain ⟨xa, rfl⟩ := h3.ptr
    clear h3 h4 h5 HU
    go_wp2_with fail
    obtain ⟨HQ, HX, HB, HK1⟩ := start_c xa H4 H3 H5
    have HLTB := Hd H4.out.lt
    refine (same (HN0.out _ HQ.out)) ?_
    go_wp2_with fail
    refine (HSY.out _ HQ.out).mono ?_
    rintro e w3 ⟨rfl, h6, h7⟩
    have H6 := Hd h6
    have HK2 := zV HK1 h7
    have HX2 := Hd (HX.out.keep h7 (by simp))
    have hb3 := block_keep HB.out h7 (by have := HLTB.out; simp; omega)
    have HB3 := Hd hb3
    have c0 := row_cell hb3 0
    have f0 := row_free hb3 0
    simp only [List.getElem?_toArray, List.getElem?_cons_zero] at c0
    clear h6 h7 hb3
    obtain ⟨x, hx⟩ : ∃ x, x = w2.heap.size := ⟨_, rfl⟩
    have HXX := Hd hx
    rw [← hx] at c0 f0 HB3
    simp only [← hx]
    clear hx
    go_wp2_with fail
    have hbx : b < x := by rw [HXX.out]; exact HLTB.out
    have HBX := Hd hbx
    have HROW := Hd (show (w3.setCell ⟨x, 0, none⟩ (.int .i64 2)).heap[x]? = some (.cells #[.int .i64 2, .pointer (some ⟨xa, 0, none⟩), .pointer none, .pointer none, .pointer none, .string .empty] 105 (0, 0)) by rw [row_set HB3.out]; rfl)
    have HX3 := Hd (show ExAt (w3.setCell ⟨x, 0, none⟩ (.int .i64 2)) b a (.pointer (some ⟨xa, 0, none⟩)) from HX2.out.setCond HB3.out)
    have HK3 := Hd (show Keeps [b] w (w3.setCell ⟨x, 0, none⟩ (.int .i64 2)) from HK2.out.setCell (fun h => by have h5 := H5.out.size; have hxx := HXX.out; simp at h; omega) _)
    have HPA := Hd (show PAt (w3.setCell ⟨x, 0, none⟩ (.int .i64 2)) b n r.tail o k from H6.out.setOther HBX.out)
    clear hbx c0 f0
    obtain ⟨ww, hww⟩ : ∃ ww, ww = w3.setCell ⟨x, 0, none⟩ (.int .i64 2) := ⟨_, rfl⟩
    rw [← hww] at HROW HX3 HK3 HPA
    try simp only [← hww]
    clear hww
    refine (HU2.out _ HPA.out).mono ?_
    intro e w5 hr
    cases rr with
    | err z r2 =>
     obtain ⟨rfl, h4, h5⟩ := hr
     have H8 := Hd h4
     have HK4 := zV HK3 h5
     clear h4 h5
     go_wp2
     exact ⟨rfl, rfl, H8.out, HK4.out⟩
    | ok c r2 =>
     obtain ⟨vc, rfl, h3, h4, h5⟩ := hr
     have H3C := Hd h3
     have H8 := Hd h4
     have HK4 := zV HK3 h5
     have HX4 := Hd (HX3.out.keep h5 (by simp))
     have hb5 := block_keep HROW.out h5 (by have := HBX.out; simp; omega)
     have HB5 := Hd hb5
     obtain ⟨c2, f2⟩ := rowi hb5 2
     obtain ⟨xc, rfl⟩ := h3.ptr
     clear h3 h4 h5 hb5
     go_wp2_with fail
     go_ret
     exact ⟨_, rfl, ⟨x, _, _, rfl, HBX.out, by rw [row_set HB5.out]; rfl, HX4.out.setCond HB5.out, H3C.out.setCond HB5.out⟩, H8.out.setOther HBX.out, HK4.out.setCell (fun h => by have h5 := H5.out.size; have hxx := HXX.out; simp at h; omega) _⟩
   ·
    have hn1 : Px.sees r [60] = false := by simpa using hs1
    clear hs1
    by_cases hs2 : Px.sees r [60, 61] = true
    ·
     have hop : Px.cmpOp r = some 3 := by unfold Px.cmpOp; simp only [hs2, hn0, hn1]; simp
     rw [hop]
     show Calls _ _ _ _ (RP CnAt _ w b n o ((Px.sum f o r.tail).bind (fun c r2 => .ok (.cmp 3 a c) r2)))
     have HSY := Hd (fun w' (h' : PAt w' b n r o k) => passes_yes w' b n o k r h' [60, 61] (by simp) hs2)
     have HN0 := Hd (fun w' (h' : PAt w' b n r o k) => passes_no w' b n o k r h' [33, 61] hn0)
     have HN1 := Hd (fun w' (h' : PAt w' b n r o k) => passes_no w' b n o k r h' [60] hn1)
     have HU2 := Hd (fun w' (h' : PAt w' b n r.tail o k) => sum_any w' b n o k r.tail f h' ho2 (by have := HF.out; have := HLX.out; have := Px.sees_len (by simp) hs2; simp; omega))
     obtain ⟨rr, hrr⟩ : ∃ rr, rr = Px.sum f o r.tail := ⟨_, rfl⟩
     rw [← hrr] at HU2 ⊢
     clear hrr hop hs2 hn0 hn1
     go_enter Tryz.func238, Tryz.ntmps238
     go_wp2_with fail
     refine (HU.out).mono ?_
     rintro e w2 ⟨va, rfl, h3, h4, h5⟩
     have H3 := Hd h3
     have H4 := Hd h4
     have H5 := Hd h5
     obtain ⟨xa, rfl⟩ := h3.ptr
     clear h3 h4 h5 HU
     go_wp2_with fail
     obtain ⟨HQ, HX, HB, HK1⟩ := start_c xa H4 H3 H5
     have HLTB := Hd H4.out.lt
     refine (same (HN0.out _ HQ.out)) ?_
     go_wp2_with fail
     refine (same (HN1.out _ HQ.out)) ?_
     go_wp2_with fail
     refine (HSY.out _ HQ.out).mono ?_
     rintro e w3 ⟨rfl, h6, h7⟩
     have H6 := Hd h6
     have HK2 := zV HK1 h7
     have HX2 := Hd (HX.out.keep h7 (by simp))
     have hb3 := block_keep HB.out h7 (by have := HLTB.out; simp; omega)
     have HB3 := Hd hb3
     have c0 := row_cell hb3 0
     have f0 := row_free hb3 0
     simp only [List.getElem?_toArray, List.getElem?_cons_zero] at c0
     clear h6 h7 hb3
     obtain ⟨x, hx⟩ : ∃ x, x = w2.heap.size := ⟨_, rfl⟩
     have HXX := Hd hx
     rw [← hx] at c0 f0 HB3
     simp only [← hx]
     clear hx
     go_wp2_with fail
     have hbx : b < x := by rw [HXX.out]; exact HLTB.out
     have HBX := Hd hbx
     have HROW := Hd (show (w3.setCell ⟨x, 0, none⟩ (.int .i64 3)).heap[x]? = some (.cells #[.int .i64 3, .pointer (some ⟨xa, 0, none⟩), .pointer none, .pointer none, .pointer none, .string .empty] 105 (0, 0)) by rw [row_set HB3.out]; rfl)
     have HX3 := Hd (show ExAt (w3.setCell ⟨x, 0, none⟩ (.int .i64 3)) b a (.pointer (some ⟨xa, 0, none⟩)) from HX2.out.setCond HB3.out)
     have HK3 := Hd (show Keeps [b] w (w3.setCell ⟨x, 0, none⟩ (.int .i64 3)) from HK2.out.setCell (fun h => by have h5 := H5.out.size; have hxx := HXX.out; simp at h; omega) _)
     have HPA := Hd (show PAt (w3.setCell ⟨x, 0, none⟩ (.int .i64 3)) b n r.tail o k from H6.out.setOther HBX.out)
     clear hbx c0 f0
     obtain ⟨ww, hww⟩ : ∃ ww, ww = w3.setCell ⟨x, 0, none⟩ (.int .i64 3) := ⟨_, rfl⟩
     rw [← hww] at HROW HX3 HK3 HPA
     try simp only [← hww]
     clear hww
     refine (HU2.out _ HPA.out).mono ?_
     intro e w5 hr
     cases rr with
     | err z r2 =>
      obtain ⟨rfl, h4, h5⟩ := hr
      have H8 := Hd h4
      have HK4 := zV HK3 h5
      clear h4 h5
      go_wp2
      exact ⟨rfl, rfl, H8.out, HK4.out⟩
     | ok c r2 =>
      obtain ⟨vc, rfl, h3, h4, h5⟩ := hr
      have H3C := Hd h3
      have H8 := Hd h4
      have HK4 := zV HK3 h5
      have HX4 := Hd (HX3.out.keep h5 (by simp))
      have hb5 := block_keep HROW.out h5 (by have := HBX.out; simp; omega)
      have HB5 := Hd hb5
      obtain ⟨c2, f2⟩ := rowi hb5 2
      obtain ⟨xc, rfl⟩ := h3.ptr
      clear h3 h4 h5 hb5
      go_wp2_with fail
      go_ret
      exact ⟨_, rfl, ⟨x, _, _, rfl, HBX.out, by rw [row_set HB5.out]; rfl, HX4.out.setCond HB5.out, H3C.out.setCond HB5.out⟩, H8.out.setOther HBX.out, HK4.out.setCell (fun h => by have h5 := H5.out.size; have hxx := HXX.out; simp at h; omega) _⟩
    ·
     have hn2 : Px.sees r [60, 61] = false := by simpa using hs2
     clear hs2
     by_cases hs3 : Px.sees r [62] = true
     ·
      have hop : Px.cmpOp r = some 4 := by unfold Px.cmpOp; simp only [hs3, hn0, hn1, hn2]; simp
      rw [hop]
      show Calls _ _ _ _ (RP CnAt _ w b n o ((Px.sum f o r.tail).bind (fun c r2 => .ok (.cmp 4 a c) r2)))
      have HSY := Hd (fun w' (h' : PAt w' b n r o k) => passes_yes w' b n o k r h' [62] (by simp) hs3)
      have HN0 := Hd (fun w' (h' : PAt w' b n r o k) => passes_no w' b n o k r h' [33, 61] hn0)
      have HN1 := Hd (fun w' (h' : PAt w' b n r o k) => passes_no w' b n o k r h' [60] hn1)
      have HN2 := Hd (fun w' (h' : PAt w' b n r o k) => passes_no w' b n o k r h' [60, 61] hn2)
      have HU2 := Hd (fun w' (h' : PAt w' b n r.tail o k) => sum_any w' b n o k r.tail f h' ho2 (by have := HF.out; have := HLX.out; have := Px.sees_len (by simp) hs3; simp; omega))
      obtain ⟨rr, hrr⟩ : ∃ rr, rr = Px.sum f o r.tail := ⟨_, rfl⟩
      rw [← hrr] at HU2 ⊢
      clear hrr hop hs3 hn0 hn1 hn2
      go_enter Tryz.func238, Tryz.ntmps238
      go_wp2_with fail
      refine (HU.out).mono ?_
      rintro e w2 ⟨va, rfl, h3, h4, h5⟩
      have H3 := Hd h3
      have H4 := Hd h4
      have H5 := Hd h5
      obtain ⟨xa, rfl⟩ := h3.ptr
      clear h3 h4 h5 HU
      go_wp2_with fail
      obtain ⟨HQ, HX, HB, HK1⟩ := start_c xa H4 H3 H5
      have HLTB := Hd H4.out.lt
      refine (same (HN0.out _ HQ.out)) ?_
      go_wp2_with fail
      refine (same (HN1.out _ HQ.out)) ?_
      go_wp2_with fail
      refine (same (HN2.out _ HQ.out)) ?_
      go_wp2_with fail
      refine (HSY.out _ HQ.out).mono ?_
      rintro e w3 ⟨rfl, h6, h7⟩
      have H6 := Hd h6
      have HK2 := zV HK1 h7
      have HX2 := Hd (HX.out.keep h7 (by simp))
      have hb3 := block_keep HB.out h7 (by have := HLTB.out; simp; omega)
      have HB3 := Hd hb3
      have c0 := row_cell hb3 0
      have f0 := row_free hb3 0
      simp only [List.getElem?_toArray, List.getElem?_cons_zero] at c0
      clear h6 h7 hb3
      obtain ⟨x, hx⟩ : ∃ x, x = w2.heap.size := ⟨_, rfl⟩
      have HXX := Hd hx
      rw [← hx] at c0 f0 HB3
      simp only [← hx]
      clear hx
      go_wp2_with fail
      have hbx : b < x := by rw [HXX.out]; exact HLTB.out
      have HBX := Hd hbx
      have HROW := Hd (show (w3.setCell ⟨x, 0, none⟩ (.int .i64 4)).heap[x]? = some (.cells #[.int .i64 4, .pointer (some ⟨xa, 0, none⟩), .pointer none, .pointer none, .pointer none, .string .empty] 105 (0, 0)) by rw [row_set HB3.out]; rfl)
      have HX3 := Hd (show ExAt (w3.setCell ⟨x, 0, none⟩ (.int .i64 4)) b a (.pointer (some ⟨xa, 0, none⟩)) from HX2.out.setCond HB3.out)
      have HK3 := Hd (show Keeps [b] w (w3.setCell ⟨x, 0, none⟩ (.int .i64 4)) from HK2.out.setCell (fun h => by have h5 := H5.out.size; have hxx := HXX.out; simp at h; omega) _)
      have HPA := Hd (show PAt (w3.setCell ⟨x, 0, none⟩ (.int .i64 4)) b n r.tail o k from H6.out.setOther HBX.out)
      clear hbx c0 f0
      obtain ⟨ww, hww⟩ : ∃ ww, ww = w3.setCell ⟨x, 0, none⟩ (.int .i64 4) := ⟨_, rfl⟩
      rw [← hww] at HROW HX3 HK3 HPA
      try simp only [← hww]
      clear hww
      refine (HU2.out _ HPA.out).mono ?_
      intro e w5 hr
      cases rr with
      | err z r2 =>
       obtain ⟨rfl, h4, h5⟩ := hr
       have H8 := Hd h4
       have HK4 := zV HK3 h5
       clear h4 h5
       go_wp2
       exact ⟨rfl, rfl, H8.out, HK4.out⟩
      | ok c r2 =>
       obtain ⟨vc, rfl, h3, h4, h5⟩ := hr
       have H3C := Hd h3
       have H8 := Hd h4
       have HK4 := zV HK3 h5
       have HX4 := Hd (HX3.out.keep h5 (by simp))
       have hb5 := block_keep HROW.out h5 (by have := HBX.out; simp; omega)
       have HB5 := Hd hb5
       obtain ⟨c2, f2⟩ := rowi hb5 2
       obtain ⟨xc, rfl⟩ := h3.ptr
       clear h3 h4 h5 hb5
       go_wp2_with fail
       go_ret
       exact ⟨_, rfl, ⟨x, _, _, rfl, HBX.out, by rw [row_set HB5.out]; rfl, HX4.out.setCond HB5.out, H3C.out.setCond HB5.out⟩, H8.out.setOther HBX.out, HK4.out.setCell (fun h => by have h5 := H5.out.size; have hxx := HXX.out; simp at h; omega) _⟩
     ·
      have hn3 : Px.sees r [62] = false := by simpa using hs3
      clear hs3
      by_cases hs4 : Px.sees r [62, 61] = true
      ·
       have hop : Px.cmpOp r = some 5 := by unfold Px.cmpOp; simp only [hs4, hn0, hn1, hn2, hn3]; simp
       rw [hop]
       show Calls _ _ _ _ (RP CnAt _ w b n o ((Px.sum f o r.tail).bind (fun c r2 => .ok (.cmp 5 a c) r2)))
       have HSY := Hd (fun w' (h' : PAt w' b n r o k) => passes_yes w' b n o k r h' [62, 61] (by simp) hs4)
       have HN0 := Hd (fun w' (h' : PAt w' b n r o k) => passes_no w' b n o k r h' [33, 61] hn0)
       have HN1 := Hd (fun w' (h' : PAt w' b n r o k) => passes_no w' b n o k r h' [60] hn1)
       have HN2 := Hd (fun w' (h' : PAt w' b n r o k) => passes_no w' b n o k r h' [60, 61] hn2)
       have HN3 := Hd (fun w' (h' : PAt w' b n r o k) => passes_no w' b n o k r h' [62] hn3)
       have HU2 := Hd (fun w' (h' : PAt w' b n r.tail o k) => sum_any w' b n o k r.tail f h' ho2 (by have := HF.out; have := HLX.out; have := Px.sees_len (by simp) hs4; simp; omega))
       obtain ⟨rr, hrr⟩ : ∃ rr, rr = Px.sum f o r.tail := ⟨_, rfl⟩
       rw [← hrr] at HU2 ⊢
       clear hrr hop hs4 hn0 hn1 hn2 hn3
       go_enter Tryz.func238, Tryz.ntmps238
       go_wp2_with fail
       refine (HU.out).mono ?_
       rintro e w2 ⟨va, rfl, h3, h4, h5⟩
       have H3 := Hd h3
       have H4 := Hd h4
       have H5 := Hd h5
       obtain ⟨xa, rfl⟩ := h3.ptr
       clear h3 h4 h5 HU
       go_wp2_with fail
       obtain ⟨HQ, HX, HB, HK1⟩ := start_c xa H4 H3 H5
       have HLTB := Hd H4.out.lt
       refine (same (HN0.out _ HQ.out)) ?_
       go_wp2_with fail
       refine (same (HN1.out _ HQ.out)) ?_
       go_wp2_with fail
       refine (same (HN2.out _ HQ.out)) ?_
       go_wp2_with fail
       refine (same (HN3.out _ HQ.out)) ?_
       go_wp2_with fail
       refine (HSY.out _ HQ.out).mono ?_
       rintro e w3 ⟨rfl, h6, h7⟩
       have H6 := Hd h6
       have HK2 := zV HK1 h7
       have HX2 := Hd (HX.out.keep h7 (by simp))
       have hb3 := block_keep HB.out h7 (by have := HLTB.out; simp; omega)
       have HB3 := Hd hb3
       have c0 := row_cell hb3 0
       have f0 := row_free hb3 0
       simp only [List.getElem?_toArray, List.getElem?_cons_zero] at c0
       clear h6 h7 hb3
       obtain ⟨x, hx⟩ : ∃ x, x = w2.heap.size := ⟨_, rfl⟩
       have HXX := Hd hx
       rw [← hx] at c0 f0 HB3
       simp only [← hx]
       clear hx
       go_wp2_with fail
       have hbx : b < x := by rw [HXX.out]; exact HLTB.out
       have HBX := Hd hbx
       have HROW := Hd (show (w3.setCell ⟨x, 0, none⟩ (.int .i64 5)).heap[x]? = some (.cells #[.int .i64 5, .pointer (some ⟨xa, 0, none⟩), .pointer none, .pointer none, .pointer none, .string .empty] 105 (0, 0)) by rw [row_set HB3.out]; rfl)
       have HX3 := Hd (show ExAt (w3.setCell ⟨x, 0, none⟩ (.int .i64 5)) b a (.pointer (some ⟨xa, 0, none⟩)) from HX2.out.setCond HB3.out)
       have HK3 := Hd (show Keeps [b] w (w3.setCell ⟨x, 0, none⟩ (.int .i64 5)) from HK2.out.setCell (fun h => by have h5 := H5.out.size; have hxx := HXX.out; simp at h; omega) _)
       have HPA := Hd (show PAt (w3.setCell ⟨x, 0, none⟩ (.int .i64 5)) b n r.tail o k from H6.out.setOther HBX.out)
       clear hbx c0 f0
       obtain ⟨ww, hww⟩ : ∃ ww, ww = w3.setCell ⟨x, 0, none⟩ (.int .i64 5) := ⟨_, rfl⟩
       rw [← hww] at HROW HX3 HK3 HPA
       try simp only [← hww]
       clear hww
       refine (HU2.out _ HPA.out).mono ?_
       intro e w5 hr
       cases rr with
       | err z r2 =>
        obtain ⟨rfl, h4, h5⟩ := hr
        have H8 := Hd h4
        have HK4 := zV HK3 h5
        clear h4 h5
        go_wp2
        exact ⟨rfl, rfl, H8.out, HK4.out⟩
       | ok c r2 =>
        obtain ⟨vc, rfl, h3, h4, h5⟩ := hr
        have H3C := Hd h3
        have H8 := Hd h4
        have HK4 := zV HK3 h5
        have HX4 := Hd (HX3.out.keep h5 (by simp))
        have hb5 := block_keep HROW.out h5 (by have := HBX.out; simp; omega)
        have HB5 := Hd hb5
        obtain ⟨c2, f2⟩ := rowi hb5 2
        obtain ⟨xc, rfl⟩ := h3.ptr
        clear h3 h4 h5 hb5
        go_wp2_with fail
        go_ret
        exact ⟨_, rfl, ⟨x, _, _, rfl, HBX.out, by rw [row_set HB5.out]; rfl, HX4.out.setCond HB5.out, H3C.out.setCond HB5.out⟩, H8.out.setOther HBX.out, HK4.out.setCell (fun h => by have h5 := H5.out.size; have hxx := HXX.out; simp at h; omega) _⟩
      ·
       have hn4 : Px.sees r [62, 61] = false := by simpa using hs4
       clear hs4
       by_cases hs5 : Px.sees r [61, 61] = true
       ·
        have hop : Px.cmpOp r = some 0 := by unfold Px.cmpOp; simp only [hs5, hn0, hn1, hn2, hn3, hn4]; simp
        rw [hop]
        show Calls _ _ _ _ (RP CnAt _ w b n o ((Px.sum f o r.tail).bind (fun c r2 => .ok (.cmp 0 a c) r2)))
        have HSY := Hd (fun w' (h' : PAt w' b n r o k) => pass_yes w' b n o k r h' [61, 61] (by simp) hs5)
        have HN0 := Hd (fun w' (h' : PAt w' b n r o k) => passes_no w' b n o k r h' [33, 61] hn0)
        have HN1 := Hd (fun w' (h' : PAt w' b n r o k) => passes_no w' b n o k r h' [60] hn1)
        have HN2 := Hd (fun w' (h' : PAt w' b n r o k) => passes_no w' b n o k r h' [60, 61] hn2)
        have HN3 := Hd (fun w' (h' : PAt w' b n r o k) => passes_no w' b n o k r h' [62] hn3)
        have HN4 := Hd (fun w' (h' : PAt w' b n r o k) => passes_no w' b n o k r h' [62, 61] hn4)
        have HU2 := Hd (fun w' (h' : PAt w' b n r.tail o k) => sum_any w' b n o k r.tail f h' ho2 (by have := HF.out; have := HLX.out; have := Px.sees_len (by simp) hs5; simp; omega))
        obtain ⟨rr, hrr⟩ : ∃ rr, rr = Px.sum f o r.tail := ⟨_, rfl⟩
        rw [← hrr] at HU2 ⊢
        clear hrr hop hs5 hn0 hn1 hn2 hn3 hn4
        go_enter Tryz.func238, Tryz.ntmps238
        go_wp2_with fail
        refine (HU.out).mono ?_
        rintro e w2 ⟨va, rfl, h3, h4, h5⟩
        have H3 := Hd h3
        have H4 := Hd h4
        have H5 := Hd h5
        obtain ⟨xa, rfl⟩ := h3.ptr
        clear h3 h4 h5 HU
        go_wp2_with fail
        obtain ⟨HQ, HX, HB, HK1⟩ := start_c xa H4 H3 H5
        have HLTB := Hd H4.out.lt
        refine (same (HN0.out _ HQ.out)) ?_
        go_wp2_with fail
        refine (same (HN1.out _ HQ.out)) ?_
        go_wp2_with fail
        refine (same (HN2.out _ HQ.out)) ?_
        go_wp2_with fail
        refine (same (HN3.out _ HQ.out)) ?_
        go_wp2_with fail
        refine (same (HN4.out _ HQ.out)) ?_
        go_wp2_with fail
        refine (HSY.out _ HQ.out).mono ?_
        rintro e w3 ⟨rfl, h6, h7⟩
        have H6 := Hd h6
        have HK2 := zV HK1 h7
        have HX2 := Hd (HX.out.keep h7 (by simp))
        have hb3 := block_keep HB.out h7 (by have := HLTB.out; simp; omega)
        have HB3 := Hd hb3
        have c0 := row_cell hb3 0
        have f0 := row_free hb3 0
        simp only [List.getElem?_toArray, List.getElem?_cons_zero] at c0
        clear h6 h7 hb3
        obtain ⟨x, hx⟩ : ∃ x, x = w2.heap.size := ⟨_, rfl⟩
        have HXX := Hd hx
        rw [← hx] at c0 f0 HB3
        simp only [← hx]
        clear hx
        go_wp2_with fail
        have hbx : b < x := by rw [HXX.out]; exact HLTB.out
        have HBX := Hd hbx
        have HROW := Hd (show (w3.setCell ⟨x, 0, none⟩ (.int .i64 0)).heap[x]? = some (.cells #[.int .i64 0, .pointer (some ⟨xa, 0, none⟩), .pointer none, .pointer none, .pointer none, .string .empty] 105 (0, 0)) by rw [row_set HB3.out]; rfl)
        have HX3 := Hd (show ExAt (w3.setCell ⟨x, 0, none⟩ (.int .i64 0)) b a (.pointer (some ⟨xa, 0, none⟩)) from HX2.out.setCond HB3.out)
        have HK3 := Hd (show Keeps [b] w (w3.setCell ⟨x, 0, none⟩ (.int .i64 0)) from HK2.out.setCell (fun h => by have h5 := H5.out.size; have hxx := HXX.out; simp at h; omega) _)
        have HPA := Hd (show PAt (w3.setCell ⟨x, 0, none⟩ (.int .i64 0)) b n r.tail o k from H6.out.setOther HBX.out)
        clear hbx c0 f0
        obtain ⟨ww, hww⟩ : ∃ ww, ww = w3.setCell ⟨x, 0, none⟩ (.int .i64 0) := ⟨_, rfl⟩
        rw [← hww] at HROW HX3 HK3 HPA
        try simp only [← hww]
        clear hww
        refine (HU2.out _ HPA.out).mono ?_
        intro e w5 hr
        cases rr with
        | err z r2 =>
         obtain ⟨rfl, h4, h5⟩ := hr
         have H8 := Hd h4
         have HK4 := zV HK3 h5
         clear h4 h5
         go_wp2
         exact ⟨rfl, rfl, H8.out, HK4.out⟩
        | ok c r2 =>
         obtain ⟨vc, rfl, h3, h4, h5⟩ := hr
         have H3C := Hd h3
         have H8 := Hd h4
         have HK4 := zV HK3 h5
         have HX4 := Hd (HX3.out.keep h5 (by simp))
         have hb5 := block_keep HROW.out h5 (by have := HBX.out; simp; omega)
         have HB5 := Hd hb5
         obtain ⟨c2, f2⟩ := rowi hb5 2
         obtain ⟨xc, rfl⟩ := h3.ptr
         clear h3 h4 h5 hb5
         go_wp2_with fail
         go_ret
         exact ⟨_, rfl, ⟨x, _, _, rfl, HBX.out, by rw [row_set HB5.out]; rfl, HX4.out.setCond HB5.out, H3C.out.setCond HB5.out⟩, H8.out.setOther HBX.out, HK4.out.setCell (fun h => by have h5 := H5.out.size; have hxx := HXX.out; simp at h; omega) _⟩
       ·
        have hn5 : Px.sees r [61, 61] = false := by simpa using hs5
        clear hs5
        have hop : Px.cmpOp r = none := by unfold Px.cmpOp; simp only [hn0, hn1, hn2, hn3, hn4, hn5]; simp
        rw [hop]
        show Calls _ _ _ _ (RP CnAt _ w b n o (.err 51 r))
        have HN0 := Hd (fun w' (h' : PAt w' b n r o k) => passes_no w' b n o k r h' [33, 61] hn0)
        have HN1 := Hd (fun w' (h' : PAt w' b n r o k) => passes_no w' b n o k r h' [60] hn1)
        have HN2 := Hd (fun w' (h' : PAt w' b n r o k) => passes_no w' b n o k r h' [60, 61] hn2)
        have HN3 := Hd (fun w' (h' : PAt w' b n r o k) => passes_no w' b n o k r h' [62] hn3)
        have HN4 := Hd (fun w' (h' : PAt w' b n r o k) => passes_no w' b n o k r h' [62, 61] hn4)
        have HSY := Hd (fun w' (h' : PAt w' b n r o k) => pass_no w' b n o k r h' [61, 61] hn5)
        clear hop hn0 hn1 hn2 hn3 hn4 hn5
        go_enter Tryz.func238, Tryz.ntmps238
        go_wp2_with fail
        refine (HU.out).mono ?_
        rintro e w2 ⟨va, rfl, h3, h4, h5⟩
        have H3 := Hd h3
        have H4 := Hd h4
        have H5 := Hd h5
        obtain ⟨xa, rfl⟩ := h3.ptr
        clear h3 h4 h5 HU
        go_wp2_with fail
        obtain ⟨HQ, HX, HB, HK1⟩ := start_c xa H4 H3 H5
        have HLTB := Hd H4.out.lt
        refine (same (HN0.out _ HQ.out)) ?_
        go_wp2_with fail
        refine (same (HN1.out _ HQ.out)) ?_
        go_wp2_with fail
        refine (same (HN2.out _ HQ.out)) ?_
        go_wp2_with fail
        refine (same (HN3.out _ HQ.out)) ?_
        go_wp2_with fail
        refine (same (HN4.out _ HQ.out)) ?_
        go_wp2_with fail
        refine (HSY.out _ HQ.out).mono ?_
        rintro e w3 ⟨rfl, rfl⟩
        go_wp2
        exact ⟨rfl, rfl, ⟨_, _, HQ.out⟩, HK1.out⟩
end
section
set_option maxHeartbeats 4000000
set_option maxRecDepth 100000
open Go.RowKit Go.Shelf
open Lx (Tok Tx)
open Px (Ex Cn)
structure CC (f : Nat) : Prop where
 not : ∀ w b n ts o k, PAt w b n ts o k → o ≤ 1000 → 4 * ts.length + 4 ≤ f → Calls Tryz.prog 230 #[pp b] w (RP CnAt (fun _ => k) w b n o (Px.not f o ts))
 and : ∀ w b n ts o k, PAt w b n ts o k → o ≤ 1000 → 4 * ts.length + 5 ≤ f → Calls Tryz.prog 223 #[pp b] w (RP CnAt (fun _ => k) w b n o (Px.and f o ts))
 cond : ∀ w b n ts o k, PAt w b n ts o k → o ≤ 1000 → 4 * ts.length + 6 ≤ f → Calls Tryz.prog 207 #[pp b] w (RP CnAt (fun _ => k) w b n o (Px.cond f o ts))
theorem not_null (w : World) (b n o k : Nat) (ts : List Tok) (h : PAt w b n ts o k) (hn : Px.sees ts [33] = false) (hn2 : Px.sees ts [40] = false) (hy : Px.isNull ts = true) :
 Calls Tryz.prog 230 #[pp b] w (RP CnAt (fun _ => k) w b n o (.ok (Px.nullCn ts) (ts.drop 3))) := by
 have HS := Hd (sees_any w b n o k ts h [33])
 rw [hn] at HS
 have HS2 := Hd (sees_any w b n o k ts h [40])
 rw [hn2] at HS2
 have HS3 := Hd (seesNull_any w b n o k ts h)
 rw [hy] at HS3
 have HN := Hd (nullTest_any w b n o k ts h hy)
 clear h hn hn2 hy
 go_enter Tryz.func230, Tryz.ntmps230
 go_wp2_with fail
 refine (same (HS.out)) ?_
 go_wp2_with fail
 refine (same (HS2.out)) ?_
 go_wp2_with fail
 refine (same (HS3.out)) ?_
 go_wp2_with fail
 refine (HN.out).mono ?_
 rintro e w' ⟨v, rfl, h3, h4, h5⟩
 have H3 := Hd h3
 have H4 := Hd h4
 have H5 := Hd h5
 clear h3 h4 h5
 go_wp2_with fail
 go_ret
 exact ⟨_, rfl, H3.out, H4.out, H5.out⟩
theorem not_cmp (w : World) (b n o k : Nat) (ts : List Tok) (h : PAt w b n ts o k) (hn : Px.sees ts [33] = false) (hn2 : Px.sees ts [40] = false) (hn3 : Px.isNull ts = false) (ho2 : o ≤ 1000) (f : Nat) (hf : 4 * ts.length + 3 ≤ f) :
 Calls Tryz.prog 230 #[pp b] w (RP CnAt (fun _ => k) w b n o (Px.cmp f o ts)) := by
 have HS := Hd (sees_any w b n o k ts h [33])
 rw [hn] at HS
 have HS2 := Hd (sees_any w b n o k ts h [40])
 rw [hn2] at HS2
 have HS3 := Hd (seesNull_any w b n o k ts h)
 rw [hn3] at HS3
 have HN := Hd (cmp_any w b n o k ts h ho2 f hf)
 obtain ⟨rr, hrr⟩ : ∃ rr, rr = Px.cmp f o ts := ⟨_, rfl⟩
 rw [← hrr] at HN ⊢
 clear h hn hn2 hn3 hf hrr
 go_enter Tryz.func230, Tryz.ntmps230
 go_wp2_with fail
 refine (same (HS.out)) ?_
 go_wp2_with fail
 refine (same (HS2.out)) ?_
 go_wp2_with fail
 refine (same (HS3.out)) ?_
 go_wp2_with fail
 refine (HN.out).mono ?_
 intro e w' hr
 cases rr with
 | ok a r =>
  obtain ⟨v, rfl, h3, h4, h5⟩ := hr
  have H3 := Hd h3
  have H4 := Hd h4
  have H5 := Hd h5
  clear h3 h4 h5
  go_wp2_with fail
  go_ret
  exact ⟨_, rfl, H3.out, H4.out, H5.out⟩
 | err z r =>
  obtain ⟨rfl, h4, h5⟩ := hr
  have H4 := Hd h4
  have H5 := Hd h5
  clear h4 h5
  go_wp2
  exact ⟨rfl, rfl, H4.out, H5.out⟩
theorem not_step (f : Nat) (w : World) (b n o k : Nat) (ts : List Tok) (h : PAt w b n ts o k) (ho2 : o ≤ 1000) (hf : 4 * ts.length + 3 ≤ f)
 (hU : o < 40 → ∀ w1, ts ≠ [] → PAt w1 b n ts.tail (o + 1) k → Calls Tryz.prog 230 #[pp b] w1 (RP CnAt (fun _ => k) w1 b n (o + 1) (Px.not f (o + 1) ts.tail)))
 (hS : o < 40 → ∀ w1, ts ≠ [] → PAt w1 b n ts.tail (o + 1) k → Calls Tryz.prog 207 #[pp b] w1 (RP CnAt (fun _ => k) w1 b n (o + 1) (Px.cond f (o + 1) ts.tail))) :
 Calls Tryz.prog 230 #[pp b] w (RP CnAt (fun _ => k) w b n o (Px.not (f + 1) o ts)) := by
 have hne : ∀ {s}, s ≠ [] → Px.sees ts s = true → ts ≠ [] := fun hs h => by
  obtain ⟨t, r, rfl, _⟩ := sees_cons hs h
  simp
 have hstay : ∀ (z : Nat) (e : Ending) (w' : World), (e = .panicked (died (z : Int)) ∧ w = w') → RP CnAt (fun _ => k) w b n o (.err z ts) e w' := fun z e w' ⟨h1, h2⟩ => by
  subst h2
  exact ⟨h1, ⟨_, _, h⟩, Keeps.refl _ _⟩
 unfold Px.not
 by_cases h1 : Px.sees ts [33] = true
 ·
  rw [if_pos h1]
  by_cases ho : 40 ≤ o
  ·
   rw [if_pos ho]
   exact (not_not_deep w b n o k ts h h1 ho ho2).mono fun e w' => hstay 52 e w'
  ·
   rw [if_neg ho]
   have := not_not w b n o k ts h h1 (by omega) _ (fun w1 h' => hU (by omega) w1 (hne (by simp) h1) h')
   revert this
   generalize Px.not f (o + 1) ts.tail = rr
   intro this
   cases rr <;> exact this
 ·
  have h1' : Px.sees ts [33] = false := by simpa using h1
  rw [if_neg h1]
  by_cases h2 : Px.sees ts [40] = true
  ·
   rw [if_pos h2]
   by_cases ho : 40 ≤ o
   ·
    rw [if_pos ho]
    exact (not_par_deep w b n o k ts h h1' h2 ho ho2).mono fun e w' => hstay 52 e w'
   ·
    rw [if_neg ho]
    have := not_par w b n o k ts h h1' h2 (by omega) _ (fun w1 h' => hS (by omega) w1 (hne (by simp) h2) h')
    revert this
    generalize Px.cond f (o + 1) ts.tail = rr
    intro this
    cases rr <;> exact this
  ·
   have h2' : Px.sees ts [40] = false := by simpa using h2
   rw [if_neg h2]
   by_cases h3 : Px.isNull ts = true
   ·
    rw [if_pos h3]
    exact not_null w b n o k ts h h1' h2' h3
   ·
    have h3' : Px.isNull ts = false := by simpa using h3
    rw [if_neg h3]
    exact not_cmp w b n o k ts h h1' h2' h3' ho2 f hf
theorem and_step (f : Nat) (w : World) (b n o k : Nat) (ts : List Tok) (h : PAt w b n ts o k) (ho2 : o ≤ 1000) (hf : 4 * ts.length + 5 ≤ f + 1) (hE : ∀ g, g ≤ f → CC g) :
 Calls Tryz.prog 223 #[pp b] w (RP CnAt (fun _ => k) w b n o (Px.and (f + 1) o ts)) := by
 have HU := Hd ((hE f (Nat.le_refl _)).not w b n ts o k h ho2 (by omega))
 have HP := Hd (show Px.and (f + 1) o ts = (Px.not f o ts).bind (fun a r => Px.andL f o a r) from by unfold Px.and Px.R.bind; cases Px.not f o ts <;> rfl)
 have HLEN := Hd ((Px.cn_len f).1 o ts)
 obtain ⟨rr, hrr⟩ : ∃ rr, rr = Px.not f o ts := ⟨_, rfl⟩
 rw [← hrr] at HU HP HLEN
 rw [HP.out]
 have HE := Hd hE
 have HF := Hd hf
 clear h hrr HP hE hf
 cases rr with
 | err z r =>
  show Calls _ _ _ _ (RP CnAt _ w b n o (.err z r))
  go_enter Tryz.func223, Tryz.ntmps223
  go_wp2_with fail
  refine (HU.out).mono ?_
  rintro e w1 ⟨rfl, h4, h5⟩
  have H4 := Hd h4
  have H5 := Hd h5
  clear h4 h5
  go_wp2
  exact ⟨rfl, rfl, H4.out, H5.out⟩
 | ok a r =>
  have hl := HLEN.out a r rfl
  show Calls _ _ _ _ (RP CnAt _ w b n o (Px.andL f o a r))
  obtain ⟨R, hR⟩ : ∃ R, R = Px.andL f o a r := ⟨_, rfl⟩
  rw [← hR]
  have HR := Hd hR
  have HL := Hd hl
  clear hR hl HLEN
  go_enter Tryz.func223, Tryz.ntmps223
  go_wp2_with fail
  refine (HU.out).mono ?_
  rintro e w1 ⟨v, rfl, h3, h4, h5⟩
  have H3 := Hd h3
  have H4 := Hd h4
  have H5 := Hd h5
  clear h3 h4 h5 HU
  go_wp2_with fail
  go_loopw [3] (fun ev wr => ∃ (g : Nat) (x : Cn) (l : List Tok), g ≤ f ∧ 4 * l.length + 5 ≤ g ∧ CnAt wr b x ev ∧ PAt wr b n l o k ∧ Keeps [b] w wr ∧ Px.andL g o x l = R) (fun _ wr => leftOf wr b)
  case atStart => exact ⟨f, a, r, Nat.le_refl _, by have := HF.out; have := HL.out; omega, H3.out, H4.out, H5.out, HR.out.symm⟩
  case round =>
   obtain ⟨g, x, l, hg, hgl, hx, hl2, hk, hd⟩ := hrel
   match g, hgl with
   | g + 1, hgl =>
   have HX := Hd hx
   have HL2 := Hd hl2
   have HK := Hd hk
   have HD := Hd hd
   have HLT : ∀ (c : Tx), c ≠ [] → Px.sees l c = true → l.tail.length + 1 = l.length := fun c h0 hs => by
    obtain ⟨t, r, rfl, _⟩ := sees_cons h0 hs
    simp
   have HLT := Hd HLT
   clear hx hl2 hk hd
   by_cases hs38 : Px.sees l [38, 38] = true
   ·
    have HP := Hd (passes_yes wr b n o k l HL2.out [38, 38] (by simp) hs38)
    have hop := hs38
    have hdec := HD.out
    unfold Px.andL at hdec
    rw [if_pos hop] at hdec
    try simp only at hdec
    have HU := Hd (fun w' (h' : PAt w' b n l.tail o k) => (HE.out g (by omega)).not w' b n l.tail o k h' ho2 (by have := HLT.out _ (by simp) hs38; omega))
    have HLEN := Hd ((Px.cn_len g).1 o l.tail)
    have hll := HLT.out _ (by simp) hs38
    obtain ⟨rr, hrr⟩ : ∃ rr, rr = Px.not g o l.tail := ⟨_, rfl⟩
    rw [← hrr] at HU HLEN hdec
    have HDEC := Hd hdec
    have HLL := Hd hll
    obtain ⟨xx, rfl⟩ := HX.out.ptr
    clear hrr hdec hop hll HD HLT hs38
    go_wp2_with fail
    refine (HP.out).mono ?_
    rintro e w2 ⟨rfl, h1, h2⟩
    have H1 := Hd h1
    have H2 := zV HK h2
    have H2B := Hd h2
    clear h1 h2
    go_wp2_with fail
    refine (HU.out _ H1.out).mono ?_
    intro e w3 hr
    cases rr with
    | err z r =>
     obtain ⟨rfl, h4, h5⟩ := hr
     have H4 := Hd h4
     have H5X := zV H2 h5
     clear h4 h5
     go_wp2
     rw [← HDEC.out]
     exact ⟨rfl, rfl, H4.out, H5X.out⟩
    | ok c r =>
     obtain ⟨vc, rfl, h3, h4, h5⟩ := hr
     have H3 := Hd h3
     have H4 := Hd h4
     have H5B := Hd h5
     have H5X := zV H2 h5
     obtain ⟨xc, rfl⟩ := h3.ptr
     have hl2 := HLEN.out c r rfl
     have HL3 := Hd hl2
     clear h3 h4 h5 hl2
     go_wp2_with fail
     have hrow : CnAt (w3.alloc (.cells #[.int .i64 6, .pointer none, .pointer none, .pointer (some ⟨xx, 0, none⟩), .pointer (some ⟨xc, 0, none⟩), .string .empty] 105)) b (.two 6 x c) (.pointer (some ⟨w3.heap.size, 0, none⟩)) := ⟨_, _, _, rfl, H4.out.lt, heap_alloc_new _ _, ((HX.out.keep H2B.out (by simp)).keep H5B.out (by simp)).alloc _, H3.out.alloc _⟩
     have HROW := Hd hrow
     clear hrow
     go_roundw
     · exact ⟨g, .two 6 x c, r, by omega, by have := HL3.out; have := HLL.out; omega, HROW.out, H4.out.keep ((Keeps.refl [] _).alloc _), H5X.out.alloc _, HDEC.out⟩
     ·
      rw [leftOf_alloc H4.out, HL2.out.leftOf]
      have := HL3.out; have := HLL.out; omega
   ·
    have hn38 : Px.sees l [38, 38] = false := by simpa using hs38
    clear hs38
    have HN38 := Hd (passes_no wr b n o k l HL2.out [38, 38] hn38)
    have hop : ¬ Px.sees l [38, 38] = true := by simp [hn38]
    have hdec := HD.out
    unfold Px.andL at hdec
    rw [if_neg hop] at hdec
    have HDEC := Hd hdec
    obtain ⟨xx, rfl⟩ := HX.out.ptr
    clear hdec hop HD HLT hn38
    go_wp2_with fail
    refine (same (HN38.out)) ?_
    go_wp2_with fail
    go_ret
    rw [← HDEC.out]
    exact ⟨_, rfl, HX.out, HL2.out, HK.out⟩
theorem cond_step (f : Nat) (w : World) (b n o k : Nat) (ts : List Tok) (h : PAt w b n ts o k) (ho2 : o ≤ 1000) (hf : 4 * ts.length + 6 ≤ f + 1) (hE : ∀ g, g ≤ f → CC g) :
 Calls Tryz.prog 207 #[pp b] w (RP CnAt (fun _ => k) w b n o (Px.cond (f + 1) o ts)) := by
 have HU := Hd ((hE f (Nat.le_refl _)).and w b n ts o k h ho2 (by omega))
 have HP := Hd (show Px.cond (f + 1) o ts = (Px.and f o ts).bind (fun a r => Px.condL f o a r) from by unfold Px.cond Px.R.bind; cases Px.and f o ts <;> rfl)
 have HLEN := Hd ((Px.cn_len f).2.2.1 o ts)
 obtain ⟨rr, hrr⟩ : ∃ rr, rr = Px.and f o ts := ⟨_, rfl⟩
 rw [← hrr] at HU HP HLEN
 rw [HP.out]
 have HE := Hd hE
 have HF := Hd hf
 clear h hrr HP hE hf
 cases rr with
 | err z r =>
  show Calls _ _ _ _ (RP CnAt _ w b n o (.err z r))
  go_enter Tryz.func207, Tryz.ntmps207
  go_wp2_with fail
  refine (HU.out).mono ?_
  rintro e w1 ⟨rfl, h4, h5⟩
  have H4 := Hd h4
  have H5 := Hd h5
  clear h4 h5
  go_wp2
  exact ⟨rfl, rfl, H4.out, H5.out⟩
 | ok a r =>
  have hl := HLEN.out a r rfl
  show Calls _ _ _ _ (RP CnAt _ w b n o (Px.condL f o a r))
  obtain ⟨R, hR⟩ : ∃ R, R = Px.condL f o a r := ⟨_, rfl⟩
  rw [← hR]
  have HR := Hd hR
  have HL := Hd hl
  clear hR hl HLEN
  go_enter Tryz.func207, Tryz.ntmps207
  go_wp2_with fail
  refine (HU.out).mono ?_
  rintro e w1 ⟨v, rfl, h3, h4, h5⟩
  have H3 := Hd h3
  have H4 := Hd h4
  have H5 := Hd h5
  clear h3 h4 h5 HU
  go_wp2_with fail
  go_loopw [3] (fun ev wr => ∃ (g : Nat) (x : Cn) (l : List Tok), g ≤ f ∧ 4 * l.length + 6 ≤ g ∧ CnAt wr b x ev ∧ PAt wr b n l o k ∧ Keeps [b] w wr ∧ Px.condL g o x l = R) (fun _ wr => leftOf wr b)
  case atStart => exact ⟨f, a, r, Nat.le_refl _, by have := HF.out; have := HL.out; omega, H3.out, H4.out, H5.out, HR.out.symm⟩
  case round =>
   obtain ⟨g, x, l, hg, hgl, hx, hl2, hk, hd⟩ := hrel
   match g, hgl with
   | g + 1, hgl =>
   have HX := Hd hx
   have HL2 := Hd hl2
   have HK := Hd hk
   have HD := Hd hd
   have HLT : ∀ (c : Tx), c ≠ [] → Px.sees l c = true → l.tail.length + 1 = l.length := fun c h0 hs => by
    obtain ⟨t, r, rfl, _⟩ := sees_cons h0 hs
    simp
   have HLT := Hd HLT
   clear hx hl2 hk hd
   by_cases hs124 : Px.sees l [124, 124] = true
   ·
    have HP := Hd (passes_yes wr b n o k l HL2.out [124, 124] (by simp) hs124)
    have hop := hs124
    have hdec := HD.out
    unfold Px.condL at hdec
    rw [if_pos hop] at hdec
    try simp only at hdec
    have HU := Hd (fun w' (h' : PAt w' b n l.tail o k) => (HE.out g (by omega)).and w' b n l.tail o k h' ho2 (by have := HLT.out _ (by simp) hs124; omega))
    have HLEN := Hd ((Px.cn_len g).2.2.1 o l.tail)
    have hll := HLT.out _ (by simp) hs124
    obtain ⟨rr, hrr⟩ : ∃ rr, rr = Px.and g o l.tail := ⟨_, rfl⟩
    rw [← hrr] at HU HLEN hdec
    have HDEC := Hd hdec
    have HLL := Hd hll
    obtain ⟨xx, rfl⟩ := HX.out.ptr
    clear hrr hdec hop hll HD HLT hs124
    go_wp2_with fail
    refine (HP.out).mono ?_
    rintro e w2 ⟨rfl, h1, h2⟩
    have H1 := Hd h1
    have H2 := zV HK h2
    have H2B := Hd h2
    clear h1 h2
    go_wp2_with fail
    refine (HU.out _ H1.out).mono ?_
    intro e w3 hr
    cases rr with
    | err z r =>
     obtain ⟨rfl, h4, h5⟩ := hr
     have H4 := Hd h4
     have H5X := zV H2 h5
     clear h4 h5
     go_wp2
     rw [← HDEC.out]
     exact ⟨rfl, rfl, H4.out, H5X.out⟩
    | ok c r =>
     obtain ⟨vc, rfl, h3, h4, h5⟩ := hr
     have H3 := Hd h3
     have H4 := Hd h4
     have H5B := Hd h5
     have H5X := zV H2 h5
     obtain ⟨xc, rfl⟩ := h3.ptr
     have hl2 := HLEN.out c r rfl
     have HL3 := Hd hl2
     clear h3 h4 h5 hl2
     go_wp2_with fail
     have hrow : CnAt (w3.alloc (.cells #[.int .i64 7, .pointer none, .pointer none, .pointer (some ⟨xx, 0, none⟩), .pointer (some ⟨xc, 0, none⟩), .string .empty] 105)) b (.two 7 x c) (.pointer (some ⟨w3.heap.size, 0, none⟩)) := ⟨_, _, _, rfl, H4.out.lt, heap_alloc_new _ _, ((HX.out.keep H2B.out (by simp)).keep H5B.out (by simp)).alloc _, H3.out.alloc _⟩
     have HROW := Hd hrow
     clear hrow
     go_roundw
     · exact ⟨g, .two 7 x c, r, by omega, by have := HL3.out; have := HLL.out; omega, HROW.out, H4.out.keep ((Keeps.refl [] _).alloc _), H5X.out.alloc _, HDEC.out⟩
     ·
      rw [leftOf_alloc H4.out, HL2.out.leftOf]
      have := HL3.out; have := HLL.out; omega
   ·
    have hn124 : Px.sees l [124, 124] = false := by simpa using hs124
    clear hs124
    have HN124 := Hd (passes_no wr b n o k l HL2.out [124, 124] hn124)
    have hop : ¬ Px.sees l [124, 124] = true := by simp [hn124]
    have hdec := HD.out
    unfold Px.condL at hdec
    rw [if_neg hop] at hdec
    have HDEC := Hd hdec
    obtain ⟨xx, rfl⟩ := HX.out.ptr
    clear hdec hop HD HLT hn124
    go_wp2_with fail
    refine (same (HN124.out)) ?_
    go_wp2_with fail
    go_ret
    rw [← HDEC.out]
    exact ⟨_, rfl, HX.out, HL2.out, HK.out⟩
theorem cc : ∀ f, CC f := fun f => by
 induction f using Nat.strongRecOn with
 | _ f ih =>
  match f, ih with
  | 0, _ => exact ⟨fun w b n ts o k h ho hf => by omega, fun w b n ts o k h ho hf => by omega, fun w b n ts o k h ho hf => by omega⟩
  | f + 1, ih =>
   have hle : ∀ g, g ≤ f → CC g := fun g hg => ih g (by omega)
   have hlt : ∀ {ts : List Tok}, ts ≠ [] → ts.tail.length + 1 = ts.length := fun {ts} h => by
    match ts, h with
    | t :: r, _ => simp
   refine ⟨fun w b n ts o k h ho hf => ?_, fun w b n ts o k h ho hf => and_step f w b n o k ts h ho hf hle, fun w b n ts o k h ho hf => cond_step f w b n o k ts h ho hf hle⟩
   exact not_step f w b n o k ts h ho (by omega) (fun ho' w1 hne h' => (hle f (Nat.le_refl _)).not w1 b n ts.tail (o + 1) k h' (by omega) (by have := hlt hne; omega)) (fun ho' w1 hne h' => (hle f (Nat.le_refl _)).cond w1 b n ts.tail (o + 1) k h' (by omega) (by have := hlt hne; omega))
theorem cond_any (w : World) (b n o k : Nat) (ts : List Tok) (f : Nat) (h : PAt w b n ts o k) (ho : o ≤ 1000) (hf : 4 * ts.length + 6 ≤ f) :
 Calls Tryz.prog 207 #[pp b] w (RP CnAt (fun _ => k) w b n o (Px.cond f o ts)) := (cc f).cond w b n ts o k h ho hf
end
end Go.Proofs.YtbikifibfaaggaaGreatDoor
