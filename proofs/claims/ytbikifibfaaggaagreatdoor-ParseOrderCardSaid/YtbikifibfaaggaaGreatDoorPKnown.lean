/- What every statement of this stage asks first. -/
import Derived.Test.YtbikifibfaaggaaGreatDoorPAtG
import Derived.Test.YtbikifibfaaggaaGreatDoorPRun
namespace Go.Proofs.YtbikifibfaaggaaGreatDoor
open Go.RowKit Go.Shelf
open Lx (Tok Tx)
open Px (Ex Cn Sm Vr Gl)
def Yes (w : World) (e : Ending) (w' : World) : Prop := e = .returned (.bool true) ∧ Keeps [] w w'
theorem row_at {w : World} {base : Nat} {T : TypeId} {sz n : Nat} {v : Value} {xs : List Value} (h : w.ownsRow base T sz v n xs) (hn : n ≠ 0) : ∃ g cap, v = .slice (some ⟨g, 0, none⟩) n cap ∧ ∀ j u, xs[j]? = some u → w.cell? ⟨g, j, none⟩ = some u := by
  rcases h.2 with ⟨_, h0⟩ | ⟨g, cap, cur, rfl, hb, hg, rest⟩
  · exact absurd h0 hn
  · refine ⟨g, cap, rfl, fun j u hj => ?_⟩
    have := h.cells (g := g) rfl j u hj
    rwa [Addr.add_lit, Nat.zero_add] at this
set_option maxHeartbeats 1000000 in
set_option maxRecDepth 100000 in
theorem pknown_any (w : World) (he : ErrAt w) : Calls Tryz.prog 12 #[] w (Yes w) := by
  have H1 := Lib.hid (fun w' (h : ErrAt w') => func_any w' [102, 110, 32, 102, 40, 120, 41, 32, 123, 32, 114, 101, 116, 117, 114, 110, 32, 120, 32, 43, 32, 49, 59, 32, 125] (by decide) h)
  rw [Px.ex1] at H1
  have H2 := Lib.hid (fun w' (h : ErrAt w') => func_any w' [102, 110, 32, 102, 40, 120, 41, 32, 123, 32, 114, 101, 116, 117, 114, 110, 32, 59, 32, 125] (by decide) h)
  rw [Px.ex2] at H2
  have H3 := Lib.hid (fun w' (h : ErrAt w') => globs_any w' [99, 101, 108, 108, 32, 99, 59, 32, 97, 114, 114, 97, 121, 32, 97, 91, 51, 93, 59] (by decide) h)
  rw [Px.ex3] at H3
  have HE := Lib.hid he
  clear he
  go_enter Tryz.func12, Tryz.ntmps12
  go_wp2_with fail
  refine (H1.out w HE.out).mono ?_
  rintro e w1 ⟨v, rfl, hk1, b1, -, vp, vl, vb, rfl, hp, hl, B, ⟨cs, hown, -, vs, ds, rfl, hsa, hds⟩, -⟩
  obtain rfl : ds = [] := hds
  obtain ⟨ve, vf, vc, va, vt, vl2, rfl, ⟨x, xa, xb, rfl, -, hxr, -⟩, -⟩ := hsa
  obtain ⟨Ap, cp, hvp⟩ : ∃ A c, vp = .slice A 1 c := hp.form
  obtain ⟨Al, cl, hvl⟩ : ∃ A c, vl = .slice A 0 c := hl.form
  obtain ⟨g, cb, hvb, hcells⟩ := row_at hown (by simp)
  have hvb' : vb = .slice (some ⟨g, 0, none⟩) 1 cb := hvb
  subst hvp hvl
  subst hvb'
  have hs : strO [102] = (⟨#[102]⟩ : ByteArray) := rfl
  rw [hs]
  clear hs
  have HG0 := Lib.hid (hcells 0 (.int .i64 9) rfl)
  have HG3 := Lib.hid (hcells 3 (.pointer (some ⟨x, 0, none⟩)) rfl)
  have HX0 := Lib.hid (show w1.cell? ⟨x, 0, none⟩ = some (.int .i64 2) from row_cell hxr 0)
  have HK1 := Lib.hid (hk1.alloc (.cells #[.string ⟨#[102]⟩, .slice Ap 1 cp, .slice Al 0 cl, .slice (some ⟨g, 0, none⟩) 1 cb] 26))
  have HB := Lib.hid (show (w1.alloc (.cells #[.string ⟨#[102]⟩, .slice Ap 1 cp, .slice Al 0 cl, .slice (some ⟨g, 0, none⟩) 1 cb] 26)).heap[w1.heap.size]? = some (.cells #[.string ⟨#[102]⟩, .slice Ap 1 cp, .slice Al 0 cl, .slice (some ⟨g, 0, none⟩) 1 cb] 26 (0, 0)) from heap_alloc_new _ _)
  have hka := (Keeps.refl [] w1).alloc (.cells #[.string ⟨#[102]⟩, .slice Ap 1 cp, .slice Al 0 cl, .slice (some ⟨g, 0, none⟩) 1 cb] 26)
  have HG0 := Lib.hid (hka.cell_some HG0.out (by simp))
  have HG3 := Lib.hid (hka.cell_some HG3.out (by simp))
  have HX0 := Lib.hid (hka.cell_some HX0.out (by simp))
  clear hk1 hp hl hown hcells hxr hvb hka
  go_wp2_with fail
  refine (H2.out _ (HE.out.keep HK1.out)).mono ?_
  rintro e w2 ⟨v, rfl, hk2, rfl⟩
  have HK2 := Lib.hid (HK1.out.trans hk2 (by simp))
  have HB := Lib.hid (block_keep HB.out hk2 (by simp))
  have HG0 := Lib.hid (hk2.cell_some HG0.out (by simp))
  have HG3 := Lib.hid (hk2.cell_some HG3.out (by simp))
  have HX0 := Lib.hid (hk2.cell_some HX0.out (by simp))
  clear hk2
  have hkz := (Keeps.refl [] w2).alloc (.cells #[.string .empty, .slice none 0 0, .slice none 0 0, .slice none 0 0] 26)
  have HK2 := Lib.hid (HK2.out.trans hkz (by simp))
  have HB := Lib.hid (block_keep HB.out hkz (by simp))
  have HG0 := Lib.hid (hkz.cell_some HG0.out (by simp))
  have HG3 := Lib.hid (hkz.cell_some HG3.out (by simp))
  have HX0 := Lib.hid (hkz.cell_some HX0.out (by simp))
  clear hkz
  go_wp2_with fail
  refine (H3.out _ (HE.out.keep HK2.out)).mono ?_
  rintro e w3 ⟨v, rfl, hk3, b3, -, vc3, va3, rfl, hc3, ha3⟩
  obtain ⟨Ac, cc, hvc⟩ : ∃ A c, vc3 = .slice A 1 c := row_slice hc3
  obtain ⟨g3, ca, hva, hcells⟩ := row_at ha3 (by simp)
  have hva' : va3 = .slice (some ⟨g3, 0, none⟩) 1 ca := hva
  subst hvc hva'
  have hk4 := (Keeps.refl [] w3).alloc (.cells #[.slice Ac 1 cc, .slice (some ⟨g3, 0, none⟩) 1 ca] 35)
  have HK3 := Lib.hid ((HK2.out.trans hk3 (by simp)).trans hk4 (by simp))
  have hb3 := block_keep HB.out hk3 (by simp)
  have hb4 := block_keep hb3 hk4 (by simp)
  have hg0 := hk3.cell_some HG0.out (by simp)
  have hg3 := hk3.cell_some HG3.out (by simp)
  have hx0 := hk3.cell_some HX0.out (by simp)
  have hg0' := hk4.cell_some hg0 (by simp)
  have hg3' := hk4.cell_some hg3 (by simp)
  have hx0' := hk4.cell_some hx0 (by simp)
  have hl1 := hcells 1 (.int .i64 3) rfl
  have hl1' := hk4.cell_some hl1 (by simp)
  have c0 := row_cell hb4 0
  have c1 := row_cell hb4 1
  have c2 := row_cell hb4 2
  have c3 := row_cell hb4 3
  have d0 := row_cell hb3 0
  have d1 := row_cell hb3 1
  have d2 := row_cell hb3 2
  have d3 := row_cell hb3 3
  simp only [List.getElem?_toArray, List.getElem?_cons_zero, List.getElem?_cons_succ] at c0 c1 c2 c3 d0 d1 d2 d3
  clear hk3 hc3 ha3 hcells hva hk4 hb3 hb4
  go_wp2_with fail
  all_goals
    first
      | (go_ret; exact ⟨rfl, HK3.out⟩)
      | trace_state
end Go.Proofs.YtbikifibfaaggaaGreatDoor
