/- attempt at globals; Globals. -/
import Derived.Test.YtbikifibfaaggaaGreatDoorPGl2
namespace Go.Proofs.YtbikifibfaaggaaGreatDoor
open Go.RowKit Go.Shelf
open Lx (Tok Tx)
open Px (Ex Cn Sm Vr Gl)

theorem GlAt.keepHi {w w' : World} {b : Nat} {p : Gl} {v : Value} {S : List Nat} (h : GlAt w b p v) (hk : Keeps S w w') (hS : ∀ y ∈ S, y ≤ b) : GlAt w' b p v := by
  obtain ⟨vc, va, h1, h2, h3⟩ := h
  exact ⟨vc, va, h1, owned_keep h2 hk (fun g hg hm => by have := (rowOf h2 hg).1; have := hS g hm; omega), owned_keep h3 hk (fun g hg hm => by have := (rowOf h3 hg).1; have := hS g hm; omega)⟩
set_option maxHeartbeats 4000000 in
set_option maxRecDepth 100000 in
theorem attempt_G (w : World) (l : Tx) (hl : l.length ≤ 5000) (he : ErrAt w) :
    Calls Tryz.prog 43 #[.string (strO l), .func (.func 44) #[] #[]] w (AttP GlAt (.agg #[.slice none 0 0, .slice none 0 0]) w (Px.globT l)) := by
  obtain ⟨GG, hgg⟩ : ∃ x, x = Px.globT l := ⟨_, rfl⟩
  rw [← hgg]
  have HGG := Lib.hid hgg
  clear hgg
  have HT := Lib.hid (fun w' (h : ErrAt w') => tokens_cap w' l hl h)
  have hmf : ∀ (fn : Fn) (first cap : Array Value) (w : World), (Instr.makeFunc fn first cap).run Tryz.prog w = .ok (.func fn first cap) w := fun _ _ _ _ => rfl
  have HE := Lib.hid he
  have HSL := Lib.hid (strO_len l)
  obtain ⟨o, ho⟩ : ∃ o, o = Lx.toks l := ⟨_, rfl⟩
  rw [← ho] at HT
  have HO := Lib.hid ho
  obtain ⟨s, hs⟩ : ∃ s, s = strO l := ⟨_, rfl⟩
  rw [← hs] at HT HSL ⊢
  have hsz3 : (((w.alloc (.cells #[.slice none 0 0, .slice none 0 0] 35)).alloc (.cells #[.int .i64 0] 3)).alloc (.cells #[.int .i64 0] 27)).heap.size = w.heap.size + 3 := by simp
  have HKA := Lib.hid (show Keeps [] w (((w.alloc (.cells #[.slice none 0 0, .slice none 0 0] 35)).alloc (.cells #[.int .i64 0] 3)).alloc (.cells #[.int .i64 0] 27)) from (((Keeps.refl [] w).alloc _).alloc _).alloc _)
  have HB0 := Lib.hid (show (((w.alloc (.cells #[.slice none 0 0, .slice none 0 0] 35)).alloc (.cells #[.int .i64 0] 3)).alloc (.cells #[.int .i64 0] 27)).heap[w.heap.size]? = some (.cells #[.slice none 0 0, .slice none 0 0] 35 (0, 0)) from block_keep (block_keep (heap_alloc_new w (.cells #[.slice none 0 0, .slice none 0 0] 35)) ((Keeps.refl [] _).alloc _) (by simp)) ((Keeps.refl [] _).alloc _) (by simp))
  have HB1 := Lib.hid (show (((w.alloc (.cells #[.slice none 0 0, .slice none 0 0] 35)).alloc (.cells #[.int .i64 0] 3)).alloc (.cells #[.int .i64 0] 27)).heap[w.heap.size + 1]? = some (.cells #[.int .i64 0] 3 (0, 0)) from block_keep (by have := heap_alloc_new (w.alloc (.cells #[.slice none 0 0, .slice none 0 0] 35)) (.cells #[.int .i64 0] 3); simpa using this) ((Keeps.refl [] _).alloc _) (by simp))
  have HB2 := Lib.hid (show (((w.alloc (.cells #[.slice none 0 0, .slice none 0 0] 35)).alloc (.cells #[.int .i64 0] 3)).alloc (.cells #[.int .i64 0] 27)).heap[w.heap.size + 2]? = some (.cells #[.int .i64 0] 27 (0, 0)) by have := heap_alloc_new ((w.alloc (.cells #[.slice none 0 0, .slice none 0 0] 35)).alloc (.cells #[.int .i64 0] 3)) (.cells #[.int .i64 0] 27); simpa using this)
  have HSZA := Lib.hid hsz3
  clear he ho hs hsz3
  go_enter_defers Tryz.func43, Tryz.ntmps43
  go_wp2_with fail
  refine (HT.out _ (HE.out.keep HKA.out)).mono ?_
  rintro e w1 ⟨A, c, g, rfl, h1, h2, h3, h4, h5⟩
  have HCAP := Lib.hid (And.intro h4 h5)
  have HTI := Lib.hid h1
  have HTG := Lib.hid h2
  have HB0 := Lib.hid (block_keep HB0.out h3 (by simp))
  have HB1 := Lib.hid (block_keep HB1.out h3 (by simp))
  have HB2 := Lib.hid (block_keep HB2.out h3 (by simp))
  have HK1 := Lib.hid (HKA.out.trans h3 (fun _ h _ => h))
  have HSZ1 := Lib.hid h3.size
  clear h1 h2 h3 h4 h5
  obtain ⟨X0, hX0⟩ : ∃ x, x = w.heap.size := ⟨_, rfl⟩
  rw [← hX0] at HB0 HB1 HB2
  obtain ⟨X1, hX1⟩ : ∃ x, x = X0 + 1 := ⟨_, rfl⟩
  obtain ⟨X2, hX2⟩ : ∃ x, x = X1 + 1 := ⟨_, rfl⟩
  have hx2 : X0 + 2 = X2 := by omega
  rw [← hX1] at HB1
  rw [hx2] at HB2
  have n01 : X0 ≠ X1 := by omega
  have n10 : X1 ≠ X0 := by omega
  have n02 : X0 ≠ X2 := by omega
  have n20 : X2 ≠ X0 := by omega
  have n12 : X1 ≠ X2 := by omega
  have n21 : X2 ≠ X1 := by omega
  have HX := Lib.hid (And.intro hX0 (And.intro hX1 hX2))
  simp only [← hX0, ← hX1, ← hX2]
  clear hX0 hX1 hX2 hx2
  have hrow := HB0.out
  have f0_0 := row_free hrow 0
  have c0_0 := row_cell hrow 0
  have f0_1 := row_free hrow 1
  have c0_1 := row_cell hrow 1
  simp only [List.getElem?_toArray, List.getElem?_cons_zero, List.getElem?_cons_succ] at c0_0 c0_1
  clear hrow
  have hrow := HB1.out
  have f1_0 := row_free hrow 0
  have c1_0 := row_cell hrow 0
  simp only [List.getElem?_toArray, List.getElem?_cons_zero] at c1_0
  clear hrow
  have hrow := HB2.out
  have f2_0 := row_free hrow 0
  have c2_0 := row_cell hrow 0
  simp only [List.getElem?_toArray, List.getElem?_cons_zero] at c2_0
  clear hrow
  by_cases hz : o.err = 0
  · have hz1 : (((o.err : Nat) : Int) != 0) = false := by simp [hz]
    have hz2 : ((o.err : Nat) : Int) = 0 := by simp [hz]
    have hG : Px.globT l = Px.top l.length (Px.globL (o.toks.length + 1) ⟨[], []⟩ o.toks) := by unfold Px.globT; rw [if_pos (by rw [← HO.out]; exact hz), ← HO.out]
    have HG := Lib.hid hG
    have hgood := toks_good l
    rw [← HO.out] at hgood
    have HGOOD := Lib.hid hgood
    clear hz hG hgood
    obtain ⟨b, hb⟩ : ∃ b, b = w1.heap.size := ⟨_, rfl⟩
    have HBB := Lib.hid hb
    obtain ⟨wa, hwa⟩ : ∃ x, x = ((w1.setCell ⟨X1, 0, none⟩ (.int .i64 ((o.pos : Nat) : Int))).setCell ⟨X2, 0, none⟩ (.int .i64 0)) := ⟨_, rfl⟩
    have HWA := Lib.hid hwa
    have hlt0 := block_lt HB0.out
    have hlt1 := block_lt HB1.out
    have hlt2 := block_lt HB2.out
    have hka : Keeps [X1, X2] w1 wa := by
      rw [hwa]
      repeat (refine Keeps.setCell ?_ (by simp) _)
      exact Keeps.refl _ _
    have hsza : wa.heap.size = b := by rw [hwa, hb]; simp [World.setCell]
    have ha0 := block_keep HB0.out hka (by simp; omega)
    have ha1 : wa.heap[X1]? = some (.cells #[.int .i64 ((o.pos : Nat) : Int)] 3 (0, 0)) := by rw [hwa, set_other n12, row_set HB1.out]; rfl
    have ha2 : wa.heap[X2]? = some (.cells #[.int .i64 0] 27 (0, 0)) := by
      have h2' : (w1.setCell ⟨X1, 0, none⟩ (.int .i64 ((o.pos : Nat) : Int))).heap[X2]? = some (.cells #[.int .i64 0] 27 (0, 0)) := by rw [set_other n21]; exact HB2.out
      rw [hwa, row_set h2']; rfl
    have hg2 : o.toks ≠ [] → X2 < g := fun hne => by
      have h7 := HTG.out hne
      rw [HSZA.out] at h7
      have h8 := HX.out
      omega
    have hta : ToksIn wa g A o.toks := by
      by_cases hne : o.toks = []
      · exact .inl hne
      · exact HTI.out.keep hka (by have := hg2 hne; have h8 := HX.out; simp; omega)
    have hgb : ∃ g', ToksIn wa g' A o.toks ∧ g' < b := by
      by_cases hne : o.toks = []
      · exact ⟨X0, .inl hne, by omega⟩
      · refine ⟨g, hta, ?_⟩
        rcases hta with h0 | ⟨off, _, hc⟩
        · exact absurd h0 hne
        · have := World.block_lt_of_cell? wa _ (hc 0 (List.length_pos_iff.2 hne)).1
          simpa [hsza] using this
    obtain ⟨g', hta', hgb'⟩ := hgb
    obtain ⟨wd, hwd⟩ : ∃ x, x = (wa.alloc (.cells #[.slice A o.toks.length c, .int .i64 (s.size : Int), .int .i64 0, .int .i64 0] 133)).alloc (.cells #[.pointer (some ⟨b, 0, none⟩)] 129) := ⟨_, rfl⟩
    have hkd : Keeps [] wa wd := by rw [hwd]; exact ((Keeps.refl _ _).alloc _).alloc _
    have hrb : wd.heap[b]? = some (.cells #[.slice A o.toks.length c, .int .i64 (s.size : Int), .int .i64 0, .int .i64 0] 133 (0, 0)) := by
      rw [hwd]
      refine block_keep ?_ ((Keeps.refl [] _).alloc _) (by simp)
      have := heap_alloc_new wa (.cells #[.slice A o.toks.length c, .int .i64 (s.size : Int), .int .i64 0, .int .i64 0] 133)
      rw [hsza] at this
      exact this
    have hrq : wd.heap[b + 1]? = some (.cells #[pp b] 129 (0, 0)) := by
      rw [hwd]
      have := heap_alloc_new (wa.alloc (.cells #[.slice A o.toks.length c, .int .i64 (s.size : Int), .int .i64 0, .int .i64 0] 133)) (.cells #[.pointer (some ⟨b, 0, none⟩)] 129)
      have h8 : (wa.alloc (.cells #[.slice A o.toks.length c, .int .i64 (s.size : Int), .int .i64 0, .int .i64 0] 133)).heap.size = b + 1 := by simp [hsza]
      rw [h8] at this
      exact this
    have hpa : PAt wd b l.length o.toks 0 0 := ⟨HGOOD.out, A, c, g', by rw [hrb, HSL.out]; rfl, hta'.keep hkd (by simp), hgb', HCAP.out.1, HCAP.out.2⟩
    have HPA := Lib.hid hpa
    have HD0 := Lib.hid (block_keep ha0 hkd (by simp))
    have HD1 := Lib.hid (block_keep ha1 hkd (by simp))
    have HD2 := Lib.hid (block_keep ha2 hkd (by simp))
    have HDQ := Lib.hid hrq
    have HKD := Lib.hid (show Keeps [] w wd from by
      have h8 := HX.out
      have hk2 := HK1.out.hi hka (fun y hy => by simp at hy; omega)
      exact hk2.trans hkd (by simp))
    have HXB := Lib.hid (show X0 < b ∧ X1 < b ∧ X2 < b from by rw [hb]; exact ⟨hlt0, hlt1, hlt2⟩)
    have HW := Lib.hid (globals_any wd b l.length o.toks (o.toks.length + 1) HPA.out (Nat.le_refl _))
    have HWD := Lib.hid hwd
    have hb' := hb.symm
    clear hwa hlt0 hlt1 hlt2 hka hsza ha0 ha1 ha2 hg2 hta hta' hgb' hkd hrb hrq hpa hwd hb
    obtain ⟨rr, hrr⟩ : ∃ x, x = Px.globL (o.toks.length + 1) ⟨[], []⟩ o.toks := ⟨_, rfl⟩
    rw [← hrr] at HW
    have hG := HG.out
    rw [← hrr] at hG
    have HG := Lib.hid (HGG.out.trans hG)
    clear hrr hG hb'
    have e1 := HWD.out
    subst e1
    have e2 := HWA.out
    subst e2
    have e3 := HBB.out
    subst e3
    clear HWD HWA HBB
    go_wp2_with fail
    refine (HW.out).mono ?_
    intro e w2 hr
    cases rr with
    | err z r =>
      obtain ⟨rfl, ⟨o', k', h4⟩, h5⟩ := hr
      have H4 := Lib.hid h4
      have hxb := HXB.out
      have HE0 := Lib.hid (block_keep HD0.out h5 (by simp; omega))
      have HE1 := Lib.hid (block_keep HD1.out h5 (by simp; omega))
      have HE2 := Lib.hid (block_keep HD2.out h5 (by simp; omega))
      have HEQ := Lib.hid (block_keep HDQ.out h5 (by simp))
      have HKE := Lib.hid (HKD.out.hi h5 (fun y hy => by have := HX.out; simp at hy; omega))
      clear h4 h5 hxb
      go_wp2
      refine leaves_cons (f := 85) (args := #[.pointer (some ⟨w1.heap.size + 1, 0, none⟩), .pointer (some ⟨X1, 0, none⟩), .pointer (some ⟨X2, 0, none⟩)]) (by simp) (by simp [go_sem]) ?_
      unfold died
      have hxb := HXB.out
      refine (panicking_G w1.heap.size l.length _ _ X1 X2 (w1.heap.size + 1) (r) (z : Int) _ _ [] _ H4.out (by have := row_cell HEQ.out 0; simpa using this) HE1.out HE2.out n12 (by omega) (by omega)).mono ?_
      rintro e u' w'' ⟨rfl, rfl, hk, q1, q2⟩
      have q0 := block_keep HE0.out hk (by simp; exact ⟨n01, n02⟩)
      have r0_0 := row_cell q0 0
      have r0_1 := row_cell q0 1
      have r1' := row_cell q1 0
      have r2' := row_cell q2 0
      simp only [List.getElem?_toArray, List.getElem?_cons_zero, List.getElem?_cons_succ] at r0_0 r0_1 r1' r2'
      simp [Leaves, settle, results, Tryz.results43, go_sem, r0_0, r0_1, r1', r2']
      rw [HG.out]
      have hx := HX.out
      exact ⟨_, rfl, HKE.out.hi hk (fun y hy => by simp at hy; omega), rfl⟩
    | ok a r =>
      obtain ⟨v, rfl, h3, h4, h5⟩ := hr
      obtain ⟨vc, va, rfl, h3a, h3b⟩ := h3
      obtain ⟨Ac, kc, rfl⟩ := row_slice h3a
      obtain ⟨Aa, ka, rfl⟩ := row_slice h3b
      have h3 := And.intro h3a h3b
      have H3 := Lib.hid h3
      have H4 := Lib.hid h4
      have hxb := HXB.out
      have HE0 := Lib.hid (block_keep HD0.out h5 (by simp; omega))
      have HE1 := Lib.hid (block_keep HD1.out h5 (by simp; omega))
      have HE2 := Lib.hid (block_keep HD2.out h5 (by simp; omega))
      have HEQ := Lib.hid (block_keep HDQ.out h5 (by simp))
      have HKE := Lib.hid (HKD.out.hi h5 (fun y hy => by have := HX.out; simp at hy; omega))
      have hkx := (Keeps.refl [] w2).alloc (.cells #[.slice Ac a.cells.length kc, .slice Aa a.arrays.length ka] 35)
      have HE0 := Lib.hid (block_keep HE0.out hkx (by simp))
      have HE1 := Lib.hid (block_keep HE1.out hkx (by simp))
      have HE2 := Lib.hid (block_keep HE2.out hkx (by simp))
      have HEQ := Lib.hid (block_keep HEQ.out hkx (by simp))
      have H4 := Lib.hid (H4.out.keep hkx)
      have HKE := Lib.hid (HKE.out.trans hkx (by simp))
      have HEA := Lib.hid (show (w2.alloc (.cells #[.slice Ac a.cells.length kc, .slice Aa a.arrays.length ka] 35)).heap[w2.heap.size]? = some (.cells #[.slice Ac a.cells.length kc, .slice Aa a.arrays.length ka] 35 (0, 0)) from heap_alloc_new _ _)
      have HLT := Lib.hid (show w1.heap.size < w2.heap.size from h4.lt)
      have H3 := Lib.hid (And.intro (owned_keep H3.out.1 hkx (by simp)) (owned_keep H3.out.2 hkx (by simp)))
      have hp2 := row_cell HEQ.out 0
      simp only [List.getElem?_toArray, List.getElem?_cons_zero] at hp2
      have hleft : ∃ A' cap', (w2.alloc (.cells #[.slice Ac a.cells.length kc, .slice Aa a.arrays.length ka] 35)).cell? ⟨w1.heap.size, 0, none⟩ = some (.slice A' r.length cap') := by
        obtain ⟨_, A', cap', g', hb', _⟩ := H4.out
        have c0 := row_cell hb' 0
        simp only [List.getElem?_toArray, List.getElem?_cons_zero] at c0
        exact ⟨A', cap', c0⟩
      obtain ⟨A', cap', hcl⟩ := hleft
      clear h3 h4 h5 hxb hkx
      cases r with
      | cons t1 r1 =>
        have hln : (((t1 :: r1).length : Int) == 0) = false := by simp; omega
        obtain ⟨m, hm⟩ : ∃ m, m = (t1 :: r1).length := ⟨_, rfl⟩
        rw [← hm] at hcl hln
        clear hm
        have HN := Lib.hid (fun w' => pneed_no w' 51)
        go_wp2_with fail
        refine (HN.out _).mono ?_
        rintro e w' ⟨rfl, rfl⟩
        go_wp2
        refine leaves_cons (f := 85) (args := #[.pointer (some ⟨w1.heap.size + 1, 0, none⟩), .pointer (some ⟨X1, 0, none⟩), .pointer (some ⟨X2, 0, none⟩)]) (by simp) (by simp [go_sem]) ?_
        unfold died
        have hxb := HXB.out
        refine (panicking_G w1.heap.size l.length _ _ X1 X2 (w1.heap.size + 1) (t1 :: r1) 51 _ _ [] _ H4.out (by have := row_cell HEQ.out 0; simpa using this) HE1.out HE2.out n12 (by omega) (by omega)).mono ?_
        rintro e u' w'' ⟨rfl, rfl, hk, q1, q2⟩
        have q0 := block_keep HE0.out hk (by simp; exact ⟨n01, n02⟩)
        have r0_0 := row_cell q0 0
        have r0_1 := row_cell q0 1
        have r1' := row_cell q1 0
        have r2' := row_cell q2 0
        simp only [List.getElem?_toArray, List.getElem?_cons_zero, List.getElem?_cons_succ] at r0_0 r0_1 r1' r2'
        simp [Leaves, settle, results, Tryz.results43, go_sem, r0_0, r0_1, r1', r2']
        rw [HG.out]
        have hx := HX.out
        exact ⟨_, rfl, HKE.out.hi hk (fun y hy => by simp at hy; omega), rfl⟩
      | nil =>
        simp only [List.length_nil] at hcl
        have HN := Lib.hid (fun w' => pneed_yes w' 51)
        go_wp2_with fail
        refine (HN.out _).mono ?_
        rintro e w' ⟨rfl, rfl⟩
        obtain ⟨w3, hw3⟩ : ∃ x, x = w2.alloc (.cells #[.slice Ac a.cells.length kc, .slice Aa a.arrays.length ka] 35) := ⟨_, rfl⟩
        obtain ⟨Y, hY⟩ : ∃ x, x = w2.heap.size := ⟨_, rfl⟩
        rw [← hw3] at HE0 HE1 HE2 HEQ H4 HKE HEA H3 hp2 hcl
        rw [← hY] at HEA HLT
        have hxb := HXB.out
        have hlt := HLT.out
        have nY0 : X0 ≠ Y := by omega
        have n0Y : Y ≠ X0 := by omega
        have nY1 : X1 ≠ Y := by omega
        have nY2 : X2 ≠ Y := by omega
        have n1Y : Y ≠ X1 := by omega
        have n2Y : Y ≠ X2 := by omega
        simp only [← hw3, ← hY]
        have HY := Lib.hid hY
        clear hw3 hY hxb hlt hp2 hcl
        clear f0_0 c0_0 f0_1 c0_1 f1_0 c1_0 f2_0 c2_0
        have hrow := HE0.out
        have f0_0 := row_free hrow 0
        have c0_0 := row_cell hrow 0
        have f0_1 := row_free hrow 1
        have c0_1 := row_cell hrow 1
        simp only [List.getElem?_toArray, List.getElem?_cons_zero, List.getElem?_cons_succ] at c0_0 c0_1
        clear hrow
        have hrow := HE1.out
        have f1_0 := row_free hrow 0
        have c1_0 := row_cell hrow 0
        simp only [List.getElem?_toArray, List.getElem?_cons_zero] at c1_0
        clear hrow
        have hrow := HE2.out
        have f2_0 := row_free hrow 0
        have c2_0 := row_cell hrow 0
        simp only [List.getElem?_toArray, List.getElem?_cons_zero] at c2_0
        clear hrow
        have hrow := HEA.out
        have f3_0 := row_free hrow 0
        have c3_0 := row_cell hrow 0
        have f3_1 := row_free hrow 1
        have c3_1 := row_cell hrow 1
        simp only [List.getElem?_toArray, List.getElem?_cons_zero, List.getElem?_cons_succ] at c3_0 c3_1
        clear hrow
        go_wp2
        refine leaves_cons (f := 85) (args := #[.pointer (some ⟨w1.heap.size + 1, 0, none⟩), .pointer (some ⟨X1, 0, none⟩), .pointer (some ⟨X2, 0, none⟩)]) (by simp) (by simp [go_sem]) ?_
        refine (idle_G ⟨w1.heap.size + 1, 0, none⟩ ⟨X1, 0, none⟩ ⟨X2, 0, none⟩ _).mono ?_
        rintro e u' w'' ⟨rfl, rfl, rfl⟩
        simp [Leaves, settle, results, Tryz.results43, go_sem, n01, n10, n02, n20, n12, n21, c0_0, c0_1, c1_0, c2_0, c3_0, c3_1]
        refine setsEnd (S := [X0, X1, X2]) (w := w3) ?_ ?_
        · repeat (refine Keeps.setCell ?_ (by simp) _)
          exact Keeps.refl _ _
        intro W hk
        have hx := HX.out
        have hxb := HXB.out
        rw [HG.out]
        exact ⟨_, rfl, HKE.out.hi hk (fun y hy => by simp at hy; omega), w1.heap.size, by omega, ⟨_, _, rfl, owned_keep H3.out.1 hk (fun g hg hm => by have := (rowOf H3.out.1 hg).1; simp at hm; omega), owned_keep H3.out.2 hk (fun g hg hm => by have := (rowOf H3.out.2 hg).1; simp at hm; omega)⟩⟩
  · have hz1 : (((o.err : Nat) : Int) != 0) = true := by simp; omega
    have HZ := Lib.hid hz
    have hG : Px.globT l = ⟨none, o.pos, o.err⟩ := by unfold Px.globT; rw [if_neg (by rw [← HO.out]; exact hz), ← HO.out]
    have HG := Lib.hid (HGG.out.trans hG)
    clear hz hG
    go_wp2_with fail
    obtain ⟨wa, hwa⟩ : ∃ x, x = ((w1.setCell ⟨X1, 0, none⟩ (.int .i64 ((o.pos : Nat) : Int))).setCell ⟨X2, 0, none⟩ (.int .i64 ((o.err : Nat) : Int))) := ⟨_, rfl⟩
    have hka : Keeps [X1, X2] w1 wa := by
      rw [hwa]
      repeat (refine Keeps.setCell ?_ (by simp) _)
      exact Keeps.refl _ _
    have HA0 := Lib.hid (block_keep HB0.out hka (by simp; exact ⟨n01, n02⟩))
    have HA1 := Lib.hid (show wa.heap[X1]? = some (.cells #[.int .i64 ((o.pos : Nat) : Int)] 3 (0, 0)) by rw [hwa, set_other n12, row_set HB1.out]; rfl)
    have HA2 := Lib.hid (show wa.heap[X2]? = some (.cells #[.int .i64 ((o.err : Nat) : Int)] 27 (0, 0)) by
      have h2' : (w1.setCell ⟨X1, 0, none⟩ (.int .i64 ((o.pos : Nat) : Int))).heap[X2]? = some (.cells #[.int .i64 0] 27 (0, 0)) := by rw [set_other n21]; exact HB2.out
      rw [hwa, row_set h2']; rfl)
    have HKA2 := Lib.hid (show Keeps [] w wa from by
      have h8 := HX.out
      exact HK1.out.hi hka (fun y hy => by simp at hy; omega))
    clear hka f0_0 c0_0 f0_1 c0_1 f1_0 c1_0 f2_0 c2_0
    simp only [← hwa]
    clear hwa
    refine Reg.wp_region_free (fun _ _ w' => w'.heap[X0]? = some (.cells #[.slice none 0 0, .slice none 0 0] 35 (0, 0)) ∧ w'.heap[X1]? = some (.cells #[.int .i64 ((o.pos : Nat) : Int)] 3 (0, 0)) ∧ w'.heap[X2]? = some (.cells #[.int .i64 ((o.err : Nat) : Int)] 27 (0, 0)) ∧ Keeps [] w w') (fun _ _ => True) (A := ?A)
      [Reg.Is (.agg #[.slice none 0 0, .slice none 0 0]), Reg.Is (.int .i64 ((o.pos : Nat) : Int)), Reg.Is (.int .i64 ((o.err : Nat) : Int)), AnyF, AnyF, AnyF]
      (by kernel_rfl) (by kernel_rfl) rfl ?hA ?hC ?ho ?hlast ?hend
    case hA => intro vs; simp only [Reg.fill, if_true, Nat.zero_add, Nat.reduceAdd, Act.put, List.setIfInBounds_toArray, List.set_cons_succ, List.set_cons_zero]; exact rfl
    case hC => exact fun vs => ⟨HA0.out, HA1.out, HA2.out, HKA2.out.drew⟩
    case hlast => repeat (first | exact trivial | refine ⟨fun _ _ _ h _ => h, ?_⟩)
    case ho =>
      repeat' apply And.intro
      all_goals
        first
          | exact trivial
          | (intro Ls vs w' hC hL hd ha K hK
             try simp only [Reg.Deps, Reg.at_, List.getD_cons_zero, List.getD_cons_succ, Region.binds, true_implies, Reg.Is, and_true, AnyF, true_and] at hd
             obtain ⟨d0, d1, d2, d3⟩ := id hC
             have f0_0 := row_free d0 0
             have c0_0 := row_cell d0 0
             have f0_1 := row_free d0 1
             have c0_1 := row_cell d0 1
             have f1_0 := row_free d1 0
             have c1_0 := row_cell d1 0
             have f2_0 := row_free d2 0
             have c2_0 := row_cell d2 0
             simp only [List.getElem?_toArray, List.getElem?_cons_zero, List.getElem?_cons_succ] at c0_0 c0_1 c1_0 c2_0
             try simp only [Reg.wantedV, if_true]
             try go_simp
             try simp only [Reg.gives_value, Reg.gives_skip, Reg.gives_enter]
             first
               | exact hK _ _ hC trivial rfl
               | exact hK _ _ hC trivial trivial
               | skip)
      · have hk0 : Keeps [X0] w' ((w'.setCell ⟨X0, 0, none⟩ (.slice none 0 0)).setCell ⟨X0, 1, none⟩ (.slice none 0 0)) := by
          repeat (refine Keeps.setCell ?_ (by simp) _)
          exact Keeps.refl _ _
        refine hK _ _ ⟨by rw [row_set (row_set (d0) 0 _) 1 _]; rfl, ?_, ?_, d3.hi hk0 (by have := HX.out; simp; omega)⟩ trivial trivial
        · simp only [set_other n10]; exact d1
        · simp only [set_other n20]; exact d2
      · refine hK _ _ ⟨by rw [set_other n01]; exact d0, by rw [row_set d1]; rfl, by rw [set_other n21]; exact d2, d3.hi (T := [X1]) ((Keeps.refl _ _).setCell (by simp) _) (by have := HX.out; simp; omega)⟩ trivial trivial
      · refine hK _ _ ⟨by rw [set_other n02]; exact d0, by rw [set_other n12]; exact d1, by rw [row_set d2]; rfl, d3.hi (T := [X2]) ((Keeps.refl _ _).setCell (by simp) _) (by have := HX.out; simp; omega)⟩ trivial trivial
    case hend =>
      intro vs w' hC hall
      obtain ⟨d0, d1, d2, d3⟩ := hC
      have f0_0 := row_free d0 0
      have c0_0 := row_cell d0 0
      have f0_1 := row_free d0 1
      have c0_1 := row_cell d0 1
      have f1_0 := row_free d1 0
      have c1_0 := row_cell d1 0
      have f2_0 := row_free d2 0
      have c2_0 := row_cell d2 0
      simp only [List.getElem?_toArray, List.getElem?_cons_zero, List.getElem?_cons_succ] at c0_0 c0_1 c1_0 c2_0
      clear hall
      go_wp2
      simp [bodyPostD, Leaves, results, Tryz.results43, go_sem, c0_0, c0_1, c1_0, c2_0]
      rw [HG.out]
      exact ⟨_, rfl, d3, rfl⟩
theorem got_form_G {w' : World} {w0 : World} {g : Px.Got Px.Gl} {v : Value} (h : Val GlAt (.agg #[.slice none 0 0, .slice none 0 0]) w0.heap.size w' g.val v) : ∃ (A1 : Option Addr) (n1 c1 : Nat) (A2 : Option Addr) (n2 c2 : Nat), v = .agg #[.slice A1 n1 c1, .slice A2 n2 c2] := by
  cases hv : g.val with
  | some a =>
    rw [hv] at h
    obtain ⟨b, _, vp, vl, rfl, h1, h2⟩ := h
    obtain ⟨_, _, rfl⟩ := row_slice h1
    obtain ⟨_, _, rfl⟩ := row_slice h2
    exact ⟨_, _, _, _, _, _, rfl⟩
  | none =>
    rw [hv] at h
    subst h
    exact ⟨_, _, _, _, _, _, rfl⟩
set_option maxHeartbeats 4000000 in
set_option maxRecDepth 100000 in
theorem globs_any (w : World) (l : Tx) (hl : l.length ≤ 5000) (he : ErrAt w) :
    Calls Tryz.prog 15 #[.string (strO l)] w (AttP GlAt (.agg #[.slice none 0 0, .slice none 0 0]) w (Px.globT l)) := by
  have HA := Lib.hid (fun w' (h : ErrAt w') => attempt_G w' l hl h)
  have HE := Lib.hid (he.keep ((Keeps.refl [] w).alloc (.cells #[.slice none 0 0, .slice none 0 0] 35)))
  have HB := Lib.hid (show (w.alloc (.cells #[.slice none 0 0, .slice none 0 0] 35)).heap[w.heap.size]? = some (.cells #[.slice none 0 0, .slice none 0 0] 35 (0, 0)) from heap_alloc_new _ _)
  have HK0 := Lib.hid ((Keeps.refl [] w).alloc (.cells #[.slice none 0 0, .slice none 0 0] 35))
  obtain ⟨GG, hgg⟩ : ∃ x, x = Px.globT l := ⟨_, rfl⟩
  rw [← hgg] at HA ⊢
  obtain ⟨s, hs⟩ : ∃ s, s = strO l := ⟨_, rfl⟩
  rw [← hs] at HA ⊢
  clear hs hgg he
  go_enter Tryz.func15, Tryz.ntmps15
  go_wp2_with fail
  refine (HA.out _ HE.out).mono ?_
  rintro e w1 ⟨v, rfl, h1, h2⟩
  have HB := Lib.hid (block_keep HB.out h1 (by simp))
  have HK1 := Lib.hid (HK0.out.trans h1 (by simp))
  obtain ⟨A1, n1, c1, A2, n2, c2, rfl⟩ := got_form_G h2
  have H2 := Lib.hid h2
  have HSZ := Lib.hid h1.size
  clear h1 h2
  obtain ⟨X0, hX0⟩ : ∃ x, x = w.heap.size := ⟨_, rfl⟩
  have HX0 := Lib.hid hX0
  rw [← hX0] at HB
  simp only [← hX0]
  clear hX0
  have ff0 := row_free HB.out 0
  have cc0 := row_cell HB.out 0
  have ff1 := row_free HB.out 1
  have cc1 := row_cell HB.out 1
  simp only [List.getElem?_toArray, List.getElem?_cons_zero, List.getElem?_cons_succ] at cc0 cc1
  go_wp2_with fail
  refine bodyPost_ret (v := .tuple #[.agg #[.slice A1 n1 c1, .slice A2 n2 c2], .int .i64 ((GG.pos : Nat) : Int), .int .i64 ((GG.err : Nat) : Int)]) (by simp [results, Tryz.results15, go_sem, cc0, cc1]) rfl ?_
  refine setsEnd (S := [X0]) (w := w1) ?_ ?_
  · repeat (refine Keeps.setCell ?_ (by simp) _)
    exact Keeps.refl _ _
  intro W hk
  have hx := HX0.out
  refine ⟨_, rfl, HK1.out.hi hk (by simp; omega), ?_⟩
  have h2 := H2.out
  have hsz := HSZ.out
  cases hv : GG.val with
  | none => rw [hv] at h2; exact h2
  | some a =>
    rw [hv] at h2
    obtain ⟨b, hb, h3⟩ := h2
    have hb' : w.heap.size + 1 ≤ b := by simpa using hb
    exact ⟨b, by omega, h3.keepHi hk (fun y hy => by simp at hy; omega)⟩
end Go.Proofs.YtbikifibfaaggaaGreatDoor
