/- settlement: two steps, in new memory. -/
import Derived.Test.YtgjgnieobbhepaaDoorWPerf
import Derived.Maps.AppendAt
namespace Go.Proofs.YtgjgnieobbhepaaDoor
open Go.RowKit
open Reg (Is Fact)

attribute [local go_sem] Reg.lateFr Reg.wantedV Reg.gives_value Reg.gives_skip Reg.gives_enter
/-- Bytes in a new block. -/
def NewU (W : Nat) (l : List UInt8) : Fact := fun v w => ∃ x, v = .slice (some ⟨x, 0, none⟩) l.length l.length ∧ U8At w x l ∧ W ≤ x
def NewStep (W : Nat) (t : Nat × List UInt8) : Fact := fun v w => ∃ x, v = .agg #[.int .i64 (t.1 : Int), .slice (some ⟨x, 0, none⟩) t.2.length t.2.length] ∧ U8At w x t.2 ∧ W ≤ x
theorem NewU.keep0 {W : Nat} {l : List UInt8} : ∀ v w w', NewU W l v w → Keeps [] w w' → NewU W l v w' := by
  rintro v w w' ⟨x, h1, h2, h3⟩ hk
  exact ⟨x, h1, h2.keep hk (by simp), h3⟩
theorem NewStep.keep0 {W : Nat} {t : Nat × List UInt8} : ∀ v w w', NewStep W t v w → Keeps [] w w' → NewStep W t v w' := by
  rintro v w w' ⟨x, h1, h2, h3⟩ hk
  exact ⟨x, h1, h2.keep hk (by simp), h3⟩
/-- A row of two steps, all new. -/
def NewSteps (W : Nat) (s t : Nat × List UInt8) : Fact := fun v w => ∃ b x y, v = .slice (some ⟨b, 0, none⟩) 2 2 ∧ W ≤ b ∧ W ≤ x ∧ W ≤ y ∧ b < w.heap.size ∧ U8At w x s.2 ∧ U8At w y t.2 ∧
  w.heap[b]? = some (.cells #[.int .i64 (s.1 : Int), .slice (some ⟨x, 0, none⟩) s.2.length s.2.length, .int .i64 (t.1 : Int), .slice (some ⟨y, 0, none⟩) t.2.length t.2.length] 77 (0, 0))
theorem NewSteps.keep0 {W : Nat} {s t : Nat × List UInt8} : ∀ v w w', NewSteps W s t v w → Keeps [] w w' → NewSteps W s t v w' := by
  rintro v w w' ⟨b, x, y, h1, h2, h3, h4, h5, h6, h7, h8⟩ hk
  exact ⟨b, x, y, h1, h2, h3, h4, Nat.lt_of_lt_of_le h5 hk.size, h6.keep hk (by simp), h7.keep hk (by simp), block_keep h8 hk (by simp)⟩
theorem Is.keep0 {u : Value} : ∀ v w w', Is u v w → Keeps [] w w' → Is u v w' := fun _ _ _ h _ => h
theorem run_zeros (w : World) (s : Nat) (hs : s ≤ 4096) : ∃ w', (Instr.makeSlice 34 (.int .i64 (s : Int)) (.int .i64 (s : Int))).run Tryd.prog w = .ok (.slice (some ⟨w.heap.size, 0, none⟩) s s) w' ∧ U8At w' w.heap.size (List.replicate s 0) ∧ Keeps [] w w' := by
  obtain ⟨iU, hU, hU0, hU1, hU2⟩ := info_parts infoU8
  obtain ⟨w', hrun, r1, r2⟩ := run_make_full (P := Tryd.prog) w w.heap.size 34 5 iU (.int .u8 0) 1 Tryd.underlying34 hU hU0 hU1 .i64 .i64 s (by rw [hU2]; omega) (by unfold maxLen; omega) (Nat.le_refl _)
  exact ⟨w', hrun, made_row (by rw [Nat.mul_one] at r1; exact r1), (Keeps.of_grown r2).mono (by simp)⟩
def SettleStepsP (w : World) (s t : Nat × List UInt8) (e : Ending) (w' : World) : Prop := ∃ v, e = .returned v ∧ NewSteps w.heap.size s t v w' ∧ Keeps [] w w'
set_option maxRecDepth 100000 in
set_option maxHeartbeats 2000000 in
theorem settlement_any (w : World) (h : DH) (B : Nat → Prop) (d : Dk) (lp : Nat) (g : Lg) (x : DskAt w h B d) (y : LogAt w lp h.p g) (ha : g.area ≤ 1) (hu : g.used ≤ 4096) :
    Calls Tryd.prog 53 #[.pointer (some ⟨lp, 0, none⟩)] w (SettleStepsP w (L.st d.dur.length g.area + g.used, List.replicate d.size 0) (0, L.hd g.area d.size)) := by
  obtain ⟨c0, c1, c2, _⟩ := y.cells
  have hsz := x.ok.size
  have HX := Lib.hid x
  have HY := Lib.hid y
  have HHL := Lib.hid (L.hd_length (a := g.area) (s := d.size) (by omega))
  have HENDS := Lib.hid (fun w' (hk : Keeps [] w w') => (end_any w' h B d lp g (x.keep0 hk) (y.keep hk (by simp)) ha hu).mono fun _ _ hq => hq.keeps)
  obtain ⟨en, hen⟩ : ∃ en, en = L.st d.dur.length g.area + g.used := ⟨_, rfl⟩
  rw [← hen] at HENDS ⊢
  obtain ⟨a, hae⟩ : ∃ a, a = g.area := ⟨_, rfl⟩
  rw [← hae] at c1 ha HHL ⊢
  clear x y hen hae
  go_enter Tryd.func53, Tryd.ntmps53
  go_wp2_with fail
  refine (size_any w h B d HX.out).mono ?_
  rintro e w' ⟨rfl, rfl⟩
  go_wp2_with fail
  refine Reg.wp_region_state (A := ?A) (fun _ w' => Keeps [] w w') (Keeps [])
    [Is (.pointer (some ⟨lp, 0, none⟩)), Is (.int .i64 (en : Int)), Is (.int .i64 (d.size : Int)), NewU w.heap.size (List.replicate d.size 0), NewStep w.heap.size (en, List.replicate d.size 0), Is (.pointer (some ⟨lp, 0, none⟩)), Is (.pointer (some ⟨lp, 0, none⟩)), Is (.pointer (some ⟨lp, 1, none⟩)), Is (.pointer (some ⟨lp, 1, none⟩)), Is (.int .i64 (a : Int)), Is (.int .i64 (d.size : Int)),
     NewU w.heap.size (L.hd a d.size), NewStep w.heap.size (0, L.hd a d.size), NewSteps w.heap.size (en, List.replicate d.size 0) (0, L.hd a d.size), NewSteps w.heap.size (en, List.replicate d.size 0) (0, L.hd a d.size)]
    (by kernel_rfl) (by kernel_rfl) rfl ?hA ?hC ?ho ?hlast ?hend
  case hA => intro vs; simp only [Reg.fill, if_true, Nat.zero_add, Nat.reduceAdd, Act.put, List.setIfInBounds_toArray, List.set_cons_succ, List.set_cons_zero]; exact rfl
  case hC => exact (Keeps.refl _ _).drew
  case hlast => repeat (first | exact trivial | refine ⟨Is.keep0, ?_⟩ | refine ⟨NewU.keep0, ?_⟩ | refine ⟨NewStep.keep0, ?_⟩ | refine ⟨NewSteps.keep0, ?_⟩)
  case ho =>
    repeat' apply And.intro
    all_goals
      first
        | exact trivial
        | (intro Ls vs w' hC hL hd K hK
           try simp only [Reg.Deps, Reg.at_, List.getD_cons_zero, List.getD_cons_succ, Region.binds, true_implies, Is, and_true] at hd
           have q0 := hC.cell_some c0 (by simp)
           have q1 := hC.cell_some c1 (by simp)
           go_simp
           first
             | exact hK _ _ hC (Keeps.refl _ _) rfl
             | skip)
    · refine (HENDS.out w' hC).mono ?_
      rintro e w'' ⟨rfl, hk⟩
      exact ⟨_, rfl, hK _ _ (hC.trans hk (by simp)) hk rfl⟩
    · obtain ⟨w2, hr, hu2, hk⟩ := run_zeros w' d.size (by omega)
      rw [hr]
      simp only [Result.andThen, Reg.gives_value]
      exact hK _ _ (hC.trans hk (by simp)) hk ⟨_, by rw [List.length_replicate], hu2, hC.size⟩
    · obtain ⟨hd1, x, hx, hxu, hxw⟩ := hd
      rw [hx]
      go_simp
      exact hK _ _ hC (Keeps.refl _ _) ⟨x, by simp only [List.length_replicate], hxu, hxw⟩
    · refine (head_any w' a d.size ha (by omega)).mono ?_
      rintro e w'' ⟨x, rfl, hxu, hxw, hk⟩
      exact ⟨_, rfl, hK _ _ (hC.trans hk (by simp)) hk ⟨x, rfl, hxu, Nat.le_trans hC.size hxw⟩⟩
    · obtain ⟨x, hx, hxu, hxw⟩ := hd
      rw [hx]
      go_simp
      exact hK _ _ hC (Keeps.refl _ _) ⟨x, rfl, hxu, hxw⟩
    · obtain ⟨⟨x, hx, hxu, hxw⟩, x', hx', hxu', hxw'⟩ := hd
      rw [hx, hx']
      go_simp
      exact hK _ _ (hC.alloc _) ((Keeps.refl _ _).alloc _) ⟨w'.heap.size, x, x', rfl, hC.size, hxw, hxw', by simp, hxu.keep ((Keeps.refl [] _).alloc _) (by simp), hxu'.keep ((Keeps.refl [] _).alloc _) (by simp), by simp only [List.length_replicate]; exact heap_alloc_new _ _⟩
    · exact hK _ _ hC (Keeps.refl _ _) hd.1
  case hend =>
    intro vs w3 hC hall
    have h14 : NewSteps w.heap.size (en, List.replicate d.size 0) (0, L.hd a d.size) (vs 14) w3 := by
      have := hall.2.2.2.2.2.2.2.2.2.2.2.2.2.2.1
      exact this
    have H14 := Lib.hid h14
    have HC := Lib.hid hC
    clear hall hC h14
    go_wp2_with fail
    go_ret
    exact ⟨_, rfl, H14.out, HC.out⟩
end Go.Proofs.YtgjgnieobbhepaaDoor
