/- The deferred function of attempt. -/
import Derived.Test.YtbikifibfaaggaaGreatDoorPFn
namespace Go.Proofs.YtbikifibfaaggaaGreatDoor
open Go.RowKit Go.Shelf
open Lx (Tok Tx)
open Px (Ex Cn Sm Vr)

/-- What the deferred function leaves behind a panic: the place and the error. -/
def DP (X1 X2 : Nat) (pl : Nat) (z : Int) (w w' : World) : Prop := Keeps [X1, X2] w w' ∧ w'.heap[X1]? = some (.cells #[.int .i64 (pl : Int)] 3 (0, 0)) ∧ w'.heap[X2]? = some (.cells #[.int .i64 z] 27 (0, 0))
/-- Within its region. -/
structure DR (w : World) (X1 X2 pl : Nat) (z : Int) (v1 v2 : Value) (L : Nat → Bool) (w' : World) : Prop where
  keep : Keeps [X1, X2] w w'
  k0 : L 6 = false → Keeps [] w w'
  r1 : L 6 = true → w'.heap[X1]? = some (.cells #[.int .i64 (pl : Int)] 3 (0, 0))
  r2 : L 7 = true → w'.heap[X2]? = some (.cells #[.int .i64 z] 27 (0, 0))
  r2o : L 7 = false → w'.heap[X2]? = some (.cells #[v2] 27 (0, 0))
  up : L 7 = true → L 6 = true
  up3 : L 6 = true → L 3 = true
  r1o : L 6 = false → w'.heap[X1]? = some (.cells #[v1] 3 (0, 0))
theorem DR.lay {w : World} {X1 X2 pl : Nat} {z : Int} {v1 v2 : Value} {L : Nat → Bool} {w' : World} (h : DR w X1 X2 pl z v1 v2 L w') {i : Nat} (hi : i ≠ 6 ∧ i ≠ 7) : DR w X1 X2 pl z v1 v2 (Reg.lay L i) w' := by
  obtain ⟨h6, h7⟩ := hi
  refine ⟨h.keep, ?_, ?_, ?_, ?_, ?_, ?_, ?_⟩
  · rw [lay_ne h6]; exact h.k0
  · rw [lay_ne h6]; exact h.r1
  · rw [lay_ne h7]; exact h.r2
  · rw [lay_ne h7]; exact h.r2o
  · rw [lay_ne h6, lay_ne h7]; exact h.up
  · rw [lay_ne h6]; intro hh; unfold Reg.lay; rw [h.up3 hh]; rfl
  · rw [lay_ne h6]; exact h.r1o
theorem idle_F (q1 q2 q3 : Addr) (w : World) :
    CallsD Tryz.prog 73 #[.pointer (some q1), .pointer (some q2), .pointer (some q3)] .returning w fun e u' w' => e = .returned (.tuple #[]) ∧ u' = .returning ∧ w' = w := by
  refine callsD_of_wpS Tryz.func73 rfl fun c₀ cs hu => ?_
  apply wpS_seq
  apply wpS_region
  simp [wpOpsS, go_sem, recoverD, hu, Tryz.ntmps73, Exit.thenS]
  refine wpS_of_wp ?_
  go_wp2_with fail
  cases c₀
  simp_all [bodyPostS, results, Tryz.results73]
set_option maxHeartbeats 2000000 in
set_option maxRecDepth 100000 in
theorem panicking_F (b n o k X1 X2 q : Nat) (ts : List Tok) (z : Int) (v1 v2 : Value) (older : List PanicEntry) (w : World) (h : PAt w b n ts o k) (hq : w.cell? ⟨q, 0, none⟩ = some (pp b)) (h1 : w.heap[X1]? = some (.cells #[v1] 3 (0, 0))) (h2 : w.heap[X2]? = some (.cells #[v2] 27 (0, 0))) (hne : X1 ≠ X2) (hq1 : q ≠ X1) (hq2 : q ≠ X2) :
    CallsD Tryz.prog 73 #[.pointer (some ⟨q, 0, none⟩), .pointer (some ⟨X1, 0, none⟩), .pointer (some ⟨X2, 0, none⟩)] (.panicking ({ v := .iface 27 (.int .i64 z), recovered := false } :: older)) w fun e u' w' =>
      e = .returned (.tuple #[]) ∧ u' = .panicking ({ v := .iface 27 (.int .i64 z), recovered := true } :: older) ∧ DP X1 X2 (Px.place n ts) z w w' := by
  have HO := Lib.hid (fun w' h' => offset_any w' b n o k ts h')
  have H := Lib.hid h
  have HQ := Lib.hid hq
  have H1 := Lib.hid h1
  have H2 := Lib.hid h2
  obtain ⟨pl, hpl⟩ : ∃ p, p = Px.place n ts := ⟨_, rfl⟩
  rw [← hpl] at HO ⊢
  clear h hq h1 h2 hpl
  refine callsD_of_wpS Tryz.func73 rfl fun c₀ cs hu => ?_
  apply wpS_seq
  apply wpS_region
  simp [wpOpsS, go_sem, recoverD, hu, Tryz.ntmps73, Exit.thenS]
  refine wpS_of_wp ?_
  go_wp2_with fail
  have efr : (#[Value.pointer (some ⟨q, 0, none⟩), Value.pointer (some ⟨X1, 0, none⟩), Value.pointer (some ⟨X2, 0, none⟩)] ++ ((((Array.replicate 10 undef).setIfInBounds 1 (Value.iface 27 (.int .i64 z))).setIfInBounds 0 (Value.iface 27 (.int .i64 z))).setIfInBounds 2 (Value.iface 27 (.int .i64 z))).setIfInBounds 3 (Value.bool true)) = #[Value.pointer (some ⟨q, 0, none⟩), Value.pointer (some ⟨X1, 0, none⟩), Value.pointer (some ⟨X2, 0, none⟩), (Value.iface 27 (.int .i64 z)), (Value.iface 27 (.int .i64 z)), (Value.iface 27 (.int .i64 z)), Value.bool true, undef, undef, undef, undef, undef, undef] := rfl
  rw [efr]
  clear efr
  refine Reg.wp_region_free (fun L _ w' => DR w X1 X2 pl z v1 v2 L w') (fun _ _ => True) (A := ?A)
    [Reg.Is (pp b), Reg.Is (pp b), Reg.Is (pp b), Reg.Is (.int .i64 (pl : Int)), Reg.Is (.iface 27 (.int .i64 z)), Reg.Is (.int .i64 z), AnyF, AnyF]
    (by kernel_rfl) (by kernel_rfl) rfl ?hA ?hC ?ho ?hlast ?hend
  case hA => intro vs; simp only [Reg.fill, if_true, Nat.zero_add, Nat.reduceAdd, Act.put, List.setIfInBounds_toArray, List.set_cons_succ, List.set_cons_zero]; exact rfl
  case hC => exact fun vs => ⟨(Keeps.refl _ _).drew, fun _ => (Keeps.refl _ _).drew, fun hl => by simp at hl, fun hl => by simp at hl, fun _ => H2.out, fun hl => by simp at hl, fun hl => by simp at hl, fun _ => H1.out⟩
  case hlast => repeat (first | exact trivial | refine ⟨fun _ _ _ h _ => h, ?_⟩)
  case ho =>
    repeat' apply And.intro
    all_goals
      first
        | exact trivial
        | (intro Ls vs w' hC hL hd ha K hK
           try simp only [Reg.Deps, Reg.at_, List.getD_cons_zero, List.getD_cons_succ, Region.binds, true_implies, Reg.Is, and_true, AnyF, true_and] at hd
           have hq := hC.keep.cell_some HQ.out (by simp; omega)
           try simp only [Reg.wantedV, if_true]
           try go_simp
           try simp only [Reg.gives_value, Reg.gives_skip, Reg.gives_enter]
           first
             | exact hK _ _ (hC.lay (by decide)) trivial rfl
             | exact hK _ _ (hC.lay (by decide)) trivial trivial
             | skip)
    · have hL' : Ls 3 = false := hL
      have h6 : Ls 6 = false := by
        cases h : Ls 6 with
        | false => rfl
        | true => have := hC.up3 h; rw [hL'] at this; cases this
      refine (HO.out _ (H.out.keep (hC.k0 h6))).mono ?_
      rintro e w'' ⟨rfl, rfl⟩
      exact ⟨_, rfl, hK _ _ (hC.lay (by decide)) trivial rfl⟩
    · have hL' : Ls 6 = false := hL
      have h7 : Ls 7 = false := by
        cases h : Ls 7 with
        | false => rfl
        | true => have := hC.up h; rw [hL'] at this; cases this
      have h3 : Ls 3 = true := Reg.aw_get ha { on := 3, ground := Ground.data } (by simp) rfl
      have hr := hC.r1o hL'
      have c0 := row_cell hr 0
      have f0 := row_free hr 0
      simp only [List.getElem?_toArray, List.getElem?_cons_zero] at c0
      simp only [c0, f0]
      go_simp
      try simp only [Reg.gives_value, Reg.gives_skip]
      refine hK _ _ ⟨hC.keep.setCell (fun _ => by simp) _, fun h => by rw [show Reg.lay Ls 6 6 = true from lay_eq] at h; exact absurd h (by decide), fun _ => by rw [row_set hr]; rfl, fun h => by rw [show Reg.lay Ls 6 7 = Ls 7 from lay_ne (by decide), h7] at h; exact absurd h (by decide), fun _ => by rw [set_other (Ne.symm hne)]; exact hC.r2o h7, fun _ => lay_eq, fun _ => by rw [show Reg.lay Ls 6 3 = Ls 3 from lay_ne (by decide)]; exact h3, fun h => by rw [show Reg.lay Ls 6 6 = true from lay_eq] at h; exact absurd h (by decide)⟩ trivial trivial
    · have hL' : Ls 7 = false := hL
      have h6 : Ls 6 = true := Reg.aw_get ha { on := 6, ground := Ground.chain } (by simp) rfl
      have hr := hC.r2o hL'
      have c0 := row_cell hr 0
      have f0 := row_free hr 0
      simp only [List.getElem?_toArray, List.getElem?_cons_zero] at c0
      simp only [c0, f0]
      go_simp
      try simp only [Reg.gives_value, Reg.gives_skip]
      refine hK _ _ ⟨hC.keep.setCell (fun _ => by simp) _, fun h => by rw [show Reg.lay Ls 7 6 = Ls 6 from lay_ne (by decide), h6] at h; exact absurd h (by decide), fun _ => by rw [set_other hne]; exact hC.r1 h6, fun _ => by rw [row_set hr]; rfl, fun h => by rw [show Reg.lay Ls 7 7 = true from lay_eq] at h; exact absurd h (by decide), fun _ => by rw [show Reg.lay Ls 7 6 = Ls 6 from lay_ne (by decide)]; exact h6, fun _ => by rw [show Reg.lay Ls 7 3 = Ls 3 from lay_ne (by decide)]; exact hC.up3 h6, fun h => by rw [show Reg.lay Ls 7 6 = Ls 6 from lay_ne (by decide), h6] at h; exact absurd h (by decide)⟩ trivial trivial
  case hend =>
    intro vs w' hC hall
    have hdp : DP X1 X2 pl z w w' := ⟨hC.keep, hC.r1 rfl, hC.r2 rfl⟩
    clear hC hall
    go_wp2_with fail
    cases c₀
    simp_all [bodyPostS, results, Tryz.results73]
theorem idle_G (q1 q2 q3 : Addr) (w : World) :
    CallsD Tryz.prog 85 #[.pointer (some q1), .pointer (some q2), .pointer (some q3)] .returning w fun e u' w' => e = .returned (.tuple #[]) ∧ u' = .returning ∧ w' = w := by
  refine callsD_of_wpS Tryz.func85 rfl fun c₀ cs hu => ?_
  apply wpS_seq
  apply wpS_region
  simp [wpOpsS, go_sem, recoverD, hu, Tryz.ntmps85, Exit.thenS]
  refine wpS_of_wp ?_
  go_wp2_with fail
  cases c₀
  simp_all [bodyPostS, results, Tryz.results85]
set_option maxHeartbeats 2000000 in
set_option maxRecDepth 100000 in
theorem panicking_G (b n o k X1 X2 q : Nat) (ts : List Tok) (z : Int) (v1 v2 : Value) (older : List PanicEntry) (w : World) (h : PAt w b n ts o k) (hq : w.cell? ⟨q, 0, none⟩ = some (pp b)) (h1 : w.heap[X1]? = some (.cells #[v1] 3 (0, 0))) (h2 : w.heap[X2]? = some (.cells #[v2] 27 (0, 0))) (hne : X1 ≠ X2) (hq1 : q ≠ X1) (hq2 : q ≠ X2) :
    CallsD Tryz.prog 85 #[.pointer (some ⟨q, 0, none⟩), .pointer (some ⟨X1, 0, none⟩), .pointer (some ⟨X2, 0, none⟩)] (.panicking ({ v := .iface 27 (.int .i64 z), recovered := false } :: older)) w fun e u' w' =>
      e = .returned (.tuple #[]) ∧ u' = .panicking ({ v := .iface 27 (.int .i64 z), recovered := true } :: older) ∧ DP X1 X2 (Px.place n ts) z w w' := by
  have HO := Lib.hid (fun w' h' => offset_any w' b n o k ts h')
  have H := Lib.hid h
  have HQ := Lib.hid hq
  have H1 := Lib.hid h1
  have H2 := Lib.hid h2
  obtain ⟨pl, hpl⟩ : ∃ p, p = Px.place n ts := ⟨_, rfl⟩
  rw [← hpl] at HO ⊢
  clear h hq h1 h2 hpl
  refine callsD_of_wpS Tryz.func85 rfl fun c₀ cs hu => ?_
  apply wpS_seq
  apply wpS_region
  simp [wpOpsS, go_sem, recoverD, hu, Tryz.ntmps85, Exit.thenS]
  refine wpS_of_wp ?_
  go_wp2_with fail
  have efr : (#[Value.pointer (some ⟨q, 0, none⟩), Value.pointer (some ⟨X1, 0, none⟩), Value.pointer (some ⟨X2, 0, none⟩)] ++ ((((Array.replicate 10 undef).setIfInBounds 1 (Value.iface 27 (.int .i64 z))).setIfInBounds 0 (Value.iface 27 (.int .i64 z))).setIfInBounds 2 (Value.iface 27 (.int .i64 z))).setIfInBounds 3 (Value.bool true)) = #[Value.pointer (some ⟨q, 0, none⟩), Value.pointer (some ⟨X1, 0, none⟩), Value.pointer (some ⟨X2, 0, none⟩), (Value.iface 27 (.int .i64 z)), (Value.iface 27 (.int .i64 z)), (Value.iface 27 (.int .i64 z)), Value.bool true, undef, undef, undef, undef, undef, undef] := rfl
  rw [efr]
  clear efr
  refine Reg.wp_region_free (fun L _ w' => DR w X1 X2 pl z v1 v2 L w') (fun _ _ => True) (A := ?A)
    [Reg.Is (pp b), Reg.Is (pp b), Reg.Is (pp b), Reg.Is (.int .i64 (pl : Int)), Reg.Is (.iface 27 (.int .i64 z)), Reg.Is (.int .i64 z), AnyF, AnyF]
    (by kernel_rfl) (by kernel_rfl) rfl ?hA ?hC ?ho ?hlast ?hend
  case hA => intro vs; simp only [Reg.fill, if_true, Nat.zero_add, Nat.reduceAdd, Act.put, List.setIfInBounds_toArray, List.set_cons_succ, List.set_cons_zero]; exact rfl
  case hC => exact fun vs => ⟨(Keeps.refl _ _).drew, fun _ => (Keeps.refl _ _).drew, fun hl => by simp at hl, fun hl => by simp at hl, fun _ => H2.out, fun hl => by simp at hl, fun hl => by simp at hl, fun _ => H1.out⟩
  case hlast => repeat (first | exact trivial | refine ⟨fun _ _ _ h _ => h, ?_⟩)
  case ho =>
    repeat' apply And.intro
    all_goals
      first
        | exact trivial
        | (intro Ls vs w' hC hL hd ha K hK
           try simp only [Reg.Deps, Reg.at_, List.getD_cons_zero, List.getD_cons_succ, Region.binds, true_implies, Reg.Is, and_true, AnyF, true_and] at hd
           have hq := hC.keep.cell_some HQ.out (by simp; omega)
           try simp only [Reg.wantedV, if_true]
           try go_simp
           try simp only [Reg.gives_value, Reg.gives_skip, Reg.gives_enter]
           first
             | exact hK _ _ (hC.lay (by decide)) trivial rfl
             | exact hK _ _ (hC.lay (by decide)) trivial trivial
             | skip)
    · have hL' : Ls 3 = false := hL
      have h6 : Ls 6 = false := by
        cases h : Ls 6 with
        | false => rfl
        | true => have := hC.up3 h; rw [hL'] at this; cases this
      refine (HO.out _ (H.out.keep (hC.k0 h6))).mono ?_
      rintro e w'' ⟨rfl, rfl⟩
      exact ⟨_, rfl, hK _ _ (hC.lay (by decide)) trivial rfl⟩
    · have hL' : Ls 6 = false := hL
      have h7 : Ls 7 = false := by
        cases h : Ls 7 with
        | false => rfl
        | true => have := hC.up h; rw [hL'] at this; cases this
      have h3 : Ls 3 = true := Reg.aw_get ha { on := 3, ground := Ground.data } (by simp) rfl
      have hr := hC.r1o hL'
      have c0 := row_cell hr 0
      have f0 := row_free hr 0
      simp only [List.getElem?_toArray, List.getElem?_cons_zero] at c0
      simp only [c0, f0]
      go_simp
      try simp only [Reg.gives_value, Reg.gives_skip]
      refine hK _ _ ⟨hC.keep.setCell (fun _ => by simp) _, fun h => by rw [show Reg.lay Ls 6 6 = true from lay_eq] at h; exact absurd h (by decide), fun _ => by rw [row_set hr]; rfl, fun h => by rw [show Reg.lay Ls 6 7 = Ls 7 from lay_ne (by decide), h7] at h; exact absurd h (by decide), fun _ => by rw [set_other (Ne.symm hne)]; exact hC.r2o h7, fun _ => lay_eq, fun _ => by rw [show Reg.lay Ls 6 3 = Ls 3 from lay_ne (by decide)]; exact h3, fun h => by rw [show Reg.lay Ls 6 6 = true from lay_eq] at h; exact absurd h (by decide)⟩ trivial trivial
    · have hL' : Ls 7 = false := hL
      have h6 : Ls 6 = true := Reg.aw_get ha { on := 6, ground := Ground.chain } (by simp) rfl
      have hr := hC.r2o hL'
      have c0 := row_cell hr 0
      have f0 := row_free hr 0
      simp only [List.getElem?_toArray, List.getElem?_cons_zero] at c0
      simp only [c0, f0]
      go_simp
      try simp only [Reg.gives_value, Reg.gives_skip]
      refine hK _ _ ⟨hC.keep.setCell (fun _ => by simp) _, fun h => by rw [show Reg.lay Ls 7 6 = Ls 6 from lay_ne (by decide), h6] at h; exact absurd h (by decide), fun _ => by rw [set_other hne]; exact hC.r1 h6, fun _ => by rw [row_set hr]; rfl, fun h => by rw [show Reg.lay Ls 7 7 = true from lay_eq] at h; exact absurd h (by decide), fun _ => by rw [show Reg.lay Ls 7 6 = Ls 6 from lay_ne (by decide)]; exact h6, fun _ => by rw [show Reg.lay Ls 7 3 = Ls 3 from lay_ne (by decide)]; exact hC.up3 h6, fun h => by rw [show Reg.lay Ls 7 6 = Ls 6 from lay_ne (by decide), h6] at h; exact absurd h (by decide)⟩ trivial trivial
  case hend =>
    intro vs w' hC hall
    have hdp : DP X1 X2 pl z w w' := ⟨hC.keep, hC.r1 rfl, hC.r2 rfl⟩
    clear hC hall
    go_wp2_with fail
    cases c₀
    simp_all [bodyPostS, results, Tryz.results85]
end Go.Proofs.YtbikifibfaaggaaGreatDoor
