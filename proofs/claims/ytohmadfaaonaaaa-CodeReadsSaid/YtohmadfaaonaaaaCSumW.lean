/- The walks of the writer: ival, Summary of one. -/
import Derived.Test.YtohmadfaaonaaaaCRefS
namespace Go.Proofs.Ytohmadfaaonaaaa
open Go.RowKit
open Reg (Is Fact)

/-- A region with one call of the writer's, operation c: what has come up, and the world. -/
def CK (c : Nat) (wr : World) (q h : Nat) (L' : List UInt8) (L : Nat → Bool) (w : World) : Prop :=
  Keeps [q, h] wr w ∧ (L c = false → Keeps [] wr w) ∧ (L c = true → ∃ h', WrAt w q h' L' ∧ (h' = h ∨ wr.heap.size ≤ h') ∧ Keeps [q, h] wr w)
def GK (q h : Nat) (w w' : World) : Prop := Keeps [q, h] w w'
theorem CK.start {c : Nat} {wr : World} {q h n : Nat} {L' : List UInt8} (hc : c < n) : CK c wr q h L' (fun k => decide (n ≤ k)) wr.drew :=
  ⟨(Keeps.refl _ _).drew, fun _ => (Keeps.refl _ _).drew, fun hl => by simp at hl; omega⟩
theorem CK.lay {c : Nat} {wr w w' : World} {q h : Nat} {L' : List UInt8} {L : Nat → Bool} {i : Nat} (x : CK c wr q h L' L w) (hi : i ≠ c) (hk : Keeps [] w w') : CK c wr q h L' (Reg.lay L i) w' := by
  have e : Reg.lay L i c = L c := lay_ne hi
  refine ⟨x.1.trans hk (by simp), fun hl => (x.2.1 (by rw [← e]; exact hl)).trans hk (by simp), fun hl => ?_⟩
  obtain ⟨h', q1, q2, q3⟩ := x.2.2 (by rw [← e]; exact hl)
  exact ⟨h', q1.keep hk (by simp) (by simp), q2, q3.trans hk (by simp)⟩
theorem CK.done {c : Nat} {wr w w' : World} {q h h' : Nat} {L' : List UInt8} {L : Nat → Bool} (hk : Keeps [] wr w) (q1 : WrAt w' q h' L') (q2 : h' = h ∨ w.heap.size ≤ h') (q3 : Keeps [q, h] w w') : CK c wr q h L' (Reg.lay L c) w' := by
  have k : Keeps [q, h] wr w' := (hk.mono (by simp)).trans q3 (fun _ h _ => h)
  have := hk.size
  refine ⟨k, fun hl => ?_, fun _ => ⟨h', q1, by omega, k⟩⟩
  rw [lay_eq] at hl
  cases hl
theorem GK.of {w w' : World} {q h : Nat} (hk : Keeps [] w w') : GK q h w w' := hk.mono (by simp)
theorem GK.same (q h : Nat) (w : World) : GK q h w w := Keeps.refl _ _
/-- A new row of the cells cs. -/
def RowF (q h n : Nat) (cs : Array Value) : Fact := fun v w => ∃ x, v = .slice (some ⟨x, 0, none⟩) n n ∧ (∀ j u, cs[j]? = some u → w.cell? ⟨x, j, none⟩ = some u) ∧ x ≠ q ∧ x ≠ h
theorem RowF.last {q h n : Nat} {cs : Array Value} : ∀ v w w', RowF q h n cs v w → GK q h w w' → RowF q h n cs v w' :=
  fun _ _ _ ⟨x, h1, h2, h3, h4⟩ hg => ⟨x, h1, fun j u hu => Keeps.cell_some hg (h2 j u hu) (by simp; exact ⟨h3, h4⟩), h3, h4⟩
theorem RowF.new {wr w : World} {q h n : Nat} {cs : Array Value} {t : TypeId} (hl : q < wr.heap.size ∧ h < wr.heap.size) (hs : wr.heap.size ≤ w.heap.size) : RowF q h n cs (.slice (some ⟨w.heap.size, 0, none⟩) n n) (w.alloc (.cells cs t)) :=
  ⟨_, rfl, fun j u hu => by rw [new_cell j]; exact hu, by omega, by omega⟩
theorem RowF.cells {q h n : Nat} {cs : Array Value} {w : World} {x : Nat} {vs : List Value} (hx : ∀ j u, cs[j]? = some u → w.cell? ⟨x, j, none⟩ = some u) (he : cs = vs.toArray) : CellsIn w x (some ⟨x, 0, none⟩) vs :=
  .inr ⟨0, rfl, fun k hk => by rw [Nat.zero_add]; exact hx k _ (by rw [he]; simp [hk])⟩
theorem Is.lastK {q h : Nat} {u : Value} : ∀ v w w', Is u v w → GK q h w w' → Is u v w' := fun _ _ _ h _ => h

attribute [local go_sem] Reg.wantedV Reg.gives_value Reg.gives_skip Reg.gives_enter
/-- What a part of a method of the writer's leaves. -/
def WroteU (w : World) (p g : Nat) (l : List UInt8) (w' : World) : Prop := ∃ g', WrAt w' p g' l ∧ (g' = g ∨ w.heap.size ≤ g') ∧ Keeps [p, g] w w'
theorem WroteU.trans {w w1 w2 : World} {p g g1 : Nat} {l : List UInt8} (hk : Keeps [p, g] w w1) (hg : g1 = g ∨ w.heap.size ≤ g1) (h : WroteU w1 p g1 l w2) : WroteU w p g l w2 := by
  obtain ⟨g2, h1, h2, h3⟩ := h
  have := hk.size
  refine ⟨g2, h1, by omega, hk.trans h3 (fun i hi hl => ?_)⟩
  simp at hi ⊢
  omega

set_option maxHeartbeats 2000000 in
set_option maxRecDepth 100000 in
theorem ival_any (w : World) (p g : Nat) (l : List UInt8) (iv : Iv) (hw : WrAt w p g l) (hv : iv.ok) (hl : l.length ≤ 1000000000) :
    Calls Try.prog 42 #[.pointer (some ⟨p, 0, none⟩), .agg #[.bool iv.some, .int .i64 iv.lo, .int .i64 iv.hi]] w (Wrote w p g (l ++ encIv iv)) := by
  obtain ⟨sm, lo, hi⟩ := iv
  have HW := Lib.hid (hw.keep ((Keeps.refl [] w).alloc (.cells #[.bool sm, .int .i64 lo, .int .i64 hi] 32)) (by simp) (by simp))
  have HLT := Lib.hid hw.lt
  have HV : Hid (Wide lo ∧ Wide hi) := Lib.hid hv
  have hnb : w.heap.size ∉ [p, g] := by have := hw.lt; simp; omega
  have HNB := Lib.hid hnb
  have hx0 : (w.alloc (.cells #[.bool sm, .int .i64 lo, .int .i64 hi] 32)).cell? ⟨w.heap.size, 0, none⟩ = some (.bool sm) := new_cell 0
  have hx1 : (w.alloc (.cells #[.bool sm, .int .i64 lo, .int .i64 hi] 32)).cell? ⟨w.heap.size, 1, none⟩ = some (.int .i64 lo) := new_cell 1
  have hx2 : (w.alloc (.cells #[.bool sm, .int .i64 lo, .int .i64 hi] 32)).cell? ⟨w.heap.size, 2, none⟩ = some (.int .i64 hi) := new_cell 2
  have HX0 := Lib.hid hx0
  have HX1 := Lib.hid hx1
  have HX2 := Lib.hid hx2
  clear hw hv hnb hx0 hx1 hx2
  go_enter Try.func42, Try.ntmps42
  go_wp2_with fail
  refine Reg.wp_region_state (A := ?Aa) (CK 6 (w.alloc (.cells #[.bool sm, .int .i64 lo, .int .i64 hi] 32)) p g (l ++ M.encBool sm)) (GK p g)
    [Is (.pointer (some ⟨p, 0, none⟩)), Is (.pointer (some ⟨p, 0, none⟩)), Is (.pointer (some ⟨p, 0, none⟩)), Is (.pointer (some ⟨w.heap.size, 0, none⟩)), Is (.bool sm), RowF p g 1 #[.bool sm], Is (.tuple #[])]
    (by kernel_rfl) (by kernel_rfl) rfl ?hAa ?hCa ?hoa ?hlasta ?henda
  case hAa => intro vs; simp only [Reg.fill, if_true, Nat.zero_add, Nat.reduceAdd, Act.put, List.setIfInBounds_toArray, List.set_cons_succ, List.set_cons_zero]; exact rfl
  case hCa => exact CK.start (n := 7) (by decide)
  case hlasta => repeat (first | exact trivial | refine ⟨Is.lastK, ?_⟩ | refine ⟨RowF.last, ?_⟩)
  case hoa =>
    repeat' apply And.intro
    all_goals
      first
        | exact trivial
        | (intro L vs w' hC hL hd K hK
           try simp only [Reg.Deps, Reg.at_, List.getD_cons_zero, List.getD_cons_succ, Region.binds, true_implies, Is, and_true] at hd
           have hx0' := hC.1.cell_some HX0.out HNB.out
           go_simp
           first
             | exact hK _ _ (hC.lay (by decide) (Keeps.refl _ _)) (GK.same _ _ _) rfl
             | skip)
    · exact hK _ _ (hC.lay (by decide) ((Keeps.refl _ _).alloc _)) (GK.of ((Keeps.refl _ _).alloc _)) (RowF.new HW.out.lt hC.1.size)
    · obtain ⟨-, x, hx, hxb, hx1, hx2⟩ := hd
      rw [hx]
      have hk8 := hC.2.1 hL
      refine (bool_any w' p g x l (some ⟨x, 0, none⟩) [sm] 1 (HW.out.keep hk8 (by simp) (by simp)) (RowF.cells (q := p) (h := g) (n := 1) hxb rfl) hx1 hx2 (by simp; omega)).mono ?_
      rintro e w'' ⟨rfl, h', q1, q2, q3⟩
      exact ⟨_, rfl, hK _ _ (CK.done hk8 (by simpa using q1) q2 q3) q3 rfl⟩
  case henda =>
    intro vs w2 hC hall
    obtain ⟨g2, q1, q2, q3⟩ := hC.2.2 rfl
    have hy0 := q3.cell_some HX0.out HNB.out
    have hy1 := q3.cell_some HX1.out HNB.out
    have hy2 := q3.cell_some HX2.out HNB.out
    have HQ1 := Lib.hid q1
    have HQ2 : Hid (g2 = g ∨ w.heap.size < g2) := Lib.hid (by simp at q2; omega)
    have HQ3 : Hid (Keeps [p, g] w w2) := Lib.hid (((Keeps.refl [p, g] w).alloc _).trans q3 (fun _ h _ => h))
    clear hC hall q1 q2 q3
    cases sm with
    | false =>
      have HE := Lib.hid (show l ++ M.encBool false = l ++ encIv ⟨false, lo, hi⟩ by simp [encIv])
      go_wp2
      go_end0
      exact ⟨rfl, g2, by rw [← HE.out]; exact HQ1.out, HQ2.out.imp id (fun h => by omega), HQ3.out⟩
    | true =>
      have HE := Lib.hid (show l ++ M.encBool true ++ (encInt lo ++ encInt hi) = l ++ encIv ⟨true, lo, hi⟩ by simp [encIv])
      obtain ⟨l1, hl1⟩ : ∃ l1, l1 = l ++ M.encBool true := ⟨_, rfl⟩
      rw [← hl1] at HQ1 HE
      have hlen : l1.length ≤ 1000000001 := by rw [hl1]; simp [M.encBool]; omega
      have hnb2 : w.heap.size ∉ [p, g2] := by have h1 := HLT.out; have h2 := HQ2.out; simp; omega
      have HNB2 := Lib.hid hnb2
      have HY1 := Lib.hid hy1
      have HY2 := Lib.hid hy2
      clear hl1 hnb2 hy1 hy2
      go_wp2_with fail
      refine Reg.wp_region_state (A := ?Ab) (CK 8 w2 p g2 (l1 ++ (encInt lo ++ encInt hi))) (GK p g2)
        [Is (.pointer (some ⟨p, 0, none⟩)), Is (.pointer (some ⟨p, 0, none⟩)), Is (.pointer (some ⟨p, 0, none⟩)), Is (.pointer (some ⟨w.heap.size, 1, none⟩)), Is (.int .i64 lo), Is (.pointer (some ⟨w.heap.size, 2, none⟩)), Is (.int .i64 hi), RowF p g2 2 #[.int .i64 lo, .int .i64 hi], Is (.tuple #[])]
        (by kernel_rfl) (by kernel_rfl) rfl ?hAb ?hCb ?hob ?hlastb ?hendb
      case hAb => intro vs; simp only [Reg.fill, if_true, Nat.zero_add, Nat.reduceAdd, Act.put, List.setIfInBounds_toArray, List.set_cons_succ, List.set_cons_zero]; exact rfl
      case hCb => exact CK.start (n := 9) (by decide)
      case hlastb => repeat (first | exact trivial | refine ⟨Is.lastK, ?_⟩ | refine ⟨RowF.last, ?_⟩)
      case hob =>
        repeat' apply And.intro
        all_goals
          first
            | exact trivial
            | (intro L vs w' hC hL hd K hK
               try simp only [Reg.Deps, Reg.at_, List.getD_cons_zero, List.getD_cons_succ, Region.binds, true_implies, Is, and_true] at hd
               have hx1' := hC.1.cell_some HY1.out HNB2.out
               have hx2' := hC.1.cell_some HY2.out HNB2.out
               go_simp
               first
                 | exact hK _ _ (hC.lay (by decide) (Keeps.refl _ _)) (GK.same _ _ _) rfl
                 | skip)
        · exact hK _ _ (hC.lay (by decide) ((Keeps.refl _ _).alloc _)) (GK.of ((Keeps.refl _ _).alloc _)) (RowF.new HQ1.out.lt hC.1.size)
        · obtain ⟨-, x, hx, hxb, hx1, hx2⟩ := hd
          rw [hx]
          have hk8 := hC.2.1 hL
          refine (int_any w' p g2 x l1 (some ⟨x, 0, none⟩) [lo, hi] 2 (HQ1.out.keep hk8 (by simp) (by simp)) (RowF.cells (q := p) (h := g2) (n := 2) hxb rfl) hx1 hx2 (by have := HV.out; simpa using this) (by simp; omega)).mono ?_
          rintro e w'' ⟨rfl, h', q1, q2, q3⟩
          exact ⟨_, rfl, hK _ _ (CK.done hk8 (by simpa using q1) q2 q3) q3 rfl⟩
      case hendb =>
        intro vs w3 hC hall
        have hu : WroteU w2 p g2 (l ++ encIv ⟨true, lo, hi⟩) w3 := by rw [← HE.out]; exact hC.2.2 rfl
        have HU := Lib.hid (hu.trans HQ3.out (HQ2.out.imp id (fun h => by omega)))
        clear hC hall hu
        go_wp2
        go_end0
        exact ⟨rfl, HU.out⟩
end Go.Proofs.Ytohmadfaaonaaaa
