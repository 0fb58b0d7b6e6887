/- attempt of a summary; the reader's method Summary. -/
import Derived.Test.YtohmadfaaonaaaaCSumRW
namespace Go.Proofs.Ytohmadfaaonaaaa
open Go.RowKit

def zeroSm : Value := .agg #[.slice none 0 0, .bool false, .bool false, .int .i64 0, .int .i64 0, .slice none 0 0]
def GaveS (s : Sm) (l' : List UInt8) (p g : Nat) (w : World) (e : Ending) (w' : World) : Prop := ∃ v, e = .returned v ∧ SmAt w.heap.size w' v s ∧ RdAt w' p g l' false ∧ Keeps [p] w w'

theorem panicking_sm (q : Addr) (p : Nat) (x : Bool) (u : TypeId) (pv : Value) (older : List PanicEntry) (w : World) (hq : w.cell? q = some (.pointer (some ⟨p, 0, none⟩))) (hc : w.cell? ⟨p, 1, none⟩ = some (.bool x)) (hz : w.frozen? ⟨p, 1, none⟩ = false) :
    CallsD Try.prog 67 #[.pointer (some q)] (.panicking ({ v := .iface u pv, recovered := false } :: older)) w fun e u' w' =>
      e = .returned (.tuple #[]) ∧ u' = .panicking ({ v := .iface u pv, recovered := true } :: older) ∧ w' = w.setCell ⟨p, 1, none⟩ (.bool true) := by
  refine callsD_of_wpS Try.func67 rfl fun c₀ cs hu => ?_
  apply wpS_seq
  apply wpS_region
  simp [wpOpsS, go_sem, recoverD, hu, Try.ntmps67, Exit.thenS]
  refine wpS_cond (t := true) (by simp [Act.eval, Array.replicate]) ?_
  simp only [if_true]
  apply wpS_region
  simp [wpOpsS, go_sem, hq, hc, hz, bodyPostS, results, Try.results67]
theorem idle_sm (q : Addr) (w : World) :
    CallsD Try.prog 67 #[.pointer (some q)] .returning w fun e u' w' => e = .returned (.tuple #[]) ∧ u' = .returning ∧ w' = w := by
  refine callsD_of_wpS Try.func67 rfl fun c₀ cs hu => ?_
  apply wpS_seq
  apply wpS_region
  simp [wpOpsS, go_sem, recoverD, hu, Try.ntmps67, Exit.thenS]
  refine wpS_cond (t := false) (by simp [Act.eval, Array.replicate]) ?_
  simp only [Bool.false_eq_true, if_false]
  refine wpS_of_wp (wp_skip ?_)
  cases c₀
  simp_all [bodyPostS, results, Try.results67]

/-- The world behind the two boxes of attempt. -/
def W2 (w : World) (p : Nat) : World := (w.alloc (.cells #[.pointer (some ⟨p, 0, none⟩)] 51)).alloc (.cells #[.slice none 0 0, .bool false, .bool false, .int .i64 0, .int .i64 0, .slice none 0 0] 35)
theorem W2.keeps (w : World) (p : Nat) : Keeps [] w (W2 w p) := ((Keeps.refl [] w).alloc _).alloc _
theorem W2.box (w : World) (p : Nat) : (W2 w p).heap[w.heap.size + 1]? = some (.cells #[.slice none 0 0, .bool false, .bool false, .int .i64 0, .int .i64 0, .slice none 0 0] 35 (0, 0)) := by
  have := heap_alloc_new (w.alloc (.cells #[.pointer (some ⟨p, 0, none⟩)] 51)) (.cells #[.slice none 0 0, .bool false, .bool false, .int .i64 0, .int .i64 0, .slice none 0 0] 35)
  have hs : (w.alloc (.cells #[.pointer (some ⟨p, 0, none⟩)] 51)).heap.size = w.heap.size + 1 := by simp
  rw [hs] at this
  exact this
theorem W2.ptr (w : World) (p : Nat) : (W2 w p).heap[w.heap.size]? = some (.cells #[.pointer (some ⟨p, 0, none⟩)] 51 (0, 0)) := by
  have h1 := heap_alloc_new w (.cells #[.pointer (some ⟨p, 0, none⟩)] 51)
  exact block_keep h1 ((Keeps.refl [] _).alloc _) (by simp)
theorem W2.size (w : World) (p : Nat) : (W2 w p).heap.size = w.heap.size + 2 := by simp [W2]

set_option maxHeartbeats 1000000 in
theorem attempt_gone_sm (w : World) (p g : Nat) (l : List UInt8) (fv : Value) (hr : RdAt w p g l true) :
    Calls Try.prog 54 #[.pointer (some ⟨p, 0, none⟩), fv] w (Gone zeroSm p g w) := by
  have hp := hr.lt
  have HK := Lib.hid (W2.keeps w p)
  have HR := Lib.hid (hr.keep HK.out (by simp) (by simp))
  have HB := Lib.hid (W2.box w p)
  obtain ⟨A, cap, hb, _⟩ := id HR.out
  have hc1 := cell_of_two1 hb
  clear hb hr
  unfold W2 at hc1 HB HR HK
  go_enter_defers Try.func54, Try.ntmps54
  go_wp2
  simp [bodyPostD, Leaves, results, Try.results54, go_sem]
  exact ⟨rfl, l, HR.out, HK.out.mono (by simp)⟩

theorem no_u8 {A : Option Addr} {n c : Nat} {b s : Bool} {lo hi : Int} {Am : Option Addr} {m k : Nat} : ∀ (i : Nat) (z : Int), (#[.slice A n c, .bool b, .bool s, .int .i64 lo, .int .i64 hi, .slice Am m k] : Array Value)[i]? ≠ some (.int .u8 z) := by
  intro i z
  match i with
  | 0 => simp
  | 1 => simp
  | 2 => simp
  | 3 => simp
  | 4 => simp
  | 5 => simp
  | i + 6 => simp
theorem SmAt.keep {B : Nat} {w w' : World} {v : Value} {s : Sm} {S : List Nat} (h : SmAt B w v s) (hS : ∀ x ∈ S, x < B) (hk : Keeps S w w') : SmAt B w' v s := by
  obtain ⟨h1, h2, Aa, ca, Am, cm, hv, al, nl, b1, b2⟩ := h
  exact ⟨h1, h2, Aa, ca, Am, cm, hv, al.keep hk (fun hm => by have := hS _ hm; omega), nl.keep hk (fun hm => by have := hS _ hm; omega), b1, b2⟩
theorem SmAt.down {B B' : Nat} {w : World} {v : Value} {s : Sm} (h : SmAt B w v s) (hb : B' ≤ B) : SmAt B' w v s := by
  obtain ⟨h1, h2, Aa, ca, Am, cm, hv, al, nl, b1, b2⟩ := h
  exact ⟨h1, h2, Aa, ca, Am, cm, hv, al, nl, by omega, by omega⟩

set_option maxHeartbeats 2000000 in
theorem attempt_ok_sm (w : World) (p g : Nat) (l l' : List UInt8) (s : Sm) (hr : RdAt w p g l false) (hd : M.decSm l = some (s, l')) (hl : l.length ≤ 1000000000) :
    Calls Try.prog 54 #[.pointer (some ⟨p, 0, none⟩), .func (.func 55) #[.pointer (some ⟨p, 0, none⟩)] #[]] w (GaveS s l' p g w) := by
  have hmf : ∀ (fn : Fn) (first cap : Array Value) (w : World), (Instr.makeFunc fn first cap).run Try.prog w = .ok (.func fn first cap) w := fun _ _ _ _ => rfl
  have hp := hr.lt
  have HK := Lib.hid (W2.keeps w p)
  have HR := Lib.hid (hr.keep HK.out (by simp) (by simp))
  have HB := Lib.hid (W2.box w p)
  have hread : Calls Try.prog 55 #[.pointer (some ⟨p, 0, none⟩)] (W2 w p) (SumOut (some (s, l')) p g false (W2 w p)) := by
    have := summary_out (W2 w p) p g false l HR.out hl
    rwa [hd] at this
  have HREAD := Lib.hid hread
  have HSZ := Lib.hid (W2.size w p)
  obtain ⟨A, cap, hb, _⟩ := id HR.out
  have hc1 := cell_of_two1 hb
  clear hb hr hread hd
  unfold W2 at hc1 HB HR HK HREAD HSZ
  go_enter_defers Try.func54, Try.ntmps54
  go_wp2_with fail
  refine HREAD.out.mono ?_
  rintro e w1 ⟨v, rfl, h0, h1, h2⟩
  rw [HSZ.out] at h0
  have hbx := block_keep HB.out h2 (by simp; omega)
  obtain ⟨g1, g2, Aa, ca, Am, cm, rfl, al, nl, b1, b2⟩ := h0
  have c0 : w1.cell? ⟨w.heap.size + 1, 0, none⟩ = some (.slice none 0 0) := row_cell hbx 0
  have c1 : w1.cell? ⟨w.heap.size + 1, 1, none⟩ = some (.bool false) := row_cell hbx 1
  have c2 : w1.cell? ⟨w.heap.size + 1, 2, none⟩ = some (.bool false) := row_cell hbx 2
  have c3 : w1.cell? ⟨w.heap.size + 1, 3, none⟩ = some (.int .i64 0) := row_cell hbx 3
  have c4 : w1.cell? ⟨w.heap.size + 1, 4, none⟩ = some (.int .i64 0) := row_cell hbx 4
  have c5 : w1.cell? ⟨w.heap.size + 1, 5, none⟩ = some (.slice none 0 0) := row_cell hbx 5
  have f0 := row_free hbx 0
  have f1 := row_free hbx 1
  have f2 := row_free hbx 2
  have f3 := row_free hbx 3
  have f4 := row_free hbx 4
  have f5 := row_free hbx 5
  have HX := Lib.hid hbx
  have H1 := Lib.hid h1
  have H2 := Lib.hid ((HK.out.mono (by simp)).trans h2 (fun _ h _ => h))
  have HAL := Lib.hid al
  have HNL := Lib.hid nl
  clear h1 h2 hbx al nl
  go_wp2
  refine leaves_cons (f := 67) (args := #[.pointer (some ⟨w.heap.size, 0, none⟩)]) (by simp) (by simp [go_sem]) ?_
  refine (idle_sm ⟨w.heap.size, 0, none⟩ _).mono ?_
  rintro e u' w'' ⟨rfl, rfl, rfl⟩
  simp [Leaves, settle, results, Try.results54, go_sem, c0, c1, c2, c3, c4, c5]
  have hst : ∀ (v0 v1 v2 v3 v4 v5 : Value), Keeps [w.heap.size + 1] w1 ((((((w1.setCell ⟨w.heap.size + 1, 0, none⟩ v0).setCell ⟨w.heap.size + 1, 1, none⟩ v1).setCell ⟨w.heap.size + 1, 2, none⟩ v2).setCell ⟨w.heap.size + 1, 3, none⟩ v3).setCell ⟨w.heap.size + 1, 4, none⟩ v4).setCell ⟨w.heap.size + 1, 5, none⟩ v5) := fun v0 v1 v2 v3 v4 v5 => ((((((Keeps.refl [w.heap.size + 1] w1).setCell (by simp) _).setCell (by simp) _).setCell (by simp) _).setCell (by simp) _).setCell (by simp) _).setCell (by simp) _
  exact ⟨_, rfl, ⟨g1, g2, _, _, _, _, rfl, HAL.out.keep (hst _ _ _ _ _ _) (by simp; omega), HNL.out.keep (hst _ _ _ _ _ _) (by simp; omega), by omega, by omega⟩, H1.out.other HX.out no_u8 (by omega) (hst _ _ _ _ _ _), H2.out.trans (hst _ _ _ _ _ _) (fun x hx hl => by simp at hx; omega)⟩

set_option maxHeartbeats 2000000 in
theorem attempt_fell_sm (w : World) (p g : Nat) (l : List UInt8) (hr : RdAt w p g l false) (hd : M.decSm l = none) (hl : l.length ≤ 1000000000) :
    Calls Try.prog 54 #[.pointer (some ⟨p, 0, none⟩), .func (.func 55) #[.pointer (some ⟨p, 0, none⟩)] #[]] w (Gone zeroSm p g w) := by
  have hmf : ∀ (fn : Fn) (first cap : Array Value) (w : World), (Instr.makeFunc fn first cap).run Try.prog w = .ok (.func fn first cap) w := fun _ _ _ _ => rfl
  have hp := hr.lt
  have HK := Lib.hid (W2.keeps w p)
  have HR := Lib.hid (hr.keep HK.out (by simp) (by simp))
  have HB := Lib.hid (W2.box w p)
  have HP := Lib.hid (cell_of_one (W2.ptr w p))
  have hread : Calls Try.prog 55 #[.pointer (some ⟨p, 0, none⟩)] (W2 w p) (SumOut none p g false (W2 w p)) := by
    have := summary_out (W2 w p) p g false l HR.out hl
    rwa [hd] at this
  have HREAD := Lib.hid hread
  obtain ⟨A, cap, hb, _⟩ := id HR.out
  have hc1 := cell_of_two1 hb
  clear hb hr hread hd
  unfold W2 at hc1 HB HR HK HREAD HP
  go_enter_defers Try.func54, Try.ntmps54
  go_wp2_with fail
  refine HREAD.out.mono ?_
  rintro e w1 ⟨rfl, l', h1, h2⟩
  have hbx := block_keep HB.out h2 (by simp; omega)
  have c0 : w1.cell? ⟨w.heap.size + 1, 0, none⟩ = some (.slice none 0 0) := row_cell hbx 0
  have c1 : w1.cell? ⟨w.heap.size + 1, 1, none⟩ = some (.bool false) := row_cell hbx 1
  have c2 : w1.cell? ⟨w.heap.size + 1, 2, none⟩ = some (.bool false) := row_cell hbx 2
  have c3 : w1.cell? ⟨w.heap.size + 1, 3, none⟩ = some (.int .i64 0) := row_cell hbx 3
  have c4 : w1.cell? ⟨w.heap.size + 1, 4, none⟩ = some (.int .i64 0) := row_cell hbx 4
  have c5 : w1.cell? ⟨w.heap.size + 1, 5, none⟩ = some (.slice none 0 0) := row_cell hbx 5
  have hq := h2.cell_some HP.out (by simp; omega)
  have H1 := Lib.hid h1
  have H2 := Lib.hid ((HK.out.mono (by simp)).trans h2 (fun _ h _ => h))
  clear h1 h2 hbx
  go_wp2
  refine leaves_cons (f := 67) (args := #[.pointer (some ⟨w.heap.size, 0, none⟩)]) (by simp) (by simp [go_sem]) ?_
  obtain ⟨A', cap', hb', hbi', hc', hm'⟩ := H1.out
  unfold refused
  refine (panicking_sm ⟨w.heap.size, 0, none⟩ p false _ _ [] _ hq (cell_of_two1 hb') (free_of_two hb' 1)).mono ?_
  rintro e u' w'' ⟨rfl, rfl, rfl⟩
  have hne : p ≠ w.heap.size + 1 := by omega
  simp [Leaves, settle, results, Try.results54, go_sem, c0, c1, c2, c3, c4, c5, hne]
  refine ⟨rfl, l', ⟨A', cap', two_setCell1 hb', fail_keep hb' hbi', hc', hm'⟩, H2.out.setCell (by simp) _⟩
end Go.Proofs.Ytohmadfaaonaaaa
