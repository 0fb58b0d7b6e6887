/- attempt at each of its types; the reader's methods Num, Int, Text, Bool, Done. -/
import Derived.Test.YtohmadfaaonaaaaCText
import Derived.Defers
import Derived.Recover
namespace Go.Proofs.Ytohmadfaaonaaaa
open Go.RowKit

/-- A method of the reader's that did not fail. -/
def Gave (v : Value) (l' : List UInt8) (p g : Nat) (w : World) (e : Ending) (w' : World) : Prop := e = .returned v ∧ RdAt w' p g l' false ∧ Keeps [p] w w'
/-- A method of the reader's that failed, or came behind one that did. -/
def Gone (z : Value) (p g : Nat) (w : World) (e : Ending) (w' : World) : Prop := e = .returned z ∧ ∃ l', RdAt w' p g l' true ∧ Keeps [p] w w'
theorem fail_keep {w : World} {p g : Nat} {A : Option Addr} {n cap : Nat} {f : Bool} {l : List UInt8} (hb : w.heap[p]? = some (.cells #[.slice A n cap, .bool f] 90 (0, 0))) (hi : BytesIn w g A l) : BytesIn (w.setCell ⟨p, 1, none⟩ (.bool true)) g A l := by
  by_cases hl : l.length = 0
  · exact .inl (List.eq_nil_of_length_eq_zero hl)
  · have hgp : g ≠ p := by
      rcases hi with h | ⟨off, rfl, hcell⟩
      · subst h; exact absurd rfl hl
      · exact RdAt.apart hb (by intro i c; match i with | 0 => simp | 1 => simp | i + 2 => simp) (by omega) hcell
    exact hi.keep ((Keeps.refl [p] w).setCell (by simp) _) (by simpa using hgp)

/-! ### num -/
theorem panicking_num (q : Addr) (p : Nat) (x : Bool) (u : TypeId) (pv : Value) (older : List PanicEntry) (w : World) (hq : w.cell? q = some (.pointer (some ⟨p, 0, none⟩))) (hc : w.cell? ⟨p, 1, none⟩ = some (.bool x)) (hz : w.frozen? ⟨p, 1, none⟩ = false) :
    CallsD Try.prog 60 #[.pointer (some q)] (.panicking ({ v := .iface u pv, recovered := false } :: older)) w fun e u' w' =>
      e = .returned (.tuple #[]) ∧ u' = .panicking ({ v := .iface u pv, recovered := true } :: older) ∧ w' = w.setCell ⟨p, 1, none⟩ (.bool true) := by
  refine callsD_of_wpS Try.func60 rfl fun c₀ cs hu => ?_
  apply wpS_seq
  apply wpS_region
  simp [wpOpsS, go_sem, recoverD, hu, Try.ntmps60, Exit.thenS]
  refine wpS_cond (t := true) (by simp [Act.eval, Array.replicate]) ?_
  simp only [if_true]
  apply wpS_region
  simp [wpOpsS, go_sem, hq, hc, hz, bodyPostS, results, Try.results60]
theorem idle_num (q : Addr) (w : World) :
    CallsD Try.prog 60 #[.pointer (some q)] .returning w fun e u' w' => e = .returned (.tuple #[]) ∧ u' = .returning ∧ w' = w := by
  refine callsD_of_wpS Try.func60 rfl fun c₀ cs hu => ?_
  apply wpS_seq
  apply wpS_region
  simp [wpOpsS, go_sem, recoverD, hu, Try.ntmps60, Exit.thenS]
  refine wpS_cond (t := false) (by simp [Act.eval, Array.replicate]) ?_
  simp only [Bool.false_eq_true, if_false]
  refine wpS_of_wp (wp_skip ?_)
  cases c₀
  simp_all [bodyPostS, results, Try.results60]

set_option maxHeartbeats 400000 in
theorem attempt_gone_num (w : World) (p g : Nat) (l : List UInt8) (fv : Value) (hr : RdAt w p g l true) :
    Calls Try.prog 44 #[.pointer (some ⟨p, 0, none⟩), fv] w (Gone (.int .u64 0) p g w) := by
  obtain ⟨A, cap, hb, hbi, _, _⟩ := id hr
  have hc1 := cell_of_two1 hb
  have hpl := block_lt hb
  have HK := Lib.hid ((Keeps.refl [] w).alloc (.cells #[.pointer (some ⟨p, 0, none⟩)] 51))
  have HR := Lib.hid (show RdAt (w.alloc (.cells #[.pointer (some ⟨p, 0, none⟩)] 51)) p g l true from hr.keep HK.out (by simp) (by simp))
  have hc1' := HK.out.cell_some hc1 (by simp)
  clear hb hbi hr
  go_enter_defers Try.func44, Try.ntmps44
  go_wp2
  simp [bodyPostD, Leaves, results, Try.results44, go_sem]
  exact ⟨rfl, l, HR.out, HK.out.mono (by simp)⟩

set_option maxHeartbeats 400000 in
theorem attempt_ok_num (w : World) (p g : Nat) (l l' : List UInt8) (v : Value) (hr : RdAt w p g l false)
    (hread : ∀ w1, RdAt w1 p g l false → Calls Try.prog 45 #[.pointer (some ⟨p, 0, none⟩)] w1 (Took v l' p g false w1)) :
    Calls Try.prog 44 #[.pointer (some ⟨p, 0, none⟩), .func (.func 45) #[.pointer (some ⟨p, 0, none⟩)] #[]] w (Gave v l' p g w) := by
  have hmf : ∀ (fn : Fn) (first cap : Array Value) (w : World), (Instr.makeFunc fn first cap).run Try.prog w = .ok (.func fn first cap) w := fun _ _ _ _ => rfl
  obtain ⟨A, cap, hb, hbi, _, _⟩ := id hr
  have hc1 := cell_of_two1 hb
  have hpl := block_lt hb
  have HK := Lib.hid ((Keeps.refl [] w).alloc (.cells #[.pointer (some ⟨p, 0, none⟩)] 51))
  have HR := Lib.hid (show RdAt (w.alloc (.cells #[.pointer (some ⟨p, 0, none⟩)] 51)) p g l false from hr.keep HK.out (by simp) (by simp))
  have hc1' := HK.out.cell_some hc1 (by simp)
  have HREAD := Lib.hid hread
  clear hb hbi hr hread
  go_enter_defers Try.func44, Try.ntmps44
  go_wp2_with fail
  refine (HREAD.out _ HR.out).mono ?_
  rintro e w1 ⟨rfl, h1, h2⟩
  have H1 := Lib.hid h1
  have H2 := Lib.hid h2
  clear h1 h2
  go_wp2
  refine leaves_cons (f := 60) (args := #[.pointer (some ⟨w.heap.size, 0, none⟩)]) (by simp) (by simp [go_sem]) ?_
  refine (idle_num ⟨w.heap.size, 0, none⟩ _).mono ?_
  rintro e u' w'' ⟨rfl, rfl, rfl⟩
  simp [Leaves, settle, results, Try.results44, go_sem]
  exact ⟨rfl, H1.out, (HK.out.mono (by simp)).trans H2.out (fun _ h _ => h)⟩

set_option maxHeartbeats 400000 in
theorem attempt_fell_num (w : World) (p g : Nat) (l : List UInt8) (hr : RdAt w p g l false)
    (hread : ∀ w1, RdAt w1 p g l false → Calls Try.prog 45 #[.pointer (some ⟨p, 0, none⟩)] w1 (Fell p g false w1)) :
    Calls Try.prog 44 #[.pointer (some ⟨p, 0, none⟩), .func (.func 45) #[.pointer (some ⟨p, 0, none⟩)] #[]] w (Gone (.int .u64 0) p g w) := by
  have hmf : ∀ (fn : Fn) (first cap : Array Value) (w : World), (Instr.makeFunc fn first cap).run Try.prog w = .ok (.func fn first cap) w := fun _ _ _ _ => rfl
  obtain ⟨A, cap, hb, hbi, _, _⟩ := id hr
  have hc1 := cell_of_two1 hb
  have hpl := block_lt hb
  have HK := Lib.hid ((Keeps.refl [] w).alloc (.cells #[.pointer (some ⟨p, 0, none⟩)] 51))
  have HR := Lib.hid (show RdAt (w.alloc (.cells #[.pointer (some ⟨p, 0, none⟩)] 51)) p g l false from hr.keep HK.out (by simp) (by simp))
  have hq : (w.alloc (.cells #[.pointer (some ⟨p, 0, none⟩)] 51)).cell? ⟨w.heap.size, 0, none⟩ = some (.pointer (some ⟨p, 0, none⟩)) := cell_of_one (heap_alloc_new w _)
  have HQ := Lib.hid hq
  have hc1' := HK.out.cell_some hc1 (by simp)
  have HREAD := Lib.hid hread
  clear hb hbi hr hread hq
  go_enter_defers Try.func44, Try.ntmps44
  go_wp2_with fail
  refine (HREAD.out _ HR.out).mono ?_
  rintro e w1 ⟨rfl, l', h1, h2⟩
  have H1 := Lib.hid h1
  have H2 := Lib.hid h2
  clear h1 h2
  go_wp2
  refine leaves_cons (f := 60) (args := #[.pointer (some ⟨w.heap.size, 0, none⟩)]) (by simp) (by simp [go_sem]) ?_
  obtain ⟨A', cap', hb', hbi', hc', hm'⟩ := H1.out
  unfold refused
  refine (panicking_num ⟨w.heap.size, 0, none⟩ p false _ _ [] _ (H2.out.cell_some HQ.out (by simp; omega)) (cell_of_two1 hb') (free_of_two hb' 1)).mono ?_
  rintro e u' w'' ⟨rfl, rfl, rfl⟩
  simp [Leaves, settle, results, Try.results44, go_sem]
  refine ⟨rfl, l', ⟨A', cap', two_setCell1 hb', fail_keep hb' hbi', hc', hm'⟩, ((HK.out.mono (by simp)).trans H2.out (fun _ h _ => h)).setCell (by simp) _⟩

/-- The method: what it answers. -/
theorem Num_gone (w : World) (p g : Nat) (l : List UInt8) (hr : RdAt w p g l true) : Calls Try.prog 22 #[.pointer (some ⟨p, 0, none⟩)] w (Gone (.int .u64 0) p g w) := by
  have hmf : ∀ (fn : Fn) (first cap : Array Value) (w : World), (Instr.makeFunc fn first cap).run Try.prog w = .ok (.func fn first cap) w := fun _ _ _ _ => rfl
  go_enter Try.func22, Try.ntmps22
  go_wp2_with fail
  refine (attempt_gone_num w p g l _ hr).mono ?_
  rintro e w' ⟨rfl, h1⟩
  have H1 := Lib.hid h1
  clear h1
  go_wp2_with fail
  go_ret
  exact ⟨rfl, H1.out⟩
theorem Num_fell (w : World) (p g : Nat) (l : List UInt8) (hr : RdAt w p g l false)
    (hread : ∀ w1, RdAt w1 p g l false → Calls Try.prog 45 #[.pointer (some ⟨p, 0, none⟩)] w1 (Fell p g false w1)) : Calls Try.prog 22 #[.pointer (some ⟨p, 0, none⟩)] w (Gone (.int .u64 0) p g w) := by
  have hmf : ∀ (fn : Fn) (first cap : Array Value) (w : World), (Instr.makeFunc fn first cap).run Try.prog w = .ok (.func fn first cap) w := fun _ _ _ _ => rfl
  have HREAD := Lib.hid hread
  clear hread
  go_enter Try.func22, Try.ntmps22
  go_wp2_with fail
  refine (attempt_fell_num w p g l hr HREAD.out).mono ?_
  rintro e w' ⟨rfl, h1⟩
  have H1 := Lib.hid h1
  clear h1
  go_wp2_with fail
  go_ret
  exact ⟨rfl, H1.out⟩
theorem Num_gave (w : World) (p g : Nat) (l l' : List UInt8) (v : Value) (hr : RdAt w p g l false)
    (hread : ∀ w1, RdAt w1 p g l false → Calls Try.prog 45 #[.pointer (some ⟨p, 0, none⟩)] w1 (Took v l' p g false w1)) : Calls Try.prog 22 #[.pointer (some ⟨p, 0, none⟩)] w (Gave v l' p g w) := by
  have hmf : ∀ (fn : Fn) (first cap : Array Value) (w : World), (Instr.makeFunc fn first cap).run Try.prog w = .ok (.func fn first cap) w := fun _ _ _ _ => rfl
  have HREAD := Lib.hid hread
  clear hread
  go_enter Try.func22, Try.ntmps22
  go_wp2_with fail
  refine (attempt_ok_num w p g l l' v hr HREAD.out).mono ?_
  rintro e w' ⟨rfl, h1⟩
  have H1 := Lib.hid h1
  clear h1
  go_wp2_with fail
  go_ret
  exact ⟨rfl, H1.out⟩

/-! ### signed -/
theorem panicking_signed (q : Addr) (p : Nat) (x : Bool) (u : TypeId) (pv : Value) (older : List PanicEntry) (w : World) (hq : w.cell? q = some (.pointer (some ⟨p, 0, none⟩))) (hc : w.cell? ⟨p, 1, none⟩ = some (.bool x)) (hz : w.frozen? ⟨p, 1, none⟩ = false) :
    CallsD Try.prog 63 #[.pointer (some q)] (.panicking ({ v := .iface u pv, recovered := false } :: older)) w fun e u' w' =>
      e = .returned (.tuple #[]) ∧ u' = .panicking ({ v := .iface u pv, recovered := true } :: older) ∧ w' = w.setCell ⟨p, 1, none⟩ (.bool true) := by
  refine callsD_of_wpS Try.func63 rfl fun c₀ cs hu => ?_
  apply wpS_seq
  apply wpS_region
  simp [wpOpsS, go_sem, recoverD, hu, Try.ntmps63, Exit.thenS]
  refine wpS_cond (t := true) (by simp [Act.eval, Array.replicate]) ?_
  simp only [if_true]
  apply wpS_region
  simp [wpOpsS, go_sem, hq, hc, hz, bodyPostS, results, Try.results63]
theorem idle_signed (q : Addr) (w : World) :
    CallsD Try.prog 63 #[.pointer (some q)] .returning w fun e u' w' => e = .returned (.tuple #[]) ∧ u' = .returning ∧ w' = w := by
  refine callsD_of_wpS Try.func63 rfl fun c₀ cs hu => ?_
  apply wpS_seq
  apply wpS_region
  simp [wpOpsS, go_sem, recoverD, hu, Try.ntmps63, Exit.thenS]
  refine wpS_cond (t := false) (by simp [Act.eval, Array.replicate]) ?_
  simp only [Bool.false_eq_true, if_false]
  refine wpS_of_wp (wp_skip ?_)
  cases c₀
  simp_all [bodyPostS, results, Try.results63]

set_option maxHeartbeats 400000 in
theorem attempt_gone_signed (w : World) (p g : Nat) (l : List UInt8) (fv : Value) (hr : RdAt w p g l true) :
    Calls Try.prog 46 #[.pointer (some ⟨p, 0, none⟩), fv] w (Gone (.int .i64 0) p g w) := by
  obtain ⟨A, cap, hb, hbi, _, _⟩ := id hr
  have hc1 := cell_of_two1 hb
  have hpl := block_lt hb
  have HK := Lib.hid ((Keeps.refl [] w).alloc (.cells #[.pointer (some ⟨p, 0, none⟩)] 51))
  have HR := Lib.hid (show RdAt (w.alloc (.cells #[.pointer (some ⟨p, 0, none⟩)] 51)) p g l true from hr.keep HK.out (by simp) (by simp))
  have hc1' := HK.out.cell_some hc1 (by simp)
  clear hb hbi hr
  go_enter_defers Try.func46, Try.ntmps46
  go_wp2
  simp [bodyPostD, Leaves, results, Try.results46, go_sem]
  exact ⟨rfl, l, HR.out, HK.out.mono (by simp)⟩

set_option maxHeartbeats 400000 in
theorem attempt_ok_signed (w : World) (p g : Nat) (l l' : List UInt8) (v : Value) (hr : RdAt w p g l false)
    (hread : ∀ w1, RdAt w1 p g l false → Calls Try.prog 47 #[.pointer (some ⟨p, 0, none⟩)] w1 (Took v l' p g false w1)) :
    Calls Try.prog 46 #[.pointer (some ⟨p, 0, none⟩), .func (.func 47) #[.pointer (some ⟨p, 0, none⟩)] #[]] w (Gave v l' p g w) := by
  have hmf : ∀ (fn : Fn) (first cap : Array Value) (w : World), (Instr.makeFunc fn first cap).run Try.prog w = .ok (.func fn first cap) w := fun _ _ _ _ => rfl
  obtain ⟨A, cap, hb, hbi, _, _⟩ := id hr
  have hc1 := cell_of_two1 hb
  have hpl := block_lt hb
  have HK := Lib.hid ((Keeps.refl [] w).alloc (.cells #[.pointer (some ⟨p, 0, none⟩)] 51))
  have HR := Lib.hid (show RdAt (w.alloc (.cells #[.pointer (some ⟨p, 0, none⟩)] 51)) p g l false from hr.keep HK.out (by simp) (by simp))
  have hc1' := HK.out.cell_some hc1 (by simp)
  have HREAD := Lib.hid hread
  clear hb hbi hr hread
  go_enter_defers Try.func46, Try.ntmps46
  go_wp2_with fail
  refine (HREAD.out _ HR.out).mono ?_
  rintro e w1 ⟨rfl, h1, h2⟩
  have H1 := Lib.hid h1
  have H2 := Lib.hid h2
  clear h1 h2
  go_wp2
  refine leaves_cons (f := 63) (args := #[.pointer (some ⟨w.heap.size, 0, none⟩)]) (by simp) (by simp [go_sem]) ?_
  refine (idle_signed ⟨w.heap.size, 0, none⟩ _).mono ?_
  rintro e u' w'' ⟨rfl, rfl, rfl⟩
  simp [Leaves, settle, results, Try.results46, go_sem]
  exact ⟨rfl, H1.out, (HK.out.mono (by simp)).trans H2.out (fun _ h _ => h)⟩

set_option maxHeartbeats 400000 in
theorem attempt_fell_signed (w : World) (p g : Nat) (l : List UInt8) (hr : RdAt w p g l false)
    (hread : ∀ w1, RdAt w1 p g l false → Calls Try.prog 47 #[.pointer (some ⟨p, 0, none⟩)] w1 (Fell p g false w1)) :
    Calls Try.prog 46 #[.pointer (some ⟨p, 0, none⟩), .func (.func 47) #[.pointer (some ⟨p, 0, none⟩)] #[]] w (Gone (.int .i64 0) p g w) := by
  have hmf : ∀ (fn : Fn) (first cap : Array Value) (w : World), (Instr.makeFunc fn first cap).run Try.prog w = .ok (.func fn first cap) w := fun _ _ _ _ => rfl
  obtain ⟨A, cap, hb, hbi, _, _⟩ := id hr
  have hc1 := cell_of_two1 hb
  have hpl := block_lt hb
  have HK := Lib.hid ((Keeps.refl [] w).alloc (.cells #[.pointer (some ⟨p, 0, none⟩)] 51))
  have HR := Lib.hid (show RdAt (w.alloc (.cells #[.pointer (some ⟨p, 0, none⟩)] 51)) p g l false from hr.keep HK.out (by simp) (by simp))
  have hq : (w.alloc (.cells #[.pointer (some ⟨p, 0, none⟩)] 51)).cell? ⟨w.heap.size, 0, none⟩ = some (.pointer (some ⟨p, 0, none⟩)) := cell_of_one (heap_alloc_new w _)
  have HQ := Lib.hid hq
  have hc1' := HK.out.cell_some hc1 (by simp)
  have HREAD := Lib.hid hread
  clear hb hbi hr hread hq
  go_enter_defers Try.func46, Try.ntmps46
  go_wp2_with fail
  refine (HREAD.out _ HR.out).mono ?_
  rintro e w1 ⟨rfl, l', h1, h2⟩
  have H1 := Lib.hid h1
  have H2 := Lib.hid h2
  clear h1 h2
  go_wp2
  refine leaves_cons (f := 63) (args := #[.pointer (some ⟨w.heap.size, 0, none⟩)]) (by simp) (by simp [go_sem]) ?_
  obtain ⟨A', cap', hb', hbi', hc', hm'⟩ := H1.out
  unfold refused
  refine (panicking_signed ⟨w.heap.size, 0, none⟩ p false _ _ [] _ (H2.out.cell_some HQ.out (by simp; omega)) (cell_of_two1 hb') (free_of_two hb' 1)).mono ?_
  rintro e u' w'' ⟨rfl, rfl, rfl⟩
  simp [Leaves, settle, results, Try.results46, go_sem]
  refine ⟨rfl, l', ⟨A', cap', two_setCell1 hb', fail_keep hb' hbi', hc', hm'⟩, ((HK.out.mono (by simp)).trans H2.out (fun _ h _ => h)).setCell (by simp) _⟩

/-- The method: what it answers. -/
theorem Int_gone (w : World) (p g : Nat) (l : List UInt8) (hr : RdAt w p g l true) : Calls Try.prog 24 #[.pointer (some ⟨p, 0, none⟩)] w (Gone (.int .i64 0) p g w) := by
  have hmf : ∀ (fn : Fn) (first cap : Array Value) (w : World), (Instr.makeFunc fn first cap).run Try.prog w = .ok (.func fn first cap) w := fun _ _ _ _ => rfl
  go_enter Try.func24, Try.ntmps24
  go_wp2_with fail
  refine (attempt_gone_signed w p g l _ hr).mono ?_
  rintro e w' ⟨rfl, h1⟩
  have H1 := Lib.hid h1
  clear h1
  go_wp2_with fail
  go_ret
  exact ⟨rfl, H1.out⟩
theorem Int_fell (w : World) (p g : Nat) (l : List UInt8) (hr : RdAt w p g l false)
    (hread : ∀ w1, RdAt w1 p g l false → Calls Try.prog 47 #[.pointer (some ⟨p, 0, none⟩)] w1 (Fell p g false w1)) : Calls Try.prog 24 #[.pointer (some ⟨p, 0, none⟩)] w (Gone (.int .i64 0) p g w) := by
  have hmf : ∀ (fn : Fn) (first cap : Array Value) (w : World), (Instr.makeFunc fn first cap).run Try.prog w = .ok (.func fn first cap) w := fun _ _ _ _ => rfl
  have HREAD := Lib.hid hread
  clear hread
  go_enter Try.func24, Try.ntmps24
  go_wp2_with fail
  refine (attempt_fell_signed w p g l hr HREAD.out).mono ?_
  rintro e w' ⟨rfl, h1⟩
  have H1 := Lib.hid h1
  clear h1
  go_wp2_with fail
  go_ret
  exact ⟨rfl, H1.out⟩
theorem Int_gave (w : World) (p g : Nat) (l l' : List UInt8) (v : Value) (hr : RdAt w p g l false)
    (hread : ∀ w1, RdAt w1 p g l false → Calls Try.prog 47 #[.pointer (some ⟨p, 0, none⟩)] w1 (Took v l' p g false w1)) : Calls Try.prog 24 #[.pointer (some ⟨p, 0, none⟩)] w (Gave v l' p g w) := by
  have hmf : ∀ (fn : Fn) (first cap : Array Value) (w : World), (Instr.makeFunc fn first cap).run Try.prog w = .ok (.func fn first cap) w := fun _ _ _ _ => rfl
  have HREAD := Lib.hid hread
  clear hread
  go_enter Try.func24, Try.ntmps24
  go_wp2_with fail
  refine (attempt_ok_signed w p g l l' v hr HREAD.out).mono ?_
  rintro e w' ⟨rfl, h1⟩
  have H1 := Lib.hid h1
  clear h1
  go_wp2_with fail
  go_ret
  exact ⟨rfl, H1.out⟩

/-! ### text -/
theorem panicking_text (q : Addr) (p : Nat) (x : Bool) (u : TypeId) (pv : Value) (older : List PanicEntry) (w : World) (hq : w.cell? q = some (.pointer (some ⟨p, 0, none⟩))) (hc : w.cell? ⟨p, 1, none⟩ = some (.bool x)) (hz : w.frozen? ⟨p, 1, none⟩ = false) :
    CallsD Try.prog 64 #[.pointer (some q)] (.panicking ({ v := .iface u pv, recovered := false } :: older)) w fun e u' w' =>
      e = .returned (.tuple #[]) ∧ u' = .panicking ({ v := .iface u pv, recovered := true } :: older) ∧ w' = w.setCell ⟨p, 1, none⟩ (.bool true) := by
  refine callsD_of_wpS Try.func64 rfl fun c₀ cs hu => ?_
  apply wpS_seq
  apply wpS_region
  simp [wpOpsS, go_sem, recoverD, hu, Try.ntmps64, Exit.thenS]
  refine wpS_cond (t := true) (by simp [Act.eval, Array.replicate]) ?_
  simp only [if_true]
  apply wpS_region
  simp [wpOpsS, go_sem, hq, hc, hz, bodyPostS, results, Try.results64]
theorem idle_text (q : Addr) (w : World) :
    CallsD Try.prog 64 #[.pointer (some q)] .returning w fun e u' w' => e = .returned (.tuple #[]) ∧ u' = .returning ∧ w' = w := by
  refine callsD_of_wpS Try.func64 rfl fun c₀ cs hu => ?_
  apply wpS_seq
  apply wpS_region
  simp [wpOpsS, go_sem, recoverD, hu, Try.ntmps64, Exit.thenS]
  refine wpS_cond (t := false) (by simp [Act.eval, Array.replicate]) ?_
  simp only [Bool.false_eq_true, if_false]
  refine wpS_of_wp (wp_skip ?_)
  cases c₀
  simp_all [bodyPostS, results, Try.results64]

set_option maxHeartbeats 400000 in
theorem attempt_gone_text (w : World) (p g : Nat) (l : List UInt8) (fv : Value) (hr : RdAt w p g l true) :
    Calls Try.prog 49 #[.pointer (some ⟨p, 0, none⟩), fv] w (Gone (.string .empty) p g w) := by
  obtain ⟨A, cap, hb, hbi, _, _⟩ := id hr
  have hc1 := cell_of_two1 hb
  have hpl := block_lt hb
  have HK := Lib.hid ((Keeps.refl [] w).alloc (.cells #[.pointer (some ⟨p, 0, none⟩)] 51))
  have HR := Lib.hid (show RdAt (w.alloc (.cells #[.pointer (some ⟨p, 0, none⟩)] 51)) p g l true from hr.keep HK.out (by simp) (by simp))
  have hc1' := HK.out.cell_some hc1 (by simp)
  clear hb hbi hr
  go_enter_defers Try.func49, Try.ntmps49
  go_wp2
  simp [bodyPostD, Leaves, results, Try.results49, go_sem]
  exact ⟨rfl, l, HR.out, HK.out.mono (by simp)⟩

set_option maxHeartbeats 400000 in
theorem attempt_ok_text (w : World) (p g : Nat) (l l' : List UInt8) (v : Value) (hr : RdAt w p g l false)
    (hread : ∀ w1, RdAt w1 p g l false → Calls Try.prog 50 #[.pointer (some ⟨p, 0, none⟩)] w1 (Took v l' p g false w1)) :
    Calls Try.prog 49 #[.pointer (some ⟨p, 0, none⟩), .func (.func 50) #[.pointer (some ⟨p, 0, none⟩)] #[]] w (Gave v l' p g w) := by
  have hmf : ∀ (fn : Fn) (first cap : Array Value) (w : World), (Instr.makeFunc fn first cap).run Try.prog w = .ok (.func fn first cap) w := fun _ _ _ _ => rfl
  obtain ⟨A, cap, hb, hbi, _, _⟩ := id hr
  have hc1 := cell_of_two1 hb
  have hpl := block_lt hb
  have HK := Lib.hid ((Keeps.refl [] w).alloc (.cells #[.pointer (some ⟨p, 0, none⟩)] 51))
  have HR := Lib.hid (show RdAt (w.alloc (.cells #[.pointer (some ⟨p, 0, none⟩)] 51)) p g l false from hr.keep HK.out (by simp) (by simp))
  have hc1' := HK.out.cell_some hc1 (by simp)
  have HREAD := Lib.hid hread
  clear hb hbi hr hread
  go_enter_defers Try.func49, Try.ntmps49
  go_wp2_with fail
  refine (HREAD.out _ HR.out).mono ?_
  rintro e w1 ⟨rfl, h1, h2⟩
  have H1 := Lib.hid h1
  have H2 := Lib.hid h2
  clear h1 h2
  go_wp2
  refine leaves_cons (f := 64) (args := #[.pointer (some ⟨w.heap.size, 0, none⟩)]) (by simp) (by simp [go_sem]) ?_
  refine (idle_text ⟨w.heap.size, 0, none⟩ _).mono ?_
  rintro e u' w'' ⟨rfl, rfl, rfl⟩
  simp [Leaves, settle, results, Try.results49, go_sem]
  exact ⟨rfl, H1.out, (HK.out.mono (by simp)).trans H2.out (fun _ h _ => h)⟩

set_option maxHeartbeats 400000 in
theorem attempt_fell_text (w : World) (p g : Nat) (l : List UInt8) (hr : RdAt w p g l false)
    (hread : ∀ w1, RdAt w1 p g l false → Calls Try.prog 50 #[.pointer (some ⟨p, 0, none⟩)] w1 (Fell p g false w1)) :
    Calls Try.prog 49 #[.pointer (some ⟨p, 0, none⟩), .func (.func 50) #[.pointer (some ⟨p, 0, none⟩)] #[]] w (Gone (.string .empty) p g w) := by
  have hmf : ∀ (fn : Fn) (first cap : Array Value) (w : World), (Instr.makeFunc fn first cap).run Try.prog w = .ok (.func fn first cap) w := fun _ _ _ _ => rfl
  obtain ⟨A, cap, hb, hbi, _, _⟩ := id hr
  have hc1 := cell_of_two1 hb
  have hpl := block_lt hb
  have HK := Lib.hid ((Keeps.refl [] w).alloc (.cells #[.pointer (some ⟨p, 0, none⟩)] 51))
  have HR := Lib.hid (show RdAt (w.alloc (.cells #[.pointer (some ⟨p, 0, none⟩)] 51)) p g l false from hr.keep HK.out (by simp) (by simp))
  have hq : (w.alloc (.cells #[.pointer (some ⟨p, 0, none⟩)] 51)).cell? ⟨w.heap.size, 0, none⟩ = some (.pointer (some ⟨p, 0, none⟩)) := cell_of_one (heap_alloc_new w _)
  have HQ := Lib.hid hq
  have hc1' := HK.out.cell_some hc1 (by simp)
  have HREAD := Lib.hid hread
  clear hb hbi hr hread hq
  go_enter_defers Try.func49, Try.ntmps49
  go_wp2_with fail
  refine (HREAD.out _ HR.out).mono ?_
  rintro e w1 ⟨rfl, l', h1, h2⟩
  have H1 := Lib.hid h1
  have H2 := Lib.hid h2
  clear h1 h2
  go_wp2
  refine leaves_cons (f := 64) (args := #[.pointer (some ⟨w.heap.size, 0, none⟩)]) (by simp) (by simp [go_sem]) ?_
  obtain ⟨A', cap', hb', hbi', hc', hm'⟩ := H1.out
  unfold refused
  refine (panicking_text ⟨w.heap.size, 0, none⟩ p false _ _ [] _ (H2.out.cell_some HQ.out (by simp; omega)) (cell_of_two1 hb') (free_of_two hb' 1)).mono ?_
  rintro e u' w'' ⟨rfl, rfl, rfl⟩
  simp [Leaves, settle, results, Try.results49, go_sem]
  refine ⟨rfl, l', ⟨A', cap', two_setCell1 hb', fail_keep hb' hbi', hc', hm'⟩, ((HK.out.mono (by simp)).trans H2.out (fun _ h _ => h)).setCell (by simp) _⟩

/-- The method: what it answers. -/
theorem Text_gone (w : World) (p g : Nat) (l : List UInt8) (hr : RdAt w p g l true) : Calls Try.prog 26 #[.pointer (some ⟨p, 0, none⟩)] w (Gone (.string .empty) p g w) := by
  have hmf : ∀ (fn : Fn) (first cap : Array Value) (w : World), (Instr.makeFunc fn first cap).run Try.prog w = .ok (.func fn first cap) w := fun _ _ _ _ => rfl
  go_enter Try.func26, Try.ntmps26
  go_wp2_with fail
  refine (attempt_gone_text w p g l _ hr).mono ?_
  rintro e w' ⟨rfl, h1⟩
  have H1 := Lib.hid h1
  clear h1
  go_wp2_with fail
  go_ret
  exact ⟨rfl, H1.out⟩
theorem Text_fell (w : World) (p g : Nat) (l : List UInt8) (hr : RdAt w p g l false)
    (hread : ∀ w1, RdAt w1 p g l false → Calls Try.prog 50 #[.pointer (some ⟨p, 0, none⟩)] w1 (Fell p g false w1)) : Calls Try.prog 26 #[.pointer (some ⟨p, 0, none⟩)] w (Gone (.string .empty) p g w) := by
  have hmf : ∀ (fn : Fn) (first cap : Array Value) (w : World), (Instr.makeFunc fn first cap).run Try.prog w = .ok (.func fn first cap) w := fun _ _ _ _ => rfl
  have HREAD := Lib.hid hread
  clear hread
  go_enter Try.func26, Try.ntmps26
  go_wp2_with fail
  refine (attempt_fell_text w p g l hr HREAD.out).mono ?_
  rintro e w' ⟨rfl, h1⟩
  have H1 := Lib.hid h1
  clear h1
  go_wp2_with fail
  go_ret
  exact ⟨rfl, H1.out⟩
theorem Text_gave (w : World) (p g : Nat) (l l' : List UInt8) (v : Value) (hr : RdAt w p g l false)
    (hread : ∀ w1, RdAt w1 p g l false → Calls Try.prog 50 #[.pointer (some ⟨p, 0, none⟩)] w1 (Took v l' p g false w1)) : Calls Try.prog 26 #[.pointer (some ⟨p, 0, none⟩)] w (Gave v l' p g w) := by
  have hmf : ∀ (fn : Fn) (first cap : Array Value) (w : World), (Instr.makeFunc fn first cap).run Try.prog w = .ok (.func fn first cap) w := fun _ _ _ _ => rfl
  have HREAD := Lib.hid hread
  clear hread
  go_enter Try.func26, Try.ntmps26
  go_wp2_with fail
  refine (attempt_ok_text w p g l l' v hr HREAD.out).mono ?_
  rintro e w' ⟨rfl, h1⟩
  have H1 := Lib.hid h1
  clear h1
  go_wp2_with fail
  go_ret
  exact ⟨rfl, H1.out⟩

/-! ### flag -/
theorem panicking_flag (q : Addr) (p : Nat) (x : Bool) (u : TypeId) (pv : Value) (older : List PanicEntry) (w : World) (hq : w.cell? q = some (.pointer (some ⟨p, 0, none⟩))) (hc : w.cell? ⟨p, 1, none⟩ = some (.bool x)) (hz : w.frozen? ⟨p, 1, none⟩ = false) :
    CallsD Try.prog 66 #[.pointer (some q)] (.panicking ({ v := .iface u pv, recovered := false } :: older)) w fun e u' w' =>
      e = .returned (.tuple #[]) ∧ u' = .panicking ({ v := .iface u pv, recovered := true } :: older) ∧ w' = w.setCell ⟨p, 1, none⟩ (.bool true) := by
  refine callsD_of_wpS Try.func66 rfl fun c₀ cs hu => ?_
  apply wpS_seq
  apply wpS_region
  simp [wpOpsS, go_sem, recoverD, hu, Try.ntmps66, Exit.thenS]
  refine wpS_cond (t := true) (by simp [Act.eval, Array.replicate]) ?_
  simp only [if_true]
  apply wpS_region
  simp [wpOpsS, go_sem, hq, hc, hz, bodyPostS, results, Try.results66]
theorem idle_flag (q : Addr) (w : World) :
    CallsD Try.prog 66 #[.pointer (some q)] .returning w fun e u' w' => e = .returned (.tuple #[]) ∧ u' = .returning ∧ w' = w := by
  refine callsD_of_wpS Try.func66 rfl fun c₀ cs hu => ?_
  apply wpS_seq
  apply wpS_region
  simp [wpOpsS, go_sem, recoverD, hu, Try.ntmps66, Exit.thenS]
  refine wpS_cond (t := false) (by simp [Act.eval, Array.replicate]) ?_
  simp only [Bool.false_eq_true, if_false]
  refine wpS_of_wp (wp_skip ?_)
  cases c₀
  simp_all [bodyPostS, results, Try.results66]

set_option maxHeartbeats 400000 in
theorem attempt_gone_flag (w : World) (p g : Nat) (l : List UInt8) (fv : Value) (hr : RdAt w p g l true) :
    Calls Try.prog 51 #[.pointer (some ⟨p, 0, none⟩), fv] w (Gone (.bool false) p g w) := by
  obtain ⟨A, cap, hb, hbi, _, _⟩ := id hr
  have hc1 := cell_of_two1 hb
  have hpl := block_lt hb
  have HK := Lib.hid ((Keeps.refl [] w).alloc (.cells #[.pointer (some ⟨p, 0, none⟩)] 51))
  have HR := Lib.hid (show RdAt (w.alloc (.cells #[.pointer (some ⟨p, 0, none⟩)] 51)) p g l true from hr.keep HK.out (by simp) (by simp))
  have hc1' := HK.out.cell_some hc1 (by simp)
  clear hb hbi hr
  go_enter_defers Try.func51, Try.ntmps51
  go_wp2
  simp [bodyPostD, Leaves, results, Try.results51, go_sem]
  exact ⟨rfl, l, HR.out, HK.out.mono (by simp)⟩

set_option maxHeartbeats 400000 in
theorem attempt_ok_flag (w : World) (p g : Nat) (l l' : List UInt8) (v : Value) (hr : RdAt w p g l false)
    (hread : ∀ w1, RdAt w1 p g l false → Calls Try.prog 52 #[.pointer (some ⟨p, 0, none⟩)] w1 (Took v l' p g false w1)) :
    Calls Try.prog 51 #[.pointer (some ⟨p, 0, none⟩), .func (.func 52) #[.pointer (some ⟨p, 0, none⟩)] #[]] w (Gave v l' p g w) := by
  have hmf : ∀ (fn : Fn) (first cap : Array Value) (w : World), (Instr.makeFunc fn first cap).run Try.prog w = .ok (.func fn first cap) w := fun _ _ _ _ => rfl
  obtain ⟨A, cap, hb, hbi, _, _⟩ := id hr
  have hc1 := cell_of_two1 hb
  have hpl := block_lt hb
  have HK := Lib.hid ((Keeps.refl [] w).alloc (.cells #[.pointer (some ⟨p, 0, none⟩)] 51))
  have HR := Lib.hid (show RdAt (w.alloc (.cells #[.pointer (some ⟨p, 0, none⟩)] 51)) p g l false from hr.keep HK.out (by simp) (by simp))
  have hc1' := HK.out.cell_some hc1 (by simp)
  have HREAD := Lib.hid hread
  clear hb hbi hr hread
  go_enter_defers Try.func51, Try.ntmps51
  go_wp2_with fail
  refine (HREAD.out _ HR.out).mono ?_
  rintro e w1 ⟨rfl, h1, h2⟩
  have H1 := Lib.hid h1
  have H2 := Lib.hid h2
  clear h1 h2
  go_wp2
  refine leaves_cons (f := 66) (args := #[.pointer (some ⟨w.heap.size, 0, none⟩)]) (by simp) (by simp [go_sem]) ?_
  refine (idle_flag ⟨w.heap.size, 0, none⟩ _).mono ?_
  rintro e u' w'' ⟨rfl, rfl, rfl⟩
  simp [Leaves, settle, results, Try.results51, go_sem]
  exact ⟨rfl, H1.out, (HK.out.mono (by simp)).trans H2.out (fun _ h _ => h)⟩

set_option maxHeartbeats 400000 in
theorem attempt_fell_flag (w : World) (p g : Nat) (l : List UInt8) (hr : RdAt w p g l false)
    (hread : ∀ w1, RdAt w1 p g l false → Calls Try.prog 52 #[.pointer (some ⟨p, 0, none⟩)] w1 (Fell p g false w1)) :
    Calls Try.prog 51 #[.pointer (some ⟨p, 0, none⟩), .func (.func 52) #[.pointer (some ⟨p, 0, none⟩)] #[]] w (Gone (.bool false) p g w) := by
  have hmf : ∀ (fn : Fn) (first cap : Array Value) (w : World), (Instr.makeFunc fn first cap).run Try.prog w = .ok (.func fn first cap) w := fun _ _ _ _ => rfl
  obtain ⟨A, cap, hb, hbi, _, _⟩ := id hr
  have hc1 := cell_of_two1 hb
  have hpl := block_lt hb
  have HK := Lib.hid ((Keeps.refl [] w).alloc (.cells #[.pointer (some ⟨p, 0, none⟩)] 51))
  have HR := Lib.hid (show RdAt (w.alloc (.cells #[.pointer (some ⟨p, 0, none⟩)] 51)) p g l false from hr.keep HK.out (by simp) (by simp))
  have hq : (w.alloc (.cells #[.pointer (some ⟨p, 0, none⟩)] 51)).cell? ⟨w.heap.size, 0, none⟩ = some (.pointer (some ⟨p, 0, none⟩)) := cell_of_one (heap_alloc_new w _)
  have HQ := Lib.hid hq
  have hc1' := HK.out.cell_some hc1 (by simp)
  have HREAD := Lib.hid hread
  clear hb hbi hr hread hq
  go_enter_defers Try.func51, Try.ntmps51
  go_wp2_with fail
  refine (HREAD.out _ HR.out).mono ?_
  rintro e w1 ⟨rfl, l', h1, h2⟩
  have H1 := Lib.hid h1
  have H2 := Lib.hid h2
  clear h1 h2
  go_wp2
  refine leaves_cons (f := 66) (args := #[.pointer (some ⟨w.heap.size, 0, none⟩)]) (by simp) (by simp [go_sem]) ?_
  obtain ⟨A', cap', hb', hbi', hc', hm'⟩ := H1.out
  unfold refused
  refine (panicking_flag ⟨w.heap.size, 0, none⟩ p false _ _ [] _ (H2.out.cell_some HQ.out (by simp; omega)) (cell_of_two1 hb') (free_of_two hb' 1)).mono ?_
  rintro e u' w'' ⟨rfl, rfl, rfl⟩
  simp [Leaves, settle, results, Try.results51, go_sem]
  refine ⟨rfl, l', ⟨A', cap', two_setCell1 hb', fail_keep hb' hbi', hc', hm'⟩, ((HK.out.mono (by simp)).trans H2.out (fun _ h _ => h)).setCell (by simp) _⟩

/-- The method: what it answers. -/
theorem Bool_gone (w : World) (p g : Nat) (l : List UInt8) (hr : RdAt w p g l true) : Calls Try.prog 28 #[.pointer (some ⟨p, 0, none⟩)] w (Gone (.bool false) p g w) := by
  have hmf : ∀ (fn : Fn) (first cap : Array Value) (w : World), (Instr.makeFunc fn first cap).run Try.prog w = .ok (.func fn first cap) w := fun _ _ _ _ => rfl
  go_enter Try.func28, Try.ntmps28
  go_wp2_with fail
  refine (attempt_gone_flag w p g l _ hr).mono ?_
  rintro e w' ⟨rfl, h1⟩
  have H1 := Lib.hid h1
  clear h1
  go_wp2_with fail
  go_ret
  exact ⟨rfl, H1.out⟩
theorem Bool_fell (w : World) (p g : Nat) (l : List UInt8) (hr : RdAt w p g l false)
    (hread : ∀ w1, RdAt w1 p g l false → Calls Try.prog 52 #[.pointer (some ⟨p, 0, none⟩)] w1 (Fell p g false w1)) : Calls Try.prog 28 #[.pointer (some ⟨p, 0, none⟩)] w (Gone (.bool false) p g w) := by
  have hmf : ∀ (fn : Fn) (first cap : Array Value) (w : World), (Instr.makeFunc fn first cap).run Try.prog w = .ok (.func fn first cap) w := fun _ _ _ _ => rfl
  have HREAD := Lib.hid hread
  clear hread
  go_enter Try.func28, Try.ntmps28
  go_wp2_with fail
  refine (attempt_fell_flag w p g l hr HREAD.out).mono ?_
  rintro e w' ⟨rfl, h1⟩
  have H1 := Lib.hid h1
  clear h1
  go_wp2_with fail
  go_ret
  exact ⟨rfl, H1.out⟩
theorem Bool_gave (w : World) (p g : Nat) (l l' : List UInt8) (v : Value) (hr : RdAt w p g l false)
    (hread : ∀ w1, RdAt w1 p g l false → Calls Try.prog 52 #[.pointer (some ⟨p, 0, none⟩)] w1 (Took v l' p g false w1)) : Calls Try.prog 28 #[.pointer (some ⟨p, 0, none⟩)] w (Gave v l' p g w) := by
  have hmf : ∀ (fn : Fn) (first cap : Array Value) (w : World), (Instr.makeFunc fn first cap).run Try.prog w = .ok (.func fn first cap) w := fun _ _ _ _ => rfl
  have HREAD := Lib.hid hread
  clear hread
  go_enter Try.func28, Try.ntmps28
  go_wp2_with fail
  refine (attempt_ok_flag w p g l l' v hr HREAD.out).mono ?_
  rintro e w' ⟨rfl, h1⟩
  have H1 := Lib.hid h1
  clear h1
  go_wp2_with fail
  go_ret
  exact ⟨rfl, H1.out⟩

end Go.Proofs.Ytohmadfaaonaaaa

