/- The walks of the writer's making and of copies: NewWriter, bytes.Clone, Bytes, NewReader; need. -/
import Derived.Test.YtohmadfaaonaaaaCBase
import Derived.Outline
namespace Go.Proofs.Ytohmadfaaonaaaa
open Go.RowKit

theorem infoU8 : (Try.prog.info? 5).map (fun i => (i.zero, i.size, i.bytes)) = some (some (.int .u8 0), 1, 1) := by kernel_rfl

def NewAt (w : World) (e : Ending) (w' : World) : Prop := ∃ p, e = .returned (.pointer (some ⟨p, 0, none⟩)) ∧ w.heap.size ≤ p ∧ WrAt w' p p [] ∧ Keeps [] w w'
set_option maxHeartbeats 400000 in
theorem newWriter_any (w : World) : Calls Try.prog 11 #[] w (NewAt w) := by
  go_enter Try.func11, Try.ntmps11
  go_wp2
  go_ret
  refine ⟨w.heap.size, rfl, Nat.le_refl _, ⟨.slice none 0 0, ?_, World.ownsRow_nil _ _ _ _, .inl rfl, by simp⟩, (Keeps.refl _ _).alloc _⟩
  exact heap_alloc_new w _

/-- How a chain of panics stands behind need. -/
def refused : List PanicEntry := [{ v := .iface 62 (.int .i64 20), recovered := false }]
theorem need_yes (w : World) : Calls Try.prog 62 #[.bool true] w fun e w' => e = .returned (.tuple #[]) ∧ w = w' := by
  go_enter Try.func62, Try.ntmps62
  go_wp2
  go_end0
  exact ⟨rfl, rfl⟩
theorem need_no (w : World) : Calls Try.prog 62 #[.bool false] w fun e w' => e = .panicked refused ∧ w = w' := by
  go_enter Try.func62, Try.ntmps62
  go_wp2
  exact ⟨rfl, rfl, rfl⟩

theorem own_form {w : World} {base : Nat} {e : TypeId} {v : Value} {n : Nat} {xs : List Value} (h : w.ownsRow base e 1 v n xs) :
    (v = .slice none 0 0 ∧ n = 0) ∨ ∃ g cap, v = .slice (some ⟨g, 0, none⟩) n cap ∧ base ≤ g ∧ n ≤ cap ∧ cap ≤ maxLen := by
  rcases h.2 with h | ⟨g, cap, cur, hv, hb, _, hn, hm, _⟩
  · exact .inl h
  · exact .inr ⟨g, cap, hv, hb, hn, hm⟩
theorem WrAt.form {w : World} {p g : Nat} {l : List UInt8} (h : WrAt w p g l) : ∃ A cap, w.heap[p]? = some (.cells #[.slice A l.length cap] 42 (0, 0)) ∧ BytesIn w g A l ∧
    w.ownsRow 0 5 1 (.slice A l.length cap) l.length (u8s l) ∧ (A = none ∨ A = some ⟨g, 0, none⟩) ∧ (A = none → l = []) := by
  obtain ⟨v, h1, h2, h3, _⟩ := h
  rcases own_form h2 with ⟨rfl, h0⟩ | ⟨g', cap, rfl, _, _, _⟩
  · obtain rfl := List.eq_nil_of_length_eq_zero h0
    exact ⟨none, 0, h1, .inl rfl, h2, .inl rfl, fun _ => rfl⟩
  · have : g' = g := by
      rcases h3 with h3 | h3
      · simp [Value.ownBlock] at h3
      · simpa [Value.ownBlock] using h3
    subst this
    exact ⟨_, _, h1, BytesIn.of_own h2 (.inr ⟨0, rfl⟩), h2, .inr rfl, fun h => by cases h⟩

/-- What a copy of bytes is: in a new block. -/
def CopyAt (w : World) (l : List UInt8) (e : Ending) (w' : World) : Prop :=
  ∃ A cap g, e = .returned (.slice A l.length cap) ∧ BytesIn w' g A l ∧ w.heap.size ≤ g ∧ l.length ≤ cap ∧ cap ≤ maxLen ∧ (A = none → l = []) ∧ Keeps [] w w'
set_option maxHeartbeats 400000 in
theorem clone_any (w : World) (g : Nat) (A : Option Addr) (l : List UInt8) (cap : Nat) (hr : BytesIn w g A l) (hl : l.length ≤ 140737488355328) :
    Calls Try.prog 43 #[.slice A l.length cap] w (CopyAt w l) := by
  have q22 : ∀ (w : World) (a : Option Addr) (n c n' c' : Nat), (binOp .eql 27 (.slice a n c) (.slice none n' c')).run Try.prog w = .ok (.bool a.isNone) w := fun w a n c n' c' => Lib.run_eql_slice_nil w _ _ a n c n' c' Try.underlying27
  obtain ⟨i0, hi, hz0, hz1, hz2⟩ := info_parts infoU8
  have HR := Lib.hid hr
  clear hr
  by_cases hA : A = none
  · subst hA
    have hl0 : l = [] := by
      rcases HR.out with h | ⟨off, h, _⟩
      · exact h
      · cases h
    subst hl0
    go_enter Try.func43, Try.ntmps43
    go_wp2
    go_ret
    exact ⟨none, 0, w.heap.size, rfl, .inl rfl, Nat.le_refl _, Nat.le_refl _, Nat.zero_le _, fun _ => rfl, Keeps.refl _ _⟩
  · obtain ⟨a, rfl⟩ : ∃ a, A = some a := by
      cases A with
      | none => exact absurd rfl hA
      | some a => exact ⟨a, rfl⟩
    clear hA
    go_enter Try.func43, Try.ntmps43
    go_wp2_with (at_builtin; refine wpList_append_own _ rfl _ _ 27 rfl w.heap.size 5 i0 (.int .u8 0) 1 1 Try.underlying27 hi hz0 hz1 hz2 rfl (by decide) _ _ _ rfl (World.ownsRow_made w #[] 0 (Nat.le_refl _) (Nat.zero_le _) rfl) a l.length cap (u8s l) rfl ?qc1 ?qc2 ?qc3 ?qc4 ?qc5 ?qc6 ?_)
    case qc1 => simp [u8s]
    case qc2 =>
      intro j u hj
      have hjl : j < l.length := by
        have := (List.getElem?_eq_some_iff.1 hj).1
        simpa [u8s] using this
      rcases HR.out with h | ⟨off, h, hc⟩
      · subst h; simp at hjl
      · obtain rfl := Option.some.inj h
        have h1 := hc j hjl
        rw [u8s_get hjl] at hj
        obtain rfl := Option.some.inj hj
        rw [Addr.add_lit]
        exact ((Keeps.refl [] w).alloc _).cell_some h1 (by simp)
    case qc3 => exact u8s_one l
    case qc4 => unfold maxLen; omega
    case qc5 => omega
    case qc6 => simp
    intro v' w' h1 h2 h3
    have H1 := Lib.hid h1
    have H2 := Lib.hid h2
    have H3 := Lib.hid h3
    clear h1 h2 h3
    obtain ⟨g', cap', hv, hg', hc', hm'⟩ : ∃ g' cap', v' = .slice (some ⟨g', 0, none⟩) l.length cap' ∧ w.heap.size ≤ g' ∧ l.length ≤ cap' ∧ cap' ≤ maxLen := by
      rcases own_form H1.out with ⟨h, _⟩ | h
      · exact (H3.out h).elim
      · simpa using h
    subst hv
    go_wp2
    go_ret
    refine ⟨_, _, g', rfl, BytesIn.of_own (by simpa using H1.out) (.inr ⟨0, rfl⟩), hg', hc', hm', (fun h => by cases h), ?_⟩
    exact ((Keeps.refl [] w).alloc _).trans (Keeps.of_grown H2.out) (fun i hi hl => by
      have : i = w.heap.size := by simpa [Value.ownBlock] using hi
      omega)
set_option maxHeartbeats 400000 in
theorem bytes_any (w : World) (p g : Nat) (l : List UInt8) (hw : WrAt w p g l) (hl : l.length ≤ 140737488355328) :
    Calls Try.prog 20 #[.pointer (some ⟨p, 0, none⟩)] w (CopyAt w l) := by
  obtain ⟨A, cap, hb, hr, _, _⟩ := hw.form
  have hc := cell_of_one hb
  have HR := Lib.hid hr
  clear hr hb hw
  go_enter Try.func20, Try.ntmps20
  go_wp2_with fail
  refine (clone_any w g A l cap HR.out hl).mono ?_
  rintro e w' ⟨A', cap', g', rfl, h⟩
  have H := Lib.hid h
  clear h
  go_wp2
  go_ret
  exact ⟨A', cap', g', rfl, H.out⟩

def ReaderAt (w : World) (l : List UInt8) (e : Ending) (w' : World) : Prop :=
  ∃ p g, e = .returned (.pointer (some ⟨p, 0, none⟩)) ∧ RdAt w' p g l false ∧ w.heap.size ≤ p ∧ w.heap.size ≤ g ∧ Keeps [] w w'
set_option maxHeartbeats 400000 in
theorem newReader_any (w : World) (g : Nat) (A : Option Addr) (l : List UInt8) (cap : Nat) (hr : BytesIn w g A l) (hl : l.length ≤ 140737488355328) :
    Calls Try.prog 21 #[.slice A l.length cap] w (ReaderAt w l) := by
  have HR := Lib.hid hr
  clear hr
  go_enter Try.func21, Try.ntmps21
  go_wp2_with fail
  refine (clone_any w g A l cap HR.out hl).mono ?_
  rintro e w' ⟨A', cap', g', rfl, h⟩
  have H := Lib.hid h
  clear h
  go_wp2
  go_ret
  obtain ⟨h1, h2, h3, h4, _, h5⟩ := H.out
  have hk : Keeps [] w' (w'.alloc (.cells #[.slice A' l.length cap', .bool false] 90)) := (Keeps.refl _ _).alloc _
  exact ⟨w'.heap.size, g', rfl, ⟨A', cap', heap_alloc_new w' _, h1.keep hk (by simp), h3, h4⟩, h5.size, h2, h5.trans hk (by simp)⟩
end Go.Proofs.Ytohmadfaaonaaaa
