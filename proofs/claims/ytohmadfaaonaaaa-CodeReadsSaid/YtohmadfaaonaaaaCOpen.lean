/- How arguments are opened: slices of numbers, texts, truths, bytes. -/
import Derived.Test.YtohmadfaaonaaaaRows
import Derived.Test.YtohmadfaaonaaaaCInt
import Derived.Test.YtohmadfaaonaaaaCText
import Derived.OpenShut
import Derived.ChangeOld
import Derived.Carry
import Derived.SliceStrings
import Derived.Deep.Grids
namespace Go.Proofs.Ytohmadfaaonaaaa
open Go.ChangeShapes Go.WideShapes Go.ChangeAt Go.RowKit

theorem own : ownKnob Try.prog.godebug = none := by kernel_rfl
theorem laidOut : laidOutB Try.prog = true := by kernel_rfl
theorem wide_of {z : Int} (h : (Lit.int .i64 z).wf = true) : Wide z := by
  simpa [Lit.wf, IntKind.min, IntKind.max, IntKind.bits, IntKind.signed, Wide] using h

theorem cells_of {w : World} {a : Addr} {vs : List Value} (hc : ∀ i (h : i < vs.length), w.cell? (a.add i) = some vs[i]) : CellsIn w a.block (some a) vs := by
  by_cases h0 : vs.length = 0
  · exact .inl (List.eq_nil_of_length_eq_zero h0)
  · obtain ⟨b, off, spot⟩ := a
    have hs : spot = none := by simpa [Addr.add] using World.cell?_spot (hc 0 (by omega))
    subst hs
    exact .inr ⟨off, rfl, fun k hk => by rw [← hc k hk, Addr.add_lit]⟩

section
variable {H : Type} {enc : TypeId × Value → H} {W : World} {base : Nat} {held : Bool} {v : Value} {d : DataW H} {p : List MemPlace}
theorem open_nums (hv : ∃ a len cap, v = .slice a len cap) (h : DataW.Trod enc Try.prog W base (fun _ => true) held 73 v d p) :
    ∃ A ns cap g, v = .slice A ns.length cap ∧ CellsIn W g A (nums .u64 ns) ∧ (∀ n ∈ ns, n < 18446744073709551616) := by
  obtain ⟨a, len, cap, rfl⟩ := hv
  obtain ⟨fuel, hf⟩ := h
  rcases open_ints Try.underlying73 Try.underlying29 (by kernel_rfl) hf with ⟨hcs, _⟩ | ⟨x, l, c, zs, hcs, _, hl, hm, hz, _, hcell, hwz⟩
  · simp [Value.cells] at hcs
    obtain ⟨rfl, rfl, rfl⟩ := hcs
    exact ⟨none, [], 0, 0, rfl, .inl rfl, by simp⟩
  · simp [Value.cells] at hcs
    obtain ⟨rfl, rfl, rfl⟩ := hcs
    have hz' : zs.length = cap := by simpa using hz
    have hwz' : ∀ z ∈ zs, 0 ≤ z ∧ z < 18446744073709551616 := fun z hz => by
      have := hwz z hz
      simp [Lit.wf, IntKind.min, IntKind.max, IntKind.bits, IntKind.signed] at this
      omega
    have hlen : ((zs.take len).map Int.toNat).length = len := by simp; omega
    refine ⟨some x, (zs.take len).map Int.toNat, cap, x.block, by rw [hlen], cells_of fun i hi => ?_, fun n hn => ?_⟩
    · have hi' : i < len := by have := hi; simp [nums] at this; omega
      have hiz : i < zs.length := by omega
      rw [hcell i hiz]
      have h3 := hwz' zs[i] (List.getElem_mem hiz)
      simp [nums, List.getD, hiz]
      omega
    · obtain ⟨z, hz1, rfl⟩ := List.mem_map.1 hn
      have := hwz' z (List.mem_of_mem_take hz1)
      omega
theorem open_zs (hv : ∃ a len cap, v = .slice a len cap) (h : DataW.Trod enc Try.prog W base (fun _ => true) held 74 v d p) :
    ∃ A zs cap g, v = .slice A zs.length cap ∧ CellsIn W g A (ints zs) ∧ (∀ n ∈ zs, Wide n) := by
  obtain ⟨a, len, cap, rfl⟩ := hv
  obtain ⟨fuel, hf⟩ := h
  rcases open_ints Try.underlying74 Try.underlying2 (by kernel_rfl) hf with ⟨hcs, _⟩ | ⟨x, l, c, zs, hcs, _, hl, hm, hz, _, hcell, hwz⟩
  · simp [Value.cells] at hcs
    obtain ⟨rfl, rfl, rfl⟩ := hcs
    exact ⟨none, [], 0, 0, rfl, .inl rfl, by simp⟩
  · simp [Value.cells] at hcs
    obtain ⟨rfl, rfl, rfl⟩ := hcs
    have hz' : zs.length = cap := by simpa using hz
    have hlen : (zs.take len).length = len := by simp; omega
    refine ⟨some x, zs.take len, cap, x.block, by rw [hlen], cells_of fun i hi => ?_, fun n hn => wide_of (hwz n (List.mem_of_mem_take hn))⟩
    have hi' : i < len := by have := hi; simp [ints] at this; omega
    have hiz : i < zs.length := by omega
    rw [hcell i hiz]
    simp [ints, List.getD, hiz]
theorem open_texts (hv : ∃ a len cap, v = .slice a len cap) (h : DataW.Trod enc Try.prog W base (fun _ => true) held 47 v d p) :
    ∃ A ss cap g, v = .slice A ss.length cap ∧ CellsIn W g A (texts ss) ∧ (∀ s ∈ ss, s.size ≤ maxLen) ∧ ss.length ≤ maxLen := by
  obtain ⟨a, len, cap, rfl⟩ := hv
  obtain ⟨fuel, hf⟩ := h
  rcases open_strings Try.underlying47 Try.underlying9 (by kernel_rfl) hf with ⟨hcs, _⟩ | ⟨x, l, c, zs, hcs, _, hl, hm, hz, _, hcell, hwz⟩
  · simp [Value.cells] at hcs
    obtain ⟨rfl, rfl, rfl⟩ := hcs
    exact ⟨none, [], 0, 0, rfl, .inl rfl, by simp, Nat.zero_le _⟩
  · simp [Value.cells] at hcs
    obtain ⟨rfl, rfl, rfl⟩ := hcs
    have hz' : zs.length = cap := by simpa using hz
    have hlen : (zs.take len).length = len := by simp; omega
    refine ⟨some x, zs.take len, cap, x.block, by rw [hlen], cells_of fun i hi => ?_, fun n hn => hwz n (List.mem_of_mem_take hn), by omega⟩
    have hi' : i < len := by have := hi; simp [texts] at this; omega
    have hiz : i < zs.length := by omega
    rw [hcell i hiz]
    simp [texts, List.getD, hiz]
theorem open_bs (hv : ∃ a len cap, v = .slice a len cap) (h : DataW.Trod enc Try.prog W base (fun _ => true) held 75 v d p) :
    ∃ A bs cap g, v = .slice A bs.length cap ∧ CellsIn W g A (bools bs) := by
  obtain ⟨a, len, cap, rfl⟩ := hv
  obtain ⟨fuel, hf⟩ := h
  rcases Deep.open_bools Try.underlying75 Try.underlying4 (by kernel_rfl) hf with ⟨hcs, _⟩ | ⟨x, l, c, B, hcs, _, hl, hm, _, hcell⟩
  · simp [Value.cells] at hcs
    obtain ⟨rfl, rfl, rfl⟩ := hcs
    exact ⟨none, [], 0, 0, rfl, .inl rfl⟩
  · simp [Value.cells] at hcs
    obtain ⟨rfl, rfl, rfl⟩ := hcs
    refine ⟨some x, (List.range len).map B, cap, x.block, by simp, cells_of fun i hi => ?_⟩
    have hi' : i < len := by have := hi; simp [bools] at this; omega
    rw [hcell i (by omega)]
    simp [bools]
end
end Go.Proofs.Ytohmadfaaonaaaa
