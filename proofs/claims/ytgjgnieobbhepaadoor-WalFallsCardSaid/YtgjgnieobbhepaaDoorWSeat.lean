/- What every statement of this seat needs: the table as the row lists it, how the arguments are opened, the witness's world. -/
import Derived.Test.YtgjgnieobbhepaaDoorCards
import Derived.Test.YtgjgnieobbhepaaDoorTie
import Derived.Test.YtgjgnieobbhepaaDoorWSum
import Derived.OpenShut
import Derived.Deep.DeepHandedRow
import Derived.Lib.LaidTab
import Derived.Deep.Matrix
import Derived.ChangeOld
import Derived.Carry
namespace Go.Proofs.YtgjgnieobbhepaaDoor
open Go.ChangeShapes Go.WideShapes Go.ChangeAt Go.RowKit

theorem own : ownKnob Tryd.prog.godebug = none := by kernel_rfl
theorem laidOut : laidOutB Tryd.prog = true := by kernel_rfl
theorem gTab : Tryd.prog.globalNamed "augur/sum.crcHalf" = some 0 := by kernel_rfl
theorem gTabType : (Tryd.prog.globals[0]?).map (·.type) = some 117 := by kernel_rfl
theorem cellsTab : Tryd.prog.cellsOf 117 = 16 := by kernel_rfl
theorem cellsU32 : Tryd.prog.cellsOf 88 = 1 := by kernel_rfl
theorem cellsU8 : Tryd.prog.cellsOf 5 = 1 := by kernel_rfl

def tabInts : List Int := [0, 498536548, 997073096, 651767980, 1994146192, 1802195444, 1303535960, 1342533948, 3988292384, 4027552580, 3604390888, 3412177804, 2607071920, 2262029012, 2685067896, 3183342108]
theorem tab_eq : ∀ m, m < 16 → tabInts.getD m 0 = ((M.tab.getD m 0 : Nat) : Int) := by decide
/-- WHAT THE ROWS' LIST GIVES. -/
theorem tab_of {W : World} (h : laidMet Tryd.prog [("augur/sum.crcHalf", Rows.laid_augur_sum_crcHalf)] W) : TabAt W ∧ 0 < W.heap.size := by
  have ht : Lib.TabIs Tryd.prog W "augur/sum.crcHalf" .u32 tabInts :=
    Lib.tabIs_of_head (rest := []) gTab gTabType Tryd.underlying117 Tryd.underlying88 cellsU32 cellsTab h
  have hc : ∀ m, m < 16 → W.cell? ⟨0, m, none⟩ = some (.int .u32 ((M.tab.getD m 0 : Nat) : Int)) := fun m hm => by
    rw [← tab_eq m hm]
    exact ht.cell gTab m (by simpa [tabInts] using hm)
  exact ⟨hc, World.block_lt_of_cell? W _ (hc 0 (by omega))⟩

def bytesOf (zs : List Int) : List UInt8 := zs.map fun z => UInt8.ofNat z.toNat
theorem byte_back {z : Int} (h : (Lit.int .u8 z).wf = true) : (((UInt8.ofNat z.toNat).toNat : Nat) : Int) = z := by
  have hb : 0 ≤ z ∧ z ≤ 255 := by
    simpa [Lit.wf, IntKind.min, IntKind.max, IntKind.bits, IntKind.signed] using h
  simp
  omega
theorem bytes_open {w : World} {A : Option Addr} {len : Nat} {zs : List Int} (hl : len ≤ zs.length) (hwf : ∀ n ∈ zs, (Lit.int .u8 n).wf = true) (hn : A = none → len = 0)
    (hc : ∀ a, A = some a → ∀ c, c < zs.length → w.cell? (a.add c) = some (.int .u8 (zs.getD c 0))) : ∃ g, BytesIn w g A (bytesOf (zs.take len)) := by
  by_cases h0 : len = 0
  · subst h0; exact ⟨0, .inl rfl⟩
  · rcases A with _ | ⟨b, off, spot⟩
    · exact absurd (hn rfl) h0
    · have hs : spot = none := by simpa [Addr.add] using World.cell?_spot (hc _ rfl 0 (by omega))
      subst hs
      refine ⟨b, .inr ⟨off, rfl, fun k hk => ?_⟩⟩
      have hk' : k < len := by simp [bytesOf] at hk; omega
      have hkz : k < zs.length := by omega
      have h1 := hc _ rfl k hkz
      rw [Addr.add_lit] at h1
      rw [h1]
      have h3 : (bytesOf (zs.take len))[k]'hk = UInt8.ofNat (zs[k]).toNat := by simp [bytesOf]
      rw [h3, byte_back (hwf _ (List.getElem_mem hkz))]
      simp [List.getD, hkz]
theorem bytesOf_length (zs : List Int) (len : Nat) (h : len ≤ zs.length) : (bytesOf (zs.take len)).length = len := by simp [bytesOf]; omega

/-- A slice of bytes that came in. -/
theorem open_bytes {H : Type} {enc : TypeId × Value → H} {W : World} {base : Nat} {held : Bool} {v : Value} {d : DataW H} {p : List MemPlace} (hv : ∃ a len cap, v = .slice a len cap) (h : DataW.Trod enc Tryd.prog W base (fun _ => true) held 34 v d p) :
    ∃ A l cap, v = .slice A l.length cap ∧ (∃ g, BytesIn W g A l) ∧ l.length ≤ maxLen ∧ l.length ≤ cap ∧ cap ≤ maxLen := by
  obtain ⟨a, len, cap, rfl⟩ := hv
  obtain ⟨fuel, hf⟩ := h
  rcases open_ints Tryd.underlying34 Tryd.underlying5 cellsU8 hf with ⟨hcs, _⟩ | ⟨x, l, c, zs, hcs, _, hl, hm, hz, _, hcell, hwz⟩
  · simp [Value.cells] at hcs
    obtain ⟨rfl, rfl, rfl⟩ := hcs
    exact ⟨none, [], 0, rfl, ⟨0, .inl rfl⟩, Nat.zero_le _, Nat.le_refl _, Nat.zero_le _⟩
  · simp [Value.cells] at hcs
    obtain ⟨rfl, rfl, rfl⟩ := hcs
    have hz' : zs.length = cap := by simpa using hz
    refine ⟨some x, bytesOf (zs.take len), cap, by rw [bytesOf_length _ _ (by omega)], bytes_open (by omega) hwz (fun h => by cases h) (fun a ha k hk => by cases ha; exact hcell k hk), ?_, ?_, hm⟩
    · rw [bytesOf_length _ _ (by omega)]; omega
    · rw [bytesOf_length _ _ (by omega)]; omega

/-- A world for the witness: the settled one, the table holding what its initialiser lays. -/
noncomputable def laidWorld (os : Os) : World :=
  { World.holding Tryd.prog os ⟨#[], #[], []⟩ with heap := (World.holding Tryd.prog os ⟨#[], #[], []⟩).heap.modify 0 fun
      | .cells _ t frozen => .cells (tabInts.map (Value.int .u32)).toArray t frozen
      | o => o }
end Go.Proofs.YtgjgnieobbhepaaDoor
