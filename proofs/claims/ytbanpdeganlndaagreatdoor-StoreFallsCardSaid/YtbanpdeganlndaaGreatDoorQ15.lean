/- Merged: WSeat SSeat -/
import Derived.Test.YtbanpdeganlndaaGreatDoorCards
import Derived.Test.YtbanpdeganlndaaGreatDoorTie
import Derived.Test.YtbanpdeganlndaaGreatDoorQ4
import Derived.OpenShut
import Derived.Deep.DeepHandedRow
import Derived.Lib.LaidTab
import Derived.Deep.Matrix
import Derived.ChangeOld
import Derived.Carry
import Derived.Test.YtbanpdeganlndaaGreatDoorQ13
import Derived.Deep.Slices
namespace Go.Proofs.YtbanpdeganlndaaGreatDoor
open Go.ChangeShapes Go.WideShapes Go.ChangeAt Go.RowKit

theorem own : ownKnob Tryz.prog.godebug = none := by kernel_rfl
theorem laidOut : laidOutB Tryz.prog = true := by kernel_rfl
theorem gTab : Tryz.prog.globalNamed "augur/sum.crcHalf" = some 1 := by kernel_rfl
theorem gTabType : (Tryz.prog.globals[1]?).map (·.type) = some 222 := by kernel_rfl
theorem cellsTab : Tryz.prog.cellsOf 222 = 16 := by kernel_rfl
theorem cellsU32 : Tryz.prog.cellsOf 127 = 1 := by kernel_rfl
theorem cellsU8 : Tryz.prog.cellsOf 5 = 1 := by kernel_rfl

def tabInts : List Int := [0, 498536548, 997073096, 651767980, 1994146192, 1802195444, 1303535960, 1342533948, 3988292384, 4027552580, 3604390888, 3412177804, 2607071920, 2262029012, 2685067896, 3183342108]
theorem tab_eq : ∀ m, m < 16 → tabInts.getD m 0 = ((M.tab.getD m 0 : Nat) : Int) := by decide
/-- WHAT THE ROWS' LIST GIVES. -/
theorem tab_of {W : World} (h : laidMet Tryz.prog [("augur/sum.crcHalf", Rows.laid_augur_sum_crcHalf)] W) : TabAt W ∧ 1 < W.heap.size := by
  have ht : Lib.TabIs Tryz.prog W "augur/sum.crcHalf" .u32 tabInts :=
    Lib.tabIs_of_head (rest := []) gTab gTabType Tryz.underlying222 Tryz.underlying127 cellsU32 cellsTab h
  have hc : ∀ m, m < 16 → W.cell? ⟨1, m, none⟩ = some (.int .u32 ((M.tab.getD m 0 : Nat) : Int)) := fun m hm => by
    rw [← tab_eq m hm]
    exact ht.cell gTab m (by simpa [tabInts] using hm)
  exact ⟨hc, World.block_lt_of_cell? W _ (hc 0 (by omega))⟩

def bytesOf (zs : List Int) : List UInt8 := zs.map fun z => UInt8.ofNat z.toNat
theorem byte_back {z : Int} (h : (Lit.int .u8 z).wf = true) : (((UInt8.ofNat z.toNat).toNat : Nat) : Int) = z := by
  have hb : 0 ≤ z ∧ z ≤ 255 := by
    simpa [Lit.wf, IntKind.min, IntKind.max, IntKind.bits, IntKind.signed] using h
  simp
  omega
theorem bytes_open {w : World} {A : Option Addr} {len : Nat} {zs : List Int} (hl : len ≤ zs.length) (hwf : ∀ n ∈ zs, (Lit.int .u8 n).wf = true) (hn : A = none → len = 0)
    (hc : ∀ a, A = some a → ∀ c, c < zs.length → w.cell? (a.add c) = some (.int .u8 (zs.getD c 0))) : ∃ g, BytesIn w g A (bytesOf (zs.take len)) := by
  by_cases h0 : len = 0
  · subst h0; exact ⟨0, .inl rfl⟩
  · rcases A with _ | ⟨b, off, spot⟩
    · exact absurd (hn rfl) h0
    · have hs : spot = none := by simpa [Addr.add] using World.cell?_spot (hc _ rfl 0 (by omega))
      subst hs
      refine ⟨b, .inr ⟨off, rfl, fun k hk => ?_⟩⟩
      have hk' : k < len := by simp [bytesOf] at hk; omega
      have hkz : k < zs.length := by omega
      have h1 := hc _ rfl k hkz
      rw [Addr.add_lit] at h1
      rw [h1]
      have h3 : (bytesOf (zs.take len))[k]'hk = UInt8.ofNat (zs[k]).toNat := by simp [bytesOf]
      rw [h3, byte_back (hwf _ (List.getElem_mem hkz))]
      simp [List.getD, hkz]
theorem bytesOf_length (zs : List Int) (len : Nat) (h : len ≤ zs.length) : (bytesOf (zs.take len)).length = len := by simp [bytesOf]; omega

/-- A slice of bytes that came in. -/
theorem open_bytes {H : Type} {enc : TypeId × Value → H} {W : World} {base : Nat} {held : Bool} {v : Value} {d : DataW H} {p : List MemPlace} (hv : ∃ a len cap, v = .slice a len cap) (h : DataW.Trod enc Tryz.prog W base (fun _ => true) held 62 v d p) :
    ∃ A l cap, v = .slice A l.length cap ∧ (∃ g, BytesIn W g A l) ∧ l.length ≤ maxLen ∧ l.length ≤ cap ∧ cap ≤ maxLen := by
  obtain ⟨a, len, cap, rfl⟩ := hv
  obtain ⟨fuel, hf⟩ := h
  rcases open_ints Tryz.underlying62 Tryz.underlying5 cellsU8 hf with ⟨hcs, _⟩ | ⟨x, l, c, zs, hcs, _, hl, hm, hz, _, hcell, hwz⟩
  · simp [Value.cells] at hcs
    obtain ⟨rfl, rfl, rfl⟩ := hcs
    exact ⟨none, [], 0, rfl, ⟨0, .inl rfl⟩, Nat.zero_le _, Nat.le_refl _, Nat.zero_le _⟩
  · simp [Value.cells] at hcs
    obtain ⟨rfl, rfl, rfl⟩ := hcs
    have hz' : zs.length = cap := by simpa using hz
    refine ⟨some x, bytesOf (zs.take len), cap, by rw [bytesOf_length _ _ (by omega)], bytes_open (by omega) hwz (fun h => by cases h) (fun a ha k hk => by cases ha; exact hcell k hk), ?_, ?_, hm⟩
    · rw [bytesOf_length _ _ (by omega)]; omega
    · rw [bytesOf_length _ _ (by omega)]; omega

/-- A world for the witness: the settled one, the table holding what its initialiser lays. -/
noncomputable def laidWorld (os : Os) : World :=
  { World.holding Tryz.prog os ⟨#[], #[], []⟩ with heap := (World.holding Tryz.prog os ⟨#[], #[], []⟩).heap.modify 1 fun
      | .cells _ t frozen => .cells (tabInts.map (Value.int .u32)).toArray t frozen
      | o => o }
end Go.Proofs.YtbanpdeganlndaaGreatDoor
namespace Go.Proofs.YtbanpdeganlndaaGreatDoor
open Go.ChangeShapes Go.WideShapes Go.ChangeAt Go.RowKit

theorem nat_u8 {n : Int} (wf : (Lit.int .u8 n).wf = true) : ∃ m : Nat, n = (m : Int) ∧ m < 256 := by
  have hb : 0 ≤ n ∧ n ≤ 255 := by
    simpa [Lit.wf, IntKind.min, IntKind.max, IntKind.bits, IntKind.signed] using wf
  exact ⟨n.toNat, by omega, by omega⟩
theorem nat_u16 {n : Int} (wf : (Lit.int .u16 n).wf = true) : ∃ m : Nat, n = (m : Int) ∧ m < 65536 := by
  have hb : 0 ≤ n ∧ n ≤ 65535 := by
    simpa [Lit.wf, IntKind.min, IntKind.max, IntKind.bits, IntKind.signed] using wf
  exact ⟨n.toNat, by omega, by omega⟩
theorem nat_u64 {n : Int} (wf : (Lit.int .u64 n).wf = true) : ∃ m : Nat, n = (m : Int) ∧ m < 18446744073709551616 := by
  have hb : 0 ≤ n ∧ n ≤ 18446744073709551615 := by
    simpa [Lit.wf, IntKind.min, IntKind.max, IntKind.bits, IntKind.signed] using wf
  exact ⟨n.toNat, by omega, by omega⟩
instance : Inhabited LP := ⟨⟨0, 0, false⟩⟩
theorem cellsLP : Tryz.prog.cellsOf 88 = 3 := by kernel_rfl
theorem cellsU8' : Tryz.prog.cellsOf 5 = 1 := by kernel_rfl
theorem cellsB' : Tryz.prog.cellsOf 4 = 1 := by kernel_rfl
theorem len3 {α : Type} {l : List α} (h : l.length = 3) : ∃ a b c, l = [a, b, c] := by
  match l, h with | [a, b, c], _ => exact ⟨a, b, c, rfl⟩
theorem byte_of {z : Int} (wf : (Lit.int .u8 z).wf = true) : ((((UInt8.ofNat z.toNat).toNat : Nat)) : Int) = z := byte_back wf
theorem trod_pairs {H : Type} {enc : TypeId × Value → H} {W : World} {base : Nat} {held : Bool} {fuel : Nat} {cs : List Value} {x : DataW H × List MemPlace} (hf : DataW.trod enc Tryz.prog W base (fun _ => true) held fuel 32 cs = some x) :
    ∃ A l cap g, cs = [.slice A (List.length l) cap] ∧ LPsIn W g A l := by
  rcases Deep.open_slice Tryz.underlying32 hf with ⟨hcs, _⟩ | ⟨a, len, cap, m, n', D, Pl, hcs, _, hl, hm, hmm, _, hi⟩
  · exact ⟨none, [], 0, 0, by simpa using hcs, .inl rfl⟩
  · have hmm' : m = cap := by simpa using hmm
    have hi' : ∀ i, i < len → ∃ q : LP, W.cell? (a.add (i * 3)) = some (.int .u8 ((q.k.toNat : Nat) : Int)) ∧ W.cell? (a.add (i * 3 + 1)) = some (.int .u8 ((q.n.toNat : Nat) : Int)) ∧ W.cell? (a.add (i * 3 + 2)) = some (.bool q.gone) := fun i hl' => by
      obtain ⟨cs', hc, ht⟩ := hi i (by omega)
      rw [cellsLP] at hc
      obtain ⟨_, hcl, hat⟩ := World.cells?_some hc
      obtain ⟨xs, n2, _, _, _, hxl, hf⟩ := DataW.trod_struct Tryz.underlying88 ht
      have g0 : DataW.trod enc Tryz.prog W base (fun _ => true) held n2 5 (List.take (Tryz.prog.cellsOf 5) (List.drop 0 cs')) = _ := hf 0 _ rfl
      have g1 : DataW.trod enc Tryz.prog W base (fun _ => true) held n2 5 (List.take (Tryz.prog.cellsOf 5) (List.drop 1 cs')) = _ := hf 1 _ rfl
      have g2 : DataW.trod enc Tryz.prog W base (fun _ => true) held n2 4 (List.take (Tryz.prog.cellsOf 4) (List.drop 2 cs')) = _ := hf 2 _ rfl
      simp only [cellsU8', cellsB'] at g0 g1 g2
      obtain ⟨u0, u1, u2, rfl⟩ := len3 hcl
      obtain ⟨y0, y1, y2, rfl⟩ := len3 hxl
      obtain ⟨z0, e0, _, w0⟩ := DataW.trod_int Tryz.underlying5 g0
      obtain ⟨z1, e1, _, w1⟩ := DataW.trod_int Tryz.underlying5 g1
      obtain ⟨z2, e2, _⟩ := DataW.trod_bool Tryz.underlying4 g2
      simp at e0 e1 e2
      subst e0 e1 e2
      have a0 := hat 0 (by omega)
      have a1 := hat 1 (by omega)
      have a2 := hat 2 (by omega)
      rw [Deep.add_add] at a0 a1 a2
      exact ⟨⟨UInt8.ofNat z0.toNat, UInt8.ofNat z1.toNat, z2⟩, by rw [byte_of w0]; exact a0, by rw [byte_of w1]; exact a1, a2⟩
    obtain ⟨F, hF⟩ := Deep.choose_lt hi'
    by_cases h0 : len = 0
    · subst h0; exact ⟨some a, [], cap, 0, hcs, .inl rfl⟩
    · obtain ⟨b, off, spot⟩ := a
      have hs : spot = none := by
        obtain ⟨h1, _⟩ := hF 0 (by omega)
        simpa [Addr.add] using World.cell?_spot h1
      subst hs
      refine ⟨some ⟨b, off, none⟩, (List.range len).map F, cap, b, by simpa using hcs, .inr ⟨off, rfl, fun k hk => ?_⟩⟩
      have hk' : k < len := by simpa using hk
      obtain ⟨h1, h2, h3⟩ := hF k hk'
      rw [Addr.add_lit] at h1 h2 h3
      simp only [List.getElem_map, List.getElem_range]
      exact ⟨h1, by rw [Nat.add_assoc]; exact h2, by rw [Nat.add_assoc]; exact h3⟩
theorem open_pairs {H : Type} {enc : TypeId × Value → H} {W : World} {base : Nat} {held : Bool} {v : Value} {d : DataW H} {p : List MemPlace} (hv : ∃ a len cap, v = .slice a len cap) (h : DataW.Trod enc Tryz.prog W base (fun _ => true) held 32 v d p) :
    ∃ A l cap, v = .slice A (List.length l) cap ∧ ∃ g, LPsIn W g A l := by
  obtain ⟨a0, len0, cap0, rfl⟩ := hv
  obtain ⟨fuel, hf⟩ := h
  obtain ⟨A, l, cap, g, hcs, hl⟩ := trod_pairs hf
  simp [Value.cells] at hcs
  obtain ⟨rfl, rfl, rfl⟩ := hcs
  exact ⟨_, l, _, rfl, g, hl⟩
end Go.Proofs.YtbanpdeganlndaaGreatDoor
