/- What every statement of this seat needs: the variable that the rows list, the witness's world. -/
import Derived.Test.YtbikifibfaaggaaGreatDoorCards
import Derived.Test.YtbikifibfaaggaaGreatDoorTie
import Derived.Test.YtbikifibfaaggaaGreatDoorLLex
import Derived.OpenShut
import Derived.Deep.DeepHandedRow
import Derived.Deep.DeepLaidRun
import Derived.Stop.LaidErr
import Derived.ChangeOld
import Derived.Deep.Matrix
import Derived.Carry
namespace Go.Proofs.YtbikifibfaaggaaGreatDoor
open Go.ChangeShapes Go.WideShapes Go.ChangeAt Go.RowKit

theorem own : ownKnob Tryz.prog.godebug = none := by kernel_rfl
theorem laidOut : laidOutB Tryz.prog = true := by kernel_rfl
theorem gErr : Tryz.prog.globalNamed "strconv.ErrRange" = some 3 := by kernel_rfl
theorem gErrType : (Tryz.prog.globals[3]?).map (·.type) = some 151 := by kernel_rfl
theorem cellsES : Tryz.prog.cellsOf 246 = 1 := by kernel_rfl
theorem cellsStr : Tryz.prog.cellsOf 9 = 1 := by kernel_rfl
theorem underES : Tryz.prog.underlying 246 = some (.struct #[{ name := "s", type := 9, offset := 0, embedded := false, tag := "", pkgPath := "errors", byteOffset := 0 }]) := by kernel_rfl
theorem starES : "*" ++ "errors.errorString" = "*errors.errorString" := by decide
theorem rowES (u : TypeId) (h : Tryz.prog.typeName? 3 u = some "*errors.errorString") : u = 244 :=
  typeName_ptr_named (nm := "errors.errorString") (by rw [starES]; kernel_rfl) (by kernel_rfl) (by decide) u (by rw [starES]; exact h)
/-- WHAT THE ROWS' LIST GIVES. -/
theorem err_of {W : World} (h : laidMet Tryz.prog Rows.parseReadsRow.laid W) : ErrAt W := by
  have h4 := h.tail.tail.tail.tail
  obtain ⟨a, s, hv, -, -, -⟩ := laid_sentinel h4 gErr gErrType Tryz.underlying151 rowES Tryz.underlying244 underES rfl rfl Tryz.underlying9 cellsES cellsStr
  exact ⟨_, _, by have h0 := World.var?_cell gErr hv 0; simpa using h0⟩

theorem cellsU8 : Tryz.prog.cellsOf 5 = 1 := by kernel_rfl
def bytesOf (zs : List Int) : List UInt8 := zs.map fun z => UInt8.ofNat z.toNat
theorem byte_back {z : Int} (h : (Lit.int .u8 z).wf = true) : (((UInt8.ofNat z.toNat).toNat : Nat) : Int) = z := by
  have hb : 0 ≤ z ∧ z ≤ 255 := by
    simpa [Lit.wf, IntKind.min, IntKind.max, IntKind.bits, IntKind.signed] using h
  simp
  omega
theorem bytes_open {w : World} {A : Option Addr} {len : Nat} {zs : List Int} (hl : len ≤ zs.length) (hwf : ∀ n ∈ zs, (Lit.int .u8 n).wf = true) (hn : A = none → len = 0)
    (hc : ∀ a, A = some a → ∀ c, c < zs.length → w.cell? (a.add c) = some (.int .u8 (zs.getD c 0))) : ∃ g, BytesIn w g A (bytesOf (zs.take len)) := by
  by_cases h0 : len = 0
  · subst h0; exact ⟨0, .inl rfl⟩
  · rcases A with _ | ⟨b, off, spot⟩
    · exact absurd (hn rfl) h0
    · have hs : spot = none := by simpa [Addr.add] using World.cell?_spot (hc _ rfl 0 (by omega))
      subst hs
      refine ⟨b, .inr ⟨off, rfl, fun k hk => ?_⟩⟩
      have hk' : k < len := by simp [bytesOf] at hk; omega
      have hkz : k < zs.length := by omega
      have h1 := hc _ rfl k hkz
      rw [Addr.add_lit] at h1
      rw [h1]
      have h3 : (bytesOf (zs.take len))[k]'hk = UInt8.ofNat (zs[k]).toNat := by simp [bytesOf]
      rw [h3, byte_back (hwf _ (List.getElem_mem hkz))]
      simp [List.getD, hkz]
theorem bytesOf_length (zs : List Int) (len : Nat) (h : len ≤ zs.length) : (bytesOf (zs.take len)).length = len := by simp [bytesOf]; omega

/-- A slice of bytes that came in. -/
theorem open_bytes {H : Type} {enc : TypeId × Value → H} {W : World} {base : Nat} {held : Bool} {v : Value} {d : DataW H} {p : List MemPlace} (hv : ∃ a len cap, v = .slice a len cap) (h : DataW.Trod enc Tryz.prog W base (fun _ => true) held 43 v d p) :
    ∃ A l cap, v = .slice A l.length cap ∧ (∃ g, BytesIn W g A l) ∧ l.length ≤ maxLen ∧ l.length ≤ cap ∧ cap ≤ maxLen := by
  obtain ⟨a, len, cap, rfl⟩ := hv
  obtain ⟨fuel, hf⟩ := h
  rcases open_ints Tryz.underlying43 Tryz.underlying5 cellsU8 hf with ⟨hcs, _⟩ | ⟨x, l, c, zs, hcs, _, hl, hm, hz, _, hcell, hwz⟩
  · simp [Value.cells] at hcs
    obtain ⟨rfl, rfl, rfl⟩ := hcs
    exact ⟨none, [], 0, rfl, ⟨0, .inl rfl⟩, Nat.zero_le _, Nat.le_refl _, Nat.zero_le _⟩
  · simp [Value.cells] at hcs
    obtain ⟨rfl, rfl, rfl⟩ := hcs
    have hz' : zs.length = cap := by simpa using hz
    refine ⟨some x, bytesOf (zs.take len), cap, by rw [bytesOf_length _ _ (by omega)], bytes_open (by omega) hwz (fun h => by cases h) (fun a ha k hk => by cases ha; exact hcell k hk), ?_, ?_, hm⟩
    · rw [bytesOf_length _ _ (by omega)]; omega
    · rw [bytesOf_length _ _ (by omega)]; omega

/-! ### A world for the witness: the settled one, each listed variable as its initialiser lays it -/
def flat : Nat → DataW Unit → List Value
  | n + 1, .lit (.int k z) => [.int k z]
  | n + 1, .agg ps => ps.flatMap (flat n)
  | _, _ => []
def rngS : ByteArray := ⟨#[118, 97, 108, 117, 101, 32, 111, 117, 116, 32, 111, 102, 32, 114, 97, 110, 103, 101]⟩
def synS : ByteArray := ⟨#[105, 110, 118, 97, 108, 105, 100, 32, 115, 121, 110, 116, 97, 120]⟩
noncomputable def low : Nat := (World.holding Tryz.prog default ⟨#[], #[], []⟩).heap.size
def putCells (cs : List Value) : Obj → Obj
  | .cells _ t frozen => .cells cs.toArray t frozen
  | o => o
noncomputable def laidWorld (os : Os) : World :=
  let w0 := World.holding Tryz.prog os ⟨#[.cells #[.string rngS] 246, .cells #[.string synS] 246], #[], []⟩
  { w0 with heap := (((((((w0.heap.modify 3 (putCells [.iface 244 (.pointer (some ⟨low, 0, none⟩))])).modify
      2 (putCells [.iface 244 (.pointer (some ⟨low + 1, 0, none⟩))])).modify
      6 (putCells (flat 4 Rows.laid_unicode_utf8_first))).modify
      7 (putCells (flat 4 Rows.laid_unicode_utf8_acceptRanges))).modify
      0 (putCells (flat 4 Rows.laid_internal_strconv_uint64pow10))).modify
      4 (putCells (flat 4 Rows.laid_math_bits_deBruijn32tab))).modify
      5 (putCells (flat 4 Rows.laid_math_bits_deBruijn64tab))) }
set_option maxRecDepth 100000 in
theorem laidWorld_met (os : Os) (args : Array Value) : laidMet Tryz.prog Rows.parseReadsRow.laid ((laidWorld os).forCall (fun _ _ => 0) ⟨#[], args, []⟩).memory :=
  laidMet_of_run3 8 (by kernel_rfl) (by kernel_rfl) (by kernel_rfl)
end Go.Proofs.YtbikifibfaaggaaGreatDoor
