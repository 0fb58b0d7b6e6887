import Derived.Test.YtbikifibfaaggaaGreatDoorCards
import Derived.Test.YtbikifibfaaggaaGreatDoorTie
import Derived.Test.YtbikifibfaaggaaGreatDoorVMC
import Derived.OpenShut
import Derived.Deep.DeepHandedRow
import Derived.Deep.DeepLaidRun
import Derived.Stop.LaidErr
import Derived.ChangeOld
import Derived.Deep.Matrix
import Derived.Carry
namespace Go.Proofs.YtbikifibfaaggaaGreatDoor
set_option maxRecDepth 100000
open Go.ChangeShapes Go.WideShapes Go.ChangeAt Go.RowKit
theorem own : ownKnob Tryz.prog.godebug = none := by kernel_rfl
theorem gErr : Tryz.prog.globalNamed "strconv.ErrRange" = some 3 := by kernel_rfl
theorem gErrType : (Tryz.prog.globals[3]?).map (·.type) = some 151 := by kernel_rfl
theorem cellsES : Tryz.prog.cellsOf 246 = 1 := by kernel_rfl
theorem cellsStr : Tryz.prog.cellsOf 9 = 1 := by kernel_rfl
theorem underES : Tryz.prog.underlying 246 = some (.struct #[{ name := "s", type := 9, offset := 0, embedded := false, tag := "", pkgPath := "errors", byteOffset := 0 }]) := by kernel_rfl
theorem starES : "*" ++ "errors.errorString" = "*errors.errorString" := by decide
theorem rowES (u : TypeId) (h : Tryz.prog.typeName? 3 u = some "*errors.errorString") : u = 244 :=
 typeName_ptr_named (nm := "errors.errorString") (by rw [starES]; kernel_rfl) (by kernel_rfl) (by decide) u (by rw [starES]; exact h)
theorem err_of {W : World} (h : laidMet Tryz.prog Rows.parseReadsRow.laid W) : ErrAt W := by
 have h4 := h.tail.tail.tail.tail
 obtain ⟨a, s, hv, -, -, -⟩ := laid_sentinel h4 gErr gErrType Tryz.underlying151 rowES Tryz.underlying244 underES rfl rfl Tryz.underlying9 cellsES cellsStr
 exact ⟨_, _, by have h0 := World.var?_cell gErr hv 0; simpa using h0⟩
def flat : Nat → DataW Unit → List Value
 | n + 1, .lit (.int k z) => [.int k z]
 | n + 1, .agg ps => ps.flatMap (flat n)
 | _, _ => []
def rngS : ByteArray := ⟨#[118, 97, 108, 117, 101, 32, 111, 117, 116, 32, 111, 102, 32, 114, 97, 110, 103, 101]⟩
def synS : ByteArray := ⟨#[105, 110, 118, 97, 108, 105, 100, 32, 115, 121, 110, 116, 97, 120]⟩
noncomputable def low : Nat := (World.holding Tryz.prog default ⟨#[], #[], []⟩).heap.size
def putCells (cs : List Value) : Obj → Obj
 | .cells _ t frozen => .cells cs.toArray t frozen
 | o => o
noncomputable def laidWorld (os : Os) : World :=
 let w0 := World.holding Tryz.prog os ⟨#[.cells #[.string rngS] 246, .cells #[.string synS] 246], #[], []⟩
 { w0 with heap := (((((((w0.heap.modify 3 (putCells [.iface 244 (.pointer (some ⟨low, 0, none⟩))])).modify
  2 (putCells [.iface 244 (.pointer (some ⟨low + 1, 0, none⟩))])).modify
  6 (putCells (flat 4 Rows.laid_unicode_utf8_first))).modify
  7 (putCells (flat 4 Rows.laid_unicode_utf8_acceptRanges))).modify
  0 (putCells (flat 4 Rows.laid_internal_strconv_uint64pow10))).modify
  4 (putCells (flat 4 Rows.laid_math_bits_deBruijn32tab))).modify
  5 (putCells (flat 4 Rows.laid_math_bits_deBruijn64tab))) }
theorem laidWorld_met (os : Os) (args : Array Value) : laidMet Tryz.prog Rows.parseReadsRow.laid ((laidWorld os).forCall (fun _ _ => 0) ⟨#[], args, []⟩).memory :=
 laidMet_of_run3 8 (by kernel_rfl) (by kernel_rfl) (by kernel_rfl)
end Go.Proofs.YtbikifibfaaggaaGreatDoor
