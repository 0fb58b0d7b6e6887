/-
  DERIVED. GIVEN WITH THE SEED: THE CARDS: each row of YtgjgnieobbhepaaDoorRows.lean that lists a variable, with what it lists TIED to the program's text (the seventh form; the later family's looks); each row that meets fmt, with fmt's text TOLD by the authors' own Lean function (tested against real Go, not proved from fmt's source: count such statements apart). THE CARD IS WHAT COUNTS. Prove the row's statement (the work); the ties are given (YtgjgnieobbhepaaDoorTie.lean); close each card by the builder's one call (the guide's Derived/Test/ToyasCard.lean, 'card_holds'). Laid BY PROGRAM, IN A SANDBOX (cutbox-door.mjs). By AI agents, Wed Nov 11 2026. No macro, syntax, notation, axiom, sorry.
-/
import Derived.Test.YtgjgnieobbhepaaDoorRows
import GoSem.ClaimSeven
namespace Go.Proofs.YtgjgnieobbhepaaDoor
namespace Rows

/-- THE TIED CARD OF 'augurlaw4.WalKeeps'. -/
def walKeepsCard : Claim7 := { stood := { row := walKeepsRow, standIns := [], harness := (true, "0841d9ec4c86fea85de86dd10c334c55467b6122c9fc9e3d8cedb45fa3845f3d"), looks := true }, kinds := [], alts := [], laidByText := true, laidKinds := [.data], laidTests := true, laidLooks := .later }
def WalKeepsCardSaid : Prop := Claim7.holds Tryd.pinned (.plain (OpenSpec.ofChange walKeepsSpec)) walKeepsCard

/-- THE TIED CARD OF 'augurlaw4.WalFalls'. -/
def walFallsCard : Claim7 := { stood := { row := walFallsRow, standIns := [], harness := (true, "0841d9ec4c86fea85de86dd10c334c55467b6122c9fc9e3d8cedb45fa3845f3d"), looks := true }, kinds := [], alts := [], laidByText := true, laidKinds := [.data], laidTests := true, laidLooks := .later }
def WalFallsCardSaid : Prop := Claim7.holds Tryd.pinned (.plain (OpenSpec.ofChange walFallsSpec)) walFallsCard

/-- THE TIED CARD OF 'augurlaw4.WalTwice'. -/
def walTwiceCard : Claim7 := { stood := { row := walTwiceRow, standIns := [], harness := (true, "0841d9ec4c86fea85de86dd10c334c55467b6122c9fc9e3d8cedb45fa3845f3d"), looks := true }, kinds := [], alts := [], laidByText := true, laidKinds := [.data], laidTests := true, laidLooks := .later }
def WalTwiceCardSaid : Prop := Claim7.holds Tryd.pinned (.plain (OpenSpec.ofChange walTwiceSpec)) walTwiceCard

/-- THE TIED CARD OF 'augurlaw4.WalForeign'. -/
def walForeignCard : Claim7 := { stood := { row := walForeignRow, standIns := [], harness := (true, "0841d9ec4c86fea85de86dd10c334c55467b6122c9fc9e3d8cedb45fa3845f3d"), looks := true }, kinds := [], alts := [], laidByText := true, laidKinds := [.data], laidTests := true, laidLooks := .later }
def WalForeignCardSaid : Prop := Claim7.holds Tryd.pinned (.plain (OpenSpec.ofChange walForeignSpec)) walForeignCard

/-- THE TIED CARD OF 'augurlaw4.WalTogether'. -/
def walTogetherCard : Claim7 := { stood := { row := walTogetherRow, standIns := [], harness := (true, "0841d9ec4c86fea85de86dd10c334c55467b6122c9fc9e3d8cedb45fa3845f3d"), looks := true }, kinds := [], alts := [], laidByText := true, laidKinds := [.data], laidTests := true, laidLooks := .later }
def WalTogetherCardSaid : Prop := Claim7.holds Tryd.pinned (.plain (OpenSpec.ofChange walTogetherSpec)) walTogetherCard

/-- THE TIED CARD OF 'augurlaw4.WalResets'. -/
def walResetsCard : Claim7 := { stood := { row := walResetsRow, standIns := [], harness := (true, "0841d9ec4c86fea85de86dd10c334c55467b6122c9fc9e3d8cedb45fa3845f3d"), looks := true }, kinds := [], alts := [], laidByText := true, laidKinds := [.data], laidTests := true, laidLooks := .later }
def WalResetsCardSaid : Prop := Claim7.holds Tryd.pinned (.plain (OpenSpec.ofChange walResetsSpec)) walResetsCard

/-- THE TIED CARD OF 'augurlaw4.WalGreat'. -/
def walGreatCard : Claim7 := { stood := { row := walGreatRow, standIns := [], harness := (true, "0841d9ec4c86fea85de86dd10c334c55467b6122c9fc9e3d8cedb45fa3845f3d"), looks := true }, kinds := [], alts := [], laidByText := true, laidKinds := [.data], laidTests := true, laidLooks := .later }
def WalGreatCardSaid : Prop := Claim7.holds Tryd.pinned (.plain (OpenSpec.ofChange walGreatSpec)) walGreatCard

/-- THE SECOND FORM's CARD OF 'augurlaw4.WalKeeps'. -/
def walKeepsUptoCard : Claim7 := { stood := { row := walKeepsUptoRow, standIns := [], harness := (true, "0841d9ec4c86fea85de86dd10c334c55467b6122c9fc9e3d8cedb45fa3845f3d"), looks := true }, kinds := [], alts := [], laidByText := true, laidKinds := [.data], laidTests := true, laidLooks := .later }
def WalKeepsUptoCardSaid : Prop := Claim7.holds Tryd.pinned (.plain (OpenSpec.upto walKeepsSpec)) walKeepsUptoCard

/-- THE SECOND FORM's CARD OF 'augurlaw4.WalFalls'. -/
def walFallsUptoCard : Claim7 := { stood := { row := walFallsUptoRow, standIns := [], harness := (true, "0841d9ec4c86fea85de86dd10c334c55467b6122c9fc9e3d8cedb45fa3845f3d"), looks := true }, kinds := [], alts := [], laidByText := true, laidKinds := [.data], laidTests := true, laidLooks := .later }
def WalFallsUptoCardSaid : Prop := Claim7.holds Tryd.pinned (.plain (OpenSpec.upto walFallsSpec)) walFallsUptoCard

/-- THE SECOND FORM's CARD OF 'augurlaw4.WalTwice'. -/
def walTwiceUptoCard : Claim7 := { stood := { row := walTwiceUptoRow, standIns := [], harness := (true, "0841d9ec4c86fea85de86dd10c334c55467b6122c9fc9e3d8cedb45fa3845f3d"), looks := true }, kinds := [], alts := [], laidByText := true, laidKinds := [.data], laidTests := true, laidLooks := .later }
def WalTwiceUptoCardSaid : Prop := Claim7.holds Tryd.pinned (.plain (OpenSpec.upto walTwiceSpec)) walTwiceUptoCard

/-- THE SECOND FORM's CARD OF 'augurlaw4.WalForeign'. -/
def walForeignUptoCard : Claim7 := { stood := { row := walForeignUptoRow, standIns := [], harness := (true, "0841d9ec4c86fea85de86dd10c334c55467b6122c9fc9e3d8cedb45fa3845f3d"), looks := true }, kinds := [], alts := [], laidByText := true, laidKinds := [.data], laidTests := true, laidLooks := .later }
def WalForeignUptoCardSaid : Prop := Claim7.holds Tryd.pinned (.plain (OpenSpec.upto walForeignSpec)) walForeignUptoCard

/-- THE SECOND FORM's CARD OF 'augurlaw4.WalTogether'. -/
def walTogetherUptoCard : Claim7 := { stood := { row := walTogetherUptoRow, standIns := [], harness := (true, "0841d9ec4c86fea85de86dd10c334c55467b6122c9fc9e3d8cedb45fa3845f3d"), looks := true }, kinds := [], alts := [], laidByText := true, laidKinds := [.data], laidTests := true, laidLooks := .later }
def WalTogetherUptoCardSaid : Prop := Claim7.holds Tryd.pinned (.plain (OpenSpec.upto walTogetherSpec)) walTogetherUptoCard

/-- THE SECOND FORM's CARD OF 'augurlaw4.WalResets'. -/
def walResetsUptoCard : Claim7 := { stood := { row := walResetsUptoRow, standIns := [], harness := (true, "0841d9ec4c86fea85de86dd10c334c55467b6122c9fc9e3d8cedb45fa3845f3d"), looks := true }, kinds := [], alts := [], laidByText := true, laidKinds := [.data], laidTests := true, laidLooks := .later }
def WalResetsUptoCardSaid : Prop := Claim7.holds Tryd.pinned (.plain (OpenSpec.upto walResetsSpec)) walResetsUptoCard

/-- THE SECOND FORM's CARD OF 'augurlaw4.WalGreat'. -/
def walGreatUptoCard : Claim7 := { stood := { row := walGreatUptoRow, standIns := [], harness := (true, "0841d9ec4c86fea85de86dd10c334c55467b6122c9fc9e3d8cedb45fa3845f3d"), looks := true }, kinds := [], alts := [], laidByText := true, laidKinds := [.data], laidTests := true, laidLooks := .later }
def WalGreatUptoCardSaid : Prop := Claim7.holds Tryd.pinned (.plain (OpenSpec.upto walGreatSpec)) walGreatUptoCard
end Rows
end Go.Proofs.YtgjgnieobbhepaaDoor
