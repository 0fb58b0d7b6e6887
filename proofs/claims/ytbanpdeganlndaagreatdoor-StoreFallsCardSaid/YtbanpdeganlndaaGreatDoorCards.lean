/-
  DERIVED. GIVEN WITH THE SEED: THE CARDS: each row of YtbanpdeganlndaaGreatDoorRows.lean that lists a variable, with what it lists TIED to the program's text (the seventh form; the later family's looks); each row that meets fmt, with fmt's text TOLD by the authors' own Lean function (tested against real Go, not proved from fmt's source: count such statements apart). THE CARD IS WHAT COUNTS. Prove the row's statement (the work); the ties are given (YtbanpdeganlndaaGreatDoorTie.lean); close each card by the builder's one call (the guide's Derived/Test/ToyasCard.lean, 'card_holds'). Laid BY PROGRAM, IN A SANDBOX (cutbox-door.mjs). By AI agents, Wed Nov 11 2026. No macro, syntax, notation, axiom, sorry.
-/
import Derived.Test.YtbanpdeganlndaaGreatDoorRows
import GoSem.ClaimSeven
namespace Go.Proofs.YtbanpdeganlndaaGreatDoor
namespace Rows

/-- THE TIED CARD OF 'augurlaw5.StorePlays'. -/
def storePlaysCard : Claim7 := { stood := { row := storePlaysRow, standIns := [], harness := (true, "7304b41db75d88736226c384c3b46123bd01c7998f8dae5dce482d25f1771bec"), looks := true }, kinds := [], alts := [], laidByText := true, laidKinds := [.data], laidTests := true, laidLooks := .later }
def StorePlaysCardSaid : Prop := Claim7.holds Tryz.pinned (.plain (OpenSpec.ofChange storePlaysSpec)) storePlaysCard

/-- THE TIED CARD OF 'augurlaw5.StoreFalls'. -/
def storeFallsCard : Claim7 := { stood := { row := storeFallsRow, standIns := [], harness := (true, "7304b41db75d88736226c384c3b46123bd01c7998f8dae5dce482d25f1771bec"), looks := true }, kinds := [], alts := [], laidByText := true, laidKinds := [.data], laidTests := true, laidLooks := .later }
def StoreFallsCardSaid : Prop := Claim7.holds Tryz.pinned (.plain (OpenSpec.ofChange storeFallsSpec)) storeFallsCard

/-- THE TIED CARD OF 'augurlaw5.StoreBatch'. -/
def storeBatchCard : Claim7 := { stood := { row := storeBatchRow, standIns := [], harness := (true, "7304b41db75d88736226c384c3b46123bd01c7998f8dae5dce482d25f1771bec"), looks := true }, kinds := [], alts := [], laidByText := true, laidKinds := [.data], laidTests := true, laidLooks := .later }
def StoreBatchCardSaid : Prop := Claim7.holds Tryz.pinned (.plain (OpenSpec.ofChange storeBatchSpec)) storeBatchCard

/-- THE TIED CARD OF 'augurlaw5.StoreRounds'. -/
def storeRoundsCard : Claim7 := { stood := { row := storeRoundsRow, standIns := [], harness := (true, "7304b41db75d88736226c384c3b46123bd01c7998f8dae5dce482d25f1771bec"), looks := true }, kinds := [], alts := [], laidByText := true, laidKinds := [.data], laidTests := true, laidLooks := .later }
def StoreRoundsCardSaid : Prop := Claim7.holds Tryz.pinned (.plain (OpenSpec.ofChange storeRoundsSpec)) storeRoundsCard

/-- THE TIED CARD OF 'augurlaw5.StorePrefix'. -/
def storePrefixCard : Claim7 := { stood := { row := storePrefixRow, standIns := [], harness := (true, "7304b41db75d88736226c384c3b46123bd01c7998f8dae5dce482d25f1771bec"), looks := true }, kinds := [], alts := [], laidByText := true, laidKinds := [.data], laidTests := true, laidLooks := .later }
def StorePrefixCardSaid : Prop := Claim7.holds Tryz.pinned (.plain (OpenSpec.ofChange storePrefixSpec)) storePrefixCard

/-- THE TIED CARD OF 'augurlaw5.StoreDown'. -/
def storeDownCard : Claim7 := { stood := { row := storeDownRow, standIns := [], harness := (true, "7304b41db75d88736226c384c3b46123bd01c7998f8dae5dce482d25f1771bec"), looks := true }, kinds := [], alts := [], laidByText := true, laidKinds := [.data], laidTests := true, laidLooks := .later }
def StoreDownCardSaid : Prop := Claim7.holds Tryz.pinned (.plain (OpenSpec.ofChange storeDownSpec)) storeDownCard

/-- THE SECOND FORM's CARD OF 'augurlaw5.StorePlays'. -/
def storePlaysUptoCard : Claim7 := { stood := { row := storePlaysUptoRow, standIns := [], harness := (true, "7304b41db75d88736226c384c3b46123bd01c7998f8dae5dce482d25f1771bec"), looks := true }, kinds := [], alts := [], laidByText := true, laidKinds := [.data], laidTests := true, laidLooks := .later }
def StorePlaysUptoCardSaid : Prop := Claim7.holds Tryz.pinned (.plain (OpenSpec.upto storePlaysSpec)) storePlaysUptoCard

/-- THE SECOND FORM's CARD OF 'augurlaw5.StoreFalls'. -/
def storeFallsUptoCard : Claim7 := { stood := { row := storeFallsUptoRow, standIns := [], harness := (true, "7304b41db75d88736226c384c3b46123bd01c7998f8dae5dce482d25f1771bec"), looks := true }, kinds := [], alts := [], laidByText := true, laidKinds := [.data], laidTests := true, laidLooks := .later }
def StoreFallsUptoCardSaid : Prop := Claim7.holds Tryz.pinned (.plain (OpenSpec.upto storeFallsSpec)) storeFallsUptoCard

/-- THE SECOND FORM's CARD OF 'augurlaw5.StoreBatch'. -/
def storeBatchUptoCard : Claim7 := { stood := { row := storeBatchUptoRow, standIns := [], harness := (true, "7304b41db75d88736226c384c3b46123bd01c7998f8dae5dce482d25f1771bec"), looks := true }, kinds := [], alts := [], laidByText := true, laidKinds := [.data], laidTests := true, laidLooks := .later }
def StoreBatchUptoCardSaid : Prop := Claim7.holds Tryz.pinned (.plain (OpenSpec.upto storeBatchSpec)) storeBatchUptoCard

/-- THE SECOND FORM's CARD OF 'augurlaw5.StoreRounds'. -/
def storeRoundsUptoCard : Claim7 := { stood := { row := storeRoundsUptoRow, standIns := [], harness := (true, "7304b41db75d88736226c384c3b46123bd01c7998f8dae5dce482d25f1771bec"), looks := true }, kinds := [], alts := [], laidByText := true, laidKinds := [.data], laidTests := true, laidLooks := .later }
def StoreRoundsUptoCardSaid : Prop := Claim7.holds Tryz.pinned (.plain (OpenSpec.upto storeRoundsSpec)) storeRoundsUptoCard

/-- THE SECOND FORM's CARD OF 'augurlaw5.StorePrefix'. -/
def storePrefixUptoCard : Claim7 := { stood := { row := storePrefixUptoRow, standIns := [], harness := (true, "7304b41db75d88736226c384c3b46123bd01c7998f8dae5dce482d25f1771bec"), looks := true }, kinds := [], alts := [], laidByText := true, laidKinds := [.data], laidTests := true, laidLooks := .later }
def StorePrefixUptoCardSaid : Prop := Claim7.holds Tryz.pinned (.plain (OpenSpec.upto storePrefixSpec)) storePrefixUptoCard

/-- THE SECOND FORM's CARD OF 'augurlaw5.StoreDown'. -/
def storeDownUptoCard : Claim7 := { stood := { row := storeDownUptoRow, standIns := [], harness := (true, "7304b41db75d88736226c384c3b46123bd01c7998f8dae5dce482d25f1771bec"), looks := true }, kinds := [], alts := [], laidByText := true, laidKinds := [.data], laidTests := true, laidLooks := .later }
def StoreDownUptoCardSaid : Prop := Claim7.holds Tryz.pinned (.plain (OpenSpec.upto storeDownSpec)) storeDownUptoCard
end Rows
end Go.Proofs.YtbanpdeganlndaaGreatDoor
