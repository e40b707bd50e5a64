/-
  DERIVED. GIVEN WITH THE SEED: THE CARDS: each row of YtjodhbomckkjdaaDoorRows.lean that lists a variable, with what it lists TIED to the program's text (the seventh form; the later family's looks); each row that meets fmt, with fmt's text TOLD by the authors' own Lean function (tested against real Go, not proved from fmt's source: count such statements apart). THE CARD IS WHAT COUNTS. Prove the row's statement (the work); the ties are given (YtjodhbomckkjdaaDoorTie.lean); close each card by the builder's one call (the guide's Derived/Test/ToyasCard.lean, 'card_holds'). Laid BY PROGRAM, IN A SANDBOX (cutbox-door.mjs). By AI agents, Wed Nov 11 2026. No macro, syntax, notation, axiom, sorry.
-/
import Derived.Test.YtjodhbomckkjdaaDoorRows
import GoSem.ClaimSeven
namespace Go.Proofs.YtjodhbomckkjdaaDoor
namespace Rows

/-- THE TIED CARD OF 'laws.FnTidy'. -/
def fnTidyCard : Claim7 := { stood := { row := fnTidyRow, standIns := [], harness := (true, "5d08e035504b0682f059f794bf1d8ea670fb08e6a55aee9f5bbb8877084343c4"), looks := true }, kinds := [], alts := [], laidByText := true, laidKinds := [.handle], laidTests := true, laidLooks := .later }
def FnTidyCardSaid : Prop := Claim7.holds Tryd.pinned (.plain (OpenSpec.ofChange fnTidySpec)) fnTidyCard

/-- THE TIED CARD OF 'laws.FnTermSame'. -/
def fnTermSameCard : Claim7 := { stood := { row := fnTermSameRow, standIns := [], harness := (true, "5d08e035504b0682f059f794bf1d8ea670fb08e6a55aee9f5bbb8877084343c4"), looks := true }, kinds := [], alts := [], laidByText := true, laidKinds := [.handle], laidTests := true, laidLooks := .later }
def FnTermSameCardSaid : Prop := Claim7.holds Tryd.pinned (.plain (OpenSpec.ofChange fnTermSameSpec)) fnTermSameCard

/-- THE TIED CARD OF 'laws.FnTimes'. -/
def fnTimesCard : Claim7 := { stood := { row := fnTimesRow, standIns := [], harness := (true, "5d08e035504b0682f059f794bf1d8ea670fb08e6a55aee9f5bbb8877084343c4"), looks := true }, kinds := [], alts := [], laidByText := true, laidKinds := [.handle], laidTests := true, laidLooks := .later }
def FnTimesCardSaid : Prop := Claim7.holds Tryd.pinned (.plain (OpenSpec.ofChange fnTimesSpec)) fnTimesCard

/-- THE TIED CARD OF 'laws.FnMovedTidy'. -/
def fnMovedTidyCard : Claim7 := { stood := { row := fnMovedTidyRow, standIns := [], harness := (true, "5d08e035504b0682f059f794bf1d8ea670fb08e6a55aee9f5bbb8877084343c4"), looks := true }, kinds := [], alts := [], laidByText := true, laidKinds := [.handle], laidTests := true, laidLooks := .later }
def FnMovedTidyCardSaid : Prop := Claim7.holds Tryd.pinned (.plain (OpenSpec.ofChange fnMovedTidySpec)) fnMovedTidyCard

/-- THE SECOND FORM's CARD OF 'laws.FnTidy'. -/
def fnTidyUptoCard : Claim7 := { stood := { row := fnTidyUptoRow, standIns := [], harness := (true, "5d08e035504b0682f059f794bf1d8ea670fb08e6a55aee9f5bbb8877084343c4"), looks := true }, kinds := [], alts := [], laidByText := true, laidKinds := [.handle], laidTests := true, laidLooks := .later }
def FnTidyUptoCardSaid : Prop := Claim7.holds Tryd.pinned (.plain (OpenSpec.upto fnTidySpec)) fnTidyUptoCard

/-- THE SECOND FORM's CARD OF 'laws.FnTermSame'. -/
def fnTermSameUptoCard : Claim7 := { stood := { row := fnTermSameUptoRow, standIns := [], harness := (true, "5d08e035504b0682f059f794bf1d8ea670fb08e6a55aee9f5bbb8877084343c4"), looks := true }, kinds := [], alts := [], laidByText := true, laidKinds := [.handle], laidTests := true, laidLooks := .later }
def FnTermSameUptoCardSaid : Prop := Claim7.holds Tryd.pinned (.plain (OpenSpec.upto fnTermSameSpec)) fnTermSameUptoCard

/-- THE SECOND FORM's CARD OF 'laws.FnTimes'. -/
def fnTimesUptoCard : Claim7 := { stood := { row := fnTimesUptoRow, standIns := [], harness := (true, "5d08e035504b0682f059f794bf1d8ea670fb08e6a55aee9f5bbb8877084343c4"), looks := true }, kinds := [], alts := [], laidByText := true, laidKinds := [.handle], laidTests := true, laidLooks := .later }
def FnTimesUptoCardSaid : Prop := Claim7.holds Tryd.pinned (.plain (OpenSpec.upto fnTimesSpec)) fnTimesUptoCard

/-- THE SECOND FORM's CARD OF 'laws.FnMovedTidy'. -/
def fnMovedTidyUptoCard : Claim7 := { stood := { row := fnMovedTidyUptoRow, standIns := [], harness := (true, "5d08e035504b0682f059f794bf1d8ea670fb08e6a55aee9f5bbb8877084343c4"), looks := true }, kinds := [], alts := [], laidByText := true, laidKinds := [.handle], laidTests := true, laidLooks := .later }
def FnMovedTidyUptoCardSaid : Prop := Claim7.holds Tryd.pinned (.plain (OpenSpec.upto fnMovedTidySpec)) fnMovedTidyUptoCard
end Rows
end Go.Proofs.YtjodhbomckkjdaaDoor
