/-
  DERIVED. GIVEN WITH THE SEED: THE CARDS: each row of YtfhkbjheleojmaaDoorRows.lean that lists a variable, with what it lists TIED to the program's text (the seventh form; the later family's looks); each row that meets fmt, with fmt's text TOLD by the authors' own Lean function (tested against real Go, not proved from fmt's source: count such statements apart). THE CARD IS WHAT COUNTS. Prove the row's statement (the work); the ties are given (YtfhkbjheleojmaaDoorTie.lean); close each card by the builder's one call (the guide's Derived/Test/ToyasCard.lean, 'card_holds'). Laid BY PROGRAM, IN A SANDBOX (cutbox-door.mjs). By AI agents, Wed Nov 11 2026. No macro, syntax, notation, axiom, sorry.
-/
import Derived.Test.YtfhkbjheleojmaaDoorRows
import GoSem.ClaimSeven
namespace Go.Proofs.YtfhkbjheleojmaaDoor
namespace Rows

/-- THE TIED CARD OF 'laws.FnExactHouseBlocks'. -/
def fnExactHouseBlocksCard : Claim7 := { stood := { row := fnExactHouseBlocksRow, standIns := [], harness := (true, "f3937e6d33d705c8e163eb3260aab6cac92d6f1bed61db659cd1c7bb2214d2f1"), looks := false }, kinds := [], alts := [], laidByText := true, laidKinds := [.data, .data], laidTests := true, laidLooks := .later }
def FnExactHouseBlocksCardSaid : Prop := Claim7.holds Tryd.pinned (.plain (OpenSpec.ofChange fnExactHouseBlocksSpec)) fnExactHouseBlocksCard

/-- THE TIED CARD OF 'laws.FnExactHouseFirm'. -/
def fnExactHouseFirmCard : Claim7 := { stood := { row := fnExactHouseFirmRow, standIns := [], harness := (true, "f3937e6d33d705c8e163eb3260aab6cac92d6f1bed61db659cd1c7bb2214d2f1"), looks := false }, kinds := [], alts := [], laidByText := true, laidKinds := [.data, .data], laidTests := true, laidLooks := .later }
def FnExactHouseFirmCardSaid : Prop := Claim7.holds Tryd.pinned (.plain (OpenSpec.ofChange fnExactHouseFirmSpec)) fnExactHouseFirmCard

/-- THE TIED CARD OF 'laws.FnExactHouseFirms'. -/
def fnExactHouseFirmsCard : Claim7 := { stood := { row := fnExactHouseFirmsRow, standIns := [], harness := (true, "f3937e6d33d705c8e163eb3260aab6cac92d6f1bed61db659cd1c7bb2214d2f1"), looks := false }, kinds := [], alts := [], laidByText := true, laidKinds := [.data, .data], laidTests := true, laidLooks := .later }
def FnExactHouseFirmsCardSaid : Prop := Claim7.holds Tryd.pinned (.plain (OpenSpec.ofChange fnExactHouseFirmsSpec)) fnExactHouseFirmsCard

/-- THE TIED CARD OF 'laws.FnTrade'. -/
def fnTradeCard : Claim7 := { stood := { row := fnTradeRow, standIns := [], harness := (true, "f3937e6d33d705c8e163eb3260aab6cac92d6f1bed61db659cd1c7bb2214d2f1"), looks := false }, kinds := [], alts := [], laidByText := true, laidKinds := [.data, .data], laidTests := true, laidLooks := .later }
def FnTradeCardSaid : Prop := Claim7.holds Tryd.pinned (.plain (OpenSpec.ofChange fnTradeSpec)) fnTradeCard

/-- THE TIED CARD OF 'laws.FnBlocks'. -/
def fnBlocksCard : Claim7 := { stood := { row := fnBlocksRow, standIns := [], harness := (true, "f3937e6d33d705c8e163eb3260aab6cac92d6f1bed61db659cd1c7bb2214d2f1"), looks := false }, kinds := [], alts := [], laidByText := true, laidKinds := [.data, .data], laidTests := true, laidLooks := .later }
def FnBlocksCardSaid : Prop := Claim7.holds Tryd.pinned (.plain (OpenSpec.ofChange fnBlocksSpec)) fnBlocksCard

/-- THE TIED CARD OF 'laws.FnFirm'. -/
def fnFirmCard : Claim7 := { stood := { row := fnFirmRow, standIns := [], harness := (true, "f3937e6d33d705c8e163eb3260aab6cac92d6f1bed61db659cd1c7bb2214d2f1"), looks := false }, kinds := [], alts := [], laidByText := true, laidKinds := [.data, .data], laidTests := true, laidLooks := .later }
def FnFirmCardSaid : Prop := Claim7.holds Tryd.pinned (.plain (OpenSpec.ofChange fnFirmSpec)) fnFirmCard

/-- THE TIED CARD OF 'laws.FnFirms'. -/
def fnFirmsCard : Claim7 := { stood := { row := fnFirmsRow, standIns := [], harness := (true, "f3937e6d33d705c8e163eb3260aab6cac92d6f1bed61db659cd1c7bb2214d2f1"), looks := false }, kinds := [], alts := [], laidByText := true, laidKinds := [.data, .data], laidTests := true, laidLooks := .later }
def FnFirmsCardSaid : Prop := Claim7.holds Tryd.pinned (.plain (OpenSpec.ofChange fnFirmsSpec)) fnFirmsCard

/-- THE SECOND FORM's CARD OF 'laws.FnExactHouseBlocks'. -/
def fnExactHouseBlocksUptoCard : Claim7 := { stood := { row := fnExactHouseBlocksUptoRow, standIns := [], harness := (true, "f3937e6d33d705c8e163eb3260aab6cac92d6f1bed61db659cd1c7bb2214d2f1"), looks := false }, kinds := [], alts := [], laidByText := true, laidKinds := [.data, .data], laidTests := true, laidLooks := .later }
def FnExactHouseBlocksUptoCardSaid : Prop := Claim7.holds Tryd.pinned (.plain (OpenSpec.upto fnExactHouseBlocksSpec)) fnExactHouseBlocksUptoCard

/-- THE SECOND FORM's CARD OF 'laws.FnExactHouseFirm'. -/
def fnExactHouseFirmUptoCard : Claim7 := { stood := { row := fnExactHouseFirmUptoRow, standIns := [], harness := (true, "f3937e6d33d705c8e163eb3260aab6cac92d6f1bed61db659cd1c7bb2214d2f1"), looks := false }, kinds := [], alts := [], laidByText := true, laidKinds := [.data, .data], laidTests := true, laidLooks := .later }
def FnExactHouseFirmUptoCardSaid : Prop := Claim7.holds Tryd.pinned (.plain (OpenSpec.upto fnExactHouseFirmSpec)) fnExactHouseFirmUptoCard

/-- THE SECOND FORM's CARD OF 'laws.FnExactHouseFirms'. -/
def fnExactHouseFirmsUptoCard : Claim7 := { stood := { row := fnExactHouseFirmsUptoRow, standIns := [], harness := (true, "f3937e6d33d705c8e163eb3260aab6cac92d6f1bed61db659cd1c7bb2214d2f1"), looks := false }, kinds := [], alts := [], laidByText := true, laidKinds := [.data, .data], laidTests := true, laidLooks := .later }
def FnExactHouseFirmsUptoCardSaid : Prop := Claim7.holds Tryd.pinned (.plain (OpenSpec.upto fnExactHouseFirmsSpec)) fnExactHouseFirmsUptoCard

/-- THE SECOND FORM's CARD OF 'laws.FnTrade'. -/
def fnTradeUptoCard : Claim7 := { stood := { row := fnTradeUptoRow, standIns := [], harness := (true, "f3937e6d33d705c8e163eb3260aab6cac92d6f1bed61db659cd1c7bb2214d2f1"), looks := false }, kinds := [], alts := [], laidByText := true, laidKinds := [.data, .data], laidTests := true, laidLooks := .later }
def FnTradeUptoCardSaid : Prop := Claim7.holds Tryd.pinned (.plain (OpenSpec.upto fnTradeSpec)) fnTradeUptoCard

/-- THE SECOND FORM's CARD OF 'laws.FnBlocks'. -/
def fnBlocksUptoCard : Claim7 := { stood := { row := fnBlocksUptoRow, standIns := [], harness := (true, "f3937e6d33d705c8e163eb3260aab6cac92d6f1bed61db659cd1c7bb2214d2f1"), looks := false }, kinds := [], alts := [], laidByText := true, laidKinds := [.data, .data], laidTests := true, laidLooks := .later }
def FnBlocksUptoCardSaid : Prop := Claim7.holds Tryd.pinned (.plain (OpenSpec.upto fnBlocksSpec)) fnBlocksUptoCard

/-- THE SECOND FORM's CARD OF 'laws.FnFirm'. -/
def fnFirmUptoCard : Claim7 := { stood := { row := fnFirmUptoRow, standIns := [], harness := (true, "f3937e6d33d705c8e163eb3260aab6cac92d6f1bed61db659cd1c7bb2214d2f1"), looks := false }, kinds := [], alts := [], laidByText := true, laidKinds := [.data, .data], laidTests := true, laidLooks := .later }
def FnFirmUptoCardSaid : Prop := Claim7.holds Tryd.pinned (.plain (OpenSpec.upto fnFirmSpec)) fnFirmUptoCard

/-- THE SECOND FORM's CARD OF 'laws.FnFirms'. -/
def fnFirmsUptoCard : Claim7 := { stood := { row := fnFirmsUptoRow, standIns := [], harness := (true, "f3937e6d33d705c8e163eb3260aab6cac92d6f1bed61db659cd1c7bb2214d2f1"), looks := false }, kinds := [], alts := [], laidByText := true, laidKinds := [.data, .data], laidTests := true, laidLooks := .later }
def FnFirmsUptoCardSaid : Prop := Claim7.holds Tryd.pinned (.plain (OpenSpec.upto fnFirmsSpec)) fnFirmsUptoCard
end Rows
end Go.Proofs.YtfhkbjheleojmaaDoor
