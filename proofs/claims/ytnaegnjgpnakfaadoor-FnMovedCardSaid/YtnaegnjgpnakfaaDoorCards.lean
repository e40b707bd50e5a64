/-
  DERIVED. GIVEN WITH THE SEED: THE CARDS: each row of YtnaegnjgpnakfaaDoorRows.lean that lists a variable, with what it lists TIED to the program's text (the seventh form; the later family's looks); each row that meets fmt, with fmt's text TOLD by the authors' own Lean function (tested against real Go, not proved from fmt's source: count such statements apart). THE CARD IS WHAT COUNTS. Prove the row's statement (the work); the ties are given (YtnaegnjgpnakfaaDoorTie.lean); close each card by the builder's one call (the guide's Derived/Test/ToyasCard.lean, 'card_holds'). Laid BY PROGRAM, IN A SANDBOX (cutbox-door.mjs). By AI agents, Wed Nov 11 2026. No macro, syntax, notation, axiom, sorry.
-/
import Derived.Test.YtnaegnjgpnakfaaDoorRows
import GoSem.ClaimSeven
namespace Go.Proofs.YtnaegnjgpnakfaaDoor
namespace Rows

/-- THE TIED CARD OF 'laws.FnExactTermIn'. -/
def fnExactTermInCard : Claim7 := { stood := { row := fnExactTermInRow, standIns := [], harness := (true, "69c082bc5df931f422a7d366347146acc1b0add39a1a52ad466226c8bca1dda6"), looks := true }, kinds := [], alts := [], laidByText := true, laidKinds := [.handle], laidTests := true, laidLooks := .later }
def FnExactTermInCardSaid : Prop := Claim7.holds Tryd.pinned (.plain (OpenSpec.ofChange fnExactTermInSpec)) fnExactTermInCard

/-- THE TIED CARD OF 'laws.FnExactTermGives'. -/
def fnExactTermGivesCard : Claim7 := { stood := { row := fnExactTermGivesRow, standIns := [], harness := (true, "69c082bc5df931f422a7d366347146acc1b0add39a1a52ad466226c8bca1dda6"), looks := true }, kinds := [], alts := [], laidByText := true, laidKinds := [.handle], laidTests := true, laidLooks := .later }
def FnExactTermGivesCardSaid : Prop := Claim7.holds Tryd.pinned (.plain (OpenSpec.ofChange fnExactTermGivesSpec)) fnExactTermGivesCard

/-- THE TIED CARD OF 'laws.FnExactTermTidy'. -/
def fnExactTermTidyCard : Claim7 := { stood := { row := fnExactTermTidyRow, standIns := [], harness := (true, "69c082bc5df931f422a7d366347146acc1b0add39a1a52ad466226c8bca1dda6"), looks := true }, kinds := [], alts := [], laidByText := true, laidKinds := [.handle], laidTests := true, laidLooks := .later }
def FnExactTermTidyCardSaid : Prop := Claim7.holds Tryd.pinned (.plain (OpenSpec.ofChange fnExactTermTidySpec)) fnExactTermTidyCard

/-- THE TIED CARD OF 'laws.FnExactTermSame'. -/
def fnExactTermSameCard : Claim7 := { stood := { row := fnExactTermSameRow, standIns := [], harness := (true, "69c082bc5df931f422a7d366347146acc1b0add39a1a52ad466226c8bca1dda6"), looks := true }, kinds := [], alts := [], laidByText := true, laidKinds := [.handle], laidTests := true, laidLooks := .later }
def FnExactTermSameCardSaid : Prop := Claim7.holds Tryd.pinned (.plain (OpenSpec.ofChange fnExactTermSameSpec)) fnExactTermSameCard

/-- THE TIED CARD OF 'laws.FnExactTermTimes'. -/
def fnExactTermTimesCard : Claim7 := { stood := { row := fnExactTermTimesRow, standIns := [], harness := (true, "69c082bc5df931f422a7d366347146acc1b0add39a1a52ad466226c8bca1dda6"), looks := true }, kinds := [], alts := [], laidByText := true, laidKinds := [.handle], laidTests := true, laidLooks := .later }
def FnExactTermTimesCardSaid : Prop := Claim7.holds Tryd.pinned (.plain (OpenSpec.ofChange fnExactTermTimesSpec)) fnExactTermTimesCard

/-- THE TIED CARD OF 'laws.FnExactTermMoved'. -/
def fnExactTermMovedCard : Claim7 := { stood := { row := fnExactTermMovedRow, standIns := [], harness := (true, "69c082bc5df931f422a7d366347146acc1b0add39a1a52ad466226c8bca1dda6"), looks := true }, kinds := [], alts := [], laidByText := true, laidKinds := [.handle], laidTests := true, laidLooks := .later }
def FnExactTermMovedCardSaid : Prop := Claim7.holds Tryd.pinned (.plain (OpenSpec.ofChange fnExactTermMovedSpec)) fnExactTermMovedCard

/-- THE TIED CARD OF 'laws.FnTerm'. -/
def fnTermCard : Claim7 := { stood := { row := fnTermRow, standIns := [], harness := (true, "69c082bc5df931f422a7d366347146acc1b0add39a1a52ad466226c8bca1dda6"), looks := true }, kinds := [], alts := [], laidByText := true, laidKinds := [.handle], laidTests := true, laidLooks := .later }
def FnTermCardSaid : Prop := Claim7.holds Tryd.pinned (.plain (OpenSpec.ofChange fnTermSpec)) fnTermCard

/-- THE TIED CARD OF 'laws.FnGives'. -/
def fnGivesCard : Claim7 := { stood := { row := fnGivesRow, standIns := [], harness := (true, "69c082bc5df931f422a7d366347146acc1b0add39a1a52ad466226c8bca1dda6"), looks := true }, kinds := [], alts := [], laidByText := true, laidKinds := [.handle], laidTests := true, laidLooks := .later }
def FnGivesCardSaid : Prop := Claim7.holds Tryd.pinned (.plain (OpenSpec.ofChange fnGivesSpec)) fnGivesCard

/-- THE TIED CARD OF 'laws.FnPower'. -/
def fnPowerCard : Claim7 := { stood := { row := fnPowerRow, standIns := [], harness := (true, "69c082bc5df931f422a7d366347146acc1b0add39a1a52ad466226c8bca1dda6"), looks := true }, kinds := [], alts := [], laidByText := true, laidKinds := [.handle], laidTests := true, laidLooks := .later }
def FnPowerCardSaid : Prop := Claim7.holds Tryd.pinned (.plain (OpenSpec.ofChange fnPowerSpec)) fnPowerCard

/-- THE TIED CARD OF 'laws.FnTermOf'. -/
def fnTermOfCard : Claim7 := { stood := { row := fnTermOfRow, standIns := [], harness := (true, "69c082bc5df931f422a7d366347146acc1b0add39a1a52ad466226c8bca1dda6"), looks := true }, kinds := [], alts := [], laidByText := true, laidKinds := [.handle], laidTests := true, laidLooks := .later }
def FnTermOfCardSaid : Prop := Claim7.holds Tryd.pinned (.plain (OpenSpec.ofChange fnTermOfSpec)) fnTermOfCard

/-- THE TIED CARD OF 'laws.FnMoved'. -/
def fnMovedCard : Claim7 := { stood := { row := fnMovedRow, standIns := [], harness := (true, "69c082bc5df931f422a7d366347146acc1b0add39a1a52ad466226c8bca1dda6"), looks := true }, kinds := [], alts := [], laidByText := true, laidKinds := [.handle], laidTests := true, laidLooks := .later }
def FnMovedCardSaid : Prop := Claim7.holds Tryd.pinned (.plain (OpenSpec.ofChange fnMovedSpec)) fnMovedCard

/-- THE SECOND FORM's CARD OF 'laws.FnExactTermIn'. -/
def fnExactTermInUptoCard : Claim7 := { stood := { row := fnExactTermInUptoRow, standIns := [], harness := (true, "69c082bc5df931f422a7d366347146acc1b0add39a1a52ad466226c8bca1dda6"), looks := true }, kinds := [], alts := [], laidByText := true, laidKinds := [.handle], laidTests := true, laidLooks := .later }
def FnExactTermInUptoCardSaid : Prop := Claim7.holds Tryd.pinned (.plain (OpenSpec.upto fnExactTermInSpec)) fnExactTermInUptoCard

/-- THE SECOND FORM's CARD OF 'laws.FnExactTermGives'. -/
def fnExactTermGivesUptoCard : Claim7 := { stood := { row := fnExactTermGivesUptoRow, standIns := [], harness := (true, "69c082bc5df931f422a7d366347146acc1b0add39a1a52ad466226c8bca1dda6"), looks := true }, kinds := [], alts := [], laidByText := true, laidKinds := [.handle], laidTests := true, laidLooks := .later }
def FnExactTermGivesUptoCardSaid : Prop := Claim7.holds Tryd.pinned (.plain (OpenSpec.upto fnExactTermGivesSpec)) fnExactTermGivesUptoCard

/-- THE SECOND FORM's CARD OF 'laws.FnExactTermTidy'. -/
def fnExactTermTidyUptoCard : Claim7 := { stood := { row := fnExactTermTidyUptoRow, standIns := [], harness := (true, "69c082bc5df931f422a7d366347146acc1b0add39a1a52ad466226c8bca1dda6"), looks := true }, kinds := [], alts := [], laidByText := true, laidKinds := [.handle], laidTests := true, laidLooks := .later }
def FnExactTermTidyUptoCardSaid : Prop := Claim7.holds Tryd.pinned (.plain (OpenSpec.upto fnExactTermTidySpec)) fnExactTermTidyUptoCard

/-- THE SECOND FORM's CARD OF 'laws.FnExactTermSame'. -/
def fnExactTermSameUptoCard : Claim7 := { stood := { row := fnExactTermSameUptoRow, standIns := [], harness := (true, "69c082bc5df931f422a7d366347146acc1b0add39a1a52ad466226c8bca1dda6"), looks := true }, kinds := [], alts := [], laidByText := true, laidKinds := [.handle], laidTests := true, laidLooks := .later }
def FnExactTermSameUptoCardSaid : Prop := Claim7.holds Tryd.pinned (.plain (OpenSpec.upto fnExactTermSameSpec)) fnExactTermSameUptoCard

/-- THE SECOND FORM's CARD OF 'laws.FnExactTermTimes'. -/
def fnExactTermTimesUptoCard : Claim7 := { stood := { row := fnExactTermTimesUptoRow, standIns := [], harness := (true, "69c082bc5df931f422a7d366347146acc1b0add39a1a52ad466226c8bca1dda6"), looks := true }, kinds := [], alts := [], laidByText := true, laidKinds := [.handle], laidTests := true, laidLooks := .later }
def FnExactTermTimesUptoCardSaid : Prop := Claim7.holds Tryd.pinned (.plain (OpenSpec.upto fnExactTermTimesSpec)) fnExactTermTimesUptoCard

/-- THE SECOND FORM's CARD OF 'laws.FnExactTermMoved'. -/
def fnExactTermMovedUptoCard : Claim7 := { stood := { row := fnExactTermMovedUptoRow, standIns := [], harness := (true, "69c082bc5df931f422a7d366347146acc1b0add39a1a52ad466226c8bca1dda6"), looks := true }, kinds := [], alts := [], laidByText := true, laidKinds := [.handle], laidTests := true, laidLooks := .later }
def FnExactTermMovedUptoCardSaid : Prop := Claim7.holds Tryd.pinned (.plain (OpenSpec.upto fnExactTermMovedSpec)) fnExactTermMovedUptoCard

/-- THE SECOND FORM's CARD OF 'laws.FnTerm'. -/
def fnTermUptoCard : Claim7 := { stood := { row := fnTermUptoRow, standIns := [], harness := (true, "69c082bc5df931f422a7d366347146acc1b0add39a1a52ad466226c8bca1dda6"), looks := true }, kinds := [], alts := [], laidByText := true, laidKinds := [.handle], laidTests := true, laidLooks := .later }
def FnTermUptoCardSaid : Prop := Claim7.holds Tryd.pinned (.plain (OpenSpec.upto fnTermSpec)) fnTermUptoCard

/-- THE SECOND FORM's CARD OF 'laws.FnGives'. -/
def fnGivesUptoCard : Claim7 := { stood := { row := fnGivesUptoRow, standIns := [], harness := (true, "69c082bc5df931f422a7d366347146acc1b0add39a1a52ad466226c8bca1dda6"), looks := true }, kinds := [], alts := [], laidByText := true, laidKinds := [.handle], laidTests := true, laidLooks := .later }
def FnGivesUptoCardSaid : Prop := Claim7.holds Tryd.pinned (.plain (OpenSpec.upto fnGivesSpec)) fnGivesUptoCard

/-- THE SECOND FORM's CARD OF 'laws.FnPower'. -/
def fnPowerUptoCard : Claim7 := { stood := { row := fnPowerUptoRow, standIns := [], harness := (true, "69c082bc5df931f422a7d366347146acc1b0add39a1a52ad466226c8bca1dda6"), looks := true }, kinds := [], alts := [], laidByText := true, laidKinds := [.handle], laidTests := true, laidLooks := .later }
def FnPowerUptoCardSaid : Prop := Claim7.holds Tryd.pinned (.plain (OpenSpec.upto fnPowerSpec)) fnPowerUptoCard

/-- THE SECOND FORM's CARD OF 'laws.FnTermOf'. -/
def fnTermOfUptoCard : Claim7 := { stood := { row := fnTermOfUptoRow, standIns := [], harness := (true, "69c082bc5df931f422a7d366347146acc1b0add39a1a52ad466226c8bca1dda6"), looks := true }, kinds := [], alts := [], laidByText := true, laidKinds := [.handle], laidTests := true, laidLooks := .later }
def FnTermOfUptoCardSaid : Prop := Claim7.holds Tryd.pinned (.plain (OpenSpec.upto fnTermOfSpec)) fnTermOfUptoCard

/-- THE SECOND FORM's CARD OF 'laws.FnMoved'. -/
def fnMovedUptoCard : Claim7 := { stood := { row := fnMovedUptoRow, standIns := [], harness := (true, "69c082bc5df931f422a7d366347146acc1b0add39a1a52ad466226c8bca1dda6"), looks := true }, kinds := [], alts := [], laidByText := true, laidKinds := [.handle], laidTests := true, laidLooks := .later }
def FnMovedUptoCardSaid : Prop := Claim7.holds Tryd.pinned (.plain (OpenSpec.upto fnMovedSpec)) fnMovedUptoCard
end Rows
end Go.Proofs.YtnaegnjgpnakfaaDoor
