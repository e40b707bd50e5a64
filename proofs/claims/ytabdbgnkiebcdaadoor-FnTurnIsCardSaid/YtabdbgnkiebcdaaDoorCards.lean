/-
  DERIVED. GIVEN WITH THE SEED: THE CARDS: each row of YtabdbgnkiebcdaaDoorRows.lean that lists a variable, with what it lists TIED to the program's text (the seventh form; the later family's looks); each row that meets fmt, with fmt's text TOLD by the authors' own Lean function (tested against real Go, not proved from fmt's source: count such statements apart). THE CARD IS WHAT COUNTS. Prove the row's statement (the work); the ties are given (YtabdbgnkiebcdaaDoorTie.lean); close each card by the builder's one call (the guide's Derived/Test/ToyasCard.lean, 'card_holds'). Laid BY PROGRAM, IN A SANDBOX (cutbox-door.mjs). By AI agents, Wed Nov 11 2026. No macro, syntax, notation, axiom, sorry.
-/
import Derived.Test.YtabdbgnkiebcdaaDoorRows
import GoSem.ClaimSeven
namespace Go.Proofs.YtabdbgnkiebcdaaDoor
namespace Rows

/-- THE TIED CARD OF 'laws.FnExactProofRate'. -/
def fnExactProofRateCard : Claim7 := { stood := { row := fnExactProofRateRow, standIns := [], harness := (true, "03e6a88ed6eec06299a45d48d04300c9f9c900e84d89edff3568230466817528"), looks := true }, kinds := [], alts := [], laidByText := true, laidKinds := [.data, .data, .data], laidTests := true, laidLooks := .later }
def FnExactProofRateCardSaid : Prop := Claim7.holds Tryd.pinned (.plain (OpenSpec.ofChange fnExactProofRateSpec)) fnExactProofRateCard

/-- THE TIED CARD OF 'laws.FnExactProofRateIs'. -/
def fnExactProofRateIsCard : Claim7 := { stood := { row := fnExactProofRateIsRow, standIns := [], harness := (true, "03e6a88ed6eec06299a45d48d04300c9f9c900e84d89edff3568230466817528"), looks := true }, kinds := [], alts := [], laidByText := true, laidKinds := [.data, .data, .data, .data, .sentinel, .sentinel, .pinned], laidTests := true, laidLooks := .later }
def FnExactProofRateIsCardSaid : Prop := Claim7.holds Tryd.pinned (.plain (OpenSpec.ofChange fnExactProofRateIsSpec)) fnExactProofRateIsCard

/-- THE TIED CARD OF 'laws.FnExactProofBlock'. -/
def fnExactProofBlockCard : Claim7 := { stood := { row := fnExactProofBlockRow, standIns := [], harness := (true, "03e6a88ed6eec06299a45d48d04300c9f9c900e84d89edff3568230466817528"), looks := true }, kinds := [], alts := [], laidByText := true, laidKinds := [.data, .data, .data], laidTests := true, laidLooks := .later }
def FnExactProofBlockCardSaid : Prop := Claim7.holds Tryd.pinned (.plain (OpenSpec.ofChange fnExactProofBlockSpec)) fnExactProofBlockCard

/-- THE TIED CARD OF 'laws.FnExactProofBlockIs'. -/
def fnExactProofBlockIsCard : Claim7 := { stood := { row := fnExactProofBlockIsRow, standIns := [], harness := (true, "03e6a88ed6eec06299a45d48d04300c9f9c900e84d89edff3568230466817528"), looks := true }, kinds := [], alts := [], laidByText := true, laidKinds := [.data, .data, .data, .data, .sentinel, .sentinel, .pinned], laidTests := true, laidLooks := .later }
def FnExactProofBlockIsCardSaid : Prop := Claim7.holds Tryd.pinned (.plain (OpenSpec.ofChange fnExactProofBlockIsSpec)) fnExactProofBlockIsCard

/-- THE TIED CARD OF 'laws.FnExactProofTurnIs'. -/
def fnExactProofTurnIsCard : Claim7 := { stood := { row := fnExactProofTurnIsRow, standIns := [], harness := (true, "03e6a88ed6eec06299a45d48d04300c9f9c900e84d89edff3568230466817528"), looks := true }, kinds := [], alts := [], laidByText := true, laidKinds := [.data, .data, .data, .data, .sentinel, .sentinel, .pinned], laidTests := true, laidLooks := .later }
def FnExactProofTurnIsCardSaid : Prop := Claim7.holds Tryd.pinned (.plain (OpenSpec.ofChange fnExactProofTurnIsSpec)) fnExactProofTurnIsCard

/-- THE TIED CARD OF 'laws.FnProofAll'. -/
def fnProofAllCard : Claim7 := { stood := { row := fnProofAllRow, standIns := [], harness := (true, "03e6a88ed6eec06299a45d48d04300c9f9c900e84d89edff3568230466817528"), looks := true }, kinds := [], alts := [], laidByText := true, laidKinds := [.data, .data, .data], laidTests := true, laidLooks := .later }
def FnProofAllCardSaid : Prop := Claim7.holds Tryd.pinned (.plain (OpenSpec.ofChange fnProofAllSpec)) fnProofAllCard

/-- THE TIED CARD OF 'laws.FnBlockOr'. -/
def fnBlockOrCard : Claim7 := { stood := { row := fnBlockOrRow, standIns := [], harness := (true, "03e6a88ed6eec06299a45d48d04300c9f9c900e84d89edff3568230466817528"), looks := true }, kinds := [], alts := [], laidByText := true, laidKinds := [.data, .data, .data], laidTests := true, laidLooks := .later }
def FnBlockOrCardSaid : Prop := Claim7.holds Tryd.pinned (.plain (OpenSpec.ofChange fnBlockOrSpec)) fnBlockOrCard

/-- THE TIED CARD OF 'laws.FnTurnIs'. -/
def fnTurnIsCard : Claim7 := { stood := { row := fnTurnIsRow, standIns := [], harness := (true, "03e6a88ed6eec06299a45d48d04300c9f9c900e84d89edff3568230466817528"), looks := true }, kinds := [], alts := [], laidByText := true, laidKinds := [.data, .data, .data, .data, .sentinel, .sentinel, .pinned], laidTests := true, laidLooks := .later }
def FnTurnIsCardSaid : Prop := Claim7.holds Tryd.pinned (.plain (OpenSpec.ofChange fnTurnIsSpec)) fnTurnIsCard

/-- THE SECOND FORM's CARD OF 'laws.FnExactProofRate'. -/
def fnExactProofRateUptoCard : Claim7 := { stood := { row := fnExactProofRateUptoRow, standIns := [], harness := (true, "03e6a88ed6eec06299a45d48d04300c9f9c900e84d89edff3568230466817528"), looks := true }, kinds := [], alts := [], laidByText := true, laidKinds := [.data, .data, .data], laidTests := true, laidLooks := .later }
def FnExactProofRateUptoCardSaid : Prop := Claim7.holds Tryd.pinned (.plain (OpenSpec.upto fnExactProofRateSpec)) fnExactProofRateUptoCard

/-- THE SECOND FORM's CARD OF 'laws.FnExactProofRateIs'. -/
def fnExactProofRateIsUptoCard : Claim7 := { stood := { row := fnExactProofRateIsUptoRow, standIns := [], harness := (true, "03e6a88ed6eec06299a45d48d04300c9f9c900e84d89edff3568230466817528"), looks := true }, kinds := [], alts := [], laidByText := true, laidKinds := [.data, .data, .data, .data, .sentinel, .sentinel, .pinned], laidTests := true, laidLooks := .later }
def FnExactProofRateIsUptoCardSaid : Prop := Claim7.holds Tryd.pinned (.plain (OpenSpec.upto fnExactProofRateIsSpec)) fnExactProofRateIsUptoCard

/-- THE SECOND FORM's CARD OF 'laws.FnExactProofBlock'. -/
def fnExactProofBlockUptoCard : Claim7 := { stood := { row := fnExactProofBlockUptoRow, standIns := [], harness := (true, "03e6a88ed6eec06299a45d48d04300c9f9c900e84d89edff3568230466817528"), looks := true }, kinds := [], alts := [], laidByText := true, laidKinds := [.data, .data, .data], laidTests := true, laidLooks := .later }
def FnExactProofBlockUptoCardSaid : Prop := Claim7.holds Tryd.pinned (.plain (OpenSpec.upto fnExactProofBlockSpec)) fnExactProofBlockUptoCard

/-- THE SECOND FORM's CARD OF 'laws.FnExactProofBlockIs'. -/
def fnExactProofBlockIsUptoCard : Claim7 := { stood := { row := fnExactProofBlockIsUptoRow, standIns := [], harness := (true, "03e6a88ed6eec06299a45d48d04300c9f9c900e84d89edff3568230466817528"), looks := true }, kinds := [], alts := [], laidByText := true, laidKinds := [.data, .data, .data, .data, .sentinel, .sentinel, .pinned], laidTests := true, laidLooks := .later }
def FnExactProofBlockIsUptoCardSaid : Prop := Claim7.holds Tryd.pinned (.plain (OpenSpec.upto fnExactProofBlockIsSpec)) fnExactProofBlockIsUptoCard

/-- THE SECOND FORM's CARD OF 'laws.FnExactProofTurnIs'. -/
def fnExactProofTurnIsUptoCard : Claim7 := { stood := { row := fnExactProofTurnIsUptoRow, standIns := [], harness := (true, "03e6a88ed6eec06299a45d48d04300c9f9c900e84d89edff3568230466817528"), looks := true }, kinds := [], alts := [], laidByText := true, laidKinds := [.data, .data, .data, .data, .sentinel, .sentinel, .pinned], laidTests := true, laidLooks := .later }
def FnExactProofTurnIsUptoCardSaid : Prop := Claim7.holds Tryd.pinned (.plain (OpenSpec.upto fnExactProofTurnIsSpec)) fnExactProofTurnIsUptoCard

/-- THE SECOND FORM's CARD OF 'laws.FnProofAll'. -/
def fnProofAllUptoCard : Claim7 := { stood := { row := fnProofAllUptoRow, standIns := [], harness := (true, "03e6a88ed6eec06299a45d48d04300c9f9c900e84d89edff3568230466817528"), looks := true }, kinds := [], alts := [], laidByText := true, laidKinds := [.data, .data, .data], laidTests := true, laidLooks := .later }
def FnProofAllUptoCardSaid : Prop := Claim7.holds Tryd.pinned (.plain (OpenSpec.upto fnProofAllSpec)) fnProofAllUptoCard

/-- THE SECOND FORM's CARD OF 'laws.FnBlockOr'. -/
def fnBlockOrUptoCard : Claim7 := { stood := { row := fnBlockOrUptoRow, standIns := [], harness := (true, "03e6a88ed6eec06299a45d48d04300c9f9c900e84d89edff3568230466817528"), looks := true }, kinds := [], alts := [], laidByText := true, laidKinds := [.data, .data, .data], laidTests := true, laidLooks := .later }
def FnBlockOrUptoCardSaid : Prop := Claim7.holds Tryd.pinned (.plain (OpenSpec.upto fnBlockOrSpec)) fnBlockOrUptoCard

/-- THE SECOND FORM's CARD OF 'laws.FnTurnIs'. -/
def fnTurnIsUptoCard : Claim7 := { stood := { row := fnTurnIsUptoRow, standIns := [], harness := (true, "03e6a88ed6eec06299a45d48d04300c9f9c900e84d89edff3568230466817528"), looks := true }, kinds := [], alts := [], laidByText := true, laidKinds := [.data, .data, .data, .data, .sentinel, .sentinel, .pinned], laidTests := true, laidLooks := .later }
def FnTurnIsUptoCardSaid : Prop := Claim7.holds Tryd.pinned (.plain (OpenSpec.upto fnTurnIsSpec)) fnTurnIsUptoCard
end Rows
end Go.Proofs.YtabdbgnkiebcdaaDoor
