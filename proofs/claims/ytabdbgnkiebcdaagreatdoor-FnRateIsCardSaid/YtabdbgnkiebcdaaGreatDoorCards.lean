/-
  DERIVED. GIVEN WITH THE SEED: THE CARDS: each row of YtabdbgnkiebcdaaGreatDoorRows.lean that lists a variable, with what it lists TIED to the program's text (the seventh form; the later family's looks); each row that meets fmt, with fmt's text TOLD by the authors' own Lean function (tested against real Go, not proved from fmt's source: count such statements apart). THE CARD IS WHAT COUNTS. Prove the row's statement (the work); the ties are given (YtabdbgnkiebcdaaGreatDoorTie.lean); close each card by the builder's one call (the guide's Derived/Test/ToyasCard.lean, 'card_holds'). Laid BY PROGRAM, IN A SANDBOX (cutbox-door.mjs). By AI agents, Wed Nov 11 2026. No macro, syntax, notation, axiom, sorry.
-/
import Derived.Test.YtabdbgnkiebcdaaGreatDoorRows
import GoSem.ClaimSeven
namespace Go.Proofs.YtabdbgnkiebcdaaGreatDoor
namespace Rows

/-- THE TIED CARD OF 'laws.FnProofRate'. -/
def fnProofRateCard : Claim7 := { stood := { row := fnProofRateRow, standIns := [], harness := (true, "53a2f0d289b262d55220129033f792c1f0148695ef294cd0e54c372b1a331716"), looks := true }, kinds := [], alts := [], laidByText := true, laidKinds := [.data, .data, .data, .data, .sentinel, .sentinel, .pinned], laidTests := true, laidLooks := .later }
def FnProofRateCardSaid : Prop := Claim7.holds Tryz.pinned (.plain (OpenSpec.ofChange fnProofRateSpec)) fnProofRateCard

/-- THE TIED CARD OF 'laws.FnRateIs'. -/
def fnRateIsCard : Claim7 := { stood := { row := fnRateIsRow, standIns := [], harness := (true, "53a2f0d289b262d55220129033f792c1f0148695ef294cd0e54c372b1a331716"), looks := true }, kinds := [], alts := [], laidByText := true, laidKinds := [.data, .data, .data, .data, .sentinel, .sentinel, .pinned], laidTests := true, laidLooks := .later }
def FnRateIsCardSaid : Prop := Claim7.holds Tryz.pinned (.plain (OpenSpec.ofChange fnRateIsSpec)) fnRateIsCard

/-- THE TIED CARD OF 'laws.FnProofBlock'. -/
def fnProofBlockCard : Claim7 := { stood := { row := fnProofBlockRow, standIns := [], harness := (true, "53a2f0d289b262d55220129033f792c1f0148695ef294cd0e54c372b1a331716"), looks := true }, kinds := [], alts := [], laidByText := true, laidKinds := [.data, .data, .data, .data, .sentinel, .sentinel, .pinned], laidTests := true, laidLooks := .later }
def FnProofBlockCardSaid : Prop := Claim7.holds Tryz.pinned (.plain (OpenSpec.ofChange fnProofBlockSpec)) fnProofBlockCard

/-- THE TIED CARD OF 'laws.FnBlockIs'. -/
def fnBlockIsCard : Claim7 := { stood := { row := fnBlockIsRow, standIns := [], harness := (true, "53a2f0d289b262d55220129033f792c1f0148695ef294cd0e54c372b1a331716"), looks := true }, kinds := [], alts := [], laidByText := true, laidKinds := [.data, .data, .data, .data, .sentinel, .sentinel, .pinned], laidTests := true, laidLooks := .later }
def FnBlockIsCardSaid : Prop := Claim7.holds Tryz.pinned (.plain (OpenSpec.ofChange fnBlockIsSpec)) fnBlockIsCard

/-- THE SECOND FORM's CARD OF 'laws.FnProofRate'. -/
def fnProofRateUptoCard : Claim7 := { stood := { row := fnProofRateUptoRow, standIns := [], harness := (true, "53a2f0d289b262d55220129033f792c1f0148695ef294cd0e54c372b1a331716"), looks := true }, kinds := [], alts := [], laidByText := true, laidKinds := [.data, .data, .data, .data, .sentinel, .sentinel, .pinned], laidTests := true, laidLooks := .later }
def FnProofRateUptoCardSaid : Prop := Claim7.holds Tryz.pinned (.plain (OpenSpec.upto fnProofRateSpec)) fnProofRateUptoCard

/-- THE SECOND FORM's CARD OF 'laws.FnRateIs'. -/
def fnRateIsUptoCard : Claim7 := { stood := { row := fnRateIsUptoRow, standIns := [], harness := (true, "53a2f0d289b262d55220129033f792c1f0148695ef294cd0e54c372b1a331716"), looks := true }, kinds := [], alts := [], laidByText := true, laidKinds := [.data, .data, .data, .data, .sentinel, .sentinel, .pinned], laidTests := true, laidLooks := .later }
def FnRateIsUptoCardSaid : Prop := Claim7.holds Tryz.pinned (.plain (OpenSpec.upto fnRateIsSpec)) fnRateIsUptoCard

/-- THE SECOND FORM's CARD OF 'laws.FnProofBlock'. -/
def fnProofBlockUptoCard : Claim7 := { stood := { row := fnProofBlockUptoRow, standIns := [], harness := (true, "53a2f0d289b262d55220129033f792c1f0148695ef294cd0e54c372b1a331716"), looks := true }, kinds := [], alts := [], laidByText := true, laidKinds := [.data, .data, .data, .data, .sentinel, .sentinel, .pinned], laidTests := true, laidLooks := .later }
def FnProofBlockUptoCardSaid : Prop := Claim7.holds Tryz.pinned (.plain (OpenSpec.upto fnProofBlockSpec)) fnProofBlockUptoCard

/-- THE SECOND FORM's CARD OF 'laws.FnBlockIs'. -/
def fnBlockIsUptoCard : Claim7 := { stood := { row := fnBlockIsUptoRow, standIns := [], harness := (true, "53a2f0d289b262d55220129033f792c1f0148695ef294cd0e54c372b1a331716"), looks := true }, kinds := [], alts := [], laidByText := true, laidKinds := [.data, .data, .data, .data, .sentinel, .sentinel, .pinned], laidTests := true, laidLooks := .later }
def FnBlockIsUptoCardSaid : Prop := Claim7.holds Tryz.pinned (.plain (OpenSpec.upto fnBlockIsSpec)) fnBlockIsUptoCard
end Rows
end Go.Proofs.YtabdbgnkiebcdaaGreatDoor
