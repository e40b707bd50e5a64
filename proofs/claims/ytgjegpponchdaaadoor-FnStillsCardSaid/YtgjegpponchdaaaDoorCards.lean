/-
  DERIVED. GIVEN WITH THE SEED: THE CARDS: each row of YtgjegpponchdaaaDoorRows.lean that lists a variable, with what it lists TIED to the program's text (the seventh form; the later family's looks); each row that meets fmt, with fmt's text TOLD by the authors' own Lean function (tested against real Go, not proved from fmt's source: count such statements apart). THE CARD IS WHAT COUNTS. Prove the row's statement (the work); the ties are given (YtgjegpponchdaaaDoorTie.lean); close each card by the builder's one call (the guide's Derived/Test/ToyasCard.lean, 'card_holds'). Laid BY PROGRAM, IN A SANDBOX (cutbox-door.mjs). By AI agents, Wed Nov 11 2026. No macro, syntax, notation, axiom, sorry.
-/
import Derived.Test.YtgjegpponchdaaaDoorRows
import GoSem.ClaimSeven
namespace Go.Proofs.YtgjegpponchdaaaDoor
namespace Rows

/-- THE TIED CARD OF 'laws.FnExactTurnGood'. -/
def fnExactTurnGoodCard : Claim7 := { stood := { row := fnExactTurnGoodRow, standIns := [], harness := (true, "4765b03e09c26817f28e7196f0ad6e56aa8d1527d5a96590c7084f95d7222e9a"), looks := false }, kinds := [], alts := [], laidByText := true, laidKinds := [.data, .data], laidTests := true, laidLooks := .later }
def FnExactTurnGoodCardSaid : Prop := Claim7.holds Tryd.pinned (.plain (OpenSpec.ofChange fnExactTurnGoodSpec)) fnExactTurnGoodCard

/-- THE TIED CARD OF 'laws.FnExactTurnGoods'. -/
def fnExactTurnGoodsCard : Claim7 := { stood := { row := fnExactTurnGoodsRow, standIns := [], harness := (true, "4765b03e09c26817f28e7196f0ad6e56aa8d1527d5a96590c7084f95d7222e9a"), looks := false }, kinds := [], alts := [], laidByText := true, laidKinds := [.data, .data], laidTests := true, laidLooks := .later }
def FnExactTurnGoodsCardSaid : Prop := Claim7.holds Tryd.pinned (.plain (OpenSpec.ofChange fnExactTurnGoodsSpec)) fnExactTurnGoodsCard

/-- THE TIED CARD OF 'laws.FnGoods'. -/
def fnGoodsCard : Claim7 := { stood := { row := fnGoodsRow, standIns := [], harness := (true, "4765b03e09c26817f28e7196f0ad6e56aa8d1527d5a96590c7084f95d7222e9a"), looks := false }, kinds := [], alts := [], laidByText := true, laidKinds := [.data, .data], laidTests := true, laidLooks := .later }
def FnGoodsCardSaid : Prop := Claim7.holds Tryd.pinned (.plain (OpenSpec.ofChange fnGoodsSpec)) fnGoodsCard

/-- THE TIED CARD OF 'laws.FnStills'. -/
def fnStillsCard : Claim7 := { stood := { row := fnStillsRow, standIns := [], harness := (true, "4765b03e09c26817f28e7196f0ad6e56aa8d1527d5a96590c7084f95d7222e9a"), looks := false }, kinds := [], alts := [], laidByText := true, laidKinds := [.data, .data], laidTests := true, laidLooks := .later }
def FnStillsCardSaid : Prop := Claim7.holds Tryd.pinned (.plain (OpenSpec.ofChange fnStillsSpec)) fnStillsCard

/-- THE TIED CARD OF 'laws.FnExactHouseFirms'. -/
def fnExactHouseFirmsCard : Claim7 := { stood := { row := fnExactHouseFirmsRow, standIns := [], harness := (true, "4765b03e09c26817f28e7196f0ad6e56aa8d1527d5a96590c7084f95d7222e9a"), looks := false }, kinds := [], alts := [], laidByText := true, laidKinds := [.data, .data], laidTests := true, laidLooks := .later }
def FnExactHouseFirmsCardSaid : Prop := Claim7.holds Tryd.pinned (.plain (OpenSpec.ofChange fnExactHouseFirmsSpec)) fnExactHouseFirmsCard

/-- THE TIED CARD OF 'laws.FnFirms'. -/
def fnFirmsCard : Claim7 := { stood := { row := fnFirmsRow, standIns := [], harness := (true, "4765b03e09c26817f28e7196f0ad6e56aa8d1527d5a96590c7084f95d7222e9a"), looks := false }, kinds := [], alts := [], laidByText := true, laidKinds := [.data, .data], laidTests := true, laidLooks := .later }
def FnFirmsCardSaid : Prop := Claim7.holds Tryd.pinned (.plain (OpenSpec.ofChange fnFirmsSpec)) fnFirmsCard

/-- THE SECOND FORM's CARD OF 'laws.FnExactTurnGood'. -/
def fnExactTurnGoodUptoCard : Claim7 := { stood := { row := fnExactTurnGoodUptoRow, standIns := [], harness := (true, "4765b03e09c26817f28e7196f0ad6e56aa8d1527d5a96590c7084f95d7222e9a"), looks := false }, kinds := [], alts := [], laidByText := true, laidKinds := [.data, .data], laidTests := true, laidLooks := .later }
def FnExactTurnGoodUptoCardSaid : Prop := Claim7.holds Tryd.pinned (.plain (OpenSpec.upto fnExactTurnGoodSpec)) fnExactTurnGoodUptoCard

/-- THE SECOND FORM's CARD OF 'laws.FnExactTurnGoods'. -/
def fnExactTurnGoodsUptoCard : Claim7 := { stood := { row := fnExactTurnGoodsUptoRow, standIns := [], harness := (true, "4765b03e09c26817f28e7196f0ad6e56aa8d1527d5a96590c7084f95d7222e9a"), looks := false }, kinds := [], alts := [], laidByText := true, laidKinds := [.data, .data], laidTests := true, laidLooks := .later }
def FnExactTurnGoodsUptoCardSaid : Prop := Claim7.holds Tryd.pinned (.plain (OpenSpec.upto fnExactTurnGoodsSpec)) fnExactTurnGoodsUptoCard

/-- THE SECOND FORM's CARD OF 'laws.FnGoods'. -/
def fnGoodsUptoCard : Claim7 := { stood := { row := fnGoodsUptoRow, standIns := [], harness := (true, "4765b03e09c26817f28e7196f0ad6e56aa8d1527d5a96590c7084f95d7222e9a"), looks := false }, kinds := [], alts := [], laidByText := true, laidKinds := [.data, .data], laidTests := true, laidLooks := .later }
def FnGoodsUptoCardSaid : Prop := Claim7.holds Tryd.pinned (.plain (OpenSpec.upto fnGoodsSpec)) fnGoodsUptoCard

/-- THE SECOND FORM's CARD OF 'laws.FnStills'. -/
def fnStillsUptoCard : Claim7 := { stood := { row := fnStillsUptoRow, standIns := [], harness := (true, "4765b03e09c26817f28e7196f0ad6e56aa8d1527d5a96590c7084f95d7222e9a"), looks := false }, kinds := [], alts := [], laidByText := true, laidKinds := [.data, .data], laidTests := true, laidLooks := .later }
def FnStillsUptoCardSaid : Prop := Claim7.holds Tryd.pinned (.plain (OpenSpec.upto fnStillsSpec)) fnStillsUptoCard

/-- THE SECOND FORM's CARD OF 'laws.FnExactHouseFirms'. -/
def fnExactHouseFirmsUptoCard : Claim7 := { stood := { row := fnExactHouseFirmsUptoRow, standIns := [], harness := (true, "4765b03e09c26817f28e7196f0ad6e56aa8d1527d5a96590c7084f95d7222e9a"), looks := false }, kinds := [], alts := [], laidByText := true, laidKinds := [.data, .data], laidTests := true, laidLooks := .later }
def FnExactHouseFirmsUptoCardSaid : Prop := Claim7.holds Tryd.pinned (.plain (OpenSpec.upto fnExactHouseFirmsSpec)) fnExactHouseFirmsUptoCard

/-- THE SECOND FORM's CARD OF 'laws.FnFirms'. -/
def fnFirmsUptoCard : Claim7 := { stood := { row := fnFirmsUptoRow, standIns := [], harness := (true, "4765b03e09c26817f28e7196f0ad6e56aa8d1527d5a96590c7084f95d7222e9a"), looks := false }, kinds := [], alts := [], laidByText := true, laidKinds := [.data, .data], laidTests := true, laidLooks := .later }
def FnFirmsUptoCardSaid : Prop := Claim7.holds Tryd.pinned (.plain (OpenSpec.upto fnFirmsSpec)) fnFirmsUptoCard
end Rows
end Go.Proofs.YtgjegpponchdaaaDoor
