/-
  No cell of these rows narrows 'for every input' (looked for: loops, veiled, ifaces, maps, wideKeys, modest, calm, conditions, laid).
  DERIVED. THE GIVEN ROWS OF THIS SEAT. 11 by the template 'for every input the law returns true; each argument reads behind the call as it read before'; 0 by the template 'total and deterministic' (their statements: YtbdbeeeffajbnaaTotals.lean).
  GIVEN WITH THE SEED: the statements are not yours to turn. If you find one false, say at which input.
  Laid BY PROGRAM, IN A SANDBOX (cutbox-rows.mjs): the forced cells as the released guide's own fill.sh prints them over the translation db5b97764351e27f… (all of the seat's roots in one cut). By AI agents, Wed Nov 11 2026. No macro, syntax, notation, axiom, sorry.
-/
import Derived.Test.YtbdbeeeffajbnaaChecked
import GoSem.Claim
import GoSem.ClaimJoined
import GoSem.ClaimMapViews
import Derived.JoinedTies
import Derived.KernelRfl
namespace Go.Proofs.Ytbdbeeeffajbnaa
/- THE CELL 'sum', in the pinned program and in every row, IS THE sha256 OF THE DUMP (.gsa) THAT YtbdbeeeffajbnaaProg.lean LOADS. Nothing in Lean hashes anything: it is a label: what it is worth is what the hold of that sum in a sandbox is worth. -/
noncomputable def Try.pinned : Pinned := { name := "ytbdbeeeffajbnaa", sum := "db5b97764351e27fc285ddcdb9c5a503377c81e5d45ddd269b6713a0e37d3718", checked := Try.checked }
namespace Rows
def none {H : Type} : Left H := { results := [], args := [] }

/-- 'laws.FnTable': WHATEVER THE INPUT: true; the input reads as it did. -/
def fnTableSpec : ChangeSpec := { name := "fnTable", fn := fun _ => fun
  | [d] => { results := [.lit (.bool true)], args := [d] }
  | _ => none }
def fnTableRow : OpenClaim := { program := "ytbdbeeeffajbnaa", sum := "db5b97764351e27fc285ddcdb9c5a503377c81e5d45ddd269b6713a0e37d3718", func := "loop.example/tradecircles/laws.FnTable", spec := "fnTable", apart := false }
def FnTableSaid : Prop := fnTableRow.holds Try.pinned (OpenSpec.ofChange fnTableSpec)

/-- ITS FALSE NEIGHBOUR: 'it returns false'. Refute it at one input. -/
def fnTableWrong : ChangeSpec := { name := "fnTable", fn := fun _ => fun
  | [d] => { results := [.lit (.bool false)], args := [d] }
  | _ => none }
def FnTableWrongFalsely : Prop := fnTableRow.holds Try.pinned (OpenSpec.ofChange fnTableWrong)

/-- 'laws.FnRateFirst': WHATEVER THE INPUT: true; the input reads as it did. -/
def fnRateFirstSpec : ChangeSpec := { name := "fnRateFirst", fn := fun _ => fun
  | [d] => { results := [.lit (.bool true)], args := [d] }
  | _ => none }
def fnRateFirstRow : OpenClaim := { program := "ytbdbeeeffajbnaa", sum := "db5b97764351e27fc285ddcdb9c5a503377c81e5d45ddd269b6713a0e37d3718", func := "loop.example/tradecircles/laws.FnRateFirst", spec := "fnRateFirst", unfollowed := true, recurses := true, apart := false }
def FnRateFirstSaid : Prop := fnRateFirstRow.holds Try.pinned (OpenSpec.ofChange fnRateFirstSpec)

/-- ITS FALSE NEIGHBOUR: 'it returns false'. Refute it at one input. -/
def fnRateFirstWrong : ChangeSpec := { name := "fnRateFirst", fn := fun _ => fun
  | [d] => { results := [.lit (.bool false)], args := [d] }
  | _ => none }
def FnRateFirstWrongFalsely : Prop := fnRateFirstRow.holds Try.pinned (OpenSpec.ofChange fnRateFirstWrong)

/-- 'laws.FnPrices': WHATEVER THE INPUT: true; the input reads as it did. -/
def fnPricesSpec : ChangeSpec := { name := "fnPrices", fn := fun _ => fun
  | [d] => { results := [.lit (.bool true)], args := [d] }
  | _ => none }
def fnPricesRow : OpenClaim := { program := "ytbdbeeeffajbnaa", sum := "db5b97764351e27fc285ddcdb9c5a503377c81e5d45ddd269b6713a0e37d3718", func := "loop.example/tradecircles/laws.FnPrices", spec := "fnPrices", apart := false }
def FnPricesSaid : Prop := fnPricesRow.holds Try.pinned (OpenSpec.ofChange fnPricesSpec)

/-- ITS FALSE NEIGHBOUR: 'it returns false'. Refute it at one input. -/
def fnPricesWrong : ChangeSpec := { name := "fnPrices", fn := fun _ => fun
  | [d] => { results := [.lit (.bool false)], args := [d] }
  | _ => none }
def FnPricesWrongFalsely : Prop := fnPricesRow.holds Try.pinned (OpenSpec.ofChange fnPricesWrong)

/-- 'laws.FnFits': WHATEVER THE INPUT: true; the input reads as it did. -/
def fnFitsSpec : ChangeSpec := { name := "fnFits", fn := fun _ => fun
  | [d] => { results := [.lit (.bool true)], args := [d] }
  | _ => none }
def fnFitsRow : OpenClaim := { program := "ytbdbeeeffajbnaa", sum := "db5b97764351e27fc285ddcdb9c5a503377c81e5d45ddd269b6713a0e37d3718", func := "loop.example/tradecircles/laws.FnFits", spec := "fnFits", recurses := true, apart := false }
def FnFitsSaid : Prop := fnFitsRow.holds Try.pinned (OpenSpec.ofChange fnFitsSpec)

/-- ITS FALSE NEIGHBOUR: 'it returns false'. Refute it at one input. -/
def fnFitsWrong : ChangeSpec := { name := "fnFits", fn := fun _ => fun
  | [d] => { results := [.lit (.bool false)], args := [d] }
  | _ => none }
def FnFitsWrongFalsely : Prop := fnFitsRow.holds Try.pinned (OpenSpec.ofChange fnFitsWrong)

/-- 'laws.FnPriceOf': WHATEVER THE INPUT: true; the input reads as it did. -/
def fnPriceOfSpec : ChangeSpec := { name := "fnPriceOf", fn := fun _ => fun
  | [d] => { results := [.lit (.bool true)], args := [d] }
  | _ => none }
def fnPriceOfRow : OpenClaim := { program := "ytbdbeeeffajbnaa", sum := "db5b97764351e27fc285ddcdb9c5a503377c81e5d45ddd269b6713a0e37d3718", func := "loop.example/tradecircles/laws.FnPriceOf", spec := "fnPriceOf", recurses := true, apart := false }
def FnPriceOfSaid : Prop := fnPriceOfRow.holds Try.pinned (OpenSpec.ofChange fnPriceOfSpec)

/-- ITS FALSE NEIGHBOUR: 'it returns false'. Refute it at one input. -/
def fnPriceOfWrong : ChangeSpec := { name := "fnPriceOf", fn := fun _ => fun
  | [d] => { results := [.lit (.bool false)], args := [d] }
  | _ => none }
def FnPriceOfWrongFalsely : Prop := fnPriceOfRow.holds Try.pinned (OpenSpec.ofChange fnPriceOfWrong)

/-- 'laws.FnPriceFair': WHATEVER THE INPUT: true; the input reads as it did. -/
def fnPriceFairSpec : ChangeSpec := { name := "fnPriceFair", fn := fun _ => fun
  | [d] => { results := [.lit (.bool true)], args := [d] }
  | _ => none }
def fnPriceFairRow : OpenClaim := { program := "ytbdbeeeffajbnaa", sum := "db5b97764351e27fc285ddcdb9c5a503377c81e5d45ddd269b6713a0e37d3718", func := "loop.example/tradecircles/laws.FnPriceFair", spec := "fnPriceFair", recurses := true, apart := false }
def FnPriceFairSaid : Prop := fnPriceFairRow.holds Try.pinned (OpenSpec.ofChange fnPriceFairSpec)

/-- ITS FALSE NEIGHBOUR: 'it returns false'. Refute it at one input. -/
def fnPriceFairWrong : ChangeSpec := { name := "fnPriceFair", fn := fun _ => fun
  | [d] => { results := [.lit (.bool false)], args := [d] }
  | _ => none }
def FnPriceFairWrongFalsely : Prop := fnPriceFairRow.holds Try.pinned (OpenSpec.ofChange fnPriceFairWrong)

/-- 'laws.FnPriceTable': WHATEVER THE INPUT: true; the input reads as it did. -/
def fnPriceTableSpec : ChangeSpec := { name := "fnPriceTable", fn := fun _ => fun
  | [d] => { results := [.lit (.bool true)], args := [d] }
  | _ => none }
def fnPriceTableRow : OpenClaim := { program := "ytbdbeeeffajbnaa", sum := "db5b97764351e27fc285ddcdb9c5a503377c81e5d45ddd269b6713a0e37d3718", func := "loop.example/tradecircles/laws.FnPriceTable", spec := "fnPriceTable", apart := false }
def FnPriceTableSaid : Prop := fnPriceTableRow.holds Try.pinned (OpenSpec.ofChange fnPriceTableSpec)

/-- ITS FALSE NEIGHBOUR: 'it returns false'. Refute it at one input. -/
def fnPriceTableWrong : ChangeSpec := { name := "fnPriceTable", fn := fun _ => fun
  | [d] => { results := [.lit (.bool false)], args := [d] }
  | _ => none }
def FnPriceTableWrongFalsely : Prop := fnPriceTableRow.holds Try.pinned (OpenSpec.ofChange fnPriceTableWrong)

/-- 'laws.FnSpread': WHATEVER THE INPUT: true; the input reads as it did. -/
def fnSpreadSpec : ChangeSpec := { name := "fnSpread", fn := fun _ => fun
  | [d] => { results := [.lit (.bool true)], args := [d] }
  | _ => none }
def fnSpreadRow : OpenClaim := { program := "ytbdbeeeffajbnaa", sum := "db5b97764351e27fc285ddcdb9c5a503377c81e5d45ddd269b6713a0e37d3718", func := "loop.example/tradecircles/laws.FnSpread", spec := "fnSpread", apart := false }
def FnSpreadSaid : Prop := fnSpreadRow.holds Try.pinned (OpenSpec.ofChange fnSpreadSpec)

/-- ITS FALSE NEIGHBOUR: 'it returns false'. Refute it at one input. -/
def fnSpreadWrong : ChangeSpec := { name := "fnSpread", fn := fun _ => fun
  | [d] => { results := [.lit (.bool false)], args := [d] }
  | _ => none }
def FnSpreadWrongFalsely : Prop := fnSpreadRow.holds Try.pinned (OpenSpec.ofChange fnSpreadWrong)

/-- 'laws.FnHoldsTwice': WHATEVER THE INPUT: true; the input reads as it did. -/
def fnHoldsTwiceSpec : ChangeSpec := { name := "fnHoldsTwice", fn := fun _ => fun
  | [d] => { results := [.lit (.bool true)], args := [d] }
  | _ => none }
def fnHoldsTwiceRow : OpenClaim := { program := "ytbdbeeeffajbnaa", sum := "db5b97764351e27fc285ddcdb9c5a503377c81e5d45ddd269b6713a0e37d3718", func := "loop.example/tradecircles/laws.FnHoldsTwice", spec := "fnHoldsTwice", recurses := true, apart := false }
def FnHoldsTwiceSaid : Prop := fnHoldsTwiceRow.holds Try.pinned (OpenSpec.ofChange fnHoldsTwiceSpec)

/-- ITS FALSE NEIGHBOUR: 'it returns false'. Refute it at one input. -/
def fnHoldsTwiceWrong : ChangeSpec := { name := "fnHoldsTwice", fn := fun _ => fun
  | [d] => { results := [.lit (.bool false)], args := [d] }
  | _ => none }
def FnHoldsTwiceWrongFalsely : Prop := fnHoldsTwiceRow.holds Try.pinned (OpenSpec.ofChange fnHoldsTwiceWrong)

/-- 'laws.FnExactRateRounds': WHATEVER THE INPUT: true; the input reads as it did. -/
def fnExactRateRoundsSpec : ChangeSpec := { name := "fnExactRateRounds", fn := fun _ => fun
  | [d] => { results := [.lit (.bool true)], args := [d] }
  | _ => none }
def fnExactRateRoundsRow : OpenClaim := { program := "ytbdbeeeffajbnaa", sum := "db5b97764351e27fc285ddcdb9c5a503377c81e5d45ddd269b6713a0e37d3718", func := "loop.example/tradecircles/laws.FnExactRateRounds", spec := "fnExactRateRounds", unfollowed := true, recurses := true, apart := false }
def FnExactRateRoundsSaid : Prop := fnExactRateRoundsRow.holds Try.pinned (OpenSpec.ofChange fnExactRateRoundsSpec)

/-- ITS FALSE NEIGHBOUR: 'it returns false'. Refute it at one input. -/
def fnExactRateRoundsWrong : ChangeSpec := { name := "fnExactRateRounds", fn := fun _ => fun
  | [d] => { results := [.lit (.bool false)], args := [d] }
  | _ => none }
def FnExactRateRoundsWrongFalsely : Prop := fnExactRateRoundsRow.holds Try.pinned (OpenSpec.ofChange fnExactRateRoundsWrong)

/-- 'laws.FnExactRateBest': WHATEVER THE INPUT: true; the input reads as it did. -/
def fnExactRateBestSpec : ChangeSpec := { name := "fnExactRateBest", fn := fun _ => fun
  | [d1, d2, d3] => { results := [.lit (.bool true)], args := [d1, d2, d3] }
  | _ => none }
def fnExactRateBestRow : OpenClaim := { program := "ytbdbeeeffajbnaa", sum := "db5b97764351e27fc285ddcdb9c5a503377c81e5d45ddd269b6713a0e37d3718", func := "loop.example/tradecircles/laws.FnExactRateBest", spec := "fnExactRateBest", unfollowed := true, recurses := true, apart := false }
def FnExactRateBestSaid : Prop := fnExactRateBestRow.holds Try.pinned (OpenSpec.ofChange fnExactRateBestSpec)

/-- ITS FALSE NEIGHBOUR: 'it returns false'. Refute it at one input. -/
def fnExactRateBestWrong : ChangeSpec := { name := "fnExactRateBest", fn := fun _ => fun
  | [d1, d2, d3] => { results := [.lit (.bool false)], args := [d1, d2, d3] }
  | _ => none }
def FnExactRateBestWrongFalsely : Prop := fnExactRateBestRow.holds Try.pinned (OpenSpec.ofChange fnExactRateBestWrong)

/- THE SECOND FORM. 'bulk': how many values and letters a reading holds, each counted each time it is reached (what is shared counts as often as it is met; a slice's spare places count too). A statement '..UptoSaid' is the law's where the arguments, and the package variables that the reading takes, are together of bulk at most 1048576: NARROWER than '..Said'. Prove '..Said' where nothing that the law and all that it calls make is longer than what came in: it says more and counts as full. Else prove '..UptoSaid'. A law counts once. -/
mutual
def uptoBulk {H : Type} : DataW H → Nat
  | .lit (.string bytes) => bytes.length + 1
  | .lit _ => 1
  | .nil => 1
  | .ptr d => uptoBulk d + 1
  | .slice elems spare => uptoBulkAll elems + uptoBulkAll spare + 1
  | .agg parts => uptoBulkAll parts + 1
  | .iface _ d => uptoBulk d + 1
  | .map entries => uptoBulkEntries entries + 1
  | .held _ => 1
def uptoBulkAll {H : Type} : List (DataW H) → Nat
  | [] => 0
  | d :: r => uptoBulk d + uptoBulkAll r
def uptoBulkEntries {H : Type} : List (Lit × DataW H) → Nat
  | [] => 0
  | x :: r => uptoBulkEntry x + uptoBulkEntries r
def uptoBulkEntry {H : Type} : Lit × DataW H → Nat
  | (.string bytes, d) => bytes.length + uptoBulk d + 1
  | (_, d) => uptoBulk d + 1
 end
def uptoSmall : (H : Type) → List (DataW H) → Bool := fun _ ds => decide (uptoBulkAll ds ≤ 1048576)
def OpenSpec.upto (s : _root_.Go.ChangeSpec) : _root_.Go.OpenSpec := { _root_.Go.OpenSpec.ofChange s with cond := some uptoSmall }

/-- 'laws.FnTable', WHERE WHAT IT READS IS OF BULK AT MOST 1048576: true; the input reads as it did. -/
def fnTableUptoRow : OpenClaim := { program := "ytbdbeeeffajbnaa", sum := "db5b97764351e27fc285ddcdb9c5a503377c81e5d45ddd269b6713a0e37d3718", func := "loop.example/tradecircles/laws.FnTable", spec := "fnTable", apart := false, narrowed := true }
def FnTableUptoSaid : Prop := fnTableUptoRow.holds Try.pinned (OpenSpec.upto fnTableSpec)

/-- 'laws.FnRateFirst', WHERE WHAT IT READS IS OF BULK AT MOST 1048576: true; the input reads as it did. -/
def fnRateFirstUptoRow : OpenClaim := { program := "ytbdbeeeffajbnaa", sum := "db5b97764351e27fc285ddcdb9c5a503377c81e5d45ddd269b6713a0e37d3718", func := "loop.example/tradecircles/laws.FnRateFirst", spec := "fnRateFirst", unfollowed := true, recurses := true, apart := false, narrowed := true }
def FnRateFirstUptoSaid : Prop := fnRateFirstUptoRow.holds Try.pinned (OpenSpec.upto fnRateFirstSpec)

/-- 'laws.FnPrices', WHERE WHAT IT READS IS OF BULK AT MOST 1048576: true; the input reads as it did. -/
def fnPricesUptoRow : OpenClaim := { program := "ytbdbeeeffajbnaa", sum := "db5b97764351e27fc285ddcdb9c5a503377c81e5d45ddd269b6713a0e37d3718", func := "loop.example/tradecircles/laws.FnPrices", spec := "fnPrices", apart := false, narrowed := true }
def FnPricesUptoSaid : Prop := fnPricesUptoRow.holds Try.pinned (OpenSpec.upto fnPricesSpec)

/-- 'laws.FnFits', WHERE WHAT IT READS IS OF BULK AT MOST 1048576: true; the input reads as it did. -/
def fnFitsUptoRow : OpenClaim := { program := "ytbdbeeeffajbnaa", sum := "db5b97764351e27fc285ddcdb9c5a503377c81e5d45ddd269b6713a0e37d3718", func := "loop.example/tradecircles/laws.FnFits", spec := "fnFits", recurses := true, apart := false, narrowed := true }
def FnFitsUptoSaid : Prop := fnFitsUptoRow.holds Try.pinned (OpenSpec.upto fnFitsSpec)

/-- 'laws.FnPriceOf', WHERE WHAT IT READS IS OF BULK AT MOST 1048576: true; the input reads as it did. -/
def fnPriceOfUptoRow : OpenClaim := { program := "ytbdbeeeffajbnaa", sum := "db5b97764351e27fc285ddcdb9c5a503377c81e5d45ddd269b6713a0e37d3718", func := "loop.example/tradecircles/laws.FnPriceOf", spec := "fnPriceOf", recurses := true, apart := false, narrowed := true }
def FnPriceOfUptoSaid : Prop := fnPriceOfUptoRow.holds Try.pinned (OpenSpec.upto fnPriceOfSpec)

/-- 'laws.FnPriceFair', WHERE WHAT IT READS IS OF BULK AT MOST 1048576: true; the input reads as it did. -/
def fnPriceFairUptoRow : OpenClaim := { program := "ytbdbeeeffajbnaa", sum := "db5b97764351e27fc285ddcdb9c5a503377c81e5d45ddd269b6713a0e37d3718", func := "loop.example/tradecircles/laws.FnPriceFair", spec := "fnPriceFair", recurses := true, apart := false, narrowed := true }
def FnPriceFairUptoSaid : Prop := fnPriceFairUptoRow.holds Try.pinned (OpenSpec.upto fnPriceFairSpec)

/-- 'laws.FnPriceTable', WHERE WHAT IT READS IS OF BULK AT MOST 1048576: true; the input reads as it did. -/
def fnPriceTableUptoRow : OpenClaim := { program := "ytbdbeeeffajbnaa", sum := "db5b97764351e27fc285ddcdb9c5a503377c81e5d45ddd269b6713a0e37d3718", func := "loop.example/tradecircles/laws.FnPriceTable", spec := "fnPriceTable", apart := false, narrowed := true }
def FnPriceTableUptoSaid : Prop := fnPriceTableUptoRow.holds Try.pinned (OpenSpec.upto fnPriceTableSpec)

/-- 'laws.FnSpread', WHERE WHAT IT READS IS OF BULK AT MOST 1048576: true; the input reads as it did. -/
def fnSpreadUptoRow : OpenClaim := { program := "ytbdbeeeffajbnaa", sum := "db5b97764351e27fc285ddcdb9c5a503377c81e5d45ddd269b6713a0e37d3718", func := "loop.example/tradecircles/laws.FnSpread", spec := "fnSpread", apart := false, narrowed := true }
def FnSpreadUptoSaid : Prop := fnSpreadUptoRow.holds Try.pinned (OpenSpec.upto fnSpreadSpec)

/-- 'laws.FnHoldsTwice', WHERE WHAT IT READS IS OF BULK AT MOST 1048576: true; the input reads as it did. -/
def fnHoldsTwiceUptoRow : OpenClaim := { program := "ytbdbeeeffajbnaa", sum := "db5b97764351e27fc285ddcdb9c5a503377c81e5d45ddd269b6713a0e37d3718", func := "loop.example/tradecircles/laws.FnHoldsTwice", spec := "fnHoldsTwice", recurses := true, apart := false, narrowed := true }
def FnHoldsTwiceUptoSaid : Prop := fnHoldsTwiceUptoRow.holds Try.pinned (OpenSpec.upto fnHoldsTwiceSpec)

/-- 'laws.FnExactRateRounds', WHERE WHAT IT READS IS OF BULK AT MOST 1048576: true; the input reads as it did. -/
def fnExactRateRoundsUptoRow : OpenClaim := { program := "ytbdbeeeffajbnaa", sum := "db5b97764351e27fc285ddcdb9c5a503377c81e5d45ddd269b6713a0e37d3718", func := "loop.example/tradecircles/laws.FnExactRateRounds", spec := "fnExactRateRounds", unfollowed := true, recurses := true, apart := false, narrowed := true }
def FnExactRateRoundsUptoSaid : Prop := fnExactRateRoundsUptoRow.holds Try.pinned (OpenSpec.upto fnExactRateRoundsSpec)

/-- 'laws.FnExactRateBest', WHERE WHAT IT READS IS OF BULK AT MOST 1048576: true; the input reads as it did. -/
def fnExactRateBestUptoRow : OpenClaim := { program := "ytbdbeeeffajbnaa", sum := "db5b97764351e27fc285ddcdb9c5a503377c81e5d45ddd269b6713a0e37d3718", func := "loop.example/tradecircles/laws.FnExactRateBest", spec := "fnExactRateBest", unfollowed := true, recurses := true, apart := false, narrowed := true }
def FnExactRateBestUptoSaid : Prop := fnExactRateBestUptoRow.holds Try.pinned (OpenSpec.upto fnExactRateBestSpec)

end Rows
end Go.Proofs.Ytbdbeeeffajbnaa
