/-
  No cell of these rows narrows 'for every input' (looked for: loops, veiled, ifaces, maps, wideKeys, modest, calm, conditions, laid).
  DERIVED. THE GIVEN ROWS OF THIS SEAT. 12 by the template 'for every input the law returns true; each argument reads behind the call as it read before'; 0 by the template 'total and deterministic' (their statements: YtakipaehoeapcaaTotals.lean).
  GIVEN WITH THE SEED: the statements are not yours to turn. If you find one false, say at which input.
  Laid BY PROGRAM, IN A SANDBOX (cutbox-rows.mjs): the forced cells as the released guide's own fill.sh prints them over the translation daf33037acb36306… (all of the seat's roots in one cut). By AI agents, Wed Nov 11 2026. No macro, syntax, notation, axiom, sorry.
-/
import Derived.Test.YtakipaehoeapcaaChecked
import GoSem.Claim
import GoSem.ClaimJoined
import GoSem.ClaimMapViews
import Derived.JoinedTies
import Derived.KernelRfl
namespace Go.Proofs.Ytakipaehoeapcaa
/- THE CELL 'sum', in the pinned program and in every row, IS THE sha256 OF THE DUMP (.gsa) THAT YtakipaehoeapcaaProg.lean LOADS. Nothing in Lean hashes anything: it is a label: what it is worth is what the hold of that sum in a sandbox is worth. -/
noncomputable def Try.pinned : Pinned := { name := "ytakipaehoeapcaa", sum := "daf33037acb36306c92deb93f5fdc7d482e6c7cb489c1ba3665f77d81ffe5d54", checked := Try.checked }
namespace Rows
def none {H : Type} : Left H := { results := [], args := [] }

/-- 'laws.FnGains': WHATEVER THE INPUT: true; the input reads as it did. -/
def fnGainsSpec : ChangeSpec := { name := "fnGains", fn := fun _ => fun
  | [d] => { results := [.lit (.bool true)], args := [d] }
  | _ => none }
def fnGainsRow : OpenClaim := { program := "ytakipaehoeapcaa", sum := "daf33037acb36306c92deb93f5fdc7d482e6c7cb489c1ba3665f77d81ffe5d54", func := "loop.example/tradecircles/laws.FnGains", spec := "fnGains", unfollowed := true, recurses := true, apart := false }
def FnGainsSaid : Prop := fnGainsRow.holds Try.pinned (OpenSpec.ofChange fnGainsSpec)

/-- ITS FALSE NEIGHBOUR: 'it returns false'. Refute it at one input. -/
def fnGainsWrong : ChangeSpec := { name := "fnGains", fn := fun _ => fun
  | [d] => { results := [.lit (.bool false)], args := [d] }
  | _ => none }
def FnGainsWrongFalsely : Prop := fnGainsRow.holds Try.pinned (OpenSpec.ofChange fnGainsWrong)

/-- 'laws.FnRateFirst': WHATEVER THE INPUT: true; the input reads as it did. -/
def fnRateFirstSpec : ChangeSpec := { name := "fnRateFirst", fn := fun _ => fun
  | [d] => { results := [.lit (.bool true)], args := [d] }
  | _ => none }
def fnRateFirstRow : OpenClaim := { program := "ytakipaehoeapcaa", sum := "daf33037acb36306c92deb93f5fdc7d482e6c7cb489c1ba3665f77d81ffe5d54", func := "loop.example/tradecircles/laws.FnRateFirst", spec := "fnRateFirst", unfollowed := true, recurses := true, apart := false }
def FnRateFirstSaid : Prop := fnRateFirstRow.holds Try.pinned (OpenSpec.ofChange fnRateFirstSpec)

/-- ITS FALSE NEIGHBOUR: 'it returns false'. Refute it at one input. -/
def fnRateFirstWrong : ChangeSpec := { name := "fnRateFirst", fn := fun _ => fun
  | [d] => { results := [.lit (.bool false)], args := [d] }
  | _ => none }
def FnRateFirstWrongFalsely : Prop := fnRateFirstRow.holds Try.pinned (OpenSpec.ofChange fnRateFirstWrong)

/-- 'laws.FnRateFair': WHATEVER THE INPUT: true; the input reads as it did. -/
def fnRateFairSpec : ChangeSpec := { name := "fnRateFair", fn := fun _ => fun
  | [d] => { results := [.lit (.bool true)], args := [d] }
  | _ => none }
def fnRateFairRow : OpenClaim := { program := "ytakipaehoeapcaa", sum := "daf33037acb36306c92deb93f5fdc7d482e6c7cb489c1ba3665f77d81ffe5d54", func := "loop.example/tradecircles/laws.FnRateFair", spec := "fnRateFair", unfollowed := true, recurses := true, apart := false }
def FnRateFairSaid : Prop := fnRateFairRow.holds Try.pinned (OpenSpec.ofChange fnRateFairSpec)

/-- ITS FALSE NEIGHBOUR: 'it returns false'. Refute it at one input. -/
def fnRateFairWrong : ChangeSpec := { name := "fnRateFair", fn := fun _ => fun
  | [d] => { results := [.lit (.bool false)], args := [d] }
  | _ => none }
def FnRateFairWrongFalsely : Prop := fnRateFairRow.holds Try.pinned (OpenSpec.ofChange fnRateFairWrong)

/-- 'laws.FnHolds': WHATEVER THE INPUT: true; the input reads as it did. -/
def fnHoldsSpec : ChangeSpec := { name := "fnHolds", fn := fun _ => fun
  | [d] => { results := [.lit (.bool true)], args := [d] }
  | _ => none }
def fnHoldsRow : OpenClaim := { program := "ytakipaehoeapcaa", sum := "daf33037acb36306c92deb93f5fdc7d482e6c7cb489c1ba3665f77d81ffe5d54", func := "loop.example/tradecircles/laws.FnHolds", spec := "fnHolds", unfollowed := true, recurses := true, apart := false }
def FnHoldsSaid : Prop := fnHoldsRow.holds Try.pinned (OpenSpec.ofChange fnHoldsSpec)

/-- ITS FALSE NEIGHBOUR: 'it returns false'. Refute it at one input. -/
def fnHoldsWrong : ChangeSpec := { name := "fnHolds", fn := fun _ => fun
  | [d] => { results := [.lit (.bool false)], args := [d] }
  | _ => none }
def FnHoldsWrongFalsely : Prop := fnHoldsRow.holds Try.pinned (OpenSpec.ofChange fnHoldsWrong)

/-- 'laws.FnFind': WHATEVER THE INPUT: true; the input reads as it did. -/
def fnFindSpec : ChangeSpec := { name := "fnFind", fn := fun _ => fun
  | [d] => { results := [.lit (.bool true)], args := [d] }
  | _ => none }
def fnFindRow : OpenClaim := { program := "ytakipaehoeapcaa", sum := "daf33037acb36306c92deb93f5fdc7d482e6c7cb489c1ba3665f77d81ffe5d54", func := "loop.example/tradecircles/laws.FnFind", spec := "fnFind", unfollowed := true, recurses := true, apart := false }
def FnFindSaid : Prop := fnFindRow.holds Try.pinned (OpenSpec.ofChange fnFindSpec)

/-- ITS FALSE NEIGHBOUR: 'it returns false'. Refute it at one input. -/
def fnFindWrong : ChangeSpec := { name := "fnFind", fn := fun _ => fun
  | [d] => { results := [.lit (.bool false)], args := [d] }
  | _ => none }
def FnFindWrongFalsely : Prop := fnFindRow.holds Try.pinned (OpenSpec.ofChange fnFindWrong)

/-- 'laws.FnFindOr': WHATEVER THE INPUT: true; the input reads as it did. -/
def fnFindOrSpec : ChangeSpec := { name := "fnFindOr", fn := fun _ => fun
  | [d] => { results := [.lit (.bool true)], args := [d] }
  | _ => none }
def fnFindOrRow : OpenClaim := { program := "ytakipaehoeapcaa", sum := "daf33037acb36306c92deb93f5fdc7d482e6c7cb489c1ba3665f77d81ffe5d54", func := "loop.example/tradecircles/laws.FnFindOr", spec := "fnFindOr", unfollowed := true, recurses := true, apart := false }
def FnFindOrSaid : Prop := fnFindOrRow.holds Try.pinned (OpenSpec.ofChange fnFindOrSpec)

/-- ITS FALSE NEIGHBOUR: 'it returns false'. Refute it at one input. -/
def fnFindOrWrong : ChangeSpec := { name := "fnFindOr", fn := fun _ => fun
  | [d] => { results := [.lit (.bool false)], args := [d] }
  | _ => none }
def FnFindOrWrongFalsely : Prop := fnFindOrRow.holds Try.pinned (OpenSpec.ofChange fnFindOrWrong)

/-- 'laws.FnHoldsTwice': WHATEVER THE INPUT: true; the input reads as it did. -/
def fnHoldsTwiceSpec : ChangeSpec := { name := "fnHoldsTwice", fn := fun _ => fun
  | [d] => { results := [.lit (.bool true)], args := [d] }
  | _ => none }
def fnHoldsTwiceRow : OpenClaim := { program := "ytakipaehoeapcaa", sum := "daf33037acb36306c92deb93f5fdc7d482e6c7cb489c1ba3665f77d81ffe5d54", func := "loop.example/tradecircles/laws.FnHoldsTwice", spec := "fnHoldsTwice", recurses := true, apart := false }
def FnHoldsTwiceSaid : Prop := fnHoldsTwiceRow.holds Try.pinned (OpenSpec.ofChange fnHoldsTwiceSpec)

/-- ITS FALSE NEIGHBOUR: 'it returns false'. Refute it at one input. -/
def fnHoldsTwiceWrong : ChangeSpec := { name := "fnHoldsTwice", fn := fun _ => fun
  | [d] => { results := [.lit (.bool false)], args := [d] }
  | _ => none }
def FnHoldsTwiceWrongFalsely : Prop := fnHoldsTwiceRow.holds Try.pinned (OpenSpec.ofChange fnHoldsTwiceWrong)

/-- 'laws.FnExactRateGains': WHATEVER THE INPUT: true; the input reads as it did. -/
def fnExactRateGainsSpec : ChangeSpec := { name := "fnExactRateGains", fn := fun _ => fun
  | [d] => { results := [.lit (.bool true)], args := [d] }
  | _ => none }
def fnExactRateGainsRow : OpenClaim := { program := "ytakipaehoeapcaa", sum := "daf33037acb36306c92deb93f5fdc7d482e6c7cb489c1ba3665f77d81ffe5d54", func := "loop.example/tradecircles/laws.FnExactRateGains", spec := "fnExactRateGains", unfollowed := true, recurses := true, apart := false }
def FnExactRateGainsSaid : Prop := fnExactRateGainsRow.holds Try.pinned (OpenSpec.ofChange fnExactRateGainsSpec)

/-- ITS FALSE NEIGHBOUR: 'it returns false'. Refute it at one input. -/
def fnExactRateGainsWrong : ChangeSpec := { name := "fnExactRateGains", fn := fun _ => fun
  | [d] => { results := [.lit (.bool false)], args := [d] }
  | _ => none }
def FnExactRateGainsWrongFalsely : Prop := fnExactRateGainsRow.holds Try.pinned (OpenSpec.ofChange fnExactRateGainsWrong)

/-- 'laws.FnExactRateRounds': WHATEVER THE INPUT: true; the input reads as it did. -/
def fnExactRateRoundsSpec : ChangeSpec := { name := "fnExactRateRounds", fn := fun _ => fun
  | [d] => { results := [.lit (.bool true)], args := [d] }
  | _ => none }
def fnExactRateRoundsRow : OpenClaim := { program := "ytakipaehoeapcaa", sum := "daf33037acb36306c92deb93f5fdc7d482e6c7cb489c1ba3665f77d81ffe5d54", func := "loop.example/tradecircles/laws.FnExactRateRounds", spec := "fnExactRateRounds", unfollowed := true, recurses := true, apart := false }
def FnExactRateRoundsSaid : Prop := fnExactRateRoundsRow.holds Try.pinned (OpenSpec.ofChange fnExactRateRoundsSpec)

/-- ITS FALSE NEIGHBOUR: 'it returns false'. Refute it at one input. -/
def fnExactRateRoundsWrong : ChangeSpec := { name := "fnExactRateRounds", fn := fun _ => fun
  | [d] => { results := [.lit (.bool false)], args := [d] }
  | _ => none }
def FnExactRateRoundsWrongFalsely : Prop := fnExactRateRoundsRow.holds Try.pinned (OpenSpec.ofChange fnExactRateRoundsWrong)

/-- 'laws.FnExactRateFirst': WHATEVER THE INPUT: true; the input reads as it did. -/
def fnExactRateFirstSpec : ChangeSpec := { name := "fnExactRateFirst", fn := fun _ => fun
  | [d] => { results := [.lit (.bool true)], args := [d] }
  | _ => none }
def fnExactRateFirstRow : OpenClaim := { program := "ytakipaehoeapcaa", sum := "daf33037acb36306c92deb93f5fdc7d482e6c7cb489c1ba3665f77d81ffe5d54", func := "loop.example/tradecircles/laws.FnExactRateFirst", spec := "fnExactRateFirst", unfollowed := true, recurses := true, apart := false }
def FnExactRateFirstSaid : Prop := fnExactRateFirstRow.holds Try.pinned (OpenSpec.ofChange fnExactRateFirstSpec)

/-- ITS FALSE NEIGHBOUR: 'it returns false'. Refute it at one input. -/
def fnExactRateFirstWrong : ChangeSpec := { name := "fnExactRateFirst", fn := fun _ => fun
  | [d] => { results := [.lit (.bool false)], args := [d] }
  | _ => none }
def FnExactRateFirstWrongFalsely : Prop := fnExactRateFirstRow.holds Try.pinned (OpenSpec.ofChange fnExactRateFirstWrong)

/-- 'laws.FnExactRateBest': WHATEVER THE INPUT: true; the input reads as it did. -/
def fnExactRateBestSpec : ChangeSpec := { name := "fnExactRateBest", fn := fun _ => fun
  | [d1, d2, d3] => { results := [.lit (.bool true)], args := [d1, d2, d3] }
  | _ => none }
def fnExactRateBestRow : OpenClaim := { program := "ytakipaehoeapcaa", sum := "daf33037acb36306c92deb93f5fdc7d482e6c7cb489c1ba3665f77d81ffe5d54", func := "loop.example/tradecircles/laws.FnExactRateBest", spec := "fnExactRateBest", unfollowed := true, recurses := true, apart := false }
def FnExactRateBestSaid : Prop := fnExactRateBestRow.holds Try.pinned (OpenSpec.ofChange fnExactRateBestSpec)

/-- ITS FALSE NEIGHBOUR: 'it returns false'. Refute it at one input. -/
def fnExactRateBestWrong : ChangeSpec := { name := "fnExactRateBest", fn := fun _ => fun
  | [d1, d2, d3] => { results := [.lit (.bool false)], args := [d1, d2, d3] }
  | _ => none }
def FnExactRateBestWrongFalsely : Prop := fnExactRateBestRow.holds Try.pinned (OpenSpec.ofChange fnExactRateBestWrong)

/-- 'laws.FnExactPriceFind': WHATEVER THE INPUT: true; the input reads as it did. -/
def fnExactPriceFindSpec : ChangeSpec := { name := "fnExactPriceFind", fn := fun _ => fun
  | [d] => { results := [.lit (.bool true)], args := [d] }
  | _ => none }
def fnExactPriceFindRow : OpenClaim := { program := "ytakipaehoeapcaa", sum := "daf33037acb36306c92deb93f5fdc7d482e6c7cb489c1ba3665f77d81ffe5d54", func := "loop.example/tradecircles/laws.FnExactPriceFind", spec := "fnExactPriceFind", unfollowed := true, recurses := true, apart := false }
def FnExactPriceFindSaid : Prop := fnExactPriceFindRow.holds Try.pinned (OpenSpec.ofChange fnExactPriceFindSpec)

/-- ITS FALSE NEIGHBOUR: 'it returns false'. Refute it at one input. -/
def fnExactPriceFindWrong : ChangeSpec := { name := "fnExactPriceFind", fn := fun _ => fun
  | [d] => { results := [.lit (.bool false)], args := [d] }
  | _ => none }
def FnExactPriceFindWrongFalsely : Prop := fnExactPriceFindRow.holds Try.pinned (OpenSpec.ofChange fnExactPriceFindWrong)

/- THE SECOND FORM. 'bulk': how many values and letters a reading holds, each counted each time it is reached (what is shared counts as often as it is met; a slice's spare places count too). A statement '..UptoSaid' is the law's where the arguments, and the package variables that the reading takes, are together of bulk at most 1048576: NARROWER than '..Said'. Prove '..Said' where nothing that the law and all that it calls make is longer than what came in: it says more and counts as full. Else prove '..UptoSaid'. A law counts once. -/
mutual
def uptoBulk {H : Type} : DataW H → Nat
  | .lit (.string bytes) => bytes.length + 1
  | .lit _ => 1
  | .nil => 1
  | .ptr d => uptoBulk d + 1
  | .slice elems spare => uptoBulkAll elems + uptoBulkAll spare + 1
  | .agg parts => uptoBulkAll parts + 1
  | .iface _ d => uptoBulk d + 1
  | .map entries => uptoBulkEntries entries + 1
  | .held _ => 1
def uptoBulkAll {H : Type} : List (DataW H) → Nat
  | [] => 0
  | d :: r => uptoBulk d + uptoBulkAll r
def uptoBulkEntries {H : Type} : List (Lit × DataW H) → Nat
  | [] => 0
  | x :: r => uptoBulkEntry x + uptoBulkEntries r
def uptoBulkEntry {H : Type} : Lit × DataW H → Nat
  | (.string bytes, d) => bytes.length + uptoBulk d + 1
  | (_, d) => uptoBulk d + 1
 end
def uptoSmall : (H : Type) → List (DataW H) → Bool := fun _ ds => decide (uptoBulkAll ds ≤ 1048576)
def OpenSpec.upto (s : _root_.Go.ChangeSpec) : _root_.Go.OpenSpec := { _root_.Go.OpenSpec.ofChange s with cond := some uptoSmall }

/-- 'laws.FnGains', WHERE WHAT IT READS IS OF BULK AT MOST 1048576: true; the input reads as it did. -/
def fnGainsUptoRow : OpenClaim := { program := "ytakipaehoeapcaa", sum := "daf33037acb36306c92deb93f5fdc7d482e6c7cb489c1ba3665f77d81ffe5d54", func := "loop.example/tradecircles/laws.FnGains", spec := "fnGains", unfollowed := true, recurses := true, apart := false, narrowed := true }
def FnGainsUptoSaid : Prop := fnGainsUptoRow.holds Try.pinned (OpenSpec.upto fnGainsSpec)

/-- 'laws.FnRateFirst', WHERE WHAT IT READS IS OF BULK AT MOST 1048576: true; the input reads as it did. -/
def fnRateFirstUptoRow : OpenClaim := { program := "ytakipaehoeapcaa", sum := "daf33037acb36306c92deb93f5fdc7d482e6c7cb489c1ba3665f77d81ffe5d54", func := "loop.example/tradecircles/laws.FnRateFirst", spec := "fnRateFirst", unfollowed := true, recurses := true, apart := false, narrowed := true }
def FnRateFirstUptoSaid : Prop := fnRateFirstUptoRow.holds Try.pinned (OpenSpec.upto fnRateFirstSpec)

/-- 'laws.FnRateFair', WHERE WHAT IT READS IS OF BULK AT MOST 1048576: true; the input reads as it did. -/
def fnRateFairUptoRow : OpenClaim := { program := "ytakipaehoeapcaa", sum := "daf33037acb36306c92deb93f5fdc7d482e6c7cb489c1ba3665f77d81ffe5d54", func := "loop.example/tradecircles/laws.FnRateFair", spec := "fnRateFair", unfollowed := true, recurses := true, apart := false, narrowed := true }
def FnRateFairUptoSaid : Prop := fnRateFairUptoRow.holds Try.pinned (OpenSpec.upto fnRateFairSpec)

/-- 'laws.FnHolds', WHERE WHAT IT READS IS OF BULK AT MOST 1048576: true; the input reads as it did. -/
def fnHoldsUptoRow : OpenClaim := { program := "ytakipaehoeapcaa", sum := "daf33037acb36306c92deb93f5fdc7d482e6c7cb489c1ba3665f77d81ffe5d54", func := "loop.example/tradecircles/laws.FnHolds", spec := "fnHolds", unfollowed := true, recurses := true, apart := false, narrowed := true }
def FnHoldsUptoSaid : Prop := fnHoldsUptoRow.holds Try.pinned (OpenSpec.upto fnHoldsSpec)

/-- 'laws.FnFind', WHERE WHAT IT READS IS OF BULK AT MOST 1048576: true; the input reads as it did. -/
def fnFindUptoRow : OpenClaim := { program := "ytakipaehoeapcaa", sum := "daf33037acb36306c92deb93f5fdc7d482e6c7cb489c1ba3665f77d81ffe5d54", func := "loop.example/tradecircles/laws.FnFind", spec := "fnFind", unfollowed := true, recurses := true, apart := false, narrowed := true }
def FnFindUptoSaid : Prop := fnFindUptoRow.holds Try.pinned (OpenSpec.upto fnFindSpec)

/-- 'laws.FnFindOr', WHERE WHAT IT READS IS OF BULK AT MOST 1048576: true; the input reads as it did. -/
def fnFindOrUptoRow : OpenClaim := { program := "ytakipaehoeapcaa", sum := "daf33037acb36306c92deb93f5fdc7d482e6c7cb489c1ba3665f77d81ffe5d54", func := "loop.example/tradecircles/laws.FnFindOr", spec := "fnFindOr", unfollowed := true, recurses := true, apart := false, narrowed := true }
def FnFindOrUptoSaid : Prop := fnFindOrUptoRow.holds Try.pinned (OpenSpec.upto fnFindOrSpec)

/-- 'laws.FnHoldsTwice', WHERE WHAT IT READS IS OF BULK AT MOST 1048576: true; the input reads as it did. -/
def fnHoldsTwiceUptoRow : OpenClaim := { program := "ytakipaehoeapcaa", sum := "daf33037acb36306c92deb93f5fdc7d482e6c7cb489c1ba3665f77d81ffe5d54", func := "loop.example/tradecircles/laws.FnHoldsTwice", spec := "fnHoldsTwice", recurses := true, apart := false, narrowed := true }
def FnHoldsTwiceUptoSaid : Prop := fnHoldsTwiceUptoRow.holds Try.pinned (OpenSpec.upto fnHoldsTwiceSpec)

/-- 'laws.FnExactRateGains', WHERE WHAT IT READS IS OF BULK AT MOST 1048576: true; the input reads as it did. -/
def fnExactRateGainsUptoRow : OpenClaim := { program := "ytakipaehoeapcaa", sum := "daf33037acb36306c92deb93f5fdc7d482e6c7cb489c1ba3665f77d81ffe5d54", func := "loop.example/tradecircles/laws.FnExactRateGains", spec := "fnExactRateGains", unfollowed := true, recurses := true, apart := false, narrowed := true }
def FnExactRateGainsUptoSaid : Prop := fnExactRateGainsUptoRow.holds Try.pinned (OpenSpec.upto fnExactRateGainsSpec)

/-- 'laws.FnExactRateRounds', WHERE WHAT IT READS IS OF BULK AT MOST 1048576: true; the input reads as it did. -/
def fnExactRateRoundsUptoRow : OpenClaim := { program := "ytakipaehoeapcaa", sum := "daf33037acb36306c92deb93f5fdc7d482e6c7cb489c1ba3665f77d81ffe5d54", func := "loop.example/tradecircles/laws.FnExactRateRounds", spec := "fnExactRateRounds", unfollowed := true, recurses := true, apart := false, narrowed := true }
def FnExactRateRoundsUptoSaid : Prop := fnExactRateRoundsUptoRow.holds Try.pinned (OpenSpec.upto fnExactRateRoundsSpec)

/-- 'laws.FnExactRateFirst', WHERE WHAT IT READS IS OF BULK AT MOST 1048576: true; the input reads as it did. -/
def fnExactRateFirstUptoRow : OpenClaim := { program := "ytakipaehoeapcaa", sum := "daf33037acb36306c92deb93f5fdc7d482e6c7cb489c1ba3665f77d81ffe5d54", func := "loop.example/tradecircles/laws.FnExactRateFirst", spec := "fnExactRateFirst", unfollowed := true, recurses := true, apart := false, narrowed := true }
def FnExactRateFirstUptoSaid : Prop := fnExactRateFirstUptoRow.holds Try.pinned (OpenSpec.upto fnExactRateFirstSpec)

/-- 'laws.FnExactRateBest', WHERE WHAT IT READS IS OF BULK AT MOST 1048576: true; the input reads as it did. -/
def fnExactRateBestUptoRow : OpenClaim := { program := "ytakipaehoeapcaa", sum := "daf33037acb36306c92deb93f5fdc7d482e6c7cb489c1ba3665f77d81ffe5d54", func := "loop.example/tradecircles/laws.FnExactRateBest", spec := "fnExactRateBest", unfollowed := true, recurses := true, apart := false, narrowed := true }
def FnExactRateBestUptoSaid : Prop := fnExactRateBestUptoRow.holds Try.pinned (OpenSpec.upto fnExactRateBestSpec)

/-- 'laws.FnExactPriceFind', WHERE WHAT IT READS IS OF BULK AT MOST 1048576: true; the input reads as it did. -/
def fnExactPriceFindUptoRow : OpenClaim := { program := "ytakipaehoeapcaa", sum := "daf33037acb36306c92deb93f5fdc7d482e6c7cb489c1ba3665f77d81ffe5d54", func := "loop.example/tradecircles/laws.FnExactPriceFind", spec := "fnExactPriceFind", unfollowed := true, recurses := true, apart := false, narrowed := true }
def FnExactPriceFindUptoSaid : Prop := fnExactPriceFindUptoRow.holds Try.pinned (OpenSpec.upto fnExactPriceFindSpec)

end Rows
end Go.Proofs.Ytakipaehoeapcaa
