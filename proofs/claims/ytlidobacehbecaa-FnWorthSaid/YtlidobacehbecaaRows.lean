/-
  No cell of these rows narrows 'for every input' (looked for: loops, veiled, ifaces, maps, wideKeys, modest, calm, conditions, laid).
  DERIVED. THE GIVEN ROWS OF THIS SEAT. 12 by the template 'for every input the law returns true; each argument reads behind the call as it read before'; 0 by the template 'total and deterministic' (their statements: YtlidobacehbecaaTotals.lean).
  GIVEN WITH THE SEED: the statements are not yours to turn. If you find one false, say at which input.
  Laid BY PROGRAM, IN A SANDBOX (cutbox-rows.mjs): the forced cells as the released guide's own fill.sh prints them over the translation e6019f2b9f17ca19… (all of the seat's roots in one cut). By AI agents, Wed Nov 11 2026. No macro, syntax, notation, axiom, sorry.
-/
import Derived.Test.YtlidobacehbecaaChecked
import GoSem.Claim
import GoSem.ClaimJoined
import GoSem.ClaimMapViews
import Derived.JoinedTies
import Derived.KernelRfl
namespace Go.Proofs.Ytlidobacehbecaa
/- THE CELL 'sum', in the pinned program and in every row, IS THE sha256 OF THE DUMP (.gsa) THAT YtlidobacehbecaaProg.lean LOADS. Nothing in Lean hashes anything: it is a label: what it is worth is what the hold of that sum in a sandbox is worth. -/
noncomputable def Try.pinned : Pinned := { name := "ytlidobacehbecaa", sum := "e6019f2b9f17ca19d34f56e20ef67766bec35961a615bf50f535d508d3df715f", checked := Try.checked }
namespace Rows
def none {H : Type} : Left H := { results := [], args := [] }

/-- 'laws.FnWorth': WHATEVER THE INPUT: true; the input reads as it did. -/
def fnWorthSpec : ChangeSpec := { name := "fnWorth", fn := fun _ => fun
  | [d] => { results := [.lit (.bool true)], args := [d] }
  | _ => none }
def fnWorthRow : OpenClaim := { program := "ytlidobacehbecaa", sum := "e6019f2b9f17ca19d34f56e20ef67766bec35961a615bf50f535d508d3df715f", func := "loop.example/tradecircles/laws.FnWorth", spec := "fnWorth", apart := false }
def FnWorthSaid : Prop := fnWorthRow.holds Try.pinned (OpenSpec.ofChange fnWorthSpec)

/-- ITS FALSE NEIGHBOUR: 'it returns false'. Refute it at one input. -/
def fnWorthWrong : ChangeSpec := { name := "fnWorth", fn := fun _ => fun
  | [d] => { results := [.lit (.bool false)], args := [d] }
  | _ => none }
def FnWorthWrongFalsely : Prop := fnWorthRow.holds Try.pinned (OpenSpec.ofChange fnWorthWrong)

/-- 'laws.FnExactRateGains': WHATEVER THE INPUT: true; the input reads as it did. -/
def fnExactRateGainsSpec : ChangeSpec := { name := "fnExactRateGains", fn := fun _ => fun
  | [d] => { results := [.lit (.bool true)], args := [d] }
  | _ => none }
def fnExactRateGainsRow : OpenClaim := { program := "ytlidobacehbecaa", sum := "e6019f2b9f17ca19d34f56e20ef67766bec35961a615bf50f535d508d3df715f", func := "loop.example/tradecircles/laws.FnExactRateGains", spec := "fnExactRateGains", unfollowed := true, recurses := true, apart := false }
def FnExactRateGainsSaid : Prop := fnExactRateGainsRow.holds Try.pinned (OpenSpec.ofChange fnExactRateGainsSpec)

/-- ITS FALSE NEIGHBOUR: 'it returns false'. Refute it at one input. -/
def fnExactRateGainsWrong : ChangeSpec := { name := "fnExactRateGains", fn := fun _ => fun
  | [d] => { results := [.lit (.bool false)], args := [d] }
  | _ => none }
def FnExactRateGainsWrongFalsely : Prop := fnExactRateGainsRow.holds Try.pinned (OpenSpec.ofChange fnExactRateGainsWrong)

/-- 'laws.FnExactRateFirst': WHATEVER THE INPUT: true; the input reads as it did. -/
def fnExactRateFirstSpec : ChangeSpec := { name := "fnExactRateFirst", fn := fun _ => fun
  | [d] => { results := [.lit (.bool true)], args := [d] }
  | _ => none }
def fnExactRateFirstRow : OpenClaim := { program := "ytlidobacehbecaa", sum := "e6019f2b9f17ca19d34f56e20ef67766bec35961a615bf50f535d508d3df715f", func := "loop.example/tradecircles/laws.FnExactRateFirst", spec := "fnExactRateFirst", unfollowed := true, recurses := true, apart := false }
def FnExactRateFirstSaid : Prop := fnExactRateFirstRow.holds Try.pinned (OpenSpec.ofChange fnExactRateFirstSpec)

/-- ITS FALSE NEIGHBOUR: 'it returns false'. Refute it at one input. -/
def fnExactRateFirstWrong : ChangeSpec := { name := "fnExactRateFirst", fn := fun _ => fun
  | [d] => { results := [.lit (.bool false)], args := [d] }
  | _ => none }
def FnExactRateFirstWrongFalsely : Prop := fnExactRateFirstRow.holds Try.pinned (OpenSpec.ofChange fnExactRateFirstWrong)

/-- 'laws.FnExactRateFair': WHATEVER THE INPUT: true; the input reads as it did. -/
def fnExactRateFairSpec : ChangeSpec := { name := "fnExactRateFair", fn := fun _ => fun
  | [d] => { results := [.lit (.bool true)], args := [d] }
  | _ => none }
def fnExactRateFairRow : OpenClaim := { program := "ytlidobacehbecaa", sum := "e6019f2b9f17ca19d34f56e20ef67766bec35961a615bf50f535d508d3df715f", func := "loop.example/tradecircles/laws.FnExactRateFair", spec := "fnExactRateFair", recurses := true, apart := false }
def FnExactRateFairSaid : Prop := fnExactRateFairRow.holds Try.pinned (OpenSpec.ofChange fnExactRateFairSpec)

/-- ITS FALSE NEIGHBOUR: 'it returns false'. Refute it at one input. -/
def fnExactRateFairWrong : ChangeSpec := { name := "fnExactRateFair", fn := fun _ => fun
  | [d] => { results := [.lit (.bool false)], args := [d] }
  | _ => none }
def FnExactRateFairWrongFalsely : Prop := fnExactRateFairRow.holds Try.pinned (OpenSpec.ofChange fnExactRateFairWrong)

/-- 'laws.FnExactPriceIn': WHATEVER THE INPUT: true; the input reads as it did. -/
def fnExactPriceInSpec : ChangeSpec := { name := "fnExactPriceIn", fn := fun _ => fun
  | [d] => { results := [.lit (.bool true)], args := [d] }
  | _ => none }
def fnExactPriceInRow : OpenClaim := { program := "ytlidobacehbecaa", sum := "e6019f2b9f17ca19d34f56e20ef67766bec35961a615bf50f535d508d3df715f", func := "loop.example/tradecircles/laws.FnExactPriceIn", spec := "fnExactPriceIn", apart := false }
def FnExactPriceInSaid : Prop := fnExactPriceInRow.holds Try.pinned (OpenSpec.ofChange fnExactPriceInSpec)

/-- ITS FALSE NEIGHBOUR: 'it returns false'. Refute it at one input. -/
def fnExactPriceInWrong : ChangeSpec := { name := "fnExactPriceIn", fn := fun _ => fun
  | [d] => { results := [.lit (.bool false)], args := [d] }
  | _ => none }
def FnExactPriceInWrongFalsely : Prop := fnExactPriceInRow.holds Try.pinned (OpenSpec.ofChange fnExactPriceInWrong)

/-- 'laws.FnExactPriceFits': WHATEVER THE INPUT: true; the input reads as it did. -/
def fnExactPriceFitsSpec : ChangeSpec := { name := "fnExactPriceFits", fn := fun _ => fun
  | [d1, d2] => { results := [.lit (.bool true)], args := [d1, d2] }
  | _ => none }
def fnExactPriceFitsRow : OpenClaim := { program := "ytlidobacehbecaa", sum := "e6019f2b9f17ca19d34f56e20ef67766bec35961a615bf50f535d508d3df715f", func := "loop.example/tradecircles/laws.FnExactPriceFits", spec := "fnExactPriceFits", apart := false }
def FnExactPriceFitsSaid : Prop := fnExactPriceFitsRow.holds Try.pinned (OpenSpec.ofChange fnExactPriceFitsSpec)

/-- ITS FALSE NEIGHBOUR: 'it returns false'. Refute it at one input. -/
def fnExactPriceFitsWrong : ChangeSpec := { name := "fnExactPriceFits", fn := fun _ => fun
  | [d1, d2] => { results := [.lit (.bool false)], args := [d1, d2] }
  | _ => none }
def FnExactPriceFitsWrongFalsely : Prop := fnExactPriceFitsRow.holds Try.pinned (OpenSpec.ofChange fnExactPriceFitsWrong)

/-- 'laws.FnExactPriceHolds': WHATEVER THE INPUT: true; the input reads as it did. -/
def fnExactPriceHoldsSpec : ChangeSpec := { name := "fnExactPriceHolds", fn := fun _ => fun
  | [d1, d2] => { results := [.lit (.bool true)], args := [d1, d2] }
  | _ => none }
def fnExactPriceHoldsRow : OpenClaim := { program := "ytlidobacehbecaa", sum := "e6019f2b9f17ca19d34f56e20ef67766bec35961a615bf50f535d508d3df715f", func := "loop.example/tradecircles/laws.FnExactPriceHolds", spec := "fnExactPriceHolds", apart := false }
def FnExactPriceHoldsSaid : Prop := fnExactPriceHoldsRow.holds Try.pinned (OpenSpec.ofChange fnExactPriceHoldsSpec)

/-- ITS FALSE NEIGHBOUR: 'it returns false'. Refute it at one input. -/
def fnExactPriceHoldsWrong : ChangeSpec := { name := "fnExactPriceHolds", fn := fun _ => fun
  | [d1, d2] => { results := [.lit (.bool false)], args := [d1, d2] }
  | _ => none }
def FnExactPriceHoldsWrongFalsely : Prop := fnExactPriceHoldsRow.holds Try.pinned (OpenSpec.ofChange fnExactPriceHoldsWrong)

/-- 'laws.FnExactPriceOf': WHATEVER THE INPUT: true; the input reads as it did. -/
def fnExactPriceOfSpec : ChangeSpec := { name := "fnExactPriceOf", fn := fun _ => fun
  | [d] => { results := [.lit (.bool true)], args := [d] }
  | _ => none }
def fnExactPriceOfRow : OpenClaim := { program := "ytlidobacehbecaa", sum := "e6019f2b9f17ca19d34f56e20ef67766bec35961a615bf50f535d508d3df715f", func := "loop.example/tradecircles/laws.FnExactPriceOf", spec := "fnExactPriceOf", recurses := true, apart := false }
def FnExactPriceOfSaid : Prop := fnExactPriceOfRow.holds Try.pinned (OpenSpec.ofChange fnExactPriceOfSpec)

/-- ITS FALSE NEIGHBOUR: 'it returns false'. Refute it at one input. -/
def fnExactPriceOfWrong : ChangeSpec := { name := "fnExactPriceOf", fn := fun _ => fun
  | [d] => { results := [.lit (.bool false)], args := [d] }
  | _ => none }
def FnExactPriceOfWrongFalsely : Prop := fnExactPriceOfRow.holds Try.pinned (OpenSpec.ofChange fnExactPriceOfWrong)

/-- 'laws.FnExactPriceFind': WHATEVER THE INPUT: true; the input reads as it did. -/
def fnExactPriceFindSpec : ChangeSpec := { name := "fnExactPriceFind", fn := fun _ => fun
  | [d] => { results := [.lit (.bool true)], args := [d] }
  | _ => none }
def fnExactPriceFindRow : OpenClaim := { program := "ytlidobacehbecaa", sum := "e6019f2b9f17ca19d34f56e20ef67766bec35961a615bf50f535d508d3df715f", func := "loop.example/tradecircles/laws.FnExactPriceFind", spec := "fnExactPriceFind", unfollowed := true, recurses := true, apart := false }
def FnExactPriceFindSaid : Prop := fnExactPriceFindRow.holds Try.pinned (OpenSpec.ofChange fnExactPriceFindSpec)

/-- ITS FALSE NEIGHBOUR: 'it returns false'. Refute it at one input. -/
def fnExactPriceFindWrong : ChangeSpec := { name := "fnExactPriceFind", fn := fun _ => fun
  | [d] => { results := [.lit (.bool false)], args := [d] }
  | _ => none }
def FnExactPriceFindWrongFalsely : Prop := fnExactPriceFindRow.holds Try.pinned (OpenSpec.ofChange fnExactPriceFindWrong)

/-- 'laws.FnExactPriceTable': WHATEVER THE INPUT: true; the input reads as it did. -/
def fnExactPriceTableSpec : ChangeSpec := { name := "fnExactPriceTable", fn := fun _ => fun
  | [d] => { results := [.lit (.bool true)], args := [d] }
  | _ => none }
def fnExactPriceTableRow : OpenClaim := { program := "ytlidobacehbecaa", sum := "e6019f2b9f17ca19d34f56e20ef67766bec35961a615bf50f535d508d3df715f", func := "loop.example/tradecircles/laws.FnExactPriceTable", spec := "fnExactPriceTable", apart := false }
def FnExactPriceTableSaid : Prop := fnExactPriceTableRow.holds Try.pinned (OpenSpec.ofChange fnExactPriceTableSpec)

/-- ITS FALSE NEIGHBOUR: 'it returns false'. Refute it at one input. -/
def fnExactPriceTableWrong : ChangeSpec := { name := "fnExactPriceTable", fn := fun _ => fun
  | [d] => { results := [.lit (.bool false)], args := [d] }
  | _ => none }
def FnExactPriceTableWrongFalsely : Prop := fnExactPriceTableRow.holds Try.pinned (OpenSpec.ofChange fnExactPriceTableWrong)

/-- 'laws.FnExactPriceWorth': WHATEVER THE INPUT: true; the input reads as it did. -/
def fnExactPriceWorthSpec : ChangeSpec := { name := "fnExactPriceWorth", fn := fun _ => fun
  | [d1, d2] => { results := [.lit (.bool true)], args := [d1, d2] }
  | _ => none }
def fnExactPriceWorthRow : OpenClaim := { program := "ytlidobacehbecaa", sum := "e6019f2b9f17ca19d34f56e20ef67766bec35961a615bf50f535d508d3df715f", func := "loop.example/tradecircles/laws.FnExactPriceWorth", spec := "fnExactPriceWorth", apart := false }
def FnExactPriceWorthSaid : Prop := fnExactPriceWorthRow.holds Try.pinned (OpenSpec.ofChange fnExactPriceWorthSpec)

/-- ITS FALSE NEIGHBOUR: 'it returns false'. Refute it at one input. -/
def fnExactPriceWorthWrong : ChangeSpec := { name := "fnExactPriceWorth", fn := fun _ => fun
  | [d1, d2] => { results := [.lit (.bool false)], args := [d1, d2] }
  | _ => none }
def FnExactPriceWorthWrongFalsely : Prop := fnExactPriceWorthRow.holds Try.pinned (OpenSpec.ofChange fnExactPriceWorthWrong)

/-- 'laws.FnExactPriceSpread': WHATEVER THE INPUT: true; the input reads as it did. -/
def fnExactPriceSpreadSpec : ChangeSpec := { name := "fnExactPriceSpread", fn := fun _ => fun
  | [d] => { results := [.lit (.bool true)], args := [d] }
  | _ => none }
def fnExactPriceSpreadRow : OpenClaim := { program := "ytlidobacehbecaa", sum := "e6019f2b9f17ca19d34f56e20ef67766bec35961a615bf50f535d508d3df715f", func := "loop.example/tradecircles/laws.FnExactPriceSpread", spec := "fnExactPriceSpread", apart := false }
def FnExactPriceSpreadSaid : Prop := fnExactPriceSpreadRow.holds Try.pinned (OpenSpec.ofChange fnExactPriceSpreadSpec)

/-- ITS FALSE NEIGHBOUR: 'it returns false'. Refute it at one input. -/
def fnExactPriceSpreadWrong : ChangeSpec := { name := "fnExactPriceSpread", fn := fun _ => fun
  | [d] => { results := [.lit (.bool false)], args := [d] }
  | _ => none }
def FnExactPriceSpreadWrongFalsely : Prop := fnExactPriceSpreadRow.holds Try.pinned (OpenSpec.ofChange fnExactPriceSpreadWrong)

/- THE SECOND FORM. 'bulk': how many values and letters a reading holds, each counted each time it is reached (what is shared counts as often as it is met; a slice's spare places count too). A statement '..UptoSaid' is the law's where the arguments, and the package variables that the reading takes, are together of bulk at most 1048576: NARROWER than '..Said'. Prove '..Said' where nothing that the law and all that it calls make is longer than what came in: it says more and counts as full. Else prove '..UptoSaid'. A law counts once. -/
mutual
def uptoBulk {H : Type} : DataW H → Nat
  | .lit (.string bytes) => bytes.length + 1
  | .lit _ => 1
  | .nil => 1
  | .ptr d => uptoBulk d + 1
  | .slice elems spare => uptoBulkAll elems + uptoBulkAll spare + 1
  | .agg parts => uptoBulkAll parts + 1
  | .iface _ d => uptoBulk d + 1
  | .map entries => uptoBulkEntries entries + 1
  | .held _ => 1
def uptoBulkAll {H : Type} : List (DataW H) → Nat
  | [] => 0
  | d :: r => uptoBulk d + uptoBulkAll r
def uptoBulkEntries {H : Type} : List (Lit × DataW H) → Nat
  | [] => 0
  | x :: r => uptoBulkEntry x + uptoBulkEntries r
def uptoBulkEntry {H : Type} : Lit × DataW H → Nat
  | (.string bytes, d) => bytes.length + uptoBulk d + 1
  | (_, d) => uptoBulk d + 1
 end
def uptoSmall : (H : Type) → List (DataW H) → Bool := fun _ ds => decide (uptoBulkAll ds ≤ 1048576)
def OpenSpec.upto (s : _root_.Go.ChangeSpec) : _root_.Go.OpenSpec := { _root_.Go.OpenSpec.ofChange s with cond := some uptoSmall }

/-- 'laws.FnWorth', WHERE WHAT IT READS IS OF BULK AT MOST 1048576: true; the input reads as it did. -/
def fnWorthUptoRow : OpenClaim := { program := "ytlidobacehbecaa", sum := "e6019f2b9f17ca19d34f56e20ef67766bec35961a615bf50f535d508d3df715f", func := "loop.example/tradecircles/laws.FnWorth", spec := "fnWorth", apart := false, narrowed := true }
def FnWorthUptoSaid : Prop := fnWorthUptoRow.holds Try.pinned (OpenSpec.upto fnWorthSpec)

/-- 'laws.FnExactRateGains', WHERE WHAT IT READS IS OF BULK AT MOST 1048576: true; the input reads as it did. -/
def fnExactRateGainsUptoRow : OpenClaim := { program := "ytlidobacehbecaa", sum := "e6019f2b9f17ca19d34f56e20ef67766bec35961a615bf50f535d508d3df715f", func := "loop.example/tradecircles/laws.FnExactRateGains", spec := "fnExactRateGains", unfollowed := true, recurses := true, apart := false, narrowed := true }
def FnExactRateGainsUptoSaid : Prop := fnExactRateGainsUptoRow.holds Try.pinned (OpenSpec.upto fnExactRateGainsSpec)

/-- 'laws.FnExactRateFirst', WHERE WHAT IT READS IS OF BULK AT MOST 1048576: true; the input reads as it did. -/
def fnExactRateFirstUptoRow : OpenClaim := { program := "ytlidobacehbecaa", sum := "e6019f2b9f17ca19d34f56e20ef67766bec35961a615bf50f535d508d3df715f", func := "loop.example/tradecircles/laws.FnExactRateFirst", spec := "fnExactRateFirst", unfollowed := true, recurses := true, apart := false, narrowed := true }
def FnExactRateFirstUptoSaid : Prop := fnExactRateFirstUptoRow.holds Try.pinned (OpenSpec.upto fnExactRateFirstSpec)

/-- 'laws.FnExactRateFair', WHERE WHAT IT READS IS OF BULK AT MOST 1048576: true; the input reads as it did. -/
def fnExactRateFairUptoRow : OpenClaim := { program := "ytlidobacehbecaa", sum := "e6019f2b9f17ca19d34f56e20ef67766bec35961a615bf50f535d508d3df715f", func := "loop.example/tradecircles/laws.FnExactRateFair", spec := "fnExactRateFair", recurses := true, apart := false, narrowed := true }
def FnExactRateFairUptoSaid : Prop := fnExactRateFairUptoRow.holds Try.pinned (OpenSpec.upto fnExactRateFairSpec)

/-- 'laws.FnExactPriceIn', WHERE WHAT IT READS IS OF BULK AT MOST 1048576: true; the input reads as it did. -/
def fnExactPriceInUptoRow : OpenClaim := { program := "ytlidobacehbecaa", sum := "e6019f2b9f17ca19d34f56e20ef67766bec35961a615bf50f535d508d3df715f", func := "loop.example/tradecircles/laws.FnExactPriceIn", spec := "fnExactPriceIn", apart := false, narrowed := true }
def FnExactPriceInUptoSaid : Prop := fnExactPriceInUptoRow.holds Try.pinned (OpenSpec.upto fnExactPriceInSpec)

/-- 'laws.FnExactPriceFits', WHERE WHAT IT READS IS OF BULK AT MOST 1048576: true; the input reads as it did. -/
def fnExactPriceFitsUptoRow : OpenClaim := { program := "ytlidobacehbecaa", sum := "e6019f2b9f17ca19d34f56e20ef67766bec35961a615bf50f535d508d3df715f", func := "loop.example/tradecircles/laws.FnExactPriceFits", spec := "fnExactPriceFits", apart := false, narrowed := true }
def FnExactPriceFitsUptoSaid : Prop := fnExactPriceFitsUptoRow.holds Try.pinned (OpenSpec.upto fnExactPriceFitsSpec)

/-- 'laws.FnExactPriceHolds', WHERE WHAT IT READS IS OF BULK AT MOST 1048576: true; the input reads as it did. -/
def fnExactPriceHoldsUptoRow : OpenClaim := { program := "ytlidobacehbecaa", sum := "e6019f2b9f17ca19d34f56e20ef67766bec35961a615bf50f535d508d3df715f", func := "loop.example/tradecircles/laws.FnExactPriceHolds", spec := "fnExactPriceHolds", apart := false, narrowed := true }
def FnExactPriceHoldsUptoSaid : Prop := fnExactPriceHoldsUptoRow.holds Try.pinned (OpenSpec.upto fnExactPriceHoldsSpec)

/-- 'laws.FnExactPriceOf', WHERE WHAT IT READS IS OF BULK AT MOST 1048576: true; the input reads as it did. -/
def fnExactPriceOfUptoRow : OpenClaim := { program := "ytlidobacehbecaa", sum := "e6019f2b9f17ca19d34f56e20ef67766bec35961a615bf50f535d508d3df715f", func := "loop.example/tradecircles/laws.FnExactPriceOf", spec := "fnExactPriceOf", recurses := true, apart := false, narrowed := true }
def FnExactPriceOfUptoSaid : Prop := fnExactPriceOfUptoRow.holds Try.pinned (OpenSpec.upto fnExactPriceOfSpec)

/-- 'laws.FnExactPriceFind', WHERE WHAT IT READS IS OF BULK AT MOST 1048576: true; the input reads as it did. -/
def fnExactPriceFindUptoRow : OpenClaim := { program := "ytlidobacehbecaa", sum := "e6019f2b9f17ca19d34f56e20ef67766bec35961a615bf50f535d508d3df715f", func := "loop.example/tradecircles/laws.FnExactPriceFind", spec := "fnExactPriceFind", unfollowed := true, recurses := true, apart := false, narrowed := true }
def FnExactPriceFindUptoSaid : Prop := fnExactPriceFindUptoRow.holds Try.pinned (OpenSpec.upto fnExactPriceFindSpec)

/-- 'laws.FnExactPriceTable', WHERE WHAT IT READS IS OF BULK AT MOST 1048576: true; the input reads as it did. -/
def fnExactPriceTableUptoRow : OpenClaim := { program := "ytlidobacehbecaa", sum := "e6019f2b9f17ca19d34f56e20ef67766bec35961a615bf50f535d508d3df715f", func := "loop.example/tradecircles/laws.FnExactPriceTable", spec := "fnExactPriceTable", apart := false, narrowed := true }
def FnExactPriceTableUptoSaid : Prop := fnExactPriceTableUptoRow.holds Try.pinned (OpenSpec.upto fnExactPriceTableSpec)

/-- 'laws.FnExactPriceWorth', WHERE WHAT IT READS IS OF BULK AT MOST 1048576: true; the input reads as it did. -/
def fnExactPriceWorthUptoRow : OpenClaim := { program := "ytlidobacehbecaa", sum := "e6019f2b9f17ca19d34f56e20ef67766bec35961a615bf50f535d508d3df715f", func := "loop.example/tradecircles/laws.FnExactPriceWorth", spec := "fnExactPriceWorth", apart := false, narrowed := true }
def FnExactPriceWorthUptoSaid : Prop := fnExactPriceWorthUptoRow.holds Try.pinned (OpenSpec.upto fnExactPriceWorthSpec)

/-- 'laws.FnExactPriceSpread', WHERE WHAT IT READS IS OF BULK AT MOST 1048576: true; the input reads as it did. -/
def fnExactPriceSpreadUptoRow : OpenClaim := { program := "ytlidobacehbecaa", sum := "e6019f2b9f17ca19d34f56e20ef67766bec35961a615bf50f535d508d3df715f", func := "loop.example/tradecircles/laws.FnExactPriceSpread", spec := "fnExactPriceSpread", apart := false, narrowed := true }
def FnExactPriceSpreadUptoSaid : Prop := fnExactPriceSpreadUptoRow.holds Try.pinned (OpenSpec.upto fnExactPriceSpreadSpec)

end Rows
end Go.Proofs.Ytlidobacehbecaa
