/-
  No cell of these rows narrows 'for every input' (looked for: loops, veiled, ifaces, maps, wideKeys, modest, calm, conditions, laid).
  DERIVED. THE GIVEN ROWS OF THIS SEAT. 12 by the template 'for every input the law returns true; each argument reads behind the call as it read before'; 0 by the template 'total and deterministic' (their statements: YtfkadkgjhmienaaTotals.lean).
  GIVEN WITH THE SEED: the statements are not yours to turn. If you find one false, say at which input.
  Laid BY PROGRAM, IN A SANDBOX (cutbox-rows.mjs): the forced cells as the released guide's own fill.sh prints them over the translation b65d3eec8875170b… (all of the seat's roots in one cut). By AI agents, Wed Nov 11 2026. No macro, syntax, notation, axiom, sorry.
-/
import Derived.Test.YtfkadkgjhmienaaChecked
import GoSem.Claim
import GoSem.ClaimJoined
import GoSem.ClaimMapViews
import Derived.JoinedTies
import Derived.KernelRfl
namespace Go.Proofs.Ytfkadkgjhmienaa
/- THE CELL 'sum', in the pinned program and in every row, IS THE sha256 OF THE DUMP (.gsa) THAT YtfkadkgjhmienaaProg.lean LOADS. Nothing in Lean hashes anything: it is a label: what it is worth is what the hold of that sum in a sandbox is worth. -/
noncomputable def Try.pinned : Pinned := { name := "ytfkadkgjhmienaa", sum := "b65d3eec8875170bd14e4cd0f37ef7aab13718342e8d49f55e127e673f55b0f3", checked := Try.checked }
namespace Rows
def none {H : Type} : Left H := { results := [], args := [] }

/-- 'laws.FnRateFirst': WHATEVER THE INPUT: true; the input reads as it did. -/
def fnRateFirstSpec : ChangeSpec := { name := "fnRateFirst", fn := fun _ => fun
  | [d] => { results := [.lit (.bool true)], args := [d] }
  | _ => none }
def fnRateFirstRow : OpenClaim := { program := "ytfkadkgjhmienaa", sum := "b65d3eec8875170bd14e4cd0f37ef7aab13718342e8d49f55e127e673f55b0f3", func := "loop.example/tradecircles/laws.FnRateFirst", spec := "fnRateFirst", unfollowed := true, recurses := true, apart := false }
def FnRateFirstSaid : Prop := fnRateFirstRow.holds Try.pinned (OpenSpec.ofChange fnRateFirstSpec)

/-- ITS FALSE NEIGHBOUR: 'it returns false'. Refute it at one input. -/
def fnRateFirstWrong : ChangeSpec := { name := "fnRateFirst", fn := fun _ => fun
  | [d] => { results := [.lit (.bool false)], args := [d] }
  | _ => none }
def FnRateFirstWrongFalsely : Prop := fnRateFirstRow.holds Try.pinned (OpenSpec.ofChange fnRateFirstWrong)

/-- 'laws.FnExactRateIn': WHATEVER THE INPUT: true; the input reads as it did. -/
def fnExactRateInSpec : ChangeSpec := { name := "fnExactRateIn", fn := fun _ => fun
  | [d] => { results := [.lit (.bool true)], args := [d] }
  | _ => none }
def fnExactRateInRow : OpenClaim := { program := "ytfkadkgjhmienaa", sum := "b65d3eec8875170bd14e4cd0f37ef7aab13718342e8d49f55e127e673f55b0f3", func := "loop.example/tradecircles/laws.FnExactRateIn", spec := "fnExactRateIn", apart := false }
def FnExactRateInSaid : Prop := fnExactRateInRow.holds Try.pinned (OpenSpec.ofChange fnExactRateInSpec)

/-- ITS FALSE NEIGHBOUR: 'it returns false'. Refute it at one input. -/
def fnExactRateInWrong : ChangeSpec := { name := "fnExactRateIn", fn := fun _ => fun
  | [d] => { results := [.lit (.bool false)], args := [d] }
  | _ => none }
def FnExactRateInWrongFalsely : Prop := fnExactRateInRow.holds Try.pinned (OpenSpec.ofChange fnExactRateInWrong)

/-- 'laws.FnExactRateWay': WHATEVER THE INPUT: true; the input reads as it did. -/
def fnExactRateWaySpec : ChangeSpec := { name := "fnExactRateWay", fn := fun _ => fun
  | [d1, d2] => { results := [.lit (.bool true)], args := [d1, d2] }
  | _ => none }
def fnExactRateWayRow : OpenClaim := { program := "ytfkadkgjhmienaa", sum := "b65d3eec8875170bd14e4cd0f37ef7aab13718342e8d49f55e127e673f55b0f3", func := "loop.example/tradecircles/laws.FnExactRateWay", spec := "fnExactRateWay", apart := false }
def FnExactRateWaySaid : Prop := fnExactRateWayRow.holds Try.pinned (OpenSpec.ofChange fnExactRateWaySpec)

/-- ITS FALSE NEIGHBOUR: 'it returns false'. Refute it at one input. -/
def fnExactRateWayWrong : ChangeSpec := { name := "fnExactRateWay", fn := fun _ => fun
  | [d1, d2] => { results := [.lit (.bool false)], args := [d1, d2] }
  | _ => none }
def FnExactRateWayWrongFalsely : Prop := fnExactRateWayRow.holds Try.pinned (OpenSpec.ofChange fnExactRateWayWrong)

/-- 'laws.FnExactRateRound': WHATEVER THE INPUT: true; the input reads as it did. -/
def fnExactRateRoundSpec : ChangeSpec := { name := "fnExactRateRound", fn := fun _ => fun
  | [d1, d2] => { results := [.lit (.bool true)], args := [d1, d2] }
  | _ => none }
def fnExactRateRoundRow : OpenClaim := { program := "ytfkadkgjhmienaa", sum := "b65d3eec8875170bd14e4cd0f37ef7aab13718342e8d49f55e127e673f55b0f3", func := "loop.example/tradecircles/laws.FnExactRateRound", spec := "fnExactRateRound", apart := false }
def FnExactRateRoundSaid : Prop := fnExactRateRoundRow.holds Try.pinned (OpenSpec.ofChange fnExactRateRoundSpec)

/-- ITS FALSE NEIGHBOUR: 'it returns false'. Refute it at one input. -/
def fnExactRateRoundWrong : ChangeSpec := { name := "fnExactRateRound", fn := fun _ => fun
  | [d1, d2] => { results := [.lit (.bool false)], args := [d1, d2] }
  | _ => none }
def FnExactRateRoundWrongFalsely : Prop := fnExactRateRoundRow.holds Try.pinned (OpenSpec.ofChange fnExactRateRoundWrong)

/-- 'laws.FnExactRateGains': WHATEVER THE INPUT: true; the input reads as it did. -/
def fnExactRateGainsSpec : ChangeSpec := { name := "fnExactRateGains", fn := fun _ => fun
  | [d] => { results := [.lit (.bool true)], args := [d] }
  | _ => none }
def fnExactRateGainsRow : OpenClaim := { program := "ytfkadkgjhmienaa", sum := "b65d3eec8875170bd14e4cd0f37ef7aab13718342e8d49f55e127e673f55b0f3", func := "loop.example/tradecircles/laws.FnExactRateGains", spec := "fnExactRateGains", unfollowed := true, recurses := true, apart := false }
def FnExactRateGainsSaid : Prop := fnExactRateGainsRow.holds Try.pinned (OpenSpec.ofChange fnExactRateGainsSpec)

/-- ITS FALSE NEIGHBOUR: 'it returns false'. Refute it at one input. -/
def fnExactRateGainsWrong : ChangeSpec := { name := "fnExactRateGains", fn := fun _ => fun
  | [d] => { results := [.lit (.bool false)], args := [d] }
  | _ => none }
def FnExactRateGainsWrongFalsely : Prop := fnExactRateGainsRow.holds Try.pinned (OpenSpec.ofChange fnExactRateGainsWrong)

/-- 'laws.FnExactRateRounds': WHATEVER THE INPUT: true; the input reads as it did. -/
def fnExactRateRoundsSpec : ChangeSpec := { name := "fnExactRateRounds", fn := fun _ => fun
  | [d] => { results := [.lit (.bool true)], args := [d] }
  | _ => none }
def fnExactRateRoundsRow : OpenClaim := { program := "ytfkadkgjhmienaa", sum := "b65d3eec8875170bd14e4cd0f37ef7aab13718342e8d49f55e127e673f55b0f3", func := "loop.example/tradecircles/laws.FnExactRateRounds", spec := "fnExactRateRounds", unfollowed := true, recurses := true, apart := false }
def FnExactRateRoundsSaid : Prop := fnExactRateRoundsRow.holds Try.pinned (OpenSpec.ofChange fnExactRateRoundsSpec)

/-- ITS FALSE NEIGHBOUR: 'it returns false'. Refute it at one input. -/
def fnExactRateRoundsWrong : ChangeSpec := { name := "fnExactRateRounds", fn := fun _ => fun
  | [d] => { results := [.lit (.bool false)], args := [d] }
  | _ => none }
def FnExactRateRoundsWrongFalsely : Prop := fnExactRateRoundsRow.holds Try.pinned (OpenSpec.ofChange fnExactRateRoundsWrong)

/-- 'laws.FnExactRateFirst': WHATEVER THE INPUT: true; the input reads as it did. -/
def fnExactRateFirstSpec : ChangeSpec := { name := "fnExactRateFirst", fn := fun _ => fun
  | [d] => { results := [.lit (.bool true)], args := [d] }
  | _ => none }
def fnExactRateFirstRow : OpenClaim := { program := "ytfkadkgjhmienaa", sum := "b65d3eec8875170bd14e4cd0f37ef7aab13718342e8d49f55e127e673f55b0f3", func := "loop.example/tradecircles/laws.FnExactRateFirst", spec := "fnExactRateFirst", unfollowed := true, recurses := true, apart := false }
def FnExactRateFirstSaid : Prop := fnExactRateFirstRow.holds Try.pinned (OpenSpec.ofChange fnExactRateFirstSpec)

/-- ITS FALSE NEIGHBOUR: 'it returns false'. Refute it at one input. -/
def fnExactRateFirstWrong : ChangeSpec := { name := "fnExactRateFirst", fn := fun _ => fun
  | [d] => { results := [.lit (.bool false)], args := [d] }
  | _ => none }
def FnExactRateFirstWrongFalsely : Prop := fnExactRateFirstRow.holds Try.pinned (OpenSpec.ofChange fnExactRateFirstWrong)

/-- 'laws.FnExactRateBest': WHATEVER THE INPUT: true; the input reads as it did. -/
def fnExactRateBestSpec : ChangeSpec := { name := "fnExactRateBest", fn := fun _ => fun
  | [d1, d2, d3] => { results := [.lit (.bool true)], args := [d1, d2, d3] }
  | _ => none }
def fnExactRateBestRow : OpenClaim := { program := "ytfkadkgjhmienaa", sum := "b65d3eec8875170bd14e4cd0f37ef7aab13718342e8d49f55e127e673f55b0f3", func := "loop.example/tradecircles/laws.FnExactRateBest", spec := "fnExactRateBest", unfollowed := true, recurses := true, apart := false }
def FnExactRateBestSaid : Prop := fnExactRateBestRow.holds Try.pinned (OpenSpec.ofChange fnExactRateBestSpec)

/-- ITS FALSE NEIGHBOUR: 'it returns false'. Refute it at one input. -/
def fnExactRateBestWrong : ChangeSpec := { name := "fnExactRateBest", fn := fun _ => fun
  | [d1, d2, d3] => { results := [.lit (.bool false)], args := [d1, d2, d3] }
  | _ => none }
def FnExactRateBestWrongFalsely : Prop := fnExactRateBestRow.holds Try.pinned (OpenSpec.ofChange fnExactRateBestWrong)

/-- 'laws.FnExactRateStep': WHATEVER THE INPUT: true; the input reads as it did. -/
def fnExactRateStepSpec : ChangeSpec := { name := "fnExactRateStep", fn := fun _ => fun
  | [d1, d2, d3] => { results := [.lit (.bool true)], args := [d1, d2, d3] }
  | _ => none }
def fnExactRateStepRow : OpenClaim := { program := "ytfkadkgjhmienaa", sum := "b65d3eec8875170bd14e4cd0f37ef7aab13718342e8d49f55e127e673f55b0f3", func := "loop.example/tradecircles/laws.FnExactRateStep", spec := "fnExactRateStep", apart := false }
def FnExactRateStepSaid : Prop := fnExactRateStepRow.holds Try.pinned (OpenSpec.ofChange fnExactRateStepSpec)

/-- ITS FALSE NEIGHBOUR: 'it returns false'. Refute it at one input. -/
def fnExactRateStepWrong : ChangeSpec := { name := "fnExactRateStep", fn := fun _ => fun
  | [d1, d2, d3] => { results := [.lit (.bool false)], args := [d1, d2, d3] }
  | _ => none }
def FnExactRateStepWrongFalsely : Prop := fnExactRateStepRow.holds Try.pinned (OpenSpec.ofChange fnExactRateStepWrong)

/-- 'laws.FnExactRateFair': WHATEVER THE INPUT: true; the input reads as it did. -/
def fnExactRateFairSpec : ChangeSpec := { name := "fnExactRateFair", fn := fun _ => fun
  | [d] => { results := [.lit (.bool true)], args := [d] }
  | _ => none }
def fnExactRateFairRow : OpenClaim := { program := "ytfkadkgjhmienaa", sum := "b65d3eec8875170bd14e4cd0f37ef7aab13718342e8d49f55e127e673f55b0f3", func := "loop.example/tradecircles/laws.FnExactRateFair", spec := "fnExactRateFair", recurses := true, apart := false }
def FnExactRateFairSaid : Prop := fnExactRateFairRow.holds Try.pinned (OpenSpec.ofChange fnExactRateFairSpec)

/-- ITS FALSE NEIGHBOUR: 'it returns false'. Refute it at one input. -/
def fnExactRateFairWrong : ChangeSpec := { name := "fnExactRateFair", fn := fun _ => fun
  | [d] => { results := [.lit (.bool false)], args := [d] }
  | _ => none }
def FnExactRateFairWrongFalsely : Prop := fnExactRateFairRow.holds Try.pinned (OpenSpec.ofChange fnExactRateFairWrong)

/-- 'laws.FnExactRateTurn': WHATEVER THE INPUT: true; the input reads as it did. -/
def fnExactRateTurnSpec : ChangeSpec := { name := "fnExactRateTurn", fn := fun _ => fun
  | [d] => { results := [.lit (.bool true)], args := [d] }
  | _ => none }
def fnExactRateTurnRow : OpenClaim := { program := "ytfkadkgjhmienaa", sum := "b65d3eec8875170bd14e4cd0f37ef7aab13718342e8d49f55e127e673f55b0f3", func := "loop.example/tradecircles/laws.FnExactRateTurn", spec := "fnExactRateTurn", apart := false }
def FnExactRateTurnSaid : Prop := fnExactRateTurnRow.holds Try.pinned (OpenSpec.ofChange fnExactRateTurnSpec)

/-- ITS FALSE NEIGHBOUR: 'it returns false'. Refute it at one input. -/
def fnExactRateTurnWrong : ChangeSpec := { name := "fnExactRateTurn", fn := fun _ => fun
  | [d] => { results := [.lit (.bool false)], args := [d] }
  | _ => none }
def FnExactRateTurnWrongFalsely : Prop := fnExactRateTurnRow.holds Try.pinned (OpenSpec.ofChange fnExactRateTurnWrong)

/-- 'laws.FnExactRateNamed': WHATEVER THE INPUT: true; the input reads as it did. -/
def fnExactRateNamedSpec : ChangeSpec := { name := "fnExactRateNamed", fn := fun _ => fun
  | [d1, d2] => { results := [.lit (.bool true)], args := [d1, d2] }
  | _ => none }
def fnExactRateNamedRow : OpenClaim := { program := "ytfkadkgjhmienaa", sum := "b65d3eec8875170bd14e4cd0f37ef7aab13718342e8d49f55e127e673f55b0f3", func := "loop.example/tradecircles/laws.FnExactRateNamed", spec := "fnExactRateNamed", apart := false }
def FnExactRateNamedSaid : Prop := fnExactRateNamedRow.holds Try.pinned (OpenSpec.ofChange fnExactRateNamedSpec)

/-- ITS FALSE NEIGHBOUR: 'it returns false'. Refute it at one input. -/
def fnExactRateNamedWrong : ChangeSpec := { name := "fnExactRateNamed", fn := fun _ => fun
  | [d1, d2] => { results := [.lit (.bool false)], args := [d1, d2] }
  | _ => none }
def FnExactRateNamedWrongFalsely : Prop := fnExactRateNamedRow.holds Try.pinned (OpenSpec.ofChange fnExactRateNamedWrong)

/- THE SECOND FORM. 'bulk': how many values and letters a reading holds, each counted each time it is reached (what is shared counts as often as it is met; a slice's spare places count too). A statement '..UptoSaid' is the law's where the arguments, and the package variables that the reading takes, are together of bulk at most 1048576: NARROWER than '..Said'. Prove '..Said' where nothing that the law and all that it calls make is longer than what came in: it says more and counts as full. Else prove '..UptoSaid'. A law counts once. -/
mutual
def uptoBulk {H : Type} : DataW H → Nat
  | .lit (.string bytes) => bytes.length + 1
  | .lit _ => 1
  | .nil => 1
  | .ptr d => uptoBulk d + 1
  | .slice elems spare => uptoBulkAll elems + uptoBulkAll spare + 1
  | .agg parts => uptoBulkAll parts + 1
  | .iface _ d => uptoBulk d + 1
  | .map entries => uptoBulkEntries entries + 1
  | .held _ => 1
def uptoBulkAll {H : Type} : List (DataW H) → Nat
  | [] => 0
  | d :: r => uptoBulk d + uptoBulkAll r
def uptoBulkEntries {H : Type} : List (Lit × DataW H) → Nat
  | [] => 0
  | x :: r => uptoBulkEntry x + uptoBulkEntries r
def uptoBulkEntry {H : Type} : Lit × DataW H → Nat
  | (.string bytes, d) => bytes.length + uptoBulk d + 1
  | (_, d) => uptoBulk d + 1
 end
def uptoSmall : (H : Type) → List (DataW H) → Bool := fun _ ds => decide (uptoBulkAll ds ≤ 1048576)
def OpenSpec.upto (s : _root_.Go.ChangeSpec) : _root_.Go.OpenSpec := { _root_.Go.OpenSpec.ofChange s with cond := some uptoSmall }

/-- 'laws.FnRateFirst', WHERE WHAT IT READS IS OF BULK AT MOST 1048576: true; the input reads as it did. -/
def fnRateFirstUptoRow : OpenClaim := { program := "ytfkadkgjhmienaa", sum := "b65d3eec8875170bd14e4cd0f37ef7aab13718342e8d49f55e127e673f55b0f3", func := "loop.example/tradecircles/laws.FnRateFirst", spec := "fnRateFirst", unfollowed := true, recurses := true, apart := false, narrowed := true }
def FnRateFirstUptoSaid : Prop := fnRateFirstUptoRow.holds Try.pinned (OpenSpec.upto fnRateFirstSpec)

/-- 'laws.FnExactRateIn', WHERE WHAT IT READS IS OF BULK AT MOST 1048576: true; the input reads as it did. -/
def fnExactRateInUptoRow : OpenClaim := { program := "ytfkadkgjhmienaa", sum := "b65d3eec8875170bd14e4cd0f37ef7aab13718342e8d49f55e127e673f55b0f3", func := "loop.example/tradecircles/laws.FnExactRateIn", spec := "fnExactRateIn", apart := false, narrowed := true }
def FnExactRateInUptoSaid : Prop := fnExactRateInUptoRow.holds Try.pinned (OpenSpec.upto fnExactRateInSpec)

/-- 'laws.FnExactRateWay', WHERE WHAT IT READS IS OF BULK AT MOST 1048576: true; the input reads as it did. -/
def fnExactRateWayUptoRow : OpenClaim := { program := "ytfkadkgjhmienaa", sum := "b65d3eec8875170bd14e4cd0f37ef7aab13718342e8d49f55e127e673f55b0f3", func := "loop.example/tradecircles/laws.FnExactRateWay", spec := "fnExactRateWay", apart := false, narrowed := true }
def FnExactRateWayUptoSaid : Prop := fnExactRateWayUptoRow.holds Try.pinned (OpenSpec.upto fnExactRateWaySpec)

/-- 'laws.FnExactRateRound', WHERE WHAT IT READS IS OF BULK AT MOST 1048576: true; the input reads as it did. -/
def fnExactRateRoundUptoRow : OpenClaim := { program := "ytfkadkgjhmienaa", sum := "b65d3eec8875170bd14e4cd0f37ef7aab13718342e8d49f55e127e673f55b0f3", func := "loop.example/tradecircles/laws.FnExactRateRound", spec := "fnExactRateRound", apart := false, narrowed := true }
def FnExactRateRoundUptoSaid : Prop := fnExactRateRoundUptoRow.holds Try.pinned (OpenSpec.upto fnExactRateRoundSpec)

/-- 'laws.FnExactRateGains', WHERE WHAT IT READS IS OF BULK AT MOST 1048576: true; the input reads as it did. -/
def fnExactRateGainsUptoRow : OpenClaim := { program := "ytfkadkgjhmienaa", sum := "b65d3eec8875170bd14e4cd0f37ef7aab13718342e8d49f55e127e673f55b0f3", func := "loop.example/tradecircles/laws.FnExactRateGains", spec := "fnExactRateGains", unfollowed := true, recurses := true, apart := false, narrowed := true }
def FnExactRateGainsUptoSaid : Prop := fnExactRateGainsUptoRow.holds Try.pinned (OpenSpec.upto fnExactRateGainsSpec)

/-- 'laws.FnExactRateRounds', WHERE WHAT IT READS IS OF BULK AT MOST 1048576: true; the input reads as it did. -/
def fnExactRateRoundsUptoRow : OpenClaim := { program := "ytfkadkgjhmienaa", sum := "b65d3eec8875170bd14e4cd0f37ef7aab13718342e8d49f55e127e673f55b0f3", func := "loop.example/tradecircles/laws.FnExactRateRounds", spec := "fnExactRateRounds", unfollowed := true, recurses := true, apart := false, narrowed := true }
def FnExactRateRoundsUptoSaid : Prop := fnExactRateRoundsUptoRow.holds Try.pinned (OpenSpec.upto fnExactRateRoundsSpec)

/-- 'laws.FnExactRateFirst', WHERE WHAT IT READS IS OF BULK AT MOST 1048576: true; the input reads as it did. -/
def fnExactRateFirstUptoRow : OpenClaim := { program := "ytfkadkgjhmienaa", sum := "b65d3eec8875170bd14e4cd0f37ef7aab13718342e8d49f55e127e673f55b0f3", func := "loop.example/tradecircles/laws.FnExactRateFirst", spec := "fnExactRateFirst", unfollowed := true, recurses := true, apart := false, narrowed := true }
def FnExactRateFirstUptoSaid : Prop := fnExactRateFirstUptoRow.holds Try.pinned (OpenSpec.upto fnExactRateFirstSpec)

/-- 'laws.FnExactRateBest', WHERE WHAT IT READS IS OF BULK AT MOST 1048576: true; the input reads as it did. -/
def fnExactRateBestUptoRow : OpenClaim := { program := "ytfkadkgjhmienaa", sum := "b65d3eec8875170bd14e4cd0f37ef7aab13718342e8d49f55e127e673f55b0f3", func := "loop.example/tradecircles/laws.FnExactRateBest", spec := "fnExactRateBest", unfollowed := true, recurses := true, apart := false, narrowed := true }
def FnExactRateBestUptoSaid : Prop := fnExactRateBestUptoRow.holds Try.pinned (OpenSpec.upto fnExactRateBestSpec)

/-- 'laws.FnExactRateStep', WHERE WHAT IT READS IS OF BULK AT MOST 1048576: true; the input reads as it did. -/
def fnExactRateStepUptoRow : OpenClaim := { program := "ytfkadkgjhmienaa", sum := "b65d3eec8875170bd14e4cd0f37ef7aab13718342e8d49f55e127e673f55b0f3", func := "loop.example/tradecircles/laws.FnExactRateStep", spec := "fnExactRateStep", apart := false, narrowed := true }
def FnExactRateStepUptoSaid : Prop := fnExactRateStepUptoRow.holds Try.pinned (OpenSpec.upto fnExactRateStepSpec)

/-- 'laws.FnExactRateFair', WHERE WHAT IT READS IS OF BULK AT MOST 1048576: true; the input reads as it did. -/
def fnExactRateFairUptoRow : OpenClaim := { program := "ytfkadkgjhmienaa", sum := "b65d3eec8875170bd14e4cd0f37ef7aab13718342e8d49f55e127e673f55b0f3", func := "loop.example/tradecircles/laws.FnExactRateFair", spec := "fnExactRateFair", recurses := true, apart := false, narrowed := true }
def FnExactRateFairUptoSaid : Prop := fnExactRateFairUptoRow.holds Try.pinned (OpenSpec.upto fnExactRateFairSpec)

/-- 'laws.FnExactRateTurn', WHERE WHAT IT READS IS OF BULK AT MOST 1048576: true; the input reads as it did. -/
def fnExactRateTurnUptoRow : OpenClaim := { program := "ytfkadkgjhmienaa", sum := "b65d3eec8875170bd14e4cd0f37ef7aab13718342e8d49f55e127e673f55b0f3", func := "loop.example/tradecircles/laws.FnExactRateTurn", spec := "fnExactRateTurn", apart := false, narrowed := true }
def FnExactRateTurnUptoSaid : Prop := fnExactRateTurnUptoRow.holds Try.pinned (OpenSpec.upto fnExactRateTurnSpec)

/-- 'laws.FnExactRateNamed', WHERE WHAT IT READS IS OF BULK AT MOST 1048576: true; the input reads as it did. -/
def fnExactRateNamedUptoRow : OpenClaim := { program := "ytfkadkgjhmienaa", sum := "b65d3eec8875170bd14e4cd0f37ef7aab13718342e8d49f55e127e673f55b0f3", func := "loop.example/tradecircles/laws.FnExactRateNamed", spec := "fnExactRateNamed", apart := false, narrowed := true }
def FnExactRateNamedUptoSaid : Prop := fnExactRateNamedUptoRow.holds Try.pinned (OpenSpec.upto fnExactRateNamedSpec)

end Rows
end Go.Proofs.Ytfkadkgjhmienaa
