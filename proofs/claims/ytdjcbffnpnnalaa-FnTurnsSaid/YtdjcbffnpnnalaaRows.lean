/-
  No cell of these rows narrows 'for every input' (looked for: loops, veiled, ifaces, maps, wideKeys, modest, calm, conditions, laid).
  DERIVED. THE GIVEN ROWS OF THIS SEAT. 8 by the template 'for every input the law returns true; each argument reads behind the call as it read before'; 0 by the template 'total and deterministic' (their statements: YtdjcbffnpnnalaaTotals.lean).
  GIVEN WITH THE SEED: the statements are not yours to turn. If you find one false, say at which input.
  Laid BY PROGRAM, IN A SANDBOX (cutbox-rows.mjs): the forced cells as the released guide's own fill.sh prints them over the translation c086c64ac5f48e6f… (all of the seat's roots in one cut). By AI agents, Wed Nov 11 2026. No macro, syntax, notation, axiom, sorry.
-/
import Derived.Test.YtdjcbffnpnnalaaChecked
import GoSem.Claim
import GoSem.ClaimJoined
import GoSem.ClaimMapViews
import Derived.JoinedTies
import Derived.KernelRfl
namespace Go.Proofs.Ytdjcbffnpnnalaa
/- THE CELL 'sum', in the pinned program and in every row, IS THE sha256 OF THE DUMP (.gsa) THAT YtdjcbffnpnnalaaProg.lean LOADS. Nothing in Lean hashes anything: it is a label: what it is worth is what the hold of that sum in a sandbox is worth. -/
noncomputable def Try.pinned : Pinned := { name := "ytdjcbffnpnnalaa", sum := "c086c64ac5f48e6f90df1b0de2caeb0834984f290f5e33172302ce2630197f77", checked := Try.checked }
namespace Rows
def none {H : Type} : Left H := { results := [], args := [] }

/-- 'laws.FnExactHouseTrade': WHATEVER THE INPUT: true; the input reads as it did. -/
def fnExactHouseTradeSpec : ChangeSpec := { name := "fnExactHouseTrade", fn := fun _ => fun
  | [d] => { results := [.lit (.bool true)], args := [d] }
  | _ => none }
def fnExactHouseTradeRow : OpenClaim := { program := "ytdjcbffnpnnalaa", sum := "c086c64ac5f48e6f90df1b0de2caeb0834984f290f5e33172302ce2630197f77", func := "loop.example/tradecircles/laws.FnExactHouseTrade", spec := "fnExactHouseTrade", unfollowed := true, recurses := true, apart := false }
def FnExactHouseTradeSaid : Prop := fnExactHouseTradeRow.holds Try.pinned (OpenSpec.ofChange fnExactHouseTradeSpec)

/-- ITS FALSE NEIGHBOUR: 'it returns false'. Refute it at one input. -/
def fnExactHouseTradeWrong : ChangeSpec := { name := "fnExactHouseTrade", fn := fun _ => fun
  | [d] => { results := [.lit (.bool false)], args := [d] }
  | _ => none }
def FnExactHouseTradeWrongFalsely : Prop := fnExactHouseTradeRow.holds Try.pinned (OpenSpec.ofChange fnExactHouseTradeWrong)

/-- 'laws.FnExactHouseTurns': WHATEVER THE INPUT: true; the input reads as it did. -/
def fnExactHouseTurnsSpec : ChangeSpec := { name := "fnExactHouseTurns", fn := fun _ => fun
  | [d] => { results := [.lit (.bool true)], args := [d] }
  | _ => none }
def fnExactHouseTurnsRow : OpenClaim := { program := "ytdjcbffnpnnalaa", sum := "c086c64ac5f48e6f90df1b0de2caeb0834984f290f5e33172302ce2630197f77", func := "loop.example/tradecircles/laws.FnExactHouseTurns", spec := "fnExactHouseTurns", unfollowed := true, recurses := true, apart := false }
def FnExactHouseTurnsSaid : Prop := fnExactHouseTurnsRow.holds Try.pinned (OpenSpec.ofChange fnExactHouseTurnsSpec)

/-- ITS FALSE NEIGHBOUR: 'it returns false'. Refute it at one input. -/
def fnExactHouseTurnsWrong : ChangeSpec := { name := "fnExactHouseTurns", fn := fun _ => fun
  | [d] => { results := [.lit (.bool false)], args := [d] }
  | _ => none }
def FnExactHouseTurnsWrongFalsely : Prop := fnExactHouseTurnsRow.holds Try.pinned (OpenSpec.ofChange fnExactHouseTurnsWrong)

/-- 'laws.FnExactHouseGets': WHATEVER THE INPUT: true; the input reads as it did. -/
def fnExactHouseGetsSpec : ChangeSpec := { name := "fnExactHouseGets", fn := fun _ => fun
  | [d1, d2, d3] => { results := [.lit (.bool true)], args := [d1, d2, d3] }
  | _ => none }
def fnExactHouseGetsRow : OpenClaim := { program := "ytdjcbffnpnnalaa", sum := "c086c64ac5f48e6f90df1b0de2caeb0834984f290f5e33172302ce2630197f77", func := "loop.example/tradecircles/laws.FnExactHouseGets", spec := "fnExactHouseGets", unfollowed := true, recurses := true, apart := false }
def FnExactHouseGetsSaid : Prop := fnExactHouseGetsRow.holds Try.pinned (OpenSpec.ofChange fnExactHouseGetsSpec)

/-- ITS FALSE NEIGHBOUR: 'it returns false'. Refute it at one input. -/
def fnExactHouseGetsWrong : ChangeSpec := { name := "fnExactHouseGets", fn := fun _ => fun
  | [d1, d2, d3] => { results := [.lit (.bool false)], args := [d1, d2, d3] }
  | _ => none }
def FnExactHouseGetsWrongFalsely : Prop := fnExactHouseGetsRow.holds Try.pinned (OpenSpec.ofChange fnExactHouseGetsWrong)

/-- 'laws.FnExactHouseCircle': WHATEVER THE INPUT: true; the input reads as it did. -/
def fnExactHouseCircleSpec : ChangeSpec := { name := "fnExactHouseCircle", fn := fun _ => fun
  | [d] => { results := [.lit (.bool true)], args := [d] }
  | _ => none }
def fnExactHouseCircleRow : OpenClaim := { program := "ytdjcbffnpnnalaa", sum := "c086c64ac5f48e6f90df1b0de2caeb0834984f290f5e33172302ce2630197f77", func := "loop.example/tradecircles/laws.FnExactHouseCircle", spec := "fnExactHouseCircle", unfollowed := true, recurses := true, apart := false }
def FnExactHouseCircleSaid : Prop := fnExactHouseCircleRow.holds Try.pinned (OpenSpec.ofChange fnExactHouseCircleSpec)

/-- ITS FALSE NEIGHBOUR: 'it returns false'. Refute it at one input. -/
def fnExactHouseCircleWrong : ChangeSpec := { name := "fnExactHouseCircle", fn := fun _ => fun
  | [d] => { results := [.lit (.bool false)], args := [d] }
  | _ => none }
def FnExactHouseCircleWrongFalsely : Prop := fnExactHouseCircleRow.holds Try.pinned (OpenSpec.ofChange fnExactHouseCircleWrong)

/-- 'laws.FnWishes': WHATEVER THE INPUT: true; the input reads as it did. -/
def fnWishesSpec : ChangeSpec := { name := "fnWishes", fn := fun _ => fun
  | [d] => { results := [.lit (.bool true)], args := [d] }
  | _ => none }
def fnWishesRow : OpenClaim := { program := "ytdjcbffnpnnalaa", sum := "c086c64ac5f48e6f90df1b0de2caeb0834984f290f5e33172302ce2630197f77", func := "loop.example/tradecircles/laws.FnWishes", spec := "fnWishes", unfollowed := true, recurses := true, apart := false }
def FnWishesSaid : Prop := fnWishesRow.holds Try.pinned (OpenSpec.ofChange fnWishesSpec)

/-- ITS FALSE NEIGHBOUR: 'it returns false'. Refute it at one input. -/
def fnWishesWrong : ChangeSpec := { name := "fnWishes", fn := fun _ => fun
  | [d] => { results := [.lit (.bool false)], args := [d] }
  | _ => none }
def FnWishesWrongFalsely : Prop := fnWishesRow.holds Try.pinned (OpenSpec.ofChange fnWishesWrong)

/-- 'laws.FnTurns': WHATEVER THE INPUT: true; the input reads as it did. -/
def fnTurnsSpec : ChangeSpec := { name := "fnTurns", fn := fun _ => fun
  | [d] => { results := [.lit (.bool true)], args := [d] }
  | _ => none }
def fnTurnsRow : OpenClaim := { program := "ytdjcbffnpnnalaa", sum := "c086c64ac5f48e6f90df1b0de2caeb0834984f290f5e33172302ce2630197f77", func := "loop.example/tradecircles/laws.FnTurns", spec := "fnTurns", unfollowed := true, recurses := true, apart := false }
def FnTurnsSaid : Prop := fnTurnsRow.holds Try.pinned (OpenSpec.ofChange fnTurnsSpec)

/-- ITS FALSE NEIGHBOUR: 'it returns false'. Refute it at one input. -/
def fnTurnsWrong : ChangeSpec := { name := "fnTurns", fn := fun _ => fun
  | [d] => { results := [.lit (.bool false)], args := [d] }
  | _ => none }
def FnTurnsWrongFalsely : Prop := fnTurnsRow.holds Try.pinned (OpenSpec.ofChange fnTurnsWrong)

/-- 'laws.FnGets': WHATEVER THE INPUT: true; the input reads as it did. -/
def fnGetsSpec : ChangeSpec := { name := "fnGets", fn := fun _ => fun
  | [d] => { results := [.lit (.bool true)], args := [d] }
  | _ => none }
def fnGetsRow : OpenClaim := { program := "ytdjcbffnpnnalaa", sum := "c086c64ac5f48e6f90df1b0de2caeb0834984f290f5e33172302ce2630197f77", func := "loop.example/tradecircles/laws.FnGets", spec := "fnGets", unfollowed := true, recurses := true, apart := false }
def FnGetsSaid : Prop := fnGetsRow.holds Try.pinned (OpenSpec.ofChange fnGetsSpec)

/-- ITS FALSE NEIGHBOUR: 'it returns false'. Refute it at one input. -/
def fnGetsWrong : ChangeSpec := { name := "fnGets", fn := fun _ => fun
  | [d] => { results := [.lit (.bool false)], args := [d] }
  | _ => none }
def FnGetsWrongFalsely : Prop := fnGetsRow.holds Try.pinned (OpenSpec.ofChange fnGetsWrong)

/-- 'laws.FnHouseCircle': WHATEVER THE INPUT: true; the input reads as it did. -/
def fnHouseCircleSpec : ChangeSpec := { name := "fnHouseCircle", fn := fun _ => fun
  | [d] => { results := [.lit (.bool true)], args := [d] }
  | _ => none }
def fnHouseCircleRow : OpenClaim := { program := "ytdjcbffnpnnalaa", sum := "c086c64ac5f48e6f90df1b0de2caeb0834984f290f5e33172302ce2630197f77", func := "loop.example/tradecircles/laws.FnHouseCircle", spec := "fnHouseCircle", unfollowed := true, recurses := true, apart := false }
def FnHouseCircleSaid : Prop := fnHouseCircleRow.holds Try.pinned (OpenSpec.ofChange fnHouseCircleSpec)

/-- ITS FALSE NEIGHBOUR: 'it returns false'. Refute it at one input. -/
def fnHouseCircleWrong : ChangeSpec := { name := "fnHouseCircle", fn := fun _ => fun
  | [d] => { results := [.lit (.bool false)], args := [d] }
  | _ => none }
def FnHouseCircleWrongFalsely : Prop := fnHouseCircleRow.holds Try.pinned (OpenSpec.ofChange fnHouseCircleWrong)

/- THE SECOND FORM. 'bulk': how many values and letters a reading holds, each counted each time it is reached (what is shared counts as often as it is met; a slice's spare places count too). A statement '..UptoSaid' is the law's where the arguments, and the package variables that the reading takes, are together of bulk at most 1048576: NARROWER than '..Said'. Prove '..Said' where nothing that the law and all that it calls make is longer than what came in: it says more and counts as full. Else prove '..UptoSaid'. A law counts once. -/
mutual
def uptoBulk {H : Type} : DataW H → Nat
  | .lit (.string bytes) => bytes.length + 1
  | .lit _ => 1
  | .nil => 1
  | .ptr d => uptoBulk d + 1
  | .slice elems spare => uptoBulkAll elems + uptoBulkAll spare + 1
  | .agg parts => uptoBulkAll parts + 1
  | .iface _ d => uptoBulk d + 1
  | .map entries => uptoBulkEntries entries + 1
  | .held _ => 1
def uptoBulkAll {H : Type} : List (DataW H) → Nat
  | [] => 0
  | d :: r => uptoBulk d + uptoBulkAll r
def uptoBulkEntries {H : Type} : List (Lit × DataW H) → Nat
  | [] => 0
  | x :: r => uptoBulkEntry x + uptoBulkEntries r
def uptoBulkEntry {H : Type} : Lit × DataW H → Nat
  | (.string bytes, d) => bytes.length + uptoBulk d + 1
  | (_, d) => uptoBulk d + 1
 end
def uptoSmall : (H : Type) → List (DataW H) → Bool := fun _ ds => decide (uptoBulkAll ds ≤ 1048576)
def OpenSpec.upto (s : _root_.Go.ChangeSpec) : _root_.Go.OpenSpec := { _root_.Go.OpenSpec.ofChange s with cond := some uptoSmall }

/-- 'laws.FnExactHouseTrade', WHERE WHAT IT READS IS OF BULK AT MOST 1048576: true; the input reads as it did. -/
def fnExactHouseTradeUptoRow : OpenClaim := { program := "ytdjcbffnpnnalaa", sum := "c086c64ac5f48e6f90df1b0de2caeb0834984f290f5e33172302ce2630197f77", func := "loop.example/tradecircles/laws.FnExactHouseTrade", spec := "fnExactHouseTrade", unfollowed := true, recurses := true, apart := false, narrowed := true }
def FnExactHouseTradeUptoSaid : Prop := fnExactHouseTradeUptoRow.holds Try.pinned (OpenSpec.upto fnExactHouseTradeSpec)

/-- 'laws.FnExactHouseTurns', WHERE WHAT IT READS IS OF BULK AT MOST 1048576: true; the input reads as it did. -/
def fnExactHouseTurnsUptoRow : OpenClaim := { program := "ytdjcbffnpnnalaa", sum := "c086c64ac5f48e6f90df1b0de2caeb0834984f290f5e33172302ce2630197f77", func := "loop.example/tradecircles/laws.FnExactHouseTurns", spec := "fnExactHouseTurns", unfollowed := true, recurses := true, apart := false, narrowed := true }
def FnExactHouseTurnsUptoSaid : Prop := fnExactHouseTurnsUptoRow.holds Try.pinned (OpenSpec.upto fnExactHouseTurnsSpec)

/-- 'laws.FnExactHouseGets', WHERE WHAT IT READS IS OF BULK AT MOST 1048576: true; the input reads as it did. -/
def fnExactHouseGetsUptoRow : OpenClaim := { program := "ytdjcbffnpnnalaa", sum := "c086c64ac5f48e6f90df1b0de2caeb0834984f290f5e33172302ce2630197f77", func := "loop.example/tradecircles/laws.FnExactHouseGets", spec := "fnExactHouseGets", unfollowed := true, recurses := true, apart := false, narrowed := true }
def FnExactHouseGetsUptoSaid : Prop := fnExactHouseGetsUptoRow.holds Try.pinned (OpenSpec.upto fnExactHouseGetsSpec)

/-- 'laws.FnExactHouseCircle', WHERE WHAT IT READS IS OF BULK AT MOST 1048576: true; the input reads as it did. -/
def fnExactHouseCircleUptoRow : OpenClaim := { program := "ytdjcbffnpnnalaa", sum := "c086c64ac5f48e6f90df1b0de2caeb0834984f290f5e33172302ce2630197f77", func := "loop.example/tradecircles/laws.FnExactHouseCircle", spec := "fnExactHouseCircle", unfollowed := true, recurses := true, apart := false, narrowed := true }
def FnExactHouseCircleUptoSaid : Prop := fnExactHouseCircleUptoRow.holds Try.pinned (OpenSpec.upto fnExactHouseCircleSpec)

/-- 'laws.FnWishes', WHERE WHAT IT READS IS OF BULK AT MOST 1048576: true; the input reads as it did. -/
def fnWishesUptoRow : OpenClaim := { program := "ytdjcbffnpnnalaa", sum := "c086c64ac5f48e6f90df1b0de2caeb0834984f290f5e33172302ce2630197f77", func := "loop.example/tradecircles/laws.FnWishes", spec := "fnWishes", unfollowed := true, recurses := true, apart := false, narrowed := true }
def FnWishesUptoSaid : Prop := fnWishesUptoRow.holds Try.pinned (OpenSpec.upto fnWishesSpec)

/-- 'laws.FnTurns', WHERE WHAT IT READS IS OF BULK AT MOST 1048576: true; the input reads as it did. -/
def fnTurnsUptoRow : OpenClaim := { program := "ytdjcbffnpnnalaa", sum := "c086c64ac5f48e6f90df1b0de2caeb0834984f290f5e33172302ce2630197f77", func := "loop.example/tradecircles/laws.FnTurns", spec := "fnTurns", unfollowed := true, recurses := true, apart := false, narrowed := true }
def FnTurnsUptoSaid : Prop := fnTurnsUptoRow.holds Try.pinned (OpenSpec.upto fnTurnsSpec)

/-- 'laws.FnGets', WHERE WHAT IT READS IS OF BULK AT MOST 1048576: true; the input reads as it did. -/
def fnGetsUptoRow : OpenClaim := { program := "ytdjcbffnpnnalaa", sum := "c086c64ac5f48e6f90df1b0de2caeb0834984f290f5e33172302ce2630197f77", func := "loop.example/tradecircles/laws.FnGets", spec := "fnGets", unfollowed := true, recurses := true, apart := false, narrowed := true }
def FnGetsUptoSaid : Prop := fnGetsUptoRow.holds Try.pinned (OpenSpec.upto fnGetsSpec)

/-- 'laws.FnHouseCircle', WHERE WHAT IT READS IS OF BULK AT MOST 1048576: true; the input reads as it did. -/
def fnHouseCircleUptoRow : OpenClaim := { program := "ytdjcbffnpnnalaa", sum := "c086c64ac5f48e6f90df1b0de2caeb0834984f290f5e33172302ce2630197f77", func := "loop.example/tradecircles/laws.FnHouseCircle", spec := "fnHouseCircle", unfollowed := true, recurses := true, apart := false, narrowed := true }
def FnHouseCircleUptoSaid : Prop := fnHouseCircleUptoRow.holds Try.pinned (OpenSpec.upto fnHouseCircleSpec)

end Rows
end Go.Proofs.Ytdjcbffnpnnalaa
