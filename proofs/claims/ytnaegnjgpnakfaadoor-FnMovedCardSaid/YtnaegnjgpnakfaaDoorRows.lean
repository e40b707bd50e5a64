/-
  NARROWER THAN 'FOR EVERY INPUT', by the rows' own cells (each row's printed sentence says how): FnExactTermIn: laid · FnExactTermGives: laid · FnExactTermTidy: laid · FnExactTermSame: laid · FnExactTermTimes: laid · FnExactTermMoved: laid · FnTerm: laid · FnGives: laid · FnPower: laid · FnTermOf: laid · FnMoved: laid.
  DERIVED. THE GIVEN ROWS OF THIS SEAT. 11 by the template 'for every input the law returns true; each argument reads behind the call as it read before'; 0 by the template 'total and deterministic' (their statements: YtnaegnjgpnakfaaDoorTotals.lean).
  GIVEN WITH THE SEED: the statements are not yours to turn. If you find one false, say at which input.
  Laid BY PROGRAM, IN A SANDBOX (cutbox-rows.mjs): the forced cells as the released guide's own fill.sh prints them over the translation 2f5b5297b1b8ec89… (all of the seat's roots in one cut). By AI agents, Wed Nov 11 2026. No macro, syntax, notation, axiom, sorry.
-/
import Derived.Test.YtnaegnjgpnakfaaDoorChecked
import GoSem.Claim
import GoSem.ClaimJoined
import GoSem.ClaimMapViews
import Derived.JoinedTies
import Derived.KernelRfl
namespace Go.Proofs.YtnaegnjgpnakfaaDoor
/- THE CELL 'sum', in the pinned program and in every row, IS THE sha256 OF THE DUMP (.gsa) THAT YtnaegnjgpnakfaaDoorProg.lean LOADS. Nothing in Lean hashes anything: it is a label: what it is worth is what the hold of that sum in a sandbox is worth. -/
noncomputable def Tryd.pinned : Pinned := { name := "ytnaegnjgpnakfaadoor", sum := "2f5b5297b1b8ec8925fa9732e551322c1cce793e5a7cb3d622a717ddeec3406e", checked := Tryd.checked }
namespace Rows
def none {H : Type} : Left H := { results := [], args := [] }

/- WHAT THE LISTED PACKAGE-LEVEL VARIABLES READ AS WHEN THE CALL BEGINS. Each datum BY PROGRAM (the guide's laid-datum.mjs) off the statement by which the dump's own 'gosem.cut.vars' lays the variable. In a bare row this is a premise. The card (YtnaegnjgpnakfaaDoorCards.lean) ties it to the program's text. -/
def laid_errors_errorType {H : Type} : DataW H := .iface "internal/reflectlite.rtype" (.agg [.ptr (.lit (.string [101, 114, 114, 111, 114]))])

/-- 'laws.FnExactTermIn': WHATEVER THE INPUT: true; the input reads as it did. -/
def fnExactTermInSpec : ChangeSpec := { name := "fnExactTermIn", fn := fun _ => fun
  | [d1, d2] => { results := [.lit (.bool true)], args := [d1, d2] }
  | _ => none }
def fnExactTermInRow : OpenClaim := { program := "ytnaegnjgpnakfaadoor", sum := "2f5b5297b1b8ec8925fa9732e551322c1cce793e5a7cb3d622a717ddeec3406e", func := "loop.example/tradecircles/laws.FnExactTermIn", spec := "fnExactTermIn", inPlace := ["internal/reflectlite.ValueOf", "(internal/reflectlite.Value).Type", "(internal/reflectlite.Value).IsNil", "internal/reflectlite.TypeOf", "(internal/reflectlite.Value).Elem", "(internal/reflectlite.Value).Set"], unfollowed := true, recurses := true, named := ["errors.errorType"], apart := false, laid := [("errors.errorType", laid_errors_errorType)] }
def FnExactTermInSaid : Prop := fnExactTermInRow.holds Tryd.pinned (OpenSpec.ofChange fnExactTermInSpec)

/-- ITS FALSE NEIGHBOUR: 'it returns false'. Refute it at one input. -/
def fnExactTermInWrong : ChangeSpec := { name := "fnExactTermIn", fn := fun _ => fun
  | [d1, d2] => { results := [.lit (.bool false)], args := [d1, d2] }
  | _ => none }
def FnExactTermInWrongFalsely : Prop := fnExactTermInRow.holds Tryd.pinned (OpenSpec.ofChange fnExactTermInWrong)

/-- 'laws.FnExactTermGives': WHATEVER THE INPUT: true; the input reads as it did. -/
def fnExactTermGivesSpec : ChangeSpec := { name := "fnExactTermGives", fn := fun _ => fun
  | [d1, d2] => { results := [.lit (.bool true)], args := [d1, d2] }
  | _ => none }
def fnExactTermGivesRow : OpenClaim := { program := "ytnaegnjgpnakfaadoor", sum := "2f5b5297b1b8ec8925fa9732e551322c1cce793e5a7cb3d622a717ddeec3406e", func := "loop.example/tradecircles/laws.FnExactTermGives", spec := "fnExactTermGives", inPlace := ["internal/reflectlite.ValueOf", "(internal/reflectlite.Value).Type", "(internal/reflectlite.Value).IsNil", "internal/reflectlite.TypeOf", "(internal/reflectlite.Value).Elem", "(internal/reflectlite.Value).Set"], unfollowed := true, recurses := true, named := ["errors.errorType"], apart := false, laid := [("errors.errorType", laid_errors_errorType)] }
def FnExactTermGivesSaid : Prop := fnExactTermGivesRow.holds Tryd.pinned (OpenSpec.ofChange fnExactTermGivesSpec)

/-- ITS FALSE NEIGHBOUR: 'it returns false'. Refute it at one input. -/
def fnExactTermGivesWrong : ChangeSpec := { name := "fnExactTermGives", fn := fun _ => fun
  | [d1, d2] => { results := [.lit (.bool false)], args := [d1, d2] }
  | _ => none }
def FnExactTermGivesWrongFalsely : Prop := fnExactTermGivesRow.holds Tryd.pinned (OpenSpec.ofChange fnExactTermGivesWrong)

/-- 'laws.FnExactTermTidy': WHATEVER THE INPUT: true; the input reads as it did. -/
def fnExactTermTidySpec : ChangeSpec := { name := "fnExactTermTidy", fn := fun _ => fun
  | [d1, d2] => { results := [.lit (.bool true)], args := [d1, d2] }
  | _ => none }
def fnExactTermTidyRow : OpenClaim := { program := "ytnaegnjgpnakfaadoor", sum := "2f5b5297b1b8ec8925fa9732e551322c1cce793e5a7cb3d622a717ddeec3406e", func := "loop.example/tradecircles/laws.FnExactTermTidy", spec := "fnExactTermTidy", inPlace := ["internal/reflectlite.ValueOf", "(internal/reflectlite.Value).Type", "(internal/reflectlite.Value).IsNil", "internal/reflectlite.TypeOf", "(internal/reflectlite.Value).Elem", "(internal/reflectlite.Value).Set", "internal/abi.NoEscape"], unfollowed := true, recurses := true, named := ["errors.errorType"], apart := false, laid := [("errors.errorType", laid_errors_errorType)] }
def FnExactTermTidySaid : Prop := fnExactTermTidyRow.holds Tryd.pinned (OpenSpec.ofChange fnExactTermTidySpec)

/-- ITS FALSE NEIGHBOUR: 'it returns false'. Refute it at one input. -/
def fnExactTermTidyWrong : ChangeSpec := { name := "fnExactTermTidy", fn := fun _ => fun
  | [d1, d2] => { results := [.lit (.bool false)], args := [d1, d2] }
  | _ => none }
def FnExactTermTidyWrongFalsely : Prop := fnExactTermTidyRow.holds Tryd.pinned (OpenSpec.ofChange fnExactTermTidyWrong)

/-- 'laws.FnExactTermSame': WHATEVER THE INPUT: true; the input reads as it did. -/
def fnExactTermSameSpec : ChangeSpec := { name := "fnExactTermSame", fn := fun _ => fun
  | [d1, d2, d3] => { results := [.lit (.bool true)], args := [d1, d2, d3] }
  | _ => none }
def fnExactTermSameRow : OpenClaim := { program := "ytnaegnjgpnakfaadoor", sum := "2f5b5297b1b8ec8925fa9732e551322c1cce793e5a7cb3d622a717ddeec3406e", func := "loop.example/tradecircles/laws.FnExactTermSame", spec := "fnExactTermSame", inPlace := ["internal/reflectlite.ValueOf", "(internal/reflectlite.Value).Type", "(internal/reflectlite.Value).IsNil", "internal/reflectlite.TypeOf", "(internal/reflectlite.Value).Elem", "(internal/reflectlite.Value).Set"], unfollowed := true, recurses := true, named := ["errors.errorType"], apart := false, laid := [("errors.errorType", laid_errors_errorType)] }
def FnExactTermSameSaid : Prop := fnExactTermSameRow.holds Tryd.pinned (OpenSpec.ofChange fnExactTermSameSpec)

/-- ITS FALSE NEIGHBOUR: 'it returns false'. Refute it at one input. -/
def fnExactTermSameWrong : ChangeSpec := { name := "fnExactTermSame", fn := fun _ => fun
  | [d1, d2, d3] => { results := [.lit (.bool false)], args := [d1, d2, d3] }
  | _ => none }
def FnExactTermSameWrongFalsely : Prop := fnExactTermSameRow.holds Tryd.pinned (OpenSpec.ofChange fnExactTermSameWrong)

/-- 'laws.FnExactTermTimes': WHATEVER THE INPUT: true; the input reads as it did. -/
def fnExactTermTimesSpec : ChangeSpec := { name := "fnExactTermTimes", fn := fun _ => fun
  | [d1, d2] => { results := [.lit (.bool true)], args := [d1, d2] }
  | _ => none }
def fnExactTermTimesRow : OpenClaim := { program := "ytnaegnjgpnakfaadoor", sum := "2f5b5297b1b8ec8925fa9732e551322c1cce793e5a7cb3d622a717ddeec3406e", func := "loop.example/tradecircles/laws.FnExactTermTimes", spec := "fnExactTermTimes", inPlace := ["internal/reflectlite.ValueOf", "(internal/reflectlite.Value).Type", "(internal/reflectlite.Value).IsNil", "internal/reflectlite.TypeOf", "(internal/reflectlite.Value).Elem", "(internal/reflectlite.Value).Set"], unfollowed := true, recurses := true, named := ["errors.errorType"], apart := false, laid := [("errors.errorType", laid_errors_errorType)] }
def FnExactTermTimesSaid : Prop := fnExactTermTimesRow.holds Tryd.pinned (OpenSpec.ofChange fnExactTermTimesSpec)

/-- ITS FALSE NEIGHBOUR: 'it returns false'. Refute it at one input. -/
def fnExactTermTimesWrong : ChangeSpec := { name := "fnExactTermTimes", fn := fun _ => fun
  | [d1, d2] => { results := [.lit (.bool false)], args := [d1, d2] }
  | _ => none }
def FnExactTermTimesWrongFalsely : Prop := fnExactTermTimesRow.holds Tryd.pinned (OpenSpec.ofChange fnExactTermTimesWrong)

/-- 'laws.FnExactTermMoved': WHATEVER THE INPUT: true; the input reads as it did. -/
def fnExactTermMovedSpec : ChangeSpec := { name := "fnExactTermMoved", fn := fun _ => fun
  | [d1, d2] => { results := [.lit (.bool true)], args := [d1, d2] }
  | _ => none }
def fnExactTermMovedRow : OpenClaim := { program := "ytnaegnjgpnakfaadoor", sum := "2f5b5297b1b8ec8925fa9732e551322c1cce793e5a7cb3d622a717ddeec3406e", func := "loop.example/tradecircles/laws.FnExactTermMoved", spec := "fnExactTermMoved", inPlace := ["internal/reflectlite.ValueOf", "(internal/reflectlite.Value).Type", "(internal/reflectlite.Value).IsNil", "internal/reflectlite.TypeOf", "(internal/reflectlite.Value).Elem", "(internal/reflectlite.Value).Set"], unfollowed := true, recurses := true, named := ["errors.errorType"], apart := false, laid := [("errors.errorType", laid_errors_errorType)] }
def FnExactTermMovedSaid : Prop := fnExactTermMovedRow.holds Tryd.pinned (OpenSpec.ofChange fnExactTermMovedSpec)

/-- ITS FALSE NEIGHBOUR: 'it returns false'. Refute it at one input. -/
def fnExactTermMovedWrong : ChangeSpec := { name := "fnExactTermMoved", fn := fun _ => fun
  | [d1, d2] => { results := [.lit (.bool false)], args := [d1, d2] }
  | _ => none }
def FnExactTermMovedWrongFalsely : Prop := fnExactTermMovedRow.holds Tryd.pinned (OpenSpec.ofChange fnExactTermMovedWrong)

/-- 'laws.FnTerm': WHATEVER THE INPUT: true; the input reads as it did. -/
def fnTermSpec : ChangeSpec := { name := "fnTerm", fn := fun _ => fun
  | [d] => { results := [.lit (.bool true)], args := [d] }
  | _ => none }
def fnTermRow : OpenClaim := { program := "ytnaegnjgpnakfaadoor", sum := "2f5b5297b1b8ec8925fa9732e551322c1cce793e5a7cb3d622a717ddeec3406e", func := "loop.example/tradecircles/laws.FnTerm", spec := "fnTerm", inPlace := ["internal/reflectlite.ValueOf", "(internal/reflectlite.Value).Type", "(internal/reflectlite.Value).IsNil", "internal/reflectlite.TypeOf", "(internal/reflectlite.Value).Elem", "(internal/reflectlite.Value).Set"], unfollowed := true, recurses := true, named := ["errors.errorType"], apart := false, laid := [("errors.errorType", laid_errors_errorType)] }
def FnTermSaid : Prop := fnTermRow.holds Tryd.pinned (OpenSpec.ofChange fnTermSpec)

/-- ITS FALSE NEIGHBOUR: 'it returns false'. Refute it at one input. -/
def fnTermWrong : ChangeSpec := { name := "fnTerm", fn := fun _ => fun
  | [d] => { results := [.lit (.bool false)], args := [d] }
  | _ => none }
def FnTermWrongFalsely : Prop := fnTermRow.holds Tryd.pinned (OpenSpec.ofChange fnTermWrong)

/-- 'laws.FnGives': WHATEVER THE INPUT: true; the input reads as it did. -/
def fnGivesSpec : ChangeSpec := { name := "fnGives", fn := fun _ => fun
  | [d] => { results := [.lit (.bool true)], args := [d] }
  | _ => none }
def fnGivesRow : OpenClaim := { program := "ytnaegnjgpnakfaadoor", sum := "2f5b5297b1b8ec8925fa9732e551322c1cce793e5a7cb3d622a717ddeec3406e", func := "loop.example/tradecircles/laws.FnGives", spec := "fnGives", inPlace := ["internal/reflectlite.ValueOf", "(internal/reflectlite.Value).Type", "(internal/reflectlite.Value).IsNil", "internal/reflectlite.TypeOf", "(internal/reflectlite.Value).Elem", "(internal/reflectlite.Value).Set"], unfollowed := true, recurses := true, named := ["errors.errorType"], apart := false, laid := [("errors.errorType", laid_errors_errorType)] }
def FnGivesSaid : Prop := fnGivesRow.holds Tryd.pinned (OpenSpec.ofChange fnGivesSpec)

/-- ITS FALSE NEIGHBOUR: 'it returns false'. Refute it at one input. -/
def fnGivesWrong : ChangeSpec := { name := "fnGives", fn := fun _ => fun
  | [d] => { results := [.lit (.bool false)], args := [d] }
  | _ => none }
def FnGivesWrongFalsely : Prop := fnGivesRow.holds Tryd.pinned (OpenSpec.ofChange fnGivesWrong)

/-- 'laws.FnPower': WHATEVER THE INPUT: true; the input reads as it did. -/
def fnPowerSpec : ChangeSpec := { name := "fnPower", fn := fun _ => fun
  | [d] => { results := [.lit (.bool true)], args := [d] }
  | _ => none }
def fnPowerRow : OpenClaim := { program := "ytnaegnjgpnakfaadoor", sum := "2f5b5297b1b8ec8925fa9732e551322c1cce793e5a7cb3d622a717ddeec3406e", func := "loop.example/tradecircles/laws.FnPower", spec := "fnPower", inPlace := ["internal/reflectlite.ValueOf", "(internal/reflectlite.Value).Type", "(internal/reflectlite.Value).IsNil", "internal/reflectlite.TypeOf", "(internal/reflectlite.Value).Elem", "(internal/reflectlite.Value).Set"], unfollowed := true, recurses := true, named := ["errors.errorType"], apart := false, laid := [("errors.errorType", laid_errors_errorType)] }
def FnPowerSaid : Prop := fnPowerRow.holds Tryd.pinned (OpenSpec.ofChange fnPowerSpec)

/-- ITS FALSE NEIGHBOUR: 'it returns false'. Refute it at one input. -/
def fnPowerWrong : ChangeSpec := { name := "fnPower", fn := fun _ => fun
  | [d] => { results := [.lit (.bool false)], args := [d] }
  | _ => none }
def FnPowerWrongFalsely : Prop := fnPowerRow.holds Tryd.pinned (OpenSpec.ofChange fnPowerWrong)

/-- 'laws.FnTermOf': WHATEVER THE INPUT: true; the input reads as it did. -/
def fnTermOfSpec : ChangeSpec := { name := "fnTermOf", fn := fun _ => fun
  | [d] => { results := [.lit (.bool true)], args := [d] }
  | _ => none }
def fnTermOfRow : OpenClaim := { program := "ytnaegnjgpnakfaadoor", sum := "2f5b5297b1b8ec8925fa9732e551322c1cce793e5a7cb3d622a717ddeec3406e", func := "loop.example/tradecircles/laws.FnTermOf", spec := "fnTermOf", inPlace := ["internal/abi.NoEscape", "internal/reflectlite.ValueOf", "(internal/reflectlite.Value).Type", "(internal/reflectlite.Value).IsNil", "internal/reflectlite.TypeOf", "(internal/reflectlite.Value).Elem", "(internal/reflectlite.Value).Set"], unfollowed := true, recurses := true, named := ["errors.errorType"], apart := false, laid := [("errors.errorType", laid_errors_errorType)] }
def FnTermOfSaid : Prop := fnTermOfRow.holds Tryd.pinned (OpenSpec.ofChange fnTermOfSpec)

/-- ITS FALSE NEIGHBOUR: 'it returns false'. Refute it at one input. -/
def fnTermOfWrong : ChangeSpec := { name := "fnTermOf", fn := fun _ => fun
  | [d] => { results := [.lit (.bool false)], args := [d] }
  | _ => none }
def FnTermOfWrongFalsely : Prop := fnTermOfRow.holds Tryd.pinned (OpenSpec.ofChange fnTermOfWrong)

/-- 'laws.FnMoved': WHATEVER THE INPUT: true; the input reads as it did. -/
def fnMovedSpec : ChangeSpec := { name := "fnMoved", fn := fun _ => fun
  | [d] => { results := [.lit (.bool true)], args := [d] }
  | _ => none }
def fnMovedRow : OpenClaim := { program := "ytnaegnjgpnakfaadoor", sum := "2f5b5297b1b8ec8925fa9732e551322c1cce793e5a7cb3d622a717ddeec3406e", func := "loop.example/tradecircles/laws.FnMoved", spec := "fnMoved", inPlace := ["internal/reflectlite.ValueOf", "(internal/reflectlite.Value).Type", "(internal/reflectlite.Value).IsNil", "internal/reflectlite.TypeOf", "(internal/reflectlite.Value).Elem", "(internal/reflectlite.Value).Set"], unfollowed := true, recurses := true, named := ["errors.errorType"], apart := false, laid := [("errors.errorType", laid_errors_errorType)] }
def FnMovedSaid : Prop := fnMovedRow.holds Tryd.pinned (OpenSpec.ofChange fnMovedSpec)

/-- ITS FALSE NEIGHBOUR: 'it returns false'. Refute it at one input. -/
def fnMovedWrong : ChangeSpec := { name := "fnMoved", fn := fun _ => fun
  | [d] => { results := [.lit (.bool false)], args := [d] }
  | _ => none }
def FnMovedWrongFalsely : Prop := fnMovedRow.holds Tryd.pinned (OpenSpec.ofChange fnMovedWrong)

/- THE SECOND FORM. 'bulk': how many values and letters a reading holds, each counted each time it is reached (what is shared counts as often as it is met; a slice's spare places count too). A statement '..UptoSaid' is the law's where the arguments, and the package variables that the reading takes, are together of bulk at most 1048576: NARROWER than '..Said'. Prove '..Said' where nothing that the law and all that it calls make is longer than what came in: it says more and counts as full. Else prove '..UptoSaid'. A law counts once. -/
mutual
def uptoBulk {H : Type} : DataW H → Nat
  | .lit (.string bytes) => bytes.length + 1
  | .lit _ => 1
  | .nil => 1
  | .ptr d => uptoBulk d + 1
  | .slice elems spare => uptoBulkAll elems + uptoBulkAll spare + 1
  | .agg parts => uptoBulkAll parts + 1
  | .iface _ d => uptoBulk d + 1
  | .map entries => uptoBulkEntries entries + 1
  | .held _ => 1
def uptoBulkAll {H : Type} : List (DataW H) → Nat
  | [] => 0
  | d :: r => uptoBulk d + uptoBulkAll r
def uptoBulkEntries {H : Type} : List (Lit × DataW H) → Nat
  | [] => 0
  | x :: r => uptoBulkEntry x + uptoBulkEntries r
def uptoBulkEntry {H : Type} : Lit × DataW H → Nat
  | (.string bytes, d) => bytes.length + uptoBulk d + 1
  | (_, d) => uptoBulk d + 1
 end
def uptoSmall : (H : Type) → List (DataW H) → Bool := fun _ ds => decide (uptoBulkAll ds ≤ 1048576)
def OpenSpec.upto (s : _root_.Go.ChangeSpec) : _root_.Go.OpenSpec := { _root_.Go.OpenSpec.ofChange s with cond := some uptoSmall }

/-- 'laws.FnExactTermIn', WHERE WHAT IT READS IS OF BULK AT MOST 1048576: true; the input reads as it did. -/
def fnExactTermInUptoRow : OpenClaim := { program := "ytnaegnjgpnakfaadoor", sum := "2f5b5297b1b8ec8925fa9732e551322c1cce793e5a7cb3d622a717ddeec3406e", func := "loop.example/tradecircles/laws.FnExactTermIn", spec := "fnExactTermIn", inPlace := ["internal/reflectlite.ValueOf", "(internal/reflectlite.Value).Type", "(internal/reflectlite.Value).IsNil", "internal/reflectlite.TypeOf", "(internal/reflectlite.Value).Elem", "(internal/reflectlite.Value).Set"], unfollowed := true, recurses := true, named := ["errors.errorType"], apart := false, laid := [("errors.errorType", laid_errors_errorType)], narrowed := true }
def FnExactTermInUptoSaid : Prop := fnExactTermInUptoRow.holds Tryd.pinned (OpenSpec.upto fnExactTermInSpec)

/-- 'laws.FnExactTermGives', WHERE WHAT IT READS IS OF BULK AT MOST 1048576: true; the input reads as it did. -/
def fnExactTermGivesUptoRow : OpenClaim := { program := "ytnaegnjgpnakfaadoor", sum := "2f5b5297b1b8ec8925fa9732e551322c1cce793e5a7cb3d622a717ddeec3406e", func := "loop.example/tradecircles/laws.FnExactTermGives", spec := "fnExactTermGives", inPlace := ["internal/reflectlite.ValueOf", "(internal/reflectlite.Value).Type", "(internal/reflectlite.Value).IsNil", "internal/reflectlite.TypeOf", "(internal/reflectlite.Value).Elem", "(internal/reflectlite.Value).Set"], unfollowed := true, recurses := true, named := ["errors.errorType"], apart := false, laid := [("errors.errorType", laid_errors_errorType)], narrowed := true }
def FnExactTermGivesUptoSaid : Prop := fnExactTermGivesUptoRow.holds Tryd.pinned (OpenSpec.upto fnExactTermGivesSpec)

/-- 'laws.FnExactTermTidy', WHERE WHAT IT READS IS OF BULK AT MOST 1048576: true; the input reads as it did. -/
def fnExactTermTidyUptoRow : OpenClaim := { program := "ytnaegnjgpnakfaadoor", sum := "2f5b5297b1b8ec8925fa9732e551322c1cce793e5a7cb3d622a717ddeec3406e", func := "loop.example/tradecircles/laws.FnExactTermTidy", spec := "fnExactTermTidy", inPlace := ["internal/reflectlite.ValueOf", "(internal/reflectlite.Value).Type", "(internal/reflectlite.Value).IsNil", "internal/reflectlite.TypeOf", "(internal/reflectlite.Value).Elem", "(internal/reflectlite.Value).Set", "internal/abi.NoEscape"], unfollowed := true, recurses := true, named := ["errors.errorType"], apart := false, laid := [("errors.errorType", laid_errors_errorType)], narrowed := true }
def FnExactTermTidyUptoSaid : Prop := fnExactTermTidyUptoRow.holds Tryd.pinned (OpenSpec.upto fnExactTermTidySpec)

/-- 'laws.FnExactTermSame', WHERE WHAT IT READS IS OF BULK AT MOST 1048576: true; the input reads as it did. -/
def fnExactTermSameUptoRow : OpenClaim := { program := "ytnaegnjgpnakfaadoor", sum := "2f5b5297b1b8ec8925fa9732e551322c1cce793e5a7cb3d622a717ddeec3406e", func := "loop.example/tradecircles/laws.FnExactTermSame", spec := "fnExactTermSame", inPlace := ["internal/reflectlite.ValueOf", "(internal/reflectlite.Value).Type", "(internal/reflectlite.Value).IsNil", "internal/reflectlite.TypeOf", "(internal/reflectlite.Value).Elem", "(internal/reflectlite.Value).Set"], unfollowed := true, recurses := true, named := ["errors.errorType"], apart := false, laid := [("errors.errorType", laid_errors_errorType)], narrowed := true }
def FnExactTermSameUptoSaid : Prop := fnExactTermSameUptoRow.holds Tryd.pinned (OpenSpec.upto fnExactTermSameSpec)

/-- 'laws.FnExactTermTimes', WHERE WHAT IT READS IS OF BULK AT MOST 1048576: true; the input reads as it did. -/
def fnExactTermTimesUptoRow : OpenClaim := { program := "ytnaegnjgpnakfaadoor", sum := "2f5b5297b1b8ec8925fa9732e551322c1cce793e5a7cb3d622a717ddeec3406e", func := "loop.example/tradecircles/laws.FnExactTermTimes", spec := "fnExactTermTimes", inPlace := ["internal/reflectlite.ValueOf", "(internal/reflectlite.Value).Type", "(internal/reflectlite.Value).IsNil", "internal/reflectlite.TypeOf", "(internal/reflectlite.Value).Elem", "(internal/reflectlite.Value).Set"], unfollowed := true, recurses := true, named := ["errors.errorType"], apart := false, laid := [("errors.errorType", laid_errors_errorType)], narrowed := true }
def FnExactTermTimesUptoSaid : Prop := fnExactTermTimesUptoRow.holds Tryd.pinned (OpenSpec.upto fnExactTermTimesSpec)

/-- 'laws.FnExactTermMoved', WHERE WHAT IT READS IS OF BULK AT MOST 1048576: true; the input reads as it did. -/
def fnExactTermMovedUptoRow : OpenClaim := { program := "ytnaegnjgpnakfaadoor", sum := "2f5b5297b1b8ec8925fa9732e551322c1cce793e5a7cb3d622a717ddeec3406e", func := "loop.example/tradecircles/laws.FnExactTermMoved", spec := "fnExactTermMoved", inPlace := ["internal/reflectlite.ValueOf", "(internal/reflectlite.Value).Type", "(internal/reflectlite.Value).IsNil", "internal/reflectlite.TypeOf", "(internal/reflectlite.Value).Elem", "(internal/reflectlite.Value).Set"], unfollowed := true, recurses := true, named := ["errors.errorType"], apart := false, laid := [("errors.errorType", laid_errors_errorType)], narrowed := true }
def FnExactTermMovedUptoSaid : Prop := fnExactTermMovedUptoRow.holds Tryd.pinned (OpenSpec.upto fnExactTermMovedSpec)

/-- 'laws.FnTerm', WHERE WHAT IT READS IS OF BULK AT MOST 1048576: true; the input reads as it did. -/
def fnTermUptoRow : OpenClaim := { program := "ytnaegnjgpnakfaadoor", sum := "2f5b5297b1b8ec8925fa9732e551322c1cce793e5a7cb3d622a717ddeec3406e", func := "loop.example/tradecircles/laws.FnTerm", spec := "fnTerm", inPlace := ["internal/reflectlite.ValueOf", "(internal/reflectlite.Value).Type", "(internal/reflectlite.Value).IsNil", "internal/reflectlite.TypeOf", "(internal/reflectlite.Value).Elem", "(internal/reflectlite.Value).Set"], unfollowed := true, recurses := true, named := ["errors.errorType"], apart := false, laid := [("errors.errorType", laid_errors_errorType)], narrowed := true }
def FnTermUptoSaid : Prop := fnTermUptoRow.holds Tryd.pinned (OpenSpec.upto fnTermSpec)

/-- 'laws.FnGives', WHERE WHAT IT READS IS OF BULK AT MOST 1048576: true; the input reads as it did. -/
def fnGivesUptoRow : OpenClaim := { program := "ytnaegnjgpnakfaadoor", sum := "2f5b5297b1b8ec8925fa9732e551322c1cce793e5a7cb3d622a717ddeec3406e", func := "loop.example/tradecircles/laws.FnGives", spec := "fnGives", inPlace := ["internal/reflectlite.ValueOf", "(internal/reflectlite.Value).Type", "(internal/reflectlite.Value).IsNil", "internal/reflectlite.TypeOf", "(internal/reflectlite.Value).Elem", "(internal/reflectlite.Value).Set"], unfollowed := true, recurses := true, named := ["errors.errorType"], apart := false, laid := [("errors.errorType", laid_errors_errorType)], narrowed := true }
def FnGivesUptoSaid : Prop := fnGivesUptoRow.holds Tryd.pinned (OpenSpec.upto fnGivesSpec)

/-- 'laws.FnPower', WHERE WHAT IT READS IS OF BULK AT MOST 1048576: true; the input reads as it did. -/
def fnPowerUptoRow : OpenClaim := { program := "ytnaegnjgpnakfaadoor", sum := "2f5b5297b1b8ec8925fa9732e551322c1cce793e5a7cb3d622a717ddeec3406e", func := "loop.example/tradecircles/laws.FnPower", spec := "fnPower", inPlace := ["internal/reflectlite.ValueOf", "(internal/reflectlite.Value).Type", "(internal/reflectlite.Value).IsNil", "internal/reflectlite.TypeOf", "(internal/reflectlite.Value).Elem", "(internal/reflectlite.Value).Set"], unfollowed := true, recurses := true, named := ["errors.errorType"], apart := false, laid := [("errors.errorType", laid_errors_errorType)], narrowed := true }
def FnPowerUptoSaid : Prop := fnPowerUptoRow.holds Tryd.pinned (OpenSpec.upto fnPowerSpec)

/-- 'laws.FnTermOf', WHERE WHAT IT READS IS OF BULK AT MOST 1048576: true; the input reads as it did. -/
def fnTermOfUptoRow : OpenClaim := { program := "ytnaegnjgpnakfaadoor", sum := "2f5b5297b1b8ec8925fa9732e551322c1cce793e5a7cb3d622a717ddeec3406e", func := "loop.example/tradecircles/laws.FnTermOf", spec := "fnTermOf", inPlace := ["internal/abi.NoEscape", "internal/reflectlite.ValueOf", "(internal/reflectlite.Value).Type", "(internal/reflectlite.Value).IsNil", "internal/reflectlite.TypeOf", "(internal/reflectlite.Value).Elem", "(internal/reflectlite.Value).Set"], unfollowed := true, recurses := true, named := ["errors.errorType"], apart := false, laid := [("errors.errorType", laid_errors_errorType)], narrowed := true }
def FnTermOfUptoSaid : Prop := fnTermOfUptoRow.holds Tryd.pinned (OpenSpec.upto fnTermOfSpec)

/-- 'laws.FnMoved', WHERE WHAT IT READS IS OF BULK AT MOST 1048576: true; the input reads as it did. -/
def fnMovedUptoRow : OpenClaim := { program := "ytnaegnjgpnakfaadoor", sum := "2f5b5297b1b8ec8925fa9732e551322c1cce793e5a7cb3d622a717ddeec3406e", func := "loop.example/tradecircles/laws.FnMoved", spec := "fnMoved", inPlace := ["internal/reflectlite.ValueOf", "(internal/reflectlite.Value).Type", "(internal/reflectlite.Value).IsNil", "internal/reflectlite.TypeOf", "(internal/reflectlite.Value).Elem", "(internal/reflectlite.Value).Set"], unfollowed := true, recurses := true, named := ["errors.errorType"], apart := false, laid := [("errors.errorType", laid_errors_errorType)], narrowed := true }
def FnMovedUptoSaid : Prop := fnMovedUptoRow.holds Tryd.pinned (OpenSpec.upto fnMovedSpec)

end Rows
end Go.Proofs.YtnaegnjgpnakfaaDoor
