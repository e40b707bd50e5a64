/-
  No cell of these rows narrows 'for every input' (looked for: loops, veiled, ifaces, maps, wideKeys, modest, calm, conditions, laid).
  DERIVED. THE GIVEN ROWS OF THIS SEAT. 12 by the template 'for every input the law returns true; each argument reads behind the call as it read before'; 0 by the template 'total and deterministic' (their statements: YtamglhpgdaoaoaaTotals.lean).
  GIVEN WITH THE SEED: the statements are not yours to turn. If you find one false, say at which input.
  Laid BY PROGRAM, IN A SANDBOX (cutbox-rows.mjs): the forced cells as the released guide's own fill.sh prints them over the translation d21fb01b95dad102… (all of the seat's roots in one cut). By AI agents, Wed Nov 11 2026. No macro, syntax, notation, axiom, sorry.
-/
import Derived.Test.YtamglhpgdaoaoaaChecked
import GoSem.Claim
import GoSem.ClaimJoined
import GoSem.ClaimMapViews
import Derived.JoinedTies
import Derived.KernelRfl
namespace Go.Proofs.Ytamglhpgdaoaoaa
/- THE CELL 'sum', in the pinned program and in every row, IS THE sha256 OF THE DUMP (.gsa) THAT YtamglhpgdaoaoaaProg.lean LOADS. Nothing in Lean hashes anything: it is a label: what it is worth is what the hold of that sum in a sandbox is worth. -/
noncomputable def Try.pinned : Pinned := { name := "ytamglhpgdaoaoaa", sum := "d21fb01b95dad102b52496cc1c90184bc0d9b382d05a1977f4afeec5197be98b", checked := Try.checked }
namespace Rows
def none {H : Type} : Left H := { results := [], args := [] }

/-- 'laws.FnWants': WHATEVER THE INPUT: true; the input reads as it did. -/
def fnWantsSpec : ChangeSpec := { name := "fnWants", fn := fun _ => fun
  | [d] => { results := [.lit (.bool true)], args := [d] }
  | _ => none }
def fnWantsRow : OpenClaim := { program := "ytamglhpgdaoaoaa", sum := "d21fb01b95dad102b52496cc1c90184bc0d9b382d05a1977f4afeec5197be98b", func := "loop.example/tradecircles/laws.FnWants", spec := "fnWants", apart := false }
def FnWantsSaid : Prop := fnWantsRow.holds Try.pinned (OpenSpec.ofChange fnWantsSpec)

/-- ITS FALSE NEIGHBOUR: 'it returns false'. Refute it at one input. -/
def fnWantsWrong : ChangeSpec := { name := "fnWants", fn := fun _ => fun
  | [d] => { results := [.lit (.bool false)], args := [d] }
  | _ => none }
def FnWantsWrongFalsely : Prop := fnWantsRow.holds Try.pinned (OpenSpec.ofChange fnWantsWrong)

/-- 'laws.FnCircle': WHATEVER THE INPUT: true; the input reads as it did. -/
def fnCircleSpec : ChangeSpec := { name := "fnCircle", fn := fun _ => fun
  | [d] => { results := [.lit (.bool true)], args := [d] }
  | _ => none }
def fnCircleRow : OpenClaim := { program := "ytamglhpgdaoaoaa", sum := "d21fb01b95dad102b52496cc1c90184bc0d9b382d05a1977f4afeec5197be98b", func := "loop.example/tradecircles/laws.FnCircle", spec := "fnCircle", unfollowed := true, recurses := true, apart := false }
def FnCircleSaid : Prop := fnCircleRow.holds Try.pinned (OpenSpec.ofChange fnCircleSpec)

/-- ITS FALSE NEIGHBOUR: 'it returns false'. Refute it at one input. -/
def fnCircleWrong : ChangeSpec := { name := "fnCircle", fn := fun _ => fun
  | [d] => { results := [.lit (.bool false)], args := [d] }
  | _ => none }
def FnCircleWrongFalsely : Prop := fnCircleRow.holds Try.pinned (OpenSpec.ofChange fnCircleWrong)

/-- 'laws.FnWantTurn': WHATEVER THE INPUT: true; the input reads as it did. -/
def fnWantTurnSpec : ChangeSpec := { name := "fnWantTurn", fn := fun _ => fun
  | [d] => { results := [.lit (.bool true)], args := [d] }
  | _ => none }
def fnWantTurnRow : OpenClaim := { program := "ytamglhpgdaoaoaa", sum := "d21fb01b95dad102b52496cc1c90184bc0d9b382d05a1977f4afeec5197be98b", func := "loop.example/tradecircles/laws.FnWantTurn", spec := "fnWantTurn", unfollowed := true, recurses := true, apart := false }
def FnWantTurnSaid : Prop := fnWantTurnRow.holds Try.pinned (OpenSpec.ofChange fnWantTurnSpec)

/-- ITS FALSE NEIGHBOUR: 'it returns false'. Refute it at one input. -/
def fnWantTurnWrong : ChangeSpec := { name := "fnWantTurn", fn := fun _ => fun
  | [d] => { results := [.lit (.bool false)], args := [d] }
  | _ => none }
def FnWantTurnWrongFalsely : Prop := fnWantTurnRow.holds Try.pinned (OpenSpec.ofChange fnWantTurnWrong)

/-- 'laws.FnExactWantIn': WHATEVER THE INPUT: true; the input reads as it did. -/
def fnExactWantInSpec : ChangeSpec := { name := "fnExactWantIn", fn := fun _ => fun
  | [d] => { results := [.lit (.bool true)], args := [d] }
  | _ => none }
def fnExactWantInRow : OpenClaim := { program := "ytamglhpgdaoaoaa", sum := "d21fb01b95dad102b52496cc1c90184bc0d9b382d05a1977f4afeec5197be98b", func := "loop.example/tradecircles/laws.FnExactWantIn", spec := "fnExactWantIn", apart := false }
def FnExactWantInSaid : Prop := fnExactWantInRow.holds Try.pinned (OpenSpec.ofChange fnExactWantInSpec)

/-- ITS FALSE NEIGHBOUR: 'it returns false'. Refute it at one input. -/
def fnExactWantInWrong : ChangeSpec := { name := "fnExactWantIn", fn := fun _ => fun
  | [d] => { results := [.lit (.bool false)], args := [d] }
  | _ => none }
def FnExactWantInWrongFalsely : Prop := fnExactWantInRow.holds Try.pinned (OpenSpec.ofChange fnExactWantInWrong)

/-- 'laws.FnExactWantCircle': WHATEVER THE INPUT: true; the input reads as it did. -/
def fnExactWantCircleSpec : ChangeSpec := { name := "fnExactWantCircle", fn := fun _ => fun
  | [d1, d2] => { results := [.lit (.bool true)], args := [d1, d2] }
  | _ => none }
def fnExactWantCircleRow : OpenClaim := { program := "ytamglhpgdaoaoaa", sum := "d21fb01b95dad102b52496cc1c90184bc0d9b382d05a1977f4afeec5197be98b", func := "loop.example/tradecircles/laws.FnExactWantCircle", spec := "fnExactWantCircle", apart := false }
def FnExactWantCircleSaid : Prop := fnExactWantCircleRow.holds Try.pinned (OpenSpec.ofChange fnExactWantCircleSpec)

/-- ITS FALSE NEIGHBOUR: 'it returns false'. Refute it at one input. -/
def fnExactWantCircleWrong : ChangeSpec := { name := "fnExactWantCircle", fn := fun _ => fun
  | [d1, d2] => { results := [.lit (.bool false)], args := [d1, d2] }
  | _ => none }
def FnExactWantCircleWrongFalsely : Prop := fnExactWantCircleRow.holds Try.pinned (OpenSpec.ofChange fnExactWantCircleWrong)

/-- 'laws.FnExactWantCircles': WHATEVER THE INPUT: true; the input reads as it did. -/
def fnExactWantCirclesSpec : ChangeSpec := { name := "fnExactWantCircles", fn := fun _ => fun
  | [d1, d2] => { results := [.lit (.bool true)], args := [d1, d2] }
  | _ => none }
def fnExactWantCirclesRow : OpenClaim := { program := "ytamglhpgdaoaoaa", sum := "d21fb01b95dad102b52496cc1c90184bc0d9b382d05a1977f4afeec5197be98b", func := "loop.example/tradecircles/laws.FnExactWantCircles", spec := "fnExactWantCircles", unfollowed := true, recurses := true, apart := false }
def FnExactWantCirclesSaid : Prop := fnExactWantCirclesRow.holds Try.pinned (OpenSpec.ofChange fnExactWantCirclesSpec)

/-- ITS FALSE NEIGHBOUR: 'it returns false'. Refute it at one input. -/
def fnExactWantCirclesWrong : ChangeSpec := { name := "fnExactWantCircles", fn := fun _ => fun
  | [d1, d2] => { results := [.lit (.bool false)], args := [d1, d2] }
  | _ => none }
def FnExactWantCirclesWrongFalsely : Prop := fnExactWantCirclesRow.holds Try.pinned (OpenSpec.ofChange fnExactWantCirclesWrong)

/-- 'laws.FnExactWantOn': WHATEVER THE INPUT: true; the input reads as it did. -/
def fnExactWantOnSpec : ChangeSpec := { name := "fnExactWantOn", fn := fun _ => fun
  | [d] => { results := [.lit (.bool true)], args := [d] }
  | _ => none }
def fnExactWantOnRow : OpenClaim := { program := "ytamglhpgdaoaoaa", sum := "d21fb01b95dad102b52496cc1c90184bc0d9b382d05a1977f4afeec5197be98b", func := "loop.example/tradecircles/laws.FnExactWantOn", spec := "fnExactWantOn", unfollowed := true, recurses := true, apart := false }
def FnExactWantOnSaid : Prop := fnExactWantOnRow.holds Try.pinned (OpenSpec.ofChange fnExactWantOnSpec)

/-- ITS FALSE NEIGHBOUR: 'it returns false'. Refute it at one input. -/
def fnExactWantOnWrong : ChangeSpec := { name := "fnExactWantOn", fn := fun _ => fun
  | [d] => { results := [.lit (.bool false)], args := [d] }
  | _ => none }
def FnExactWantOnWrongFalsely : Prop := fnExactWantOnRow.holds Try.pinned (OpenSpec.ofChange fnExactWantOnWrong)

/-- 'laws.FnExactWantMost': WHATEVER THE INPUT: true; the input reads as it did. -/
def fnExactWantMostSpec : ChangeSpec := { name := "fnExactWantMost", fn := fun _ => fun
  | [d1, d2] => { results := [.lit (.bool true)], args := [d1, d2] }
  | _ => none }
def fnExactWantMostRow : OpenClaim := { program := "ytamglhpgdaoaoaa", sum := "d21fb01b95dad102b52496cc1c90184bc0d9b382d05a1977f4afeec5197be98b", func := "loop.example/tradecircles/laws.FnExactWantMost", spec := "fnExactWantMost", unfollowed := true, recurses := true, apart := false }
def FnExactWantMostSaid : Prop := fnExactWantMostRow.holds Try.pinned (OpenSpec.ofChange fnExactWantMostSpec)

/-- ITS FALSE NEIGHBOUR: 'it returns false'. Refute it at one input. -/
def fnExactWantMostWrong : ChangeSpec := { name := "fnExactWantMost", fn := fun _ => fun
  | [d1, d2] => { results := [.lit (.bool false)], args := [d1, d2] }
  | _ => none }
def FnExactWantMostWrongFalsely : Prop := fnExactWantMostRow.holds Try.pinned (OpenSpec.ofChange fnExactWantMostWrong)

/-- 'laws.FnExactWantTry': WHATEVER THE INPUT: true; the input reads as it did. -/
def fnExactWantTrySpec : ChangeSpec := { name := "fnExactWantTry", fn := fun _ => fun
  | [d] => { results := [.lit (.bool true)], args := [d] }
  | _ => none }
def fnExactWantTryRow : OpenClaim := { program := "ytamglhpgdaoaoaa", sum := "d21fb01b95dad102b52496cc1c90184bc0d9b382d05a1977f4afeec5197be98b", func := "loop.example/tradecircles/laws.FnExactWantTry", spec := "fnExactWantTry", unfollowed := true, recurses := true, apart := false }
def FnExactWantTrySaid : Prop := fnExactWantTryRow.holds Try.pinned (OpenSpec.ofChange fnExactWantTrySpec)

/-- ITS FALSE NEIGHBOUR: 'it returns false'. Refute it at one input. -/
def fnExactWantTryWrong : ChangeSpec := { name := "fnExactWantTry", fn := fun _ => fun
  | [d] => { results := [.lit (.bool false)], args := [d] }
  | _ => none }
def FnExactWantTryWrongFalsely : Prop := fnExactWantTryRow.holds Try.pinned (OpenSpec.ofChange fnExactWantTryWrong)

/-- 'laws.FnExactWantFirst': WHATEVER THE INPUT: true; the input reads as it did. -/
def fnExactWantFirstSpec : ChangeSpec := { name := "fnExactWantFirst", fn := fun _ => fun
  | [d1, d2] => { results := [.lit (.bool true)], args := [d1, d2] }
  | _ => none }
def fnExactWantFirstRow : OpenClaim := { program := "ytamglhpgdaoaoaa", sum := "d21fb01b95dad102b52496cc1c90184bc0d9b382d05a1977f4afeec5197be98b", func := "loop.example/tradecircles/laws.FnExactWantFirst", spec := "fnExactWantFirst", unfollowed := true, recurses := true, apart := false }
def FnExactWantFirstSaid : Prop := fnExactWantFirstRow.holds Try.pinned (OpenSpec.ofChange fnExactWantFirstSpec)

/-- ITS FALSE NEIGHBOUR: 'it returns false'. Refute it at one input. -/
def fnExactWantFirstWrong : ChangeSpec := { name := "fnExactWantFirst", fn := fun _ => fun
  | [d1, d2] => { results := [.lit (.bool false)], args := [d1, d2] }
  | _ => none }
def FnExactWantFirstWrongFalsely : Prop := fnExactWantFirstRow.holds Try.pinned (OpenSpec.ofChange fnExactWantFirstWrong)

/-- 'laws.FnExactWantTurn': WHATEVER THE INPUT: true; the input reads as it did. -/
def fnExactWantTurnSpec : ChangeSpec := { name := "fnExactWantTurn", fn := fun _ => fun
  | [d] => { results := [.lit (.bool true)], args := [d] }
  | _ => none }
def fnExactWantTurnRow : OpenClaim := { program := "ytamglhpgdaoaoaa", sum := "d21fb01b95dad102b52496cc1c90184bc0d9b382d05a1977f4afeec5197be98b", func := "loop.example/tradecircles/laws.FnExactWantTurn", spec := "fnExactWantTurn", apart := false }
def FnExactWantTurnSaid : Prop := fnExactWantTurnRow.holds Try.pinned (OpenSpec.ofChange fnExactWantTurnSpec)

/-- ITS FALSE NEIGHBOUR: 'it returns false'. Refute it at one input. -/
def fnExactWantTurnWrong : ChangeSpec := { name := "fnExactWantTurn", fn := fun _ => fun
  | [d] => { results := [.lit (.bool false)], args := [d] }
  | _ => none }
def FnExactWantTurnWrongFalsely : Prop := fnExactWantTurnRow.holds Try.pinned (OpenSpec.ofChange fnExactWantTurnWrong)

/-- 'laws.FnExactWantAll': WHATEVER THE INPUT: true; the input reads as it did. -/
def fnExactWantAllSpec : ChangeSpec := { name := "fnExactWantAll", fn := fun _ => fun
  | [d1, d2] => { results := [.lit (.bool true)], args := [d1, d2] }
  | _ => none }
def fnExactWantAllRow : OpenClaim := { program := "ytamglhpgdaoaoaa", sum := "d21fb01b95dad102b52496cc1c90184bc0d9b382d05a1977f4afeec5197be98b", func := "loop.example/tradecircles/laws.FnExactWantAll", spec := "fnExactWantAll", unfollowed := true, recurses := true, apart := false }
def FnExactWantAllSaid : Prop := fnExactWantAllRow.holds Try.pinned (OpenSpec.ofChange fnExactWantAllSpec)

/-- ITS FALSE NEIGHBOUR: 'it returns false'. Refute it at one input. -/
def fnExactWantAllWrong : ChangeSpec := { name := "fnExactWantAll", fn := fun _ => fun
  | [d1, d2] => { results := [.lit (.bool false)], args := [d1, d2] }
  | _ => none }
def FnExactWantAllWrongFalsely : Prop := fnExactWantAllRow.holds Try.pinned (OpenSpec.ofChange fnExactWantAllWrong)

/- THE SECOND FORM. 'bulk': how many values and letters a reading holds, each counted each time it is reached (what is shared counts as often as it is met; a slice's spare places count too). A statement '..UptoSaid' is the law's where the arguments, and the package variables that the reading takes, are together of bulk at most 1048576: NARROWER than '..Said'. Prove '..Said' where nothing that the law and all that it calls make is longer than what came in: it says more and counts as full. Else prove '..UptoSaid'. A law counts once. -/
mutual
def uptoBulk {H : Type} : DataW H → Nat
  | .lit (.string bytes) => bytes.length + 1
  | .lit _ => 1
  | .nil => 1
  | .ptr d => uptoBulk d + 1
  | .slice elems spare => uptoBulkAll elems + uptoBulkAll spare + 1
  | .agg parts => uptoBulkAll parts + 1
  | .iface _ d => uptoBulk d + 1
  | .map entries => uptoBulkEntries entries + 1
  | .held _ => 1
def uptoBulkAll {H : Type} : List (DataW H) → Nat
  | [] => 0
  | d :: r => uptoBulk d + uptoBulkAll r
def uptoBulkEntries {H : Type} : List (Lit × DataW H) → Nat
  | [] => 0
  | x :: r => uptoBulkEntry x + uptoBulkEntries r
def uptoBulkEntry {H : Type} : Lit × DataW H → Nat
  | (.string bytes, d) => bytes.length + uptoBulk d + 1
  | (_, d) => uptoBulk d + 1
 end
def uptoSmall : (H : Type) → List (DataW H) → Bool := fun _ ds => decide (uptoBulkAll ds ≤ 1048576)
def OpenSpec.upto (s : _root_.Go.ChangeSpec) : _root_.Go.OpenSpec := { _root_.Go.OpenSpec.ofChange s with cond := some uptoSmall }

/-- 'laws.FnWants', WHERE WHAT IT READS IS OF BULK AT MOST 1048576: true; the input reads as it did. -/
def fnWantsUptoRow : OpenClaim := { program := "ytamglhpgdaoaoaa", sum := "d21fb01b95dad102b52496cc1c90184bc0d9b382d05a1977f4afeec5197be98b", func := "loop.example/tradecircles/laws.FnWants", spec := "fnWants", apart := false, narrowed := true }
def FnWantsUptoSaid : Prop := fnWantsUptoRow.holds Try.pinned (OpenSpec.upto fnWantsSpec)

/-- 'laws.FnCircle', WHERE WHAT IT READS IS OF BULK AT MOST 1048576: true; the input reads as it did. -/
def fnCircleUptoRow : OpenClaim := { program := "ytamglhpgdaoaoaa", sum := "d21fb01b95dad102b52496cc1c90184bc0d9b382d05a1977f4afeec5197be98b", func := "loop.example/tradecircles/laws.FnCircle", spec := "fnCircle", unfollowed := true, recurses := true, apart := false, narrowed := true }
def FnCircleUptoSaid : Prop := fnCircleUptoRow.holds Try.pinned (OpenSpec.upto fnCircleSpec)

/-- 'laws.FnWantTurn', WHERE WHAT IT READS IS OF BULK AT MOST 1048576: true; the input reads as it did. -/
def fnWantTurnUptoRow : OpenClaim := { program := "ytamglhpgdaoaoaa", sum := "d21fb01b95dad102b52496cc1c90184bc0d9b382d05a1977f4afeec5197be98b", func := "loop.example/tradecircles/laws.FnWantTurn", spec := "fnWantTurn", unfollowed := true, recurses := true, apart := false, narrowed := true }
def FnWantTurnUptoSaid : Prop := fnWantTurnUptoRow.holds Try.pinned (OpenSpec.upto fnWantTurnSpec)

/-- 'laws.FnExactWantIn', WHERE WHAT IT READS IS OF BULK AT MOST 1048576: true; the input reads as it did. -/
def fnExactWantInUptoRow : OpenClaim := { program := "ytamglhpgdaoaoaa", sum := "d21fb01b95dad102b52496cc1c90184bc0d9b382d05a1977f4afeec5197be98b", func := "loop.example/tradecircles/laws.FnExactWantIn", spec := "fnExactWantIn", apart := false, narrowed := true }
def FnExactWantInUptoSaid : Prop := fnExactWantInUptoRow.holds Try.pinned (OpenSpec.upto fnExactWantInSpec)

/-- 'laws.FnExactWantCircle', WHERE WHAT IT READS IS OF BULK AT MOST 1048576: true; the input reads as it did. -/
def fnExactWantCircleUptoRow : OpenClaim := { program := "ytamglhpgdaoaoaa", sum := "d21fb01b95dad102b52496cc1c90184bc0d9b382d05a1977f4afeec5197be98b", func := "loop.example/tradecircles/laws.FnExactWantCircle", spec := "fnExactWantCircle", apart := false, narrowed := true }
def FnExactWantCircleUptoSaid : Prop := fnExactWantCircleUptoRow.holds Try.pinned (OpenSpec.upto fnExactWantCircleSpec)

/-- 'laws.FnExactWantCircles', WHERE WHAT IT READS IS OF BULK AT MOST 1048576: true; the input reads as it did. -/
def fnExactWantCirclesUptoRow : OpenClaim := { program := "ytamglhpgdaoaoaa", sum := "d21fb01b95dad102b52496cc1c90184bc0d9b382d05a1977f4afeec5197be98b", func := "loop.example/tradecircles/laws.FnExactWantCircles", spec := "fnExactWantCircles", unfollowed := true, recurses := true, apart := false, narrowed := true }
def FnExactWantCirclesUptoSaid : Prop := fnExactWantCirclesUptoRow.holds Try.pinned (OpenSpec.upto fnExactWantCirclesSpec)

/-- 'laws.FnExactWantOn', WHERE WHAT IT READS IS OF BULK AT MOST 1048576: true; the input reads as it did. -/
def fnExactWantOnUptoRow : OpenClaim := { program := "ytamglhpgdaoaoaa", sum := "d21fb01b95dad102b52496cc1c90184bc0d9b382d05a1977f4afeec5197be98b", func := "loop.example/tradecircles/laws.FnExactWantOn", spec := "fnExactWantOn", unfollowed := true, recurses := true, apart := false, narrowed := true }
def FnExactWantOnUptoSaid : Prop := fnExactWantOnUptoRow.holds Try.pinned (OpenSpec.upto fnExactWantOnSpec)

/-- 'laws.FnExactWantMost', WHERE WHAT IT READS IS OF BULK AT MOST 1048576: true; the input reads as it did. -/
def fnExactWantMostUptoRow : OpenClaim := { program := "ytamglhpgdaoaoaa", sum := "d21fb01b95dad102b52496cc1c90184bc0d9b382d05a1977f4afeec5197be98b", func := "loop.example/tradecircles/laws.FnExactWantMost", spec := "fnExactWantMost", unfollowed := true, recurses := true, apart := false, narrowed := true }
def FnExactWantMostUptoSaid : Prop := fnExactWantMostUptoRow.holds Try.pinned (OpenSpec.upto fnExactWantMostSpec)

/-- 'laws.FnExactWantTry', WHERE WHAT IT READS IS OF BULK AT MOST 1048576: true; the input reads as it did. -/
def fnExactWantTryUptoRow : OpenClaim := { program := "ytamglhpgdaoaoaa", sum := "d21fb01b95dad102b52496cc1c90184bc0d9b382d05a1977f4afeec5197be98b", func := "loop.example/tradecircles/laws.FnExactWantTry", spec := "fnExactWantTry", unfollowed := true, recurses := true, apart := false, narrowed := true }
def FnExactWantTryUptoSaid : Prop := fnExactWantTryUptoRow.holds Try.pinned (OpenSpec.upto fnExactWantTrySpec)

/-- 'laws.FnExactWantFirst', WHERE WHAT IT READS IS OF BULK AT MOST 1048576: true; the input reads as it did. -/
def fnExactWantFirstUptoRow : OpenClaim := { program := "ytamglhpgdaoaoaa", sum := "d21fb01b95dad102b52496cc1c90184bc0d9b382d05a1977f4afeec5197be98b", func := "loop.example/tradecircles/laws.FnExactWantFirst", spec := "fnExactWantFirst", unfollowed := true, recurses := true, apart := false, narrowed := true }
def FnExactWantFirstUptoSaid : Prop := fnExactWantFirstUptoRow.holds Try.pinned (OpenSpec.upto fnExactWantFirstSpec)

/-- 'laws.FnExactWantTurn', WHERE WHAT IT READS IS OF BULK AT MOST 1048576: true; the input reads as it did. -/
def fnExactWantTurnUptoRow : OpenClaim := { program := "ytamglhpgdaoaoaa", sum := "d21fb01b95dad102b52496cc1c90184bc0d9b382d05a1977f4afeec5197be98b", func := "loop.example/tradecircles/laws.FnExactWantTurn", spec := "fnExactWantTurn", apart := false, narrowed := true }
def FnExactWantTurnUptoSaid : Prop := fnExactWantTurnUptoRow.holds Try.pinned (OpenSpec.upto fnExactWantTurnSpec)

/-- 'laws.FnExactWantAll', WHERE WHAT IT READS IS OF BULK AT MOST 1048576: true; the input reads as it did. -/
def fnExactWantAllUptoRow : OpenClaim := { program := "ytamglhpgdaoaoaa", sum := "d21fb01b95dad102b52496cc1c90184bc0d9b382d05a1977f4afeec5197be98b", func := "loop.example/tradecircles/laws.FnExactWantAll", spec := "fnExactWantAll", unfollowed := true, recurses := true, apart := false, narrowed := true }
def FnExactWantAllUptoSaid : Prop := fnExactWantAllUptoRow.holds Try.pinned (OpenSpec.upto fnExactWantAllSpec)

end Rows
end Go.Proofs.Ytamglhpgdaoaoaa
