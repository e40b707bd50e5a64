/-
  No cell of these rows narrows 'for every input' (looked for: loops, veiled, ifaces, maps, wideKeys, modest, calm, conditions, laid).
  DERIVED. THE GIVEN ROWS OF THIS SEAT. 7 by the template 'for every input the law returns true; each argument reads behind the call as it read before'; 0 by the template 'total and deterministic' (their statements: YtipfjblnanafnaaTotals.lean).
  GIVEN WITH THE SEED: the statements are not yours to turn. If you find one false, say at which input.
  Laid BY PROGRAM, IN A SANDBOX (cutbox-rows.mjs): the forced cells as the released guide's own fill.sh prints them over the translation a5b407abbd362b4b… (all of the seat's roots in one cut). By AI agents, Wed Nov 11 2026. No macro, syntax, notation, axiom, sorry.
-/
import Derived.Test.YtipfjblnanafnaaChecked
import GoSem.Claim
import GoSem.ClaimJoined
import GoSem.ClaimMapViews
import Derived.JoinedTies
import Derived.KernelRfl
namespace Go.Proofs.Ytipfjblnanafnaa
/- THE CELL 'sum', in the pinned program and in every row, IS THE sha256 OF THE DUMP (.gsa) THAT YtipfjblnanafnaaProg.lean LOADS. Nothing in Lean hashes anything: it is a label: what it is worth is what the hold of that sum in a sandbox is worth. -/
noncomputable def Try.pinned : Pinned := { name := "ytipfjblnanafnaa", sum := "a5b407abbd362b4b5e8c94aeb0b1960a7adf54701d0849405a4348894c3384d7", checked := Try.checked }
namespace Rows
def none {H : Type} : Left H := { results := [], args := [] }

/-- 'laws.FnExactTurnTake': WHATEVER THE INPUT: true; the input reads as it did. -/
def fnExactTurnTakeSpec : ChangeSpec := { name := "fnExactTurnTake", fn := fun _ => fun
  | [d1, d2] => { results := [.lit (.bool true)], args := [d1, d2] }
  | _ => none }
def fnExactTurnTakeRow : OpenClaim := { program := "ytipfjblnanafnaa", sum := "a5b407abbd362b4b5e8c94aeb0b1960a7adf54701d0849405a4348894c3384d7", func := "loop.example/tradecircles/laws.FnExactTurnTake", spec := "fnExactTurnTake", unfollowed := true, recurses := true, plainKeys := false, apart := false }
def FnExactTurnTakeSaid : Prop := fnExactTurnTakeRow.holds Try.pinned (OpenSpec.ofChange fnExactTurnTakeSpec)

/-- ITS FALSE NEIGHBOUR: 'it returns false'. Refute it at one input. -/
def fnExactTurnTakeWrong : ChangeSpec := { name := "fnExactTurnTake", fn := fun _ => fun
  | [d1, d2] => { results := [.lit (.bool false)], args := [d1, d2] }
  | _ => none }
def FnExactTurnTakeWrongFalsely : Prop := fnExactTurnTakeRow.holds Try.pinned (OpenSpec.ofChange fnExactTurnTakeWrong)

/-- 'laws.FnExactTurnHappy': WHATEVER THE INPUT: true; the input reads as it did. -/
def fnExactTurnHappySpec : ChangeSpec := { name := "fnExactTurnHappy", fn := fun _ => fun
  | [d1, d2] => { results := [.lit (.bool true)], args := [d1, d2] }
  | _ => none }
def fnExactTurnHappyRow : OpenClaim := { program := "ytipfjblnanafnaa", sum := "a5b407abbd362b4b5e8c94aeb0b1960a7adf54701d0849405a4348894c3384d7", func := "loop.example/tradecircles/laws.FnExactTurnHappy", spec := "fnExactTurnHappy", plainKeys := false, apart := false }
def FnExactTurnHappySaid : Prop := fnExactTurnHappyRow.holds Try.pinned (OpenSpec.ofChange fnExactTurnHappySpec)

/-- ITS FALSE NEIGHBOUR: 'it returns false'. Refute it at one input. -/
def fnExactTurnHappyWrong : ChangeSpec := { name := "fnExactTurnHappy", fn := fun _ => fun
  | [d1, d2] => { results := [.lit (.bool false)], args := [d1, d2] }
  | _ => none }
def FnExactTurnHappyWrongFalsely : Prop := fnExactTurnHappyRow.holds Try.pinned (OpenSpec.ofChange fnExactTurnHappyWrong)

/-- 'laws.FnHappy': WHATEVER THE INPUT: true; the input reads as it did. -/
def fnHappySpec : ChangeSpec := { name := "fnHappy", fn := fun _ => fun
  | [d] => { results := [.lit (.bool true)], args := [d] }
  | _ => none }
def fnHappyRow : OpenClaim := { program := "ytipfjblnanafnaa", sum := "a5b407abbd362b4b5e8c94aeb0b1960a7adf54701d0849405a4348894c3384d7", func := "loop.example/tradecircles/laws.FnHappy", spec := "fnHappy", unfollowed := true, recurses := true, plainKeys := false, apart := false }
def FnHappySaid : Prop := fnHappyRow.holds Try.pinned (OpenSpec.ofChange fnHappySpec)

/-- ITS FALSE NEIGHBOUR: 'it returns false'. Refute it at one input. -/
def fnHappyWrong : ChangeSpec := { name := "fnHappy", fn := fun _ => fun
  | [d] => { results := [.lit (.bool false)], args := [d] }
  | _ => none }
def FnHappyWrongFalsely : Prop := fnHappyRow.holds Try.pinned (OpenSpec.ofChange fnHappyWrong)

/-- 'laws.FnExactSwapEnds': WHATEVER THE INPUT: true; the input reads as it did. -/
def fnExactSwapEndsSpec : ChangeSpec := { name := "fnExactSwapEnds", fn := fun _ => fun
  | [d] => { results := [.lit (.bool true)], args := [d] }
  | _ => none }
def fnExactSwapEndsRow : OpenClaim := { program := "ytipfjblnanafnaa", sum := "a5b407abbd362b4b5e8c94aeb0b1960a7adf54701d0849405a4348894c3384d7", func := "loop.example/tradecircles/laws.FnExactSwapEnds", spec := "fnExactSwapEnds", unfollowed := true, recurses := true, plainKeys := false, apart := false }
def FnExactSwapEndsSaid : Prop := fnExactSwapEndsRow.holds Try.pinned (OpenSpec.ofChange fnExactSwapEndsSpec)

/-- ITS FALSE NEIGHBOUR: 'it returns false'. Refute it at one input. -/
def fnExactSwapEndsWrong : ChangeSpec := { name := "fnExactSwapEnds", fn := fun _ => fun
  | [d] => { results := [.lit (.bool false)], args := [d] }
  | _ => none }
def FnExactSwapEndsWrongFalsely : Prop := fnExactSwapEndsRow.holds Try.pinned (OpenSpec.ofChange fnExactSwapEndsWrong)

/-- 'laws.FnExactSwapLong': WHATEVER THE INPUT: true; the input reads as it did. -/
def fnExactSwapLongSpec : ChangeSpec := { name := "fnExactSwapLong", fn := fun _ => fun
  | [d] => { results := [.lit (.bool true)], args := [d] }
  | _ => none }
def fnExactSwapLongRow : OpenClaim := { program := "ytipfjblnanafnaa", sum := "a5b407abbd362b4b5e8c94aeb0b1960a7adf54701d0849405a4348894c3384d7", func := "loop.example/tradecircles/laws.FnExactSwapLong", spec := "fnExactSwapLong", unfollowed := true, recurses := true, plainKeys := false, apart := false }
def FnExactSwapLongSaid : Prop := fnExactSwapLongRow.holds Try.pinned (OpenSpec.ofChange fnExactSwapLongSpec)

/-- ITS FALSE NEIGHBOUR: 'it returns false'. Refute it at one input. -/
def fnExactSwapLongWrong : ChangeSpec := { name := "fnExactSwapLong", fn := fun _ => fun
  | [d] => { results := [.lit (.bool false)], args := [d] }
  | _ => none }
def FnExactSwapLongWrongFalsely : Prop := fnExactSwapLongRow.holds Try.pinned (OpenSpec.ofChange fnExactSwapLongWrong)

/-- 'laws.FnEnds': WHATEVER THE INPUT: true; the input reads as it did. -/
def fnEndsSpec : ChangeSpec := { name := "fnEnds", fn := fun _ => fun
  | [d] => { results := [.lit (.bool true)], args := [d] }
  | _ => none }
def fnEndsRow : OpenClaim := { program := "ytipfjblnanafnaa", sum := "a5b407abbd362b4b5e8c94aeb0b1960a7adf54701d0849405a4348894c3384d7", func := "loop.example/tradecircles/laws.FnEnds", spec := "fnEnds", unfollowed := true, recurses := true, plainKeys := false, apart := false }
def FnEndsSaid : Prop := fnEndsRow.holds Try.pinned (OpenSpec.ofChange fnEndsSpec)

/-- ITS FALSE NEIGHBOUR: 'it returns false'. Refute it at one input. -/
def fnEndsWrong : ChangeSpec := { name := "fnEnds", fn := fun _ => fun
  | [d] => { results := [.lit (.bool false)], args := [d] }
  | _ => none }
def FnEndsWrongFalsely : Prop := fnEndsRow.holds Try.pinned (OpenSpec.ofChange fnEndsWrong)

/-- 'laws.FnLong': WHATEVER THE INPUT: true; the input reads as it did. -/
def fnLongSpec : ChangeSpec := { name := "fnLong", fn := fun _ => fun
  | [d] => { results := [.lit (.bool true)], args := [d] }
  | _ => none }
def fnLongRow : OpenClaim := { program := "ytipfjblnanafnaa", sum := "a5b407abbd362b4b5e8c94aeb0b1960a7adf54701d0849405a4348894c3384d7", func := "loop.example/tradecircles/laws.FnLong", spec := "fnLong", unfollowed := true, recurses := true, plainKeys := false, apart := false }
def FnLongSaid : Prop := fnLongRow.holds Try.pinned (OpenSpec.ofChange fnLongSpec)

/-- ITS FALSE NEIGHBOUR: 'it returns false'. Refute it at one input. -/
def fnLongWrong : ChangeSpec := { name := "fnLong", fn := fun _ => fun
  | [d] => { results := [.lit (.bool false)], args := [d] }
  | _ => none }
def FnLongWrongFalsely : Prop := fnLongRow.holds Try.pinned (OpenSpec.ofChange fnLongWrong)

/- THE SECOND FORM. 'bulk': how many values and letters a reading holds, each counted each time it is reached (what is shared counts as often as it is met; a slice's spare places count too). A statement '..UptoSaid' is the law's where the arguments, and the package variables that the reading takes, are together of bulk at most 1048576: NARROWER than '..Said'. Prove '..Said' where nothing that the law and all that it calls make is longer than what came in: it says more and counts as full. Else prove '..UptoSaid'. A law counts once. -/
mutual
def uptoBulk {H : Type} : DataW H → Nat
  | .lit (.string bytes) => bytes.length + 1
  | .lit _ => 1
  | .nil => 1
  | .ptr d => uptoBulk d + 1
  | .slice elems spare => uptoBulkAll elems + uptoBulkAll spare + 1
  | .agg parts => uptoBulkAll parts + 1
  | .iface _ d => uptoBulk d + 1
  | .map entries => uptoBulkEntries entries + 1
  | .held _ => 1
def uptoBulkAll {H : Type} : List (DataW H) → Nat
  | [] => 0
  | d :: r => uptoBulk d + uptoBulkAll r
def uptoBulkEntries {H : Type} : List (Lit × DataW H) → Nat
  | [] => 0
  | x :: r => uptoBulkEntry x + uptoBulkEntries r
def uptoBulkEntry {H : Type} : Lit × DataW H → Nat
  | (.string bytes, d) => bytes.length + uptoBulk d + 1
  | (_, d) => uptoBulk d + 1
 end
def uptoSmall : (H : Type) → List (DataW H) → Bool := fun _ ds => decide (uptoBulkAll ds ≤ 1048576)
def OpenSpec.upto (s : _root_.Go.ChangeSpec) : _root_.Go.OpenSpec := { _root_.Go.OpenSpec.ofChange s with cond := some uptoSmall }

/-- 'laws.FnExactTurnTake', WHERE WHAT IT READS IS OF BULK AT MOST 1048576: true; the input reads as it did. -/
def fnExactTurnTakeUptoRow : OpenClaim := { program := "ytipfjblnanafnaa", sum := "a5b407abbd362b4b5e8c94aeb0b1960a7adf54701d0849405a4348894c3384d7", func := "loop.example/tradecircles/laws.FnExactTurnTake", spec := "fnExactTurnTake", unfollowed := true, recurses := true, plainKeys := false, apart := false, narrowed := true }
def FnExactTurnTakeUptoSaid : Prop := fnExactTurnTakeUptoRow.holds Try.pinned (OpenSpec.upto fnExactTurnTakeSpec)

/-- 'laws.FnExactTurnHappy', WHERE WHAT IT READS IS OF BULK AT MOST 1048576: true; the input reads as it did. -/
def fnExactTurnHappyUptoRow : OpenClaim := { program := "ytipfjblnanafnaa", sum := "a5b407abbd362b4b5e8c94aeb0b1960a7adf54701d0849405a4348894c3384d7", func := "loop.example/tradecircles/laws.FnExactTurnHappy", spec := "fnExactTurnHappy", plainKeys := false, apart := false, narrowed := true }
def FnExactTurnHappyUptoSaid : Prop := fnExactTurnHappyUptoRow.holds Try.pinned (OpenSpec.upto fnExactTurnHappySpec)

/-- 'laws.FnHappy', WHERE WHAT IT READS IS OF BULK AT MOST 1048576: true; the input reads as it did. -/
def fnHappyUptoRow : OpenClaim := { program := "ytipfjblnanafnaa", sum := "a5b407abbd362b4b5e8c94aeb0b1960a7adf54701d0849405a4348894c3384d7", func := "loop.example/tradecircles/laws.FnHappy", spec := "fnHappy", unfollowed := true, recurses := true, plainKeys := false, apart := false, narrowed := true }
def FnHappyUptoSaid : Prop := fnHappyUptoRow.holds Try.pinned (OpenSpec.upto fnHappySpec)

/-- 'laws.FnExactSwapEnds', WHERE WHAT IT READS IS OF BULK AT MOST 1048576: true; the input reads as it did. -/
def fnExactSwapEndsUptoRow : OpenClaim := { program := "ytipfjblnanafnaa", sum := "a5b407abbd362b4b5e8c94aeb0b1960a7adf54701d0849405a4348894c3384d7", func := "loop.example/tradecircles/laws.FnExactSwapEnds", spec := "fnExactSwapEnds", unfollowed := true, recurses := true, plainKeys := false, apart := false, narrowed := true }
def FnExactSwapEndsUptoSaid : Prop := fnExactSwapEndsUptoRow.holds Try.pinned (OpenSpec.upto fnExactSwapEndsSpec)

/-- 'laws.FnExactSwapLong', WHERE WHAT IT READS IS OF BULK AT MOST 1048576: true; the input reads as it did. -/
def fnExactSwapLongUptoRow : OpenClaim := { program := "ytipfjblnanafnaa", sum := "a5b407abbd362b4b5e8c94aeb0b1960a7adf54701d0849405a4348894c3384d7", func := "loop.example/tradecircles/laws.FnExactSwapLong", spec := "fnExactSwapLong", unfollowed := true, recurses := true, plainKeys := false, apart := false, narrowed := true }
def FnExactSwapLongUptoSaid : Prop := fnExactSwapLongUptoRow.holds Try.pinned (OpenSpec.upto fnExactSwapLongSpec)

/-- 'laws.FnEnds', WHERE WHAT IT READS IS OF BULK AT MOST 1048576: true; the input reads as it did. -/
def fnEndsUptoRow : OpenClaim := { program := "ytipfjblnanafnaa", sum := "a5b407abbd362b4b5e8c94aeb0b1960a7adf54701d0849405a4348894c3384d7", func := "loop.example/tradecircles/laws.FnEnds", spec := "fnEnds", unfollowed := true, recurses := true, plainKeys := false, apart := false, narrowed := true }
def FnEndsUptoSaid : Prop := fnEndsUptoRow.holds Try.pinned (OpenSpec.upto fnEndsSpec)

/-- 'laws.FnLong', WHERE WHAT IT READS IS OF BULK AT MOST 1048576: true; the input reads as it did. -/
def fnLongUptoRow : OpenClaim := { program := "ytipfjblnanafnaa", sum := "a5b407abbd362b4b5e8c94aeb0b1960a7adf54701d0849405a4348894c3384d7", func := "loop.example/tradecircles/laws.FnLong", spec := "fnLong", unfollowed := true, recurses := true, plainKeys := false, apart := false, narrowed := true }
def FnLongUptoSaid : Prop := fnLongUptoRow.holds Try.pinned (OpenSpec.upto fnLongSpec)

end Rows
end Go.Proofs.Ytipfjblnanafnaa
