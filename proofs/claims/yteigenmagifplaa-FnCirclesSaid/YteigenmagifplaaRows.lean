/-
  No cell of these rows narrows 'for every input' (looked for: loops, veiled, ifaces, maps, wideKeys, modest, calm, conditions, laid).
  DERIVED. THE GIVEN ROWS OF THIS SEAT. 7 by the template 'for every input the law returns true; each argument reads behind the call as it read before'; 0 by the template 'total and deterministic' (their statements: YteigenmagifplaaTotals.lean).
  GIVEN WITH THE SEED: the statements are not yours to turn. If you find one false, say at which input.
  Laid BY PROGRAM, IN A SANDBOX (cutbox-rows.mjs): the forced cells as the released guide's own fill.sh prints them over the translation 21d0132ecffec085… (all of the seat's roots in one cut). By AI agents, Wed Nov 11 2026. No macro, syntax, notation, axiom, sorry.
-/
import Derived.Test.YteigenmagifplaaChecked
import GoSem.Claim
import GoSem.ClaimJoined
import GoSem.ClaimMapViews
import Derived.JoinedTies
import Derived.KernelRfl
namespace Go.Proofs.Yteigenmagifplaa
/- THE CELL 'sum', in the pinned program and in every row, IS THE sha256 OF THE DUMP (.gsa) THAT YteigenmagifplaaProg.lean LOADS. Nothing in Lean hashes anything: it is a label: what it is worth is what the hold of that sum in a sandbox is worth. -/
noncomputable def Try.pinned : Pinned := { name := "yteigenmagifplaa", sum := "21d0132ecffec085935e27942fe7cd809be4222083de3bae3ca694fead483862", checked := Try.checked }
namespace Rows
def none {H : Type} : Left H := { results := [], args := [] }

/-- 'laws.FnCircles': WHATEVER THE INPUT: true; the input reads as it did. -/
def fnCirclesSpec : ChangeSpec := { name := "fnCircles", fn := fun _ => fun
  | [d] => { results := [.lit (.bool true)], args := [d] }
  | _ => none }
def fnCirclesRow : OpenClaim := { program := "yteigenmagifplaa", sum := "21d0132ecffec085935e27942fe7cd809be4222083de3bae3ca694fead483862", func := "loop.example/tradecircles/laws.FnCircles", spec := "fnCircles", unfollowed := true, recurses := true, apart := false }
def FnCirclesSaid : Prop := fnCirclesRow.holds Try.pinned (OpenSpec.ofChange fnCirclesSpec)

/-- ITS FALSE NEIGHBOUR: 'it returns false'. Refute it at one input. -/
def fnCirclesWrong : ChangeSpec := { name := "fnCircles", fn := fun _ => fun
  | [d] => { results := [.lit (.bool false)], args := [d] }
  | _ => none }
def FnCirclesWrongFalsely : Prop := fnCirclesRow.holds Try.pinned (OpenSpec.ofChange fnCirclesWrong)

/-- 'laws.FnOn': WHATEVER THE INPUT: true; the input reads as it did. -/
def fnOnSpec : ChangeSpec := { name := "fnOn", fn := fun _ => fun
  | [d] => { results := [.lit (.bool true)], args := [d] }
  | _ => none }
def fnOnRow : OpenClaim := { program := "yteigenmagifplaa", sum := "21d0132ecffec085935e27942fe7cd809be4222083de3bae3ca694fead483862", func := "loop.example/tradecircles/laws.FnOn", spec := "fnOn", unfollowed := true, recurses := true, apart := false }
def FnOnSaid : Prop := fnOnRow.holds Try.pinned (OpenSpec.ofChange fnOnSpec)

/-- ITS FALSE NEIGHBOUR: 'it returns false'. Refute it at one input. -/
def fnOnWrong : ChangeSpec := { name := "fnOn", fn := fun _ => fun
  | [d] => { results := [.lit (.bool false)], args := [d] }
  | _ => none }
def FnOnWrongFalsely : Prop := fnOnRow.holds Try.pinned (OpenSpec.ofChange fnOnWrong)

/-- 'laws.FnMost': WHATEVER THE INPUT: true; the input reads as it did. -/
def fnMostSpec : ChangeSpec := { name := "fnMost", fn := fun _ => fun
  | [d] => { results := [.lit (.bool true)], args := [d] }
  | _ => none }
def fnMostRow : OpenClaim := { program := "yteigenmagifplaa", sum := "21d0132ecffec085935e27942fe7cd809be4222083de3bae3ca694fead483862", func := "loop.example/tradecircles/laws.FnMost", spec := "fnMost", unfollowed := true, recurses := true, apart := false }
def FnMostSaid : Prop := fnMostRow.holds Try.pinned (OpenSpec.ofChange fnMostSpec)

/-- ITS FALSE NEIGHBOUR: 'it returns false'. Refute it at one input. -/
def fnMostWrong : ChangeSpec := { name := "fnMost", fn := fun _ => fun
  | [d] => { results := [.lit (.bool false)], args := [d] }
  | _ => none }
def FnMostWrongFalsely : Prop := fnMostRow.holds Try.pinned (OpenSpec.ofChange fnMostWrong)

/-- 'laws.FnTry': WHATEVER THE INPUT: true; the input reads as it did. -/
def fnTrySpec : ChangeSpec := { name := "fnTry", fn := fun _ => fun
  | [d] => { results := [.lit (.bool true)], args := [d] }
  | _ => none }
def fnTryRow : OpenClaim := { program := "yteigenmagifplaa", sum := "21d0132ecffec085935e27942fe7cd809be4222083de3bae3ca694fead483862", func := "loop.example/tradecircles/laws.FnTry", spec := "fnTry", unfollowed := true, recurses := true, apart := false }
def FnTrySaid : Prop := fnTryRow.holds Try.pinned (OpenSpec.ofChange fnTrySpec)

/-- ITS FALSE NEIGHBOUR: 'it returns false'. Refute it at one input. -/
def fnTryWrong : ChangeSpec := { name := "fnTry", fn := fun _ => fun
  | [d] => { results := [.lit (.bool false)], args := [d] }
  | _ => none }
def FnTryWrongFalsely : Prop := fnTryRow.holds Try.pinned (OpenSpec.ofChange fnTryWrong)

/-- 'laws.FnWantFirst': WHATEVER THE INPUT: true; the input reads as it did. -/
def fnWantFirstSpec : ChangeSpec := { name := "fnWantFirst", fn := fun _ => fun
  | [d] => { results := [.lit (.bool true)], args := [d] }
  | _ => none }
def fnWantFirstRow : OpenClaim := { program := "yteigenmagifplaa", sum := "21d0132ecffec085935e27942fe7cd809be4222083de3bae3ca694fead483862", func := "loop.example/tradecircles/laws.FnWantFirst", spec := "fnWantFirst", unfollowed := true, recurses := true, apart := false }
def FnWantFirstSaid : Prop := fnWantFirstRow.holds Try.pinned (OpenSpec.ofChange fnWantFirstSpec)

/-- ITS FALSE NEIGHBOUR: 'it returns false'. Refute it at one input. -/
def fnWantFirstWrong : ChangeSpec := { name := "fnWantFirst", fn := fun _ => fun
  | [d] => { results := [.lit (.bool false)], args := [d] }
  | _ => none }
def FnWantFirstWrongFalsely : Prop := fnWantFirstRow.holds Try.pinned (OpenSpec.ofChange fnWantFirstWrong)

/-- 'laws.FnWantAll': WHATEVER THE INPUT: true; the input reads as it did. -/
def fnWantAllSpec : ChangeSpec := { name := "fnWantAll", fn := fun _ => fun
  | [d] => { results := [.lit (.bool true)], args := [d] }
  | _ => none }
def fnWantAllRow : OpenClaim := { program := "yteigenmagifplaa", sum := "21d0132ecffec085935e27942fe7cd809be4222083de3bae3ca694fead483862", func := "loop.example/tradecircles/laws.FnWantAll", spec := "fnWantAll", unfollowed := true, recurses := true, apart := false }
def FnWantAllSaid : Prop := fnWantAllRow.holds Try.pinned (OpenSpec.ofChange fnWantAllSpec)

/-- ITS FALSE NEIGHBOUR: 'it returns false'. Refute it at one input. -/
def fnWantAllWrong : ChangeSpec := { name := "fnWantAll", fn := fun _ => fun
  | [d] => { results := [.lit (.bool false)], args := [d] }
  | _ => none }
def FnWantAllWrongFalsely : Prop := fnWantAllRow.holds Try.pinned (OpenSpec.ofChange fnWantAllWrong)

/-- 'laws.FnMostTwo': WHATEVER THE INPUT: true; the input reads as it did. -/
def fnMostTwoSpec : ChangeSpec := { name := "fnMostTwo", fn := fun _ => fun
  | [d] => { results := [.lit (.bool true)], args := [d] }
  | _ => none }
def fnMostTwoRow : OpenClaim := { program := "yteigenmagifplaa", sum := "21d0132ecffec085935e27942fe7cd809be4222083de3bae3ca694fead483862", func := "loop.example/tradecircles/laws.FnMostTwo", spec := "fnMostTwo", unfollowed := true, recurses := true, apart := false }
def FnMostTwoSaid : Prop := fnMostTwoRow.holds Try.pinned (OpenSpec.ofChange fnMostTwoSpec)

/-- ITS FALSE NEIGHBOUR: 'it returns false'. Refute it at one input. -/
def fnMostTwoWrong : ChangeSpec := { name := "fnMostTwo", fn := fun _ => fun
  | [d] => { results := [.lit (.bool false)], args := [d] }
  | _ => none }
def FnMostTwoWrongFalsely : Prop := fnMostTwoRow.holds Try.pinned (OpenSpec.ofChange fnMostTwoWrong)

/- THE SECOND FORM. 'bulk': how many values and letters a reading holds, each counted each time it is reached (what is shared counts as often as it is met; a slice's spare places count too). A statement '..UptoSaid' is the law's where the arguments, and the package variables that the reading takes, are together of bulk at most 1048576: NARROWER than '..Said'. Prove '..Said' where nothing that the law and all that it calls make is longer than what came in: it says more and counts as full. Else prove '..UptoSaid'. A law counts once. -/
mutual
def uptoBulk {H : Type} : DataW H → Nat
  | .lit (.string bytes) => bytes.length + 1
  | .lit _ => 1
  | .nil => 1
  | .ptr d => uptoBulk d + 1
  | .slice elems spare => uptoBulkAll elems + uptoBulkAll spare + 1
  | .agg parts => uptoBulkAll parts + 1
  | .iface _ d => uptoBulk d + 1
  | .map entries => uptoBulkEntries entries + 1
  | .held _ => 1
def uptoBulkAll {H : Type} : List (DataW H) → Nat
  | [] => 0
  | d :: r => uptoBulk d + uptoBulkAll r
def uptoBulkEntries {H : Type} : List (Lit × DataW H) → Nat
  | [] => 0
  | x :: r => uptoBulkEntry x + uptoBulkEntries r
def uptoBulkEntry {H : Type} : Lit × DataW H → Nat
  | (.string bytes, d) => bytes.length + uptoBulk d + 1
  | (_, d) => uptoBulk d + 1
 end
def uptoSmall : (H : Type) → List (DataW H) → Bool := fun _ ds => decide (uptoBulkAll ds ≤ 1048576)
def OpenSpec.upto (s : _root_.Go.ChangeSpec) : _root_.Go.OpenSpec := { _root_.Go.OpenSpec.ofChange s with cond := some uptoSmall }

/-- 'laws.FnCircles', WHERE WHAT IT READS IS OF BULK AT MOST 1048576: true; the input reads as it did. -/
def fnCirclesUptoRow : OpenClaim := { program := "yteigenmagifplaa", sum := "21d0132ecffec085935e27942fe7cd809be4222083de3bae3ca694fead483862", func := "loop.example/tradecircles/laws.FnCircles", spec := "fnCircles", unfollowed := true, recurses := true, apart := false, narrowed := true }
def FnCirclesUptoSaid : Prop := fnCirclesUptoRow.holds Try.pinned (OpenSpec.upto fnCirclesSpec)

/-- 'laws.FnOn', WHERE WHAT IT READS IS OF BULK AT MOST 1048576: true; the input reads as it did. -/
def fnOnUptoRow : OpenClaim := { program := "yteigenmagifplaa", sum := "21d0132ecffec085935e27942fe7cd809be4222083de3bae3ca694fead483862", func := "loop.example/tradecircles/laws.FnOn", spec := "fnOn", unfollowed := true, recurses := true, apart := false, narrowed := true }
def FnOnUptoSaid : Prop := fnOnUptoRow.holds Try.pinned (OpenSpec.upto fnOnSpec)

/-- 'laws.FnMost', WHERE WHAT IT READS IS OF BULK AT MOST 1048576: true; the input reads as it did. -/
def fnMostUptoRow : OpenClaim := { program := "yteigenmagifplaa", sum := "21d0132ecffec085935e27942fe7cd809be4222083de3bae3ca694fead483862", func := "loop.example/tradecircles/laws.FnMost", spec := "fnMost", unfollowed := true, recurses := true, apart := false, narrowed := true }
def FnMostUptoSaid : Prop := fnMostUptoRow.holds Try.pinned (OpenSpec.upto fnMostSpec)

/-- 'laws.FnTry', WHERE WHAT IT READS IS OF BULK AT MOST 1048576: true; the input reads as it did. -/
def fnTryUptoRow : OpenClaim := { program := "yteigenmagifplaa", sum := "21d0132ecffec085935e27942fe7cd809be4222083de3bae3ca694fead483862", func := "loop.example/tradecircles/laws.FnTry", spec := "fnTry", unfollowed := true, recurses := true, apart := false, narrowed := true }
def FnTryUptoSaid : Prop := fnTryUptoRow.holds Try.pinned (OpenSpec.upto fnTrySpec)

/-- 'laws.FnWantFirst', WHERE WHAT IT READS IS OF BULK AT MOST 1048576: true; the input reads as it did. -/
def fnWantFirstUptoRow : OpenClaim := { program := "yteigenmagifplaa", sum := "21d0132ecffec085935e27942fe7cd809be4222083de3bae3ca694fead483862", func := "loop.example/tradecircles/laws.FnWantFirst", spec := "fnWantFirst", unfollowed := true, recurses := true, apart := false, narrowed := true }
def FnWantFirstUptoSaid : Prop := fnWantFirstUptoRow.holds Try.pinned (OpenSpec.upto fnWantFirstSpec)

/-- 'laws.FnWantAll', WHERE WHAT IT READS IS OF BULK AT MOST 1048576: true; the input reads as it did. -/
def fnWantAllUptoRow : OpenClaim := { program := "yteigenmagifplaa", sum := "21d0132ecffec085935e27942fe7cd809be4222083de3bae3ca694fead483862", func := "loop.example/tradecircles/laws.FnWantAll", spec := "fnWantAll", unfollowed := true, recurses := true, apart := false, narrowed := true }
def FnWantAllUptoSaid : Prop := fnWantAllUptoRow.holds Try.pinned (OpenSpec.upto fnWantAllSpec)

/-- 'laws.FnMostTwo', WHERE WHAT IT READS IS OF BULK AT MOST 1048576: true; the input reads as it did. -/
def fnMostTwoUptoRow : OpenClaim := { program := "yteigenmagifplaa", sum := "21d0132ecffec085935e27942fe7cd809be4222083de3bae3ca694fead483862", func := "loop.example/tradecircles/laws.FnMostTwo", spec := "fnMostTwo", unfollowed := true, recurses := true, apart := false, narrowed := true }
def FnMostTwoUptoSaid : Prop := fnMostTwoUptoRow.holds Try.pinned (OpenSpec.upto fnMostTwoSpec)

end Rows
end Go.Proofs.Yteigenmagifplaa
