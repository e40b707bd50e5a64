/-
  No cell of these rows narrows 'for every input' (looked for: loops, veiled, ifaces, maps, wideKeys, modest, calm, conditions, laid).
  DERIVED. THE GIVEN ROWS OF THIS SEAT. 4 by the template 'for every input the law returns true; each argument reads behind the call as it read before'; 0 by the template 'total and deterministic' (their statements: YtbbcafmmgllfeaaTotals.lean).
  GIVEN WITH THE SEED: the statements are not yours to turn. If you find one false, say at which input.
  Laid BY PROGRAM, IN A SANDBOX (cutbox-rows.mjs): the forced cells as the released guide's own fill.sh prints them over the translation 8a71579df97e1bbe… (all of the seat's roots in one cut). By AI agents, Wed Nov 11 2026. No macro, syntax, notation, axiom, sorry.
-/
import Derived.Test.YtbbcafmmgllfeaaChecked
import GoSem.Claim
import GoSem.ClaimJoined
import GoSem.ClaimMapViews
import Derived.JoinedTies
import Derived.KernelRfl
namespace Go.Proofs.Ytbbcafmmgllfeaa
/- THE CELL 'sum', in the pinned program and in every row, IS THE sha256 OF THE DUMP (.gsa) THAT YtbbcafmmgllfeaaProg.lean LOADS. Nothing in Lean hashes anything: it is a label: what it is worth is what the hold of that sum in a sandbox is worth. -/
noncomputable def Try.pinned : Pinned := { name := "ytbbcafmmgllfeaa", sum := "8a71579df97e1bbe98b7cdc1ea8734dbac9b6b5cc13e128ce14ff1d47d9ef7b3", checked := Try.checked }
namespace Rows
def none {H : Type} : Left H := { results := [], args := [] }

/-- 'laws.FnFair': WHATEVER THE INPUT: true; the input reads as it did. -/
def fnFairSpec : ChangeSpec := { name := "fnFair", fn := fun _ => fun
  | [d] => { results := [.lit (.bool true)], args := [d] }
  | _ => none }
def fnFairRow : OpenClaim := { program := "ytbbcafmmgllfeaa", sum := "8a71579df97e1bbe98b7cdc1ea8734dbac9b6b5cc13e128ce14ff1d47d9ef7b3", func := "loop.example/tradecircles/laws.FnFair", spec := "fnFair", unfollowed := true, recurses := true, apart := false }
def FnFairSaid : Prop := fnFairRow.holds Try.pinned (OpenSpec.ofChange fnFairSpec)

/-- ITS FALSE NEIGHBOUR: 'it returns false'. Refute it at one input. -/
def fnFairWrong : ChangeSpec := { name := "fnFair", fn := fun _ => fun
  | [d] => { results := [.lit (.bool false)], args := [d] }
  | _ => none }
def FnFairWrongFalsely : Prop := fnFairRow.holds Try.pinned (OpenSpec.ofChange fnFairWrong)

/-- 'laws.FnSome': WHATEVER THE INPUT: true; the input reads as it did. -/
def fnSomeSpec : ChangeSpec := { name := "fnSome", fn := fun _ => fun
  | [d] => { results := [.lit (.bool true)], args := [d] }
  | _ => none }
def fnSomeRow : OpenClaim := { program := "ytbbcafmmgllfeaa", sum := "8a71579df97e1bbe98b7cdc1ea8734dbac9b6b5cc13e128ce14ff1d47d9ef7b3", func := "loop.example/tradecircles/laws.FnSome", spec := "fnSome", unfollowed := true, recurses := true, apart := false }
def FnSomeSaid : Prop := fnSomeRow.holds Try.pinned (OpenSpec.ofChange fnSomeSpec)

/-- ITS FALSE NEIGHBOUR: 'it returns false'. Refute it at one input. -/
def fnSomeWrong : ChangeSpec := { name := "fnSome", fn := fun _ => fun
  | [d] => { results := [.lit (.bool false)], args := [d] }
  | _ => none }
def FnSomeWrongFalsely : Prop := fnSomeRow.holds Try.pinned (OpenSpec.ofChange fnSomeWrong)

/-- 'laws.FnLowSum': WHATEVER THE INPUT: true; the input reads as it did. -/
def fnLowSumSpec : ChangeSpec := { name := "fnLowSum", fn := fun _ => fun
  | [d] => { results := [.lit (.bool true)], args := [d] }
  | _ => none }
def fnLowSumRow : OpenClaim := { program := "ytbbcafmmgllfeaa", sum := "8a71579df97e1bbe98b7cdc1ea8734dbac9b6b5cc13e128ce14ff1d47d9ef7b3", func := "loop.example/tradecircles/laws.FnLowSum", spec := "fnLowSum", unfollowed := true, recurses := true, apart := false }
def FnLowSumSaid : Prop := fnLowSumRow.holds Try.pinned (OpenSpec.ofChange fnLowSumSpec)

/-- ITS FALSE NEIGHBOUR: 'it returns false'. Refute it at one input. -/
def fnLowSumWrong : ChangeSpec := { name := "fnLowSum", fn := fun _ => fun
  | [d] => { results := [.lit (.bool false)], args := [d] }
  | _ => none }
def FnLowSumWrongFalsely : Prop := fnLowSumRow.holds Try.pinned (OpenSpec.ofChange fnLowSumWrong)

/-- 'laws.FnGainPays': WHATEVER THE INPUT: true; the input reads as it did. -/
def fnGainPaysSpec : ChangeSpec := { name := "fnGainPays", fn := fun _ => fun
  | [d] => { results := [.lit (.bool true)], args := [d] }
  | _ => none }
def fnGainPaysRow : OpenClaim := { program := "ytbbcafmmgllfeaa", sum := "8a71579df97e1bbe98b7cdc1ea8734dbac9b6b5cc13e128ce14ff1d47d9ef7b3", func := "loop.example/tradecircles/laws.FnGainPays", spec := "fnGainPays", unfollowed := true, recurses := true, apart := false }
def FnGainPaysSaid : Prop := fnGainPaysRow.holds Try.pinned (OpenSpec.ofChange fnGainPaysSpec)

/-- ITS FALSE NEIGHBOUR: 'it returns false'. Refute it at one input. -/
def fnGainPaysWrong : ChangeSpec := { name := "fnGainPays", fn := fun _ => fun
  | [d] => { results := [.lit (.bool false)], args := [d] }
  | _ => none }
def FnGainPaysWrongFalsely : Prop := fnGainPaysRow.holds Try.pinned (OpenSpec.ofChange fnGainPaysWrong)

/- THE SECOND FORM. 'bulk': how many values and letters a reading holds, each counted each time it is reached (what is shared counts as often as it is met; a slice's spare places count too). A statement '..UptoSaid' is the law's where the arguments, and the package variables that the reading takes, are together of bulk at most 1048576: NARROWER than '..Said'. Prove '..Said' where nothing that the law and all that it calls make is longer than what came in: it says more and counts as full. Else prove '..UptoSaid'. A law counts once. -/
mutual
def uptoBulk {H : Type} : DataW H → Nat
  | .lit (.string bytes) => bytes.length + 1
  | .lit _ => 1
  | .nil => 1
  | .ptr d => uptoBulk d + 1
  | .slice elems spare => uptoBulkAll elems + uptoBulkAll spare + 1
  | .agg parts => uptoBulkAll parts + 1
  | .iface _ d => uptoBulk d + 1
  | .map entries => uptoBulkEntries entries + 1
  | .held _ => 1
def uptoBulkAll {H : Type} : List (DataW H) → Nat
  | [] => 0
  | d :: r => uptoBulk d + uptoBulkAll r
def uptoBulkEntries {H : Type} : List (Lit × DataW H) → Nat
  | [] => 0
  | x :: r => uptoBulkEntry x + uptoBulkEntries r
def uptoBulkEntry {H : Type} : Lit × DataW H → Nat
  | (.string bytes, d) => bytes.length + uptoBulk d + 1
  | (_, d) => uptoBulk d + 1
 end
def uptoSmall : (H : Type) → List (DataW H) → Bool := fun _ ds => decide (uptoBulkAll ds ≤ 1048576)
def OpenSpec.upto (s : _root_.Go.ChangeSpec) : _root_.Go.OpenSpec := { _root_.Go.OpenSpec.ofChange s with cond := some uptoSmall }

/-- 'laws.FnFair', WHERE WHAT IT READS IS OF BULK AT MOST 1048576: true; the input reads as it did. -/
def fnFairUptoRow : OpenClaim := { program := "ytbbcafmmgllfeaa", sum := "8a71579df97e1bbe98b7cdc1ea8734dbac9b6b5cc13e128ce14ff1d47d9ef7b3", func := "loop.example/tradecircles/laws.FnFair", spec := "fnFair", unfollowed := true, recurses := true, apart := false, narrowed := true }
def FnFairUptoSaid : Prop := fnFairUptoRow.holds Try.pinned (OpenSpec.upto fnFairSpec)

/-- 'laws.FnSome', WHERE WHAT IT READS IS OF BULK AT MOST 1048576: true; the input reads as it did. -/
def fnSomeUptoRow : OpenClaim := { program := "ytbbcafmmgllfeaa", sum := "8a71579df97e1bbe98b7cdc1ea8734dbac9b6b5cc13e128ce14ff1d47d9ef7b3", func := "loop.example/tradecircles/laws.FnSome", spec := "fnSome", unfollowed := true, recurses := true, apart := false, narrowed := true }
def FnSomeUptoSaid : Prop := fnSomeUptoRow.holds Try.pinned (OpenSpec.upto fnSomeSpec)

/-- 'laws.FnLowSum', WHERE WHAT IT READS IS OF BULK AT MOST 1048576: true; the input reads as it did. -/
def fnLowSumUptoRow : OpenClaim := { program := "ytbbcafmmgllfeaa", sum := "8a71579df97e1bbe98b7cdc1ea8734dbac9b6b5cc13e128ce14ff1d47d9ef7b3", func := "loop.example/tradecircles/laws.FnLowSum", spec := "fnLowSum", unfollowed := true, recurses := true, apart := false, narrowed := true }
def FnLowSumUptoSaid : Prop := fnLowSumUptoRow.holds Try.pinned (OpenSpec.upto fnLowSumSpec)

/-- 'laws.FnGainPays', WHERE WHAT IT READS IS OF BULK AT MOST 1048576: true; the input reads as it did. -/
def fnGainPaysUptoRow : OpenClaim := { program := "ytbbcafmmgllfeaa", sum := "8a71579df97e1bbe98b7cdc1ea8734dbac9b6b5cc13e128ce14ff1d47d9ef7b3", func := "loop.example/tradecircles/laws.FnGainPays", spec := "fnGainPays", unfollowed := true, recurses := true, apart := false, narrowed := true }
def FnGainPaysUptoSaid : Prop := fnGainPaysUptoRow.holds Try.pinned (OpenSpec.upto fnGainPaysSpec)

end Rows
end Go.Proofs.Ytbbcafmmgllfeaa
