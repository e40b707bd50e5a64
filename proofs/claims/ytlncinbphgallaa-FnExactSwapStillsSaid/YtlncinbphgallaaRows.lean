/-
  No cell of these rows narrows 'for every input' (looked for: loops, veiled, ifaces, maps, wideKeys, modest, calm, conditions, laid).
  DERIVED. THE GIVEN ROWS OF THIS SEAT. 12 by the template 'for every input the law returns true; each argument reads behind the call as it read before'; 0 by the template 'total and deterministic' (their statements: YtlncinbphgallaaTotals.lean).
  GIVEN WITH THE SEED: the statements are not yours to turn. If you find one false, say at which input.
  Laid BY PROGRAM, IN A SANDBOX (cutbox-rows.mjs): the forced cells as the released guide's own fill.sh prints them over the translation 285b02ca5c9fe278… (all of the seat's roots in one cut). By AI agents, Wed Nov 11 2026. No macro, syntax, notation, axiom, sorry.
-/
import Derived.Test.YtlncinbphgallaaChecked
import GoSem.Claim
import GoSem.ClaimJoined
import GoSem.ClaimMapViews
import Derived.JoinedTies
import Derived.KernelRfl
namespace Go.Proofs.Ytlncinbphgallaa
/- THE CELL 'sum', in the pinned program and in every row, IS THE sha256 OF THE DUMP (.gsa) THAT YtlncinbphgallaaProg.lean LOADS. Nothing in Lean hashes anything: it is a label: what it is worth is what the hold of that sum in a sandbox is worth. -/
noncomputable def Try.pinned : Pinned := { name := "ytlncinbphgallaa", sum := "285b02ca5c9fe2788f8db84c5bafaf9746c3fd1f460940d6a1d0fef013f8c31a", checked := Try.checked }
namespace Rows
def none {H : Type} : Left H := { results := [], args := [] }

/-- 'laws.FnExactSwapMay': WHATEVER THE INPUT: true; the input reads as it did. -/
def fnExactSwapMaySpec : ChangeSpec := { name := "fnExactSwapMay", fn := fun _ => fun
  | [d1, d2, d3, d4] => { results := [.lit (.bool true)], args := [d1, d2, d3, d4] }
  | _ => none }
def fnExactSwapMayRow : OpenClaim := { program := "ytlncinbphgallaa", sum := "285b02ca5c9fe2788f8db84c5bafaf9746c3fd1f460940d6a1d0fef013f8c31a", func := "loop.example/tradecircles/laws.FnExactSwapMay", spec := "fnExactSwapMay", plainKeys := false, apart := false }
def FnExactSwapMaySaid : Prop := fnExactSwapMayRow.holds Try.pinned (OpenSpec.ofChange fnExactSwapMaySpec)

/-- ITS FALSE NEIGHBOUR: 'it returns false'. Refute it at one input. -/
def fnExactSwapMayWrong : ChangeSpec := { name := "fnExactSwapMay", fn := fun _ => fun
  | [d1, d2, d3, d4] => { results := [.lit (.bool false)], args := [d1, d2, d3, d4] }
  | _ => none }
def FnExactSwapMayWrongFalsely : Prop := fnExactSwapMayRow.holds Try.pinned (OpenSpec.ofChange fnExactSwapMayWrong)

/-- 'laws.FnExactSwapAll': WHATEVER THE INPUT: true; the input reads as it did. -/
def fnExactSwapAllSpec : ChangeSpec := { name := "fnExactSwapAll", fn := fun _ => fun
  | [d1, d2] => { results := [.lit (.bool true)], args := [d1, d2] }
  | _ => none }
def fnExactSwapAllRow : OpenClaim := { program := "ytlncinbphgallaa", sum := "285b02ca5c9fe2788f8db84c5bafaf9746c3fd1f460940d6a1d0fef013f8c31a", func := "loop.example/tradecircles/laws.FnExactSwapAll", spec := "fnExactSwapAll", unfollowed := true, recurses := true, plainKeys := false, apart := false }
def FnExactSwapAllSaid : Prop := fnExactSwapAllRow.holds Try.pinned (OpenSpec.ofChange fnExactSwapAllSpec)

/-- ITS FALSE NEIGHBOUR: 'it returns false'. Refute it at one input. -/
def fnExactSwapAllWrong : ChangeSpec := { name := "fnExactSwapAll", fn := fun _ => fun
  | [d1, d2] => { results := [.lit (.bool false)], args := [d1, d2] }
  | _ => none }
def FnExactSwapAllWrongFalsely : Prop := fnExactSwapAllRow.holds Try.pinned (OpenSpec.ofChange fnExactSwapAllWrong)

/-- 'laws.FnExactSwapDo': WHATEVER THE INPUT: true; the input reads as it did. -/
def fnExactSwapDoSpec : ChangeSpec := { name := "fnExactSwapDo", fn := fun _ => fun
  | [d1, d2, d3, d4] => { results := [.lit (.bool true)], args := [d1, d2, d3, d4] }
  | _ => none }
def fnExactSwapDoRow : OpenClaim := { program := "ytlncinbphgallaa", sum := "285b02ca5c9fe2788f8db84c5bafaf9746c3fd1f460940d6a1d0fef013f8c31a", func := "loop.example/tradecircles/laws.FnExactSwapDo", spec := "fnExactSwapDo", plainKeys := false, apart := false }
def FnExactSwapDoSaid : Prop := fnExactSwapDoRow.holds Try.pinned (OpenSpec.ofChange fnExactSwapDoSpec)

/-- ITS FALSE NEIGHBOUR: 'it returns false'. Refute it at one input. -/
def fnExactSwapDoWrong : ChangeSpec := { name := "fnExactSwapDo", fn := fun _ => fun
  | [d1, d2, d3, d4] => { results := [.lit (.bool false)], args := [d1, d2, d3, d4] }
  | _ => none }
def FnExactSwapDoWrongFalsely : Prop := fnExactSwapDoRow.holds Try.pinned (OpenSpec.ofChange fnExactSwapDoWrong)

/-- 'laws.FnExactSwapStill': WHATEVER THE INPUT: true; the input reads as it did. -/
def fnExactSwapStillSpec : ChangeSpec := { name := "fnExactSwapStill", fn := fun _ => fun
  | [d1, d2] => { results := [.lit (.bool true)], args := [d1, d2] }
  | _ => none }
def fnExactSwapStillRow : OpenClaim := { program := "ytlncinbphgallaa", sum := "285b02ca5c9fe2788f8db84c5bafaf9746c3fd1f460940d6a1d0fef013f8c31a", func := "loop.example/tradecircles/laws.FnExactSwapStill", spec := "fnExactSwapStill", unfollowed := true, recurses := true, plainKeys := false, apart := false }
def FnExactSwapStillSaid : Prop := fnExactSwapStillRow.holds Try.pinned (OpenSpec.ofChange fnExactSwapStillSpec)

/-- ITS FALSE NEIGHBOUR: 'it returns false'. Refute it at one input. -/
def fnExactSwapStillWrong : ChangeSpec := { name := "fnExactSwapStill", fn := fun _ => fun
  | [d1, d2] => { results := [.lit (.bool false)], args := [d1, d2] }
  | _ => none }
def FnExactSwapStillWrongFalsely : Prop := fnExactSwapStillRow.holds Try.pinned (OpenSpec.ofChange fnExactSwapStillWrong)

/-- 'laws.FnExactSwapStills': WHATEVER THE INPUT: true; the input reads as it did. -/
def fnExactSwapStillsSpec : ChangeSpec := { name := "fnExactSwapStills", fn := fun _ => fun
  | [d] => { results := [.lit (.bool true)], args := [d] }
  | _ => none }
def fnExactSwapStillsRow : OpenClaim := { program := "ytlncinbphgallaa", sum := "285b02ca5c9fe2788f8db84c5bafaf9746c3fd1f460940d6a1d0fef013f8c31a", func := "loop.example/tradecircles/laws.FnExactSwapStills", spec := "fnExactSwapStills", unfollowed := true, recurses := true, plainKeys := false, apart := false }
def FnExactSwapStillsSaid : Prop := fnExactSwapStillsRow.holds Try.pinned (OpenSpec.ofChange fnExactSwapStillsSpec)

/-- ITS FALSE NEIGHBOUR: 'it returns false'. Refute it at one input. -/
def fnExactSwapStillsWrong : ChangeSpec := { name := "fnExactSwapStills", fn := fun _ => fun
  | [d] => { results := [.lit (.bool false)], args := [d] }
  | _ => none }
def FnExactSwapStillsWrongFalsely : Prop := fnExactSwapStillsRow.holds Try.pinned (OpenSpec.ofChange fnExactSwapStillsWrong)

/-- 'laws.FnExactSwapEnds': WHATEVER THE INPUT: true; the input reads as it did. -/
def fnExactSwapEndsSpec : ChangeSpec := { name := "fnExactSwapEnds", fn := fun _ => fun
  | [d] => { results := [.lit (.bool true)], args := [d] }
  | _ => none }
def fnExactSwapEndsRow : OpenClaim := { program := "ytlncinbphgallaa", sum := "285b02ca5c9fe2788f8db84c5bafaf9746c3fd1f460940d6a1d0fef013f8c31a", func := "loop.example/tradecircles/laws.FnExactSwapEnds", spec := "fnExactSwapEnds", unfollowed := true, recurses := true, plainKeys := false, apart := false }
def FnExactSwapEndsSaid : Prop := fnExactSwapEndsRow.holds Try.pinned (OpenSpec.ofChange fnExactSwapEndsSpec)

/-- ITS FALSE NEIGHBOUR: 'it returns false'. Refute it at one input. -/
def fnExactSwapEndsWrong : ChangeSpec := { name := "fnExactSwapEnds", fn := fun _ => fun
  | [d] => { results := [.lit (.bool false)], args := [d] }
  | _ => none }
def FnExactSwapEndsWrongFalsely : Prop := fnExactSwapEndsRow.holds Try.pinned (OpenSpec.ofChange fnExactSwapEndsWrong)

/-- 'laws.FnExactSwapLong': WHATEVER THE INPUT: true; the input reads as it did. -/
def fnExactSwapLongSpec : ChangeSpec := { name := "fnExactSwapLong", fn := fun _ => fun
  | [d] => { results := [.lit (.bool true)], args := [d] }
  | _ => none }
def fnExactSwapLongRow : OpenClaim := { program := "ytlncinbphgallaa", sum := "285b02ca5c9fe2788f8db84c5bafaf9746c3fd1f460940d6a1d0fef013f8c31a", func := "loop.example/tradecircles/laws.FnExactSwapLong", spec := "fnExactSwapLong", unfollowed := true, recurses := true, plainKeys := false, apart := false }
def FnExactSwapLongSaid : Prop := fnExactSwapLongRow.holds Try.pinned (OpenSpec.ofChange fnExactSwapLongSpec)

/-- ITS FALSE NEIGHBOUR: 'it returns false'. Refute it at one input. -/
def fnExactSwapLongWrong : ChangeSpec := { name := "fnExactSwapLong", fn := fun _ => fun
  | [d] => { results := [.lit (.bool false)], args := [d] }
  | _ => none }
def FnExactSwapLongWrongFalsely : Prop := fnExactSwapLongRow.holds Try.pinned (OpenSpec.ofChange fnExactSwapLongWrong)

/-- 'laws.FnMay': WHATEVER THE INPUT: true; the input reads as it did. -/
def fnMaySpec : ChangeSpec := { name := "fnMay", fn := fun _ => fun
  | [d] => { results := [.lit (.bool true)], args := [d] }
  | _ => none }
def fnMayRow : OpenClaim := { program := "ytlncinbphgallaa", sum := "285b02ca5c9fe2788f8db84c5bafaf9746c3fd1f460940d6a1d0fef013f8c31a", func := "loop.example/tradecircles/laws.FnMay", spec := "fnMay", plainKeys := false, apart := false }
def FnMaySaid : Prop := fnMayRow.holds Try.pinned (OpenSpec.ofChange fnMaySpec)

/-- ITS FALSE NEIGHBOUR: 'it returns false'. Refute it at one input. -/
def fnMayWrong : ChangeSpec := { name := "fnMay", fn := fun _ => fun
  | [d] => { results := [.lit (.bool false)], args := [d] }
  | _ => none }
def FnMayWrongFalsely : Prop := fnMayRow.holds Try.pinned (OpenSpec.ofChange fnMayWrong)

/-- 'laws.FnAll': WHATEVER THE INPUT: true; the input reads as it did. -/
def fnAllSpec : ChangeSpec := { name := "fnAll", fn := fun _ => fun
  | [d] => { results := [.lit (.bool true)], args := [d] }
  | _ => none }
def fnAllRow : OpenClaim := { program := "ytlncinbphgallaa", sum := "285b02ca5c9fe2788f8db84c5bafaf9746c3fd1f460940d6a1d0fef013f8c31a", func := "loop.example/tradecircles/laws.FnAll", spec := "fnAll", unfollowed := true, recurses := true, plainKeys := false, apart := false }
def FnAllSaid : Prop := fnAllRow.holds Try.pinned (OpenSpec.ofChange fnAllSpec)

/-- ITS FALSE NEIGHBOUR: 'it returns false'. Refute it at one input. -/
def fnAllWrong : ChangeSpec := { name := "fnAll", fn := fun _ => fun
  | [d] => { results := [.lit (.bool false)], args := [d] }
  | _ => none }
def FnAllWrongFalsely : Prop := fnAllRow.holds Try.pinned (OpenSpec.ofChange fnAllWrong)

/-- 'laws.FnDo': WHATEVER THE INPUT: true; the input reads as it did. -/
def fnDoSpec : ChangeSpec := { name := "fnDo", fn := fun _ => fun
  | [d] => { results := [.lit (.bool true)], args := [d] }
  | _ => none }
def fnDoRow : OpenClaim := { program := "ytlncinbphgallaa", sum := "285b02ca5c9fe2788f8db84c5bafaf9746c3fd1f460940d6a1d0fef013f8c31a", func := "loop.example/tradecircles/laws.FnDo", spec := "fnDo", plainKeys := false, apart := false }
def FnDoSaid : Prop := fnDoRow.holds Try.pinned (OpenSpec.ofChange fnDoSpec)

/-- ITS FALSE NEIGHBOUR: 'it returns false'. Refute it at one input. -/
def fnDoWrong : ChangeSpec := { name := "fnDo", fn := fun _ => fun
  | [d] => { results := [.lit (.bool false)], args := [d] }
  | _ => none }
def FnDoWrongFalsely : Prop := fnDoRow.holds Try.pinned (OpenSpec.ofChange fnDoWrong)

/-- 'laws.FnStill': WHATEVER THE INPUT: true; the input reads as it did. -/
def fnStillSpec : ChangeSpec := { name := "fnStill", fn := fun _ => fun
  | [d] => { results := [.lit (.bool true)], args := [d] }
  | _ => none }
def fnStillRow : OpenClaim := { program := "ytlncinbphgallaa", sum := "285b02ca5c9fe2788f8db84c5bafaf9746c3fd1f460940d6a1d0fef013f8c31a", func := "loop.example/tradecircles/laws.FnStill", spec := "fnStill", unfollowed := true, recurses := true, plainKeys := false, apart := false }
def FnStillSaid : Prop := fnStillRow.holds Try.pinned (OpenSpec.ofChange fnStillSpec)

/-- ITS FALSE NEIGHBOUR: 'it returns false'. Refute it at one input. -/
def fnStillWrong : ChangeSpec := { name := "fnStill", fn := fun _ => fun
  | [d] => { results := [.lit (.bool false)], args := [d] }
  | _ => none }
def FnStillWrongFalsely : Prop := fnStillRow.holds Try.pinned (OpenSpec.ofChange fnStillWrong)

/-- 'laws.FnGets': WHATEVER THE INPUT: true; the input reads as it did. -/
def fnGetsSpec : ChangeSpec := { name := "fnGets", fn := fun _ => fun
  | [d] => { results := [.lit (.bool true)], args := [d] }
  | _ => none }
def fnGetsRow : OpenClaim := { program := "ytlncinbphgallaa", sum := "285b02ca5c9fe2788f8db84c5bafaf9746c3fd1f460940d6a1d0fef013f8c31a", func := "loop.example/tradecircles/laws.FnGets", spec := "fnGets", unfollowed := true, recurses := true, plainKeys := false, apart := false }
def FnGetsSaid : Prop := fnGetsRow.holds Try.pinned (OpenSpec.ofChange fnGetsSpec)

/-- ITS FALSE NEIGHBOUR: 'it returns false'. Refute it at one input. -/
def fnGetsWrong : ChangeSpec := { name := "fnGets", fn := fun _ => fun
  | [d] => { results := [.lit (.bool false)], args := [d] }
  | _ => none }
def FnGetsWrongFalsely : Prop := fnGetsRow.holds Try.pinned (OpenSpec.ofChange fnGetsWrong)

/- THE SECOND FORM. 'bulk': how many values and letters a reading holds, each counted each time it is reached (what is shared counts as often as it is met; a slice's spare places count too). A statement '..UptoSaid' is the law's where the arguments, and the package variables that the reading takes, are together of bulk at most 1048576: NARROWER than '..Said'. Prove '..Said' where nothing that the law and all that it calls make is longer than what came in: it says more and counts as full. Else prove '..UptoSaid'. A law counts once. -/
mutual
def uptoBulk {H : Type} : DataW H → Nat
  | .lit (.string bytes) => bytes.length + 1
  | .lit _ => 1
  | .nil => 1
  | .ptr d => uptoBulk d + 1
  | .slice elems spare => uptoBulkAll elems + uptoBulkAll spare + 1
  | .agg parts => uptoBulkAll parts + 1
  | .iface _ d => uptoBulk d + 1
  | .map entries => uptoBulkEntries entries + 1
  | .held _ => 1
def uptoBulkAll {H : Type} : List (DataW H) → Nat
  | [] => 0
  | d :: r => uptoBulk d + uptoBulkAll r
def uptoBulkEntries {H : Type} : List (Lit × DataW H) → Nat
  | [] => 0
  | x :: r => uptoBulkEntry x + uptoBulkEntries r
def uptoBulkEntry {H : Type} : Lit × DataW H → Nat
  | (.string bytes, d) => bytes.length + uptoBulk d + 1
  | (_, d) => uptoBulk d + 1
 end
def uptoSmall : (H : Type) → List (DataW H) → Bool := fun _ ds => decide (uptoBulkAll ds ≤ 1048576)
def OpenSpec.upto (s : _root_.Go.ChangeSpec) : _root_.Go.OpenSpec := { _root_.Go.OpenSpec.ofChange s with cond := some uptoSmall }

/-- 'laws.FnExactSwapMay', WHERE WHAT IT READS IS OF BULK AT MOST 1048576: true; the input reads as it did. -/
def fnExactSwapMayUptoRow : OpenClaim := { program := "ytlncinbphgallaa", sum := "285b02ca5c9fe2788f8db84c5bafaf9746c3fd1f460940d6a1d0fef013f8c31a", func := "loop.example/tradecircles/laws.FnExactSwapMay", spec := "fnExactSwapMay", plainKeys := false, apart := false, narrowed := true }
def FnExactSwapMayUptoSaid : Prop := fnExactSwapMayUptoRow.holds Try.pinned (OpenSpec.upto fnExactSwapMaySpec)

/-- 'laws.FnExactSwapAll', WHERE WHAT IT READS IS OF BULK AT MOST 1048576: true; the input reads as it did. -/
def fnExactSwapAllUptoRow : OpenClaim := { program := "ytlncinbphgallaa", sum := "285b02ca5c9fe2788f8db84c5bafaf9746c3fd1f460940d6a1d0fef013f8c31a", func := "loop.example/tradecircles/laws.FnExactSwapAll", spec := "fnExactSwapAll", unfollowed := true, recurses := true, plainKeys := false, apart := false, narrowed := true }
def FnExactSwapAllUptoSaid : Prop := fnExactSwapAllUptoRow.holds Try.pinned (OpenSpec.upto fnExactSwapAllSpec)

/-- 'laws.FnExactSwapDo', WHERE WHAT IT READS IS OF BULK AT MOST 1048576: true; the input reads as it did. -/
def fnExactSwapDoUptoRow : OpenClaim := { program := "ytlncinbphgallaa", sum := "285b02ca5c9fe2788f8db84c5bafaf9746c3fd1f460940d6a1d0fef013f8c31a", func := "loop.example/tradecircles/laws.FnExactSwapDo", spec := "fnExactSwapDo", plainKeys := false, apart := false, narrowed := true }
def FnExactSwapDoUptoSaid : Prop := fnExactSwapDoUptoRow.holds Try.pinned (OpenSpec.upto fnExactSwapDoSpec)

/-- 'laws.FnExactSwapStill', WHERE WHAT IT READS IS OF BULK AT MOST 1048576: true; the input reads as it did. -/
def fnExactSwapStillUptoRow : OpenClaim := { program := "ytlncinbphgallaa", sum := "285b02ca5c9fe2788f8db84c5bafaf9746c3fd1f460940d6a1d0fef013f8c31a", func := "loop.example/tradecircles/laws.FnExactSwapStill", spec := "fnExactSwapStill", unfollowed := true, recurses := true, plainKeys := false, apart := false, narrowed := true }
def FnExactSwapStillUptoSaid : Prop := fnExactSwapStillUptoRow.holds Try.pinned (OpenSpec.upto fnExactSwapStillSpec)

/-- 'laws.FnExactSwapStills', WHERE WHAT IT READS IS OF BULK AT MOST 1048576: true; the input reads as it did. -/
def fnExactSwapStillsUptoRow : OpenClaim := { program := "ytlncinbphgallaa", sum := "285b02ca5c9fe2788f8db84c5bafaf9746c3fd1f460940d6a1d0fef013f8c31a", func := "loop.example/tradecircles/laws.FnExactSwapStills", spec := "fnExactSwapStills", unfollowed := true, recurses := true, plainKeys := false, apart := false, narrowed := true }
def FnExactSwapStillsUptoSaid : Prop := fnExactSwapStillsUptoRow.holds Try.pinned (OpenSpec.upto fnExactSwapStillsSpec)

/-- 'laws.FnExactSwapEnds', WHERE WHAT IT READS IS OF BULK AT MOST 1048576: true; the input reads as it did. -/
def fnExactSwapEndsUptoRow : OpenClaim := { program := "ytlncinbphgallaa", sum := "285b02ca5c9fe2788f8db84c5bafaf9746c3fd1f460940d6a1d0fef013f8c31a", func := "loop.example/tradecircles/laws.FnExactSwapEnds", spec := "fnExactSwapEnds", unfollowed := true, recurses := true, plainKeys := false, apart := false, narrowed := true }
def FnExactSwapEndsUptoSaid : Prop := fnExactSwapEndsUptoRow.holds Try.pinned (OpenSpec.upto fnExactSwapEndsSpec)

/-- 'laws.FnExactSwapLong', WHERE WHAT IT READS IS OF BULK AT MOST 1048576: true; the input reads as it did. -/
def fnExactSwapLongUptoRow : OpenClaim := { program := "ytlncinbphgallaa", sum := "285b02ca5c9fe2788f8db84c5bafaf9746c3fd1f460940d6a1d0fef013f8c31a", func := "loop.example/tradecircles/laws.FnExactSwapLong", spec := "fnExactSwapLong", unfollowed := true, recurses := true, plainKeys := false, apart := false, narrowed := true }
def FnExactSwapLongUptoSaid : Prop := fnExactSwapLongUptoRow.holds Try.pinned (OpenSpec.upto fnExactSwapLongSpec)

/-- 'laws.FnMay', WHERE WHAT IT READS IS OF BULK AT MOST 1048576: true; the input reads as it did. -/
def fnMayUptoRow : OpenClaim := { program := "ytlncinbphgallaa", sum := "285b02ca5c9fe2788f8db84c5bafaf9746c3fd1f460940d6a1d0fef013f8c31a", func := "loop.example/tradecircles/laws.FnMay", spec := "fnMay", plainKeys := false, apart := false, narrowed := true }
def FnMayUptoSaid : Prop := fnMayUptoRow.holds Try.pinned (OpenSpec.upto fnMaySpec)

/-- 'laws.FnAll', WHERE WHAT IT READS IS OF BULK AT MOST 1048576: true; the input reads as it did. -/
def fnAllUptoRow : OpenClaim := { program := "ytlncinbphgallaa", sum := "285b02ca5c9fe2788f8db84c5bafaf9746c3fd1f460940d6a1d0fef013f8c31a", func := "loop.example/tradecircles/laws.FnAll", spec := "fnAll", unfollowed := true, recurses := true, plainKeys := false, apart := false, narrowed := true }
def FnAllUptoSaid : Prop := fnAllUptoRow.holds Try.pinned (OpenSpec.upto fnAllSpec)

/-- 'laws.FnDo', WHERE WHAT IT READS IS OF BULK AT MOST 1048576: true; the input reads as it did. -/
def fnDoUptoRow : OpenClaim := { program := "ytlncinbphgallaa", sum := "285b02ca5c9fe2788f8db84c5bafaf9746c3fd1f460940d6a1d0fef013f8c31a", func := "loop.example/tradecircles/laws.FnDo", spec := "fnDo", plainKeys := false, apart := false, narrowed := true }
def FnDoUptoSaid : Prop := fnDoUptoRow.holds Try.pinned (OpenSpec.upto fnDoSpec)

/-- 'laws.FnStill', WHERE WHAT IT READS IS OF BULK AT MOST 1048576: true; the input reads as it did. -/
def fnStillUptoRow : OpenClaim := { program := "ytlncinbphgallaa", sum := "285b02ca5c9fe2788f8db84c5bafaf9746c3fd1f460940d6a1d0fef013f8c31a", func := "loop.example/tradecircles/laws.FnStill", spec := "fnStill", unfollowed := true, recurses := true, plainKeys := false, apart := false, narrowed := true }
def FnStillUptoSaid : Prop := fnStillUptoRow.holds Try.pinned (OpenSpec.upto fnStillSpec)

/-- 'laws.FnGets', WHERE WHAT IT READS IS OF BULK AT MOST 1048576: true; the input reads as it did. -/
def fnGetsUptoRow : OpenClaim := { program := "ytlncinbphgallaa", sum := "285b02ca5c9fe2788f8db84c5bafaf9746c3fd1f460940d6a1d0fef013f8c31a", func := "loop.example/tradecircles/laws.FnGets", spec := "fnGets", unfollowed := true, recurses := true, plainKeys := false, apart := false, narrowed := true }
def FnGetsUptoSaid : Prop := fnGetsUptoRow.holds Try.pinned (OpenSpec.upto fnGetsSpec)

end Rows
end Go.Proofs.Ytlncinbphgallaa
