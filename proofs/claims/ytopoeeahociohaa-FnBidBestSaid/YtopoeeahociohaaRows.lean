/-
  No cell of these rows narrows 'for every input' (looked for: loops, veiled, ifaces, maps, wideKeys, modest, calm, conditions, laid).
  DERIVED. THE GIVEN ROWS OF THIS SEAT. 12 by the template 'for every input the law returns true; each argument reads behind the call as it read before'; 0 by the template 'total and deterministic' (their statements: YtopoeeahociohaaTotals.lean).
  GIVEN WITH THE SEED: the statements are not yours to turn. If you find one false, say at which input.
  Laid BY PROGRAM, IN A SANDBOX (cutbox-rows.mjs): the forced cells as the released guide's own fill.sh prints them over the translation 77dd8a0d329255f5… (all of the seat's roots in one cut). By AI agents, Wed Nov 11 2026. No macro, syntax, notation, axiom, sorry.
-/
import Derived.Test.YtopoeeahociohaaChecked
import GoSem.Claim
import GoSem.ClaimJoined
import GoSem.ClaimMapViews
import Derived.JoinedTies
import Derived.KernelRfl
namespace Go.Proofs.Ytopoeeahociohaa
/- THE CELL 'sum', in the pinned program and in every row, IS THE sha256 OF THE DUMP (.gsa) THAT YtopoeeahociohaaProg.lean LOADS. Nothing in Lean hashes anything: it is a label: what it is worth is what the hold of that sum in a sandbox is worth. -/
noncomputable def Try.pinned : Pinned := { name := "ytopoeeahociohaa", sum := "77dd8a0d329255f552a2387aa550e2a1c02a3d87392ecdd9123abd1485711e83", checked := Try.checked }
namespace Rows
def none {H : Type} : Left H := { results := [], args := [] }

/-- 'laws.FnExactBidIn': WHATEVER THE INPUT: true; the input reads as it did. -/
def fnExactBidInSpec : ChangeSpec := { name := "fnExactBidIn", fn := fun _ => fun
  | [d] => { results := [.lit (.bool true)], args := [d] }
  | _ => none }
def fnExactBidInRow : OpenClaim := { program := "ytopoeeahociohaa", sum := "77dd8a0d329255f552a2387aa550e2a1c02a3d87392ecdd9123abd1485711e83", func := "loop.example/tradecircles/laws.FnExactBidIn", spec := "fnExactBidIn", apart := false }
def FnExactBidInSaid : Prop := fnExactBidInRow.holds Try.pinned (OpenSpec.ofChange fnExactBidInSpec)

/-- ITS FALSE NEIGHBOUR: 'it returns false'. Refute it at one input. -/
def fnExactBidInWrong : ChangeSpec := { name := "fnExactBidIn", fn := fun _ => fun
  | [d] => { results := [.lit (.bool false)], args := [d] }
  | _ => none }
def FnExactBidInWrongFalsely : Prop := fnExactBidInRow.holds Try.pinned (OpenSpec.ofChange fnExactBidInWrong)

/-- 'laws.FnExactBidTotal': WHATEVER THE INPUT: true; the input reads as it did. -/
def fnExactBidTotalSpec : ChangeSpec := { name := "fnExactBidTotal", fn := fun _ => fun
  | [d1, d2] => { results := [.lit (.bool true)], args := [d1, d2] }
  | _ => none }
def fnExactBidTotalRow : OpenClaim := { program := "ytopoeeahociohaa", sum := "77dd8a0d329255f552a2387aa550e2a1c02a3d87392ecdd9123abd1485711e83", func := "loop.example/tradecircles/laws.FnExactBidTotal", spec := "fnExactBidTotal", unfollowed := true, recurses := true, apart := false }
def FnExactBidTotalSaid : Prop := fnExactBidTotalRow.holds Try.pinned (OpenSpec.ofChange fnExactBidTotalSpec)

/-- ITS FALSE NEIGHBOUR: 'it returns false'. Refute it at one input. -/
def fnExactBidTotalWrong : ChangeSpec := { name := "fnExactBidTotal", fn := fun _ => fun
  | [d1, d2] => { results := [.lit (.bool false)], args := [d1, d2] }
  | _ => none }
def FnExactBidTotalWrongFalsely : Prop := fnExactBidTotalRow.holds Try.pinned (OpenSpec.ofChange fnExactBidTotalWrong)

/-- 'laws.FnExactBidBest': WHATEVER THE INPUT: true; the input reads as it did. -/
def fnExactBidBestSpec : ChangeSpec := { name := "fnExactBidBest", fn := fun _ => fun
  | [d] => { results := [.lit (.bool true)], args := [d] }
  | _ => none }
def fnExactBidBestRow : OpenClaim := { program := "ytopoeeahociohaa", sum := "77dd8a0d329255f552a2387aa550e2a1c02a3d87392ecdd9123abd1485711e83", func := "loop.example/tradecircles/laws.FnExactBidBest", spec := "fnExactBidBest", unfollowed := true, recurses := true, apart := false }
def FnExactBidBestSaid : Prop := fnExactBidBestRow.holds Try.pinned (OpenSpec.ofChange fnExactBidBestSpec)

/-- ITS FALSE NEIGHBOUR: 'it returns false'. Refute it at one input. -/
def fnExactBidBestWrong : ChangeSpec := { name := "fnExactBidBest", fn := fun _ => fun
  | [d] => { results := [.lit (.bool false)], args := [d] }
  | _ => none }
def FnExactBidBestWrongFalsely : Prop := fnExactBidBestRow.holds Try.pinned (OpenSpec.ofChange fnExactBidBestWrong)

/-- 'laws.FnExactBidFirst': WHATEVER THE INPUT: true; the input reads as it did. -/
def fnExactBidFirstSpec : ChangeSpec := { name := "fnExactBidFirst", fn := fun _ => fun
  | [d] => { results := [.lit (.bool true)], args := [d] }
  | _ => none }
def fnExactBidFirstRow : OpenClaim := { program := "ytopoeeahociohaa", sum := "77dd8a0d329255f552a2387aa550e2a1c02a3d87392ecdd9123abd1485711e83", func := "loop.example/tradecircles/laws.FnExactBidFirst", spec := "fnExactBidFirst", unfollowed := true, recurses := true, apart := false }
def FnExactBidFirstSaid : Prop := fnExactBidFirstRow.holds Try.pinned (OpenSpec.ofChange fnExactBidFirstSpec)

/-- ITS FALSE NEIGHBOUR: 'it returns false'. Refute it at one input. -/
def fnExactBidFirstWrong : ChangeSpec := { name := "fnExactBidFirst", fn := fun _ => fun
  | [d] => { results := [.lit (.bool false)], args := [d] }
  | _ => none }
def FnExactBidFirstWrongFalsely : Prop := fnExactBidFirstRow.holds Try.pinned (OpenSpec.ofChange fnExactBidFirstWrong)

/-- 'laws.FnExactBidIs': WHATEVER THE INPUT: true; the input reads as it did. -/
def fnExactBidIsSpec : ChangeSpec := { name := "fnExactBidIs", fn := fun _ => fun
  | [d1, d2] => { results := [.lit (.bool true)], args := [d1, d2] }
  | _ => none }
def fnExactBidIsRow : OpenClaim := { program := "ytopoeeahociohaa", sum := "77dd8a0d329255f552a2387aa550e2a1c02a3d87392ecdd9123abd1485711e83", func := "loop.example/tradecircles/laws.FnExactBidIs", spec := "fnExactBidIs", unfollowed := true, recurses := true, apart := false }
def FnExactBidIsSaid : Prop := fnExactBidIsRow.holds Try.pinned (OpenSpec.ofChange fnExactBidIsSpec)

/-- ITS FALSE NEIGHBOUR: 'it returns false'. Refute it at one input. -/
def fnExactBidIsWrong : ChangeSpec := { name := "fnExactBidIs", fn := fun _ => fun
  | [d1, d2] => { results := [.lit (.bool false)], args := [d1, d2] }
  | _ => none }
def FnExactBidIsWrongFalsely : Prop := fnExactBidIsRow.holds Try.pinned (OpenSpec.ofChange fnExactBidIsWrong)

/-- 'laws.FnExactBidWithout': WHATEVER THE INPUT: true; the input reads as it did. -/
def fnExactBidWithoutSpec : ChangeSpec := { name := "fnExactBidWithout", fn := fun _ => fun
  | [d1, d2] => { results := [.lit (.bool true)], args := [d1, d2] }
  | _ => none }
def fnExactBidWithoutRow : OpenClaim := { program := "ytopoeeahociohaa", sum := "77dd8a0d329255f552a2387aa550e2a1c02a3d87392ecdd9123abd1485711e83", func := "loop.example/tradecircles/laws.FnExactBidWithout", spec := "fnExactBidWithout", unfollowed := true, recurses := true, apart := false }
def FnExactBidWithoutSaid : Prop := fnExactBidWithoutRow.holds Try.pinned (OpenSpec.ofChange fnExactBidWithoutSpec)

/-- ITS FALSE NEIGHBOUR: 'it returns false'. Refute it at one input. -/
def fnExactBidWithoutWrong : ChangeSpec := { name := "fnExactBidWithout", fn := fun _ => fun
  | [d1, d2] => { results := [.lit (.bool false)], args := [d1, d2] }
  | _ => none }
def FnExactBidWithoutWrongFalsely : Prop := fnExactBidWithoutRow.holds Try.pinned (OpenSpec.ofChange fnExactBidWithoutWrong)

/-- 'laws.FnExactBidLess': WHATEVER THE INPUT: true; the input reads as it did. -/
def fnExactBidLessSpec : ChangeSpec := { name := "fnExactBidLess", fn := fun _ => fun
  | [d1, d2] => { results := [.lit (.bool true)], args := [d1, d2] }
  | _ => none }
def fnExactBidLessRow : OpenClaim := { program := "ytopoeeahociohaa", sum := "77dd8a0d329255f552a2387aa550e2a1c02a3d87392ecdd9123abd1485711e83", func := "loop.example/tradecircles/laws.FnExactBidLess", spec := "fnExactBidLess", unfollowed := true, recurses := true, apart := false }
def FnExactBidLessSaid : Prop := fnExactBidLessRow.holds Try.pinned (OpenSpec.ofChange fnExactBidLessSpec)

/-- ITS FALSE NEIGHBOUR: 'it returns false'. Refute it at one input. -/
def fnExactBidLessWrong : ChangeSpec := { name := "fnExactBidLess", fn := fun _ => fun
  | [d1, d2] => { results := [.lit (.bool false)], args := [d1, d2] }
  | _ => none }
def FnExactBidLessWrongFalsely : Prop := fnExactBidLessRow.holds Try.pinned (OpenSpec.ofChange fnExactBidLessWrong)

/-- 'laws.FnExactBidTwice': WHATEVER THE INPUT: true; the input reads as it did. -/
def fnExactBidTwiceSpec : ChangeSpec := { name := "fnExactBidTwice", fn := fun _ => fun
  | [d1, d2] => { results := [.lit (.bool true)], args := [d1, d2] }
  | _ => none }
def fnExactBidTwiceRow : OpenClaim := { program := "ytopoeeahociohaa", sum := "77dd8a0d329255f552a2387aa550e2a1c02a3d87392ecdd9123abd1485711e83", func := "loop.example/tradecircles/laws.FnExactBidTwice", spec := "fnExactBidTwice", unfollowed := true, recurses := true, apart := false }
def FnExactBidTwiceSaid : Prop := fnExactBidTwiceRow.holds Try.pinned (OpenSpec.ofChange fnExactBidTwiceSpec)

/-- ITS FALSE NEIGHBOUR: 'it returns false'. Refute it at one input. -/
def fnExactBidTwiceWrong : ChangeSpec := { name := "fnExactBidTwice", fn := fun _ => fun
  | [d1, d2] => { results := [.lit (.bool false)], args := [d1, d2] }
  | _ => none }
def FnExactBidTwiceWrongFalsely : Prop := fnExactBidTwiceRow.holds Try.pinned (OpenSpec.ofChange fnExactBidTwiceWrong)

/-- 'laws.FnExactBidDeals': WHATEVER THE INPUT: true; the input reads as it did. -/
def fnExactBidDealsSpec : ChangeSpec := { name := "fnExactBidDeals", fn := fun _ => fun
  | [d] => { results := [.lit (.bool true)], args := [d] }
  | _ => none }
def fnExactBidDealsRow : OpenClaim := { program := "ytopoeeahociohaa", sum := "77dd8a0d329255f552a2387aa550e2a1c02a3d87392ecdd9123abd1485711e83", func := "loop.example/tradecircles/laws.FnExactBidDeals", spec := "fnExactBidDeals", unfollowed := true, recurses := true, apart := false }
def FnExactBidDealsSaid : Prop := fnExactBidDealsRow.holds Try.pinned (OpenSpec.ofChange fnExactBidDealsSpec)

/-- ITS FALSE NEIGHBOUR: 'it returns false'. Refute it at one input. -/
def fnExactBidDealsWrong : ChangeSpec := { name := "fnExactBidDeals", fn := fun _ => fun
  | [d] => { results := [.lit (.bool false)], args := [d] }
  | _ => none }
def FnExactBidDealsWrongFalsely : Prop := fnExactBidDealsRow.holds Try.pinned (OpenSpec.ofChange fnExactBidDealsWrong)

/-- 'laws.FnBidBest': WHATEVER THE INPUT: true; the input reads as it did. -/
def fnBidBestSpec : ChangeSpec := { name := "fnBidBest", fn := fun _ => fun
  | [d] => { results := [.lit (.bool true)], args := [d] }
  | _ => none }
def fnBidBestRow : OpenClaim := { program := "ytopoeeahociohaa", sum := "77dd8a0d329255f552a2387aa550e2a1c02a3d87392ecdd9123abd1485711e83", func := "loop.example/tradecircles/laws.FnBidBest", spec := "fnBidBest", unfollowed := true, recurses := true, apart := false }
def FnBidBestSaid : Prop := fnBidBestRow.holds Try.pinned (OpenSpec.ofChange fnBidBestSpec)

/-- ITS FALSE NEIGHBOUR: 'it returns false'. Refute it at one input. -/
def fnBidBestWrong : ChangeSpec := { name := "fnBidBest", fn := fun _ => fun
  | [d] => { results := [.lit (.bool false)], args := [d] }
  | _ => none }
def FnBidBestWrongFalsely : Prop := fnBidBestRow.holds Try.pinned (OpenSpec.ofChange fnBidBestWrong)

/-- 'laws.FnBidSum': WHATEVER THE INPUT: true; the input reads as it did. -/
def fnBidSumSpec : ChangeSpec := { name := "fnBidSum", fn := fun _ => fun
  | [d] => { results := [.lit (.bool true)], args := [d] }
  | _ => none }
def fnBidSumRow : OpenClaim := { program := "ytopoeeahociohaa", sum := "77dd8a0d329255f552a2387aa550e2a1c02a3d87392ecdd9123abd1485711e83", func := "loop.example/tradecircles/laws.FnBidSum", spec := "fnBidSum", unfollowed := true, recurses := true, apart := false }
def FnBidSumSaid : Prop := fnBidSumRow.holds Try.pinned (OpenSpec.ofChange fnBidSumSpec)

/-- ITS FALSE NEIGHBOUR: 'it returns false'. Refute it at one input. -/
def fnBidSumWrong : ChangeSpec := { name := "fnBidSum", fn := fun _ => fun
  | [d] => { results := [.lit (.bool false)], args := [d] }
  | _ => none }
def FnBidSumWrongFalsely : Prop := fnBidSumRow.holds Try.pinned (OpenSpec.ofChange fnBidSumWrong)

/-- 'laws.FnFirst': WHATEVER THE INPUT: true; the input reads as it did. -/
def fnFirstSpec : ChangeSpec := { name := "fnFirst", fn := fun _ => fun
  | [d] => { results := [.lit (.bool true)], args := [d] }
  | _ => none }
def fnFirstRow : OpenClaim := { program := "ytopoeeahociohaa", sum := "77dd8a0d329255f552a2387aa550e2a1c02a3d87392ecdd9123abd1485711e83", func := "loop.example/tradecircles/laws.FnFirst", spec := "fnFirst", unfollowed := true, recurses := true, apart := false }
def FnFirstSaid : Prop := fnFirstRow.holds Try.pinned (OpenSpec.ofChange fnFirstSpec)

/-- ITS FALSE NEIGHBOUR: 'it returns false'. Refute it at one input. -/
def fnFirstWrong : ChangeSpec := { name := "fnFirst", fn := fun _ => fun
  | [d] => { results := [.lit (.bool false)], args := [d] }
  | _ => none }
def FnFirstWrongFalsely : Prop := fnFirstRow.holds Try.pinned (OpenSpec.ofChange fnFirstWrong)

/- THE SECOND FORM. 'bulk': how many values and letters a reading holds, each counted each time it is reached (what is shared counts as often as it is met; a slice's spare places count too). A statement '..UptoSaid' is the law's where the arguments, and the package variables that the reading takes, are together of bulk at most 1048576: NARROWER than '..Said'. Prove '..Said' where nothing that the law and all that it calls make is longer than what came in: it says more and counts as full. Else prove '..UptoSaid'. A law counts once. -/
mutual
def uptoBulk {H : Type} : DataW H → Nat
  | .lit (.string bytes) => bytes.length + 1
  | .lit _ => 1
  | .nil => 1
  | .ptr d => uptoBulk d + 1
  | .slice elems spare => uptoBulkAll elems + uptoBulkAll spare + 1
  | .agg parts => uptoBulkAll parts + 1
  | .iface _ d => uptoBulk d + 1
  | .map entries => uptoBulkEntries entries + 1
  | .held _ => 1
def uptoBulkAll {H : Type} : List (DataW H) → Nat
  | [] => 0
  | d :: r => uptoBulk d + uptoBulkAll r
def uptoBulkEntries {H : Type} : List (Lit × DataW H) → Nat
  | [] => 0
  | x :: r => uptoBulkEntry x + uptoBulkEntries r
def uptoBulkEntry {H : Type} : Lit × DataW H → Nat
  | (.string bytes, d) => bytes.length + uptoBulk d + 1
  | (_, d) => uptoBulk d + 1
 end
def uptoSmall : (H : Type) → List (DataW H) → Bool := fun _ ds => decide (uptoBulkAll ds ≤ 1048576)
def OpenSpec.upto (s : _root_.Go.ChangeSpec) : _root_.Go.OpenSpec := { _root_.Go.OpenSpec.ofChange s with cond := some uptoSmall }

/-- 'laws.FnExactBidIn', WHERE WHAT IT READS IS OF BULK AT MOST 1048576: true; the input reads as it did. -/
def fnExactBidInUptoRow : OpenClaim := { program := "ytopoeeahociohaa", sum := "77dd8a0d329255f552a2387aa550e2a1c02a3d87392ecdd9123abd1485711e83", func := "loop.example/tradecircles/laws.FnExactBidIn", spec := "fnExactBidIn", apart := false, narrowed := true }
def FnExactBidInUptoSaid : Prop := fnExactBidInUptoRow.holds Try.pinned (OpenSpec.upto fnExactBidInSpec)

/-- 'laws.FnExactBidTotal', WHERE WHAT IT READS IS OF BULK AT MOST 1048576: true; the input reads as it did. -/
def fnExactBidTotalUptoRow : OpenClaim := { program := "ytopoeeahociohaa", sum := "77dd8a0d329255f552a2387aa550e2a1c02a3d87392ecdd9123abd1485711e83", func := "loop.example/tradecircles/laws.FnExactBidTotal", spec := "fnExactBidTotal", unfollowed := true, recurses := true, apart := false, narrowed := true }
def FnExactBidTotalUptoSaid : Prop := fnExactBidTotalUptoRow.holds Try.pinned (OpenSpec.upto fnExactBidTotalSpec)

/-- 'laws.FnExactBidBest', WHERE WHAT IT READS IS OF BULK AT MOST 1048576: true; the input reads as it did. -/
def fnExactBidBestUptoRow : OpenClaim := { program := "ytopoeeahociohaa", sum := "77dd8a0d329255f552a2387aa550e2a1c02a3d87392ecdd9123abd1485711e83", func := "loop.example/tradecircles/laws.FnExactBidBest", spec := "fnExactBidBest", unfollowed := true, recurses := true, apart := false, narrowed := true }
def FnExactBidBestUptoSaid : Prop := fnExactBidBestUptoRow.holds Try.pinned (OpenSpec.upto fnExactBidBestSpec)

/-- 'laws.FnExactBidFirst', WHERE WHAT IT READS IS OF BULK AT MOST 1048576: true; the input reads as it did. -/
def fnExactBidFirstUptoRow : OpenClaim := { program := "ytopoeeahociohaa", sum := "77dd8a0d329255f552a2387aa550e2a1c02a3d87392ecdd9123abd1485711e83", func := "loop.example/tradecircles/laws.FnExactBidFirst", spec := "fnExactBidFirst", unfollowed := true, recurses := true, apart := false, narrowed := true }
def FnExactBidFirstUptoSaid : Prop := fnExactBidFirstUptoRow.holds Try.pinned (OpenSpec.upto fnExactBidFirstSpec)

/-- 'laws.FnExactBidIs', WHERE WHAT IT READS IS OF BULK AT MOST 1048576: true; the input reads as it did. -/
def fnExactBidIsUptoRow : OpenClaim := { program := "ytopoeeahociohaa", sum := "77dd8a0d329255f552a2387aa550e2a1c02a3d87392ecdd9123abd1485711e83", func := "loop.example/tradecircles/laws.FnExactBidIs", spec := "fnExactBidIs", unfollowed := true, recurses := true, apart := false, narrowed := true }
def FnExactBidIsUptoSaid : Prop := fnExactBidIsUptoRow.holds Try.pinned (OpenSpec.upto fnExactBidIsSpec)

/-- 'laws.FnExactBidWithout', WHERE WHAT IT READS IS OF BULK AT MOST 1048576: true; the input reads as it did. -/
def fnExactBidWithoutUptoRow : OpenClaim := { program := "ytopoeeahociohaa", sum := "77dd8a0d329255f552a2387aa550e2a1c02a3d87392ecdd9123abd1485711e83", func := "loop.example/tradecircles/laws.FnExactBidWithout", spec := "fnExactBidWithout", unfollowed := true, recurses := true, apart := false, narrowed := true }
def FnExactBidWithoutUptoSaid : Prop := fnExactBidWithoutUptoRow.holds Try.pinned (OpenSpec.upto fnExactBidWithoutSpec)

/-- 'laws.FnExactBidLess', WHERE WHAT IT READS IS OF BULK AT MOST 1048576: true; the input reads as it did. -/
def fnExactBidLessUptoRow : OpenClaim := { program := "ytopoeeahociohaa", sum := "77dd8a0d329255f552a2387aa550e2a1c02a3d87392ecdd9123abd1485711e83", func := "loop.example/tradecircles/laws.FnExactBidLess", spec := "fnExactBidLess", unfollowed := true, recurses := true, apart := false, narrowed := true }
def FnExactBidLessUptoSaid : Prop := fnExactBidLessUptoRow.holds Try.pinned (OpenSpec.upto fnExactBidLessSpec)

/-- 'laws.FnExactBidTwice', WHERE WHAT IT READS IS OF BULK AT MOST 1048576: true; the input reads as it did. -/
def fnExactBidTwiceUptoRow : OpenClaim := { program := "ytopoeeahociohaa", sum := "77dd8a0d329255f552a2387aa550e2a1c02a3d87392ecdd9123abd1485711e83", func := "loop.example/tradecircles/laws.FnExactBidTwice", spec := "fnExactBidTwice", unfollowed := true, recurses := true, apart := false, narrowed := true }
def FnExactBidTwiceUptoSaid : Prop := fnExactBidTwiceUptoRow.holds Try.pinned (OpenSpec.upto fnExactBidTwiceSpec)

/-- 'laws.FnExactBidDeals', WHERE WHAT IT READS IS OF BULK AT MOST 1048576: true; the input reads as it did. -/
def fnExactBidDealsUptoRow : OpenClaim := { program := "ytopoeeahociohaa", sum := "77dd8a0d329255f552a2387aa550e2a1c02a3d87392ecdd9123abd1485711e83", func := "loop.example/tradecircles/laws.FnExactBidDeals", spec := "fnExactBidDeals", unfollowed := true, recurses := true, apart := false, narrowed := true }
def FnExactBidDealsUptoSaid : Prop := fnExactBidDealsUptoRow.holds Try.pinned (OpenSpec.upto fnExactBidDealsSpec)

/-- 'laws.FnBidBest', WHERE WHAT IT READS IS OF BULK AT MOST 1048576: true; the input reads as it did. -/
def fnBidBestUptoRow : OpenClaim := { program := "ytopoeeahociohaa", sum := "77dd8a0d329255f552a2387aa550e2a1c02a3d87392ecdd9123abd1485711e83", func := "loop.example/tradecircles/laws.FnBidBest", spec := "fnBidBest", unfollowed := true, recurses := true, apart := false, narrowed := true }
def FnBidBestUptoSaid : Prop := fnBidBestUptoRow.holds Try.pinned (OpenSpec.upto fnBidBestSpec)

/-- 'laws.FnBidSum', WHERE WHAT IT READS IS OF BULK AT MOST 1048576: true; the input reads as it did. -/
def fnBidSumUptoRow : OpenClaim := { program := "ytopoeeahociohaa", sum := "77dd8a0d329255f552a2387aa550e2a1c02a3d87392ecdd9123abd1485711e83", func := "loop.example/tradecircles/laws.FnBidSum", spec := "fnBidSum", unfollowed := true, recurses := true, apart := false, narrowed := true }
def FnBidSumUptoSaid : Prop := fnBidSumUptoRow.holds Try.pinned (OpenSpec.upto fnBidSumSpec)

/-- 'laws.FnFirst', WHERE WHAT IT READS IS OF BULK AT MOST 1048576: true; the input reads as it did. -/
def fnFirstUptoRow : OpenClaim := { program := "ytopoeeahociohaa", sum := "77dd8a0d329255f552a2387aa550e2a1c02a3d87392ecdd9123abd1485711e83", func := "loop.example/tradecircles/laws.FnFirst", spec := "fnFirst", unfollowed := true, recurses := true, apart := false, narrowed := true }
def FnFirstUptoSaid : Prop := fnFirstUptoRow.holds Try.pinned (OpenSpec.upto fnFirstSpec)

end Rows
end Go.Proofs.Ytopoeeahociohaa
