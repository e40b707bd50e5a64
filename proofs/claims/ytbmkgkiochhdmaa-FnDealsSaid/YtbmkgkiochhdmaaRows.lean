/-
  No cell of these rows narrows 'for every input' (looked for: loops, veiled, ifaces, maps, wideKeys, modest, calm, conditions, laid).
  DERIVED. THE GIVEN ROWS OF THIS SEAT. 7 by the template 'for every input the law returns true; each argument reads behind the call as it read before'; 0 by the template 'total and deterministic' (their statements: YtbmkgkiochhdmaaTotals.lean).
  GIVEN WITH THE SEED: the statements are not yours to turn. If you find one false, say at which input.
  Laid BY PROGRAM, IN A SANDBOX (cutbox-rows.mjs): the forced cells as the released guide's own fill.sh prints them over the translation da0d3e81af0caac8… (all of the seat's roots in one cut). By AI agents, Wed Nov 11 2026. No macro, syntax, notation, axiom, sorry.
-/
import Derived.Test.YtbmkgkiochhdmaaChecked
import GoSem.Claim
import GoSem.ClaimJoined
import GoSem.ClaimMapViews
import Derived.JoinedTies
import Derived.KernelRfl
namespace Go.Proofs.Ytbmkgkiochhdmaa
/- THE CELL 'sum', in the pinned program and in every row, IS THE sha256 OF THE DUMP (.gsa) THAT YtbmkgkiochhdmaaProg.lean LOADS. Nothing in Lean hashes anything: it is a label: what it is worth is what the hold of that sum in a sandbox is worth. -/
noncomputable def Try.pinned : Pinned := { name := "ytbmkgkiochhdmaa", sum := "da0d3e81af0caac8992b1dcd8ceb6bfc468d3e26a7ca07adae6ddf69127c579b", checked := Try.checked }
namespace Rows
def none {H : Type} : Left H := { results := [], args := [] }

/-- 'laws.FnBids': WHATEVER THE INPUT: true; the input reads as it did. -/
def fnBidsSpec : ChangeSpec := { name := "fnBids", fn := fun _ => fun
  | [d] => { results := [.lit (.bool true)], args := [d] }
  | _ => none }
def fnBidsRow : OpenClaim := { program := "ytbmkgkiochhdmaa", sum := "da0d3e81af0caac8992b1dcd8ceb6bfc468d3e26a7ca07adae6ddf69127c579b", func := "loop.example/tradecircles/laws.FnBids", spec := "fnBids", unfollowed := true, recurses := true, apart := false }
def FnBidsSaid : Prop := fnBidsRow.holds Try.pinned (OpenSpec.ofChange fnBidsSpec)

/-- ITS FALSE NEIGHBOUR: 'it returns false'. Refute it at one input. -/
def fnBidsWrong : ChangeSpec := { name := "fnBids", fn := fun _ => fun
  | [d] => { results := [.lit (.bool false)], args := [d] }
  | _ => none }
def FnBidsWrongFalsely : Prop := fnBidsRow.holds Try.pinned (OpenSpec.ofChange fnBidsWrong)

/-- 'laws.FnTotal': WHATEVER THE INPUT: true; the input reads as it did. -/
def fnTotalSpec : ChangeSpec := { name := "fnTotal", fn := fun _ => fun
  | [d] => { results := [.lit (.bool true)], args := [d] }
  | _ => none }
def fnTotalRow : OpenClaim := { program := "ytbmkgkiochhdmaa", sum := "da0d3e81af0caac8992b1dcd8ceb6bfc468d3e26a7ca07adae6ddf69127c579b", func := "loop.example/tradecircles/laws.FnTotal", spec := "fnTotal", unfollowed := true, recurses := true, apart := false }
def FnTotalSaid : Prop := fnTotalRow.holds Try.pinned (OpenSpec.ofChange fnTotalSpec)

/-- ITS FALSE NEIGHBOUR: 'it returns false'. Refute it at one input. -/
def fnTotalWrong : ChangeSpec := { name := "fnTotal", fn := fun _ => fun
  | [d] => { results := [.lit (.bool false)], args := [d] }
  | _ => none }
def FnTotalWrongFalsely : Prop := fnTotalRow.holds Try.pinned (OpenSpec.ofChange fnTotalWrong)

/-- 'laws.FnIs': WHATEVER THE INPUT: true; the input reads as it did. -/
def fnIsSpec : ChangeSpec := { name := "fnIs", fn := fun _ => fun
  | [d] => { results := [.lit (.bool true)], args := [d] }
  | _ => none }
def fnIsRow : OpenClaim := { program := "ytbmkgkiochhdmaa", sum := "da0d3e81af0caac8992b1dcd8ceb6bfc468d3e26a7ca07adae6ddf69127c579b", func := "loop.example/tradecircles/laws.FnIs", spec := "fnIs", unfollowed := true, recurses := true, apart := false }
def FnIsSaid : Prop := fnIsRow.holds Try.pinned (OpenSpec.ofChange fnIsSpec)

/-- ITS FALSE NEIGHBOUR: 'it returns false'. Refute it at one input. -/
def fnIsWrong : ChangeSpec := { name := "fnIs", fn := fun _ => fun
  | [d] => { results := [.lit (.bool false)], args := [d] }
  | _ => none }
def FnIsWrongFalsely : Prop := fnIsRow.holds Try.pinned (OpenSpec.ofChange fnIsWrong)

/-- 'laws.FnWithout': WHATEVER THE INPUT: true; the input reads as it did. -/
def fnWithoutSpec : ChangeSpec := { name := "fnWithout", fn := fun _ => fun
  | [d] => { results := [.lit (.bool true)], args := [d] }
  | _ => none }
def fnWithoutRow : OpenClaim := { program := "ytbmkgkiochhdmaa", sum := "da0d3e81af0caac8992b1dcd8ceb6bfc468d3e26a7ca07adae6ddf69127c579b", func := "loop.example/tradecircles/laws.FnWithout", spec := "fnWithout", unfollowed := true, recurses := true, apart := false }
def FnWithoutSaid : Prop := fnWithoutRow.holds Try.pinned (OpenSpec.ofChange fnWithoutSpec)

/-- ITS FALSE NEIGHBOUR: 'it returns false'. Refute it at one input. -/
def fnWithoutWrong : ChangeSpec := { name := "fnWithout", fn := fun _ => fun
  | [d] => { results := [.lit (.bool false)], args := [d] }
  | _ => none }
def FnWithoutWrongFalsely : Prop := fnWithoutRow.holds Try.pinned (OpenSpec.ofChange fnWithoutWrong)

/-- 'laws.FnLess': WHATEVER THE INPUT: true; the input reads as it did. -/
def fnLessSpec : ChangeSpec := { name := "fnLess", fn := fun _ => fun
  | [d] => { results := [.lit (.bool true)], args := [d] }
  | _ => none }
def fnLessRow : OpenClaim := { program := "ytbmkgkiochhdmaa", sum := "da0d3e81af0caac8992b1dcd8ceb6bfc468d3e26a7ca07adae6ddf69127c579b", func := "loop.example/tradecircles/laws.FnLess", spec := "fnLess", unfollowed := true, recurses := true, apart := false }
def FnLessSaid : Prop := fnLessRow.holds Try.pinned (OpenSpec.ofChange fnLessSpec)

/-- ITS FALSE NEIGHBOUR: 'it returns false'. Refute it at one input. -/
def fnLessWrong : ChangeSpec := { name := "fnLess", fn := fun _ => fun
  | [d] => { results := [.lit (.bool false)], args := [d] }
  | _ => none }
def FnLessWrongFalsely : Prop := fnLessRow.holds Try.pinned (OpenSpec.ofChange fnLessWrong)

/-- 'laws.FnTwice': WHATEVER THE INPUT: true; the input reads as it did. -/
def fnTwiceSpec : ChangeSpec := { name := "fnTwice", fn := fun _ => fun
  | [d] => { results := [.lit (.bool true)], args := [d] }
  | _ => none }
def fnTwiceRow : OpenClaim := { program := "ytbmkgkiochhdmaa", sum := "da0d3e81af0caac8992b1dcd8ceb6bfc468d3e26a7ca07adae6ddf69127c579b", func := "loop.example/tradecircles/laws.FnTwice", spec := "fnTwice", unfollowed := true, recurses := true, apart := false }
def FnTwiceSaid : Prop := fnTwiceRow.holds Try.pinned (OpenSpec.ofChange fnTwiceSpec)

/-- ITS FALSE NEIGHBOUR: 'it returns false'. Refute it at one input. -/
def fnTwiceWrong : ChangeSpec := { name := "fnTwice", fn := fun _ => fun
  | [d] => { results := [.lit (.bool false)], args := [d] }
  | _ => none }
def FnTwiceWrongFalsely : Prop := fnTwiceRow.holds Try.pinned (OpenSpec.ofChange fnTwiceWrong)

/-- 'laws.FnDeals': WHATEVER THE INPUT: true; the input reads as it did. -/
def fnDealsSpec : ChangeSpec := { name := "fnDeals", fn := fun _ => fun
  | [d] => { results := [.lit (.bool true)], args := [d] }
  | _ => none }
def fnDealsRow : OpenClaim := { program := "ytbmkgkiochhdmaa", sum := "da0d3e81af0caac8992b1dcd8ceb6bfc468d3e26a7ca07adae6ddf69127c579b", func := "loop.example/tradecircles/laws.FnDeals", spec := "fnDeals", unfollowed := true, recurses := true, apart := false }
def FnDealsSaid : Prop := fnDealsRow.holds Try.pinned (OpenSpec.ofChange fnDealsSpec)

/-- ITS FALSE NEIGHBOUR: 'it returns false'. Refute it at one input. -/
def fnDealsWrong : ChangeSpec := { name := "fnDeals", fn := fun _ => fun
  | [d] => { results := [.lit (.bool false)], args := [d] }
  | _ => none }
def FnDealsWrongFalsely : Prop := fnDealsRow.holds Try.pinned (OpenSpec.ofChange fnDealsWrong)

/- THE SECOND FORM. 'bulk': how many values and letters a reading holds, each counted each time it is reached (what is shared counts as often as it is met; a slice's spare places count too). A statement '..UptoSaid' is the law's where the arguments, and the package variables that the reading takes, are together of bulk at most 1048576: NARROWER than '..Said'. Prove '..Said' where nothing that the law and all that it calls make is longer than what came in: it says more and counts as full. Else prove '..UptoSaid'. A law counts once. -/
mutual
def uptoBulk {H : Type} : DataW H → Nat
  | .lit (.string bytes) => bytes.length + 1
  | .lit _ => 1
  | .nil => 1
  | .ptr d => uptoBulk d + 1
  | .slice elems spare => uptoBulkAll elems + uptoBulkAll spare + 1
  | .agg parts => uptoBulkAll parts + 1
  | .iface _ d => uptoBulk d + 1
  | .map entries => uptoBulkEntries entries + 1
  | .held _ => 1
def uptoBulkAll {H : Type} : List (DataW H) → Nat
  | [] => 0
  | d :: r => uptoBulk d + uptoBulkAll r
def uptoBulkEntries {H : Type} : List (Lit × DataW H) → Nat
  | [] => 0
  | x :: r => uptoBulkEntry x + uptoBulkEntries r
def uptoBulkEntry {H : Type} : Lit × DataW H → Nat
  | (.string bytes, d) => bytes.length + uptoBulk d + 1
  | (_, d) => uptoBulk d + 1
 end
def uptoSmall : (H : Type) → List (DataW H) → Bool := fun _ ds => decide (uptoBulkAll ds ≤ 1048576)
def OpenSpec.upto (s : _root_.Go.ChangeSpec) : _root_.Go.OpenSpec := { _root_.Go.OpenSpec.ofChange s with cond := some uptoSmall }

/-- 'laws.FnBids', WHERE WHAT IT READS IS OF BULK AT MOST 1048576: true; the input reads as it did. -/
def fnBidsUptoRow : OpenClaim := { program := "ytbmkgkiochhdmaa", sum := "da0d3e81af0caac8992b1dcd8ceb6bfc468d3e26a7ca07adae6ddf69127c579b", func := "loop.example/tradecircles/laws.FnBids", spec := "fnBids", unfollowed := true, recurses := true, apart := false, narrowed := true }
def FnBidsUptoSaid : Prop := fnBidsUptoRow.holds Try.pinned (OpenSpec.upto fnBidsSpec)

/-- 'laws.FnTotal', WHERE WHAT IT READS IS OF BULK AT MOST 1048576: true; the input reads as it did. -/
def fnTotalUptoRow : OpenClaim := { program := "ytbmkgkiochhdmaa", sum := "da0d3e81af0caac8992b1dcd8ceb6bfc468d3e26a7ca07adae6ddf69127c579b", func := "loop.example/tradecircles/laws.FnTotal", spec := "fnTotal", unfollowed := true, recurses := true, apart := false, narrowed := true }
def FnTotalUptoSaid : Prop := fnTotalUptoRow.holds Try.pinned (OpenSpec.upto fnTotalSpec)

/-- 'laws.FnIs', WHERE WHAT IT READS IS OF BULK AT MOST 1048576: true; the input reads as it did. -/
def fnIsUptoRow : OpenClaim := { program := "ytbmkgkiochhdmaa", sum := "da0d3e81af0caac8992b1dcd8ceb6bfc468d3e26a7ca07adae6ddf69127c579b", func := "loop.example/tradecircles/laws.FnIs", spec := "fnIs", unfollowed := true, recurses := true, apart := false, narrowed := true }
def FnIsUptoSaid : Prop := fnIsUptoRow.holds Try.pinned (OpenSpec.upto fnIsSpec)

/-- 'laws.FnWithout', WHERE WHAT IT READS IS OF BULK AT MOST 1048576: true; the input reads as it did. -/
def fnWithoutUptoRow : OpenClaim := { program := "ytbmkgkiochhdmaa", sum := "da0d3e81af0caac8992b1dcd8ceb6bfc468d3e26a7ca07adae6ddf69127c579b", func := "loop.example/tradecircles/laws.FnWithout", spec := "fnWithout", unfollowed := true, recurses := true, apart := false, narrowed := true }
def FnWithoutUptoSaid : Prop := fnWithoutUptoRow.holds Try.pinned (OpenSpec.upto fnWithoutSpec)

/-- 'laws.FnLess', WHERE WHAT IT READS IS OF BULK AT MOST 1048576: true; the input reads as it did. -/
def fnLessUptoRow : OpenClaim := { program := "ytbmkgkiochhdmaa", sum := "da0d3e81af0caac8992b1dcd8ceb6bfc468d3e26a7ca07adae6ddf69127c579b", func := "loop.example/tradecircles/laws.FnLess", spec := "fnLess", unfollowed := true, recurses := true, apart := false, narrowed := true }
def FnLessUptoSaid : Prop := fnLessUptoRow.holds Try.pinned (OpenSpec.upto fnLessSpec)

/-- 'laws.FnTwice', WHERE WHAT IT READS IS OF BULK AT MOST 1048576: true; the input reads as it did. -/
def fnTwiceUptoRow : OpenClaim := { program := "ytbmkgkiochhdmaa", sum := "da0d3e81af0caac8992b1dcd8ceb6bfc468d3e26a7ca07adae6ddf69127c579b", func := "loop.example/tradecircles/laws.FnTwice", spec := "fnTwice", unfollowed := true, recurses := true, apart := false, narrowed := true }
def FnTwiceUptoSaid : Prop := fnTwiceUptoRow.holds Try.pinned (OpenSpec.upto fnTwiceSpec)

/-- 'laws.FnDeals', WHERE WHAT IT READS IS OF BULK AT MOST 1048576: true; the input reads as it did. -/
def fnDealsUptoRow : OpenClaim := { program := "ytbmkgkiochhdmaa", sum := "da0d3e81af0caac8992b1dcd8ceb6bfc468d3e26a7ca07adae6ddf69127c579b", func := "loop.example/tradecircles/laws.FnDeals", spec := "fnDeals", unfollowed := true, recurses := true, apart := false, narrowed := true }
def FnDealsUptoSaid : Prop := fnDealsUptoRow.holds Try.pinned (OpenSpec.upto fnDealsSpec)

end Rows
end Go.Proofs.Ytbmkgkiochhdmaa
