/-
  No cell of these rows narrows 'for every input' (looked for: loops, veiled, ifaces, maps, wideKeys, modest, calm, conditions, laid).
  DERIVED. THE GIVEN ROWS OF THIS SEAT. 7 by the template 'for every input the law returns true; each argument reads behind the call as it read before'; 0 by the template 'total and deterministic' (their statements: YtjgbbdefjmiofaaTotals.lean).
  GIVEN WITH THE SEED: the statements are not yours to turn. If you find one false, say at which input.
  Laid BY PROGRAM, IN A SANDBOX (cutbox-rows.mjs): the forced cells as the released guide's own fill.sh prints them over the translation ec2de965513a86e9… (all of the seat's roots in one cut). By AI agents, Wed Nov 11 2026. No macro, syntax, notation, axiom, sorry.
-/
import Derived.Test.YtjgbbdefjmiofaaChecked
import GoSem.Claim
import GoSem.ClaimJoined
import GoSem.ClaimMapViews
import Derived.JoinedTies
import Derived.KernelRfl
namespace Go.Proofs.Ytjgbbdefjmiofaa
/- THE CELL 'sum', in the pinned program and in every row, IS THE sha256 OF THE DUMP (.gsa) THAT YtjgbbdefjmiofaaProg.lean LOADS. Nothing in Lean hashes anything: it is a label: what it is worth is what the hold of that sum in a sandbox is worth. -/
noncomputable def Try.pinned : Pinned := { name := "ytjgbbdefjmiofaa", sum := "ec2de965513a86e97396d3e5f985166dcc4316203c8ad5f77054c00223b99947", checked := Try.checked }
namespace Rows
def none {H : Type} : Left H := { results := [], args := [] }

/-- 'laws.FnExactHouseIn': WHATEVER THE INPUT: true; the input reads as it did. -/
def fnExactHouseInSpec : ChangeSpec := { name := "fnExactHouseIn", fn := fun _ => fun
  | [d] => { results := [.lit (.bool true)], args := [d] }
  | _ => none }
def fnExactHouseInRow : OpenClaim := { program := "ytjgbbdefjmiofaa", sum := "ec2de965513a86e97396d3e5f985166dcc4316203c8ad5f77054c00223b99947", func := "loop.example/tradecircles/laws.FnExactHouseIn", spec := "fnExactHouseIn", apart := false }
def FnExactHouseInSaid : Prop := fnExactHouseInRow.holds Try.pinned (OpenSpec.ofChange fnExactHouseInSpec)

/-- ITS FALSE NEIGHBOUR: 'it returns false'. Refute it at one input. -/
def fnExactHouseInWrong : ChangeSpec := { name := "fnExactHouseIn", fn := fun _ => fun
  | [d] => { results := [.lit (.bool false)], args := [d] }
  | _ => none }
def FnExactHouseInWrongFalsely : Prop := fnExactHouseInRow.holds Try.pinned (OpenSpec.ofChange fnExactHouseInWrong)

/-- 'laws.FnExactHouseGiving': WHATEVER THE INPUT: true; the input reads as it did. -/
def fnExactHouseGivingSpec : ChangeSpec := { name := "fnExactHouseGiving", fn := fun _ => fun
  | [d1, d2] => { results := [.lit (.bool true)], args := [d1, d2] }
  | _ => none }
def fnExactHouseGivingRow : OpenClaim := { program := "ytjgbbdefjmiofaa", sum := "ec2de965513a86e97396d3e5f985166dcc4316203c8ad5f77054c00223b99947", func := "loop.example/tradecircles/laws.FnExactHouseGiving", spec := "fnExactHouseGiving", apart := false }
def FnExactHouseGivingSaid : Prop := fnExactHouseGivingRow.holds Try.pinned (OpenSpec.ofChange fnExactHouseGivingSpec)

/-- ITS FALSE NEIGHBOUR: 'it returns false'. Refute it at one input. -/
def fnExactHouseGivingWrong : ChangeSpec := { name := "fnExactHouseGiving", fn := fun _ => fun
  | [d1, d2] => { results := [.lit (.bool false)], args := [d1, d2] }
  | _ => none }
def FnExactHouseGivingWrongFalsely : Prop := fnExactHouseGivingRow.holds Try.pinned (OpenSpec.ofChange fnExactHouseGivingWrong)

/-- 'laws.FnExactHouseLikes': WHATEVER THE INPUT: true; the input reads as it did. -/
def fnExactHouseLikesSpec : ChangeSpec := { name := "fnExactHouseLikes", fn := fun _ => fun
  | [d1, d2, d3, d4] => { results := [.lit (.bool true)], args := [d1, d2, d3, d4] }
  | _ => none }
def fnExactHouseLikesRow : OpenClaim := { program := "ytjgbbdefjmiofaa", sum := "ec2de965513a86e97396d3e5f985166dcc4316203c8ad5f77054c00223b99947", func := "loop.example/tradecircles/laws.FnExactHouseLikes", spec := "fnExactHouseLikes", apart := false }
def FnExactHouseLikesSaid : Prop := fnExactHouseLikesRow.holds Try.pinned (OpenSpec.ofChange fnExactHouseLikesSpec)

/-- ITS FALSE NEIGHBOUR: 'it returns false'. Refute it at one input. -/
def fnExactHouseLikesWrong : ChangeSpec := { name := "fnExactHouseLikes", fn := fun _ => fun
  | [d1, d2, d3, d4] => { results := [.lit (.bool false)], args := [d1, d2, d3, d4] }
  | _ => none }
def FnExactHouseLikesWrongFalsely : Prop := fnExactHouseLikesRow.holds Try.pinned (OpenSpec.ofChange fnExactHouseLikesWrong)

/-- 'laws.FnExactHouseTrade': WHATEVER THE INPUT: true; the input reads as it did. -/
def fnExactHouseTradeSpec : ChangeSpec := { name := "fnExactHouseTrade", fn := fun _ => fun
  | [d] => { results := [.lit (.bool true)], args := [d] }
  | _ => none }
def fnExactHouseTradeRow : OpenClaim := { program := "ytjgbbdefjmiofaa", sum := "ec2de965513a86e97396d3e5f985166dcc4316203c8ad5f77054c00223b99947", func := "loop.example/tradecircles/laws.FnExactHouseTrade", spec := "fnExactHouseTrade", unfollowed := true, recurses := true, apart := false }
def FnExactHouseTradeSaid : Prop := fnExactHouseTradeRow.holds Try.pinned (OpenSpec.ofChange fnExactHouseTradeSpec)

/-- ITS FALSE NEIGHBOUR: 'it returns false'. Refute it at one input. -/
def fnExactHouseTradeWrong : ChangeSpec := { name := "fnExactHouseTrade", fn := fun _ => fun
  | [d] => { results := [.lit (.bool false)], args := [d] }
  | _ => none }
def FnExactHouseTradeWrongFalsely : Prop := fnExactHouseTradeRow.holds Try.pinned (OpenSpec.ofChange fnExactHouseTradeWrong)

/-- 'laws.FnExactHouseTurns': WHATEVER THE INPUT: true; the input reads as it did. -/
def fnExactHouseTurnsSpec : ChangeSpec := { name := "fnExactHouseTurns", fn := fun _ => fun
  | [d] => { results := [.lit (.bool true)], args := [d] }
  | _ => none }
def fnExactHouseTurnsRow : OpenClaim := { program := "ytjgbbdefjmiofaa", sum := "ec2de965513a86e97396d3e5f985166dcc4316203c8ad5f77054c00223b99947", func := "loop.example/tradecircles/laws.FnExactHouseTurns", spec := "fnExactHouseTurns", unfollowed := true, recurses := true, apart := false }
def FnExactHouseTurnsSaid : Prop := fnExactHouseTurnsRow.holds Try.pinned (OpenSpec.ofChange fnExactHouseTurnsSpec)

/-- ITS FALSE NEIGHBOUR: 'it returns false'. Refute it at one input. -/
def fnExactHouseTurnsWrong : ChangeSpec := { name := "fnExactHouseTurns", fn := fun _ => fun
  | [d] => { results := [.lit (.bool false)], args := [d] }
  | _ => none }
def FnExactHouseTurnsWrongFalsely : Prop := fnExactHouseTurnsRow.holds Try.pinned (OpenSpec.ofChange fnExactHouseTurnsWrong)

/-- 'laws.FnExactHouseGets': WHATEVER THE INPUT: true; the input reads as it did. -/
def fnExactHouseGetsSpec : ChangeSpec := { name := "fnExactHouseGets", fn := fun _ => fun
  | [d1, d2, d3] => { results := [.lit (.bool true)], args := [d1, d2, d3] }
  | _ => none }
def fnExactHouseGetsRow : OpenClaim := { program := "ytjgbbdefjmiofaa", sum := "ec2de965513a86e97396d3e5f985166dcc4316203c8ad5f77054c00223b99947", func := "loop.example/tradecircles/laws.FnExactHouseGets", spec := "fnExactHouseGets", unfollowed := true, recurses := true, apart := false }
def FnExactHouseGetsSaid : Prop := fnExactHouseGetsRow.holds Try.pinned (OpenSpec.ofChange fnExactHouseGetsSpec)

/-- ITS FALSE NEIGHBOUR: 'it returns false'. Refute it at one input. -/
def fnExactHouseGetsWrong : ChangeSpec := { name := "fnExactHouseGets", fn := fun _ => fun
  | [d1, d2, d3] => { results := [.lit (.bool false)], args := [d1, d2, d3] }
  | _ => none }
def FnExactHouseGetsWrongFalsely : Prop := fnExactHouseGetsRow.holds Try.pinned (OpenSpec.ofChange fnExactHouseGetsWrong)

/-- 'laws.FnExactHouseCircle': WHATEVER THE INPUT: true; the input reads as it did. -/
def fnExactHouseCircleSpec : ChangeSpec := { name := "fnExactHouseCircle", fn := fun _ => fun
  | [d] => { results := [.lit (.bool true)], args := [d] }
  | _ => none }
def fnExactHouseCircleRow : OpenClaim := { program := "ytjgbbdefjmiofaa", sum := "ec2de965513a86e97396d3e5f985166dcc4316203c8ad5f77054c00223b99947", func := "loop.example/tradecircles/laws.FnExactHouseCircle", spec := "fnExactHouseCircle", unfollowed := true, recurses := true, apart := false }
def FnExactHouseCircleSaid : Prop := fnExactHouseCircleRow.holds Try.pinned (OpenSpec.ofChange fnExactHouseCircleSpec)

/-- ITS FALSE NEIGHBOUR: 'it returns false'. Refute it at one input. -/
def fnExactHouseCircleWrong : ChangeSpec := { name := "fnExactHouseCircle", fn := fun _ => fun
  | [d] => { results := [.lit (.bool false)], args := [d] }
  | _ => none }
def FnExactHouseCircleWrongFalsely : Prop := fnExactHouseCircleRow.holds Try.pinned (OpenSpec.ofChange fnExactHouseCircleWrong)

/- THE SECOND FORM. 'bulk': how many values and letters a reading holds, each counted each time it is reached (what is shared counts as often as it is met; a slice's spare places count too). A statement '..UptoSaid' is the law's where the arguments, and the package variables that the reading takes, are together of bulk at most 1048576: NARROWER than '..Said'. Prove '..Said' where nothing that the law and all that it calls make is longer than what came in: it says more and counts as full. Else prove '..UptoSaid'. A law counts once. -/
mutual
def uptoBulk {H : Type} : DataW H → Nat
  | .lit (.string bytes) => bytes.length + 1
  | .lit _ => 1
  | .nil => 1
  | .ptr d => uptoBulk d + 1
  | .slice elems spare => uptoBulkAll elems + uptoBulkAll spare + 1
  | .agg parts => uptoBulkAll parts + 1
  | .iface _ d => uptoBulk d + 1
  | .map entries => uptoBulkEntries entries + 1
  | .held _ => 1
def uptoBulkAll {H : Type} : List (DataW H) → Nat
  | [] => 0
  | d :: r => uptoBulk d + uptoBulkAll r
def uptoBulkEntries {H : Type} : List (Lit × DataW H) → Nat
  | [] => 0
  | x :: r => uptoBulkEntry x + uptoBulkEntries r
def uptoBulkEntry {H : Type} : Lit × DataW H → Nat
  | (.string bytes, d) => bytes.length + uptoBulk d + 1
  | (_, d) => uptoBulk d + 1
 end
def uptoSmall : (H : Type) → List (DataW H) → Bool := fun _ ds => decide (uptoBulkAll ds ≤ 1048576)
def OpenSpec.upto (s : _root_.Go.ChangeSpec) : _root_.Go.OpenSpec := { _root_.Go.OpenSpec.ofChange s with cond := some uptoSmall }

/-- 'laws.FnExactHouseIn', WHERE WHAT IT READS IS OF BULK AT MOST 1048576: true; the input reads as it did. -/
def fnExactHouseInUptoRow : OpenClaim := { program := "ytjgbbdefjmiofaa", sum := "ec2de965513a86e97396d3e5f985166dcc4316203c8ad5f77054c00223b99947", func := "loop.example/tradecircles/laws.FnExactHouseIn", spec := "fnExactHouseIn", apart := false, narrowed := true }
def FnExactHouseInUptoSaid : Prop := fnExactHouseInUptoRow.holds Try.pinned (OpenSpec.upto fnExactHouseInSpec)

/-- 'laws.FnExactHouseGiving', WHERE WHAT IT READS IS OF BULK AT MOST 1048576: true; the input reads as it did. -/
def fnExactHouseGivingUptoRow : OpenClaim := { program := "ytjgbbdefjmiofaa", sum := "ec2de965513a86e97396d3e5f985166dcc4316203c8ad5f77054c00223b99947", func := "loop.example/tradecircles/laws.FnExactHouseGiving", spec := "fnExactHouseGiving", apart := false, narrowed := true }
def FnExactHouseGivingUptoSaid : Prop := fnExactHouseGivingUptoRow.holds Try.pinned (OpenSpec.upto fnExactHouseGivingSpec)

/-- 'laws.FnExactHouseLikes', WHERE WHAT IT READS IS OF BULK AT MOST 1048576: true; the input reads as it did. -/
def fnExactHouseLikesUptoRow : OpenClaim := { program := "ytjgbbdefjmiofaa", sum := "ec2de965513a86e97396d3e5f985166dcc4316203c8ad5f77054c00223b99947", func := "loop.example/tradecircles/laws.FnExactHouseLikes", spec := "fnExactHouseLikes", apart := false, narrowed := true }
def FnExactHouseLikesUptoSaid : Prop := fnExactHouseLikesUptoRow.holds Try.pinned (OpenSpec.upto fnExactHouseLikesSpec)

/-- 'laws.FnExactHouseTrade', WHERE WHAT IT READS IS OF BULK AT MOST 1048576: true; the input reads as it did. -/
def fnExactHouseTradeUptoRow : OpenClaim := { program := "ytjgbbdefjmiofaa", sum := "ec2de965513a86e97396d3e5f985166dcc4316203c8ad5f77054c00223b99947", func := "loop.example/tradecircles/laws.FnExactHouseTrade", spec := "fnExactHouseTrade", unfollowed := true, recurses := true, apart := false, narrowed := true }
def FnExactHouseTradeUptoSaid : Prop := fnExactHouseTradeUptoRow.holds Try.pinned (OpenSpec.upto fnExactHouseTradeSpec)

/-- 'laws.FnExactHouseTurns', WHERE WHAT IT READS IS OF BULK AT MOST 1048576: true; the input reads as it did. -/
def fnExactHouseTurnsUptoRow : OpenClaim := { program := "ytjgbbdefjmiofaa", sum := "ec2de965513a86e97396d3e5f985166dcc4316203c8ad5f77054c00223b99947", func := "loop.example/tradecircles/laws.FnExactHouseTurns", spec := "fnExactHouseTurns", unfollowed := true, recurses := true, apart := false, narrowed := true }
def FnExactHouseTurnsUptoSaid : Prop := fnExactHouseTurnsUptoRow.holds Try.pinned (OpenSpec.upto fnExactHouseTurnsSpec)

/-- 'laws.FnExactHouseGets', WHERE WHAT IT READS IS OF BULK AT MOST 1048576: true; the input reads as it did. -/
def fnExactHouseGetsUptoRow : OpenClaim := { program := "ytjgbbdefjmiofaa", sum := "ec2de965513a86e97396d3e5f985166dcc4316203c8ad5f77054c00223b99947", func := "loop.example/tradecircles/laws.FnExactHouseGets", spec := "fnExactHouseGets", unfollowed := true, recurses := true, apart := false, narrowed := true }
def FnExactHouseGetsUptoSaid : Prop := fnExactHouseGetsUptoRow.holds Try.pinned (OpenSpec.upto fnExactHouseGetsSpec)

/-- 'laws.FnExactHouseCircle', WHERE WHAT IT READS IS OF BULK AT MOST 1048576: true; the input reads as it did. -/
def fnExactHouseCircleUptoRow : OpenClaim := { program := "ytjgbbdefjmiofaa", sum := "ec2de965513a86e97396d3e5f985166dcc4316203c8ad5f77054c00223b99947", func := "loop.example/tradecircles/laws.FnExactHouseCircle", spec := "fnExactHouseCircle", unfollowed := true, recurses := true, apart := false, narrowed := true }
def FnExactHouseCircleUptoSaid : Prop := fnExactHouseCircleUptoRow.holds Try.pinned (OpenSpec.upto fnExactHouseCircleSpec)

end Rows
end Go.Proofs.Ytjgbbdefjmiofaa
