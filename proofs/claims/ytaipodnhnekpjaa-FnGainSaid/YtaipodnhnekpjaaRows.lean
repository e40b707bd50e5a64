/-
  No cell of these rows narrows 'for every input' (looked for: loops, veiled, ifaces, maps, wideKeys, modest, calm, conditions, laid).
  DERIVED. THE GIVEN ROWS OF THIS SEAT. 12 by the template 'for every input the law returns true; each argument reads behind the call as it read before'; 0 by the template 'total and deterministic' (their statements: YtaipodnhnekpjaaTotals.lean).
  GIVEN WITH THE SEED: the statements are not yours to turn. If you find one false, say at which input.
  Laid BY PROGRAM, IN A SANDBOX (cutbox-rows.mjs): the forced cells as the released guide's own fill.sh prints them over the translation 1682433d77765612… (all of the seat's roots in one cut). By AI agents, Wed Nov 11 2026. No macro, syntax, notation, axiom, sorry.
-/
import Derived.Test.YtaipodnhnekpjaaChecked
import GoSem.Claim
import GoSem.ClaimJoined
import GoSem.ClaimMapViews
import Derived.JoinedTies
import Derived.KernelRfl
namespace Go.Proofs.Ytaipodnhnekpjaa
/- THE CELL 'sum', in the pinned program and in every row, IS THE sha256 OF THE DUMP (.gsa) THAT YtaipodnhnekpjaaProg.lean LOADS. Nothing in Lean hashes anything: it is a label: what it is worth is what the hold of that sum in a sandbox is worth. -/
noncomputable def Try.pinned : Pinned := { name := "ytaipodnhnekpjaa", sum := "1682433d777656120525b472d48bc1c73489477a3b15c19d231e31b7c2dbf2ab", checked := Try.checked }
namespace Rows
def none {H : Type} : Left H := { results := [], args := [] }

/-- 'laws.FnExactFairIn': WHATEVER THE INPUT: true; the input reads as it did. -/
def fnExactFairInSpec : ChangeSpec := { name := "fnExactFairIn", fn := fun _ => fun
  | [d1, d2, d3] => { results := [.lit (.bool true)], args := [d1, d2, d3] }
  | _ => none }
def fnExactFairInRow : OpenClaim := { program := "ytaipodnhnekpjaa", sum := "1682433d777656120525b472d48bc1c73489477a3b15c19d231e31b7c2dbf2ab", func := "loop.example/tradecircles/laws.FnExactFairIn", spec := "fnExactFairIn", unfollowed := true, recurses := true, apart := false }
def FnExactFairInSaid : Prop := fnExactFairInRow.holds Try.pinned (OpenSpec.ofChange fnExactFairInSpec)

/-- ITS FALSE NEIGHBOUR: 'it returns false'. Refute it at one input. -/
def fnExactFairInWrong : ChangeSpec := { name := "fnExactFairIn", fn := fun _ => fun
  | [d1, d2, d3] => { results := [.lit (.bool false)], args := [d1, d2, d3] }
  | _ => none }
def FnExactFairInWrongFalsely : Prop := fnExactFairInRow.holds Try.pinned (OpenSpec.ofChange fnExactFairInWrong)

/-- 'laws.FnExactFairSome': WHATEVER THE INPUT: true; the input reads as it did. -/
def fnExactFairSomeSpec : ChangeSpec := { name := "fnExactFairSome", fn := fun _ => fun
  | [d1, d2] => { results := [.lit (.bool true)], args := [d1, d2] }
  | _ => none }
def fnExactFairSomeRow : OpenClaim := { program := "ytaipodnhnekpjaa", sum := "1682433d777656120525b472d48bc1c73489477a3b15c19d231e31b7c2dbf2ab", func := "loop.example/tradecircles/laws.FnExactFairSome", spec := "fnExactFairSome", unfollowed := true, recurses := true, apart := false }
def FnExactFairSomeSaid : Prop := fnExactFairSomeRow.holds Try.pinned (OpenSpec.ofChange fnExactFairSomeSpec)

/-- ITS FALSE NEIGHBOUR: 'it returns false'. Refute it at one input. -/
def fnExactFairSomeWrong : ChangeSpec := { name := "fnExactFairSome", fn := fun _ => fun
  | [d1, d2] => { results := [.lit (.bool false)], args := [d1, d2] }
  | _ => none }
def FnExactFairSomeWrongFalsely : Prop := fnExactFairSomeRow.holds Try.pinned (OpenSpec.ofChange fnExactFairSomeWrong)

/-- 'laws.FnExactFairLow': WHATEVER THE INPUT: true; the input reads as it did. -/
def fnExactFairLowSpec : ChangeSpec := { name := "fnExactFairLow", fn := fun _ => fun
  | [d] => { results := [.lit (.bool true)], args := [d] }
  | _ => none }
def fnExactFairLowRow : OpenClaim := { program := "ytaipodnhnekpjaa", sum := "1682433d777656120525b472d48bc1c73489477a3b15c19d231e31b7c2dbf2ab", func := "loop.example/tradecircles/laws.FnExactFairLow", spec := "fnExactFairLow", unfollowed := true, recurses := true, apart := false }
def FnExactFairLowSaid : Prop := fnExactFairLowRow.holds Try.pinned (OpenSpec.ofChange fnExactFairLowSpec)

/-- ITS FALSE NEIGHBOUR: 'it returns false'. Refute it at one input. -/
def fnExactFairLowWrong : ChangeSpec := { name := "fnExactFairLow", fn := fun _ => fun
  | [d] => { results := [.lit (.bool false)], args := [d] }
  | _ => none }
def FnExactFairLowWrongFalsely : Prop := fnExactFairLowRow.holds Try.pinned (OpenSpec.ofChange fnExactFairLowWrong)

/-- 'laws.FnExactFairHigh': WHATEVER THE INPUT: true; the input reads as it did. -/
def fnExactFairHighSpec : ChangeSpec := { name := "fnExactFairHigh", fn := fun _ => fun
  | [d] => { results := [.lit (.bool true)], args := [d] }
  | _ => none }
def fnExactFairHighRow : OpenClaim := { program := "ytaipodnhnekpjaa", sum := "1682433d777656120525b472d48bc1c73489477a3b15c19d231e31b7c2dbf2ab", func := "loop.example/tradecircles/laws.FnExactFairHigh", spec := "fnExactFairHigh", unfollowed := true, recurses := true, apart := false }
def FnExactFairHighSaid : Prop := fnExactFairHighRow.holds Try.pinned (OpenSpec.ofChange fnExactFairHighSpec)

/-- ITS FALSE NEIGHBOUR: 'it returns false'. Refute it at one input. -/
def fnExactFairHighWrong : ChangeSpec := { name := "fnExactFairHigh", fn := fun _ => fun
  | [d] => { results := [.lit (.bool false)], args := [d] }
  | _ => none }
def FnExactFairHighWrongFalsely : Prop := fnExactFairHighRow.holds Try.pinned (OpenSpec.ofChange fnExactFairHighWrong)

/-- 'laws.FnExactFairPays': WHATEVER THE INPUT: true; the input reads as it did. -/
def fnExactFairPaysSpec : ChangeSpec := { name := "fnExactFairPays", fn := fun _ => fun
  | [d] => { results := [.lit (.bool true)], args := [d] }
  | _ => none }
def fnExactFairPaysRow : OpenClaim := { program := "ytaipodnhnekpjaa", sum := "1682433d777656120525b472d48bc1c73489477a3b15c19d231e31b7c2dbf2ab", func := "loop.example/tradecircles/laws.FnExactFairPays", spec := "fnExactFairPays", unfollowed := true, recurses := true, apart := false }
def FnExactFairPaysSaid : Prop := fnExactFairPaysRow.holds Try.pinned (OpenSpec.ofChange fnExactFairPaysSpec)

/-- ITS FALSE NEIGHBOUR: 'it returns false'. Refute it at one input. -/
def fnExactFairPaysWrong : ChangeSpec := { name := "fnExactFairPays", fn := fun _ => fun
  | [d] => { results := [.lit (.bool false)], args := [d] }
  | _ => none }
def FnExactFairPaysWrongFalsely : Prop := fnExactFairPaysRow.holds Try.pinned (OpenSpec.ofChange fnExactFairPaysWrong)

/-- 'laws.FnExactFairCount': WHATEVER THE INPUT: true; the input reads as it did. -/
def fnExactFairCountSpec : ChangeSpec := { name := "fnExactFairCount", fn := fun _ => fun
  | [d] => { results := [.lit (.bool true)], args := [d] }
  | _ => none }
def fnExactFairCountRow : OpenClaim := { program := "ytaipodnhnekpjaa", sum := "1682433d777656120525b472d48bc1c73489477a3b15c19d231e31b7c2dbf2ab", func := "loop.example/tradecircles/laws.FnExactFairCount", spec := "fnExactFairCount", unfollowed := true, recurses := true, apart := false }
def FnExactFairCountSaid : Prop := fnExactFairCountRow.holds Try.pinned (OpenSpec.ofChange fnExactFairCountSpec)

/-- ITS FALSE NEIGHBOUR: 'it returns false'. Refute it at one input. -/
def fnExactFairCountWrong : ChangeSpec := { name := "fnExactFairCount", fn := fun _ => fun
  | [d] => { results := [.lit (.bool false)], args := [d] }
  | _ => none }
def FnExactFairCountWrongFalsely : Prop := fnExactFairCountRow.holds Try.pinned (OpenSpec.ofChange fnExactFairCountWrong)

/-- 'laws.FnExactFairGain': WHATEVER THE INPUT: true; the input reads as it did. -/
def fnExactFairGainSpec : ChangeSpec := { name := "fnExactFairGain", fn := fun _ => fun
  | [d1, d2, d3] => { results := [.lit (.bool true)], args := [d1, d2, d3] }
  | _ => none }
def fnExactFairGainRow : OpenClaim := { program := "ytaipodnhnekpjaa", sum := "1682433d777656120525b472d48bc1c73489477a3b15c19d231e31b7c2dbf2ab", func := "loop.example/tradecircles/laws.FnExactFairGain", spec := "fnExactFairGain", unfollowed := true, recurses := true, apart := false }
def FnExactFairGainSaid : Prop := fnExactFairGainRow.holds Try.pinned (OpenSpec.ofChange fnExactFairGainSpec)

/-- ITS FALSE NEIGHBOUR: 'it returns false'. Refute it at one input. -/
def fnExactFairGainWrong : ChangeSpec := { name := "fnExactFairGain", fn := fun _ => fun
  | [d1, d2, d3] => { results := [.lit (.bool false)], args := [d1, d2, d3] }
  | _ => none }
def FnExactFairGainWrongFalsely : Prop := fnExactFairGainRow.holds Try.pinned (OpenSpec.ofChange fnExactFairGainWrong)

/-- 'laws.FnLow': WHATEVER THE INPUT: true; the input reads as it did. -/
def fnLowSpec : ChangeSpec := { name := "fnLow", fn := fun _ => fun
  | [d] => { results := [.lit (.bool true)], args := [d] }
  | _ => none }
def fnLowRow : OpenClaim := { program := "ytaipodnhnekpjaa", sum := "1682433d777656120525b472d48bc1c73489477a3b15c19d231e31b7c2dbf2ab", func := "loop.example/tradecircles/laws.FnLow", spec := "fnLow", unfollowed := true, recurses := true, apart := false }
def FnLowSaid : Prop := fnLowRow.holds Try.pinned (OpenSpec.ofChange fnLowSpec)

/-- ITS FALSE NEIGHBOUR: 'it returns false'. Refute it at one input. -/
def fnLowWrong : ChangeSpec := { name := "fnLow", fn := fun _ => fun
  | [d] => { results := [.lit (.bool false)], args := [d] }
  | _ => none }
def FnLowWrongFalsely : Prop := fnLowRow.holds Try.pinned (OpenSpec.ofChange fnLowWrong)

/-- 'laws.FnHigh': WHATEVER THE INPUT: true; the input reads as it did. -/
def fnHighSpec : ChangeSpec := { name := "fnHigh", fn := fun _ => fun
  | [d] => { results := [.lit (.bool true)], args := [d] }
  | _ => none }
def fnHighRow : OpenClaim := { program := "ytaipodnhnekpjaa", sum := "1682433d777656120525b472d48bc1c73489477a3b15c19d231e31b7c2dbf2ab", func := "loop.example/tradecircles/laws.FnHigh", spec := "fnHigh", unfollowed := true, recurses := true, apart := false }
def FnHighSaid : Prop := fnHighRow.holds Try.pinned (OpenSpec.ofChange fnHighSpec)

/-- ITS FALSE NEIGHBOUR: 'it returns false'. Refute it at one input. -/
def fnHighWrong : ChangeSpec := { name := "fnHigh", fn := fun _ => fun
  | [d] => { results := [.lit (.bool false)], args := [d] }
  | _ => none }
def FnHighWrongFalsely : Prop := fnHighRow.holds Try.pinned (OpenSpec.ofChange fnHighWrong)

/-- 'laws.FnPays': WHATEVER THE INPUT: true; the input reads as it did. -/
def fnPaysSpec : ChangeSpec := { name := "fnPays", fn := fun _ => fun
  | [d] => { results := [.lit (.bool true)], args := [d] }
  | _ => none }
def fnPaysRow : OpenClaim := { program := "ytaipodnhnekpjaa", sum := "1682433d777656120525b472d48bc1c73489477a3b15c19d231e31b7c2dbf2ab", func := "loop.example/tradecircles/laws.FnPays", spec := "fnPays", unfollowed := true, recurses := true, apart := false }
def FnPaysSaid : Prop := fnPaysRow.holds Try.pinned (OpenSpec.ofChange fnPaysSpec)

/-- ITS FALSE NEIGHBOUR: 'it returns false'. Refute it at one input. -/
def fnPaysWrong : ChangeSpec := { name := "fnPays", fn := fun _ => fun
  | [d] => { results := [.lit (.bool false)], args := [d] }
  | _ => none }
def FnPaysWrongFalsely : Prop := fnPaysRow.holds Try.pinned (OpenSpec.ofChange fnPaysWrong)

/-- 'laws.FnCount': WHATEVER THE INPUT: true; the input reads as it did. -/
def fnCountSpec : ChangeSpec := { name := "fnCount", fn := fun _ => fun
  | [d] => { results := [.lit (.bool true)], args := [d] }
  | _ => none }
def fnCountRow : OpenClaim := { program := "ytaipodnhnekpjaa", sum := "1682433d777656120525b472d48bc1c73489477a3b15c19d231e31b7c2dbf2ab", func := "loop.example/tradecircles/laws.FnCount", spec := "fnCount", unfollowed := true, recurses := true, apart := false }
def FnCountSaid : Prop := fnCountRow.holds Try.pinned (OpenSpec.ofChange fnCountSpec)

/-- ITS FALSE NEIGHBOUR: 'it returns false'. Refute it at one input. -/
def fnCountWrong : ChangeSpec := { name := "fnCount", fn := fun _ => fun
  | [d] => { results := [.lit (.bool false)], args := [d] }
  | _ => none }
def FnCountWrongFalsely : Prop := fnCountRow.holds Try.pinned (OpenSpec.ofChange fnCountWrong)

/-- 'laws.FnGain': WHATEVER THE INPUT: true; the input reads as it did. -/
def fnGainSpec : ChangeSpec := { name := "fnGain", fn := fun _ => fun
  | [d] => { results := [.lit (.bool true)], args := [d] }
  | _ => none }
def fnGainRow : OpenClaim := { program := "ytaipodnhnekpjaa", sum := "1682433d777656120525b472d48bc1c73489477a3b15c19d231e31b7c2dbf2ab", func := "loop.example/tradecircles/laws.FnGain", spec := "fnGain", unfollowed := true, recurses := true, apart := false }
def FnGainSaid : Prop := fnGainRow.holds Try.pinned (OpenSpec.ofChange fnGainSpec)

/-- ITS FALSE NEIGHBOUR: 'it returns false'. Refute it at one input. -/
def fnGainWrong : ChangeSpec := { name := "fnGain", fn := fun _ => fun
  | [d] => { results := [.lit (.bool false)], args := [d] }
  | _ => none }
def FnGainWrongFalsely : Prop := fnGainRow.holds Try.pinned (OpenSpec.ofChange fnGainWrong)

/- THE SECOND FORM. 'bulk': how many values and letters a reading holds, each counted each time it is reached (what is shared counts as often as it is met; a slice's spare places count too). A statement '..UptoSaid' is the law's where the arguments, and the package variables that the reading takes, are together of bulk at most 1048576: NARROWER than '..Said'. Prove '..Said' where nothing that the law and all that it calls make is longer than what came in: it says more and counts as full. Else prove '..UptoSaid'. A law counts once. -/
mutual
def uptoBulk {H : Type} : DataW H → Nat
  | .lit (.string bytes) => bytes.length + 1
  | .lit _ => 1
  | .nil => 1
  | .ptr d => uptoBulk d + 1
  | .slice elems spare => uptoBulkAll elems + uptoBulkAll spare + 1
  | .agg parts => uptoBulkAll parts + 1
  | .iface _ d => uptoBulk d + 1
  | .map entries => uptoBulkEntries entries + 1
  | .held _ => 1
def uptoBulkAll {H : Type} : List (DataW H) → Nat
  | [] => 0
  | d :: r => uptoBulk d + uptoBulkAll r
def uptoBulkEntries {H : Type} : List (Lit × DataW H) → Nat
  | [] => 0
  | x :: r => uptoBulkEntry x + uptoBulkEntries r
def uptoBulkEntry {H : Type} : Lit × DataW H → Nat
  | (.string bytes, d) => bytes.length + uptoBulk d + 1
  | (_, d) => uptoBulk d + 1
 end
def uptoSmall : (H : Type) → List (DataW H) → Bool := fun _ ds => decide (uptoBulkAll ds ≤ 1048576)
def OpenSpec.upto (s : _root_.Go.ChangeSpec) : _root_.Go.OpenSpec := { _root_.Go.OpenSpec.ofChange s with cond := some uptoSmall }

/-- 'laws.FnExactFairIn', WHERE WHAT IT READS IS OF BULK AT MOST 1048576: true; the input reads as it did. -/
def fnExactFairInUptoRow : OpenClaim := { program := "ytaipodnhnekpjaa", sum := "1682433d777656120525b472d48bc1c73489477a3b15c19d231e31b7c2dbf2ab", func := "loop.example/tradecircles/laws.FnExactFairIn", spec := "fnExactFairIn", unfollowed := true, recurses := true, apart := false, narrowed := true }
def FnExactFairInUptoSaid : Prop := fnExactFairInUptoRow.holds Try.pinned (OpenSpec.upto fnExactFairInSpec)

/-- 'laws.FnExactFairSome', WHERE WHAT IT READS IS OF BULK AT MOST 1048576: true; the input reads as it did. -/
def fnExactFairSomeUptoRow : OpenClaim := { program := "ytaipodnhnekpjaa", sum := "1682433d777656120525b472d48bc1c73489477a3b15c19d231e31b7c2dbf2ab", func := "loop.example/tradecircles/laws.FnExactFairSome", spec := "fnExactFairSome", unfollowed := true, recurses := true, apart := false, narrowed := true }
def FnExactFairSomeUptoSaid : Prop := fnExactFairSomeUptoRow.holds Try.pinned (OpenSpec.upto fnExactFairSomeSpec)

/-- 'laws.FnExactFairLow', WHERE WHAT IT READS IS OF BULK AT MOST 1048576: true; the input reads as it did. -/
def fnExactFairLowUptoRow : OpenClaim := { program := "ytaipodnhnekpjaa", sum := "1682433d777656120525b472d48bc1c73489477a3b15c19d231e31b7c2dbf2ab", func := "loop.example/tradecircles/laws.FnExactFairLow", spec := "fnExactFairLow", unfollowed := true, recurses := true, apart := false, narrowed := true }
def FnExactFairLowUptoSaid : Prop := fnExactFairLowUptoRow.holds Try.pinned (OpenSpec.upto fnExactFairLowSpec)

/-- 'laws.FnExactFairHigh', WHERE WHAT IT READS IS OF BULK AT MOST 1048576: true; the input reads as it did. -/
def fnExactFairHighUptoRow : OpenClaim := { program := "ytaipodnhnekpjaa", sum := "1682433d777656120525b472d48bc1c73489477a3b15c19d231e31b7c2dbf2ab", func := "loop.example/tradecircles/laws.FnExactFairHigh", spec := "fnExactFairHigh", unfollowed := true, recurses := true, apart := false, narrowed := true }
def FnExactFairHighUptoSaid : Prop := fnExactFairHighUptoRow.holds Try.pinned (OpenSpec.upto fnExactFairHighSpec)

/-- 'laws.FnExactFairPays', WHERE WHAT IT READS IS OF BULK AT MOST 1048576: true; the input reads as it did. -/
def fnExactFairPaysUptoRow : OpenClaim := { program := "ytaipodnhnekpjaa", sum := "1682433d777656120525b472d48bc1c73489477a3b15c19d231e31b7c2dbf2ab", func := "loop.example/tradecircles/laws.FnExactFairPays", spec := "fnExactFairPays", unfollowed := true, recurses := true, apart := false, narrowed := true }
def FnExactFairPaysUptoSaid : Prop := fnExactFairPaysUptoRow.holds Try.pinned (OpenSpec.upto fnExactFairPaysSpec)

/-- 'laws.FnExactFairCount', WHERE WHAT IT READS IS OF BULK AT MOST 1048576: true; the input reads as it did. -/
def fnExactFairCountUptoRow : OpenClaim := { program := "ytaipodnhnekpjaa", sum := "1682433d777656120525b472d48bc1c73489477a3b15c19d231e31b7c2dbf2ab", func := "loop.example/tradecircles/laws.FnExactFairCount", spec := "fnExactFairCount", unfollowed := true, recurses := true, apart := false, narrowed := true }
def FnExactFairCountUptoSaid : Prop := fnExactFairCountUptoRow.holds Try.pinned (OpenSpec.upto fnExactFairCountSpec)

/-- 'laws.FnExactFairGain', WHERE WHAT IT READS IS OF BULK AT MOST 1048576: true; the input reads as it did. -/
def fnExactFairGainUptoRow : OpenClaim := { program := "ytaipodnhnekpjaa", sum := "1682433d777656120525b472d48bc1c73489477a3b15c19d231e31b7c2dbf2ab", func := "loop.example/tradecircles/laws.FnExactFairGain", spec := "fnExactFairGain", unfollowed := true, recurses := true, apart := false, narrowed := true }
def FnExactFairGainUptoSaid : Prop := fnExactFairGainUptoRow.holds Try.pinned (OpenSpec.upto fnExactFairGainSpec)

/-- 'laws.FnLow', WHERE WHAT IT READS IS OF BULK AT MOST 1048576: true; the input reads as it did. -/
def fnLowUptoRow : OpenClaim := { program := "ytaipodnhnekpjaa", sum := "1682433d777656120525b472d48bc1c73489477a3b15c19d231e31b7c2dbf2ab", func := "loop.example/tradecircles/laws.FnLow", spec := "fnLow", unfollowed := true, recurses := true, apart := false, narrowed := true }
def FnLowUptoSaid : Prop := fnLowUptoRow.holds Try.pinned (OpenSpec.upto fnLowSpec)

/-- 'laws.FnHigh', WHERE WHAT IT READS IS OF BULK AT MOST 1048576: true; the input reads as it did. -/
def fnHighUptoRow : OpenClaim := { program := "ytaipodnhnekpjaa", sum := "1682433d777656120525b472d48bc1c73489477a3b15c19d231e31b7c2dbf2ab", func := "loop.example/tradecircles/laws.FnHigh", spec := "fnHigh", unfollowed := true, recurses := true, apart := false, narrowed := true }
def FnHighUptoSaid : Prop := fnHighUptoRow.holds Try.pinned (OpenSpec.upto fnHighSpec)

/-- 'laws.FnPays', WHERE WHAT IT READS IS OF BULK AT MOST 1048576: true; the input reads as it did. -/
def fnPaysUptoRow : OpenClaim := { program := "ytaipodnhnekpjaa", sum := "1682433d777656120525b472d48bc1c73489477a3b15c19d231e31b7c2dbf2ab", func := "loop.example/tradecircles/laws.FnPays", spec := "fnPays", unfollowed := true, recurses := true, apart := false, narrowed := true }
def FnPaysUptoSaid : Prop := fnPaysUptoRow.holds Try.pinned (OpenSpec.upto fnPaysSpec)

/-- 'laws.FnCount', WHERE WHAT IT READS IS OF BULK AT MOST 1048576: true; the input reads as it did. -/
def fnCountUptoRow : OpenClaim := { program := "ytaipodnhnekpjaa", sum := "1682433d777656120525b472d48bc1c73489477a3b15c19d231e31b7c2dbf2ab", func := "loop.example/tradecircles/laws.FnCount", spec := "fnCount", unfollowed := true, recurses := true, apart := false, narrowed := true }
def FnCountUptoSaid : Prop := fnCountUptoRow.holds Try.pinned (OpenSpec.upto fnCountSpec)

/-- 'laws.FnGain', WHERE WHAT IT READS IS OF BULK AT MOST 1048576: true; the input reads as it did. -/
def fnGainUptoRow : OpenClaim := { program := "ytaipodnhnekpjaa", sum := "1682433d777656120525b472d48bc1c73489477a3b15c19d231e31b7c2dbf2ab", func := "loop.example/tradecircles/laws.FnGain", spec := "fnGain", unfollowed := true, recurses := true, apart := false, narrowed := true }
def FnGainUptoSaid : Prop := fnGainUptoRow.holds Try.pinned (OpenSpec.upto fnGainSpec)

end Rows
end Go.Proofs.Ytaipodnhnekpjaa
