/-
  No cell of these rows narrows 'for every input' (looked for: loops, veiled, ifaces, maps, wideKeys, modest, calm, conditions, laid).
  DERIVED. THE GIVEN ROWS OF THIS SEAT. 12 by the template 'for every input the law returns true; each argument reads behind the call as it read before'; 0 by the template 'total and deterministic' (their statements: YtamgckmkebpgjaaTotals.lean).
  GIVEN WITH THE SEED: the statements are not yours to turn. If you find one false, say at which input.
  Laid BY PROGRAM, IN A SANDBOX (cutbox-rows.mjs): the forced cells as the released guide's own fill.sh prints them over the translation b4bf9960e17c8e11… (all of the seat's roots in one cut). By AI agents, Wed Nov 11 2026. No macro, syntax, notation, axiom, sorry.
-/
import Derived.Test.YtamgckmkebpgjaaChecked
import GoSem.Claim
import GoSem.ClaimJoined
import GoSem.ClaimMapViews
import Derived.JoinedTies
import Derived.KernelRfl
namespace Go.Proofs.Ytamgckmkebpgjaa
/- THE CELL 'sum', in the pinned program and in every row, IS THE sha256 OF THE DUMP (.gsa) THAT YtamgckmkebpgjaaProg.lean LOADS. Nothing in Lean hashes anything: it is a label: what it is worth is what the hold of that sum in a sandbox is worth. -/
noncomputable def Try.pinned : Pinned := { name := "ytamgckmkebpgjaa", sum := "b4bf9960e17c8e1164f10b72ea0234b98e06c4b246b5df62e488dd1ec584918e", checked := Try.checked }
namespace Rows
def none {H : Type} : Left H := { results := [], args := [] }

/-- 'laws.FnOdds': WHATEVER THE INPUT: true; the input reads as it did. -/
def fnOddsSpec : ChangeSpec := { name := "fnOdds", fn := fun _ => fun
  | [d] => { results := [.lit (.bool true)], args := [d] }
  | _ => none }
def fnOddsRow : OpenClaim := { program := "ytamgckmkebpgjaa", sum := "b4bf9960e17c8e1164f10b72ea0234b98e06c4b246b5df62e488dd1ec584918e", func := "loop.example/tradecircles/laws.FnOdds", spec := "fnOdds", apart := false }
def FnOddsSaid : Prop := fnOddsRow.holds Try.pinned (OpenSpec.ofChange fnOddsSpec)

/-- ITS FALSE NEIGHBOUR: 'it returns false'. Refute it at one input. -/
def fnOddsWrong : ChangeSpec := { name := "fnOdds", fn := fun _ => fun
  | [d] => { results := [.lit (.bool false)], args := [d] }
  | _ => none }
def FnOddsWrongFalsely : Prop := fnOddsRow.holds Try.pinned (OpenSpec.ofChange fnOddsWrong)

/-- 'laws.FnOddsSum': WHATEVER THE INPUT: true; the input reads as it did. -/
def fnOddsSumSpec : ChangeSpec := { name := "fnOddsSum", fn := fun _ => fun
  | [d] => { results := [.lit (.bool true)], args := [d] }
  | _ => none }
def fnOddsSumRow : OpenClaim := { program := "ytamgckmkebpgjaa", sum := "b4bf9960e17c8e1164f10b72ea0234b98e06c4b246b5df62e488dd1ec584918e", func := "loop.example/tradecircles/laws.FnOddsSum", spec := "fnOddsSum", apart := false }
def FnOddsSumSaid : Prop := fnOddsSumRow.holds Try.pinned (OpenSpec.ofChange fnOddsSumSpec)

/-- ITS FALSE NEIGHBOUR: 'it returns false'. Refute it at one input. -/
def fnOddsSumWrong : ChangeSpec := { name := "fnOddsSum", fn := fun _ => fun
  | [d] => { results := [.lit (.bool false)], args := [d] }
  | _ => none }
def FnOddsSumWrongFalsely : Prop := fnOddsSumRow.holds Try.pinned (OpenSpec.ofChange fnOddsSumWrong)

/-- 'laws.FnOddsBest': WHATEVER THE INPUT: true; the input reads as it did. -/
def fnOddsBestSpec : ChangeSpec := { name := "fnOddsBest", fn := fun _ => fun
  | [d] => { results := [.lit (.bool true)], args := [d] }
  | _ => none }
def fnOddsBestRow : OpenClaim := { program := "ytamgckmkebpgjaa", sum := "b4bf9960e17c8e1164f10b72ea0234b98e06c4b246b5df62e488dd1ec584918e", func := "loop.example/tradecircles/laws.FnOddsBest", spec := "fnOddsBest", apart := false }
def FnOddsBestSaid : Prop := fnOddsBestRow.holds Try.pinned (OpenSpec.ofChange fnOddsBestSpec)

/-- ITS FALSE NEIGHBOUR: 'it returns false'. Refute it at one input. -/
def fnOddsBestWrong : ChangeSpec := { name := "fnOddsBest", fn := fun _ => fun
  | [d] => { results := [.lit (.bool false)], args := [d] }
  | _ => none }
def FnOddsBestWrongFalsely : Prop := fnOddsBestRow.holds Try.pinned (OpenSpec.ofChange fnOddsBestWrong)

/-- 'laws.FnOddsBack': WHATEVER THE INPUT: true; the input reads as it did. -/
def fnOddsBackSpec : ChangeSpec := { name := "fnOddsBack", fn := fun _ => fun
  | [d] => { results := [.lit (.bool true)], args := [d] }
  | _ => none }
def fnOddsBackRow : OpenClaim := { program := "ytamgckmkebpgjaa", sum := "b4bf9960e17c8e1164f10b72ea0234b98e06c4b246b5df62e488dd1ec584918e", func := "loop.example/tradecircles/laws.FnOddsBack", spec := "fnOddsBack", apart := false }
def FnOddsBackSaid : Prop := fnOddsBackRow.holds Try.pinned (OpenSpec.ofChange fnOddsBackSpec)

/-- ITS FALSE NEIGHBOUR: 'it returns false'. Refute it at one input. -/
def fnOddsBackWrong : ChangeSpec := { name := "fnOddsBack", fn := fun _ => fun
  | [d] => { results := [.lit (.bool false)], args := [d] }
  | _ => none }
def FnOddsBackWrongFalsely : Prop := fnOddsBackRow.holds Try.pinned (OpenSpec.ofChange fnOddsBackWrong)

/-- 'laws.FnExactOddsIn': WHATEVER THE INPUT: true; the input reads as it did. -/
def fnExactOddsInSpec : ChangeSpec := { name := "fnExactOddsIn", fn := fun _ => fun
  | [d] => { results := [.lit (.bool true)], args := [d] }
  | _ => none }
def fnExactOddsInRow : OpenClaim := { program := "ytamgckmkebpgjaa", sum := "b4bf9960e17c8e1164f10b72ea0234b98e06c4b246b5df62e488dd1ec584918e", func := "loop.example/tradecircles/laws.FnExactOddsIn", spec := "fnExactOddsIn", apart := false }
def FnExactOddsInSaid : Prop := fnExactOddsInRow.holds Try.pinned (OpenSpec.ofChange fnExactOddsInSpec)

/-- ITS FALSE NEIGHBOUR: 'it returns false'. Refute it at one input. -/
def fnExactOddsInWrong : ChangeSpec := { name := "fnExactOddsIn", fn := fun _ => fun
  | [d] => { results := [.lit (.bool false)], args := [d] }
  | _ => none }
def FnExactOddsInWrongFalsely : Prop := fnExactOddsInRow.holds Try.pinned (OpenSpec.ofChange fnExactOddsInWrong)

/-- 'laws.FnExactOddsSum': WHATEVER THE INPUT: true; the input reads as it did. -/
def fnExactOddsSumSpec : ChangeSpec := { name := "fnExactOddsSum", fn := fun _ => fun
  | [d] => { results := [.lit (.bool true)], args := [d] }
  | _ => none }
def fnExactOddsSumRow : OpenClaim := { program := "ytamgckmkebpgjaa", sum := "b4bf9960e17c8e1164f10b72ea0234b98e06c4b246b5df62e488dd1ec584918e", func := "loop.example/tradecircles/laws.FnExactOddsSum", spec := "fnExactOddsSum", apart := false }
def FnExactOddsSumSaid : Prop := fnExactOddsSumRow.holds Try.pinned (OpenSpec.ofChange fnExactOddsSumSpec)

/-- ITS FALSE NEIGHBOUR: 'it returns false'. Refute it at one input. -/
def fnExactOddsSumWrong : ChangeSpec := { name := "fnExactOddsSum", fn := fun _ => fun
  | [d] => { results := [.lit (.bool false)], args := [d] }
  | _ => none }
def FnExactOddsSumWrongFalsely : Prop := fnExactOddsSumRow.holds Try.pinned (OpenSpec.ofChange fnExactOddsSumWrong)

/-- 'laws.FnExactOddsSure': WHATEVER THE INPUT: true; the input reads as it did. -/
def fnExactOddsSureSpec : ChangeSpec := { name := "fnExactOddsSure", fn := fun _ => fun
  | [d] => { results := [.lit (.bool true)], args := [d] }
  | _ => none }
def fnExactOddsSureRow : OpenClaim := { program := "ytamgckmkebpgjaa", sum := "b4bf9960e17c8e1164f10b72ea0234b98e06c4b246b5df62e488dd1ec584918e", func := "loop.example/tradecircles/laws.FnExactOddsSure", spec := "fnExactOddsSure", apart := false }
def FnExactOddsSureSaid : Prop := fnExactOddsSureRow.holds Try.pinned (OpenSpec.ofChange fnExactOddsSureSpec)

/-- ITS FALSE NEIGHBOUR: 'it returns false'. Refute it at one input. -/
def fnExactOddsSureWrong : ChangeSpec := { name := "fnExactOddsSure", fn := fun _ => fun
  | [d] => { results := [.lit (.bool false)], args := [d] }
  | _ => none }
def FnExactOddsSureWrongFalsely : Prop := fnExactOddsSureRow.holds Try.pinned (OpenSpec.ofChange fnExactOddsSureWrong)

/-- 'laws.FnExactOddsStakes': WHATEVER THE INPUT: true; the input reads as it did. -/
def fnExactOddsStakesSpec : ChangeSpec := { name := "fnExactOddsStakes", fn := fun _ => fun
  | [d] => { results := [.lit (.bool true)], args := [d] }
  | _ => none }
def fnExactOddsStakesRow : OpenClaim := { program := "ytamgckmkebpgjaa", sum := "b4bf9960e17c8e1164f10b72ea0234b98e06c4b246b5df62e488dd1ec584918e", func := "loop.example/tradecircles/laws.FnExactOddsStakes", spec := "fnExactOddsStakes", apart := false }
def FnExactOddsStakesSaid : Prop := fnExactOddsStakesRow.holds Try.pinned (OpenSpec.ofChange fnExactOddsStakesSpec)

/-- ITS FALSE NEIGHBOUR: 'it returns false'. Refute it at one input. -/
def fnExactOddsStakesWrong : ChangeSpec := { name := "fnExactOddsStakes", fn := fun _ => fun
  | [d] => { results := [.lit (.bool false)], args := [d] }
  | _ => none }
def FnExactOddsStakesWrongFalsely : Prop := fnExactOddsStakesRow.holds Try.pinned (OpenSpec.ofChange fnExactOddsStakesWrong)

/-- 'laws.FnExactOddsLeast': WHATEVER THE INPUT: true; the input reads as it did. -/
def fnExactOddsLeastSpec : ChangeSpec := { name := "fnExactOddsLeast", fn := fun _ => fun
  | [d1, d2] => { results := [.lit (.bool true)], args := [d1, d2] }
  | _ => none }
def fnExactOddsLeastRow : OpenClaim := { program := "ytamgckmkebpgjaa", sum := "b4bf9960e17c8e1164f10b72ea0234b98e06c4b246b5df62e488dd1ec584918e", func := "loop.example/tradecircles/laws.FnExactOddsLeast", spec := "fnExactOddsLeast", apart := false }
def FnExactOddsLeastSaid : Prop := fnExactOddsLeastRow.holds Try.pinned (OpenSpec.ofChange fnExactOddsLeastSpec)

/-- ITS FALSE NEIGHBOUR: 'it returns false'. Refute it at one input. -/
def fnExactOddsLeastWrong : ChangeSpec := { name := "fnExactOddsLeast", fn := fun _ => fun
  | [d1, d2] => { results := [.lit (.bool false)], args := [d1, d2] }
  | _ => none }
def FnExactOddsLeastWrongFalsely : Prop := fnExactOddsLeastRow.holds Try.pinned (OpenSpec.ofChange fnExactOddsLeastWrong)

/-- 'laws.FnExactOddsWins': WHATEVER THE INPUT: true; the input reads as it did. -/
def fnExactOddsWinsSpec : ChangeSpec := { name := "fnExactOddsWins", fn := fun _ => fun
  | [d1, d2] => { results := [.lit (.bool true)], args := [d1, d2] }
  | _ => none }
def fnExactOddsWinsRow : OpenClaim := { program := "ytamgckmkebpgjaa", sum := "b4bf9960e17c8e1164f10b72ea0234b98e06c4b246b5df62e488dd1ec584918e", func := "loop.example/tradecircles/laws.FnExactOddsWins", spec := "fnExactOddsWins", apart := false }
def FnExactOddsWinsSaid : Prop := fnExactOddsWinsRow.holds Try.pinned (OpenSpec.ofChange fnExactOddsWinsSpec)

/-- ITS FALSE NEIGHBOUR: 'it returns false'. Refute it at one input. -/
def fnExactOddsWinsWrong : ChangeSpec := { name := "fnExactOddsWins", fn := fun _ => fun
  | [d1, d2] => { results := [.lit (.bool false)], args := [d1, d2] }
  | _ => none }
def FnExactOddsWinsWrongFalsely : Prop := fnExactOddsWinsRow.holds Try.pinned (OpenSpec.ofChange fnExactOddsWinsWrong)

/-- 'laws.FnExactOddsBest': WHATEVER THE INPUT: true; the input reads as it did. -/
def fnExactOddsBestSpec : ChangeSpec := { name := "fnExactOddsBest", fn := fun _ => fun
  | [d1, d2] => { results := [.lit (.bool true)], args := [d1, d2] }
  | _ => none }
def fnExactOddsBestRow : OpenClaim := { program := "ytamgckmkebpgjaa", sum := "b4bf9960e17c8e1164f10b72ea0234b98e06c4b246b5df62e488dd1ec584918e", func := "loop.example/tradecircles/laws.FnExactOddsBest", spec := "fnExactOddsBest", apart := false }
def FnExactOddsBestSaid : Prop := fnExactOddsBestRow.holds Try.pinned (OpenSpec.ofChange fnExactOddsBestSpec)

/-- ITS FALSE NEIGHBOUR: 'it returns false'. Refute it at one input. -/
def fnExactOddsBestWrong : ChangeSpec := { name := "fnExactOddsBest", fn := fun _ => fun
  | [d1, d2] => { results := [.lit (.bool false)], args := [d1, d2] }
  | _ => none }
def FnExactOddsBestWrongFalsely : Prop := fnExactOddsBestRow.holds Try.pinned (OpenSpec.ofChange fnExactOddsBestWrong)

/-- 'laws.FnExactOddsRest': WHATEVER THE INPUT: true; the input reads as it did. -/
def fnExactOddsRestSpec : ChangeSpec := { name := "fnExactOddsRest", fn := fun _ => fun
  | [d] => { results := [.lit (.bool true)], args := [d] }
  | _ => none }
def fnExactOddsRestRow : OpenClaim := { program := "ytamgckmkebpgjaa", sum := "b4bf9960e17c8e1164f10b72ea0234b98e06c4b246b5df62e488dd1ec584918e", func := "loop.example/tradecircles/laws.FnExactOddsRest", spec := "fnExactOddsRest", apart := false }
def FnExactOddsRestSaid : Prop := fnExactOddsRestRow.holds Try.pinned (OpenSpec.ofChange fnExactOddsRestSpec)

/-- ITS FALSE NEIGHBOUR: 'it returns false'. Refute it at one input. -/
def fnExactOddsRestWrong : ChangeSpec := { name := "fnExactOddsRest", fn := fun _ => fun
  | [d] => { results := [.lit (.bool false)], args := [d] }
  | _ => none }
def FnExactOddsRestWrongFalsely : Prop := fnExactOddsRestRow.holds Try.pinned (OpenSpec.ofChange fnExactOddsRestWrong)

/- THE SECOND FORM. 'bulk': how many values and letters a reading holds, each counted each time it is reached (what is shared counts as often as it is met; a slice's spare places count too). A statement '..UptoSaid' is the law's where the arguments, and the package variables that the reading takes, are together of bulk at most 1048576: NARROWER than '..Said'. Prove '..Said' where nothing that the law and all that it calls make is longer than what came in: it says more and counts as full. Else prove '..UptoSaid'. A law counts once. -/
mutual
def uptoBulk {H : Type} : DataW H → Nat
  | .lit (.string bytes) => bytes.length + 1
  | .lit _ => 1
  | .nil => 1
  | .ptr d => uptoBulk d + 1
  | .slice elems spare => uptoBulkAll elems + uptoBulkAll spare + 1
  | .agg parts => uptoBulkAll parts + 1
  | .iface _ d => uptoBulk d + 1
  | .map entries => uptoBulkEntries entries + 1
  | .held _ => 1
def uptoBulkAll {H : Type} : List (DataW H) → Nat
  | [] => 0
  | d :: r => uptoBulk d + uptoBulkAll r
def uptoBulkEntries {H : Type} : List (Lit × DataW H) → Nat
  | [] => 0
  | x :: r => uptoBulkEntry x + uptoBulkEntries r
def uptoBulkEntry {H : Type} : Lit × DataW H → Nat
  | (.string bytes, d) => bytes.length + uptoBulk d + 1
  | (_, d) => uptoBulk d + 1
 end
def uptoSmall : (H : Type) → List (DataW H) → Bool := fun _ ds => decide (uptoBulkAll ds ≤ 1048576)
def OpenSpec.upto (s : _root_.Go.ChangeSpec) : _root_.Go.OpenSpec := { _root_.Go.OpenSpec.ofChange s with cond := some uptoSmall }

/-- 'laws.FnOdds', WHERE WHAT IT READS IS OF BULK AT MOST 1048576: true; the input reads as it did. -/
def fnOddsUptoRow : OpenClaim := { program := "ytamgckmkebpgjaa", sum := "b4bf9960e17c8e1164f10b72ea0234b98e06c4b246b5df62e488dd1ec584918e", func := "loop.example/tradecircles/laws.FnOdds", spec := "fnOdds", apart := false, narrowed := true }
def FnOddsUptoSaid : Prop := fnOddsUptoRow.holds Try.pinned (OpenSpec.upto fnOddsSpec)

/-- 'laws.FnOddsSum', WHERE WHAT IT READS IS OF BULK AT MOST 1048576: true; the input reads as it did. -/
def fnOddsSumUptoRow : OpenClaim := { program := "ytamgckmkebpgjaa", sum := "b4bf9960e17c8e1164f10b72ea0234b98e06c4b246b5df62e488dd1ec584918e", func := "loop.example/tradecircles/laws.FnOddsSum", spec := "fnOddsSum", apart := false, narrowed := true }
def FnOddsSumUptoSaid : Prop := fnOddsSumUptoRow.holds Try.pinned (OpenSpec.upto fnOddsSumSpec)

/-- 'laws.FnOddsBest', WHERE WHAT IT READS IS OF BULK AT MOST 1048576: true; the input reads as it did. -/
def fnOddsBestUptoRow : OpenClaim := { program := "ytamgckmkebpgjaa", sum := "b4bf9960e17c8e1164f10b72ea0234b98e06c4b246b5df62e488dd1ec584918e", func := "loop.example/tradecircles/laws.FnOddsBest", spec := "fnOddsBest", apart := false, narrowed := true }
def FnOddsBestUptoSaid : Prop := fnOddsBestUptoRow.holds Try.pinned (OpenSpec.upto fnOddsBestSpec)

/-- 'laws.FnOddsBack', WHERE WHAT IT READS IS OF BULK AT MOST 1048576: true; the input reads as it did. -/
def fnOddsBackUptoRow : OpenClaim := { program := "ytamgckmkebpgjaa", sum := "b4bf9960e17c8e1164f10b72ea0234b98e06c4b246b5df62e488dd1ec584918e", func := "loop.example/tradecircles/laws.FnOddsBack", spec := "fnOddsBack", apart := false, narrowed := true }
def FnOddsBackUptoSaid : Prop := fnOddsBackUptoRow.holds Try.pinned (OpenSpec.upto fnOddsBackSpec)

/-- 'laws.FnExactOddsIn', WHERE WHAT IT READS IS OF BULK AT MOST 1048576: true; the input reads as it did. -/
def fnExactOddsInUptoRow : OpenClaim := { program := "ytamgckmkebpgjaa", sum := "b4bf9960e17c8e1164f10b72ea0234b98e06c4b246b5df62e488dd1ec584918e", func := "loop.example/tradecircles/laws.FnExactOddsIn", spec := "fnExactOddsIn", apart := false, narrowed := true }
def FnExactOddsInUptoSaid : Prop := fnExactOddsInUptoRow.holds Try.pinned (OpenSpec.upto fnExactOddsInSpec)

/-- 'laws.FnExactOddsSum', WHERE WHAT IT READS IS OF BULK AT MOST 1048576: true; the input reads as it did. -/
def fnExactOddsSumUptoRow : OpenClaim := { program := "ytamgckmkebpgjaa", sum := "b4bf9960e17c8e1164f10b72ea0234b98e06c4b246b5df62e488dd1ec584918e", func := "loop.example/tradecircles/laws.FnExactOddsSum", spec := "fnExactOddsSum", apart := false, narrowed := true }
def FnExactOddsSumUptoSaid : Prop := fnExactOddsSumUptoRow.holds Try.pinned (OpenSpec.upto fnExactOddsSumSpec)

/-- 'laws.FnExactOddsSure', WHERE WHAT IT READS IS OF BULK AT MOST 1048576: true; the input reads as it did. -/
def fnExactOddsSureUptoRow : OpenClaim := { program := "ytamgckmkebpgjaa", sum := "b4bf9960e17c8e1164f10b72ea0234b98e06c4b246b5df62e488dd1ec584918e", func := "loop.example/tradecircles/laws.FnExactOddsSure", spec := "fnExactOddsSure", apart := false, narrowed := true }
def FnExactOddsSureUptoSaid : Prop := fnExactOddsSureUptoRow.holds Try.pinned (OpenSpec.upto fnExactOddsSureSpec)

/-- 'laws.FnExactOddsStakes', WHERE WHAT IT READS IS OF BULK AT MOST 1048576: true; the input reads as it did. -/
def fnExactOddsStakesUptoRow : OpenClaim := { program := "ytamgckmkebpgjaa", sum := "b4bf9960e17c8e1164f10b72ea0234b98e06c4b246b5df62e488dd1ec584918e", func := "loop.example/tradecircles/laws.FnExactOddsStakes", spec := "fnExactOddsStakes", apart := false, narrowed := true }
def FnExactOddsStakesUptoSaid : Prop := fnExactOddsStakesUptoRow.holds Try.pinned (OpenSpec.upto fnExactOddsStakesSpec)

/-- 'laws.FnExactOddsLeast', WHERE WHAT IT READS IS OF BULK AT MOST 1048576: true; the input reads as it did. -/
def fnExactOddsLeastUptoRow : OpenClaim := { program := "ytamgckmkebpgjaa", sum := "b4bf9960e17c8e1164f10b72ea0234b98e06c4b246b5df62e488dd1ec584918e", func := "loop.example/tradecircles/laws.FnExactOddsLeast", spec := "fnExactOddsLeast", apart := false, narrowed := true }
def FnExactOddsLeastUptoSaid : Prop := fnExactOddsLeastUptoRow.holds Try.pinned (OpenSpec.upto fnExactOddsLeastSpec)

/-- 'laws.FnExactOddsWins', WHERE WHAT IT READS IS OF BULK AT MOST 1048576: true; the input reads as it did. -/
def fnExactOddsWinsUptoRow : OpenClaim := { program := "ytamgckmkebpgjaa", sum := "b4bf9960e17c8e1164f10b72ea0234b98e06c4b246b5df62e488dd1ec584918e", func := "loop.example/tradecircles/laws.FnExactOddsWins", spec := "fnExactOddsWins", apart := false, narrowed := true }
def FnExactOddsWinsUptoSaid : Prop := fnExactOddsWinsUptoRow.holds Try.pinned (OpenSpec.upto fnExactOddsWinsSpec)

/-- 'laws.FnExactOddsBest', WHERE WHAT IT READS IS OF BULK AT MOST 1048576: true; the input reads as it did. -/
def fnExactOddsBestUptoRow : OpenClaim := { program := "ytamgckmkebpgjaa", sum := "b4bf9960e17c8e1164f10b72ea0234b98e06c4b246b5df62e488dd1ec584918e", func := "loop.example/tradecircles/laws.FnExactOddsBest", spec := "fnExactOddsBest", apart := false, narrowed := true }
def FnExactOddsBestUptoSaid : Prop := fnExactOddsBestUptoRow.holds Try.pinned (OpenSpec.upto fnExactOddsBestSpec)

/-- 'laws.FnExactOddsRest', WHERE WHAT IT READS IS OF BULK AT MOST 1048576: true; the input reads as it did. -/
def fnExactOddsRestUptoRow : OpenClaim := { program := "ytamgckmkebpgjaa", sum := "b4bf9960e17c8e1164f10b72ea0234b98e06c4b246b5df62e488dd1ec584918e", func := "loop.example/tradecircles/laws.FnExactOddsRest", spec := "fnExactOddsRest", apart := false, narrowed := true }
def FnExactOddsRestUptoSaid : Prop := fnExactOddsRestUptoRow.holds Try.pinned (OpenSpec.upto fnExactOddsRestSpec)

end Rows
end Go.Proofs.Ytamgckmkebpgjaa
