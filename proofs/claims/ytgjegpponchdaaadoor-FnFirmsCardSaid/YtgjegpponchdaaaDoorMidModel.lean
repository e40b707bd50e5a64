/- What has been got in the midst of a round of trading, in plain mathematics; what a trade hands back. -/
import Derived.Test.YtgjegpponchdaaaDoorTradeModel
import Derived.Test.YtgjegpponchdaaaDoorBitsNot
import Derived.Test.YtgjegpponchdaaaDoorFrontModel
namespace Go.Proofs.YtgjegpponchdaaaDoor
set_option linter.unusedVariables false
set_option linter.unusedSimpArgs false
open Go.RowKit

/-- What a trade hands back: a row of its own, and a number. -/
def RetIN (n : Nat) (X : Nat → Int) (t : Int) (w : World) (e : Ending) (w' : World) : Prop :=
  ∃ a c, e = .returned (.tuple #[.slice a n c, .int .i64 t]) ∧ n ≤ c ∧ OwnI w' w.heap.size w'.heap.size a n X ∧ Below w.heap.size w w'

/-- What has been got when the first i people have been seen in round t. -/
noncomputable def midF (Z : Nat → Nat → Int) (n t i y : Nat) : Int := if y < i then (gF Z n (t + 1) y : Int) else (gF Z n t y : Int)
theorem midF_zero (Z : Nat → Nat → Int) (n t y : Nat) : (gF Z n t y : Int) = midF Z n t 0 y := by unfold midF; rw [if_neg (Nat.not_lt_zero _)]
theorem midF_all {Z : Nat → Nat → Int} {n t y : Nat} (h : y < n) : midF Z n t n y = (gF Z n (t + 1) y : Int) := by unfold midF; rw [if_pos h]
theorem midF_yes {Z : Nat → Nat → Int} {n t i : Nat} (h : circB Z n (tS Z n t) i = true) (y : Nat) : (if y = i then ((ptS Z n (tS Z n t) i : Nat) : Int) else midF Z n t i y) = midF Z n t (i + 1) y := by
  unfold midF
  by_cases e : y = i
  · subst e
    rw [if_pos rfl, if_pos (Nat.lt_succ_self _)]
    show _ = (((if circB Z n (tS Z n t) y = true then ptS Z n (tS Z n t) y else gF Z n t y) : Nat) : Int)
    rw [if_pos h]
  · rw [if_neg e]
    by_cases h' : y < i
    · rw [if_pos h', if_pos (by omega)]
    · rw [if_neg h', if_neg (by omega)]
theorem midF_no {Z : Nat → Nat → Int} {n t i : Nat} (h : circB Z n (tS Z n t) i = false) (y : Nat) : midF Z n t i y = midF Z n t (i + 1) y := by
  unfold midF
  by_cases e : y = i
  · subst e
    rw [if_neg (Nat.lt_irrefl _), if_pos (Nat.lt_succ_self _)]
    show _ = (((if circB Z n (tS Z n t) y = true then ptS Z n (tS Z n t) y else gF Z n t y) : Nat) : Int)
    rw [if_neg (by rw [h]; decide)]
  · by_cases h' : y < i
    · rw [if_pos h', if_pos (by omega)]
    · rw [if_neg h', if_neg (by omega)]

end Go.Proofs.YtgjegpponchdaaaDoor
