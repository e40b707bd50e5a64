/- The draws of prices alone. -/
import Derived.Test.YtmjbocgoinfamaaDrawPrices
namespace Go.Proofs.Ytmjbocgoinfamaa
set_option linter.unusedVariables false
open Go.RowKit

/-- What they hand back: a row of lo to hi numbers. -/
def DrewRowTop (lo hi : Nat) (w : World) (e : Ending) (w' : World) : Prop :=
  ∃ g m cap X, e = .returned (.slice (some ⟨g, 0, none⟩) m cap) ∧ (lo ≤ m ∧ m ≤ hi ∧ m ≤ cap) ∧ Rd w' (some ⟨g, 0, none⟩) m X ∧ Below w.heap.size w w'
end Go.Proofs.Ytmjbocgoinfamaa
