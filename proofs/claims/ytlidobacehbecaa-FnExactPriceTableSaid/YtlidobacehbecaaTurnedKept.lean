/- What is exchanged stays kept. -/
import Derived.Test.YtlidobacehbecaaTurned
import Derived.Test.YtlidobacehbecaaOwn
namespace Go.Proofs.Ytlidobacehbecaa
set_option linter.unusedVariables false
open Go.RowKit

theorem atF_turned (F : Nat → Int) {i k : Nat} (hi : i < 5) (hk : k < 5) : atF (turnedF F) i k = atF F k i := by
  have e1 : (i * 5 + k) % 5 = k := by omega
  have e2 : (i * 5 + k) / 5 = i := by omega
  unfold atF turnedF
  rw [e1, e2]
theorem Kept.turned {n : Nat} {F : Nat → Int} (h : Kept n F) : Kept n (turnedF F) := by
  have h5 := h.le
  refine ⟨h.le, fun i hi => ?_, fun hn => ?_, fun i k hi hk => ?_⟩
  · rw [atF_turned F (by omega) (by omega)]; exact h.diag i hi
  · rw [atF_turned F (by omega) (by omega)]; exact h.none hn
  · rw [atF_turned F (by omega) (by omega)]; exact h.rate k i hk hi
theorem OwnT.congr {w : World} {lo hi n : Nat} {a : Option Addr} {A : Nat → Option Addr} {L C : Nat → Nat} {X Y : Nat → Nat → Int} (h : OwnT w lo hi a n A L C X) (e : ∀ r k, r < n → k < L r → X r k = Y r k) : OwnT w lo hi a n A L C Y := by
  rcases h with h0 | ⟨b, o, K, ha, h1, h2, hc, hk, hi⟩
  · exact .inl h0
  · refine .inr ⟨b, o, K, ha, h1, h2, hc, fun r hr => ?_, hi⟩
    obtain ⟨k1, k2, k3, k4⟩ := hk r hr
    refine ⟨k1, k2, k3, ?_⟩
    rcases k4 with k0 | ⟨o', ha', hc'⟩
    · exact .inl k0
    · exact .inr ⟨o', ha', fun k hk => by rw [← e r k hr hk]; exact hc' k hk⟩
end Go.Proofs.Ytlidobacehbecaa
