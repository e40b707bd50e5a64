/- Swaps, in plain mathematics. -/
import Derived.Test.YtgjegpponchdaaaDoorIdxModel
namespace Go.Proofs.YtgjegpponchdaaaDoor
set_option linter.unusedVariables false
open Go.RowKit

/-- Wishes and a giving. -/
def GivenOk (n : Nat) (L : Nat → Nat) (Z : Nat → Nat → Int) (m : Nat) (G : Nat → Int) : Prop := IsWishes n L Z ∧ IsEach n m G
/-- Is the swap of i and k welcome to both? -/
def MayP (n : Nat) (Z : Nat → Nat → Int) (G : Nat → Int) (i k : Nat) : Prop := idxF (Z i) (G k) n < idxF (Z i) (G i) n ∧ idxF (Z k) (G i) n < idxF (Z k) (G k) n
/-- Wishes, a giving and two people. -/
def PairOk (n : Nat) (L : Nat → Nat) (Z : Nat → Nat → Int) (m : Nat) (G : Nat → Int) (i k : Int) : Prop := GivenOk n L Z m G ∧ InR i 0 (n - 1) ∧ InR k 0 (n - 1)
/-- .. two different ones. -/
def TwoPpl (n : Nat) (L : Nat → Nat) (Z : Nat → Nat → Int) (m : Nat) (G : Nat → Int) (i k : Int) : Prop := PairOk n L Z m G i k ∧ i ≠ k
def SwapMayOk (n : Nat) (L : Nat → Nat) (Z : Nat → Nat → Int) (m : Nat) (G : Nat → Int) (i k : Int) : Prop := PairOk n L Z m G i k ∧ MayP n Z G i.toNat k.toNat
theorem may_ne {n : Nat} {Z : Nat → Nat → Int} {G : Nat → Int} {i k : Nat} (h : MayP n Z G i k) : i ≠ k := fun e => by subst e; have := h.1; omega
theorem may_symm {n : Nat} {Z : Nat → Nat → Int} {G : Nat → Int} {i k : Nat} : MayP n Z G i k ↔ MayP n Z G k i := ⟨fun h => ⟨h.2, h.1⟩, fun h => ⟨h.2, h.1⟩⟩
theorem GivenOk.at {n m : Nat} {L : Nat → Nat} {Z : Nat → Nat → Int} {G : Nat → Int} (h : GivenOk n L Z m G) {i : Nat} (hi : i < n) : InR (G i) 0 ((n : Int) - 1) := by
  have := h.2.2.1 i hi
  exact ⟨this.1, by omega⟩
/-- What two people get is exchanged. -/
def swapF (G : Nat → Int) (i k : Nat) (j : Nat) : Int := if j = i then G k else if j = k then G i else G j
noncomputable def swapN (n : Nat) (L : Nat → Nat) (Z : Nat → Nat → Int) (m : Nat) (G : Nat → Int) (i k : Int) : Nat := if tt (TwoPpl n L Z m G i k) = true then n else 0
theorem swapN_yes {n m : Nat} {L : Nat → Nat} {Z : Nat → Nat → Int} {G : Nat → Int} {i k : Int} (h : TwoPpl n L Z m G i k) : swapN n L Z m G i k = n := by unfold swapN; rw [tt_of h]; rfl
theorem swapN_no {n m : Nat} {L : Nat → Nat} {Z : Nat → Nat → Int} {G : Nat → Int} {i k : Int} (h : ¬ TwoPpl n L Z m G i k) : swapN n L Z m G i k = 0 := by unfold swapN; rw [tt_no h]; rfl
theorem swapN_le (n : Nat) (L : Nat → Nat) (Z : Nat → Nat → Int) (m : Nat) (G : Nat → Int) (i k : Int) : swapN n L Z m G i k ≤ 1048576 := by
  by_cases h : TwoPpl n L Z m G i k
  · rw [swapN_yes h]; have := h.1.1.1.1.2; omega
  · rw [swapN_no h]; omega
end Go.Proofs.YtgjegpponchdaaaDoor
