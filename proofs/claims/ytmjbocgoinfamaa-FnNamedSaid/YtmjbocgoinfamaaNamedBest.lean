/- A table whose moneys are called otherwise: its best ways and its rounds that gain. -/
import Derived.Test.YtmjbocgoinfamaaRenModel
namespace Go.Proofs.Ytmjbocgoinfamaa
set_option linter.unusedVariables false

theorem named_ren {n : Nat} {p : Nat → Int} (h : IsDiff n n p) : Ren n (fun i => (p i).toNat) (invF p n) where
  f1 := fun i hi => by have := h.1 i hi; show (p i).toNat < n; omega
  g1 := fun i hi => (h.inv hi).1
  gf := fun i hi => h.inv_at hi (by have := h.1 i hi; show p i = (((p i).toNat : Nat) : Int); omega)
  fg := fun i hi => by have := (h.inv hi).2; show (p (invF p n i)).toNat = i; omega
theorem named_at {n : Nat} {Z : Nat → Nat → Int} {p : Nat → Int} (h : IsDiff n n p) : ∀ i k, i < n → k < n → namedX n Z p ((fun i => (p i).toNat) i) ((fun i => (p i).toNat) k) = Z i k := fun i k hi hk => by
  unfold namedX
  rw [(named_ren h).gf i hi, (named_ren h).gf k hk]
theorem named_rates {n m : Nat} {L : Nat → Nat} {Z : Nat → Nat → Int} {p : Nat → Int} (h : NamedOk n m L Z p) : IsRates n (fun _ => n) (namedX n Z p) := by
  have hr := named_ren h.2.2
  refine ⟨h.1.1, fun i hi => ⟨rfl, fun k hk => ?_⟩⟩
  have := (h.1.2 (invF p n i) (hr.g1 i hi)).2 (invF p n k) (hr.g1 k hk)
  exact ⟨this.1, fun e => this.2 (by rw [e])⟩
theorem named_two {n m : Nat} {L : Nat → Nat} {Z : Nat → Nat → Int} {p : Nat → Int} (h : NamedOk n m L Z p) : TwoOk n (fun _ => n) (namedX n Z p) (p 0) (p 1) := by
  have hn := h.1.1.1
  have h0 := h.2.2.1 0 (by omega)
  have h1 := h.2.2.1 1 (by omega)
  exact ⟨named_rates h, ⟨h0.1, by omega⟩, ⟨h1.1, by omega⟩⟩
theorem zero_two {n m : Nat} {L : Nat → Nat} {Z : Nat → Nat → Int} {p : Nat → Int} (h : NamedOk n m L Z p) : TwoOk n L Z 0 1 := by
  have hn := h.1.1.1
  exact ⟨h.1, ⟨by omega, by omega⟩, ⟨by omega, by omega⟩⟩
theorem named_best {n m : Nat} {L : Nat → Nat} {Z : Nat → Nat → Int} {p : Nat → Int} (h : NamedOk n m L Z p) : bestAns n (fun _ => n) (namedX n Z p) (p 0) (p 1) = bestAns n L Z 0 1 := by
  have hn := h.1.1.1
  rw [bestAns_yes (named_two h), bestAns_yes (zero_two h)]
  have h0 := h.2.2.1 0 (by omega)
  have h1 := h.2.2.1 1 (by omega)
  have hne : p 0 ≠ p 1 := fun e => h.2.2.2 0 1 (by omega) (by omega) e
  rw [if_neg hne, if_neg (by decide)]
  have := best_ren (named_ren h.2.2) (named_at (Z := Z) h.2.2) (i := 0) (k := 1) (by omega) (by omega) (b := 0)
  have e0 : (((p 0).toNat : Nat) : Int) = p 0 := by omega
  have e1 : (((p 1).toNat : Nat) : Int) = p 1 := by omega
  simp only [e0, e1] at this
  exact this
theorem named_gain {n m : Nat} {L : Nat → Nat} {Z : Nat → Nat → Int} {p : Nat → Int} (h : NamedOk n m L Z p) : gainN n (fun _ => n) (namedX n Z p) = gainN n L Z := by
  rw [gainN_yes (named_rates h), gainN_yes h.1]
  exact gaining_ren (named_ren h.2.2) (named_at h.2.2)
end Go.Proofs.Ytmjbocgoinfamaa
