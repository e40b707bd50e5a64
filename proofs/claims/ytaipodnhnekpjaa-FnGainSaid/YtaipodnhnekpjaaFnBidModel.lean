/- What the laws of chapter 7 say of bids, in plain mathematics. -/
import Derived.Test.YtaipodnhnekpjaaDealsWay
import Derived.Test.YtaipodnhnekpjaaBidMost
import Derived.Lib.MinMax
namespace Go.Proofs.Ytaipodnhnekpjaa
set_option linter.unusedVariables false
set_option linter.unusedSimpArgs false
open Go.RowKit

theorem sum_range {f : Nat → Int} : ∀ (q : Nat), (∀ r, r < q → 0 ≤ f r ∧ f r ≤ 20) → 0 ≤ sumZ f q ∧ sumZ f q ≤ 20 * (q : Int)
  | 0, _ => ⟨Int.le_refl _, by show (0 : Int) ≤ _; simp⟩
  | q + 1, h => by
    obtain ⟨h1, h2⟩ := sum_range q fun r hr => h r (by omega)
    have h3 := h q (by omega)
    show 0 ≤ sumZ f q + f q ∧ sumZ f q + f q ≤ 20 * ((q + 1 : Nat) : Int)
    omega
section
variable {n : Nat} {L : Nat → Nat} {Z : Nat → Nat → Int}
theorem best_range (h : IsBids n L Z) : 0 ≤ bestV n (L 0) Z ∧ bestV n (L 0) Z ≤ 80 := by
  obtain ⟨D, hD, e⟩ := best_is n (L 0) Z
  have h1 := deal_nonneg h.cells hD
  have h2 := h.1.1.2
  rw [← e]
  omega
theorem total_range (h : IsBids n L Z) {D : Nat → Int} (hD : IsDeal n (L 0) D) : 0 ≤ dealT Z D n ∧ dealT Z D n ≤ bestV n (L 0) Z := ⟨(deal_nonneg h.cells hD).1, best_ge hD⟩
theorem twice_range (h : IsBids n L Z) {k : Nat} (hk : k < L 0) : 0 ≤ twiceV n (L 0) Z k ∧ twiceV n (L 0) Z k ≤ 80 := by
  obtain ⟨D, hD, e⟩ := twice_is n Z hk
  have h1 := dealT_range (Z := Z) (D := D) (M := 20) (by omega) n fun i hi hd => h.cells i hi _ (by have := hD.1 i hi; omega)
  have h2 := h.1.1.2
  rw [← e]
  omega
theorem less_range0 (h : IsBids n L Z) {k : Nat} (hk : k < L 0) : 0 ≤ lessV n (L 0) Z k ∧ lessV n (L 0) Z k ≤ bestV n (L 0) Z := ⟨mostT_nonneg _, less_le hk⟩
theorem first_ok (h : IsBids n L Z) : DealOk n L Z n (nth ((bestsL n Z (dealsP (L 0) n)).getD 0 [])) ∧ dealT Z (nth ((bestsL n Z (dealsP (L 0) n)).getD 0 [])) n = bestV n (L 0) Z := by
  have hp := bests_pos (Z := Z) (dealsP_none (m := L 0) n)
  have hin : (bestsL n Z (dealsP (L 0) n)).getD 0 [] ∈ bestsL n Z (dealsP (L 0) n) := by
    rw [List.getD_eq_getElem?_getD, List.getElem?_eq_getElem hp]; exact List.getElem_mem hp
  obtain ⟨h1, h2⟩ := bests_total hin
  refine ⟨⟨⟨h, (dealsP_ok.1 h1).2⟩, rfl⟩, ?_⟩
  rw [h2]
  unfold bestV
  rw [deals_way]
/-- Without the last bidder. -/
theorem front_bids {k : Nat} (h : IsBids (k + 1) L Z) (hk : 1 ≤ k) : IsBids k L Z := ⟨⟨⟨hk, by have := h.1.1.2; omega⟩, h.1.2⟩, fun r hr => h.2 r (by omega)⟩
theorem turn_bids (h : IsBids n L Z) : IsBids (L 0) (fun _ => n) (fun x i => Z i x) := ⟨⟨h.1.2, h.1.1⟩, fun r hr => ⟨rfl, fun k hk => (h.2 k hk).2 r hr⟩⟩
end
end Go.Proofs.Ytaipodnhnekpjaa
