/- What WantCircles and WantOn answer, in plain mathematics. -/
import Derived.Test.YtamglhpgdaoaoaaPacksModel
import Derived.Test.YtamglhpgdaoaoaaL6wGiven
namespace Go.Proofs.Ytamglhpgdaoaoaa
set_option linter.unusedVariables false
set_option linter.unusedSimpArgs false
open Go.RowKit

/-- What WantCircles answers. -/
noncomputable def circsA (n : Nat) (W : Nat → Int) (k : Int) : List (List Int) := if tt (WantK n W k) = true then circs n W k.toNat [] else []
section
variable {n : Nat} {W : Nat → Int} {k : Int}
theorem circsA_yes (h : WantK n W k) : circsA n W k = circs n W k.toNat [] := by unfold circsA; rw [tt_of h]; rfl
theorem circsA_no (h : ¬ WantK n W k) : circsA n W k = [] := by unfold circsA; rw [tt_no h]; rfl
theorem tot_le {L : Nat → Nat} {c : Nat} : ∀ (m : Nat), (∀ i, i < m → L i ≤ c) → tot L m ≤ m * c
  | 0, _ => by simp [tot]
  | m + 1, h => by
    have ih := tot_le m fun i hi => h i (by omega)
    have h1 := h m (by omega)
    show tot L m + L m ≤ (m + 1) * c
    rw [Nat.add_mul]; omega
theorem circs_at {f r : Nat} (h : r < (circs n W f []).length) : IsCirc n W ((circs n W f []).getD r []).length (nth ((circs n W f []).getD r [])) ∧ ((circs n W f []).getD r []).length ≤ f := by
  refine mem_circs.1 ?_
  rw [List.getD_eq_getElem?_getD, List.getElem?_eq_getElem h]
  exact List.getElem_mem h
theorem circsA_small (n : Nat) (W : Nat → Int) (k : Int) : (circsA n W k).length ≤ 1048576 ∧ tot (lenL (circsA n W k)) (circsA n W k).length ≤ 1048576 := by
  by_cases h : WantK n W k
  · rw [circsA_yes h]
    have h1 := circs_small (n := n) (W := W) h.1.1.2 k.toNat
    have h2 := tot_le (L := lenL (circs n W k.toNat [])) (c := 6) (circs n W k.toNat []).length fun i hi => by
      obtain ⟨h3, _⟩ := circs_at hi
      have := diff_le h3.1
      have := h.1.1.2
      unfold lenL; omega
    omega
  · rw [circsA_no h]; simp [tot]
/-- The people of the first i circles. -/
def onTo (CC : List (List Int)) (i : Nat) : Nat := unionL (CC.take i) 0
theorem union_snoc : ∀ {P : List (List Int)} {c : List Int} {U : Nat}, unionL (P ++ [c]) U = unionL P U ||| setL c
  | [], _, _ => rfl
  | d :: P, c, U => union_snoc (P := P)
theorem onTo_succ {CC : List (List Int)} {i : Nat} (h : i < CC.length) : onTo CC (i + 1) = onTo CC i ||| setL (CC.getD i []) := by
  unfold onTo
  rw [take_snoc h, union_snoc]
theorem union_lt : ∀ {P : List (List Int)} {U : Nat}, (∀ c, c ∈ P → IsCirc n W c.length (nth c)) → U < 2 ^ n → unionL P U < 2 ^ n
  | [], _, _, h => h
  | c :: P, U, hc, h => union_lt (P := P) (fun d hd => hc d (by simp [hd])) (Nat.or_lt_two_pow h (setN_lt fun j hj => (hc c (by simp)).1.1 j hj))
theorem onTo_lt {f i : Nat} : onTo (circs n W f []) i < 2 ^ n :=
  union_lt (fun c hc => (mem_circs.1 (List.mem_of_mem_take hc)).1) (Nat.two_pow_pos n)
theorem setN_part {C : Nat → Int} {m : Nat} (h : ∀ j, j < m → 0 ≤ C j ∧ C j < n) {U k : Nat} (hU : U < 2 ^ n) (hk : k ≤ m) : U ||| setN C k < 2 ^ n := Nat.or_lt_two_pow hU (setN_lt fun j hj => h j (by omega))
/-- What WantOn answers. -/
noncomputable def onAns (n : Nat) (W : Nat → Int) : Nat := if tt (IsWants n W) = true then onTo (circs n W n []) (circs n W n []).length else 0
theorem onAns_yes (h : IsWants n W) : onAns n W = onTo (circs n W n []) (circs n W n []).length := by unfold onAns; rw [tt_of h]; rfl
theorem onAns_no (h : ¬ IsWants n W) : onAns n W = 0 := by unfold onAns; rw [tt_no h]; rfl
theorem onAns_bit (h : IsWants n W) {y : Nat} : (onAns n W).testBit y = true ↔ ∃ c, IsCirc n W c.length (nth c) ∧ (setL c).testBit y = true := by
  rw [onAns_yes h]
  unfold onTo
  rw [List.take_length, union_bit]
  constructor
  · rintro (h1 | ⟨c, hc, h1⟩)
    · rw [Nat.zero_testBit] at h1; cases h1
    · exact ⟨c, (mem_circs.1 hc).1, h1⟩
  · rintro ⟨c, hc, h1⟩
    exact .inr ⟨c, mem_circs.2 ⟨hc, diff_le hc.1⟩, h1⟩
end
end Go.Proofs.Ytamglhpgdaoaoaa
