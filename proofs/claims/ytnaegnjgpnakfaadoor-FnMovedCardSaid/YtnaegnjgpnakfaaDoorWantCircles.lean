/- All circles of wants that begin so, in plain mathematics, as the model finds them. -/
import Derived.Test.YtnaegnjgpnakfaaDoorWantModel
import Derived.Test.YtnaegnjgpnakfaaDoorAppendRows
namespace Go.Proofs.YtnaegnjgpnakfaaDoor
set_option linter.unusedVariables false
set_option linter.unusedSimpArgs false
open Go.RowKit

/-- x may come next. -/
def GoesOn (W : Nat → Int) (B : List Int) (x : Nat) : Prop := (∀ i, i < B.length → nth B i ≠ x ∧ nth B 0 < x) ∧ (B.length = 0 ∨ WantsB W (nth B (B.length - 1)).toNat x = true)
noncomputable def circ1 (n : Nat) (W : Nat → Int) (B : List Int) : List (List Int) := if tt (IsCirc n W B.length (nth B)) = true then [B] else []
/-- The circles that begin so, with at most f people more. -/
noncomputable def circs (n : Nat) (W : Nat → Int) : Nat → List Int → List (List Int)
  | 0, B => circ1 n W B
  | f + 1, B => circ1 n W B ++ (List.range n).flatMap fun (x : Nat) => if tt (GoesOn W B x) = true then circs n W f (B ++ [(x : Int)]) else []
/-- Those whose next one is below k. -/
noncomputable def circsTo (n : Nat) (W : Nat → Int) (f : Nat) (B : List Int) (k : Nat) : List (List Int) := circ1 n W B ++ (List.range k).flatMap fun (x : Nat) => if tt (GoesOn W B x) = true then circs n W f (B ++ [(x : Int)]) else []
section
variable {n f k : Nat} {W : Nat → Int} {B : List Int}
theorem circs_succ : circs n W (f + 1) B = circsTo n W f B n := rfl
theorem circsTo_zero : circsTo n W f B 0 = circ1 n W B := by unfold circsTo; simp
theorem circsTo_no (h : ¬ GoesOn W B k) : circsTo n W f B (k + 1) = circsTo n W f B k := by
  unfold circsTo
  rw [List.range_succ, List.flatMap_append]
  simp [tt_no h]
theorem circsTo_yes (h : GoesOn W B k) : circsTo n W f B (k + 1) = circsTo n W f B k ++ circs n W f (B ++ [(k : Int)]) := by
  unfold circsTo
  rw [List.range_succ, List.flatMap_append, List.append_assoc]
  simp [tt_of h]
theorem circ1_le : (circ1 n W B).length ≤ 1 := by
  unfold circ1
  by_cases h : tt (IsCirc n W B.length (nth B)) = true
  · rw [if_pos h]; simp
  · rw [if_neg h]; simp
theorem flatR_le {g : Nat → List (List Int)} {q : Nat} : ∀ {l : List Nat}, (∀ x, x ∈ l → (g x).length ≤ q) → (l.flatMap g).length ≤ l.length * q
  | [], _ => by simp
  | x :: l, h => by
    rw [List.flatMap_cons, List.length_append, List.length_cons, Nat.add_mul]
    have h1 := h x (by simp)
    have h2 := flatR_le (g := g) (q := q) (l := l) fun y hy => h y (by simp [hy])
    omega
theorem circs_le (hn : n ≤ 6) : ∀ (f : Nat) (B : List Int), (circs n W f B).length ≤ 7 ^ f
  | 0, B => circ1_le
  | f + 1, B => by
    have h1 := circ1_le (n := n) (W := W) (B := B)
    have h2 := flatR_le (g := fun (x : Nat) => if tt (GoesOn W B x) = true then circs n W f (B ++ [(x : Int)]) else []) (q := 7 ^ f) (l := List.range n) (fun x _ => by
      by_cases h : tt (GoesOn W B x) = true
      · simp only [h, if_true]; exact circs_le hn f _
      · simp [h])
    rw [List.length_range] at h2
    have h3 : n * 7 ^ f ≤ 6 * 7 ^ f := Nat.mul_le_mul_right _ hn
    have h4 := Nat.pow_pos (a := 7) (n := f) (by omega)
    show (circ1 n W B ++ _).length ≤ 7 ^ (f + 1)
    rw [List.length_append, Nat.pow_succ]
    omega
theorem circsTo_le (hn : n ≤ 6) (hk : k ≤ n) : (circsTo n W f B k).length ≤ 7 ^ (f + 1) := by
  have h1 := circ1_le (n := n) (W := W) (B := B)
  have h2 := flatR_le (g := fun (x : Nat) => if tt (GoesOn W B x) = true then circs n W f (B ++ [(x : Int)]) else []) (q := 7 ^ f) (l := List.range k) (fun x _ => by
    by_cases h : tt (GoesOn W B x) = true
    · simp only [h, if_true]; exact circs_le hn f _
    · simp [h])
  rw [List.length_range] at h2
  have h3 : k * 7 ^ f ≤ 6 * 7 ^ f := Nat.mul_le_mul_right _ (by omega)
  have h4 := Nat.pow_pos (a := 7) (n := f) (by omega)
  unfold circsTo
  rw [List.length_append, Nat.pow_succ]
  omega
theorem goes_new (h : GoesOn W B k) : ¬ (k : Int) ∈ B := fun hm => by
  obtain ⟨j, hj, e⟩ := mem_nth.1 hm
  exact (h.1 j hj).1 e
end
end Go.Proofs.YtnaegnjgpnakfaaDoor
