/- Where no round gains, the prices that are found hold. -/
import Derived.Test.YtakipaehoeapcaaStepBest
import Derived.Test.YtakipaehoeapcaaSpecPriceFind
namespace Go.Proofs.Ytakipaehoeapcaa
set_option linter.unusedVariables false

theorem found_step {n : Nat} {L : Nat → Nat} {Z : Nat → Nat → Int} (hr : IsRates n L Z) (h0 : gaining n Z = []) {i k : Nat} (hi : i < n) (hk : k < n) : Z i k * foundF Z n k ≤ 12 * foundF Z n i := by
  have hZ : ∀ i k, i < n → k < n → 0 ≤ Z i k := fun i k hi hk => by have := ((hr.2 i hi).2 k hk).1; omega
  have hn := hr.1.1
  have hpos := (foundF_range hr hk).1
  obtain ⟨W, hW, eW⟩ := walk_some hZ hk (n - 1) 0 (by omega) (show 0 < stepV Z n k (n - 1) 0 from hpos)
  have hne : W ≠ [] := fun e => by have := hW.len; rw [e] at this; simp at this
  obtain ⟨x, t, rfl⟩ : ∃ x t, W = x :: t := by
    cases W with
    | nil => exact absurd rfl hne
    | cons x t => exact ⟨x, t, rfl⟩
  have hx : x = (k : Int) := by have := hW.first; simpa using this
  subst hx
  have e1 : along Z ((i : Int) :: (k : Int) :: t) = Z i k * foundF Z n k := by
    show Z i k * along Z ((k : Int) :: t) = _
    rw [eW]; rfl
  have hm : ∀ y, y ∈ (i : Int) :: (k : Int) :: t → 0 ≤ y ∧ y < n := fun y hy => by
    rcases List.mem_cons.1 hy with h | h
    · subst h; omega
    · exact hW.mem y h
  have hlast : ((i : Int) :: (k : Int) :: t).getLast? = some ((0 : Nat) : Int) := (last_app [(i : Int)] (k : Int) t).trans hW.last
  obtain ⟨P, hP, h1, h2, h3, h4, h5⟩ := walk_way hZ (no_gain (fun i hi => ((hr.2 i hi).2 i hi).2 rfl) h0) ((i : Int) :: (k : Int) :: t).length ((i : Int) :: (k : Int) :: t) (Nat.le_refl _) rfl hlast hm
  have hle : P.length ≤ n := diff_le (diff_mem.2 ⟨h3, hP⟩)
  have h6 := pad_walk hZ (k := 0) (by omega) (((hr.2 0 (by omega)).2 0 (by omega)).2 rfl) h1 h2 h3 (s := n - 1) (by omega)
  have hl : ((i : Int) :: (k : Int) :: t).length = n + 1 := by have := hW.len; simp at this ⊢; omega
  rw [e1, hl] at h5
  have en : n - 1 + 1 - P.length = n - P.length := by omega
  rw [en] at h6
  have hf : stepV Z n i (n - 1) 0 = foundF Z n i := rfl
  rw [hf] at h6
  have e2 : p12 n = p12 (n - P.length) * p12 P.length := by rw [← p12_add, Nat.sub_add_cancel hle]
  have hp1 := p12_pos (n - P.length)
  have hp2 := p12_pos n
  have hp3 := p12_pos (n + 1)
  refine Int.le_of_mul_le_mul_right ?_ hp2
  have g1 := Int.mul_le_mul_of_nonneg_right h5 (Int.le_of_lt hp1)
  have g2 := Int.mul_le_mul_of_nonneg_right h6 (Int.le_of_lt hp3)
  have e3 : Z i k * foundF Z n k * p12 n = Z i k * foundF Z n k * p12 P.length * p12 (n - P.length) := by
    rw [e2, Int.mul_assoc (Z i k * foundF Z n k), Int.mul_comm (p12 P.length)]
  have e4 : along Z P * p12 (n + 1) * p12 (n - P.length) = p12 (n - P.length) * along Z P * p12 (n + 1) := by
    rw [Int.mul_comm _ (p12 (n - P.length)), Int.mul_assoc]
  have e5 : foundF Z n i * p12 (n + 1) = 12 * foundF Z n i * p12 n := by
    show foundF Z n i * (p12 n * 12) = _
    rw [Int.mul_comm (p12 n), ← Int.mul_assoc, Int.mul_comm 12]
  rw [e3]
  refine Int.le_trans g1 ?_
  rw [e4]
  refine Int.le_trans g2 ?_
  rw [e5]
  exact Int.le_refl _
theorem found_le {n : Nat} {L : Nat → Nat} {Z : Nat → Nat → Int} (hr : IsRates n L Z) {i : Nat} : foundF Z n i ≤ 1000000000 := by
  have h := (stepV_le (T := Z) (n := n) (i := i) (fun x y hx hy => by have := ((hr.2 x hx).2 y hy).1; omega) (n - 1) 0 (by have := hr.1.1; omega)).2
  have hn := hr.1
  have h4 : n - 1 = 1 ∨ n - 1 = 2 ∨ n - 1 = 3 ∨ n - 1 = 4 := by omega
  unfold foundF
  rcases h4 with e | e | e | e <;> rw [e] at h ⊢ <;> omega
theorem found_holds {n : Nat} {L : Nat → Nat} {Z : Nat → Nat → Int} (h : FindOk n L Z) : HoldsOk n L Z n (leastF (foundF Z n) n) := by
  have hr := h.1
  have h0 := List.eq_nil_of_length_eq_zero h.2
  refine ⟨⟨⟨hr, hr.1, fun k hk => leastF_range hk fun j hj => ⟨(foundF_range hr hj).1, found_le hr⟩⟩, rfl⟩, fun i hi k hk => ?_⟩
  have hi1 := leastF_mul hi (foundF_range hr hi).1
  have hk1 := leastF_mul hk (foundF_range hr hk).1
  have hs := found_step hr h0 hi hk
  have hpi := (foundF_range hr hi).1
  have hg : 0 < (gcdT (foundF Z n) n : Int) := by
    rcases Nat.eq_zero_or_pos (gcdT (foundF Z n) n) with e | e
    · rw [e] at hi1; simp at hi1; omega
    · omega
  refine Int.le_of_mul_le_mul_right ?_ hg
  rw [Int.mul_assoc, hk1, Int.mul_assoc, hi1]
  exact hs
end Go.Proofs.Ytakipaehoeapcaa
