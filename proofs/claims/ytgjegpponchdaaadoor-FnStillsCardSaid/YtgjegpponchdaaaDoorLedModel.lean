/- Where welcome swaps lead, and in how many, in plain mathematics. -/
import Derived.Test.YtgjegpponchdaaaDoorMayModel
import Derived.Test.YtgjegpponchdaaaDoorBlockGiv
import Derived.Test.YtgjegpponchdaaaDoorSwapBack
namespace Go.Proofs.YtgjegpponchdaaaDoor
set_option linter.unusedVariables false
set_option linter.unusedSimpArgs false
open Go.RowKit

/-- To each the own house. -/
def ownL (n : Nat) : List Int := (List.range n).map fun j => ((j : Nat) : Int)
def swapL (n : Nat) (D : List Int) (i k : Nat) : List Int := (List.range n).map (swapF (nth D) i k)
theorem map_nth {n j : Nat} {X : Nat → Int} (h : j < n) : nth ((List.range n).map X) j = X j := by
  unfold nth
  rw [List.getD_eq_getElem?_getD, List.getElem?_map, List.getElem?_range h]
  rfl
theorem swapL_nth {n i k j : Nat} {D : List Int} (h : j < n) : nth (swapL n D i k) j = swapF (nth D) i k j := map_nth h
theorem ownL_nth {n j : Nat} (h : j < n) : nth (ownL n) j = j := map_nth h
/-- t welcome swaps lead to D. -/
inductive Led (n : Nat) (Z : Nat → Nat → Int) : Nat → List Int → Prop
  | start : Led n Z 0 (ownL n)
  | step {t : Nat} {D : List Int} {i k : Nat} : Led n Z t D → i < k → k < n → MayP n Z (nth D) i k → Led n Z (t + 1) (swapL n D i k)
section
variable {n : Nat} {L : Nat → Nat} {Z : Nat → Nat → Int}
theorem own_giv : ownL n ∈ givs n n [] := by
  have hd : IsDiff n n (fun j => ((j : Nat) : Int)) := ⟨fun i hi => ⟨Int.natCast_nonneg _, by show ((i : Nat) : Int) < n; omega⟩, fun i j hij hj e => by have e : ((i : Nat) : Int) = j := e; omega⟩
  obtain ⟨k1, k2, k3⟩ := isDiff_nth hd
  exact (mem_givs n [] (Diff.nil n) (by simp) _).2 ⟨k1, k2, List.nil_prefix⟩
theorem swap_giv (hW : IsWishes n L Z) {D : List Int} {i k : Nat} (hD : D ∈ givs n n []) (hi : i < n) (hk : k < n) : swapL n D i k ∈ givs n n [] := by
  have hg := swap_given (givsN_given hW hD) hi hk
  have hd : IsDiff n n (swapF (nth D) i k) := ⟨fun j hj => by have h := hg.at hj; exact ⟨h.1, by have := h.2; omega⟩, hg.2.2.2⟩
  obtain ⟨k1, k2, k3⟩ := isDiff_nth hd
  exact (mem_givs n [] (Diff.nil n) (by simp) _).2 ⟨k1, k2, List.nil_prefix⟩
theorem led_giv (hW : IsWishes n L Z) {t : Nat} {D : List Int} (h : Led n Z t D) : D ∈ givs n n [] := by
  induction h with
  | start => exact own_giv
  | step h1 h2 h3 h4 ih => exact swap_giv hW ih (by omega) h3

/-- A sum of numbers. -/
def totI (f : Nat → Int) : Nat → Int
  | 0 => 0
  | k + 1 => totI f k + f k
theorem totI_le {f g : Nat → Int} : ∀ {n : Nat}, (∀ j, j < n → f j ≤ g j) → totI f n ≤ totI g n
  | 0, _ => Int.le_refl _
  | n + 1, h => by
    have h1 := totI_le (n := n) (fun j hj => h j (by omega))
    have h2 := h n (by omega)
    show totI f n + f n ≤ totI g n + g n
    omega
theorem totI_drop {f g : Nat → Int} {i k : Nat} (hik : i ≠ k) : ∀ {n : Nat}, (∀ j, j < n → f j ≤ g j) → (i < n → f i + 1 ≤ g i) → (k < n → f k + 1 ≤ g k) → totI f n + (if i < n then 1 else 0) + (if k < n then 1 else 0) ≤ totI g n
  | 0, _, _, _ => by simp [totI]
  | n + 1, h, hi, hk => by
    have h1 := totI_drop hik (n := n) (fun j hj => h j (by omega)) (fun h' => hi (by omega)) (fun h' => hk (by omega))
    have h2 := h n (by omega)
    show totI f n + f n + _ + _ ≤ totI g n + g n
    by_cases ei : i = n
    · subst ei
      have h3 := hi (by omega)
      rw [if_neg (by omega)] at h1
      rw [if_pos (by omega)]
      by_cases h4 : k < i
      · rw [if_pos h4] at h1; rw [if_pos (by omega)]; omega
      · rw [if_neg h4] at h1; rw [if_neg (by omega)]; omega
    · by_cases ek : k = n
      · subst ek
        have h3 := hk (by omega)
        rw [if_neg (show ¬ k < k by omega)] at h1
        rw [if_pos (show k < k + 1 by omega)]
        by_cases h4 : i < k
        · rw [if_pos h4] at h1; rw [if_pos (by omega)]; omega
        · rw [if_neg h4] at h1; rw [if_neg (by omega)]; omega
      · have e1 : (i < n + 1) = (i < n) := propext ⟨fun h => by omega, fun h => by omega⟩
        have e2 : (k < n + 1) = (k < n) := propext ⟨fun h => by omega, fun h => by omega⟩
        simp only [e1, e2]
        omega
/-- How far down the lists all houses stand. -/
noncomputable def rankI (n : Nat) (Z : Nat → Nat → Int) (D : List Int) : Int := totI (fun j => idxF (Z j) (nth D j) n) n
theorem rank_drop {D : List Int} {i k : Nat} (hik : i < k) (hk : k < n) (h : MayP n Z (nth D) i k) : rankI n Z (swapL n D i k) + 2 ≤ rankI n Z D := by
  have hne : i ≠ k := by omega
  have := totI_drop (f := fun j => idxF (Z j) (nth (swapL n D i k) j) n) (g := fun j => idxF (Z j) (nth D j) n) (i := i) (k := k) (by omega) (n := n) (fun j hj => by
    rw [swapL_nth hj]
    by_cases e1 : j = i
    · subst e1; rw [swapF_i]; have := h.1; omega
    · by_cases e2 : j = k
      · subst e2; rw [swapF_k]; have := h.2; omega
      · rw [swapF_o _ e1 e2]; omega) (fun _ => by rw [swapL_nth (by omega), swapF_i]; have := h.1; omega) (fun _ => by rw [swapL_nth hk, swapF_k]; have := h.2; omega)
  rw [if_pos (by omega), if_pos hk] at this
  unfold rankI
  omega
theorem led_rank {t : Nat} {D : List Int} (h : Led n Z t D) : 2 * (t : Int) + rankI n Z D ≤ rankI n Z (ownL n) := by
  induction h with
  | start => omega
  | step h1 h2 h3 h4 ih =>
    have := rank_drop h2 h3 h4
    omega
theorem idx_range (hW : IsWishes n L Z) {D : List Int} (hD : D ∈ givs n n []) {j : Nat} (hj : j < n) : 0 ≤ idxF (Z j) (nth D j) n ∧ idxF (Z j) (nth D j) n ≤ n - 1 := by
  have hg := givsN_given hW hD
  obtain ⟨i, hi, e⟩ := (hW.2 j hj).2.all (r := (nth D j).toNat) (by have := hg.at hj; have h1 := this.1; have h2 := this.2; omega)
  have e' : nth D j = Z j i := by rw [e]; have := (hg.at hj).1; omega
  rw [e', idx_diff (hW.2 j hj).2 hi]
  omega
theorem totI_const (c : Int) : ∀ n : Nat, totI (fun _ => c) n = n * c
  | 0 => by simp [totI]
  | n + 1 => by
    show totI (fun _ => c) n + c = _
    rw [totI_const c n, Int.natCast_add, Int.add_mul]; simp
theorem led_small (hW : IsWishes n L Z) {t : Nat} {D : List Int} (h : Led n Z t D) : 2 * (t : Int) ≤ n * (n - 1) := by
  have h1 := led_rank h
  have h2 : 0 ≤ rankI n Z D := by
    have := totI_le (f := fun _ => 0) (g := fun j => idxF (Z j) (nth D j) n) (n := n) (fun j hj => (idx_range hW (led_giv hW h) hj).1)
    rw [totI_const] at this
    unfold rankI; omega
  have h3 : rankI n Z (ownL n) ≤ n * (n - 1) := by
    have := totI_le (f := fun j => idxF (Z j) (nth (ownL n) j) n) (g := fun _ => (n : Int) - 1) (n := n) (fun j hj => (idx_range hW own_giv hj).2)
    rw [totI_const] at this
    exact this
  omega
theorem led_ten (hW : IsWishes n L Z) {t : Nat} {D : List Int} (h : Led n Z t D) : t ≤ 10 := by
  have h1 := led_small hW h
  have h5 := hW.1.2
  have : (n : Int) * (n - 1) ≤ 5 * 4 := Int.mul_le_mul (by omega) (by have := hW.1.1; omega) (by have := hW.1.1; omega) (by omega)
  omega
theorem greatest {P : Nat → Prop} : ∀ (b : Nat), (∃ t, P t) → (∀ t, P t → t ≤ b) → ∃ t, P t ∧ ∀ s, P s → s ≤ t
  | 0, ⟨t, h⟩, hb => ⟨t, h, fun s hs => by have := hb s hs; omega⟩
  | b + 1, h, hb => by
    by_cases e : P (b + 1)
    · exact ⟨b + 1, e, hb⟩
    · exact greatest b h (fun t ht => by
        have h1 := hb t ht
        by_cases h2 : t = b + 1
        · subst h2; exact absurd ht e
        · omega)
/-- The most swaps that lead to D: -1 if none do. -/
def IsLong (n : Nat) (Z : Nat → Nat → Int) (D : List Int) (x : Int) : Prop := (x = -1 ∧ ∀ t, ¬ Led n Z t D) ∨ ∃ t : Nat, x = t ∧ Led n Z t D ∧ ∀ s, Led n Z s D → s ≤ t
theorem long_uniq {D : List Int} {x y : Int} (hx : IsLong n Z D x) (hy : IsLong n Z D y) : x = y := by
  rcases hx with ⟨e1, h1⟩ | ⟨t, e1, h1, k1⟩
  · rcases hy with ⟨e2, _⟩ | ⟨s, _, h2, _⟩
    · rw [e1, e2]
    · exact absurd h2 (h1 s)
  · rcases hy with ⟨_, h2⟩ | ⟨s, e2, h2, k2⟩
    · exact absurd h1 (h2 t)
    · have a1 := k1 s h2
      have a2 := k2 t h1
      omega
noncomputable def longF (n : Nat) (Z : Nat → Nat → Int) (D : List Int) : Int := @dite _ (∃ x, IsLong n Z D x) (Classical.propDecidable _) (fun h => Classical.choose h) (fun _ => -1)
theorem longF_of {D : List Int} {x : Int} (h : IsLong n Z D x) : longF n Z D = x := by
  unfold longF
  rw [dif_pos ⟨x, h⟩]
  exact long_uniq (Classical.choose_spec (p := fun x => IsLong n Z D x) ⟨x, h⟩) h
theorem giv_place {D : List Int} (h : D ∈ givs n n []) : ∃ i, i < (givs n n []).length ∧ (givs n n []).getD i [] = D := by
  obtain ⟨i, hi, e⟩ := List.getElem_of_mem h
  exact ⟨i, hi, by rw [List.getD_eq_getElem?_getD, List.getElem?_eq_getElem hi]; exact e⟩
theorem giv_same {i j : Nat} (hi : i < (givs n n []).length) (hj : j < (givs n n []).length) (e : (givs n n []).getD i [] = (givs n n []).getD j []) : i = j := by
  rw [List.getD_eq_getElem?_getD, List.getD_eq_getElem?_getD, List.getElem?_eq_getElem hi, List.getElem?_eq_getElem hj] at e
  exact (List.getElem_inj (givs_nodup n [] (Diff.nil n) (by simp))).1 (by simpa using e)
/-- What is told of swaps is so. -/
def Sound (n : Nat) (Z : Nat → Nat → Int) (X : Nat → Int) : Prop := ∀ i, i < (givs n n []).length → X i = -1 ∨ ∃ t : Nat, X i = t ∧ Led n Z t ((givs n n []).getD i [])
/-- A swap more is told too. -/
def ClosedAt (n : Nat) (Z : Nat → Nat → Int) (X : Nat → Int) (i : Nat) (p : Nat × Nat) : Prop := 0 ≤ X i → ∀ j, j < (givs n n []).length → (givs n n []).getD j [] = swapL n ((givs n n []).getD i []) p.1 p.2 → X i + 1 ≤ X j
theorem closed_long (hW : IsWishes n L Z) {X : Nat → Int} {o : Nat} (hs : Sound n Z X) (ho : o < (givs n n []).length) (hoD : (givs n n []).getD o [] = ownL n) (ho0 : 0 ≤ X o)
    (hc : ∀ i, i < (givs n n []).length → ∀ p, p ∈ mayL n Z (nth ((givs n n []).getD i [])) → ClosedAt n Z X i p) : ∀ i, i < (givs n n []).length → X i = longF n Z ((givs n n []).getD i []) := by
  have key : ∀ (t : Nat) (D : List Int), Led n Z t D → ∀ i, i < (givs n n []).length → (givs n n []).getD i [] = D → (t : Int) ≤ X i := by
    intro t D h
    induction h with
    | start =>
      intro i hi e
      have := giv_same hi ho (e.trans hoD.symm)
      rw [this]; simpa using ho0
    | @step t D p k h1 h2 h3 h4 ih =>
      intro i hi e
      obtain ⟨i', hi', e'⟩ := giv_place (led_giv hW h1)
      have h5 := ih i' hi' e'
      have h6 := hc i' hi' (p, k) (mem_mayL.2 ⟨h2, h3, by rw [e']; exact h4⟩) (by omega) i hi (by rw [e']; exact e)
      omega
  intro i hi
  refine (longF_of ?_).symm
  rcases hs i hi with e | ⟨t, e, h⟩
  · exact .inl ⟨e, fun t ht => by have := key t _ ht i hi rfl; omega⟩
  · exact .inr ⟨t, e, h, fun s hs => by have := key s _ hs i hi rfl; omega⟩
end
end Go.Proofs.YtgjegpponchdaaaDoor
