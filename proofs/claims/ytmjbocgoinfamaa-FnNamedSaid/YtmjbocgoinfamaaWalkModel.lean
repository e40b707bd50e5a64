/- Changes behind each other as walks; where no round gains, a walk is worth no more than a way. -/
import Derived.Test.YtmjbocgoinfamaaBackModel
import Derived.Test.YtmjbocgoinfamaaBestModel
import Derived.Test.YtmjbocgoinfamaaHoldModel
namespace Go.Proofs.Ytmjbocgoinfamaa
set_option linter.unusedVariables false

theorem along_join (Z : Nat → Nat → Int) : ∀ (l : List Int) (x : Int) (r : List Int), along Z (l ++ x :: r) = along Z (l ++ [x]) * along Z (x :: r)
  | [], x, r => by simp [along]
  | [a], x, r => by
    show Z a.toNat x.toNat * along Z (x :: r) = Z a.toNat x.toNat * 1 * along Z (x :: r)
    rw [Int.mul_one]
  | a :: b :: l, x, r => by
    show Z a.toNat b.toNat * along Z ((b :: l) ++ x :: r) = Z a.toNat b.toNat * along Z ((b :: l) ++ [x]) * along Z (x :: r)
    rw [along_join Z (b :: l) x r, Int.mul_assoc]
theorem along_nonneg {n : Nat} {Z : Nat → Nat → Int} (hZ : ∀ i k, i < n → k < n → 0 ≤ Z i k) : ∀ l : List Int, (∀ x, x ∈ l → 0 ≤ x ∧ x < n) → 0 ≤ along Z l
  | [], _ => by show (0 : Int) ≤ 1; decide
  | [_], _ => by show (0 : Int) ≤ 1; decide
  | x :: y :: l, h => by
    have hx := h x (by simp)
    have hy := h y (by simp)
    exact Int.mul_nonneg (hZ _ _ (by omega) (by omega)) (along_nonneg hZ (y :: l) (fun z hz => h z (List.mem_cons_of_mem _ hz)))

/-- A walk of s changes from i to y. -/
structure Walk (n : Nat) (i y : Int) (s : Nat) (W : List Int) : Prop where
  len : W.length = s + 1
  first : W.head? = some i
  last : W.getLast? = some y
  mem : ∀ x, x ∈ W → 0 ≤ x ∧ x < n

theorem walk_le {n : Nat} {Z : Nat → Nat → Int} (hZ : ∀ i k, i < n → k < n → 0 ≤ Z i k) {i : Nat} : ∀ (s : Nat) (y : Nat) (W : List Int), Walk n i y s W → along Z W ≤ stepV Z n i s y
  | 0, y, W, h => by
    have hl := h.len
    match W, hl with
    | [x], _ =>
      have h1 := h.first
      have h2 := h.last
      simp at h1 h2
      have : y = i := by omega
      show (1 : Int) ≤ if y = i then 1 else 0
      rw [if_pos this]; decide
  | s + 1, y, W, h => by
    have hl := h.len
    obtain ⟨V, z, rfl⟩ : ∃ V z, W = V ++ [z] := ⟨W.dropLast, W.getLast (by intro e; rw [e] at hl; simp at hl), (List.dropLast_concat_getLast _).symm⟩
    have hz : z = y := by have := h.last; simpa using this
    subst hz
    obtain ⟨U, x, rfl⟩ : ∃ U x, V = U ++ [x] := ⟨V.dropLast, V.getLast (by intro e; rw [e] at hl; simp at hl), (List.dropLast_concat_getLast _).symm⟩
    have hx := h.mem x (by simp)
    have hy := h.mem (y : Int) (by simp)
    obtain ⟨x', rfl⟩ := Int.eq_ofNat_of_zero_le hx.1
    have hw : Walk n i x' s (U ++ [(x' : Int)]) := ⟨by simp at hl ⊢; omega, by
      have := h.first
      cases U with
      | nil => simpa using this
      | cons u U => simpa using this, by simp, fun z hz => h.mem z (by simp at hz ⊢; rcases hz with e | e <;> simp [e])⟩
    have ih := walk_le hZ s x' _ hw
    rw [show U ++ [(x' : Int)] ++ [(y : Int)] = U ++ [(x' : Int), (y : Int)] by simp, along_snoc]
    have h1 : (fun x => stepV Z n i s x * Z x y) x' ≤ rmax (fun x => stepV Z n i s x * Z x y) n := rmax_ge (by omega)
    have h2 : along Z (U ++ [(x' : Int)]) * Z x' y ≤ stepV Z n i s x' * Z x' y := Int.mul_le_mul_of_nonneg_right ih (hZ _ _ (by omega) (by omega))
    exact Int.le_trans h2 h1
theorem rmax_at {f : Nat → Int} : ∀ (k : Nat), 0 < rmax f k → ∃ j, j < k ∧ f j = rmax f k
  | 0, h => by simp [rmax] at h
  | k + 1, h => by
    by_cases e : rmax f k ≤ f k
    · exact ⟨k, by omega, by show f k = max (rmax f k) (f k); omega⟩
    · have h1 : rmax f (k + 1) = rmax f k := by show max (rmax f k) (f k) = _; omega
      rw [h1] at h
      obtain ⟨j, hj, e2⟩ := rmax_at k h
      exact ⟨j, by omega, by rw [h1]; exact e2⟩
theorem walk_some {n : Nat} {Z : Nat → Nat → Int} (hZ : ∀ i k, i < n → k < n → 0 ≤ Z i k) {i : Nat} (hi : i < n) : ∀ (s : Nat) (y : Nat), y < n → 0 < stepV Z n i s y → ∃ W, Walk n i y s W ∧ along Z W = stepV Z n i s y
  | 0, y, hy, h => by
    have e : y = i := by
      by_cases e : y = i
      · exact e
      · exfalso; simp [stepV, e] at h
    subst e
    exact ⟨[(y : Int)], ⟨rfl, rfl, rfl, fun x hx => by simp at hx; omega⟩, by simp [along, stepV]⟩
  | s + 1, y, hy, h => by
    obtain ⟨x, hx, e⟩ := rmax_at (f := fun x => stepV Z n i s x * Z x y) n h
    have h1 : 0 < stepV Z n i s x * Z x y := by
      have : stepV Z n i s x * Z x y = stepV Z n i (s + 1) y := e
      omega
    have h2 : 0 < stepV Z n i s x := by
      have hz := hZ x y hx hy
      rcases Int.lt_or_le 0 (stepV Z n i s x) with h' | h'
      · exact h'
      · have := Int.mul_nonpos_of_nonpos_of_nonneg h' hz
        omega
    obtain ⟨W, hW, eW⟩ := walk_some hZ hi s x hx h2
    obtain ⟨U, z, rfl⟩ : ∃ U z, W = U ++ [z] := ⟨W.dropLast, W.getLast (by intro e; have := hW.len; rw [e] at this; simp at this), (List.dropLast_concat_getLast _).symm⟩
    have hz : z = x := by have := hW.last; simpa using this
    subst hz
    refine ⟨U ++ [(x : Int), (y : Int)], ⟨by have := hW.len; simp at this ⊢; omega, ?_, by simp, fun z hz => ?_⟩, ?_⟩
    · have := hW.first
      cases U with
      | nil => simpa using this
      | cons u U => simpa using this
    · simp at hz
      rcases hz with hz | hz | hz
      · exact hW.mem z (by simp [hz])
      · exact hW.mem z (by simp [hz])
      · omega
    · rw [along_snoc, eW]
      exact e
end Go.Proofs.Ytmjbocgoinfamaa
