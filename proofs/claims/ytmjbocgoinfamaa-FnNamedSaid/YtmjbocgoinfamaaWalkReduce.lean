/- Where no round gains, changes behind each other are worth no more than the best way. -/
import Derived.Test.YtmjbocgoinfamaaWalkModel
import Derived.Test.YtmjbocgoinfamaaBestBack
import Derived.Test.YtmjbocgoinfamaaGainModel
namespace Go.Proofs.Ytmjbocgoinfamaa
set_option linter.unusedVariables false

/-- A round trip through different ones, from anywhere, is worth at most as much as staying. -/
def NoGain (n : Nat) (Z : Nat → Nat → Int) : Prop := ∀ (x : Int) (C : List Int), (∀ y, y ∈ x :: C → 0 ≤ y ∧ y < n) → (x :: C).Nodup → along Z (x :: C ++ [x]) ≤ p12 (x :: C).length
theorem ring_along {n : Nat} {Z : Nat → Nat → Int} (h0 : gaining n Z = []) {a : Int} {t : List Int} (h : Diff n (a :: t)) (ht : 1 ≤ t.length) (hg : ∀ x, x ∈ t → a < x) : along Z (a :: t ++ [a]) ≤ p12 (a :: t).length := by
  have hr : IsRing n (a :: t).length (nth (a :: t)) := ring_mem.2 ⟨h, ht, hg⟩
  have hle := diff_le h
  have hno : ¬ p12 n < roundV n Z (a :: t).length (nth (a :: t)) := fun e => by
    have := mem_gaining.2 (show Gains n Z (a :: t) from ⟨hr, e⟩)
    rw [h0] at this
    simp at this
  rw [roundV_along] at hno
  have e1 : ((n : Int) - ((a :: t).length + 1 : Nat) + 1).toNat = n - (a :: t).length := by omega
  rw [e1] at hno
  have e2 : p12 n = p12 (n - (a :: t).length) * p12 (a :: t).length := by rw [← p12_add, Nat.sub_add_cancel hle]
  rw [e2] at hno
  have hp := p12_pos (n - (a :: t).length)
  exact Int.le_of_mul_le_mul_left (Int.not_lt.1 hno) hp
theorem least_split : ∀ (l : List Int), l ≠ [] → ∃ U a V, l = U ++ a :: V ∧ ∀ x, x ∈ l → a ≤ x
  | [], h => absurd rfl h
  | [b], _ => ⟨[], b, [], rfl, fun x hx => by simp at hx; omega⟩
  | b :: c :: l, _ => by
    obtain ⟨U, a, V, e, ha⟩ := least_split (c :: l) (by simp)
    by_cases hb : b ≤ a
    · refine ⟨[], b, c :: l, rfl, fun x hx => ?_⟩
      rcases List.mem_cons.1 hx with h | h
      · omega
      · have := ha x h; omega
    · refine ⟨b :: U, a, V, by rw [e]; rfl, fun x hx => ?_⟩
      rcases List.mem_cons.1 hx with h | h
      · omega
      · exact ha x h
theorem no_gain {n : Nat} {Z : Nat → Nat → Int} (hd : ∀ i, i < n → Z i i = 12) (h0 : gaining n Z = []) : NoGain n Z := by
  intro x C hm hnd
  obtain ⟨U, a, V, e, ha⟩ := least_split (x :: C) (by simp)
  have hperm : (a :: (V ++ U)).Perm (x :: C) := by
    rw [e]
    have h1 : (a :: (V ++ U)).Perm (a :: (U ++ V)) := List.Perm.cons a List.perm_append_comm
    exact h1.trans List.perm_middle.symm
  have hnd' : (a :: (V ++ U)).Nodup := hperm.symm.nodup hnd
  have hlen : (a :: (V ++ U)).length = (x :: C).length := hperm.length_eq
  have hdiff : Diff n (a :: (V ++ U)) := diff_mem.2 ⟨fun y hy => hm y (hperm.mem_iff.1 hy), hnd'⟩
  have hgt : ∀ y, y ∈ V ++ U → a < y := fun y hy => by
    have h1 := ha y (hperm.mem_iff.1 (by simp at hy ⊢; exact .inr hy))
    have h2 : y ≠ a := fun e' => (List.nodup_cons.1 hnd').1 (by rw [← e']; exact hy)
    omega
  have hrot : along Z (x :: C ++ [x]) = along Z (a :: (V ++ U) ++ [a]) := by
    rw [e]
    cases U with
    | nil =>
      have : x = a := by simp at e; exact e.1
      subst this
      simp
    | cons u U =>
      have : x = u := by simp at e; exact e.1
      subst this
      have e1 : along Z (x :: U ++ a :: V ++ [x]) = along Z (x :: U ++ [a]) * along Z (a :: V ++ [x]) := by
        have h := along_join Z (x :: U) a (V ++ [x])
        simpa using h
      have e2 : along Z (a :: (V ++ x :: U) ++ [a]) = along Z (a :: V ++ [x]) * along Z (x :: U ++ [a]) := by
        have h := along_join Z (a :: V) x (U ++ [a])
        simpa using h
      rw [e1, e2, Int.mul_comm]
  rw [hrot, ← hlen]
  by_cases hz : 1 ≤ (V ++ U).length
  · exact ring_along h0 hdiff hz hgt
  · have hnil : V ++ U = [] := List.eq_nil_of_length_eq_zero (by omega)
    rw [hnil]
    have hr := hm a (hperm.mem_iff.1 (by simp))
    show Z a.toNat a.toNat * 1 ≤ 1 * 12
    rw [hd _ (by omega)]; decide
/-- A list with something twice has a round trip through different ones. -/
theorem split_dup : ∀ (W : List Int), ¬ W.Nodup → ∃ A x C E, W = A ++ x :: C ++ x :: E ∧ (x :: C).Nodup
  | [], h => absurd List.nodup_nil h
  | w :: W, h => by
    by_cases hW : W.Nodup
    · have hw : w ∈ W := Classical.byContradiction fun hw => h (List.nodup_cons.2 ⟨hw, hW⟩)
      obtain ⟨C, E, e⟩ := List.append_of_mem hw
      refine ⟨[], w, C, E, by rw [e]; rfl, ?_⟩
      rw [e, List.nodup_append] at hW
      obtain ⟨h1, h2, h3⟩ := hW
      exact List.nodup_cons.2 ⟨fun hc => h3 w hc w (by simp) rfl, h1⟩
    · obtain ⟨A, x, C, E, e, hn⟩ := split_dup W hW
      exact ⟨w :: A, x, C, E, by rw [e]; rfl, hn⟩
theorem last_app (l : List Int) (x : Int) (E : List Int) : (l ++ x :: E).getLast? = (x :: E).getLast? := by
  rw [List.getLast?_append]
  cases h : (x :: E).getLast? with
  | none => simp at h
  | some y => rfl
/-- A walk is worth no more than a way, where staying is worth 12. -/
theorem walk_way {n : Nat} {Z : Nat → Nat → Int} (hZ : ∀ i k, i < n → k < n → 0 ≤ Z i k) (h0 : NoGain n Z) {i k : Int} : ∀ (s : Nat) (W : List Int), W.length ≤ s → W.head? = some i → W.getLast? = some k → (∀ x, x ∈ W → 0 ≤ x ∧ x < n) →
    ∃ P : List Int, P.Nodup ∧ P.head? = some i ∧ P.getLast? = some k ∧ (∀ x, x ∈ P → 0 ≤ x ∧ x < n) ∧ P.length ≤ W.length ∧ along Z W * p12 P.length ≤ along Z P * p12 W.length
  | 0, W, hl, hh, _, _ => by
    have : W = [] := List.eq_nil_of_length_eq_zero (by omega)
    subst this
    simp at hh
  | s + 1, W, hl, hh, ht, hm => by
    by_cases hnd : W.Nodup
    · exact ⟨W, hnd, hh, ht, hm, Nat.le_refl _, Int.le_refl _⟩
    · obtain ⟨A, x, C, E, rfl, hC⟩ := split_dup W hnd
      have hmx : ∀ y, y ∈ x :: C → 0 ≤ y ∧ y < n := fun y hy => hm y (by simp at hy ⊢; rcases hy with h | h <;> simp [h])
      have hmW : ∀ y, y ∈ A ++ x :: E → 0 ≤ y ∧ y < n := fun y hy => hm y (by simp at hy ⊢; rcases hy with h | h | h <;> simp [h])
      have hlW : (A ++ x :: C ++ x :: E).length = (A ++ x :: E).length + (x :: C).length := by simp; omega
      have hh' : (A ++ x :: E).head? = some i := by
        cases A with
        | nil => simpa using hh
        | cons b A => simpa using hh
      have ht' : (A ++ x :: E).getLast? = some k := by
        rw [last_app] at ht ⊢
        exact ht
      obtain ⟨P, hP, h1, h2, h3, h4, h5⟩ := walk_way hZ h0 s (A ++ x :: E) (by simp at hlW hl ⊢; omega) hh' ht' hmW
      refine ⟨P, hP, h1, h2, h3, by omega, ?_⟩
      have e1 : along Z (A ++ x :: C ++ x :: E) = along Z (A ++ [x]) * (along Z (x :: C ++ [x]) * along Z (x :: E)) := by
        have g1 := along_join Z A x (C ++ x :: E)
        have g2 := along_join Z (x :: C) x E
        rw [show A ++ x :: C ++ x :: E = A ++ x :: (C ++ x :: E) by simp, g1, ← g2]
        rfl
      have e2 : along Z (A ++ x :: E) = along Z (A ++ [x]) * along Z (x :: E) := along_join _ _ _ _
      have hA : 0 ≤ along Z (A ++ [x]) := along_nonneg hZ _ (fun y hy => hm y (by simp at hy ⊢; rcases hy with h | h <;> simp [h]))
      have hE : 0 ≤ along Z (x :: E) := along_nonneg hZ _ (fun y hy => hm y (by simp at hy ⊢; rcases hy with h | h <;> simp [h]))
      have hc := h0 x C hmx hC
      have h6 : along Z (A ++ x :: C ++ x :: E) ≤ p12 (x :: C).length * along Z (A ++ x :: E) := by
        rw [e1, e2]
        have := Int.mul_le_mul_of_nonneg_right hc hE
        have := Int.mul_le_mul_of_nonneg_left this hA
        rw [Int.mul_left_comm (p12 _)]
        exact this
      rw [hlW, p12_add]
      have h7 := Int.mul_le_mul_of_nonneg_right h6 (Int.le_of_lt (p12_pos P.length))
      have h8 := Int.mul_le_mul_of_nonneg_left h5 (Int.le_of_lt (p12_pos (x :: C).length))
      refine Int.le_trans h7 ?_
      rw [Int.mul_assoc]
      refine Int.le_trans h8 ?_
      rw [Int.mul_comm (p12 (A ++ x :: E).length), ← Int.mul_assoc, ← Int.mul_assoc, Int.mul_comm (p12 _) (along Z P)]
      exact Int.le_refl _
end Go.Proofs.Ytmjbocgoinfamaa
