/- All deals that begin so, with how many of each item are left, in plain mathematics. -/
import Derived.Test.YtopoeeahociohaaBidModel
namespace Go.Proofs.Ytopoeeahociohaa
set_option linter.unusedVariables false
set_option linter.unusedSimpArgs false
open Go.RowKit

/-- One of the item k less. -/
def lessX (X : Nat → Int) (k j : Nat) : Int := if j = k then X j - 1 else X j
/-- All deals of f bidders more, in the order of lists. -/
def deals (m : Nat) : Nat → List Int → (Nat → Int) → List (List Int)
  | 0, B, _ => [B]
  | f + 1, B, X => deals m f (B ++ [-1]) X ++ (List.range m).flatMap fun k => if 0 < X k then deals m f (B ++ [(k : Int)]) (lessX X k) else []
/-- What the further bidders may get. -/
def Rest (m f : Nat) (X : Nat → Int) (T : List Int) : Prop := T.length = f ∧ (∀ t, t ∈ T → t = -1 ∨ ∃ k : Nat, k < m ∧ t = k) ∧ ∀ k : Nat, k < m → (T.count (k : Int) : Int) ≤ X k
section
variable {m : Nat}
theorem less_ge {X : Nat → Int} (hX : ∀ k, k < m → 0 ≤ X k) {k : Nat} (h : 0 < X k) : ∀ j, j < m → 0 ≤ lessX X k j := by
  intro j hj
  unfold lessX
  have := hX j hj
  by_cases e : j = k
  · subst e; rw [if_pos rfl]; omega
  · rw [if_neg e]; exact this
theorem count_step {t : Int} {T : List Int} {k : Nat} : ((t :: T).count (k : Int) : Int) = (T.count (k : Int) : Int) + if t = (k : Int) then 1 else 0 := by
  rw [List.count_cons]
  by_cases e : t = (k : Int)
  · rw [if_pos e, if_pos (by simpa using e)]; omega
  · rw [if_neg e, if_neg (by simpa using e)]; omega
theorem mem_deals : ∀ (f : Nat) (B : List Int) (X : Nat → Int) {D : List Int}, (∀ k, k < m → 0 ≤ X k) → (D ∈ deals m f B X ↔ ∃ T, D = B ++ T ∧ Rest m f X T)
  | 0, B, X, D, hX => by
    show D ∈ [B] ↔ _
    rw [List.mem_singleton]
    constructor
    · rintro rfl
      exact ⟨[], (List.append_nil _).symm, rfl, fun t h => absurd h (List.not_mem_nil), fun k hk => by simpa using hX k hk⟩
    · rintro ⟨T, rfl, hl, _⟩
      rw [List.eq_nil_of_length_eq_zero hl, List.append_nil]
  | f + 1, B, X, D, hX => by
    show D ∈ deals m f (B ++ [-1]) X ++ _ ↔ _
    rw [List.mem_append, mem_deals f _ X hX, List.mem_flatMap]
    constructor
    · rintro (⟨T, rfl, h1, h2, h3⟩ | ⟨k, hk, h⟩)
      · refine ⟨-1 :: T, by simp, by simp [h1], fun t ht => ?_, fun k hk => ?_⟩
        · rcases List.mem_cons.1 ht with e | ht
          · exact .inl e
          · exact h2 t ht
        · rw [count_step, if_neg (by omega)]
          have := h3 k hk
          omega
      · rw [List.mem_range] at hk
        by_cases e : 0 < X k
        · rw [if_pos e, mem_deals f _ _ (less_ge hX e)] at h
          obtain ⟨T, rfl, h1, h2, h3⟩ := h
          refine ⟨(k : Int) :: T, by simp, by simp [h1], fun t ht => ?_, fun j hj => ?_⟩
          · rcases List.mem_cons.1 ht with e | ht
            · exact .inr ⟨k, hk, e⟩
            · exact h2 t ht
          · rw [count_step]
            have := h3 j hj
            unfold lessX at this
            by_cases e1 : j = k
            · rw [if_pos e1] at this
              rw [if_pos (by omega)]
              omega
            · rw [if_neg e1] at this
              rw [if_neg (by omega)]
              omega
        · rw [if_neg e] at h
          exact absurd h (List.not_mem_nil)
    · rintro ⟨T, rfl, h1, h2, h3⟩
      cases T with
      | nil => simp at h1
      | cons t T =>
        have hl : T.length = f := by simpa using h1
        rcases h2 t (by simp) with e | ⟨k, hk, e⟩
        · left
          refine ⟨T, by rw [e]; simp, hl, fun u hu => h2 u (by simp [hu]), fun j hj => ?_⟩
          have := h3 j hj
          rw [count_step, if_neg (by omega)] at this
          omega
        · right
          have hxk := h3 k hk
          rw [count_step, if_pos e] at hxk
          have hpos : 0 < X k := by omega
          refine ⟨k, List.mem_range.2 hk, ?_⟩
          rw [if_pos hpos, mem_deals f _ _ (less_ge hX hpos)]
          refine ⟨T, by rw [e]; simp, hl, fun u hu => h2 u (by simp [hu]), fun j hj => ?_⟩
          have := h3 j hj
          rw [count_step] at this
          unfold lessX
          by_cases e1 : j = k
          · rw [if_pos e1]
            rw [if_pos (by omega)] at this
            omega
          · rw [if_neg e1]
            rw [if_neg (by omega)] at this
            omega
theorem deals_begin {f : Nat} {B : List Int} {X : Nat → Int} {D : List Int} (hX : ∀ k, k < m → 0 ≤ X k) (h : D ∈ deals m f B X) : B <+: D := by
  obtain ⟨T, rfl, _⟩ := (mem_deals f B X hX).1 h
  exact List.prefix_append _ _
theorem begin_clash {B D : List Int} {x y : Int} (h1 : B ++ [x] <+: D) (h2 : B ++ [y] <+: D) : x = y := by
  obtain ⟨S, rfl⟩ := h1
  obtain ⟨T, e⟩ := h2
  rw [List.append_assoc, List.append_assoc] at e
  have := List.append_cancel_left e
  simp only [List.cons_append, List.nil_append, List.cons.injEq] at this
  exact this.1.symm
theorem deals_nodup : ∀ (f : Nat) (B : List Int) (X : Nat → Int), (∀ k, k < m → 0 ≤ X k) → (deals m f B X).Nodup
  | 0, B, X, hX => by show [B].Nodup; simp
  | f + 1, B, X, hX => by
    show (deals m f (B ++ [-1]) X ++ _).Nodup
    rw [List.nodup_append]
    refine ⟨deals_nodup f _ X hX, ?_, fun a ha b hb e => ?_⟩
    · unfold List.Nodup
      rw [List.pairwise_flatMap]
      refine ⟨fun k hk => ?_, (List.pairwise_lt_range (n := m)).imp fun {k j} hkj a ha b hb e0 => ?_⟩
      · by_cases e : 0 < X k
        · rw [if_pos e]; exact deals_nodup f _ _ (less_ge hX e)
        · rw [if_neg e]; exact List.Pairwise.nil
      · subst e0
        by_cases e : 0 < X k
        · by_cases e2 : 0 < X j
          · rw [if_pos e] at ha
            rw [if_pos e2] at hb
            have := begin_clash (deals_begin (less_ge hX e) ha) (deals_begin (less_ge hX e2) hb)
            omega
          · rw [if_neg e2] at hb
            exact absurd hb (List.not_mem_nil)
        · rw [if_neg e] at ha
          exact absurd ha (List.not_mem_nil)
    · subst e
      obtain ⟨k, hk, h⟩ := List.mem_flatMap.1 hb
      by_cases e : 0 < X k
      · rw [if_pos e] at h
        have := begin_clash (deals_begin hX ha) (deals_begin (less_ge hX e) h)
        omega
      · rw [if_neg e] at h
        exact absurd h (List.not_mem_nil)
end
end Go.Proofs.Ytopoeeahociohaa
