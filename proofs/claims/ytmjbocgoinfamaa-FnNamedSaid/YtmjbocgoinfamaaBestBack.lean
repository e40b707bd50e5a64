/- The best way is the greatest one; the other way round it is the same. -/
import Derived.Test.YtmjbocgoinfamaaBestModel
import Derived.Test.YtmjbocgoinfamaaBackModel
namespace Go.Proofs.Ytmjbocgoinfamaa
set_option linter.unusedVariables false

theorem wayV_along {n : Nat} {Z : Nat → Nat → Int} {D : List Int} (h : 1 ≤ D.length) : wayV n Z D = p12 ((n : Int) - 1 - D.length + 1).toNat * along Z D := by
  unfold wayV
  rw [valF_along, show D.length - 1 + 1 = D.length by omega, map_nth]
theorem best_base {n : Nat} {Z : Nat → Nat → Int} {k : Int} : ∀ (LL : List (List Int)) (b : Int), b ≤ bestL n Z k b LL
  | [], b => Int.le_refl _
  | D :: LL, b => by
    unfold bestL
    rw [List.foldl_cons]
    by_cases h : nth D (D.length - 1) = k
    · rw [if_pos h]; exact Int.le_trans (Int.le_max_left _ _) (best_base LL _)
    · rw [if_neg h]; exact best_base LL b
theorem best_ge {n : Nat} {Z : Nat → Nat → Int} {k : Int} {D : List Int} (hk : nth D (D.length - 1) = k) : ∀ (LL : List (List Int)) (b : Int), D ∈ LL → wayV n Z D ≤ bestL n Z k b LL
  | [], b, h => by simp at h
  | E :: LL, b, h => by
    unfold bestL
    rw [List.foldl_cons]
    rcases List.mem_cons.1 h with e | e
    · subst e
      rw [if_pos hk]
      exact Int.le_trans (Int.le_max_right _ _) (best_base LL _)
    · exact best_ge hk LL _ e
theorem best_le {n : Nat} {Z : Nat → Nat → Int} {k M : Int} : ∀ (LL : List (List Int)) (b : Int), b ≤ M → (∀ D, D ∈ LL → nth D (D.length - 1) = k → wayV n Z D ≤ M) → bestL n Z k b LL ≤ M
  | [], b, hb, _ => hb
  | D :: LL, b, hb, h => by
    unfold bestL
    rw [List.foldl_cons]
    refine best_le LL _ ?_ (fun E hE => h E (by simp [hE]))
    by_cases e : nth D (D.length - 1) = k
    · rw [if_pos e]; exact Int.max_le.2 ⟨hb, h D (by simp) e⟩
    · rw [if_neg e]; exact hb

/-- A way from i to k. -/
def WayTo (n : Nat) (i k : Int) (D : List Int) : Prop := Diff n D ∧ 2 ≤ D.length ∧ nth D 0 = i ∧ nth D (D.length - 1) = k
theorem mem_ways {n i : Nat} (hi : i < n) {D : List Int} {k : Int} : (D ∈ longer n (n - 1) [(i : Int)] ∧ nth D (D.length - 1) = k) ↔ WayTo n i k D := by
  constructor
  · rintro ⟨h, e⟩
    obtain ⟨hw, h0⟩ := ways_of hi h
    exact ⟨hw.1, hw.2.1, h0, e⟩
  · rintro ⟨hd, h2, h0, e⟩
    refine ⟨?_, e⟩
    cases D with
    | nil => simp at h2
    | cons a t =>
      obtain rfl : a = (i : Int) := h0
      have hl := diff_le hd
      simp at hl
      exact mem_longer_of t (n - 1) [(i : Int)] hd h2 (by omega)
theorem nth_rev {D : List Int} {j : Nat} (hj : j < D.length) : nth D.reverse j = nth D (D.length - 1 - j) := by
  unfold nth
  rw [List.getD_eq_getElem?_getD, List.getD_eq_getElem?_getD, List.getElem?_reverse hj]
theorem way_back {n : Nat} {i k : Int} {D : List Int} (h : WayTo n i k D) : WayTo n k i D.reverse := by
  obtain ⟨hd, h2, h0, h1⟩ := h
  refine ⟨?_, by simpa using h2, ?_, ?_⟩
  · rw [diff_mem] at hd ⊢
    refine ⟨fun x hx => hd.1 x (by simpa using hx), ?_⟩
    rw [List.nodup_iff_pairwise_ne, List.pairwise_reverse]
    exact List.Pairwise.imp (fun h e => h e.symm) (List.nodup_iff_pairwise_ne.1 hd.2)
  · rw [nth_rev (by omega), Nat.sub_zero]; exact h1
  · rw [List.length_reverse, nth_rev (by omega), Nat.sub_self]; exact h0
theorem wayV_back {n : Nat} {Z : Nat → Nat → Int} {D : List Int} (h : 1 ≤ D.length) : wayV n (turnX Z) D = wayV n Z D.reverse := by
  rw [wayV_along h, wayV_along (by simpa using h), List.length_reverse, ← along_back Z D.reverse, List.reverse_reverse]
theorem best_back_le {n : Nat} {Z : Nat → Nat → Int} {i k : Nat} (hi : i < n) (hk : k < n) {b : Int} : bestL n (turnX Z) k b (longer n (n - 1) [(i : Int)]) ≤ bestL n Z i b (longer n (n - 1) [(k : Int)]) := by
  refine best_le _ _ (best_base _ _) fun D hD e => ?_
  have hw := (mem_ways hi).1 ⟨hD, e⟩
  obtain ⟨m, e2⟩ := (mem_ways hk).2 (way_back hw)
  have h2 := hw.2.1
  rw [wayV_back (by omega)]
  exact best_ge e2 _ _ m
theorem best_back {n : Nat} {Z : Nat → Nat → Int} {i k : Nat} (hi : i < n) (hk : k < n) {b : Int} : bestL n (turnX Z) k b (longer n (n - 1) [(i : Int)]) = bestL n Z i b (longer n (n - 1) [(k : Int)]) :=
  Int.le_antisymm (best_back_le hi hk) (by have := best_back_le (Z := turnX Z) hk hi (b := b); rwa [turn_turn] at this)
theorem turn_rates {n : Nat} {L : Nat → Nat} {Z : Nat → Nat → Int} (h : IsRates n L Z) : IsRates n (fun _ => n) (turnX Z) :=
  ⟨h.1, fun i hi => ⟨rfl, fun k hk => ⟨((h.2 k hk).2 i hi).1, fun e => by subst e; exact ((h.2 i hi).2 i hi).2 rfl⟩⟩⟩
/-- With rows and columns exchanged the best way back is worth as much. -/
theorem bestAns_turn {n : Nat} {L : Nat → Nat} {Z : Nat → Nat → Int} {i k : Int} (h : TwoOk n L Z i k) : bestAns n (fun _ => n) (turnX Z) k i = bestAns n L Z i k := by
  have h' : TwoOk n (fun _ => n) (turnX Z) k i := ⟨turn_rates h.1, h.2.2, h.2.1⟩
  rw [bestAns_yes h, bestAns_yes h']
  obtain ⟨i', rfl⟩ := Int.eq_ofNat_of_zero_le h.2.1.1
  obtain ⟨k', rfl⟩ := Int.eq_ofNat_of_zero_le h.2.2.1
  have h1 := h.2.1.2
  have h2 := h.2.2.2
  have e : (if (k' : Int) = (i' : Int) then p12 (n - 1) else 0) = (if (i' : Int) = (k' : Int) then p12 (n - 1) else 0) := by
    by_cases e : (i' : Int) = k'
    · rw [if_pos e, if_pos e.symm]
    · rw [if_neg e, if_neg fun e' => e e'.symm]
  rw [e]
  exact best_back (by omega) (by omega)
end Go.Proofs.Ytmjbocgoinfamaa
