/- The deals are just the lists that are made so; the greatest total, in plain mathematics. -/
import Derived.Test.YtopoeeahociohaaDealsModel
namespace Go.Proofs.Ytopoeeahociohaa
set_option linter.unusedVariables false
set_option linter.unusedSimpArgs false
open Go.RowKit

/-- How many of the first q numbers are x. -/
def cntN (C : Nat → Int) (x : Int) : Nat → Nat
  | 0 => 0
  | q + 1 => cntN C x q + if C q = x then 1 else 0
section
variable {C : Nat → Int} {x : Int}
theorem cnt_front (C : Nat → Int) (x : Int) : ∀ (q : Nat), cntN C x (q + 1) = cntN (fun i => C (i + 1)) x q + if C 0 = x then 1 else 0
  | 0 => by show 0 + _ = 0 + _; rfl
  | q + 1 => by
    show cntN C x (q + 1) + (if C (q + 1) = x then 1 else 0) = cntN (fun i => C (i + 1)) x q + (if C (q + 1) = x then 1 else 0) + _
    rw [cnt_front C x q]; omega
theorem cnt_list (x : Int) : ∀ (T : List Int), T.count x = cntN (nth T) x T.length
  | [] => rfl
  | t :: T => by
    rw [List.count_cons, List.length_cons, cnt_front, cnt_list x T]
    have h0 : nth (t :: T) 0 = t := by unfold nth; simp
    have h1 : (fun i => nth (t :: T) (i + 1)) = nth T := by funext i; unfold nth; simp
    rw [h0, h1]
    by_cases e : t = x
    · rw [if_pos e, if_pos (by simpa using e)]
    · rw [if_neg e, if_neg (by simpa using e)]
theorem cnt_none : ∀ {q : Nat}, cntN C x q = 0 ↔ ∀ i, i < q → C i ≠ x
  | 0 => by simp [cntN]
  | q + 1 => by
    show cntN C x q + (if C q = x then 1 else 0) = 0 ↔ _
    constructor
    · intro h i hi
      have h1 : cntN C x q = 0 := by omega
      by_cases e : i = q
      · subst e
        intro e2
        rw [if_pos e2] at h
        omega
      · exact (cnt_none (q := q)).1 h1 i (by omega)
    · intro h
      rw [(cnt_none (q := q)).2 fun i hi => h i (by omega), if_neg (h q (by omega))]
theorem cnt_one : ∀ {q : Nat}, cntN C x q ≤ 1 ↔ ∀ i j, i < q → j < q → i ≠ j → C i = x → C j = x → False
  | 0 => by simp [cntN]
  | q + 1 => by
    have ih := cnt_one (q := q)
    have ihn := cnt_none (C := C) (x := x) (q := q)
    show cntN C x q + (if C q = x then 1 else 0) ≤ 1 ↔ _
    constructor
    · intro h i j hi hj hne h1 h2
      by_cases e : C q = x
      · rw [if_pos e] at h
        have h0 := ihn.1 (by omega)
        by_cases ei : i = q
        · exact h0 j (by omega) h2
        · exact h0 i (by omega) h1
      · by_cases ei : i = q
        · exact e (ei ▸ h1)
        · by_cases ej : j = q
          · exact e (ej ▸ h2)
          · exact ih.1 (by omega) i j (by omega) (by omega) hne h1 h2
    · intro h
      by_cases e : C q = x
      · rw [if_pos e, ihn.2 fun i hi e2 => h i q (by omega) (by omega) (by omega) e2 e]; omega
      · rw [if_neg e]
        have := ih.2 fun i j hi hj hne h1 h2 => h i j (by omega) (by omega) hne h1 h2
        omega
theorem cnt_two : ∀ {q : Nat}, cntN C x q ≤ 2 ↔ ∀ h i j, h < q → i < q → j < q → h ≠ i → h ≠ j → i ≠ j → C h = x → C i = x → C j = x → False
  | 0 => by simp [cntN]
  | q + 1 => by
    have ih := cnt_two (q := q)
    have ih1 := cnt_one (C := C) (x := x) (q := q)
    show cntN C x q + (if C q = x then 1 else 0) ≤ 2 ↔ _
    constructor
    · intro hc h i j hh hi hj n1 n2 n3 h1 h2 h3
      by_cases e : C q = x
      · rw [if_pos e] at hc
        have h0 := ih1.1 (by omega)
        by_cases eh : h = q
        · exact h0 i j (by omega) (by omega) n3 h2 h3
        · by_cases ei : i = q
          · exact h0 h j (by omega) (by omega) n2 h1 h3
          · exact h0 h i (by omega) (by omega) n1 h1 h2
      · have hlt : ∀ y, y < q + 1 → C y = x → y < q := fun y hy hx => by
          by_cases ey : y = q
          · exact absurd (ey ▸ hx) e
          · omega
        exact ih.1 (by omega) h i j (hlt h hh h1) (hlt i hi h2) (hlt j hj h3) n1 n2 n3 h1 h2 h3
    · intro hc
      by_cases e : C q = x
      · rw [if_pos e]
        have := ih1.2 fun i j hi hj hne h1 h2 => hc i j q (by omega) (by omega) (by omega) hne (by omega) (by omega) h1 h2 e
        omega
      · rw [if_neg e]
        have := ih.2 fun h i j hh hi hj n1 n2 n3 h1 h2 h3 => hc h i j (by omega) (by omega) (by omega) n1 n2 n3 h1 h2 h3
        omega
end
/-- One of each item, c of the item k. -/
def itemsX (k : Nat) (c : Int) (j : Nat) : Int := if j = k then c else 1
/-- All numbers of a list are items or -1. -/
theorem rest_range {m : Nat} {T : List Int} : (∀ t, t ∈ T → t = -1 ∨ ∃ k : Nat, k < m ∧ t = k) ↔ ∀ i, i < T.length → -1 ≤ nth T i ∧ nth T i < m := by
  constructor
  · intro h i hi
    have hm : nth T i ∈ T := by unfold nth; rw [List.getD_eq_getElem?_getD, List.getElem?_eq_getElem hi]; exact List.getElem_mem hi
    rcases h _ hm with e | ⟨k, hk, e⟩ <;> omega
  · intro h t ht
    obtain ⟨i, hi, e⟩ := List.mem_iff_getElem.1 ht
    have hn : nth T i = t := by unfold nth; rw [List.getD_eq_getElem?_getD, List.getElem?_eq_getElem hi]; exact e
    have := h i hi
    rw [hn] at this
    by_cases e1 : t = -1
    · exact .inl e1
    · exact .inr ⟨t.toNat, by omega, by omega⟩
section
variable {n m : Nat} {D : List Int}
theorem mem_deal (k : Nat) : D ∈ deals m n [] (itemsX k 1) ↔ D.length = n ∧ IsDeal n m (nth D) := by
  rw [mem_deals n [] _ (fun j _ => by unfold itemsX; split <;> omega)]
  constructor
  · rintro ⟨_, rfl, h1, h2, h3⟩
    subst h1
    refine ⟨rfl, rest_range.1 h2, fun i j hi hj hne e => ?_⟩
    by_cases e1 : nth D i = -1
    · exact e1
    · have hr := rest_range.1 h2 i hi
      have hc := h3 (nth D i).toNat (by omega)
      unfold itemsX at hc
      rw [cnt_list, show (if (nth D i).toNat = k then (1 : Int) else 1) = 1 by split <;> rfl] at hc
      exact ((cnt_one (C := nth D) (x := (((nth D i).toNat : Nat) : Int)) (q := D.length)).1 (by omega) i j hi hj hne (by omega) (by omega)).elim
  · rintro ⟨h1, h2⟩
    subst h1
    refine ⟨D, (List.nil_append D).symm, rfl, rest_range.2 h2.1, fun j hj => ?_⟩
    rw [cnt_list]
    unfold itemsX
    rw [show (if j = k then (1 : Int) else 1) = 1 by split <;> rfl]
    have := (cnt_one (C := nth D) (x := (j : Int)) (q := D.length)).2 fun a b ha hb hne e1 e2 => by
      have := h2.2 a b ha hb hne (e1.trans e2.symm)
      omega
    omega
theorem mem_less {k : Nat} (hk : k < m) : D ∈ deals m n [] (itemsX k 0) ↔ D.length = n ∧ IsDeal n m (nth D) ∧ ∀ i, i < n → nth D i ≠ (k : Int) := by
  rw [mem_deals n [] _ (fun j _ => by unfold itemsX; split <;> omega)]
  constructor
  · rintro ⟨_, rfl, h1, h2, h3⟩
    subst h1
    have hk0 := h3 k hk
    unfold itemsX at hk0
    rw [if_pos rfl, cnt_list] at hk0
    have hno := (cnt_none (C := nth D) (x := (k : Int)) (q := D.length)).1 (by omega)
    refine ⟨rfl, ⟨rest_range.1 h2, fun i j hi hj hne e => ?_⟩, hno⟩
    by_cases e1 : nth D i = -1
    · exact e1
    · have hr := rest_range.1 h2 i hi
      have hc := h3 (nth D i).toNat (by omega)
      unfold itemsX at hc
      have hne2 := hno i hi
      rw [cnt_list, if_neg (by omega)] at hc
      exact ((cnt_one (C := nth D) (x := (((nth D i).toNat : Nat) : Int)) (q := D.length)).1 (by omega) i j hi hj hne (by omega) (by omega)).elim
  · rintro ⟨h1, h2, h3⟩
    subst h1
    refine ⟨D, (List.nil_append D).symm, rfl, rest_range.2 h2.1, fun j hj => ?_⟩
    rw [cnt_list]
    unfold itemsX
    by_cases e : j = k
    · rw [if_pos e, e, (cnt_none (C := nth D)).2 h3]; exact Int.le_refl _
    · rw [if_neg e]
      have := (cnt_one (C := nth D) (x := (j : Int)) (q := D.length)).2 fun a b ha hb hne e1 e2 => by
        have := h2.2 a b ha hb hne (e1.trans e2.symm)
        omega
      omega
theorem mem_twice {k : Nat} (hk : k < m) : D ∈ deals m n [] (itemsX k 2) ↔ D.length = n ∧ IsTwice n m k (nth D) := by
  rw [mem_deals n [] _ (fun j _ => by unfold itemsX; split <;> omega)]
  constructor
  · rintro ⟨_, rfl, h1, h2, h3⟩
    subst h1
    have hk0 := h3 k hk
    unfold itemsX at hk0
    rw [if_pos rfl, cnt_list] at hk0
    refine ⟨rfl, rest_range.1 h2, fun i j hi hj hne e => ?_, cnt_two.1 (by omega)⟩
    by_cases e1 : nth D i = -1
    · exact .inl e1
    · by_cases e2 : nth D i = (k : Int)
      · exact .inr e2
      · have hr := rest_range.1 h2 i hi
        have hc := h3 (nth D i).toNat (by omega)
        unfold itemsX at hc
        rw [cnt_list, if_neg (by omega)] at hc
        exact ((cnt_one (C := nth D) (x := (((nth D i).toNat : Nat) : Int)) (q := D.length)).1 (by omega) i j hi hj hne (by omega) (by omega)).elim
  · rintro ⟨h1, h2, h3, h4⟩
    subst h1
    refine ⟨D, (List.nil_append D).symm, rfl, rest_range.2 h2, fun j hj => ?_⟩
    rw [cnt_list]
    unfold itemsX
    by_cases e : j = k
    · rw [if_pos e, e]
      have := (cnt_two (C := nth D) (x := (k : Int)) (q := D.length)).2 h4
      omega
    · rw [if_neg e]
      have := (cnt_one (C := nth D) (x := (j : Int)) (q := D.length)).2 fun a b ha hb hne e1 e2 => by
        rcases h3 a b ha hb hne (e1.trans e2.symm) with e3 | e3 <;> omega
      omega
/-- The greatest total of some deals, 0 at least. -/
def mostT (n : Nat) (Z : Nat → Nat → Int) (DD : List (List Int)) : Int := DD.foldl (fun b D => max b (dealT Z (nth D) n)) 0
theorem mostF_ge (f : List Int → Int) : ∀ (DD : List (List Int)) (b : Int), b ≤ DD.foldl (fun b D => max b (f D)) b ∧ ∀ D, D ∈ DD → f D ≤ DD.foldl (fun b D => max b (f D)) b
  | [], b => ⟨Int.le_refl _, fun D h => absurd h List.not_mem_nil⟩
  | E :: DD, b => by
    obtain ⟨h1, h2⟩ := mostF_ge f DD (max b (f E))
    show b ≤ DD.foldl _ (max b (f E)) ∧ _
    refine ⟨by omega, fun D hD => ?_⟩
    show f D ≤ DD.foldl _ (max b (f E))
    rcases List.mem_cons.1 hD with rfl | hD
    · omega
    · exact h2 D hD
theorem mostF_is (f : List Int → Int) : ∀ (DD : List (List Int)) (b : Int), DD.foldl (fun b D => max b (f D)) b = b ∨ ∃ D, D ∈ DD ∧ f D = DD.foldl (fun b D => max b (f D)) b
  | [], b => .inl rfl
  | E :: DD, b => by
    show DD.foldl _ (max b (f E)) = b ∨ ∃ D, D ∈ E :: DD ∧ f D = DD.foldl _ (max b (f E))
    rcases mostF_is f DD (max b (f E)) with e | ⟨D, hD, e⟩
    · rw [e]
      by_cases h : b ≤ f E
      · exact .inr ⟨E, by simp, by omega⟩
      · exact .inl (by omega)
    · exact .inr ⟨D, by simp [hD], e⟩
end
end Go.Proofs.Ytopoeeahociohaa
