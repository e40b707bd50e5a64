/- All givings, in the order of lists, in plain mathematics. -/
import Derived.Test.YtnaegnjgpnakfaaDoorLists
namespace Go.Proofs.YtnaegnjgpnakfaaDoor
set_option linter.unusedVariables false
set_option linter.unusedSimpArgs false
open Go.RowKit

/-- The lists of f different numbers more that begin so, in order. -/
def givs (n : Nat) : Nat → List Int → List (List Int)
  | 0, B => [B]
  | f + 1, B => (List.range n).flatMap fun (x : Nat) => if (x : Int) ∈ B then [] else givs n f (B ++ [(x : Int)])
/-- Those whose next number is below k. -/
def givsTo (n f : Nat) (B : List Int) (k : Nat) : List (List Int) := (List.range k).flatMap fun (x : Nat) => if (x : Int) ∈ B then [] else givs n f (B ++ [(x : Int)])
theorem givsTo_zero (n f : Nat) (B : List Int) : givsTo n f B 0 = [] := rfl
theorem givsTo_in {n f k : Nat} {B : List Int} (h : (k : Int) ∈ B) : givsTo n f B (k + 1) = givsTo n f B k := by
  unfold givsTo
  rw [List.range_succ, List.flatMap_append]
  simp [h]
theorem givsTo_new {n f k : Nat} {B : List Int} (h : ¬ (k : Int) ∈ B) : givsTo n f B (k + 1) = givsTo n f B k ++ givs n f (B ++ [(k : Int)]) := by
  unfold givsTo
  rw [List.range_succ, List.flatMap_append]
  simp [h]
theorem givs_succ (n f : Nat) (B : List Int) : givs n (f + 1) B = givsTo n f B n := rfl
theorem givsTo_front {n f : Nat} {B : List Int} {k m : Nat} (h : k ≤ m) : givsTo n f B k <+: givsTo n f B m := by
  induction m with
  | zero => have : k = 0 := by omega
            subst this; exact List.prefix_refl _
  | succ m ih =>
    by_cases e : k = m + 1
    · subst e; exact List.prefix_refl _
    · have h1 := ih (by omega)
      by_cases hm : (m : Int) ∈ B
      · rw [givsTo_in hm]; exact h1
      · rw [givsTo_new hm]; exact h1.trans (List.prefix_append _ _)
theorem flatMap_eq {α β : Type} {f g : α → List β} : ∀ {l : List α}, (∀ x, x ∈ l → f x = g x) → l.flatMap f = l.flatMap g
  | [], _ => rfl
  | x :: l, h => by
    rw [List.flatMap_cons, List.flatMap_cons, h x (by simp), flatMap_eq (fun y hy => h y (by simp [hy]))]
/-- The ways that have each number are the givings. -/
theorem givs_longer {n : Nat} (hn : 2 ≤ n) : ∀ (f : Nat) (B : List Int), B.length + f = n → (longer n f B).filter (fun D => tt (D.length = n)) = givs n f B
  | 0, B, h => by
    unfold longer givs
    rw [if_pos (by omega)]
    simp [tt_of (show B.length = n by omega)]
  | f + 1, B, h => by
    unfold longer givs
    rw [List.filter_append]
    have e1 : (if 2 ≤ B.length then [B] else []).filter (fun D => tt (D.length = n)) = [] := by
      by_cases h2 : 2 ≤ B.length
      · rw [if_pos h2]; simp [tt_no (show ¬ B.length = n by omega)]
      · rw [if_neg h2]; rfl
    rw [e1, List.nil_append, List.filter_flatMap]
    refine flatMap_eq fun x hx => ?_
    by_cases hm : (x : Int) ∈ B
    · rw [if_pos hm, if_pos hm]; rfl
    · rw [if_neg hm, if_neg hm]
      exact givs_longer hn f _ (by rw [List.length_append]; simp; omega)
theorem flat_le6 {n : Nat} {g : Nat → List (List Int)} {c : Nat} (h5 : n ≤ 5) (h : ∀ x, (g x).length ≤ c) : ((List.range n).flatMap g).length ≤ 6 * c := by
  have : ∀ k, ((List.range k).flatMap g).length ≤ k * c := by
    intro k
    induction k with
    | zero => simp
    | succ k ih =>
      rw [List.range_succ, List.flatMap_append, List.length_append, Nat.succ_mul, List.flatMap_cons, List.flatMap_nil, List.append_nil]
      have := h k
      omega
  have h1 := this n
  have h2 := Nat.mul_le_mul_right c h5
  omega
theorem givs_le {n : Nat} (h5 : n ≤ 5) : ∀ (f : Nat) (B : List Int), (givs n f B).length ≤ 6 ^ f
  | 0, B => by simp [givs]
  | f + 1, B => by
    unfold givs
    have := flat_le6 (g := fun x => if (x : Int) ∈ B then [] else givs n f (B ++ [(x : Int)])) (c := 6 ^ f) h5 (fun x => by
      by_cases e : (x : Int) ∈ B
      · rw [if_pos e]; exact Nat.zero_le _
      · rw [if_neg e]; exact givs_le h5 f _)
    rw [Nat.pow_succ]; omega
theorem givsTo_le {n : Nat} (h5 : n ≤ 5) (f k : Nat) (B : List Int) (hk : k ≤ n) : (givsTo n f B k).length ≤ 6 ^ (f + 1) := by
  have h1 := givs_le h5 (f + 1) B
  rw [givs_succ] at h1
  exact Nat.le_trans (givsTo_front hk).length_le h1
theorem prefix_eq {A B : List Int} (h : A <+: B) (hl : A.length = B.length) : A = B := h.eq_of_length hl
theorem nth_pre {B D : List Int} (h : B <+: D) {i : Nat} (hi : i < B.length) : nth D i = nth B i := by
  obtain ⟨z, rfl⟩ := h
  unfold nth
  rw [List.getD_eq_getElem?_getD, List.getD_eq_getElem?_getD, List.getElem?_append_left hi]
/-- The givings are the lists of all numbers that begin so. -/
theorem mem_givs {n : Nat} : ∀ (f : Nat) (B : List Int), Diff n B → B.length + f = n → ∀ D, D ∈ givs n f B ↔ Diff n D ∧ D.length = n ∧ B <+: D
  | 0, B, hd, hl, D => by
    unfold givs
    rw [List.mem_singleton]
    constructor
    · rintro rfl; exact ⟨hd, by omega, List.prefix_refl _⟩
    · rintro ⟨_, h2, h3⟩
      exact (prefix_eq h3 (by omega)).symm
  | f + 1, B, hd, hl, D => by
    unfold givs
    rw [List.mem_flatMap]
    constructor
    · rintro ⟨x, hx, h⟩
      rw [List.mem_range] at hx
      by_cases e : (x : Int) ∈ B
      · rw [if_pos e] at h; cases h
      · rw [if_neg e] at h
        obtain ⟨h1, h2, h3⟩ := (mem_givs f _ ((hd.snoc_iff hx).2 e) (by rw [List.length_append]; simp; omega) D).1 h
        exact ⟨h1, h2, (List.prefix_append _ _).trans h3⟩
    · rintro ⟨h1, h2, h3⟩
      have hb : B.length < D.length := by omega
      have hr := h1.1 B.length hb
      obtain ⟨x, hx⟩ := Int.eq_ofNat_of_zero_le hr.1
      have hxn : x < n := by have := hr.2; omega
      have hp : B ++ [(x : Int)] <+: D := by
        obtain ⟨z, rfl⟩ := h3
        have hz : 0 < z.length := by rw [List.length_append] at hb; omega
        obtain ⟨y, ys, rfl⟩ := List.exists_cons_of_length_pos hz
        have : nth (B ++ y :: ys) B.length = y := by
          unfold nth
          rw [List.getD_eq_getElem?_getD, List.getElem?_append_right (Nat.le_refl _)]
          simp
        rw [this] at hx
        rw [hx]
        exact ⟨ys, by simp⟩
      have hnin : ¬ (x : Int) ∈ B := fun h => by
        obtain ⟨j, hj, e⟩ := mem_nth.1 h
        have e2 := nth_pre h3 hj
        exact h1.2 j B.length hj hb (by rw [e2, e, hx])
      exact ⟨x, List.mem_range.2 hxn, by
        rw [if_neg hnin]
        exact (mem_givs f _ ((hd.snoc_iff hxn).2 hnin) (by rw [List.length_append]; simp; omega) D).2 ⟨h1, h2, hp⟩⟩
theorem givs_pos {n f : Nat} {B : List Int} (hd : Diff n B) (hl : B.length + f = n) : 0 < (givs n f B).length := by
  induction f generalizing B with
  | zero => simp [givs]
  | succ f ih =>
    -- some number is not in B
    have hex : ∃ x, x < n ∧ ¬ (x : Int) ∈ B := by
      refine Classical.byContradiction fun hno => ?_
      have hall : ∀ x : Nat, x < n → (x : Int) ∈ B := fun x hx => Classical.byContradiction fun h => hno ⟨x, hx, h⟩
      have hch : ∀ x : Nat, ∃ i : Nat, x < n → i < B.length ∧ nth B i = x := fun x => by
        by_cases hx : x < n
        · obtain ⟨i, h1, h2⟩ := mem_nth.1 (hall x hx)
          exact ⟨i, fun _ => ⟨h1, h2⟩⟩
        · exact ⟨0, fun h => absurd h hx⟩
      have hsp := fun x => Classical.choose_spec (hch x)
      have hd2 : IsDiff B.length n (fun x => ((Classical.choose (hch x) : Nat) : Int)) := by
        refine ⟨fun i hi => ⟨by show (0 : Int) ≤ ((Classical.choose (hch i) : Nat) : Int); omega, by
          show ((Classical.choose (hch i) : Nat) : Int) < B.length
          have := (hsp i hi).1; omega⟩, fun i j hij hj he => ?_⟩
        have he' : Classical.choose (hch i) = Classical.choose (hch j) := by
          have : ((Classical.choose (hch i) : Nat) : Int) = ((Classical.choose (hch j) : Nat) : Int) := he
          omega
        have h1 := (hsp i (by omega)).2
        have h2 := (hsp j hj).2
        rw [he'] at h1
        omega
      have := diff_le hd2
      omega
    obtain ⟨x, hx, hm⟩ := hex
    have h1 := ih ((hd.snoc_iff hx).2 hm) (by rw [List.length_append]; simp; omega)
    obtain ⟨D, hD⟩ := List.exists_mem_of_length_pos h1
    exact List.length_pos_of_mem (show D ∈ givs n (f + 1) B from by
      unfold givs
      exact List.mem_flatMap.2 ⟨x, List.mem_range.2 hx, by rw [if_neg hm]; exact hD⟩)
theorem givs_at {n k : Nat} (h : k < (givs n n []).length) : Diff n ((givs n n []).getD k []) ∧ ((givs n n []).getD k []).length = n := by
  have h1 : (givs n n []).getD k [] ∈ givs n n [] := by
    rw [List.getD_eq_getElem?_getD, List.getElem?_eq_getElem h]
    exact List.getElem_mem h
  have h2 := (mem_givs n [] (Diff.nil n) (by simp) _).1 h1
  exact ⟨h2.1, h2.2.1⟩
theorem filter_one {α : Type} {p : α → Bool} {a : α} : ∀ {l : List α}, l.Nodup → a ∈ l → (∀ x, x ∈ l → (p x = true ↔ x = a)) → l.filter p = [a]
  | [], _, hm, _ => by cases hm
  | x :: l, hn, hm, h => by
    rw [List.nodup_cons] at hn
    by_cases e : x = a
    · subst e
      rw [List.filter_cons_of_pos ((h x (by simp)).2 rfl)]
      rw [List.filter_eq_nil_iff.2 (fun y hy hp => hn.1 (by rw [← (h y (by simp [hy])).1 hp]; exact hy))]
    · have hx : ¬ p x = true := fun hp => e ((h x (by simp)).1 hp)
      rw [List.filter_cons_of_neg hx]
      rcases List.mem_cons.1 hm with rfl | hm
      · exact absurd rfl e
      · exact filter_one hn.2 hm (fun y hy => h y (by simp [hy]))
theorem givs_nodup {n : Nat} : ∀ (f : Nat) (B : List Int), Diff n B → B.length + f = n → (givs n f B).Nodup
  | 0, B, _, _ => by unfold givs; simp
  | f + 1, B, hd, hl => by
    unfold givs List.Nodup
    rw [List.pairwise_flatMap]
    refine ⟨fun x hx => ?_, ?_⟩
    · rw [List.mem_range] at hx
      by_cases e : (x : Int) ∈ B
      · rw [if_pos e]; exact List.Pairwise.nil
      · rw [if_neg e]
        exact givs_nodup f _ ((hd.snoc_iff hx).2 e) (by rw [List.length_append]; simp; omega)
    · refine List.Pairwise.imp_of_mem (R := fun x y => x < y) ?_ List.pairwise_lt_range
      intro x y hx hy hxy u hu v hv euv
      rw [List.mem_range] at hx hy
      by_cases ex : (x : Int) ∈ B
      · rw [if_pos ex] at hu; cases hu
      by_cases ey : (y : Int) ∈ B
      · rw [if_pos ey] at hv; cases hv
      rw [if_neg ex] at hu
      rw [if_neg ey] at hv
      have h1 := ((mem_givs f _ ((hd.snoc_iff hx).2 ex) (by rw [List.length_append]; simp; omega) u).1 hu).2.2
      have h2 := ((mem_givs f _ ((hd.snoc_iff hy).2 ey) (by rw [List.length_append]; simp; omega) v).1 hv).2.2
      have hb : B.length < (B ++ [(x : Int)]).length := by simp
      have hb2 : B.length < (B ++ [(y : Int)]).length := by simp
      have e1 := nth_pre h1 hb
      have e2 := nth_pre h2 hb2
      rw [snoc_nth (by omega), if_neg (by omega)] at e1 e2
      rw [euv] at e1
      omega
/-- In a list of givings each one has one place. -/
theorem place_one {n : Nat} {LL : List (List Int)} {i x : Nat} (hn : LL.Nodup) (hl : ∀ r, r < LL.length → lenL LL r = n) (hi : i < LL.length) (hx : x < LL.length) (h : ∀ j, j < n → nthL LL i j = nthL LL x j) : i = x := by
  have e : LL[i] = LL[x] := by
    have h1 := hl i hi
    have h2 := hl x hx
    unfold lenL at h1 h2
    rw [List.getD_eq_getElem?_getD, List.getElem?_eq_getElem hi] at h1
    rw [List.getD_eq_getElem?_getD, List.getElem?_eq_getElem hx] at h2
    have h1 : LL[i].length = n := h1
    have h2 : LL[x].length = n := h2
    refine List.ext_getElem (by omega) fun j hj hj2 => ?_
    have h3 := h j (by omega)
    unfold nthL nth at h3
    rw [List.getD_eq_getElem?_getD, List.getD_eq_getElem?_getD, List.getD_eq_getElem?_getD, List.getD_eq_getElem?_getD, List.getElem?_eq_getElem hi, List.getElem?_eq_getElem hx] at h3
    simp only [Option.getD_some] at h3
    rw [List.getElem?_eq_getElem hj, List.getElem?_eq_getElem hj2] at h3
    exact h3
  exact (List.getElem_inj hn).1 e
end Go.Proofs.YtnaegnjgpnakfaaDoor
