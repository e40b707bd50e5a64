/- Rounds the other way round, in plain mathematics. -/
import Derived.Test.YtmjbocgoinfamaaL1Rounds
import Derived.Test.YtmjbocgoinfamaaFairModel
namespace Go.Proofs.Ytmjbocgoinfamaa
set_option linter.unusedVariables false

/-- The product along a list. -/
def along (Z : Nat → Nat → Int) : List Int → Int
  | [] => 1
  | [_] => 1
  | x :: y :: l => Z x.toNat y.toNat * along Z (y :: l)
theorem along_snoc (Z : Nat → Nat → Int) : ∀ (l : List Int) (x y : Int), along Z (l ++ [x, y]) = along Z (l ++ [x]) * Z x.toNat y.toNat
  | [], x, y => by simp [along]
  | [a], x, y => by simp [along]
  | a :: b :: l, x, y => by
    show Z a.toNat b.toNat * along Z ((b :: l) ++ [x, y]) = Z a.toNat b.toNat * along Z ((b :: l) ++ [x]) * Z x.toNat y.toNat
    rw [along_snoc Z (b :: l) x y, Int.mul_assoc]
/-- With rows and columns exchanged it is the product backwards. -/
theorem along_back (Z : Nat → Nat → Int) : ∀ l : List Int, along (turnX Z) l.reverse = along Z l
  | [] => rfl
  | [_] => rfl
  | x :: y :: l => by
    rw [List.reverse_cons, List.reverse_cons, List.append_assoc]
    show along (turnX Z) (l.reverse ++ [y, x]) = Z x.toNat y.toNat * along Z (y :: l)
    rw [along_snoc, ← List.reverse_cons, along_back Z (y :: l), Int.mul_comm]
    rfl
/-- valF is a product along a list. -/
theorem valF_along {Z : Nat → Nat → Int} {W : Nat → Int} {v : Int} (k : Nat) : valF Z W v k = v * along Z ((List.range (k + 1)).map W) := by
  induction k with
  | zero => show v = v * 1; rw [Int.mul_one]
  | succ k ih =>
    have e : (List.range (k + 2)).map W = (List.range k).map W ++ [W k, W (k + 1)] := by rw [List.range_succ, List.range_succ]; simp
    have e' : (List.range (k + 1)).map W = (List.range k).map W ++ [W k] := by rw [List.range_succ]; simp
    rw [e'] at ih
    show valF Z W v k * Z (W k).toNat (W (k + 1)).toNat = v * along Z ((List.range (k + 2)).map W)
    rw [e, ih, along_snoc, Int.mul_assoc]
theorem map_nth (D : List Int) : (List.range D.length).map (nth D) = D := by
  refine List.ext_getElem (by simp) fun i h1 h2 => ?_
  simp only [List.getElem_map, List.getElem_range]
  unfold nth
  rw [List.getD_eq_getElem?_getD, List.getElem?_eq_getElem h2]
  rfl
/-- A round's value. -/
theorem roundV_along {n : Nat} {Z : Nat → Nat → Int} {a : Int} {t : List Int} : roundV n Z (a :: t).length (nth (a :: t)) = p12 ((n : Int) - ((a :: t).length + 1 : Nat) + 1).toNat * along Z (a :: t ++ [a]) := by
  unfold roundV
  rw [valF_along]
  congr 2
  rw [List.range_succ, List.map_append]
  have h1 : (List.range (a :: t).length).map (closeF (a :: t).length (nth (a :: t))) = a :: t := by
    rw [List.map_congr_left (g := nth (a :: t)) (fun i hi => by unfold closeF; rw [if_pos (List.mem_range.1 hi)]), map_nth]
  rw [h1]
  congr 1
  show [closeF (a :: t).length (nth (a :: t)) (a :: t).length] = [a]
  unfold closeF
  rw [if_neg (Nat.lt_irrefl _)]
  rfl
/-- A round the other way round: it begins with the same one. -/
def backL : List Int → List Int
  | [] => []
  | a :: t => a :: t.reverse
theorem backL_back (D : List Int) : backL (backL D) = D := by
  cases D with
  | nil => rfl
  | cons a t => show a :: t.reverse.reverse = a :: t; rw [List.reverse_reverse]
theorem backL_length (D : List Int) : (backL D).length = D.length := by
  cases D with
  | nil => rfl
  | cons a t => show (a :: t.reverse).length = (a :: t).length; simp
theorem roundV_back {n : Nat} {Z : Nat → Nat → Int} {D : List Int} (h : 1 ≤ D.length) : roundV n (turnX Z) (backL D).length (nth (backL D)) = roundV n Z D.length (nth D) := by
  cases D with
  | nil => simp at h
  | cons a t =>
    show roundV n (turnX Z) (a :: t.reverse).length (nth (a :: t.reverse)) = _
    rw [roundV_along, roundV_along]
    have e : a :: t.reverse ++ [a] = (a :: t ++ [a]).reverse := by simp
    rw [e, along_back]
    simp
/-- Different numbers of a range, said of members. -/
theorem diff_mem {n : Nat} {D : List Int} : Diff n D ↔ (∀ x, x ∈ D → 0 ≤ x ∧ x < n) ∧ D.Nodup := by
  constructor
  · intro h
    refine ⟨fun x hx => ?_, ?_⟩
    · obtain ⟨j, hj, rfl⟩ := mem_nth.1 hx
      exact h.1 j hj
    · rw [List.nodup_iff_pairwise_ne, List.pairwise_iff_getElem]
      intro i j hi hj hij e
      refine h.2 i j hij hj ?_
      unfold nth
      rw [List.getD_eq_getElem?_getD, List.getD_eq_getElem?_getD, List.getElem?_eq_getElem hi, List.getElem?_eq_getElem hj]
      exact e
  · rintro ⟨h1, h2⟩
    refine ⟨fun i hi => h1 _ (mem_nth.2 ⟨i, hi, rfl⟩), fun i j hij hj e => ?_⟩
    rw [List.nodup_iff_pairwise_ne, List.pairwise_iff_getElem] at h2
    refine h2 i j (by omega) hj hij ?_
    unfold nth at e
    rw [List.getD_eq_getElem?_getD, List.getD_eq_getElem?_getD, List.getElem?_eq_getElem (show i < D.length by omega), List.getElem?_eq_getElem hj] at e
    exact e
/-- A round begins with the least one. -/
theorem ring_mem {n : Nat} {a : Int} {t : List Int} : IsRing n (a :: t).length (nth (a :: t)) ↔ Diff n (a :: t) ∧ 1 ≤ t.length ∧ ∀ x, x ∈ t → a < x := by
  constructor
  · rintro ⟨⟨hd, h2, _⟩, hg⟩
    refine ⟨hd, by simp at h2; omega, fun x hx => ?_⟩
    obtain ⟨j, hj, rfl⟩ := mem_nth.1 hx
    have := hg (j + 1) (by omega) (by simp; omega)
    simpa [nth] using this
  · rintro ⟨hd, h1, hg⟩
    refine ⟨⟨hd, by simp; omega, diff_le hd⟩, fun i hi hi2 => ?_⟩
    obtain ⟨j, rfl⟩ : ∃ j, i = j + 1 := ⟨i - 1, by omega⟩
    have := hg (nth t j) (mem_nth.2 ⟨j, by simp at hi2; omega, rfl⟩)
    simpa [nth] using this
theorem ring_back {n : Nat} {D : List Int} (h : IsRing n D.length (nth D)) : IsRing n (backL D).length (nth (backL D)) := by
  cases D with
  | nil => exact absurd h.1.2.1 (by simp)
  | cons a t =>
    obtain ⟨hd, h1, hg⟩ := ring_mem.1 h
    show IsRing n (a :: t.reverse).length (nth (a :: t.reverse))
    refine ring_mem.2 ⟨?_, by simpa using h1, fun x hx => hg x (by simpa using hx)⟩
    rw [diff_mem] at hd ⊢
    refine ⟨fun x hx => hd.1 x (by simpa using hx), ?_⟩
    have := hd.2
    rw [List.nodup_cons] at this ⊢
    refine ⟨by simpa using this.1, ?_⟩
    rw [List.nodup_iff_pairwise_ne, List.pairwise_reverse]
    exact List.Pairwise.imp (fun h e => h e.symm) (List.nodup_iff_pairwise_ne.1 this.2)
theorem gains_back {n : Nat} {Z : Nat → Nat → Int} {D : List Int} (h : Gains n Z D) : Gains n (turnX Z) (backL D) :=
  ⟨ring_back h.1, by rw [roundV_back (by have := h.1.1.2.1; omega)]; exact h.2⟩
theorem turn_turn (Z : Nat → Nat → Int) : turnX (turnX Z) = Z := rfl
theorem mem_gaining {n : Nat} {Z : Nat → Nat → Int} {D : List Int} : D ∈ gaining n Z ↔ Gains n Z D := by
  unfold gaining
  rw [List.mem_filter]
  constructor
  · rintro ⟨_, h⟩; exact tt_iff.1 h
  · intro h; exact ⟨mem_all h.1.1.1 h.1.1.2.1, tt_of h⟩

theorem nodup_flat {α : Type} {f : Nat → List α} : ∀ {l : List Nat}, l.Nodup → (∀ x, x ∈ l → (f x).Nodup) → (∀ x y, x ∈ l → y ∈ l → x ≠ y → ∀ z, z ∈ f x → ¬ z ∈ f y) → (l.flatMap f).Nodup
  | [], _, _, _ => List.nodup_nil
  | x :: l, h, hf, hd => by
    rw [List.flatMap_cons, List.nodup_append]
    rw [List.nodup_cons] at h
    refine ⟨hf x (by simp), nodup_flat h.2 (fun y hy => hf y (by simp [hy])) (fun y z hy hz => hd y z (by simp [hy]) (by simp [hz])), fun a ha b hb e => ?_⟩
    subst e
    rw [List.mem_flatMap] at hb
    obtain ⟨y, hy, hb⟩ := hb
    exact hd x y (by simp) (by simp [hy]) (fun e => h.1 (by rw [e]; exact hy)) a ha hb
theorem longer_pre {n f : Nat} : ∀ (B : List Int) (D : List Int), D ∈ longer n f B → B <+: D := by
  induction f with
  | zero =>
    intro B D h
    unfold longer at h
    by_cases e : 2 ≤ B.length
    · rw [if_pos e] at h; simp at h; subst h; exact List.prefix_refl _
    · rw [if_neg e] at h; simp at h
  | succ f ih =>
    intro B D h
    unfold longer at h
    rw [List.mem_append] at h
    rcases h with h | h
    · by_cases e : 2 ≤ B.length
      · rw [if_pos e] at h; simp at h; subst h; exact List.prefix_refl _
      · rw [if_neg e] at h; simp at h
    · rw [List.mem_flatMap] at h
      obtain ⟨x, hx, h⟩ := h
      by_cases e : (x : Int) ∈ B
      · rw [if_pos e] at h; simp at h
      · rw [if_neg e] at h
        exact (List.prefix_append _ _).trans (ih _ D h)
theorem longer_nodup {n : Nat} : ∀ (f : Nat) (B : List Int), (longer n f B).Nodup
  | 0, B => by
    unfold longer
    by_cases e : 2 ≤ B.length
    · rw [if_pos e]; simp
    · rw [if_neg e]; exact List.nodup_nil
  | f + 1, B => by
    unfold longer
    rw [List.nodup_append]
    refine ⟨?_, ?_, ?_⟩
    · by_cases e : 2 ≤ B.length
      · rw [if_pos e]; simp
      · rw [if_neg e]; exact List.nodup_nil
    · refine nodup_flat List.nodup_range (fun x _ => ?_) (fun x y _ _ hxy z hx hy => ?_)
      · by_cases e : (x : Int) ∈ B
        · rw [if_pos e]; exact List.nodup_nil
        · rw [if_neg e]; exact longer_nodup f _
      · by_cases e : (x : Int) ∈ B
        · rw [if_pos e] at hx; simp at hx
        · by_cases e' : (y : Int) ∈ B
          · rw [if_pos e'] at hy; simp at hy
          · rw [if_neg e] at hx
            rw [if_neg e'] at hy
            obtain ⟨u, hu⟩ := longer_pre _ _ hx
            obtain ⟨v, hv⟩ := longer_pre _ _ hy
            rw [← hv, List.append_assoc, List.append_assoc] at hu
            have := List.append_cancel_left hu
            simp at this
            omega
    · intro a ha b hb e
      subst e
      by_cases e : 2 ≤ B.length
      · rw [if_pos e] at ha
        simp at ha
        subst ha
        rw [List.mem_flatMap] at hb
        obtain ⟨x, hx, hb⟩ := hb
        by_cases e' : (x : Int) ∈ a
        · rw [if_pos e'] at hb; simp at hb
        · rw [if_neg e'] at hb
          have := (longer_pre _ _ hb).length_le
          simp at this
          omega
      · rw [if_neg e] at ha; simp at ha
theorem nodup_le : ∀ {A B : List (List Int)}, A.Nodup → (∀ x, x ∈ A → x ∈ B) → A.length ≤ B.length
  | [], _, _, _ => Nat.zero_le _
  | a :: A, B, h, hs => by
    rw [List.nodup_cons] at h
    have ha := hs a (by simp)
    have h1 : A.length ≤ (B.erase a).length := nodup_le h.2 (fun x hx => (List.mem_erase_of_ne (fun e => h.1 (by rw [← e]; exact hx))).2 (hs x (by simp [hx])))
    rw [List.length_erase_of_mem ha] at h1
    have h2 := List.length_pos_of_mem ha
    simp only [List.length_cons]
    omega
/-- As many gain the other way round. -/
theorem gaining_turn (n : Nat) (Z : Nat → Nat → Int) : (gaining n (turnX Z)).length = (gaining n Z).length := by
  have hnd : ∀ Y, (gaining n Y).Nodup := fun Y => (longer_nodup n []).filter _
  have hle : ∀ Y, (gaining n Y).length ≤ (gaining n (turnX Y)).length := fun Y => by
    have h1 : ((gaining n Y).map backL).Nodup := by
      rw [List.nodup_iff_pairwise_ne, List.pairwise_map]
      refine List.Pairwise.imp ?_ (List.nodup_iff_pairwise_ne.1 (hnd Y))
      intro a b hab e
      exact hab (by rw [← backL_back a, e, backL_back])
    have h2 : ∀ D, D ∈ (gaining n Y).map backL → D ∈ gaining n (turnX Y) := by
      intro D hD
      rw [List.mem_map] at hD
      obtain ⟨E, hE, rfl⟩ := hD
      exact mem_gaining.2 (gains_back (mem_gaining.1 hE))
    have := nodup_le h1 h2
    rwa [List.length_map] at this
  have h1 := hle Z
  have h2 := hle (turnX Z)
  rw [turn_turn] at h2
  omega
end Go.Proofs.Ytmjbocgoinfamaa
