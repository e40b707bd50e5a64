/- What the circles of wants are, in plain mathematics: just those that begin so; in order, each one once; not too many. -/
import Derived.Test.YtnaegnjgpnakfaaDoorWantCircles
namespace Go.Proofs.YtnaegnjgpnakfaaDoor
set_option linter.unusedVariables false
set_option linter.unusedSimpArgs false
open Go.RowKit

section
variable {n : Nat} {W : Nat → Int}
theorem mem_circ1 {B D : List Int} : D ∈ circ1 n W B ↔ IsCirc n W D.length (nth D) ∧ D = B := by
  unfold circ1
  by_cases h : IsCirc n W B.length (nth B)
  · rw [tt_of h, if_pos rfl, List.mem_singleton]
    exact ⟨fun e => by subst e; exact ⟨h, rfl⟩, fun e => e.2⟩
  · rw [tt_no h, if_neg (by simp)]
    exact ⟨fun e => (List.not_mem_nil e).elim, fun e => by obtain ⟨h1, rfl⟩ := e; exact absurd h1 h⟩
theorem nth_prefix {B D : List Int} (h : B <+: D) {i : Nat} (hi : i < B.length) : nth D i = nth B i := by
  obtain ⟨z, rfl⟩ := h
  unfold nth
  rw [List.getD_eq_getElem?_getD, List.getD_eq_getElem?_getD, List.getElem?_append_left hi]
theorem circs_mem : ∀ (f : Nat) (B D : List Int), D ∈ circs n W f B → IsCirc n W D.length (nth D) ∧ B <+: D ∧ D.length ≤ B.length + f
  | 0, B, D, h => by
    obtain ⟨h1, rfl⟩ := mem_circ1.1 (show D ∈ circ1 n W B from h)
    exact ⟨h1, List.prefix_refl _, by omega⟩
  | f + 1, B, D, h => by
    have h' : D ∈ circ1 n W B ++ (List.range n).flatMap fun (x : Nat) => if tt (GoesOn W B x) = true then circs n W f (B ++ [(x : Int)]) else [] := h
    rw [List.mem_append, List.mem_flatMap] at h'
    rcases h' with h' | ⟨x, _, h'⟩
    · obtain ⟨h1, rfl⟩ := mem_circ1.1 h'
      exact ⟨h1, List.prefix_refl _, by omega⟩
    · by_cases e : tt (GoesOn W B x) = true
      · rw [if_pos e] at h'
        obtain ⟨h1, h2, h3⟩ := circs_mem f _ D h'
        rw [List.length_append] at h3
        exact ⟨h1, (List.prefix_append _ _).trans h2, by simp only [List.length_cons, List.length_nil] at h3; omega⟩
      · rw [if_neg e] at h'; cases h'
theorem circs_all : ∀ (f : Nat) (B D : List Int), IsCirc n W D.length (nth D) → B <+: D → D.length ≤ B.length + f → D ∈ circs n W f B
  | 0, B, D, hc, hp, hl => by
    have e : B = D := hp.eq_of_length (by have := hp.length_le; omega)
    exact mem_circ1.2 ⟨hc, e.symm⟩
  | f + 1, B, D, hc, hp, hl => by
    show D ∈ circ1 n W B ++ (List.range n).flatMap fun (x : Nat) => if tt (GoesOn W B x) = true then circs n W f (B ++ [(x : Int)]) else []
    rw [List.mem_append, List.mem_flatMap]
    by_cases e : B.length = D.length
    · exact .inl (mem_circ1.2 ⟨hc, (hp.eq_of_length e).symm⟩)
    · right
      have hlt : B.length < D.length := by have := hp.length_le; omega
      have hr := hc.1.1 B.length hlt
      obtain ⟨x, hx⟩ := Int.eq_ofNat_of_zero_le hr.1
      have hxn : x < n := by have := hr.2; omega
      have hp2 : B ++ [(x : Int)] <+: D := by
        obtain ⟨z, rfl⟩ := hp
        have hz : 0 < z.length := by rw [List.length_append] at hlt; omega
        obtain ⟨y, ys, rfl⟩ := List.exists_cons_of_length_pos hz
        have : nth (B ++ y :: ys) B.length = y := by
          unfold nth
          rw [List.getD_eq_getElem?_getD, List.getElem?_append_right (Nat.le_refl _)]
          simp
        rw [this] at hx
        rw [hx]
        exact ⟨ys, by simp⟩
      have hg : GoesOn W B x := by
        refine ⟨fun i hi => ⟨fun e2 => ?_, ?_⟩, ?_⟩
        · rw [← nth_prefix hp hi] at e2
          exact hc.1.2 i B.length hi hlt (by rw [e2, hx])
        · rw [← nth_prefix hp (show 0 < B.length by omega), ← hx]
          exact hc.2.1 B.length (by omega) hlt
        · by_cases h0 : B.length = 0
          · exact .inl h0
          · right
            have h1 := hc.2.2.1 (B.length - 1) (by omega)
            rw [show B.length - 1 + 1 = B.length by omega, Nat.mod_eq_of_lt hlt, hx, Int.toNat_natCast, nth_prefix hp (by omega)] at h1
            exact h1
      refine ⟨x, List.mem_range.2 hxn, ?_⟩
      rw [tt_of hg, if_pos rfl]
      exact circs_all f _ D hc hp2 (by rw [List.length_append]; simp only [List.length_cons, List.length_nil]; omega)
/-- The circles of at most k: just these. -/
theorem mem_circs {k : Nat} {D : List Int} : D ∈ circs n W k [] ↔ IsCirc n W D.length (nth D) ∧ D.length ≤ k := by
  constructor
  · intro h
    obtain ⟨h1, _, h3⟩ := circs_mem k [] D h
    exact ⟨h1, by simpa using h3⟩
  · rintro ⟨h1, h2⟩
    exact circs_all k [] D h1 List.nil_prefix (by simpa using h2)
/-- Each one once. -/
theorem circs_nodup : ∀ (f : Nat) (B : List Int), (circs n W f B).Nodup
  | 0, B => by
    show (circ1 n W B).Nodup
    unfold circ1
    by_cases h : tt (IsCirc n W B.length (nth B)) = true
    · rw [if_pos h]; simp
    · rw [if_neg h]; simp
  | f + 1, B => by
    show (circ1 n W B ++ (List.range n).flatMap fun (x : Nat) => if tt (GoesOn W B x) = true then circs n W f (B ++ [(x : Int)]) else []).Nodup
    have hone : (circ1 n W B).Nodup := circs_nodup 0 B
    rw [List.nodup_append]
    refine ⟨hone, ?_, fun D hD D' hD' e => ?_⟩
    · unfold List.Nodup
      rw [List.pairwise_flatMap]
      refine ⟨fun x _ => ?_, (List.pairwise_lt_range (n := n)).imp fun {x y} hxy D hD D' hD' e => ?_⟩
      · by_cases e : tt (GoesOn W B x) = true
        · simp only [e, if_true]; exact circs_nodup f _
        · simp [e]
      · subst e
        by_cases e1 : tt (GoesOn W B x) = true
        · by_cases e2 : tt (GoesOn W B y) = true
          · simp only [e1, e2, if_true] at hD hD'
            have p1 := nth_prefix (circs_mem f _ _ hD).2.1 (i := B.length) (by simp)
            have p2 := nth_prefix (circs_mem f _ _ hD').2.1 (i := B.length) (by simp)
            have a1 : nth (B ++ [(x : Int)]) B.length = x := by unfold nth; simp
            have a2 : nth (B ++ [(y : Int)]) B.length = y := by unfold nth; simp
            rw [p1, a1, a2] at p2
            omega
          · simp [e2] at hD'
        · simp [e1] at hD
    · subst e
      obtain ⟨_, rfl⟩ := mem_circ1.1 hD
      obtain ⟨x, _, h⟩ := List.mem_flatMap.1 hD'
      by_cases e1 : tt (GoesOn W D x) = true
      · simp only [e1, if_true] at h
        have := (circs_mem f _ _ h).2.1.length_le
        simp at this
        omega
      · simp [e1] at h
end
/-- Different numbers of a range, said of members. -/
theorem diff_members {n : Nat} {D : List Int} : Diff n D ↔ (∀ x, x ∈ D → 0 ≤ x ∧ x < n) ∧ D.Nodup := by
  constructor
  · intro h
    refine ⟨fun x hx => ?_, ?_⟩
    · obtain ⟨j, hj, rfl⟩ := mem_nth.1 hx
      exact h.1 j hj
    · rw [List.nodup_iff_pairwise_ne, List.pairwise_iff_getElem]
      intro i j hi hj hij e
      refine h.2 i j hij hj ?_
      unfold nth
      rw [List.getD_eq_getElem?_getD, List.getD_eq_getElem?_getD, List.getElem?_eq_getElem hi, List.getElem?_eq_getElem hj]
      exact e
  · rintro ⟨h1, h2⟩
    refine ⟨fun i hi => h1 _ (mem_nth.2 ⟨i, hi, rfl⟩), fun i j hij hj e => ?_⟩
    rw [List.nodup_iff_pairwise_ne, List.pairwise_iff_getElem] at h2
    refine h2 i j (by omega) hj hij ?_
    unfold nth at e
    rw [List.getD_eq_getElem?_getD, List.getD_eq_getElem?_getD, List.getElem?_eq_getElem (show i < D.length by omega), List.getElem?_eq_getElem hj] at e
    exact e
/-- As many numbers of the range are left as are not used. -/
theorem few_new {n : Nat} {B : List Int} (hd : Diff n B) : ((List.range n).filter fun (x : Nat) => !decide ((x : Int) ∈ B)).length + B.length ≤ n := by
  have h0 := diff_members.1 hd
  have hD : Diff n (B ++ ((List.range n).filter fun (x : Nat) => !decide ((x : Int) ∈ B)).map fun (x : Nat) => (x : Int)) := by
    refine diff_members.2 ⟨fun x hx => ?_, ?_⟩
    · rcases List.mem_append.1 hx with h | h
      · exact h0.1 x h
      · obtain ⟨y, hy, rfl⟩ := List.mem_map.1 h
        have := List.mem_range.1 (List.mem_filter.1 hy).1
        exact ⟨by omega, by omega⟩
    · rw [List.nodup_append]
      refine ⟨h0.2, ?_, fun x hx y hy e => ?_⟩
      · unfold List.Nodup
        rw [List.pairwise_map]
        exact ((List.pairwise_lt_range (n := n)).filter _).imp fun {a b} h e => by omega
      · subst e
        obtain ⟨z, hz, rfl⟩ := List.mem_map.1 hy
        have := (List.mem_filter.1 hz).2
        simp [hx] at this
  have := diff_le hD
  rw [List.length_append, List.length_map] at this
  omega
theorem flat_few {g : Nat → List (List Int)} {p : Nat → Bool} {q : Nat} : ∀ {l : List Nat}, (∀ x, x ∈ l → p x = true → (g x).length ≤ q) → (∀ x, x ∈ l → p x = false → g x = []) → (l.flatMap g).length ≤ (l.filter p).length * q
  | [], _, _ => by simp
  | x :: l, h, h' => by
    have ih := flat_few (g := g) (p := p) (q := q) (l := l) (fun y hy => h y (by simp [hy])) (fun y hy => h' y (by simp [hy]))
    rw [List.flatMap_cons, List.length_append]
    cases e : p x with
    | true =>
      have h1 := h x (by simp) e
      rw [List.filter_cons_of_pos e, List.length_cons, Nat.add_mul]
      omega
    | false =>
      rw [h' x (by simp) e, List.filter_cons_of_neg (by simp [e])]
      simpa using ih
/-- How many lists of different numbers begin so, r numbers being left. -/
def eN : Nat → Nat
  | 0 => 1
  | r + 1 => 1 + (r + 1) * eN r
theorem eN_mono {r s : Nat} (h : r ≤ s) : eN r ≤ eN s := by
  induction s with
  | zero => have : r = 0 := by omega
            subst this; exact Nat.le_refl _
  | succ s ih =>
    by_cases e : r = s + 1
    · subst e; exact Nat.le_refl _
    · have h1 := ih (by omega)
      have h2 : eN s ≤ (s + 1) * eN s := Nat.le_mul_of_pos_left _ (by omega)
      show eN r ≤ 1 + (s + 1) * eN s
      omega
theorem circs_few {n : Nat} {W : Nat → Int} : ∀ (f : Nat) (B : List Int), Diff n B → (circs n W f B).length ≤ eN (n - B.length)
  | 0, B, _ => by
    have h1 := circ1_le (n := n) (W := W) (B := B)
    have h2 := eN_mono (Nat.zero_le (n - B.length))
    show (circ1 n W B).length ≤ _
    have h3 : eN 0 = 1 := rfl
    omega
  | f + 1, B, hd => by
    have h1 := circ1_le (n := n) (W := W) (B := B)
    have hb := diff_le hd
    have hfew := few_new hd
    have h2 := flat_few (g := fun (x : Nat) => if tt (GoesOn W B x) = true then circs n W f (B ++ [(x : Int)]) else []) (p := fun (x : Nat) => !decide ((x : Int) ∈ B)) (q := eN (n - B.length - 1)) (l := List.range n) (fun x hx hp => by
      by_cases e : tt (GoesOn W B x) = true
      · simp only [e, if_true]
        have := circs_few (W := W) f (B ++ [(x : Int)]) ((hd.snoc_iff (List.mem_range.1 hx)).2 (goes_new (tt_iff.1 e)))
        rw [List.length_append, List.length_cons, List.length_nil, show n - (B.length + (0 + 1)) = n - B.length - 1 by omega] at this
        exact this
      · simp [e]) (fun x hx hp => by
      have hin : (x : Int) ∈ B := by simpa using hp
      rw [tt_no (fun h => goes_new h hin)]
      rfl)
    show (circ1 n W B ++ _).length ≤ _
    rw [List.length_append]
    by_cases h0 : n - B.length = 0
    · have h3 : ((List.range n).filter fun (x : Nat) => !decide ((x : Int) ∈ B)).length = 0 := by omega
      rw [h3, Nat.zero_mul] at h2
      rw [h0]
      show _ ≤ 1
      omega
    · obtain ⟨r, hr⟩ : ∃ r, n - B.length = r + 1 := ⟨n - B.length - 1, by omega⟩
      rw [hr] at h2 ⊢
      have h4 : ((List.range n).filter fun (x : Nat) => !decide ((x : Int) ∈ B)).length * eN (r + 1 - 1) ≤ (r + 1) * eN r := Nat.mul_le_mul_right _ (by omega)
      show _ ≤ 1 + (r + 1) * eN r
      omega
/-- There are at most 1957 circles. -/
theorem circs_small {n : Nat} {W : Nat → Int} (hn : n ≤ 6) (k : Nat) : (circs n W k []).length ≤ 1957 := by
  have h1 := circs_few (W := W) k [] (Diff.nil n)
  have h2 := eN_mono (show n - ([] : List Int).length ≤ 6 by simp; omega)
  have h3 : eN 6 = 1957 := by decide
  omega
end Go.Proofs.YtnaegnjgpnakfaaDoor
