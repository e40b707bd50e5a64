/- The first list with most people, in plain mathematics; trying all ways is joining circles. -/
import Derived.Test.YteigenmagifplaaWantTurnModel
namespace Go.Proofs.Yteigenmagifplaa
set_option linter.unusedVariables false
set_option linter.unusedSimpArgs false
open Go.RowKit

/-- The better one of two lists: that with more people, or the first one. -/
noncomputable def betterL (n : Nat) (b T : List Int) : List Int := if tt (movedN (nth b) n < movedN (nth T) n ∨ movedN (nth T) n = movedN (nth b) n ∧ LessP n (nth T) (nth b)) = true then T else b
noncomputable def bestIn (n : Nat) (b : List Int) (LL : List (List Int)) : List Int := LL.foldl (betterL n) b
theorem better_ge {n : Nat} {b T : List Int} : movedN (nth b) n ≤ movedN (nth (betterL n b T)) n ∧ movedN (nth T) n ≤ movedN (nth (betterL n b T)) n := by
  unfold betterL
  by_cases h : movedN (nth b) n < movedN (nth T) n ∨ movedN (nth T) n = movedN (nth b) n ∧ LessP n (nth T) (nth b)
  · rw [tt_of h, if_pos rfl]; rcases h with h | h <;> omega
  · rw [tt_no h, if_neg (by simp)]
    exact ⟨Nat.le_refl _, by rcases Nat.lt_or_ge (movedN (nth b) n) (movedN (nth T) n) with h' | h'
                             · exact absurd (.inl h') h
                             · exact h'⟩
theorem better_one (n : Nat) (b T : List Int) : betterL n b T = b ∨ betterL n b T = T := by
  unfold betterL
  split
  · exact .inr rfl
  · exact .inl rfl
theorem bestIn_ge {n : Nat} : ∀ (LL : List (List Int)) (b : List Int), movedN (nth b) n ≤ movedN (nth (bestIn n b LL)) n ∧ ∀ T, T ∈ LL → movedN (nth T) n ≤ movedN (nth (bestIn n b LL)) n
  | [], b => ⟨Nat.le_refl _, fun T h => (List.not_mem_nil h).elim⟩
  | X :: LL, b => by
    obtain ⟨h1, h2⟩ := bestIn_ge (n := n) LL (betterL n b X)
    obtain ⟨h3, h4⟩ := better_ge (n := n) (b := b) (T := X)
    refine ⟨Nat.le_trans h3 h1, fun T hT => ?_⟩
    rcases List.mem_cons.1 hT with rfl | hT
    · exact Nat.le_trans h4 h1
    · exact h2 T hT
theorem bestIn_mem {n : Nat} : ∀ (LL : List (List Int)) (b : List Int), bestIn n b LL = b ∨ bestIn n b LL ∈ LL
  | [], b => .inl rfl
  | X :: LL, b => by
    rcases bestIn_mem (n := n) LL (betterL n b X) with h | h
    · show bestIn n (betterL n b X) LL = b ∨ bestIn n (betterL n b X) LL ∈ X :: LL
      rw [h]
      rcases better_one n b X with e | e
      · exact .inl e
      · rw [e]; exact .inr (by simp)
    · exact .inr (List.mem_cons_of_mem _ h)
theorem better_yes1 {n : Nat} {b T : List Int} (h : movedN (nth b) n < movedN (nth T) n) : betterL n b T = T := by unfold betterL; rw [tt_of (.inl h)]; rfl
theorem better_tie {n : Nat} {b T : List Int} (h1 : movedN (nth T) n = movedN (nth b) n) (h2 : LessP n (nth T) (nth b)) : betterL n b T = T := by unfold betterL; rw [tt_of (.inr ⟨h1, h2⟩)]; rfl
theorem better_no {n : Nat} {b T : List Int} (h : ¬ movedN (nth b) n < movedN (nth T) n) (h2 : movedN (nth T) n = movedN (nth b) n → ¬ LessP n (nth T) (nth b)) : betterL n b T = b := by
  unfold betterL; rw [tt_no (fun h3 => h3.elim h fun h4 => h2 h4.1 h4.2)]; rfl
/-- The first list with most people on circles of at most k. -/
noncomputable def bestL (n : Nat) (W : Nat → Int) (k : Nat) : List Int := bestIn n (ownF n) (takesL (circs n W k []) (ownF n) 0)
noncomputable def mostN' (n : Nat) (W : Nat → Int) (k : Nat) : Nat := movedN (nth (bestL n W k)) n
section
variable {n : Nat} {W : Nat → Int}
theorem best_mem (k : Nat) : bestL n W k ∈ takesL (circs n W k []) (ownF n) 0 := by
  rcases bestIn_mem (n := n) (takesL (circs n W k []) (ownF n) 0) (ownF n) with h | h
  · unfold bestL; rw [h]; exact List.mem_cons_self ..
  · exact h
/-- A list by circles that are apart: what each one takes. -/
theorem best_taken (hW : IsWants n W) (k : Nat) : ∃ U, Taken n W (bestL n W k) U := by
  obtain ⟨P, U, _, _, h, _⟩ := unpacked hW (best_mem (W := W) k)
  exact ⟨U, h⟩
theorem most_ge (hW : IsWants n W) {k : Nat} {P : List (List Int)} {m : Nat} (hP : ∀ c, c ∈ P → IsCirc n W c.length (nth c) ∧ c.length ≤ k) (ha : P.Pairwise Apart2) {U : Nat} (hU : ∀ y, y < n → (U.testBit y = true ↔ ∃ c, c ∈ P ∧ (setL c).testBit y = true)) : popN U n ≤ mostN' n W k := by
  obtain ⟨T, V, h1, h2, h3⟩ := packed hW hP ha
  have := (bestIn_ge (n := n) (takesL (circs n W k []) (ownF n) 0) (ownF n)).2 T h1
  rw [h2.moved] at this
  rw [pop_congr (V := V) n fun y hy => (hU y hy).trans (h3 y).symm]
  exact this
theorem most_is (hW : IsWants n W) (k : Nat) : ∃ (P : List (List Int)) (U : Nat), (∀ c, c ∈ P → IsCirc n W c.length (nth c) ∧ c.length ≤ k) ∧ P.Pairwise Apart2 ∧ Taken n W (bestL n W k) U ∧ (∀ y, U.testBit y = true ↔ ∃ c, c ∈ P ∧ (setL c).testBit y = true) ∧ mostN' n W k = popN U n := by
  obtain ⟨P, U, h1, h2, h3, h4⟩ := unpacked hW (best_mem (W := W) k)
  exact ⟨P, U, h1, h2, h3, h4, h3.moved⟩
/-- Longer circles help. -/
theorem most_mono (hW : IsWants n W) {k l : Nat} (h : k ≤ l) : mostN' n W k ≤ mostN' n W l := by
  obtain ⟨P, U, h1, h2, _, h4, h5⟩ := most_is hW k
  rw [h5]
  exact most_ge (m := 0) hW (fun c hc => ⟨(h1 c hc).1, Nat.le_trans (h1 c hc).2 h⟩) h2 fun y _ => h4 y
theorem most_zero (hW : IsWants n W) (k : Nat) : mostN' n W k = 0 ↔ circs n W k [] = [] := by
  constructor
  · intro h
    cases e : circs n W k [] with
    | nil => rfl
    | cons c CC =>
      have hc := mem_circs.1 (show c ∈ circs n W k [] by rw [e]; simp)
      have h1 := most_ge (m := 0) hW (P := [c]) (k := k) (U := setL c) (fun d hd => by rw [List.mem_singleton] at hd; subst hd; exact hc) (List.pairwise_singleton _ _) (fun y _ => by simp)
      have h2 := hc.1.2.2.2
      have h3 := (setL_bit hc.1 (y := (nth c 0).toNat)).2 ⟨0, by omega, by have := hc.1.1.1 0 (by omega); omega⟩
      have := pop_pos (setL_ppl hc.1 h3) h3
      omega
  · intro h
    obtain ⟨P, U, h1, _, _, h4, h5⟩ := most_is hW k
    cases P with
    | nil =>
      rw [h5]
      rw [pop_congr (V := 0) n fun y _ => by rw [h4 y]; simp]
      have h0 : ∀ m, popN 0 m = 0 := fun m => by
        induction m with
        | zero => rfl
        | succ m ih => show popN 0 m + _ = 0; rw [ih]; simp
      exact h0 n
    | cons c P =>
      have := mem_circs.2 (h1 c (by simp))
      rw [h] at this
      exact (List.not_mem_nil this).elim
theorem turn_most_le (hW : IsWants n W) (k : Nat) : mostN' n W k ≤ mostN' n (turnW n W) k := by
  obtain ⟨P, U, h1, h2, _, h4, h5⟩ := most_is hW k
  rw [h5]
  refine most_ge (m := 0) (turn_is hW) (P := P.map revL) (fun c hc => ?_) ?_ fun y _ => ?_
  · obtain ⟨d, hd, rfl⟩ := List.mem_map.1 hc
    exact ⟨revL_circ (h1 d hd).1, by rw [revL_len]; exact (h1 d hd).2⟩
  · rw [List.pairwise_map]
    exact h2.imp_of_mem fun {a b} ha hb h => by
      unfold Apart2 at h ⊢
      rw [revL_set (h1 a ha).1, revL_set (h1 b hb).1]; exact h
  · rw [h4 y]
    constructor
    · rintro ⟨c, hc, h⟩
      exact ⟨revL c, List.mem_map.2 ⟨c, hc, rfl⟩, by rw [revL_set (h1 c hc).1]; exact h⟩
    · rintro ⟨c, hc, h⟩
      obtain ⟨d, hd, rfl⟩ := List.mem_map.1 hc
      exact ⟨d, hd, by rw [revL_set (h1 d hd).1] at h; exact h⟩
theorem wants_most_le {V : Nat → Int} (hW : IsWants n W) (hV : IsWants n V) (h : ∀ i k, i < n → k < n → WantsB W i k = true → WantsB V i k = true) (k : Nat) : mostN' n W k ≤ mostN' n V k := by
  obtain ⟨P, U, h1, h2, _, h4, h5⟩ := most_is hW k
  rw [h5]
  exact most_ge (m := 0) hV (fun c hc => ⟨circ_wants h (h1 c hc).1, (h1 c hc).2⟩) h2 fun y _ => h4 y
/-- Wants turned round have as many people on circles. -/
theorem turn_most (hW : IsWants n W) (k : Nat) : mostN' n (turnW n W) k = mostN' n W k := by
  have h1 := turn_most_le hW k
  have h2 := turn_most_le (turn_is hW) k
  have h3 := wants_most_le (turn_is (turn_is hW)) hW (fun i j hi hj h => by unfold WantsB at h ⊢; rwa [turn_twice hW hi] at h) k
  omega
theorem most_le (n : Nat) (W : Nat → Int) (k : Nat) : mostN' n W k ≤ n := movedN_le _ n

/-- Each one takes what is wanted, or keeps the own thing, and nothing is taken twice. -/
def PermOk (n : Nat) (W : Nat → Int) (T : List Int) : Prop := T.length = n ∧ IsDiff n n (nth T) ∧ ∀ i, i < n → nth T i = i ∨ WantsB W i (nth T i).toNat = true
theorem Taken.perm {T : List Int} {U : Nat} (h : Taken n W T U) : PermOk n W T := by
  obtain ⟨h1, h2, h3, h4, h5⟩ := h
  have hr : ∀ i, i < n → ∃ y : Nat, nth T i = y ∧ y < n ∧ (y = i ∨ WantsB W i y = true) := fun i hi => by
    cases e : U.testBit i with
    | false => exact ⟨i, h3 i hi e, hi, .inl rfl⟩
    | true =>
      obtain ⟨j, e1, e2, _, e4⟩ := h4 i e
      exact ⟨j, e1, h2 j e2, .inr e4⟩
  refine ⟨h1, ⟨fun i hi => ?_, fun i j hij hj e => ?_⟩, fun i hi => ?_⟩
  · obtain ⟨y, e1, e2, _⟩ := hr i hi
    omega
  · have := h5 i j (by omega) hj e
    omega
  · obtain ⟨y, e1, _, e3⟩ := hr i hi
    rw [e1, Int.toNat_natCast]
    exact e3.imp (fun h => by omega) id
theorem movedN_mono {X Y : Nat → Int} : ∀ (k : Nat), (∀ y, y < k → X y ≠ y → Y y ≠ y) → movedN X k ≤ movedN Y k
  | 0, _ => Nat.le_refl _
  | k + 1, h => by
    have ih := movedN_mono k fun y hy => h y (by omega)
    show movedN X k + (if X k = k then 0 else 1) ≤ movedN Y k + (if Y k = k then 0 else 1)
    by_cases e : X k = k
    · rw [if_pos e]; split <;> omega
    · rw [if_neg e, if_neg (h k (by omega) e)]; omega
theorem movedN_lt {X Y : Nat → Int} : ∀ {k y : Nat}, (∀ y, y < k → X y ≠ y → Y y ≠ y) → y < k → X y = y → Y y ≠ y → movedN X k < movedN Y k
  | 0, _, _, h, _, _ => absurd h (Nat.not_lt_zero _)
  | k + 1, y, h, hy, hx, hne => by
    show movedN X k + (if X k = k then 0 else 1) < movedN Y k + (if Y k = k then 0 else 1)
    by_cases ey : y = k
    · subst ey
      have := movedN_mono y fun z hz => h z (by omega)
      rw [if_pos hx, if_neg hne]; omega
    · have := movedN_lt (k := k) (fun z hz => h z (by omega)) (by omega) hx hne
      by_cases e : X k = k
      · rw [if_pos e]; split <;> omega
      · rw [if_neg e, if_neg (h k (by omega) e)]; omega
/-- A way to take all is circles that are apart. -/
theorem perm_circs (hW : IsWants n W) : ∀ (s : Nat) (T : List Int), movedN (nth T) n ≤ s → PermOk n W T → ∃ P : List (List Int), (∀ c, c ∈ P → IsCirc n W c.length (nth c)) ∧ P.Pairwise Apart2 ∧ ∀ y, (∃ c, c ∈ P ∧ (setL c).testBit y = true) ↔ y < n ∧ nth T y ≠ y := by
  intro s
  induction s with
  | zero =>
    intro T hs hT
    refine ⟨[], fun c hc => (List.not_mem_nil hc).elim, List.Pairwise.nil, fun y => ?_⟩
    constructor
    · rintro ⟨c, hc, _⟩; exact (List.not_mem_nil hc).elim
    · rintro ⟨h1, h2⟩
      have h3 := movedN_lt (X := fun y => (y : Int)) (Y := nth T) (k := n) (y := y) (fun z _ h => absurd rfl h) h1 rfl h2
      omega
  | succ s ih =>
    intro T hs hT
    obtain ⟨hl, hd, hw⟩ := hT
    by_cases hm : ∃ y, y < n ∧ nth T y ≠ y
    · obtain ⟨y0, hy0, hne0⟩ := hm
      obtain ⟨i0, hi0, hmi, hfirst⟩ := least_place (P := fun y => nth T y ≠ y) hy0 hne0
      have hi0n : i0 < n := by omega
      obtain ⟨f, hf⟩ : ∃ f : Nat → Nat, f = fun i => (nth T i).toNat := ⟨_, rfl⟩
      have hfn : ∀ i, i < n → f i < n := fun i hi => by have := hd.1 i hi; rw [hf]; show (nth T i).toNat < n; omega
      have hfT : ∀ i, i < n → nth T i = (f i : Nat) := fun i hi => by have := hd.1 i hi; rw [hf]; show nth T i = ((nth T i).toNat : Int); omega
      have hfi : ∀ i j, i < n → j < n → f i = f j → i = j := fun i j hi hj e => by
        have h1 := hfT i hi
        have h2 := hfT j hj
        rcases Nat.lt_trichotomy i j with h | h | h
        · exact absurd (by rw [h1, h2, e]) (hd.2 i j h hj)
        · exact h
        · exact absurd (by rw [h1, h2, e]) (hd.2 j i h hi)
      have hin : ∀ k, itW f k i0 < n := fun k => by
        induction k with
        | zero => exact hi0n
        | succ k ih => exact hfn _ ih
      have hback : ∀ a b, itW f (a + b) i0 = itW f a i0 → itW f b i0 = i0 := fun a => by
        induction a with
        | zero => intro b h; rwa [Nat.zero_add] at h
        | succ a iha =>
          intro b h
          rw [show a + 1 + b = (a + b) + 1 by omega] at h
          exact iha b (hfi _ _ (hin _) (hin _) h)
      have hcirc : ∃ r, 1 ≤ r ∧ itW f r i0 = i0 := by
        obtain ⟨a, b, hab, hb, e⟩ := twice_of n (List.range n) (fun k => itW f k i0) (by simp) (fun i _ => List.mem_range.2 (hin i))
        refine ⟨b - a, by omega, hback a (b - a) ?_⟩
        rw [show a + (b - a) = b by omega]; exact e.symm
      obtain ⟨r0, hr0, hr0e⟩ := hcirc
      obtain ⟨r, hr, ⟨hr1, hre⟩, hrf⟩ := least_place (P := fun r => 1 ≤ r ∧ itW f r i0 = i0) (show r0 < r0 + 1 by omega) ⟨hr0, hr0e⟩
      have hdist : ∀ a b, a < b → b < r → itW f a i0 ≠ itW f b i0 := fun a b hab hb e => by
        have := hback a (b - a) (by rw [show a + (b - a) = b by omega]; exact e.symm)
        exact hrf (b - a) (by omega) ⟨by omega, this⟩
      have hmv : ∀ k, nth T (itW f k i0) ≠ (itW f k i0 : Nat) := fun k => by
        induction k with
        | zero => exact hmi
        | succ k ihk =>
          intro e
          have h1 := hfT _ (hin (k + 1))
          rw [e] at h1
          have h2 : itW f (k + 1) i0 = itW f k i0 := hfi _ _ (hin _) (hin _) (by
            have h3 : f (itW f (k + 1) i0) = itW f (k + 1) i0 := by omega
            rw [h3]; rfl)
          apply ihk
          rw [hfT _ (hin k)]
          have h4 : f (itW f k i0) = itW f (k + 1) i0 := rfl
          rw [h4, h2]
      have hge : ∀ k, i0 ≤ itW f k i0 := fun k => by
        rcases Nat.lt_or_ge (itW f k i0) i0 with h | h
        · exact absurd (hmv k) (hfirst _ h)
        · exact h
      have hr2 : 2 ≤ r := by
        rcases Nat.lt_or_ge r 2 with h | h
        · have e : r = 1 := by omega
          rw [e] at hre
          have h1 := hfT i0 hi0n
          have h2 : f i0 = i0 := hre
          rw [h2] at h1
          exact absurd h1 hmi
        · exact h
      obtain ⟨c, hc⟩ : ∃ c : List Int, c = (List.range r).map fun j => ((itW f j i0 : Nat) : Int) := ⟨_, rfl⟩
      have hcl : c.length = r := by rw [hc]; simp
      have hcn : ∀ j, j < r → nth c j = (itW f j i0 : Nat) := fun j hj => by rw [hc]; exact nth_map hj
      have hcc : IsCirc n W c.length (nth c) := by
        rw [hcl]
        refine ⟨⟨fun j hj => ?_, fun a b hab hb e => ?_⟩, fun j h0 hj => ?_, fun j hj => ?_, hr2⟩
        · rw [hcn j hj]; have := hin j; omega
        · rw [hcn a (by omega), hcn b hb] at e
          exact hdist a b hab hb (by omega)
        · rw [hcn j hj, hcn 0 (by omega)]
          have h1 := hge j
          have h2 := hdist 0 j h0 hj
          have h3 : itW f 0 i0 = i0 := rfl
          rw [h3] at h2 ⊢
          omega
        · have h1 : nth c ((j + 1) % r) = (f (itW f j i0) : Nat) := by
            rw [hcn _ (Nat.mod_lt _ (by omega))]
            by_cases e : j + 1 = r
            · rw [e, Nat.mod_self]
              have : f (itW f j i0) = itW f (j + 1) i0 := rfl
              rw [this, e, hre]; rfl
            · rw [Nat.mod_eq_of_lt (by omega)]; rfl
          rw [h1, hcn j hj, Int.toNat_natCast, Int.toNat_natCast]
          rcases hw _ (hin j) with h2 | h2
          · exact absurd h2 (hmv j)
          · rw [hfT _ (hin j), Int.toNat_natCast] at h2; exact h2
      have hset : ∀ y, (setL c).testBit y = true ↔ ∃ j, j < r ∧ itW f j i0 = y := fun y => by
        rw [setL_bit hcc, hcl]
        constructor
        · rintro ⟨j, hj, e⟩; rw [hcn j hj] at e; exact ⟨j, hj, by omega⟩
        · rintro ⟨j, hj, e⟩; exact ⟨j, hj, by rw [hcn j hj, e]⟩
      have hpre : ∀ y, y < n → (setL c).testBit (f y) = true → (setL c).testBit y = true := fun y hy h => by
        obtain ⟨j, hj, e⟩ := (hset _).1 h
        cases j with
        | zero =>
          have h1 : f (itW f (r - 1) i0) = itW f r i0 := by
            have : itW f (r - 1 + 1) i0 = f (itW f (r - 1) i0) := rfl
            rw [← this, show r - 1 + 1 = r by omega]
          have h2 : itW f 0 i0 = i0 := rfl
          have := hfi y (itW f (r - 1) i0) hy (hin _) (by rw [h1, hre, ← e, h2])
          exact (hset y).2 ⟨r - 1, by omega, this.symm⟩
        | succ j =>
          have := hfi y (itW f j i0) hy (hin _) e.symm
          exact (hset y).2 ⟨j, by omega, this.symm⟩
      obtain ⟨T', hT'⟩ : ∃ T' : List Int, T' = (List.range n).map fun i => if (setL c).testBit i = true then (i : Int) else nth T i := ⟨_, rfl⟩
      have hT'n : ∀ i, i < n → nth T' i = if (setL c).testBit i = true then (i : Int) else nth T i := fun i hi => by rw [hT']; exact nth_map hi
      have hok : PermOk n W T' := by
        refine ⟨by rw [hT']; simp, ⟨fun i hi => ?_, fun i j hij hj e => ?_⟩, fun i hi => ?_⟩
        · rw [hT'n i hi]
          split
          · omega
          · exact hd.1 i hi
        · rw [hT'n i (by omega), hT'n j hj] at e
          by_cases e1 : (setL c).testBit i = true
          · rw [if_pos e1] at e
            by_cases e2 : (setL c).testBit j = true
            · rw [if_pos e2] at e; omega
            · rw [if_neg e2, hfT j hj] at e
              exact e2 (hpre j hj (by rw [show f j = i by omega]; exact e1))
          · rw [if_neg e1] at e
            by_cases e2 : (setL c).testBit j = true
            · rw [if_pos e2, hfT i (by omega)] at e
              exact e1 (hpre i (by omega) (by rw [show f i = j by omega]; exact e2))
            · rw [if_neg e2] at e; exact hd.2 i j hij hj e
        · rw [hT'n i hi]
          split
          · exact .inl rfl
          · exact hw i hi
      have h0c : (setL c).testBit i0 = true := (hset i0).2 ⟨0, by omega, rfl⟩
      have hless := movedN_lt (X := nth T') (Y := nth T) (k := n) (y := i0) (fun y hy h => by
        rw [hT'n y hy] at h
        by_cases e : (setL c).testBit y = true
        · rw [if_pos e] at h; exact absurd rfl h
        · rw [if_neg e] at h; exact h) hi0n (by rw [hT'n i0 hi0n, if_pos h0c]) hmi
      obtain ⟨P, h1, h2, h3⟩ := ih T' (by omega) hok
      refine ⟨c :: P, fun d hd' => ?_, List.pairwise_cons.2 ⟨fun d hd' => ?_, h2⟩, fun y => ?_⟩
      · rcases List.mem_cons.1 hd' with rfl | hd'
        · exact hcc
        · exact h1 d hd'
      · unfold Apart2
        rw [and_zero]
        intro y hy
        cases e : (setL d).testBit y with
        | false => rfl
        | true =>
          have := (h3 y).1 ⟨d, hd', e⟩
          rw [hT'n y this.1, if_pos hy] at this
          exact absurd rfl this.2
      · constructor
        · rintro ⟨d, hd', e⟩
          rcases List.mem_cons.1 hd' with rfl | hd'
          · obtain ⟨j, hj, e2⟩ := (hset y).1 e
            rw [← e2]
            exact ⟨hin j, hmv j⟩
          · have := (h3 y).1 ⟨d, hd', e⟩
            refine ⟨this.1, ?_⟩
            have h4 := this.2
            rw [hT'n y this.1] at h4
            by_cases e3 : (setL c).testBit y = true
            · rw [if_pos e3] at h4; exact absurd rfl h4
            · rw [if_neg e3] at h4; exact h4
        · rintro ⟨h4, h5⟩
          by_cases e3 : (setL c).testBit y = true
          · exact ⟨c, by simp, e3⟩
          · obtain ⟨d, hd', e⟩ := (h3 y).2 ⟨h4, by rw [hT'n y h4, if_neg e3]; exact h5⟩
            exact ⟨d, by simp [hd'], e⟩
    · refine ⟨[], fun c hc => (List.not_mem_nil hc).elim, List.Pairwise.nil, fun y => ?_⟩
      constructor
      · rintro ⟨c, hc, _⟩; exact (List.not_mem_nil hc).elim
      · intro h; exact absurd ⟨y, h⟩ hm
/-- No way takes more. -/
theorem perm_most (hW : IsWants n W) {T : List Int} (hT : PermOk n W T) : movedN (nth T) n ≤ mostN' n W n := by
  obtain ⟨P, h1, h2, h3⟩ := perm_circs hW _ T (Nat.le_refl _) hT
  have hm := maskW_bit (fun y => tt (nth T y ≠ y)) n
  have hU : ∀ y, y < n → ((maskW (fun y => tt (nth T y ≠ y)) n).testBit y = true ↔ nth T y ≠ y) := fun y hy => by
    rw [hm y, Bool.and_eq_true, decide_eq_true_iff, tt_iff]
    exact ⟨fun h => h.2, fun h => ⟨hy, h⟩⟩
  rw [moved_pop n hU]
  exact most_ge (m := 0) hW (fun c hc => ⟨h1 c hc, diff_le (h1 c hc).1⟩) h2 fun y hy => by
    rw [hU y hy, h3 y]
    exact ⟨fun h => ⟨hy, h⟩, fun h => h.2⟩
end
end Go.Proofs.Yteigenmagifplaa
