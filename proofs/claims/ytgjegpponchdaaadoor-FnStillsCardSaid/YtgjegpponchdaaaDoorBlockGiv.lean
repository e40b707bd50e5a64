/- Sets that block a giving, in plain mathematics: what the program's search finds. -/
/- Sets that block a giving, told by another giving. -/
/- The givings that are firm, in plain mathematics. -/
/- Good givings, in plain mathematics. -/
import Derived.Test.YtgjegpponchdaaaDoorWishes
import Derived.Test.YtgjegpponchdaaaDoorGivsModel
namespace Go.Proofs.YtgjegpponchdaaaDoor
set_option linter.unusedVariables false
set_option linter.unusedSimpArgs false
open Go.RowKit

/-- May the people of S be given different houses of H, none liked less than what G gives, and one better (or b)? -/
def ImpP (n : Nat) (Z : Nat → Nat → Int) (G : Nat → Int) (S H : Nat) (b : Bool) : Prop :=
  ∃ h : Nat → Nat, (∀ i, S.testBit i = true → H.testBit (h i) = true ∧ idxF (Z i) (h i : Nat) n ≤ idxF (Z i) (G i) n) ∧
    (∀ i j, S.testBit i = true → S.testBit j = true → h i = h j → i = j) ∧ (b = true ∨ ∃ i, S.testBit i = true ∧ ((h i : Nat) : Int) ≠ G i)
theorem impP_zero {n : Nat} {Z : Nat → Nat → Int} {G : Nat → Int} {H : Nat} {b : Bool} : ImpP n Z G 0 H b ↔ b = true := by
  constructor
  · rintro ⟨h, _, _, (h3 | ⟨i, hi, _⟩)⟩
    · exact h3
    · simp at hi
  · intro hb
    exact ⟨fun i => i, fun i hi => by simp at hi, fun i j hi => by simp at hi, .inl hb⟩
/-- One of them takes a house. -/
theorem impP_take {n p x : Nat} {Z : Nat → Nat → Int} {G : Nat → Int} {S H S' H' : Nat} {b : Bool} (hp : S.testBit p = true) (hx : H.testBit x = true) (hS : ∀ y, S'.testBit y = (S.testBit y && !decide (y = p))) (hH : ∀ y, H'.testBit y = (H.testBit y && !decide (y = x)))
    (hle : idxF (Z p) (x : Nat) n ≤ idxF (Z p) (G p) n) (h : ImpP n Z G S' H' (b || !(decide ((x : Int) = G p)))) : ImpP n Z G S H b := by
  obtain ⟨h, h1, h2, h3⟩ := h
  have hS1 : ∀ i, i ≠ p → S.testBit i = true → S'.testBit i = true := fun i hi hs => by rw [hS, hs]; simp [hi]
  refine ⟨fun i => if i = p then x else h i, fun i hi => ?_, fun i j hi hj e => ?_, ?_⟩
  · dsimp only
    by_cases e : i = p
    · subst e; rw [if_pos rfl]; exact ⟨hx, hle⟩
    · rw [if_neg e]
      obtain ⟨k1, k2⟩ := h1 i (hS1 i e hi)
      rw [hH] at k1
      exact ⟨by simp at k1; exact k1.1, k2⟩
  · dsimp only at e
    have hne : ∀ i, i ≠ p → S.testBit i = true → h i ≠ x := fun i e hi he => by
      have := (h1 i (hS1 i e hi)).1
      rw [hH, he] at this
      simp at this
    by_cases e1 : i = p
    · by_cases e2 : j = p
      · rw [e1, e2]
      · rw [if_pos e1, if_neg e2] at e
        exact absurd e.symm (hne j e2 hj)
    · by_cases e2 : j = p
      · rw [if_neg e1, if_pos e2] at e
        exact absurd e (hne i e1 hi)
      · rw [if_neg e1, if_neg e2] at e
        exact h2 i j (hS1 i e1 hi) (hS1 j e2 hj) e
  · rcases h3 with h3 | ⟨i, hi, hne⟩
    · rw [Bool.or_eq_true] at h3
      rcases h3 with h3 | h3
      · exact .inl h3
      · exact .inr ⟨p, hp, by dsimp only; rw [if_pos rfl]; simpa using h3⟩
    · rw [hS] at hi
      simp only [Bool.and_eq_true, Bool.not_eq_true', decide_eq_false_iff_not] at hi
      exact .inr ⟨i, hi.1, by dsimp only; rw [if_neg hi.2]; exact hne⟩
/-- .. and there is no other way. -/
theorem impP_some {n p : Nat} {Z : Nat → Nat → Int} {G : Nat → Int} {S H : Nat} {b : Bool} (hp : S.testBit p = true) (h : ImpP n Z G S H b) :
    ∃ x, H.testBit x = true ∧ idxF (Z p) (x : Nat) n ≤ idxF (Z p) (G p) n ∧ ∀ S' H', (∀ y, S'.testBit y = (S.testBit y && !decide (y = p))) → (∀ y, H'.testBit y = (H.testBit y && !decide (y = x))) → ImpP n Z G S' H' (b || !(decide ((x : Int) = G p))) := by
  obtain ⟨h, h1, h2, h3⟩ := h
  refine ⟨h p, (h1 p hp).1, (h1 p hp).2, fun S' H' hS hH => ?_⟩
  have hS1 : ∀ i, S'.testBit i = true → S.testBit i = true ∧ i ≠ p := fun i hi => by
    rw [hS] at hi
    simpa using hi
  refine ⟨h, fun i hi => ?_, fun i j hi hj e => h2 i j (hS1 i hi).1 (hS1 j hj).1 e, ?_⟩
  · obtain ⟨k1, k2⟩ := h1 i (hS1 i hi).1
    refine ⟨?_, k2⟩
    rw [hH, k1]
    have : h i ≠ h p := fun e => (hS1 i hi).2 (h2 i p (hS1 i hi).1 hp e)
    simp [this]
  · rcases h3 with h3 | ⟨i, hi, hne⟩
    · left; rw [h3]; rfl
    · by_cases e : i = p
      · left; subst e
        simp [hne]
      · right
        exact ⟨i, by rw [hS, hi]; simp [e], hne⟩
theorem bit_lt {S i n : Nat} (hS : S < 2 ^ n) (h : S.testBit i = true) : i < n := by
  rcases Nat.lt_or_ge i n with h' | h'
  · exact h'
  · have : S < 2 ^ i := Nat.lt_of_lt_of_le hS (Nat.pow_le_pow_right (by omega) h')
    rw [Nat.testBit_lt_two_pow this] at h; cases h
/-- A set without one. -/
theorem without {S p : Nat} (h : S.testBit p = true) : ∀ y, (S ^^^ 2 ^ p).testBit y = (S.testBit y && !decide (y = p)) := fun y => by
  rw [Nat.testBit_xor, Nat.testBit_two_pow]
  by_cases e : y = p
  · subst e; simp [h]
  · have : ¬ p = y := fun h => e h.symm
    simp [e, this]
/-- Where a number stands in a list of all. -/
theorem idx_diff {n j : Nat} {X : Nat → Int} (hd : IsDiff n n X) (hj : j < n) : idxF X (X j) n = j := idxF_some (fun i hi e => hd.2 i j hi hj e) rfl hj
/-- This house has been tried for p, and it won't do. -/
def Tried (n : Nat) (Z : Nat → Nat → Int) (G : Nat → Int) (S H : Nat) (b : Bool) (p x : Nat) : Prop :=
  ∀ S' H', (∀ y, S'.testBit y = (S.testBit y && !decide (y = p))) → (∀ y, H'.testBit y = (H.testBit y && !decide (y = x))) → H.testBit x = true → ¬ ImpP n Z G S' H' (b || !(decide ((x : Int) = G p)))
theorem tried_no {n p x : Nat} {Z : Nat → Nat → Int} {G : Nat → Int} {S H : Nat} {b : Bool} (h : H.testBit x = false) : Tried n Z G S H b p x := fun S' H' _ _ hx => by rw [h] at hx; cases hx
theorem tried_of {n p x : Nat} {Z : Nat → Nat → Int} {G : Nat → Int} {S H S1 H1 : Nat} {b : Bool} (hS : ∀ y, S1.testBit y = (S.testBit y && !decide (y = p))) (hH : ∀ y, H1.testBit y = (H.testBit y && !decide (y = x))) (h : ¬ ImpP n Z G S1 H1 (b || !(decide ((x : Int) = G p)))) : Tried n Z G S H b p x := fun S' H' hS' hH' _ => by
  have e1 : S' = S1 := Nat.eq_of_testBit_eq fun y => by rw [hS' y, hS y]
  have e2 : H' = H1 := Nat.eq_of_testBit_eq fun y => by rw [hH' y, hH y]
  rw [e1, e2]; exact h
theorem no_imp {n p k : Nat} {Z : Nat → Nat → Int} {G : Nat → Int} {S H : Nat} {b : Bool} (hp : S.testBit p = true) (hH : H < 2 ^ n) (hd : IsDiff n n (Z p)) (hk : k ≤ n) (hF : ∀ j, j < k → Tried n Z G S H b p (Z p j).toNat)
    (hlast : k = n ∨ ∃ j, j + 1 = k ∧ Z p j = G p) : ¬ ImpP n Z G S H b := by
  intro h
  obtain ⟨x, hx, hle, hall⟩ := impP_some hp h
  have hxn := bit_lt hH hx
  obtain ⟨j, hj, hjx⟩ := hd.all hxn
  have hjk : j < k := by
    rcases hlast with rfl | ⟨j0, h0, e0⟩
    · exact hj
    · rw [← e0, idx_diff hd (show j0 < n by omega), ← hjx, idx_diff hd hj] at hle
      omega
  have e : (Z p j).toNat = x := by rw [hjx]; rfl
  have ht := hF j hjk
  rw [e] at ht
  exact ht _ _ (without hp) (without hx) hx (hall _ _ (without hp) (without hx))
/-- A set of people blocks a giving: some other giving gives them their own houses, none of them less, one of them better. -/
def BlocksP (n : Nat) (Z : Nat → Nat → Int) (G : Nat → Int) (S : Nat) : Prop := ImpP n Z G S S false
/-- No set of people blocks a giving. -/
def FirmP (n : Nat) (Z : Nat → Nat → Int) (G : Nat → Int) : Prop := ∀ S, 1 ≤ S → S < 2 ^ n → ¬ BlocksP n Z G S
theorem blocks_pos {n : Nat} {Z : Nat → Nat → Int} {G : Nat → Int} : ¬ BlocksP n Z G 0 := fun h => by
  have := impP_zero.1 h
  cases this
def BlocksOk (n : Nat) (L : Nat → Nat) (Z : Nat → Nat → Int) (m : Nat) (G : Nat → Int) (x : Int) : Prop := GivenOk n L Z m G ∧ InR x 0 ((2 ^ n : Nat) - 1) ∧ BlocksP n Z G x.toNat
def FirmOk (n : Nat) (L : Nat → Nat) (Z : Nat → Nat → Int) (m : Nat) (G : Nat → Int) : Prop := GivenOk n L Z m G ∧ FirmP n Z G
end Go.Proofs.YtgjegpponchdaaaDoor

namespace Go.Proofs.YtgjegpponchdaaaDoor
set_option linter.unusedVariables false
set_option linter.unusedSimpArgs false
open Go.RowKit

/-- The people of S get just their own houses. -/
def OwnP (n : Nat) (S : Nat) (X : Nat → Int) : Prop := ∀ y : Nat, S.testBit y = true ↔ ∃ i, i < n ∧ S.testBit i = true ∧ X i = y
/-- None of S is worse off with X than with G, and one is better off. -/
def BetterP (n : Nat) (Z : Nat → Nat → Int) (S : Nat) (G X : Nat → Int) : Prop := (∀ i, i < n → S.testBit i = true → idxF (Z i) (X i) n ≤ idxF (Z i) (G i) n) ∧ ∃ i, i < n ∧ S.testBit i = true ∧ idxF (Z i) (X i) n < idxF (Z i) (G i) n
theorem idx_inj {n : Nat} {X : Nat → Int} (hd : IsDiff n n X) {x y : Int} (hx : InR x 0 ((n : Int) - 1)) (hy : InR y 0 ((n : Int) - 1)) (h : idxF X x n = idxF X y n) : x = y := by
  obtain ⟨j, hj, e⟩ := hd.all (r := x.toNat) (by have h1 := hx.1; have h2 := hx.2; omega)
  obtain ⟨k, hk, e2⟩ := hd.all (r := y.toNat) (by have h1 := hy.1; have h2 := hy.2; omega)
  have ex : X j = x := by rw [e]; have := hx.1; omega
  have ey : X k = y := by rw [e2]; have := hy.1; omega
  rw [← ex, ← ey, idx_diff hd hj, idx_diff hd hk] at h
  have : j = k := by omega
  rw [← ex, ← ey, this]
theorem isDiff_nth {n : Nat} {X : Nat → Int} (hd : IsDiff n n X) : Diff n ((List.range n).map X) ∧ ((List.range n).map X).length = n ∧ ∀ i, i < n → nth ((List.range n).map X) i = X i := by
  have hl : ((List.range n).map X).length = n := by simp
  have hn : ∀ i, i < n → nth ((List.range n).map X) i = X i := fun i hi => by
    unfold nth
    rw [List.getD_eq_getElem?_getD, List.getElem?_eq_getElem (by rw [hl]; exact hi)]
    simp
  refine ⟨?_, hl, hn⟩
  unfold Diff
  rw [hl]
  exact ⟨fun i hi => by rw [hn i hi]; exact hd.1 i hi, fun i j hij hj => by rw [hn i (by omega), hn j hj]; exact hd.2 i j hij hj⟩
theorem own_congr {n S : Nat} {X Y : Nat → Int} (h : ∀ i, i < n → X i = Y i) (ho : OwnP n S X) : OwnP n S Y := fun y => by
  rw [ho y]
  constructor
  · rintro ⟨i, h1, h2, h3⟩; exact ⟨i, h1, h2, by rw [← h i h1]; exact h3⟩
  · rintro ⟨i, h1, h2, h3⟩; exact ⟨i, h1, h2, by rw [h i h1]; exact h3⟩
theorem better_congr {n S : Nat} {Z : Nat → Nat → Int} {G X Y : Nat → Int} (h : ∀ i, i < n → X i = Y i) (hb : BetterP n Z S G X) : BetterP n Z S G Y := by
  obtain ⟨h1, i, h2, h3, h4⟩ := hb
  exact ⟨fun i hi hs => by rw [← h i hi]; exact h1 i hi hs, i, h2, h3, by rw [← h i h2]; exact h4⟩
/-- A set blocks just if some giving shows it. -/
theorem blocks_iff {n S : Nat} {L : Nat → Nat} {Z : Nat → Nat → Int} {G : Nat → Int} (hg : GivenOk n L Z n G) (hS : S < 2 ^ n) :
    BlocksP n Z G S ↔ ∃ D, D ∈ givs n n [] ∧ OwnP n S (nth D) ∧ BetterP n Z S G (nth D) := by
  constructor
  · rintro ⟨h, h1, h2, h3⟩
    have hSi : ∀ i, S.testBit i = true → i < n := fun i hi => bit_lt hS hi
    have hd : IsDiff n n (fun i => ((if S.testBit i = true then h i else i : Nat) : Int)) := by
      refine ⟨fun i hi => ?_, fun i j hij hj e => ?_⟩
      · dsimp only
        by_cases e : S.testBit i = true
        · rw [if_pos e]; have := hSi _ (h1 i e).1; omega
        · rw [if_neg e]; omega
      · dsimp only at e
        by_cases e1 : S.testBit i = true
        · by_cases e2 : S.testBit j = true
          · rw [if_pos e1, if_pos e2] at e
            have := h2 i j e1 e2 (by omega); omega
          · rw [if_pos e1, if_neg e2] at e
            have e' : h i = j := by omega
            have := (h1 i e1).1
            rw [e'] at this; exact e2 this
        · by_cases e2 : S.testBit j = true
          · rw [if_neg e1, if_pos e2] at e
            have e' : h j = i := by omega
            have := (h1 j e2).1
            rw [e'] at this; exact e1 this
          · rw [if_neg e1, if_neg e2] at e; omega
    obtain ⟨k1, k2, k3⟩ := isDiff_nth hd
    refine ⟨_, (mem_givs n [] (Diff.nil n) (by simp) _).2 ⟨k1, k2, List.nil_prefix⟩, own_congr (fun i hi => (k3 i hi).symm) ?_, better_congr (fun i hi => (k3 i hi).symm) ?_⟩
    · intro y
      constructor
      · intro hy
        obtain ⟨i, hi, e⟩ := hd.all (hSi y hy)
        refine ⟨i, hi, ?_, e⟩
        by_cases e1 : S.testBit i = true
        · exact e1
        · have e : (((if S.testBit i = true then h i else i) : Nat) : Int) = y := e
          rw [if_neg e1] at e
          have : i = y := by omega
          rw [this] at e1; exact absurd hy e1
      · rintro ⟨i, hi, hs, e⟩
        have e : (((if S.testBit i = true then h i else i) : Nat) : Int) = y := e
        rw [if_pos hs] at e
        have e' : h i = y := by omega
        rw [← e']; exact (h1 i hs).1
    · refine ⟨fun i hi hs => by dsimp only; rw [if_pos hs]; exact (h1 i hs).2, ?_⟩
      rcases h3 with h3 | ⟨i, hi, hne⟩
      · cases h3
      · refine ⟨i, hSi i hi, hi, ?_⟩
        dsimp only
        rw [if_pos hi]
        have hle := (h1 i hi).2
        rcases Int.lt_or_eq_of_le hle with h' | h'
        · exact h'
        · have hin := hSi i hi
          have hx := hSi _ (h1 i hi).1
          exact absurd (idx_inj (hg.1.2 i hin).2 ⟨by omega, by omega⟩ (hg.at hin) h') hne
  · rintro ⟨D, hD, ho, hb1, i0, hi0, hs0, hlt⟩
    have hDg := (mem_givs n [] (Diff.nil n) (by simp) D).1 hD
    have hdd : IsDiff n n (nth D) := by have := hDg.1; unfold Diff at this; rwa [hDg.2.1] at this
    have hSi : ∀ i, S.testBit i = true → i < n := fun i hi => bit_lt hS hi
    have hnat : ∀ i, i < n → (((nth D i).toNat : Nat) : Int) = nth D i := fun i hi => by have := (hdd.1 i hi).1; omega
    refine ⟨fun i => (nth D i).toNat, fun i hi => ⟨?_, ?_⟩, fun i j hi hj e => ?_, .inr ⟨i0, hs0, ?_⟩⟩
    · exact (ho _).2 ⟨i, hSi i hi, hi, (hnat i (hSi i hi)).symm⟩
    · dsimp only
      rw [hnat i (hSi i hi)]; exact hb1 i (hSi i hi) hi
    · have e2 : (nth D i).toNat = (nth D j).toNat := e
      have e' : nth D i = nth D j := by rw [← hnat i (hSi i hi), ← hnat j (hSi j hj), e2]
      rcases Nat.lt_trichotomy i j with h | h | h
      · exact absurd e' (hdd.2 i j h (hSi j hj))
      · exact h
      · exact absurd e'.symm (hdd.2 j i h (hSi i hi))
    · dsimp only
      rw [hnat i0 hi0]
      intro e
      rw [e] at hlt; omega
end Go.Proofs.YtgjegpponchdaaaDoor

namespace Go.Proofs.YtgjegpponchdaaaDoor
set_option linter.unusedVariables false
set_option linter.unusedSimpArgs false
open Go.RowKit

/-- Those of a list that are firm. -/
noncomputable def firmsL (n : Nat) (Z : Nat → Nat → Int) (LL : List (List Int)) : List (List Int) := LL.filter fun D => tt (FirmP n Z (nth D))
theorem firmsL_yes {n : Nat} {Z : Nat → Nat → Int} {A : List (List Int)} {D : List Int} (h : FirmP n Z (nth D)) : firmsL n Z (A ++ [D]) = firmsL n Z A ++ [D] := by
  unfold firmsL
  rw [List.filter_append]
  simp [tt_of h]
theorem firmsL_no {n : Nat} {Z : Nat → Nat → Int} {A : List (List Int)} {D : List Int} (h : ¬ FirmP n Z (nth D)) : firmsL n Z (A ++ [D]) = firmsL n Z A := by
  unfold firmsL
  rw [List.filter_append]
  simp [tt_no h]
theorem firmsL_le (n : Nat) (Z : Nat → Nat → Int) (LL : List (List Int)) : (firmsL n Z LL).length ≤ LL.length := List.length_filter_le _ _
/-- What HouseFirms answers. -/
noncomputable def firmsAll (n : Nat) (L : Nat → Nat) (Z : Nat → Nat → Int) : List (List Int) := if tt (IsWishes n L Z) = true then firmsL n Z (givs n n []) else []
theorem firmsAll_yes {n : Nat} {L : Nat → Nat} {Z : Nat → Nat → Int} (h : IsWishes n L Z) : firmsAll n L Z = firmsL n Z (givs n n []) := by unfold firmsAll; rw [tt_of h]; rfl
theorem firmsAll_no {n : Nat} {L : Nat → Nat} {Z : Nat → Nat → Int} (h : ¬ IsWishes n L Z) : firmsAll n L Z = [] := by unfold firmsAll; rw [tt_no h]; rfl
theorem givsN_le {n : Nat} (hn : n ≤ 5) : (givs n n []).length ≤ 7776 := Nat.le_trans (givs_le hn n []) (Nat.pow_le_pow_right (show 0 < 6 by omega) hn)
theorem givsN_given {n : Nat} {L : Nat → Nat} {Z : Nat → Nat → Int} {D : List Int} (h : IsWishes n L Z) (hD : D ∈ givs n n []) : GivenOk n L Z n (nth D) := by
  have h1 := (mem_givs n [] (Diff.nil n) (by simp) D).1 hD
  have h2 := h1.1
  unfold Diff at h2
  rw [h1.2.1] at h2
  exact ⟨h, rfl, fun j hj => by have := h2.1 j hj; exact ⟨this.1, by omega⟩, h2.2⟩
theorem firms_small (n : Nat) (L : Nat → Nat) (Z : Nat → Nat → Int) : (firmsAll n L Z).length ≤ 1048576 ∧ tot (lenL (firmsAll n L Z)) (firmsAll n L Z).length ≤ 1048576 := by
  have htot : ∀ (M : Nat → Nat) (B k : Nat), (∀ r, r < k → M r ≤ B) → tot M k ≤ k * B := by
    intro M B k h
    induction k with
    | zero => simp [tot]
    | succ k ih =>
      have h1 := ih (fun r hr => h r (by omega))
      have h2 := h k (by omega)
      show tot M k + M k ≤ (k + 1) * B
      rw [Nat.succ_mul]; omega
  by_cases h : IsWishes n L Z
  · rw [firmsAll_yes h]
    have hn5 := h.1.2
    have h1 := Nat.le_trans (firmsL_le n Z (givs n n [])) (givsN_le hn5)
    have h2 := htot (lenL (firmsL n Z (givs n n []))) 5 (firmsL n Z (givs n n [])).length (fun r hr => by
      unfold lenL
      rw [List.getD_eq_getElem?_getD, List.getElem?_eq_getElem hr]
      have hm : (firmsL n Z (givs n n []))[r] ∈ givs n n [] := by
        have := List.getElem_mem hr
        unfold firmsL at this
        exact (List.mem_filter.1 this).1
      have := ((mem_givs n [] (Diff.nil n) (by simp) _).1 hm).2.1
      show ((firmsL n Z (givs n n []))[r]).length ≤ 5
      omega)
    omega
  · rw [firmsAll_no h]
    simp [tot]
end Go.Proofs.YtgjegpponchdaaaDoor

namespace Go.Proofs.YtgjegpponchdaaaDoor
set_option linter.unusedVariables false
set_option linter.unusedSimpArgs false
open Go.RowKit

/-- Everybody together does not block. -/
def GoodP (n : Nat) (Z : Nat → Nat → Int) (G : Nat → Int) : Prop := ¬ BlocksP n Z G (2 ^ n - 1)
def GoodOk (n : Nat) (L : Nat → Nat) (Z : Nat → Nat → Int) (m : Nat) (G : Nat → Int) : Prop := GivenOk n L Z m G ∧ GoodP n Z G
theorem all_lt (n : Nat) : 2 ^ n - 1 < 2 ^ n := by have := Nat.two_pow_pos n; omega
theorem all_bit (n y : Nat) : (2 ^ n - 1).testBit y = decide (y < n) := Nat.testBit_two_pow_sub_one n y
theorem own_all {n : Nat} {X : Nat → Int} (hd : IsDiff n n X) : OwnP n (2 ^ n - 1) X := fun y => by
  rw [all_bit, decide_eq_true_iff]
  constructor
  · intro hy
    obtain ⟨i, hi, e⟩ := hd.all hy
    exact ⟨i, hi, by rw [all_bit, decide_eq_true_iff]; exact hi, e⟩
  · rintro ⟨i, hi, _, e⟩
    have := hd.1 i hi
    omega
theorem giv_diff {n : Nat} {D : List Int} (hD : D ∈ givs n n []) : IsDiff n n (nth D) := by
  have h3 := (mem_givs n [] (Diff.nil n) (by simp) _).1 hD
  have h4 := h3.1
  unfold Diff at h4
  rwa [h3.2.1] at h4
/-- No other giving is better for some and worse for none. -/
theorem good_iff {n : Nat} {L : Nat → Nat} {Z : Nat → Nat → Int} {G : Nat → Int} (hg : GivenOk n L Z n G) : GoodP n Z G ↔ ∀ D, D ∈ givs n n [] → ¬ BetterP n Z (2 ^ n - 1) G (nth D) := by
  unfold GoodP
  rw [blocks_iff hg (all_lt n)]
  constructor
  · intro h D hD hb
    exact h ⟨D, hD, own_all (giv_diff hD), hb⟩
  · rintro h ⟨D, hD, _, hb⟩
    exact h D hD hb
noncomputable def goodsL (n : Nat) (Z : Nat → Nat → Int) (LL : List (List Int)) : List (List Int) := LL.filter fun D => tt (GoodP n Z (nth D))
theorem goodsL_yes {n : Nat} {Z : Nat → Nat → Int} {A : List (List Int)} {D : List Int} (h : GoodP n Z (nth D)) : goodsL n Z (A ++ [D]) = goodsL n Z A ++ [D] := by
  unfold goodsL
  rw [List.filter_append]
  simp [tt_of h]
theorem goodsL_no {n : Nat} {Z : Nat → Nat → Int} {A : List (List Int)} {D : List Int} (h : ¬ GoodP n Z (nth D)) : goodsL n Z (A ++ [D]) = goodsL n Z A := by
  unfold goodsL
  rw [List.filter_append]
  simp [tt_no h]
theorem goodsL_le (n : Nat) (Z : Nat → Nat → Int) (LL : List (List Int)) : (goodsL n Z LL).length ≤ LL.length := List.length_filter_le _ _
/-- All good givings. -/
noncomputable def goodsAll (n : Nat) (L : Nat → Nat) (Z : Nat → Nat → Int) : List (List Int) := if tt (IsWishes n L Z) = true then goodsL n Z (givs n n []) else []
theorem goodsAll_yes {n : Nat} {L : Nat → Nat} {Z : Nat → Nat → Int} (h : IsWishes n L Z) : goodsAll n L Z = goodsL n Z (givs n n []) := by unfold goodsAll; rw [tt_of h]; rfl
theorem goodsAll_no {n : Nat} {L : Nat → Nat} {Z : Nat → Nat → Int} (h : ¬ IsWishes n L Z) : goodsAll n L Z = [] := by unfold goodsAll; rw [tt_no h]; rfl
/-- Some givings of all of them are not too many. -/
theorem some_small {n : Nat} {L : Nat → Nat} {Z : Nat → Nat → Int} (h : IsWishes n L Z) (p : List Int → Bool) : ((givs n n []).filter p).length ≤ 7776 ∧ tot (lenL ((givs n n []).filter p)) ((givs n n []).filter p).length ≤ 1048576 := by
  have htot : ∀ (M : Nat → Nat) (B k : Nat), (∀ r, r < k → M r ≤ B) → tot M k ≤ k * B := by
    intro M B k h
    induction k with
    | zero => simp [tot]
    | succ k ih =>
      have h1 := ih (fun r hr => h r (by omega))
      have h2 := h k (by omega)
      show tot M k + M k ≤ (k + 1) * B
      rw [Nat.succ_mul]; omega
  have hn5 := h.1.2
  have h1 := Nat.le_trans (List.length_filter_le p (givs n n [])) (givsN_le hn5)
  have h2 := htot (lenL ((givs n n []).filter p)) 5 ((givs n n []).filter p).length (fun r hr => by
    unfold lenL
    rw [List.getD_eq_getElem?_getD, List.getElem?_eq_getElem hr]
    have hm : ((givs n n []).filter p)[r] ∈ givs n n [] := (List.mem_filter.1 (List.getElem_mem hr)).1
    have := ((mem_givs n [] (Diff.nil n) (by simp) _).1 hm).2.1
    show (((givs n n []).filter p)[r]).length ≤ 5
    omega)
  omega
theorem goods_small (n : Nat) (L : Nat → Nat) (Z : Nat → Nat → Int) : (goodsAll n L Z).length ≤ 1048576 ∧ tot (lenL (goodsAll n L Z)) (goodsAll n L Z).length ≤ 1048576 := by
  by_cases h : IsWishes n L Z
  · rw [goodsAll_yes h]
    have := some_small h (fun D => tt (GoodP n Z (nth D)))
    exact ⟨Nat.le_trans this.1 (by omega), this.2⟩
  · rw [goodsAll_no h]
    simp [tot]
end Go.Proofs.YtgjegpponchdaaaDoor
