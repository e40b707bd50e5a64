/- Sets that block a giving, told by another giving. -/
import Derived.Test.YtfhkbjheleojmaaDoorBlockModel
import Derived.Test.YtfhkbjheleojmaaDoorGivsModel
namespace Go.Proofs.YtfhkbjheleojmaaDoor
set_option linter.unusedVariables false
set_option linter.unusedSimpArgs false
open Go.RowKit

/-- The people of S get just their own houses. -/
def OwnP (n : Nat) (S : Nat) (X : Nat → Int) : Prop := ∀ y : Nat, S.testBit y = true ↔ ∃ i, i < n ∧ S.testBit i = true ∧ X i = y
/-- None of S is worse off with X than with G, and one is better off. -/
def BetterP (n : Nat) (Z : Nat → Nat → Int) (S : Nat) (G X : Nat → Int) : Prop := (∀ i, i < n → S.testBit i = true → idxF (Z i) (X i) n ≤ idxF (Z i) (G i) n) ∧ ∃ i, i < n ∧ S.testBit i = true ∧ idxF (Z i) (X i) n < idxF (Z i) (G i) n
theorem idx_inj {n : Nat} {X : Nat → Int} (hd : IsDiff n n X) {x y : Int} (hx : InR x 0 ((n : Int) - 1)) (hy : InR y 0 ((n : Int) - 1)) (h : idxF X x n = idxF X y n) : x = y := by
  obtain ⟨j, hj, e⟩ := hd.all (r := x.toNat) (by have h1 := hx.1; have h2 := hx.2; omega)
  obtain ⟨k, hk, e2⟩ := hd.all (r := y.toNat) (by have h1 := hy.1; have h2 := hy.2; omega)
  have ex : X j = x := by rw [e]; have := hx.1; omega
  have ey : X k = y := by rw [e2]; have := hy.1; omega
  rw [← ex, ← ey, idx_diff hd hj, idx_diff hd hk] at h
  have : j = k := by omega
  rw [← ex, ← ey, this]
theorem isDiff_nth {n : Nat} {X : Nat → Int} (hd : IsDiff n n X) : Diff n ((List.range n).map X) ∧ ((List.range n).map X).length = n ∧ ∀ i, i < n → nth ((List.range n).map X) i = X i := by
  have hl : ((List.range n).map X).length = n := by simp
  have hn : ∀ i, i < n → nth ((List.range n).map X) i = X i := fun i hi => by
    unfold nth
    rw [List.getD_eq_getElem?_getD, List.getElem?_eq_getElem (by rw [hl]; exact hi)]
    simp
  refine ⟨?_, hl, hn⟩
  unfold Diff
  rw [hl]
  exact ⟨fun i hi => by rw [hn i hi]; exact hd.1 i hi, fun i j hij hj => by rw [hn i (by omega), hn j hj]; exact hd.2 i j hij hj⟩
theorem own_congr {n S : Nat} {X Y : Nat → Int} (h : ∀ i, i < n → X i = Y i) (ho : OwnP n S X) : OwnP n S Y := fun y => by
  rw [ho y]
  constructor
  · rintro ⟨i, h1, h2, h3⟩; exact ⟨i, h1, h2, by rw [← h i h1]; exact h3⟩
  · rintro ⟨i, h1, h2, h3⟩; exact ⟨i, h1, h2, by rw [h i h1]; exact h3⟩
theorem better_congr {n S : Nat} {Z : Nat → Nat → Int} {G X Y : Nat → Int} (h : ∀ i, i < n → X i = Y i) (hb : BetterP n Z S G X) : BetterP n Z S G Y := by
  obtain ⟨h1, i, h2, h3, h4⟩ := hb
  exact ⟨fun i hi hs => by rw [← h i hi]; exact h1 i hi hs, i, h2, h3, by rw [← h i h2]; exact h4⟩
/-- A set blocks just if some giving shows it. -/
theorem blocks_iff {n S : Nat} {L : Nat → Nat} {Z : Nat → Nat → Int} {G : Nat → Int} (hg : GivenOk n L Z n G) (hS : S < 2 ^ n) :
    BlocksP n Z G S ↔ ∃ D, D ∈ givs n n [] ∧ OwnP n S (nth D) ∧ BetterP n Z S G (nth D) := by
  constructor
  · rintro ⟨h, h1, h2, h3⟩
    have hSi : ∀ i, S.testBit i = true → i < n := fun i hi => bit_lt hS hi
    have hd : IsDiff n n (fun i => ((if S.testBit i = true then h i else i : Nat) : Int)) := by
      refine ⟨fun i hi => ?_, fun i j hij hj e => ?_⟩
      · dsimp only
        by_cases e : S.testBit i = true
        · rw [if_pos e]; have := hSi _ (h1 i e).1; omega
        · rw [if_neg e]; omega
      · dsimp only at e
        by_cases e1 : S.testBit i = true
        · by_cases e2 : S.testBit j = true
          · rw [if_pos e1, if_pos e2] at e
            have := h2 i j e1 e2 (by omega); omega
          · rw [if_pos e1, if_neg e2] at e
            have e' : h i = j := by omega
            have := (h1 i e1).1
            rw [e'] at this; exact e2 this
        · by_cases e2 : S.testBit j = true
          · rw [if_neg e1, if_pos e2] at e
            have e' : h j = i := by omega
            have := (h1 j e2).1
            rw [e'] at this; exact e1 this
          · rw [if_neg e1, if_neg e2] at e; omega
    obtain ⟨k1, k2, k3⟩ := isDiff_nth hd
    refine ⟨_, (mem_givs n [] (Diff.nil n) (by simp) _).2 ⟨k1, k2, List.nil_prefix⟩, own_congr (fun i hi => (k3 i hi).symm) ?_, better_congr (fun i hi => (k3 i hi).symm) ?_⟩
    · intro y
      constructor
      · intro hy
        obtain ⟨i, hi, e⟩ := hd.all (hSi y hy)
        refine ⟨i, hi, ?_, e⟩
        by_cases e1 : S.testBit i = true
        · exact e1
        · have e : (((if S.testBit i = true then h i else i) : Nat) : Int) = y := e
          rw [if_neg e1] at e
          have : i = y := by omega
          rw [this] at e1; exact absurd hy e1
      · rintro ⟨i, hi, hs, e⟩
        have e : (((if S.testBit i = true then h i else i) : Nat) : Int) = y := e
        rw [if_pos hs] at e
        have e' : h i = y := by omega
        rw [← e']; exact (h1 i hs).1
    · refine ⟨fun i hi hs => by dsimp only; rw [if_pos hs]; exact (h1 i hs).2, ?_⟩
      rcases h3 with h3 | ⟨i, hi, hne⟩
      · cases h3
      · refine ⟨i, hSi i hi, hi, ?_⟩
        dsimp only
        rw [if_pos hi]
        have hle := (h1 i hi).2
        rcases Int.lt_or_eq_of_le hle with h' | h'
        · exact h'
        · have hin := hSi i hi
          have hx := hSi _ (h1 i hi).1
          exact absurd (idx_inj (hg.1.2 i hin).2 ⟨by omega, by omega⟩ (hg.at hin) h') hne
  · rintro ⟨D, hD, ho, hb1, i0, hi0, hs0, hlt⟩
    have hDg := (mem_givs n [] (Diff.nil n) (by simp) D).1 hD
    have hdd : IsDiff n n (nth D) := by have := hDg.1; unfold Diff at this; rwa [hDg.2.1] at this
    have hSi : ∀ i, S.testBit i = true → i < n := fun i hi => bit_lt hS hi
    have hnat : ∀ i, i < n → (((nth D i).toNat : Nat) : Int) = nth D i := fun i hi => by have := (hdd.1 i hi).1; omega
    refine ⟨fun i => (nth D i).toNat, fun i hi => ⟨?_, ?_⟩, fun i j hi hj e => ?_, .inr ⟨i0, hs0, ?_⟩⟩
    · exact (ho _).2 ⟨i, hSi i hi, hi, (hnat i (hSi i hi)).symm⟩
    · dsimp only
      rw [hnat i (hSi i hi)]; exact hb1 i (hSi i hi) hi
    · have e2 : (nth D i).toNat = (nth D j).toNat := e
      have e' : nth D i = nth D j := by rw [← hnat i (hSi i hi), ← hnat j (hSi j hj), e2]
      rcases Nat.lt_trichotomy i j with h | h | h
      · exact absurd e' (hdd.2 i j h (hSi j hj))
      · exact h
      · exact absurd e'.symm (hdd.2 j i h (hSi i hi))
    · dsimp only
      rw [hnat i0 hi0]
      intro e
      rw [e] at hlt; omega
end Go.Proofs.YtfhkbjheleojmaaDoor
