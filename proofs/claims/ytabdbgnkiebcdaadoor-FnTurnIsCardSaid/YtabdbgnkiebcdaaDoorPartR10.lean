/- Texts joined: TradeModel, L3Givings, L3Better, AgainstModel, BlockModel, L11Against, L1Every, SpecHouseIn, GivingModel, SpecHouseGiving, L3Both, SpecProofBlockIs, ReadGiven, Likes, Everybody, GivenHouses. -/
import Derived.Test.YtabdbgnkiebcdaaDoorPartR9
import Derived.Test.YtabdbgnkiebcdaaDoorPartR1
import Derived.Test.YtabdbgnkiebcdaaDoorPartR3
import Derived.Test.YtabdbgnkiebcdaaDoorPartR5
import Derived.Test.YtabdbgnkiebcdaaDoorPartR7
import Derived.Test.YtabdbgnkiebcdaaDoorProg
import Derived.OwnWalk
namespace Go.Proofs.YtabdbgnkiebcdaaDoor
set_option linter.unusedVariables false
open Go.RowKit

/-- Among m + 1 numbers out of m two are the same. -/
theorem twice_in (m : Nat) : ∀ (l : List Nat) (x : Nat → Nat), l.length ≤ m → (∀ i, i ≤ m → x i ∈ l) → ∃ a b, a < b ∧ b ≤ m ∧ x a = x b := by
  induction m with
  | zero =>
    intro l x hl h
    have := h 0 (Nat.le_refl _)
    cases l with
    | nil => simp at this
    | cons => simp at hl
  | succ m ih =>
    intro l x hl h
    by_cases e : ∃ a, a < m + 1 ∧ x a = x (m + 1)
    · obtain ⟨a, h1, h2⟩ := e
      exact ⟨a, m + 1, h1, Nat.le_refl _, h2⟩
    · have hm := h (m + 1) (Nat.le_refl _)
      obtain ⟨a, b, h1, h2, h3⟩ := ih (l.erase (x (m + 1))) x (by rw [List.length_erase_of_mem hm]; omega) (fun i hi => (List.mem_erase_of_ne (fun e' => e ⟨i, by omega, e'⟩)).2 (h i (by omega)))
      exact ⟨a, b, h1, by omega, h3⟩

/-- f done k times. -/
def it (f : Nat → Nat) : Nat → Nat → Nat
  | 0, i => i
  | k + 1, i => f (it f k i)
theorem it_add (f : Nat → Nat) (a b i : Nat) : it f (a + b) i = it f a (it f b i) := by
  induction a with
  | zero => rw [Nat.zero_add]; rfl
  | succ a ih => rw [Nat.add_right_comm]; show f _ = f _; rw [ih]
theorem it_front (f : Nat → Nat) (k i : Nat) : it f (k + 1) i = it f k (f i) := it_add f k 1 i
theorem it_mul {f : Nat → Nat} {k i : Nat} (h : it f k i = i) (m : Nat) : it f (m * k) i = i := by
  induction m with
  | zero => rw [Nat.zero_mul]; rfl
  | succ m ih => rw [Nat.succ_mul, it_add, h, ih]

/-- i lies on a circle of f. -/
def Circ (f : Nat → Nat) (i : Nat) : Prop := ∃ k, 1 ≤ k ∧ it f k i = i

theorem Circ.step {f : Nat → Nat} {i : Nat} (h : Circ f i) : Circ f (f i) := by
  obtain ⟨k, h1, h2⟩ := h
  exact ⟨k, h1, by rw [← it_front]; show f _ = f _; rw [h2]⟩
theorem Circ.it {f : Nat → Nat} {i : Nat} (h : Circ f i) (k : Nat) : Circ f (it f k i) := by
  induction k with
  | zero => exact h
  | succ k ih => exact ih.step
theorem Circ.inj {f : Nat → Nat} {i j : Nat} (hi : Circ f i) (hj : Circ f j) (e : f i = f j) : i = j := by
  obtain ⟨k, h1, h2⟩ := hi
  obtain ⟨m, h3, h4⟩ := hj
  have e1 := it_mul h2 m
  have e2 := it_mul h4 k
  have hp : 1 ≤ m * k := Nat.mul_pos (by omega) (by omega)
  obtain ⟨q, hq⟩ : ∃ q, m * k = q + 1 := ⟨m * k - 1, by omega⟩
  rw [hq, it_front] at e1
  rw [Nat.mul_comm, hq, it_front] at e2
  rw [← e1, e, e2]
/-- What leads to i lies on the circle too. -/
theorem Circ.pred {f : Nat → Nat} {i : Nat} (h : Circ f i) : ∃ j, Circ f j ∧ f j = i ∧ ∃ k, j = Go.Proofs.YtabdbgnkiebcdaaDoor.it f k i := by
  obtain ⟨k, h1, h2⟩ := h
  obtain ⟨q, rfl⟩ : ∃ q, k = q + 1 := ⟨k - 1, by omega⟩
  exact ⟨_, Circ.it ⟨q + 1, h1, h2⟩ q, h2, q, rfl⟩
theorem it_in {f : Nat → Nat} {P : Nat → Prop} (hS : ∀ i, P i → P (f i)) {i : Nat} (hi : P i) (k : Nat) : P (it f k i) := by
  induction k with
  | zero => exact hi
  | succ k ih => exact hS _ ih
theorem circ_short {f : Nat → Nat} {l : List Nat} (hS : ∀ i, i ∈ l → f i ∈ l) {i : Nat} (hi : i ∈ l) (h : Circ f i) : ∃ k, 1 ≤ k ∧ k ≤ l.length ∧ it f k i = i := by
  obtain ⟨a, b, h1, h2, h3⟩ := twice_in l.length l (fun k => it f k i) (Nat.le_refl _) (fun k _ => it_in (P := fun x => x ∈ l) hS hi k)
  obtain ⟨k, h4, h5⟩ := h
  obtain ⟨K, hK⟩ : ∃ K, a * k = K + a := ⟨a * k - a, by have := Nat.le_mul_of_pos_right a (show 0 < k by omega); omega⟩
  have e1 : it f K (it f a i) = i := by rw [← it_add, ← hK]; exact it_mul h5 a
  refine ⟨b - a, by omega, by omega, ?_⟩
  have e2 : it f (b - a) (it f K (it f a i)) = it f K (it f (b - a) (it f a i)) := by rw [← it_add f (b - a) K, ← it_add f K (b - a), Nat.add_comm]
  rw [e1, ← it_add f (b - a) a, Nat.sub_add_cancel (by omega)] at e2
  have h3' : it f a i = it f b i := h3
  rw [e2, ← h3', e1]
theorem circ_image {f : Nat → Nat} {l : List Nat} (hS : ∀ i, i ∈ l → f i ∈ l) {n : Nat} (hn : l.length ≤ n) (i : Nat) : (i ∈ l ∧ Circ f i) ↔ ∃ j, j ∈ l ∧ it f n j = i := by
  constructor
  · rintro ⟨hi, k, h1, h2⟩
    obtain ⟨K, hK⟩ : ∃ K, n * k = n + K := ⟨n * k - n, by have := Nat.le_mul_of_pos_right n (show 0 < k by omega); omega⟩
    exact ⟨it f K i, it_in (P := fun x => x ∈ l) hS hi K, by rw [← it_add, ← hK]; exact it_mul h2 n⟩
  · rintro ⟨j, hj, rfl⟩
    refine ⟨it_in (P := fun x => x ∈ l) hS hj n, ?_⟩
    obtain ⟨a, b, h1, h2, h3⟩ := twice_in l.length l (fun k => it f k j) (Nat.le_refl _) (fun k _ => it_in (P := fun x => x ∈ l) hS hj k)
    refine ⟨b - a, by omega, ?_⟩
    have h3' : it f a j = it f b j := h3
    have e1 : it f n j = it f (n - a) (it f a j) := by rw [← it_add, Nat.sub_add_cancel (by omega)]
    have e2 : it f (b - a) (it f n j) = it f (n - a) (it f b j) := by rw [← it_add, ← it_add]; congr 1; omega
    rw [e2, ← h3', ← e1]
theorem circ_some {f : Nat → Nat} {l : List Nat} (hS : ∀ i, i ∈ l → f i ∈ l) {j : Nat} (hj : j ∈ l) : ∃ i, i ∈ l ∧ Circ f i :=
  ⟨_, (circ_image hS (Nat.le_refl _) _).2 ⟨j, hj, rfl⟩⟩

/-- The first of the first k numbers that is in a set. -/
def ptO (X : Nat → Int) (S : Nat → Bool) : Nat → Option Nat
  | 0 => none
  | k + 1 => match ptO X S k with
    | some y => some y
    | none => if S (X k).toNat = true then some (X k).toNat else none
/-- The same; 0 if none is. -/
def ptN (X : Nat → Int) (S : Nat → Bool) (n : Nat) : Nat := (ptO X S n).getD 0
theorem ptO_none {X : Nat → Int} {S : Nat → Bool} {n : Nat} (h : ∀ j, j < n → S (X j).toNat = false) : ptO X S n = none := by
  induction n with
  | zero => rfl
  | succ n ih =>
    unfold ptO
    rw [ih fun j hj => h j (by omega)]
    show (if S (X n).toNat = true then some (X n).toNat else none) = none
    rw [h n (by omega)]; rfl
theorem ptO_some {X : Nat → Int} {S : Nat → Bool} {n k : Nat} (h : ∀ j, j < k → S (X j).toNat = false) (hk : S (X k).toNat = true) (hn : k < n) : ptO X S n = some (X k).toNat := by
  induction n with
  | zero => omega
  | succ n ih =>
    unfold ptO
    by_cases e : k = n
    · subst e
      rw [ptO_none h]
      show (if S (X k).toNat = true then some (X k).toNat else none) = _
      rw [if_pos hk]
    · rw [ih (by omega)]
theorem ptN_first {X : Nat → Int} {S : Nat → Bool} {n k : Nat} (h : ∀ j, j < k → S (X j).toNat = false) (hk : S (X k).toNat = true) (hn : k < n) : ptN X S n = (X k).toNat := by
  unfold ptN; rw [ptO_some h hk hn]; rfl
theorem ptN_none {X : Nat → Int} {S : Nat → Bool} {n : Nat} (h : ∀ j, j < n → S (X j).toNat = false) : ptN X S n = 0 := by
  unfold ptN; rw [ptO_none h]; rfl
/-- The first place of a set. -/
theorem first_place {P : Nat → Prop} {n k : Nat} (hk : k < n) (h : P k) : ∃ j, j ≤ k ∧ P j ∧ ∀ i, i < j → ¬ P i := by
  induction k using Nat.strongRecOn with
  | _ k ih =>
    by_cases e : ∃ i, i < k ∧ P i
    · obtain ⟨i, h1, h2⟩ := e
      obtain ⟨j, h3, h4, h5⟩ := ih i h1 (by omega) h2
      exact ⟨j, by omega, h4, h5⟩
    · exact ⟨k, Nat.le_refl _, h, fun i hi hp => e ⟨i, hi, hp⟩⟩
/-- If one of them is in the set, it is the first such one. -/
theorem ptN_spec {X : Nat → Int} {S : Nat → Bool} {n k : Nat} (hk : k < n) (h : S (X k).toNat = true) :
    ∃ j, j ≤ k ∧ S (X j).toNat = true ∧ (∀ i, i < j → S (X i).toNat = false) ∧ ptN X S n = (X j).toNat := by
  obtain ⟨j, h1, h2, h3⟩ := first_place (P := fun i => S (X i).toNat = true) hk h
  have h4 : ∀ i, i < j → S (X i).toNat = false := fun i hi => by simpa using h3 i hi
  exact ⟨j, h1, h2, h4, ptN_first h4 h2 (by omega)⟩
theorem ptN_congr {X : Nat → Int} {S T : Nat → Bool} {n : Nat} (h : ∀ k, k < n → S (X k).toNat = T (X k).toNat) : ptN X S n = ptN X T n := by
  have : ∀ m, m ≤ n → ptO X S m = ptO X T m := by
    intro m hm
    induction m with
    | zero => rfl
    | succ m ih => unfold ptO; rw [ih (by omega), h m (by omega)]
  unfold ptN; rw [this n (Nat.le_refl _)]

/-- A set of people. -/
def Ppl (n : Nat) (S : Nat → Bool) : Prop := ∀ y, S y = true → y < n
/-- Where i points, of those in S. -/
def ptS (Z : Nat → Nat → Int) (n : Nat) (S : Nat → Bool) (i : Nat) : Nat := ptN (Z i) S n
/-- Who is on a circle, of those in S. -/
noncomputable def circB (Z : Nat → Nat → Int) (n : Nat) (S : Nat → Bool) (i : Nat) : Bool := S i && tt (Circ (ptS Z n S) i)
/-- Who is left behind t rounds. -/
noncomputable def tS (Z : Nat → Nat → Int) (n : Nat) : Nat → Nat → Bool
  | 0, y => decide (y < n)
  | t + 1, y => tS Z n t y && !circB Z n (tS Z n t) y
/-- What i has got behind t rounds. -/
noncomputable def gF (Z : Nat → Nat → Int) (n : Nat) : Nat → Nat → Nat
  | 0, _ => 0
  | t + 1, i => if circB Z n (tS Z n t) i = true then ptS Z n (tS Z n t) i else gF Z n t i

section
variable {n : Nat} {L : Nat → Nat} {Z : Nat → Nat → Int}
theorem tS_ppl (Z : Nat → Nat → Int) (n t : Nat) : Ppl n (tS Z n t) := by
  induction t with
  | zero => intro y h; simpa [tS] using h
  | succ t ih => intro y h; refine ih y ?_; unfold tS at h; simp only [Bool.and_eq_true] at h; exact h.1
theorem tS_down {t y : Nat} (h : tS Z n (t + 1) y = true) : tS Z n t y = true := by unfold tS at h; simp only [Bool.and_eq_true] at h; exact h.1
theorem tS_mono {s t y : Nat} (hst : s ≤ t) (h : tS Z n t y = true) : tS Z n s y = true := by
  induction t with
  | zero => have : s = 0 := by omega
            subst this; exact h
  | succ t ih =>
    by_cases e : s = t + 1
    · subst e; exact h
    · exact ih (by omega) (tS_down h)
theorem circB_in {S : Nat → Bool} {i : Nat} (h : circB Z n S i = true) : S i = true := by unfold circB at h; simp only [Bool.and_eq_true] at h; exact h.1
theorem circB_circ {S : Nat → Bool} {i : Nat} (h : circB Z n S i = true) : Circ (ptS Z n S) i := by unfold circB at h; simp only [Bool.and_eq_true] at h; exact tt_iff.1 h.2
theorem circB_of {S : Nat → Bool} {i : Nat} (h : S i = true) (hc : Circ (ptS Z n S) i) : circB Z n S i = true := by unfold circB; rw [h, tt_of hc]; rfl
theorem circB_gone {t y : Nat} (h : circB Z n (tS Z n t) y = true) : tS Z n (t + 1) y = false := by unfold tS; rw [h, circB_in h]; rfl

/-- Who is left points at one who is left: the first such one of the list. -/
theorem ptS_spec (hW : IsWishes n L Z) {S : Nat → Bool} (hS : Ppl n S) {i y : Nat} (hi : i < n) (hy : S y = true) :
    ∃ j, j < n ∧ S (Z i j).toNat = true ∧ (∀ k, k < j → S (Z i k).toNat = false) ∧ ptS Z n S i = (Z i j).toNat := by
  obtain ⟨k, hk, e⟩ := (hW.2 i hi).2.all (hS y hy)
  obtain ⟨j, h1, h2, h3, h4⟩ := ptN_spec (X := Z i) (S := S) (n := n) hk (by rw [e]; simpa using hy)
  exact ⟨j, by omega, h2, h3, h4⟩
theorem ptS_in (hW : IsWishes n L Z) {S : Nat → Bool} (hS : Ppl n S) {i : Nat} (hi : S i = true) : S (ptS Z n S i) = true := by
  obtain ⟨j, _, h, _, e⟩ := ptS_spec hW hS (hS i hi) hi
  rw [e]; exact h
/-- The people of a set, in order. -/
def pplL (n : Nat) (S : Nat → Bool) : List Nat := (List.range n).filter S
theorem mem_pplL {S : Nat → Bool} (hS : Ppl n S) {i : Nat} : i ∈ pplL n S ↔ S i = true := by
  unfold pplL; rw [List.mem_filter, List.mem_range]; exact ⟨fun h => h.2, fun h => ⟨hS i h, h⟩⟩
theorem pplL_le (n : Nat) (S : Nat → Bool) : (pplL n S).length ≤ n := by
  have := List.length_filter_le S (List.range n); rw [List.length_range] at this; exact this
/-- The people on circles, as the model finds them: who is reached by all. -/
theorem circB_image (hW : IsWishes n L Z) {S : Nat → Bool} (hS : Ppl n S) (i : Nat) : circB Z n S i = true ↔ ∃ j, S j = true ∧ it (ptS Z n S) n j = i := by
  have h := circ_image (f := ptS Z n S) (l := pplL n S) (fun i hi => (mem_pplL hS).2 (ptS_in hW hS ((mem_pplL hS).1 hi))) (pplL_le n S) i
  constructor
  · intro hc
    obtain ⟨j, h1, h2⟩ := h.1 ⟨(mem_pplL hS).2 (circB_in hc), circB_circ hc⟩
    exact ⟨j, (mem_pplL hS).1 h1, h2⟩
  · rintro ⟨j, h1, h2⟩
    obtain ⟨h3, h4⟩ := h.2 ⟨j, (mem_pplL hS).2 h1, h2⟩
    exact circB_of ((mem_pplL hS).1 h3) h4
/-- The same, as the program finds them: as many steps as there are people left lead back. -/
theorem circB_steps (hW : IsWishes n L Z) {S : Nat → Bool} (hS : Ppl n S) {i : Nat} (hi : S i = true) : circB Z n S i = true ↔ ∃ k, 1 ≤ k ∧ k ≤ (pplL n S).length ∧ it (ptS Z n S) k i = i := by
  constructor
  · intro hc
    exact circ_short (fun i hi => (mem_pplL hS).2 (ptS_in hW hS ((mem_pplL hS).1 hi))) ((mem_pplL hS).2 hi) (circB_circ hc)
  · rintro ⟨k, h1, _, h3⟩
    exact circB_of hi ⟨k, h1, h3⟩
theorem circB_some (hW : IsWishes n L Z) {S : Nat → Bool} (hS : Ppl n S) {j : Nat} (hj : S j = true) : ∃ i, circB Z n S i = true := by
  obtain ⟨i, h1, h2⟩ := circ_some (f := ptS Z n S) (l := pplL n S) (fun i hi => (mem_pplL hS).2 (ptS_in hW hS ((mem_pplL hS).1 hi))) ((mem_pplL hS).2 hj)
  exact ⟨i, circB_of ((mem_pplL hS).1 h1) h2⟩

/-- Behind t rounds none is left, and before there was one. -/
def IsTurns (Z : Nat → Nat → Int) (n t : Nat) : Prop := (∀ y, tS Z n t y = false) ∧ ∀ s, s < t → ∃ y, tS Z n s y = true
theorem IsTurns.uniq {s t : Nat} (h : IsTurns Z n s) (k : IsTurns Z n t) : s = t := by
  rcases Nat.lt_trichotomy s t with h1 | h1 | h1
  · obtain ⟨y, hy⟩ := k.2 s h1; rw [h.1 y] at hy; cases hy
  · exact h1
  · obtain ⟨y, hy⟩ := h.2 t h1; rw [k.1 y] at hy; cases hy
noncomputable def turnsN (Z : Nat → Nat → Int) (n : Nat) : Nat := @dite _ (∃ t, IsTurns Z n t) (Classical.propDecidable _) (fun h => Classical.choose h) (fun _ => 0)
theorem turnsN_of {t : Nat} (h : IsTurns Z n t) : turnsN Z n = t := by
  unfold turnsN
  rw [dif_pos ⟨t, h⟩]
  exact (Classical.choose_spec (p := fun t => IsTurns Z n t) ⟨t, h⟩).uniq h
/-- What i gets in the end. -/
noncomputable def giveF (Z : Nat → Nat → Int) (n i : Nat) : Int := (gF Z n (turnsN Z n) i : Int)
/-- The number that tells a set of people. -/
def IsMask (n m : Nat) (S : Nat → Bool) : Prop := m < 2 ^ n ∧ ∀ y, m.testBit y = S y
theorem IsMask.uniq {m m' : Nat} {S : Nat → Bool} (h : IsMask n m S) (k : IsMask n m' S) : m = m' := Nat.eq_of_testBit_eq fun y => by rw [h.2, k.2]
def maskN (S : Nat → Bool) : Nat → Nat
  | 0 => 0
  | k + 1 => if S k = true then maskN S k ||| 2 ^ k else maskN S k
theorem maskN_bit (S : Nat → Bool) (k y : Nat) : (maskN S k).testBit y = (decide (y < k) && S y) := by
  induction k with
  | zero => simp [maskN]
  | succ k ih =>
    unfold maskN
    by_cases h : S k = true
    · rw [if_pos h, Nat.testBit_or, ih, Nat.testBit_two_pow]
      by_cases e : y = k
      · subst e; simp [h]
      · have e1 : decide (k = y) = false := by simpa using fun h => e h.symm
        have e2 : decide (y < k) = decide (y < k + 1) := by rw [decide_eq_decide]; omega
        rw [e1, e2, Bool.or_false]
    · rw [if_neg h, ih]
      by_cases e : y = k
      · subst e; simp [h]
      · have e2 : decide (y < k) = decide (y < k + 1) := by rw [decide_eq_decide]; omega
        rw [e2]
theorem maskN_lt (S : Nat → Bool) (k : Nat) : maskN S k < 2 ^ k := by
  induction k with
  | zero => exact Nat.one_pos
  | succ k ih =>
    have h1 : 2 ^ k < 2 ^ (k + 1) := Nat.pow_lt_pow_right (by omega) (by omega)
    unfold maskN
    by_cases h : S k = true
    · rw [if_pos h]; exact Nat.or_lt_two_pow (by omega) h1
    · rw [if_neg h]; omega
theorem maskN_is {S : Nat → Bool} (hS : Ppl n S) : IsMask n (maskN S n) S := ⟨maskN_lt S n, fun y => by
  rw [maskN_bit]
  cases h : S y
  · simp
  · simp [hS y h]⟩
end
end Go.Proofs.YtabdbgnkiebcdaaDoor

namespace Go.Proofs.YtabdbgnkiebcdaaDoor
set_option linter.unusedVariables false
set_option linter.unusedSimpArgs false
open Go.RowKit

/-- x is put into the set: the same, the number being a term of its own. -/
theorem bits_or_pow (S x : Nat) (hS : S < 2 ^ 62) (hx : x < 62) : bits .or .i64 (S : Int) (wrap64 (2 ^ x)) = ((S ||| 2 ^ x : Nat) : Int) := bit_put S x hS hx

/-- The set of those who are reached by all of S behind s steps. -/
def Reach (n : Nat) (f : Nat → Nat) (S : Nat → Bool) (s K : Nat) : Prop := K < 2 ^ n ∧ ∀ y, K.testBit y = true ↔ ∃ j, S j = true ∧ it f s j = y
/-- The set of those at whom the first i of K point. -/
def Front (n : Nat) (f : Nat → Nat) (K i N : Nat) : Prop := N < 2 ^ n ∧ ∀ y, N.testBit y = true ↔ ∃ x, x < i ∧ K.testBit x = true ∧ f x = y
theorem Front.zero (n : Nat) (f : Nat → Nat) (K : Nat) : Front n f K 0 0 := ⟨Nat.two_pow_pos n, fun y => by simp⟩
theorem Front.no {n K i N : Nat} {f : Nat → Nat} (h : Front n f K i N) (hi : K.testBit i = false) : Front n f K (i + 1) N := by
  refine ⟨h.1, fun y => (h.2 y).trans ?_⟩
  constructor
  · rintro ⟨x, h1, h2, h3⟩; exact ⟨x, by omega, h2, h3⟩
  · rintro ⟨x, h1, h2, h3⟩
    refine ⟨x, ?_, h2, h3⟩
    by_cases e : x = i
    · subst e; rw [hi] at h2; cases h2
    · omega
theorem Front.yes {n K i N : Nat} {f : Nat → Nat} (h : Front n f K i N) (hi : K.testBit i = true) (hf : f i < n) : Front n f K (i + 1) (N ||| 2 ^ f i) := by
  refine ⟨bit_put_lt h.1 hf, fun y => ?_⟩
  rw [bit_put_has, h.2 y]
  constructor
  · rintro (⟨x, h1, h2, h3⟩ | rfl)
    · exact ⟨x, by omega, h2, h3⟩
    · exact ⟨i, by omega, hi, rfl⟩
  · rintro ⟨x, h1, h2, h3⟩
    by_cases e : x = i
    · subst e; exact .inr h3.symm
    · exact .inl ⟨x, by omega, h2, h3⟩
theorem Reach.next {n K N s : Nat} {f : Nat → Nat} {S : Nat → Bool} (h : Reach n f S s K) (k : Front n f K n N) : Reach n f S (s + 1) N := by
  refine ⟨k.1, fun y => (k.2 y).trans ?_⟩
  constructor
  · rintro ⟨x, _, h2, h3⟩
    obtain ⟨j, h4, h5⟩ := (h.2 x).1 h2
    exact ⟨j, h4, by show f _ = _; rw [h5]; exact h3⟩
  · rintro ⟨j, h4, h5⟩
    have h6 := (h.2 (it f s j)).2 ⟨j, h4, rfl⟩
    refine ⟨it f s j, ?_, h6, h5⟩
    rcases Nat.lt_or_ge (it f s j) n with h7 | h7
    · exact h7
    · rw [Nat.testBit_lt_two_pow (Nat.lt_of_lt_of_le h.1 (Nat.pow_le_pow_right (by omega) h7))] at h6; cases h6
theorem Reach.zero {n m : Nat} (f : Nat → Nat) (hm : m < 2 ^ n) : Reach n f m.testBit 0 m := ⟨hm, fun y => ⟨fun h => ⟨y, h, rfl⟩, fun ⟨j, h1, h2⟩ => by have : j = y := h2; rw [← this]; exact h1⟩⟩
theorem mask_ppl {n m : Nat} (hm : m < 2 ^ n) : Ppl n m.testBit := fun y hy => by
  rcases Nat.lt_or_ge y n with h | h
  · exact h
  · rw [Nat.testBit_lt_two_pow (Nat.lt_of_lt_of_le hm (Nat.pow_le_pow_right (by omega) h))] at hy; cases hy
theorem circB_ppl {n : Nat} {S : Nat → Bool} (Z : Nat → Nat → Int) (hS : Ppl n S) : Ppl n (circB Z n S) := fun y hy => hS y (circB_in hy)
theorem Reach.all {n m K : Nat} {L : Nat → Nat} {Z : Nat → Nat → Int} (hW : IsWishes n L Z) (hm : m < 2 ^ n) (h : Reach n (ptS Z n m.testBit) m.testBit n K) : K = maskN (circB Z n m.testBit) n := by
  refine Nat.eq_of_testBit_eq fun y => ?_
  rw [(maskN_is (circB_ppl Z (mask_ppl hm))).2 y, Bool.eq_iff_iff, h.2 y, circB_image hW (mask_ppl hm)]

end Go.Proofs.YtabdbgnkiebcdaaDoor

namespace Go.Proofs.YtabdbgnkiebcdaaDoor
set_option linter.unusedVariables false
set_option linter.unusedSimpArgs false
open Go.RowKit

/-- What a trade hands back: a row of its own, and a number. -/
def RetIN (n : Nat) (X : Nat → Int) (t : Int) (w : World) (e : Ending) (w' : World) : Prop :=
  ∃ a c, e = .returned (.tuple #[.slice a n c, .int .i64 t]) ∧ n ≤ c ∧ OwnI w' w.heap.size w'.heap.size a n X ∧ Below w.heap.size w w'

/-- What has been got when the first i people have been seen in round t. -/
noncomputable def midF (Z : Nat → Nat → Int) (n t i y : Nat) : Int := if y < i then (gF Z n (t + 1) y : Int) else (gF Z n t y : Int)
theorem midF_zero (Z : Nat → Nat → Int) (n t y : Nat) : (gF Z n t y : Int) = midF Z n t 0 y := by unfold midF; rw [if_neg (Nat.not_lt_zero _)]
theorem midF_all {Z : Nat → Nat → Int} {n t y : Nat} (h : y < n) : midF Z n t n y = (gF Z n (t + 1) y : Int) := by unfold midF; rw [if_pos h]
theorem midF_yes {Z : Nat → Nat → Int} {n t i : Nat} (h : circB Z n (tS Z n t) i = true) (y : Nat) : (if y = i then ((ptS Z n (tS Z n t) i : Nat) : Int) else midF Z n t i y) = midF Z n t (i + 1) y := by
  unfold midF
  by_cases e : y = i
  · subst e
    rw [if_pos rfl, if_pos (Nat.lt_succ_self _)]
    show _ = (((if circB Z n (tS Z n t) y = true then ptS Z n (tS Z n t) y else gF Z n t y) : Nat) : Int)
    rw [if_pos h]
  · rw [if_neg e]
    by_cases h' : y < i
    · rw [if_pos h', if_pos (by omega)]
    · rw [if_neg h', if_neg (by omega)]
theorem midF_no {Z : Nat → Nat → Int} {n t i : Nat} (h : circB Z n (tS Z n t) i = false) (y : Nat) : midF Z n t i y = midF Z n t (i + 1) y := by
  unfold midF
  by_cases e : y = i
  · subst e
    rw [if_neg (Nat.lt_irrefl _), if_pos (Nat.lt_succ_self _)]
    show _ = (((if circB Z n (tS Z n t) y = true then ptS Z n (tS Z n t) y else gF Z n t y) : Nat) : Int)
    rw [if_neg (by rw [h]; decide)]
  · by_cases h' : y < i
    · rw [if_pos h', if_pos (by omega)]
    · rw [if_neg h', if_neg (by omega)]

end Go.Proofs.YtabdbgnkiebcdaaDoor

namespace Go.Proofs.YtabdbgnkiebcdaaDoor
set_option linter.unusedVariables false
set_option linter.unusedSimpArgs false
open Go.RowKit

theorem atL_in {B : List Int} {x : Int} (h : x ∈ B) : ∃ k : Nat, k < B.length ∧ atL (nth B) x B.length = k := by
  obtain ⟨j, hj, e⟩ := mem_nth.1 h
  have hh : HasI B.length (nth B) x := ⟨j, hj, e⟩
  obtain ⟨k, hk, e2, h3⟩ : ∃ k, k < B.length ∧ nth B k = x ∧ ∀ i, i < k → nth B i ≠ x := by
    have : ∀ m, m ≤ B.length → (∃ k, k < m ∧ nth B k = x ∧ ∀ i, i < k → nth B i ≠ x) ∨ ∀ i, i < m → nth B i ≠ x := by
      intro m
      induction m with
      | zero => intro _; exact .inr fun i hi => absurd hi (Nat.not_lt_zero _)
      | succ m ih =>
        intro hm
        rcases ih (by omega) with ⟨k, h1, h2, h3⟩ | h
        · exact .inl ⟨k, by omega, h2, h3⟩
        · by_cases e : nth B m = x
          · exact .inl ⟨m, by omega, e, h⟩
          · exact .inr fun i hi => by
              by_cases e2 : i = m
              · subst e2; exact e
              · exact h i (by omega)
    rcases this B.length (Nat.le_refl _) with ⟨k, h1, h2, h3⟩ | h'
    · exact ⟨k, h1, h2, h3⟩
    · exact absurd e (h' j hj)
  exact ⟨k, hk, atL_first h3 e2 hk⟩
theorem atL_out {B : List Int} {x : Int} (h : ¬ x ∈ B) : atL (nth B) x B.length = B.length := atL_none fun k hk e => h (mem_nth.2 ⟨k, hk, e⟩)
/-- A table of one row, laid at once. -/
theorem making_one {w : World} {tS base g cap : Nat} {x : List Int} (hb : base ≤ w.heap.size) (hg1 : base ≤ g) (hg : g < w.heap.size) (hO : OwnR w g (some ⟨g, 0, none⟩) x.length (nth x)) :
    Making tS base (w.alloc (.cells #[.slice (some ⟨g, 0, none⟩) x.length cap] tS)) (.slice (some ⟨w.heap.size, 0, none⟩) 1 1) 1 (fun _ => g) (fun _ => cap) (lenL [x]) (nthL [x]) := by
  refine ⟨⟨rfl, .inr ⟨w.heap.size, 1, #[.slice (some ⟨g, 0, none⟩) x.length cap], rfl, hb, heap_alloc_last w _, Nat.le_refl _, by unfold maxLen; omega, rfl, rfl⟩⟩, fun r hr => ?_, fun r s hr hs hrs => by omega⟩
  obtain rfl : r = 0 := by omega
  exact ⟨hg1, by simp; omega, fun e => by simp only [Value.ownBlock, Option.some.injEq] at e; omega, hO.of_block (Below.heap_alloc w _ g hg)⟩

set_option maxHeartbeats 1600000 in
theorem l3Givings_any (n : Nat) (hn2 : 2 ≤ n) (hn : n ≤ 5) (f : Nat) : ∀ (B : List Int) (m c : Nat) (a : Option Addr) (w : World), Diff n B → m = B.length → 1 ≤ m → m + f = n → Rd w a m (nth B) →
    Calls Tryd.prog 53 #[.int .i64 n, .slice a m c] w (RetLL 32 (givs n f B) w) := by
  induction f with
  | zero =>
    intro B m c a w hd hm hm1 hf ha
    subst hm
    obtain ⟨ba, oa, rfl, hlt0, hc0⟩ := ha.lt (show 0 < B.length by omega)
    clear hc0
    obtain ⟨i0, hi, hz0, hz1, hz2⟩ := info_parts Tryd.infoInt
    have HA := Lib.hid ha
    have he : ((B.length : Int) == (n : Int)) = true := by simp; omega
    clear hd ha
    go_enter Tryd.func53, Tryd.ntmps53
    go_wp2_with (at_builtin; refine wpList_append_grows _ (by rfl) (.tmp 11) (.tmp 12) 32 (by rfl) 3 i0 (.int .i64 0) 1 8 Tryd.underlying32 hi hz0 hz1 hz2 (by rfl) (by decide) _ 0 0 [] (by rfl) (fun h => by cases h) (by rfl) (fun _ _ j u h => absurd h (by simp)) ⟨ba, oa, none⟩ B.length c (cellsL B.length (nth B)) (by rfl) ((cellsL_length _ _).trans (Nat.mul_one _).symm) (HA.out.news (by repeat (first | exact Below.refl _ _ | refine Below.drew ?_ | refine below_alloc ?_ _))) (cellsL_one _ _) (by omega) (by unfold maxLen; omega) (by omega) ?_; intro v1 w1 hown1 hgrow1; simp only [Nat.zero_add, List.nil_append] at hown1; obtain ⟨g1, cap1, rfl⟩ := owns_form hown1 (by omega); have hl1 := hown1.lt g1 rfl; have O1 := Lib.hid (OwnR.of_owns hown1); have B1 := Lib.hid ((below_alloc (Below.refl w.heap.size w) _).grown hgrow1 (by simp) (fun k h => by cases h)); simp at hl1; clear hown1 hgrow1)
    have hs1 := B1.out.size
    go_ret
    exact ⟨_, _, _, rfl, making_one (x := B) hs1 (by omega) hl1.2 O1.out, below_alloc B1.out _⟩
  | succ f ih =>
    intro B m c a w hd hm hm1 hf ha
    subst hm
    obtain ⟨ba, oa, rfl, hlt0, hc0⟩ := ha.lt (show 0 < B.length by omega)
    clear hc0
    obtain ⟨i0, hi, hz0, hz1, hz2⟩ := info_parts Tryd.infoInt
    obtain ⟨i1, hj, hy0, hy1, hy2⟩ := info_parts Tryd.infoInts
    have IH := Lib.hid ih
    have HD := Lib.hid hd
    have HA := Lib.hid ha
    have HE := Lib.hid (givs_succ n f B)
    have HLE := Lib.hid (fun k (hk : k ≤ n) => Nat.le_trans (givsTo_le hn f k B hk) (Nat.pow_le_pow_right (show 0 < 6 by omega) (show f + 1 ≤ 5 by omega)))
    have hz : ((B.length : Int) == (n : Int)) = false := by simp; omega
    have MS := Lib.hid (Making.start 32 w.heap.size (w.alloc (.cells #[] 32)) (.slice (some ⟨w.heap.size, 0, none⟩) 0 0) (fun _ => 0) (fun _ => 0) (lenL []) (nthL []) (World.ownsRow_made w #[] 0 (Nat.le_refl _) (Nat.zero_le _) (by simp)))
    have BS := Lib.hid (below_alloc (Below.refl w.heap.size w) (.cells #[] 32))
    clear ih hd ha
    go_enter Tryd.func53, Tryd.ntmps53
    go_wp2
    go_loopw [5, 6] (fun out s wr => ∃ k : Nat, k ≤ n ∧ s = .int .i64 k ∧ ∃ v G Cp, v = out ∧ Making 32 w.heap.size wr v (givsTo n f B k).length G Cp (lenL (givsTo n f B k)) (nthL (givsTo n f B k)) ∧ Below w.heap.size w wr) (fun _ s _ => n - (intOf s).toNat)
    case atStart => exact ⟨0, Nat.zero_le _, rfl, _, _, _, rfl, MS.out, BS.out⟩
    case round =>
      obtain ⟨k, hk, rfl, v, G, Cp, rfl, hM, hB⟩ := hrel
      clear MS BS
      by_cases hlt : k < n
      · obtain ⟨N, hN⟩ : ∃ N, N = (givsTo n f B k).length := ⟨_, rfl⟩
        have hN6 : N ≤ 7776 := by rw [hN]; exact HLE.out k hk
        rw [← hN] at hM
        have QN := Lib.hid hN
        have HMk := Lib.hid hM
        have HB := Lib.hid hB
        have HV := Lib.hid (fun x hx => hM.1.lt x hx)
        have hsz := hB.size
        have hbr : ba < wr.heap.size := by omega
        have HAr := Lib.hid (HA.out.below (Nat.le_refl _) hB)
        clear hM hB hN
        by_cases hin : (k : Int) ∈ B
        · obtain ⟨j, hj2, hat⟩ := atL_in hin
          have he : ((j : Int) == (B.length : Int)) = false := by simp; omega
          have HI := Lib.hid hin
          have QA := Lib.hid hat
          clear hin hat
          go_wp2_with (go_at_call 95; refine (l3At_any B.length c _ (nth B) k _ (by omega) HAr.out).mono ?_; rintro e w' ⟨rfl, rfl⟩; rw [QA.out])
          go_roundw
          case rel => exact ⟨k + 1, by omega, by go_num, _, _, _, rfl, (by rw [givsTo_in HI.out, ← QN.out]; exact HMk.out), HB.out⟩
          case measure => simp [intOf]; omega
        · have hnd := (HD.out.snoc_iff hlt).2 hin
          have hle := diff_le hnd
          rw [List.length_append] at hle
          simp only [List.length_cons, List.length_nil] at hle
          have ND := Lib.hid hnd
          have hpos := givs_pos (f := f) hnd (by rw [List.length_append]; simp; omega)
          have hlen := givs_le hn (f) (B ++ [(k : Int)])
          have hlen5 := Nat.pow_le_pow_right (show 0 < 6 by omega) (show f ≤ 5 by omega)
          obtain ⟨M, hM⟩ : ∃ M, M = (givs n f (B ++ [(k : Int)])).length := ⟨_, rfl⟩
          rw [← hM] at hpos hlen
          have hM6 : M ≤ 7776 := Nat.le_trans hlen hlen5
          have QM := Lib.hid hM
          have HI := Lib.hid hin
          have QA := Lib.hid (atL_out hin)
          clear hin hnd hM hlen hlen5
          go_wp2_with (first
            | (go_at_call 95; refine (l3At_any B.length c _ (nth B) k _ (by omega) HAr.out).mono ?_; rintro e w' ⟨rfl, rfl⟩; rw [QA.out])
            | (at_builtin; refine wpList_append_grows _ (by rfl) (.tmp 29) (.tmp 30) 32 (by rfl) 3 i0 (.int .i64 0) 1 8 Tryd.underlying32 hi hz0 hz1 hz2 (by rfl) (by decide) _ 0 0 [] (by rfl) (fun h => by cases h) (by rfl) (fun _ _ j u h => absurd h (by simp)) ⟨ba, oa, none⟩ B.length c (cellsL B.length (nth B)) (by rfl) ((cellsL_length _ _).trans (Nat.mul_one _).symm) (HAr.out.news (by repeat (first | exact Below.refl _ _ | refine Below.drew ?_ | refine below_alloc ?_ _))) (cellsL_one _ _) (by omega) (by unfold maxLen; omega) (by omega) ?_; intro v1 w3 hown1 hgrow1; simp only [Nat.zero_add, List.nil_append] at hown1; obtain ⟨g1, cap1, rfl⟩ := owns_form hown1 (by omega); have hl1 := hown1.lt g1 rfl; have HO1 := Lib.hid hown1; have B3 : Hid (Below wr.heap.size wr w3) := Lib.hid ((below_alloc (Below.refl _ _) _).grown hgrow1 (by simp) (fun k h => by cases h)); have hs3 := hgrow1.size; simp at hl1 hs3; clear hown1 hgrow1)
            | (at_builtin; refine wpList_append_lies _ (by rfl) (.tmp 31) (.tmp 33) 32 (by rfl) (wr.alloc (.cells #[] 3)).heap.size 3 i0 (.int .i64 0) 1 8 Tryd.underlying32 hi hz0 hz1 hz2 (by rfl) (by decide) (.slice (some ⟨g1, 0, none⟩) B.length cap1) B.length (cellsL B.length (nth B)) (by rfl) (HO1.out.alloc _) ⟨_, 0, none⟩ 1 1 [.int .i64 k] (by rfl) (by rfl) (news_one (by simp)) (by simp [Value.oneCell']) (by omega) (by unfold maxLen; omega) (by omega) (by simp; omega) _ rfl ?_; intro g2 cap2 w4 hown2 hgrow2 hat2 hlt2; have B4 : Hid (Below wr.heap.size wr w4) := Lib.hid ((below_alloc B3.out _).grown hgrow2 (by simp; omega) (fun x hx => by simp only [Value.ownBlock, Option.some.injEq] at hx; omega)); rw [cellsL_snoc] at hown2; have RD := Lib.hid (owns_rd hown2); clear hown2 hgrow2 hat2 HO1)
            | (go_at_call 53; refine (IH.out (B ++ [(k : Int)]) (B.length + 1) _ _ _ ND.out (by simp) (by omega) (by omega) (RD.out.congr fun j hj => (snoc_nth hj).symm)).mono ?_; rintro e w5 ⟨v', G', Cp', rfl, hM', hB'⟩; rw [← QM.out] at hM'; obtain ⟨g', cap', rfl⟩ := owns_form hM'.1 hpos; have M5 := Lib.hid hM'; have B5 := Lib.hid (B4.out.trans (hB'.mono B4.out.size)); have hs5 := hB'.size; have hs4 := B4.out.size; clear hM' hB')
            | (at_builtin; refine wpList_append_lies _ (by rfl) (.tmp 27) (.tmp 35) 22 (by rfl) w.heap.size 32 i1 (.slice none 0 0) 1 24 Tryd.underlying22 hj hy0 hy1 hy2 (by rfl) (by decide) v N ((List.range N).map fun r => .slice (some ⟨G r, 0, none⟩) (lenL (givsTo n f B k) r) (Cp r)) (by rfl) (HMk.out.below B5.out).1 ⟨g', 0, none⟩ M cap' ((List.range M).map fun r => .slice (some ⟨G' r, 0, none⟩) (lenL (givs n f (B ++ [(k : Int)])) r) (Cp' r)) (by rfl) (by simp) (fun j u hu => M5.out.1.cells (g := g') rfl j u hu) (fun u hu => by obtain ⟨r, _, rfl⟩ := List.mem_map.1 hu; rfl) hpos (by unfold maxLen; omega) (by omega) (by omega) _ rfl ?_; intro g6 cap6 w6 hown6 hgrow6 hat6 hlt6; have N6 := Lib.hid hown6; have G6 := Lib.hid hgrow6; have A6 := Lib.hid hat6; clear hown6 hgrow6 hat6))
          go_roundw
          case rel =>
            refine ⟨k + 1, by omega, by go_num, _, (fun r => if r < N then G r else G' (r - N)), (fun r => if r < N then Cp r else Cp' (r - N)), rfl, ?_, (HB.out.trans (B5.out.mono HB.out.size)).grown G6.out (by omega) (fun x hx => (HV.out x hx).1)⟩
            rw [givsTo_new HI.out, List.length_append, ← QN.out, ← QM.out]
            exact Making.join (HMk.out.below B5.out) M5.out (by omega) (fun r hr => by have := (HMk.out.2.1 r hr).2.1; omega) (fun x hx => by have := (HV.out x hx).2; omega) (fun r hr => lists_left (by rw [← QN.out]; exact hr)) (fun r hr => by rw [QN.out]; exact lists_right) N6.out G6.out A6.out (Nat.le_refl _)
          case measure => simp [intOf]; omega
      · obtain rfl : k = n := by omega
        have HMk := Lib.hid hM
        have HB := Lib.hid hB
        clear hM hB
        go_wp2
        go_ret
        exact ⟨v, G, Cp, rfl, (by rw [HE.out]; exact HMk.out), HB.out⟩

set_option maxHeartbeats 1600000 in
theorem l3GivingsAll_any (n : Nat) (hn2 : 2 ≤ n) (hn : n ≤ 5) (ba oa : Nat) (w : World) (ha : ba < w.heap.size) :
    Calls Tryd.prog 53 #[.int .i64 n, .slice (some ⟨ba, oa, none⟩) 0 0] w (RetLL 32 (givs n n []) w) := by
  obtain ⟨i0, hi, hz0, hz1, hz2⟩ := info_parts Tryd.infoInt
  obtain ⟨i1, hj, hy0, hy1, hy2⟩ := info_parts Tryd.infoInts
  have HE := Lib.hid (show givs n n [] = givsTo n (n - 1) [] n by obtain ⟨f, rfl⟩ : ∃ f, n = f + 1 := ⟨n - 1, by omega⟩; exact givs_succ _ _ _)
  have HLE := Lib.hid (fun k (hk : k ≤ n) => Nat.le_trans (givsTo_le hn (n - 1) k [] hk) (Nat.pow_le_pow_right (show 0 < 6 by omega) (show n - 1 + 1 ≤ 5 by omega)))
  have hz : ((0 : Int) == (n : Int)) = false := by simp; omega
  have MS := Lib.hid (Making.start 32 w.heap.size (w.alloc (.cells #[] 32)) (.slice (some ⟨w.heap.size, 0, none⟩) 0 0) (fun _ => 0) (fun _ => 0) (lenL []) (nthL []) (World.ownsRow_made w #[] 0 (Nat.le_refl _) (Nat.zero_le _) (by simp)))
  have BS := Lib.hid (below_alloc (Below.refl w.heap.size w) (.cells #[] 32))
  go_enter Tryd.func53, Tryd.ntmps53
  go_wp2
  go_loopw [5, 6] (fun out s wr => ∃ k : Nat, k ≤ n ∧ s = .int .i64 k ∧ ∃ v G Cp, v = out ∧ Making 32 w.heap.size wr v (givsTo n (n - 1) [] k).length G Cp (lenL (givsTo n (n - 1) [] k)) (nthL (givsTo n (n - 1) [] k)) ∧ Below w.heap.size w wr) (fun _ s _ => n - (intOf s).toNat)
  case atStart => exact ⟨0, Nat.zero_le _, rfl, _, _, _, rfl, MS.out, BS.out⟩
  case round =>
    obtain ⟨k, hk, rfl, v, G, Cp, rfl, hM, hB⟩ := hrel
    clear MS BS
    by_cases hlt : k < n
    · obtain ⟨N, hN⟩ : ∃ N, N = (givsTo n (n - 1) [] k).length := ⟨_, rfl⟩
      have hN6 : N ≤ 7776 := by rw [hN]; exact HLE.out k hk
      rw [← hN] at hM
      have QN := Lib.hid hN
      have HMk := Lib.hid hM
      have HB := Lib.hid hB
      have HV := Lib.hid (fun x hx => hM.1.lt x hx)
      have hsz := hB.size
      have hbr : ba < wr.heap.size := by omega
      clear hM hB hN
      have hnd := ((Diff.nil n).snoc_iff hlt).2 (List.not_mem_nil)
      have hle := diff_le hnd
      rw [List.length_append] at hle
      simp only [List.length_cons, List.length_nil] at hle
      have ND := Lib.hid hnd
      have hpos := givs_pos (f := (n - 1)) hnd (by rw [List.length_append]; simp; omega)
      have hlen := givs_le hn ((n - 1)) ([] ++ [(k : Int)])
      have hlen5 := Nat.pow_le_pow_right (show 0 < 6 by omega) (show (n - 1) ≤ 5 by omega)
      obtain ⟨M, hM⟩ : ∃ M, M = (givs n (n - 1) ([] ++ [(k : Int)])).length := ⟨_, rfl⟩
      rw [← hM] at hpos hlen
      have hM6 : M ≤ 7776 := Nat.le_trans hlen hlen5
      have QM := Lib.hid hM
      have O0 := Lib.hid (show (wr.alloc (.cells #[] 3)).ownsRow wr.heap.size 3 1 (.slice (some ⟨wr.heap.size, 0, none⟩) 0 0) 0 [] from World.ownsRow_made wr #[] 0 (Nat.le_refl _) (Nat.zero_le _) (by simp))
      clear hnd hM hlen hlen5
      go_wp2_with (first
        | (go_at_call 95; refine (l3At_any 0 0 _ (nth []) k _ (by omega) (fun j hj => absurd hj (Nat.not_lt_zero _))).mono ?_; rintro e w' ⟨rfl, rfl⟩; rw [show atL (nth []) (k : Int) 0 = 0 from atL_none fun j hj => absurd hj (Nat.not_lt_zero _)])
        | (at_builtin; refine wpList_append_lies _ (by rfl) (.tmp 31) (.tmp 33) 32 (by rfl) wr.heap.size 3 i0 (.int .i64 0) 1 8 Tryd.underlying32 hi hz0 hz1 hz2 (by rfl) (by decide) (.slice (some ⟨wr.heap.size, 0, none⟩) 0 0) 0 [] (by rfl) (O0.out.alloc _) ⟨_, 0, none⟩ 1 1 [.int .i64 k] (by rfl) (by rfl) (news_one (by simp)) (by simp [Value.oneCell']) (by omega) (by unfold maxLen; omega) (by omega) (by simp; omega) _ rfl ?_; intro g2 cap2 w4 hown2 hgrow2 hat2 hlt2; have B4 : Hid (Below wr.heap.size wr w4) := Lib.hid ((below_alloc (below_alloc (Below.refl _ _) _) _).grown hgrow2 (by simp; omega) (fun x hx => by simp only [Value.ownBlock, Option.some.injEq] at hx; omega)); have RD : Hid (Rd w4 (some ⟨g2, 0, none⟩) 1 (fun _ => (k : Int))) := Lib.hid (owns_rd (X := fun _ => (k : Int)) hown2); clear hown2 hgrow2 hat2)
        | (go_at_call 53; refine (l3Givings_any n hn2 hn (n - 1) ([] ++ [(k : Int)]) 1 _ _ _ ND.out (by simp) (by omega) (by omega) (RD.out.congr fun j hj => one_nth hj)).mono ?_; rintro e w5 ⟨v', G', Cp', rfl, hM', hB'⟩; rw [← QM.out] at hM'; obtain ⟨g', cap', rfl⟩ := owns_form hM'.1 hpos; have M5 := Lib.hid hM'; have B5 := Lib.hid (B4.out.trans (hB'.mono B4.out.size)); have hs5 := hB'.size; have hs4 := B4.out.size; clear hM' hB')
        | (at_builtin; refine wpList_append_lies _ (by rfl) (.tmp 27) (.tmp 35) 22 (by rfl) w.heap.size 32 i1 (.slice none 0 0) 1 24 Tryd.underlying22 hj hy0 hy1 hy2 (by rfl) (by decide) v N ((List.range N).map fun r => .slice (some ⟨G r, 0, none⟩) (lenL (givsTo n (n - 1) [] k) r) (Cp r)) (by rfl) (HMk.out.below B5.out).1 ⟨g', 0, none⟩ M cap' ((List.range M).map fun r => .slice (some ⟨G' r, 0, none⟩) (lenL (givs n (n - 1) ([] ++ [(k : Int)])) r) (Cp' r)) (by rfl) (by simp) (fun j u hu => M5.out.1.cells (g := g') rfl j u hu) (fun u hu => by obtain ⟨r, _, rfl⟩ := List.mem_map.1 hu; rfl) hpos (by unfold maxLen; omega) (by omega) (by omega) _ rfl ?_; intro g6 cap6 w6 hown6 hgrow6 hat6 hlt6; have N6 := Lib.hid hown6; have G6 := Lib.hid hgrow6; have A6 := Lib.hid hat6; clear hown6 hgrow6 hat6))
      go_roundw
      case rel =>
        refine ⟨k + 1, by omega, by go_num, _, (fun r => if r < N then G r else G' (r - N)), (fun r => if r < N then Cp r else Cp' (r - N)), rfl, ?_, (HB.out.trans (B5.out.mono HB.out.size)).grown G6.out (by omega) (fun x hx => (HV.out x hx).1)⟩
        rw [givsTo_new List.not_mem_nil, List.length_append, ← QN.out, ← QM.out]
        exact Making.join (HMk.out.below B5.out) M5.out (by omega) (fun r hr => by have := (HMk.out.2.1 r hr).2.1; omega) (fun x hx => by have := (HV.out x hx).2; omega) (fun r hr => lists_left (by rw [← QN.out]; exact hr)) (fun r hr => by rw [QN.out]; exact lists_right) N6.out G6.out A6.out (Nat.le_refl _)
      case measure => simp [intOf]; omega
    · obtain rfl : k = n := by omega
      have HMk := Lib.hid hM
      have HB := Lib.hid hB
      clear hM hB
      go_wp2
      go_ret
      exact ⟨v, G, Cp, rfl, (by rw [HE.out]; exact HMk.out), HB.out⟩
end Go.Proofs.YtabdbgnkiebcdaaDoor

namespace Go.Proofs.YtabdbgnkiebcdaaDoor
set_option linter.unusedVariables false
set_option linter.unusedSimpArgs false
open Go.RowKit

theorem bit_none (S x : Nat) (hS : S < 2 ^ 62) : (bits .and .i64 ((S : Int) / 2 ^ x) 1 == 0) = !S.testBit x := by
  have e : ((S : Int) / 2 ^ x) = ((S / 2 ^ x : Nat) : Int) := by simp
  have hle : S / 2 ^ x ≤ S := Nat.div_le_self _ _
  rw [e, show (1 : Int) = ((1 : Nat) : Int) from rfl, bits_and_i64 _ _ (by omega) (by omega)]
  rw [Nat.testBit, Nat.shiftRight_eq_div_pow, Nat.and_comm 1]
  have h2 : S / 2 ^ x &&& 1 = 0 ∨ S / 2 ^ x &&& 1 = 1 := by rw [Nat.and_one_is_mod]; omega
  rcases h2 with h | h <;> rw [h] <;> rfl

theorem own_front {n S N : Nat} {X : Nat → Int} (hd : IsDiff n n X) (hS : S < 2 ^ n) (h : Front n (fun i => (X i).toNat) S n N) : ((N : Int) == (S : Int)) = tt (OwnP n S X) := by
  have hy : ∀ y : Nat, N.testBit y = true ↔ ∃ i, i < n ∧ S.testBit i = true ∧ X i = y := fun y => by
    rw [h.2 y]
    constructor
    · rintro ⟨x, h1, h2, h3⟩; exact ⟨x, h1, h2, by have := (hd.1 x h1).1; have h3 : (X x).toNat = y := h3; omega⟩
    · rintro ⟨x, h1, h2, h3⟩; exact ⟨x, h1, h2, by show (X x).toNat = y; omega⟩
  by_cases e : N = S
  · subst e
    rw [tt_of (show OwnP n N X from hy)]
    simp
  · rw [tt_no (fun ho : OwnP n S X => e (Nat.eq_of_testBit_eq fun y => by rw [Bool.eq_iff_iff, hy y, ho y]))]
    simp; omega

set_option maxHeartbeats 1600000 in
theorem l3Own_any (n c S : Nat) (a : Option Addr) (X : Nat → Int) (w : World) (hn5 : n ≤ 5) (hd : IsDiff n n X) (hS : S < 2 ^ n) (ha : Rd w a n X) :
    Calls Tryd.prog 96 #[.int .i64 (S : Nat), .slice a n c] w fun e w' => e = .returned (.bool (tt (OwnP n S X))) ∧ w = w' := by
  have HA := Lib.hid ha
  have HD := Lib.hid hd
  have HE := Lib.hid (fun N (h : Front n (fun i => (X i).toNat) S n N) => own_front hd hS h)
  have HS := Lib.hid hS
  clear ha hd hS
  go_enter Tryd.func96, Tryd.ntmps96
  go_wp2
  go_loop [5, 6] (fun nx i => ∃ j N : Nat, j ≤ n ∧ i = .int .i64 j ∧ nx = .int .i64 (N : Nat) ∧ Front n (fun i => (X i).toNat) S j N) (fun _ i => n - (intOf i).toNat)
  case atStart => exact ⟨0, 0, Nat.zero_le _, rfl, rfl, Front.zero _ _ _⟩
  case round =>
    obtain ⟨j, N, hj, rfl, rfl, hF⟩ := hrel
    have HF := Lib.hid hF
    clear hF
    by_cases hjl : j < n
    · have hhas := bit_has S j (Nat.lt_trans HS.out (two_pow_lt (by omega)))
      by_cases hb : S.testBit j = true
      · obtain ⟨ba, oa, rfl, hca⟩ := HA.out j hjl
        have hr := HD.out.1 j hjl
        rw [hb] at hhas
        obtain ⟨p, hp⟩ : ∃ p, p = (X j).toNat := ⟨_, rfl⟩
        have hpn : p < n := by have h1 := hr.1; have h2 := hr.2; omega
        have hX : X j = (p : Nat) := by rw [hp]; have := hr.1; omega
        rw [hX] at hca
        have hput := bit_put N p (Nat.lt_trans HF.out.1 (two_pow_lt (by omega))) (by omega)
        obtain ⟨N', hN'⟩ : ∃ N', N' = N ||| 2 ^ p := ⟨_, rfl⟩
        rw [← hN'] at hput
        have HN := Lib.hid (show Front n (fun i => (X i).toNat) S (j + 1) N' by rw [hN', hp]; exact HF.out.yes (f := fun i => (X i).toNat) hb (by show (X j).toNat < n; rw [← hp]; exact hpn))
        have i1 : (0 : Int) ≤ (j : Int) := by omega
        have i2 : (j : Int) < (n : Int) := by omega
        clear hp hN' hb hr hX
        go_wp2
        go_round
        case rel => exact ⟨j + 1, N', by omega, by go_num, rfl, HN.out⟩
        case measure => simp [intOf]; omega
      · have hb' : S.testBit j = false := by simpa using hb
        rw [hb'] at hhas
        have HN := Lib.hid (HF.out.no hb')
        clear hb hb'
        go_wp2
        go_round
        case rel => exact ⟨j + 1, N, by omega, by go_num, rfl, HN.out⟩
        case measure => simp [intOf]; omega
    · obtain rfl : j = n := by omega
      have hE := HE.out N HF.out
      go_wp2
      go_ret
      exact ⟨by rw [← hE]; rfl, rfl⟩
end Go.Proofs.YtabdbgnkiebcdaaDoor

namespace Go.Proofs.YtabdbgnkiebcdaaDoor
set_option linter.unusedVariables false
set_option linter.unusedSimpArgs false
open Go.RowKit

/-- One of the first k of S likes X better. -/
def SomeB (Z : Nat → Nat → Int) (n S : Nat) (G X : Nat → Int) (k : Nat) : Prop := ∃ i, i < k ∧ S.testBit i = true ∧ idxF (Z i) (X i) n < idxF (Z i) (G i) n
def NoneW (Z : Nat → Nat → Int) (n S : Nat) (G X : Nat → Int) (k : Nat) : Prop := ∀ i, i < k → S.testBit i = true → idxF (Z i) (X i) n ≤ idxF (Z i) (G i) n
variable {Z : Nat → Nat → Int} {n S k : Nat} {G X : Nat → Int}
theorem noneW_zero : NoneW Z n S G X 0 := fun i hi => by omega
theorem noneW_succ (h : NoneW Z n S G X k) (hk : S.testBit k = true → idxF (Z k) (X k) n ≤ idxF (Z k) (G k) n) : NoneW Z n S G X (k + 1) := fun i hi hs => by
  by_cases e : i = k
  · subst e; exact hk hs
  · exact h i (by omega) hs
theorem someB_zero : tt (SomeB Z n S G X 0) = false := tt_no (fun ⟨i, hi, _⟩ => by omega)
theorem someB_out (h : S.testBit k = false) : tt (SomeB Z n S G X (k + 1)) = tt (SomeB Z n S G X k) := tt_congr ⟨fun ⟨i, h1, h2, h3⟩ => ⟨i, by
    by_cases e : i = k
    · subst e; rw [h] at h2; cases h2
    · omega, h2, h3⟩, fun ⟨i, h1, h2, h3⟩ => ⟨i, by omega, h2, h3⟩⟩
theorem someB_in {pb pa : Int} (h : S.testBit k = true) (hb : pb = idxF (Z k) (X k) n) (ha : pa = idxF (Z k) (G k) n) : tt (SomeB Z n S G X (k + 1)) = (tt (SomeB Z n S G X k) || decide (pb < pa)) := by
  by_cases h1 : SomeB Z n S G X k
  · rw [tt_of h1, tt_of (show SomeB Z n S G X (k + 1) from by obtain ⟨i, h2, h3, h4⟩ := h1; exact ⟨i, by omega, h3, h4⟩)]; rfl
  · by_cases h2 : pb < pa
    · rw [tt_no h1, tt_of (show SomeB Z n S G X (k + 1) from ⟨k, by omega, h, by rw [← hb, ← ha]; exact h2⟩), decide_eq_true h2]; rfl
    · rw [tt_no h1, decide_eq_false h2, tt_no (show ¬ SomeB Z n S G X (k + 1) from fun ⟨i, h3, h4, h5⟩ => by
        by_cases e : i = k
        · subst e; rw [← hb, ← ha] at h5; exact h2 h5
        · exact h1 ⟨i, by omega, h4, h5⟩)]; rfl

set_option maxHeartbeats 3200000 in
theorem l3Better_any (c : Nat) (a : Option Addr) (A : Nat → Option Addr) (L C : Nat → Nat) (d e : Nat) (b g : Option Addr) (w : World) (hg : GivenOk n L Z n G) (hd : IsDiff n n X) (hS : S < 2 ^ n) (ha0 : Tab w a n A L C Z) (hb : Rd w g n G) (hx : Rd w b n X) :
    Calls Tryd.prog 97 #[.slice a n c, .int .i64 (S : Nat), .slice g n d, .slice b n e] w fun e w' => e = .returned (.bool (tt (BetterP n Z S G X))) ∧ Below w.heap.size w w' := by
  have hn5 := hg.1.1.2
  have HG := Lib.hid hg
  have HA := Lib.hid ha0
  have HB := Lib.hid hb
  have HX := Lib.hid hx
  have HD := Lib.hid hd
  have HS := Lib.hid hS
  clear hg ha0 hb hx hd hS
  go_enter Tryd.func97, Tryd.ntmps97
  go_wp2
  go_loopw [9, 10, 11, 12] (fun sm s _ _ wr => ∃ k : Nat, k ≤ n ∧ s = .int .i64 k ∧ sm = .bool (tt (SomeB Z n S G X k)) ∧ Below w.heap.size w wr ∧ NoneW Z n S G X k) (fun _ s _ _ _ => n - (intOf s).toNat)
  case atStart => exact ⟨0, Nat.zero_le _, rfl, by rw [someB_zero], Below.refl _ _, noneW_zero⟩
  case round =>
    obtain ⟨k, hk, rfl, rfl, hBw, hno⟩ := hrel
    have BR := Lib.hid hBw
    have NO := Lib.hid hno
    clear hBw hno
    by_cases hlt : k < n
    · have hhas := bit_none S k (Nat.lt_trans HS.out (two_pow_lt (by omega)))
      by_cases hbk : S.testBit k = true
      · rw [hbk] at hhas
        have hhas : (bits .and .i64 ((S : Int) / 2 ^ k) 1 == 0) = false := hhas
        obtain ⟨bg, og, rfl, hgc⟩ := (HB.out.below (Nat.le_refl _) BR.out) k hlt
        obtain ⟨bx, ox, rfl, hxc⟩ := (HX.out.below (Nat.le_refl _) BR.out) k hlt
        obtain ⟨ba, oa, rfl, hca, hra⟩ := (HA.out.below (Nat.le_refl _) BR.out) k hlt
        rw [(HG.out.1.2 k hlt).1] at hca hra
        have h1 := wishes_has HG.out.1 hlt (HG.out.at hlt)
        have h2 := wishes_has HG.out.1 hlt (show InR (X k) 0 ((n : Int) - 1) from by have := HD.out.1 k hlt; exact ⟨this.1, by have := this.2; omega⟩)
        obtain ⟨x, hxx⟩ : ∃ x, x = G k := ⟨_, rfl⟩
        obtain ⟨y, hyy⟩ : ∃ y, y = X k := ⟨_, rfl⟩
        rw [← hxx] at hgc h1
        rw [← hyy] at hxc h2
        obtain ⟨pa, hpa⟩ : ∃ p, p = idxF (Z k) x n := ⟨_, rfl⟩
        obtain ⟨pb, hpb⟩ : ∃ p, p = idxF (Z k) y n := ⟨_, rfl⟩
        have RA := Lib.hid hra
        have KA := Lib.hid (show ∀ (z p : Int), HasI n (Z k) z → p = idxF (Z k) z n → ∀ (w2 : World), Below wr.heap.size wr w2 → ∀ r : Later w2, Calls Tryd.prog 95 #[.slice (A k) n (C k), .int .i64 z] r.W fun e w' => e = .returned (.int .i64 p) ∧ Below r.W.heap.size r.W w' from fun z p hz hp w2 h2 r => by
          refine (l3At_any n (C k) (A k) (Z k) z _ (by omega) (RA.out.below (Nat.le_refl _) (h2.trans ((Later.h r).mono h2.size)))).mono ?_
          rintro e w' ⟨rfl, rfl⟩
          exact ⟨by rw [hp, atL_has hz], Below.refl _ _⟩)
        have I1 := Lib.hid (KA.out x pa h1 hpa)
        have I2 := Lib.hid (KA.out y pb h2 hpb)
        have c1 : ∀ r : Later wr, r.W.cell? ⟨ba, oa + k, none⟩ = some (.slice (A k) n (C k)) := fun r => later_cell hca r
        have c2 : ∀ r : Later wr, r.W.cell? ⟨bg, og + k, none⟩ = some (.int .i64 x) := fun r => later_cell hgc r
        have c3 := Lib.hid (show ∀ w2, Below wr.heap.size wr w2 → ∀ r : Later w2, r.W.cell? ⟨ba, oa + k, none⟩ = some (.slice (A k) n (C k)) from fun w2 h2 r => later_cell hca ⟨r.W, h2.trans (r.h.mono h2.size)⟩)
        have c4 := Lib.hid (show ∀ w2, Below wr.heap.size wr w2 → ∀ r : Later w2, r.W.cell? ⟨bx, ox + k, none⟩ = some (.int .i64 y) from fun w2 h2 r => later_cell hxc ⟨r.W, h2.trans (r.h.mono h2.size)⟩)
        have i1 : (0 : Int) ≤ (k : Int) := by omega
        have i2 : (k : Int) < (n : Int) := by omega
        have SI := Lib.hid (someB_in (Z := Z) (G := G) (X := X) hbk (show pb = idxF (Z k) (X k) n by rw [hpb, hyy]) (show pa = idxF (Z k) (G k) n by rw [hpa, hxx]))
        have HW := Lib.hid (show NoneW Z n S G X n → pb ≤ pa from fun h => by rw [hpb, hpa, hyy, hxx]; exact h k hlt hbk)
        have HNX := Lib.hid (show pb ≤ pa → NoneW Z n S G X (k + 1) from fun h => noneW_succ NO.out fun _ => by rw [← hyy, ← hxx, ← hpb, ← hpa]; exact h)
        clear hbk hgc hxc hca hra h1 h2 hxx hyy hpa hpb KA
        by_cases hle : pb ≤ pa
        · have d1 : decide (pa < pb) = false := decide_eq_false (by omega)
          have NX := Lib.hid (HNX.out hle)
          clear HNX HW
          by_cases hs : SomeB Z n S G X k
          · have T1 : tt (SomeB Z n S G X k) = true := tt_of hs
            rw [T1]
            rw [T1] at SI
            have SJ := Lib.hid (show tt (SomeB Z n S G X (k + 1)) = true by rw [SI.out]; rfl)
            go_wp2
            refine wp_region_later (by kernel_rfl) (by kernel_rfl) ?_
            repeat go_big_quiet_step ((go_at_call 95; exact calls_later _ (I1.out _ (Below.refl _ _) _)))
            refine wpQuiet_nil ?_
            rintro _ ⟨r, rfl⟩
            have J2 := Lib.hid (I2.out _ r.h)
            have c5 := c3.out _ r.h
            have c6 := c4.out _ r.h
            clear I1 I2 c1 c2 c3 c4
            go_wp2
            refine wp_region_later (by kernel_rfl) (by kernel_rfl) ?_
            repeat go_big_quiet_step ((go_at_call 95; exact calls_later _ (J2.out _)))
            refine wpQuiet_nil ?_
            rintro _ ⟨r2, rfl⟩
            have B2 := Lib.hid (BR.out.trans ((r.h.trans (r2.h.mono r.h.size)).mono BR.out.size))
            go_wp2
            go_roundw
            case rel => exact ⟨k + 1, by omega, by go_num, by rw [SJ.out], B2.out, NX.out⟩
            case measure => simp [intOf]; omega
          · have T1 : tt (SomeB Z n S G X k) = false := tt_no hs
            rw [T1]
            rw [T1] at SI
            have SJ := Lib.hid (show tt (SomeB Z n S G X (k + 1)) = decide (pb < pa) by rw [SI.out]; rfl)
            go_wp2
            refine wp_region_later (by kernel_rfl) (by kernel_rfl) ?_
            repeat go_big_quiet_step ((go_at_call 95; exact calls_later _ (I1.out _ (Below.refl _ _) _)))
            refine wpQuiet_nil ?_
            rintro _ ⟨r, rfl⟩
            have J2 := Lib.hid (I2.out _ r.h)
            have c5 := c3.out _ r.h
            have c6 := c4.out _ r.h
            clear I1 I2 c1 c2 c3 c4
            go_wp2
            refine wp_region_later (by kernel_rfl) (by kernel_rfl) ?_
            repeat go_big_quiet_step ((go_at_call 95; exact calls_later _ (J2.out _)))
            refine wpQuiet_nil ?_
            rintro _ ⟨r2, rfl⟩
            have B2 := Lib.hid (BR.out.trans ((r.h.trans (r2.h.mono r.h.size)).mono BR.out.size))
            go_wp2
            go_roundw
            case rel => exact ⟨k + 1, by omega, by go_num, by rw [SJ.out], B2.out, NX.out⟩
            case measure => simp [intOf]; omega
        · have d1 : decide (pa < pb) = true := decide_eq_true (by omega)
          have HF := Lib.hid (tt_no (show ¬ BetterP n Z S G X from fun h => hle (HW.out h.1)))
          clear HNX HW
          go_wp2
          refine wp_region_later (by kernel_rfl) (by kernel_rfl) ?_
          repeat go_big_quiet_step ((go_at_call 95; exact calls_later _ (I1.out _ (Below.refl _ _) _)))
          refine wpQuiet_nil ?_
          rintro _ ⟨r, rfl⟩
          have J2 := Lib.hid (I2.out _ r.h)
          have c5 := c3.out _ r.h
          have c6 := c4.out _ r.h
          clear I1 I2 c1 c2 c3 c4
          go_wp2
          refine wp_region_later (by kernel_rfl) (by kernel_rfl) ?_
          repeat go_big_quiet_step ((go_at_call 95; exact calls_later _ (J2.out _)))
          refine wpQuiet_nil ?_
          rintro _ ⟨r2, rfl⟩
          have B2 := Lib.hid (BR.out.trans ((r.h.trans (r2.h.mono r.h.size)).mono BR.out.size))
          go_wp2
          go_ret
          exact ⟨by rw [HF.out]; rfl, B2.out⟩
      · have hb' : S.testBit k = false := by simpa using hbk
        rw [hb'] at hhas
        have hhas : (bits .and .i64 ((S : Int) / 2 ^ k) 1 == 0) = true := hhas
        have HSM := Lib.hid (someB_out (Z := Z) (n := n) (G := G) (X := X) hb')
        have NX := Lib.hid (noneW_succ NO.out (fun h => absurd h hbk))
        clear hbk hb'
        go_wp2
        go_roundw
        case rel => exact ⟨k + 1, by omega, by go_num, by rw [HSM.out], BR.out, NX.out⟩
        case measure => simp [intOf]; omega
    · obtain rfl : k = n := by omega
      have HE := Lib.hid (show tt (SomeB Z k S G X k) = tt (BetterP k Z S G X) from tt_congr ⟨fun h => ⟨NO.out, h⟩, fun h => h.2⟩)
      go_wp2
      go_ret
      exact ⟨by rw [HE.out]; rfl, BR.out⟩
end Go.Proofs.YtabdbgnkiebcdaaDoor

namespace Go.Proofs.YtabdbgnkiebcdaaDoor
set_option linter.unusedVariables false
open Go.RowKit

/-- The giving X is a proof against G. -/
def AgainstP (n : Nat) (Z : Nat → Nat → Int) (G X : Nat → Int) : Prop := ∃ S, 1 ≤ S ∧ S < 2 ^ n ∧ OwnP n S X ∧ BetterP n Z S G X

variable {n : Nat} {L : Nat → Nat} {Z : Nat → Nat → Int} {G : Nat → Int}

/-- A giving is firm just if no giving stands against it. -/
theorem firm_against (hg : GivenOk n L Z n G) : FirmP n Z G ↔ ∀ D, D ∈ givs n n [] → ¬ AgainstP n Z G (nth D) := by
  constructor
  · rintro h D hD ⟨S, h1, h2, h3, h4⟩
    exact h S h1 h2 ((blocks_iff hg h2).2 ⟨D, hD, h3, h4⟩)
  · intro h S h1 h2 hb
    obtain ⟨D, hD, h3, h4⟩ := (blocks_iff hg h2).1 hb
    exact h D hD ⟨S, h1, h2, h3, h4⟩

open Classical in
/-- The first giving that stands against it. -/
noncomputable def firstAg (n : Nat) (Z : Nat → Nat → Int) (G : Nat → Int) : List (List Int) → Option (List Int)
  | [] => none
  | D :: r => if AgainstP n Z G (nth D) then some D else firstAg n Z G r

theorem firstAg_none : ∀ LL : List (List Int), firstAg n Z G LL = none ↔ ∀ D, D ∈ LL → ¬ AgainstP n Z G (nth D) := by
  intro LL
  induction LL with
  | nil => simp [firstAg]
  | cons D r ih =>
    unfold firstAg
    by_cases h : AgainstP n Z G (nth D)
    · rw [if_pos h]
      simp [h]
    · rw [if_neg h, ih]
      simp [h]

theorem firstAg_some : ∀ (LL : List (List Int)) (D : List Int), firstAg n Z G LL = some D → D ∈ LL ∧ AgainstP n Z G (nth D) := by
  intro LL
  induction LL with
  | nil => intro D h; cases h
  | cons E r ih =>
    intro D h
    unfold firstAg at h
    by_cases hE : AgainstP n Z G (nth E)
    · rw [if_pos hE] at h
      injection h with h
      subst h
      exact ⟨List.mem_cons_self .., hE⟩
    · rw [if_neg hE] at h
      obtain ⟨h1, h2⟩ := ih D h
      exact ⟨List.mem_cons_of_mem _ h1, h2⟩

/-- Behind those that do not stand against it, the first one that does. -/
theorem firstAg_at : ∀ (A : List (List Int)) (D : List Int) (B : List (List Int)), (∀ E, E ∈ A → ¬ AgainstP n Z G (nth E)) → AgainstP n Z G (nth D) → firstAg n Z G (A ++ D :: B) = some D := by
  intro A
  induction A with
  | nil =>
    intro D B _ h
    rw [List.nil_append, firstAg, if_pos h]
  | cons E r ih =>
    intro D B hA h
    rw [List.cons_append, firstAg, if_neg (hA E (List.mem_cons_self ..))]
    exact ih D B (fun F hF => hA F (List.mem_cons_of_mem _ hF)) h
end Go.Proofs.YtabdbgnkiebcdaaDoor

namespace Go.Proofs.YtabdbgnkiebcdaaDoor
set_option linter.unusedVariables false
open Go.RowKit

def blockB : List UInt8 := [98, 108, 111, 99, 107]
theorem blockB_ok : ∀ c ∈ blockB, c ≠ 32 := by decide
/-- The giving shows that another one is not firm. -/
def BlockQ (n : Nat) (Z : Nat → Nat → Int) (G : Nat → Int) (D : List Int) : Prop := IsEach n D.length (nth D) ∧ AgainstP n Z G (nth D)
theorem each_few {n : Nat} {D : List Int} (hn1 : 1 ≤ n) (hn : n ≤ 5) (h : IsEach n D.length (nth D)) : D ≠ [] ∧ D.length ≤ 1000 ∧ FewAll D := by
  obtain ⟨h1, h2⟩ := h
  refine ⟨fun e => ?_, by omega, ?_⟩
  · rw [e] at h1; simp at h1; omega
  · intro x hx
    obtain ⟨k, hk, rfl⟩ := List.getElem_of_mem hx
    have h3 := h2.1 k (by omega)
    have e : nth D k = D[k] := by unfold nth; simp [List.getD_eq_getElem?_getD, List.getElem?_eq_getElem hk]
    rw [e] at h3
    exact ⟨h3.1, by have := h3.2; omega⟩
theorem block_few {n : Nat} {Z : Nat → Nat → Int} {G : Nat → Int} {D : List Int} (hn1 : 1 ≤ n) (hn : n ≤ 5) (h : BlockQ n Z G D) : D ≠ [] ∧ D.length ≤ 1000 ∧ FewAll D := each_few hn1 hn h.1
theorem givs_each {n : Nat} {D : List Int} (h : D ∈ givs n n []) : IsEach n D.length (nth D) :=
  ⟨((mem_givs n [] (Diff.nil n) (by simp) D).1 h).2.1, giv_diff h⟩
/-- The text is a proof against the giving. -/
def PrB (n : Nat) (L : Nat → Nat) (Z : Nat → Nat → Int) (m : Nat) (G : Nat → Int) (t : ByteArray) : Prop := GivenOk n L Z m G ∧ ProofP blockB (BlockQ n Z G) t
/-- There is a giving against it. -/
def HasB (n : Nat) (L : Nat → Nat) (Z : Nat → Nat → Int) (m : Nat) (G : Nat → Int) : Prop := GivenOk n L Z m G ∧ firstAg n Z G (givs n n []) ≠ none
/-- The text that is made. -/
noncomputable def prB (n : Nat) (L : Nat → Nat) (Z : Nat → Nat → Int) (m : Nat) (G : Nat → Int) : List UInt8 :=
  if tt (GivenOk n L Z m G) = true then (match firstAg n Z G (givs n n []) with | some D => wordsB blockB D | none => []) else []
theorem prB_no {n : Nat} {L : Nat → Nat} {Z : Nat → Nat → Int} {m : Nat} {G : Nat → Int} (h : ¬ HasB n L Z m G) : prB n L Z m G = [] := by
  unfold prB
  by_cases hg : GivenOk n L Z m G
  · rw [tt_of hg, if_pos rfl]
    cases hf : firstAg n Z G (givs n n []) with
    | none => rfl
    | some D => exact absurd ⟨hg, by rw [hf]; simp⟩ h
  · rw [tt_no hg]; rfl
theorem prB_yes {n : Nat} {L : Nat → Nat} {Z : Nat → Nat → Int} {m : Nat} {G : Nat → Int} {D : List Int} (h : GivenOk n L Z m G) (hf : firstAg n Z G (givs n n []) = some D) : prB n L Z m G = wordsB blockB D := by
  unfold prB
  rw [tt_of h, if_pos rfl, hf]
/-- A giving is not firm just if there is one against it. -/
theorem hasB_firm {n : Nat} {L : Nat → Nat} {Z : Nat → Nat → Int} {G : Nat → Int} (h : GivenOk n L Z n G) : HasB n L Z n G ↔ ¬ FirmP n Z G := by
  rw [firm_against h, ← firstAg_none]
  exact ⟨fun h' => h'.2, fun h' => ⟨h, h'⟩⟩
/-- .. and there is no text against a firm one. -/
theorem prB_firm {n : Nat} {L : Nat → Nat} {Z : Nat → Nat → Int} {G : Nat → Int} {t : ByteArray} (h : PrB n L Z n G t) : ¬ FirmP n Z G := by
  obtain ⟨hg, D, ⟨⟨h1, h2⟩, h3⟩, _⟩ := h
  intro hf
  refine (firm_against hg).1 hf D ?_ h3
  refine (mem_givs n [] (Diff.nil n) (by simp) D).2 ⟨?_, h1, List.nil_prefix⟩
  show IsDiff n D.length (nth D)
  rw [h1]; exact h2
/-- What is made is a proof. -/
theorem prB_made {n : Nat} {L : Nat → Nat} {Z : Nat → Nat → Int} {G : Nat → Int} (h : HasB n L Z n G) : PrB n L Z n G (strU (prB n L Z n G)) := by
  obtain ⟨hg, hn⟩ := h
  cases hf : firstAg n Z G (givs n n []) with
  | none => exact absurd hf hn
  | some D =>
    obtain ⟨h1, h2⟩ := firstAg_some _ _ hf
    exact ⟨hg, D, ⟨givs_each h1, h2⟩, by rw [prB_yes hg hf]⟩
end Go.Proofs.YtabdbgnkiebcdaaDoor

namespace Go.Proofs.YtabdbgnkiebcdaaDoor
set_option linter.unusedVariables false
set_option linter.unusedSimpArgs false
open Go.RowKit

set_option maxHeartbeats 1600000 in
theorem l11Against_any (n c : Nat) (a : Option Addr) (A : Nat → Option Addr) (L C : Nat → Nat) (Z : Nat → Nat → Int) (d e : Nat) (g b : Option Addr) (G X : Nat → Int) (w : World) (hg : GivenOk n L Z n G) (hd : IsDiff n n X) (ha : Tab w a n A L C Z) (hb : Rd w g n G) (hx : Rd w b n X) :
    Calls Tryd.prog 54 #[.slice a n c, .slice g n d, .slice b n e] w fun e w' => e = .returned (.bool (tt (AgainstP n Z G X))) ∧ Below w.heap.size w w' := by
  have hn5 := hg.1.1.2
  have h2 : (2 : Nat) ^ n ≤ 32 := Nat.pow_le_pow_right (show 0 < 2 by omega) hn5
  have h1 : 1 ≤ (2 : Nat) ^ n := Nat.pow_pos (by omega)
  have HO := Lib.hid (fun (S : Nat) (hS : S < 2 ^ n) w1 (h : Below w.heap.size w w1) => l3Own_any n e S b X w1 hn5 hd hS (hx.below (Nat.le_refl _) h))
  have HB := Lib.hid (fun (S : Nat) (hS : S < 2 ^ n) w1 (h : Below w.heap.size w w1) => l3Better_any (X := X) c a A L C d e b g w1 hg hd hS (ha.below (Nat.le_refl _) h) (hb.below (Nat.le_refl _) h) (hx.below (Nat.le_refl _) h))
  have hwp := wrap_pow (show n < 62 by omega)
  obtain ⟨E, hE⟩ : ∃ E, E = 2 ^ n := ⟨_, rfl⟩
  have QE := Lib.hid hE
  rw [← hE] at h1 h2 hwp
  clear hg ha hb hx hd hE
  go_enter Tryd.func54, Tryd.ntmps54
  go_wp2
  go_loopw [7] (fun s wr => ∃ k : Nat, 1 ≤ k ∧ k ≤ E ∧ s = .int .i64 k ∧ Below w.heap.size w wr ∧ ∀ S, 1 ≤ S → S < k → ¬ (OwnP n S X ∧ BetterP n Z S G X)) (fun s _ => E - (intOf s).toNat)
  case atStart => exact ⟨1, Nat.le_refl _, h1, rfl, Below.refl _ _, fun S h1 h2 => by omega⟩
  case round =>
    obtain ⟨k, hk1, hk2, rfl, hB, hno⟩ := hrel
    have BR := Lib.hid hB
    have NO := Lib.hid hno
    clear hB hno
    by_cases hlt : k < E
    · have HC := Lib.hid (HO.out k (by rw [← QE.out]; exact hlt) _ BR.out)
      have HD := Lib.hid (HB.out k (by rw [← QE.out]; exact hlt) _ BR.out)
      by_cases ho : OwnP n k X
      · have T1 := Lib.hid (tt_of ho)
        by_cases hbk : BetterP n Z k G X
        · have T2 := Lib.hid (tt_of hbk)
          have HF := Lib.hid (tt_of (show AgainstP n Z G X from ⟨k, hk1, by rw [← QE.out]; exact hlt, ho, hbk⟩))
          clear ho hbk
          go_wp2_with (first
            | (go_at_call 96; refine HC.out.mono ?_; rintro e w1 ⟨rfl, rfl⟩; rw [T1.out])
            | (go_at_call 97; refine HD.out.mono ?_; rintro e w1 ⟨rfl, hb1⟩; rw [T2.out]; have B1 := Lib.hid (BR.out.trans (hb1.mono BR.out.size)); clear hb1))
          go_ret
          exact ⟨by rw [HF.out]; rfl, B1.out⟩
        · have T2 := Lib.hid (tt_no hbk)
          have HN := Lib.hid (show ¬ (OwnP n k X ∧ BetterP n Z k G X) from fun h => hbk h.2)
          clear ho hbk
          go_wp2_with (first
            | (go_at_call 96; refine HC.out.mono ?_; rintro e w1 ⟨rfl, rfl⟩; rw [T1.out])
            | (go_at_call 97; refine HD.out.mono ?_; rintro e w1 ⟨rfl, hb1⟩; rw [T2.out]; have B1 := Lib.hid (BR.out.trans (hb1.mono BR.out.size)); clear hb1))
          go_roundw
          case rel => exact ⟨k + 1, by omega, by omega, by go_num, B1.out, fun S h1 h2 => by
            by_cases e : S = k
            · rw [e]; exact HN.out
            · exact NO.out S h1 (by omega)⟩
          case measure => simp [intOf]; omega
      · have T1 := Lib.hid (tt_no ho)
        have HN := Lib.hid (show ¬ (OwnP n k X ∧ BetterP n Z k G X) from fun h => ho h.1)
        clear ho
        go_wp2_with (go_at_call 96; refine HC.out.mono ?_; rintro e w1 ⟨rfl, rfl⟩; rw [T1.out])
        go_roundw
        case rel => exact ⟨k + 1, by omega, by omega, by go_num, BR.out, fun S h1 h2 => by
          by_cases e : S = k
          · rw [e]; exact HN.out
          · exact NO.out S h1 (by omega)⟩
        case measure => simp [intOf]; omega
    · obtain rfl : k = E := by omega
      have HF := Lib.hid (tt_no (show ¬ AgainstP n Z G X from fun ⟨S, h1, h2, h3⟩ => NO.out S h1 (by rw [QE.out]; exact h2) h3))
      go_wp2
      go_ret
      exact ⟨by rw [HF.out]; rfl, BR.out⟩
end Go.Proofs.YtabdbgnkiebcdaaDoor

namespace Go.Proofs.YtabdbgnkiebcdaaDoor
set_option linter.unusedVariables false
open Go.RowKit

set_option maxHeartbeats 800000 in
theorem l1Every_any (m c : Nat) (a : Option Addr) (X : Nat → Int) (w : World) (hm : m ≤ 61) (ha : Rd w a m X) :
    Calls Tryd.prog 101 #[.slice a m c] w fun e w' => e = .returned (.bool (tt (IsDiff m m X))) ∧ w = w' := by
  go_enter Tryd.func101, Tryd.ntmps101
  go_wp2
  go_loop [2, 3, 4] (fun r s i => ∃ k : Nat, k ≤ m ∧ i = .int .i64 k ∧ r = .bool false ∧ ∃ S : Nat, S < 2 ^ m ∧ s = .int .i64 S ∧ SetOf S k X ∧ ∀ j, j < k → 0 ≤ X j ∧ X j < m) (fun _ _ i => m - (intOf i).toNat)
  case atStart => exact ⟨0, Nat.zero_le _, rfl, rfl, 0, Nat.two_pow_pos m, rfl, SetOf.nil X, fun j hj => absurd hj (Nat.not_lt_zero _)⟩
  case round =>
    obtain ⟨k, hk, rfl, rfl, S, hS, rfl, hset, hrng⟩ := hrel
    have HS := Lib.hid hS
    have H1 := Lib.hid hset
    have H2 := Lib.hid hrng
    clear hS hset hrng
    by_cases hlt : k < m
    · obtain ⟨ba, oa, rfl, hca⟩ := ha k hlt
      clear ha
      by_cases hin : InR (X k) 0 (m - 1)
      · have B1 := Lib.hid (tt_of hin)
        unfold InR at hin
        obtain ⟨x, hx⟩ := Int.eq_ofNat_of_zero_le hin.1
        have hxn : x < m := by omega
        clear hin
        rw [hx] at hca B1
        have hx62 : x < 62 := by omega
        have hS62 : S < 2 ^ 62 := Nat.lt_trans HS.out (two_pow_lt (by omega))
        have HX := Lib.hid hx
        clear hx
        obtain ⟨S', hS'⟩ : ∃ S', S' = S ||| 2 ^ x := ⟨_, rfl⟩
        have hput := bit_put S x hS62 hx62
        rw [← hS'] at hput
        have HS' := Lib.hid hS'
        clear hS' hS62 hx62
        go_wp2_with (go_at_call 70; refine (l6In_any _ _ _ _).mono ?_; rintro e w' ⟨rfl, rfl⟩; rw [B1.out])
        go_round
        case rel => exact ⟨k + 1, by omega, by go_num, rfl, S', by rw [HS'.out]; exact bit_put_lt HS.out hxn, rfl, by rw [HS'.out]; exact H1.out.put HX.out, fun j hj => by
          by_cases e : j = k
          · subst e; have := HX.out; omega
          · exact H2.out j (by omega)⟩
        case measure => simp [intOf]; omega
      · have B1 := Lib.hid (tt_no hin)
        have hno := Lib.hid (not_diff_range (n := m) (X := X) hlt (by unfold InR at hin; omega))
        clear hin
        go_wp2_with (go_at_call 70; refine (l6In_any _ _ _ _).mono ?_; rintro e w' ⟨rfl, rfl⟩; rw [B1.out])
        go_ret
        exact ⟨by rw [tt_no hno.out]; rfl, rfl⟩
    · obtain rfl : k = m := by omega
      have hiff := Lib.hid (every_iff HS.out H1.out H2.out)
      have hp := two_pow_lt (show k < 62 by omega)
      have h1 := Nat.two_pow_pos k
      have hw2 : wrap64 (((2 ^ k : Nat) : Int) - 1) = ((2 ^ k - 1 : Nat) : Int) := by rw [IntWalk.wrap64_in _ (by omega)]; omega
      have hd : (((S : Nat) : Int) == wrap64 (wrap64 (2 ^ k) - 1)) = tt (IsDiff k k X) := by
        rw [wrap_pow (show k < 62 by omega), hw2]
        by_cases hi : IsDiff k k X
        · rw [tt_of hi, hiff.out.2 hi]; simp
        · rw [tt_no hi]
          have : S ≠ 2 ^ k - 1 := fun e => hi (hiff.out.1 e)
          simp only [beq_eq_false_iff_ne]; omega
      have HD := Lib.hid hd
      clear ha h1 hp hw2 hd
      go_wp2
      go_ret
      exact ⟨ret_bool HD.out, rfl⟩
end Go.Proofs.YtabdbgnkiebcdaaDoor

namespace Go.Proofs.YtabdbgnkiebcdaaDoor
set_option linter.unusedVariables false
set_option linter.unusedSimpArgs false
open Go.RowKit

/-- Some bool. -/
def SomeBool (e : Ending) : Prop := ∃ b, e = .returned (.bool b)

set_option maxHeartbeats 800000 in
/-- Of a list however long the model's l1Every tells something. -/
theorem l1Every_some (m c : Nat) (a : Option Addr) (X : Nat → Int) (w : World) (hm : m ≤ 1048576) (ha : Rd w a m X) :
    Calls Tryd.prog 101 #[.slice a m c] w fun e w' => SomeBool e ∧ w = w' := by
  go_enter Tryd.func101, Tryd.ntmps101
  go_wp2
  go_loop [2, 3, 4] (fun r s i => ∃ k : Nat, k ≤ m ∧ i = .int .i64 k ∧ r = .bool false ∧ ∃ S : Int, s = .int .i64 S) (fun _ _ i => m - (intOf i).toNat)
  case atStart => exact ⟨0, Nat.zero_le _, rfl, rfl, 0, rfl⟩
  case round =>
    obtain ⟨k, hk, rfl, rfl, S, rfl⟩ := hrel
    by_cases hlt : k < m
    · obtain ⟨ba, oa, rfl, hca⟩ := ha k hlt
      clear ha
      by_cases hin : InR (X k) 0 (m - 1)
      · have B1 := Lib.hid (tt_of hin)
        unfold InR at hin
        obtain ⟨x, hx⟩ := Int.eq_ofNat_of_zero_le hin.1
        have hxn : x < m := by omega
        clear hin
        rw [hx] at hca B1
        clear hx
        go_wp2_with (go_at_call 70; refine (l6In_any _ _ _ _).mono ?_; rintro e w' ⟨rfl, rfl⟩; rw [B1.out])
        go_round
        case rel => exact ⟨k + 1, by omega, by go_num, rfl, _, rfl⟩
        case measure => simp [intOf]; omega
      · have B1 := Lib.hid (tt_no hin)
        clear hin
        go_wp2_with (go_at_call 70; refine (l6In_any _ _ _ _).mono ?_; rintro e w' ⟨rfl, rfl⟩; rw [B1.out])
        go_ret
        exact ⟨⟨_, rfl⟩, rfl⟩
    · obtain rfl : k = m := by omega
      clear ha
      go_wp2
      go_ret
      exact ⟨⟨_, rfl⟩, rfl⟩

set_option maxHeartbeats 800000 in
theorem specHouseIn_any (n c : Nat) (a : Option Addr) (A : Nat → Option Addr) (L C : Nat → Nat) (Z : Nat → Nat → Int) (w : World) (hn0 : n ≤ 1048576) (hL0 : ∀ r, r < n → L r ≤ 1048576) (ha0 : Tab w a n A L C Z) :
    Calls Tryd.prog 94 #[.slice a n c] w fun e w' => e = .returned (.bool (tt (IsWishes n L Z))) ∧ w = w' := by
  have HA := Lib.hid ha0
  have HL := Lib.hid hL0
  clear ha0 hL0
  go_enter Tryd.func94, Tryd.ntmps94
  go_wp2
  go_loop [2, 3] (fun _ i => ∃ k : Nat, k ≤ n ∧ i = .int .i64 k ∧ (n ≤ 5 → ∀ j, j < k → L j = n ∧ IsDiff n n (Z j))) (fun _ i => n - (intOf i).toNat)
  case atStart => exact ⟨0, Nat.zero_le _, rfl, fun _ j hj => absurd hj (Nat.not_lt_zero _)⟩
  case round =>
    obtain ⟨k, hk, rfl, hall⟩ := hrel
    have HAll := Lib.hid hall
    clear hall
    by_cases hlt : k < n
    · obtain ⟨ba, oa, rfl, hca, hra⟩ := HA.out k hlt
      have HRd := Lib.hid hra
      have hLk := HL.out k hlt
      clear hra
      by_cases he : L k = n
      · have hd : ((L k : Int) != (n : Int)) = false := by simp [he]
        by_cases h5 : n ≤ 5
        · by_cases hdf : IsDiff n n (Z k)
          · have T2 := Lib.hid (tt_of (show IsDiff (L k) (L k) (Z k) by rw [he]; exact hdf))
            have HD := Lib.hid hdf
            have HE := Lib.hid he
            have hl61 : L k ≤ 61 := by omega
            clear hdf he
            go_wp2_with (go_at_call 101; refine (l1Every_any (L k) (C k) _ (Z k) _ hl61 HRd.out).mono ?_; rintro e w' ⟨rfl, rfl⟩; rw [T2.out])
            go_round
            case rel => exact ⟨k + 1, by omega, by go_num, fun _ j hj => by
              by_cases e : j = k
              · subst e; exact ⟨HE.out, HD.out⟩
              · exact HAll.out h5 j (by omega)⟩
            case measure => simp [intOf]; omega
          · have T2 := Lib.hid (tt_no (show ¬ IsDiff (L k) (L k) (Z k) by rw [he]; exact hdf))
            have T3 := Lib.hid (tt_no (show ¬ IsWishes n L Z from fun h => hdf (h.2 k hlt).2))
            have hl61 : L k ≤ 61 := by omega
            clear hdf he
            go_wp2_with (go_at_call 101; refine (l1Every_any (L k) (C k) _ (Z k) _ hl61 HRd.out).mono ?_; rintro e w' ⟨rfl, rfl⟩; rw [T2.out])
            go_ret
            exact ⟨by rw [T3.out]; rfl, rfl⟩
        · have T3 := Lib.hid (tt_no (show ¬ IsWishes n L Z from fun h => h5 h.1.2))
          clear he
          go_wp2_with fail
          refine (l1Every_some (L k) (C k) _ (Z k) _ hLk HRd.out).mono ?_
          rintro e w' ⟨⟨b, rfl⟩, rfl⟩
          cases b
          · go_wp2
            go_ret
            exact ⟨by rw [T3.out]; rfl, rfl⟩
          · go_wp2
            go_round
            case rel => exact ⟨k + 1, by omega, by go_num, fun h => absurd h h5⟩
            case measure => simp [intOf]; omega
      · have hd : ((L k : Int) != (n : Int)) = true := by simp; omega
        have T3 := Lib.hid (tt_no (show ¬ IsWishes n L Z from fun h => he (h.2 k hlt).1))
        clear he
        go_wp2
        go_ret
        exact ⟨by rw [T3.out]; rfl, rfl⟩
    · obtain rfl : k = n := by omega
      have TE := Lib.hid (tt_congr (show InR (k : Int) 2 5 ↔ IsWishes k L Z from ⟨fun h => ⟨⟨by have := h.1; omega, by have := h.2; omega⟩, HAll.out (by have := h.2; omega)⟩, fun h => ⟨by have := h.1.1; omega, by have := h.1.2; omega⟩⟩))
      go_wp2_with (go_at_call 70; refine (l6In_any _ _ _ _).mono ?_; rintro e w' ⟨rfl, rfl⟩; rw [TE.out])
      go_ret
      exact ⟨rfl, rfl⟩
theorem specHouseIn_below (n c : Nat) (a : Option Addr) (A : Nat → Option Addr) (L C : Nat → Nat) (Z : Nat → Nat → Int) (w : World) (hn0 : n ≤ 1048576) (hL0 : ∀ r, r < n → L r ≤ 1048576) (ha0 : Tab w a n A L C Z) :
    Calls Tryd.prog 94 #[.slice a n c] w fun e w' => e = .returned (.bool (tt (IsWishes n L Z))) ∧ Below w.heap.size w w' := by
  refine (specHouseIn_any n c a A L C Z w hn0 hL0 ha0).mono ?_
  rintro e w' ⟨rfl, rfl⟩
  exact ⟨rfl, Below.refl _ _⟩
end Go.Proofs.YtabdbgnkiebcdaaDoor

namespace Go.Proofs.YtabdbgnkiebcdaaDoor
set_option linter.unusedVariables false
open Go.RowKit

/-- Is it a giving for so many? -/
def GivingOk (x : Int) (m : Nat) (X : Nat → Int) : Prop := People x ∧ ((m : Int) = x ∧ IsDiff m m X)
end Go.Proofs.YtabdbgnkiebcdaaDoor

namespace Go.Proofs.YtabdbgnkiebcdaaDoor
set_option linter.unusedVariables false
set_option linter.unusedSimpArgs false
open Go.RowKit

theorem specGiving_any (x : Int) (m d : Nat) (b : Option Addr) (X : Nat → Int) (w : World) (hx0 : I64 x) (hm1 : m ≤ 1048576) (hb1 : Rd w b m X) :
    Calls Tryd.prog 59 #[.int .i64 x, .slice b m d] w fun e w' => e = .returned (.bool (tt (GivingOk x m X))) ∧ w = w' := by
  by_cases hp : InR x 2 5
  · have T1 := Lib.hid (tt_of hp)
    by_cases hm : (m : Int) = x
    · have hd : ((m : Int) == x) = true := by simpa using hm
      have hm61 : m ≤ 61 := by have := hp.2; omega
      have HE := Lib.hid (tt_congr (show IsDiff m m X ↔ GivingOk x m X from ⟨fun h => ⟨hp, hm, h⟩, fun h => h.2.2⟩))
      have H := Lib.hid (l1Every_any m d b X w hm61 hb1)
      clear hp hb1 hm
      go_enter Tryd.func59, Tryd.ntmps59
      go_wp2_with (first
        | (go_at_call 70; refine (l6In_any _ _ _ _).mono ?_; rintro e w' ⟨rfl, rfl⟩; rw [T1.out])
        | (go_at_call 101; refine H.out.mono ?_; rintro e w' ⟨rfl, rfl⟩; rw [HE.out]))
      go_ret
      exact ⟨rfl, rfl⟩
    · have hd : ((m : Int) == x) = false := by simpa using hm
      have T2 := Lib.hid (tt_no (show ¬ GivingOk x m X from fun h => hm h.2.1))
      clear hp hb1 hm
      go_enter Tryd.func59, Tryd.ntmps59
      go_wp2_with (go_at_call 70; refine (l6In_any _ _ _ _).mono ?_; rintro e w' ⟨rfl, rfl⟩; rw [T1.out])
      go_ret
      exact ⟨by rw [T2.out]; rfl, rfl⟩
  · have T1 := Lib.hid (tt_no hp)
    have T2 := Lib.hid (tt_no (show ¬ GivingOk x m X from fun h => hp h.1))
    clear hp hb1
    go_enter Tryd.func59, Tryd.ntmps59
    go_wp2_with (go_at_call 70; refine (l6In_any _ _ _ _).mono ?_; rintro e w' ⟨rfl, rfl⟩; rw [T1.out])
    go_ret
    exact ⟨by rw [T2.out]; rfl, rfl⟩
theorem specHouseGiving_any (x : Int) (m d : Nat) (b : Option Addr) (X : Nat → Int) (w : World) (hx0 : I64 x) (hm1 : m ≤ 1048576) (hb1 : Rd w b m X) :
    Calls Tryd.prog 59 #[.int .i64 x, .slice b m d] w fun e w' => e = .returned (.bool (tt (GivingOk x m X))) ∧ Below w.heap.size w w' := by
  refine (specGiving_any x m d b X w hx0 hm1 hb1).mono ?_
  rintro e w' ⟨rfl, rfl⟩
  exact ⟨rfl, Below.refl _ _⟩
end Go.Proofs.YtabdbgnkiebcdaaDoor

namespace Go.Proofs.YtabdbgnkiebcdaaDoor
set_option linter.unusedVariables false
set_option linter.unusedSimpArgs false
open Go.RowKit

theorem l3Both_any (n c : Nat) (a : Option Addr) (A : Nat → Option Addr) (L C : Nat → Nat) (Z : Nat → Nat → Int) (m d : Nat) (b : Option Addr) (G : Nat → Int) (w : World) (hn0 : n ≤ 1048576) (hL0 : ∀ r, r < n → L r ≤ 1048576) (ha0 : Tab w a n A L C Z) (hm : m ≤ 1048576) (hb : Rd w b m G) :
    Calls Tryd.prog 52 #[.slice a n c, .slice b m d] w fun e w' => e = .returned (.bool (tt (GivenOk n L Z m G))) ∧ w = w' := by
  have H := Lib.hid (specHouseIn_any n c a A L C Z w hn0 hL0 ha0)
  by_cases h1 : IsWishes n L Z
  · have T1 := Lib.hid (tt_of h1)
    have HG := Lib.hid (specGiving_any (n : Int) m d b G w ⟨by omega, by omega⟩ hm hb)
    have hiff : GivingOk (n : Int) m G ↔ GivenOk n L Z m G := by
      constructor
      · intro h
        have e : m = n := by have := h.2.1; omega
        exact ⟨h1, e, by have := h.2.2; rwa [e] at this⟩
      · intro h
        exact ⟨⟨by have := h1.1.1; omega, by have := h1.1.2; omega⟩, by rw [h.2.1], by rw [h.2.1]; exact h.2.2⟩
    have HE := Lib.hid (tt_congr hiff)
    clear hiff
    clear h1 ha0 hL0 hb
    go_enter Tryd.func52, Tryd.ntmps52
    go_wp2_with (first
      | (go_at_call 94; refine H.out.mono ?_; rintro e w' ⟨rfl, rfl⟩; rw [T1.out])
      | (go_at_call 59; refine HG.out.mono ?_; rintro e w' ⟨rfl, rfl⟩; rw [HE.out]))
    go_ret
    exact ⟨rfl, rfl⟩
  · have T1 := Lib.hid (tt_no h1)
    have HE := Lib.hid (tt_no (show ¬ GivenOk n L Z m G from fun h => h1 h.1))
    clear h1 ha0 hL0 hb
    go_enter Tryd.func52, Tryd.ntmps52
    go_wp2_with (go_at_call 94; refine H.out.mono ?_; rintro e w' ⟨rfl, rfl⟩; rw [T1.out])
    go_ret
    exact ⟨by rw [HE.out]; rfl, rfl⟩
end Go.Proofs.YtabdbgnkiebcdaaDoor

namespace Go.Proofs.YtabdbgnkiebcdaaDoor
set_option linter.unusedVariables false
set_option linter.unusedSimpArgs false
open Go.RowKit

theorem giving_each {n m : Nat} {X : Nat → Int} (h2 : 2 ≤ n) (h5 : n ≤ 5) : GivingOk (n : Int) m X ↔ IsEach n m X := by
  constructor
  · rintro ⟨_, h3, h4⟩
    obtain rfl : m = n := by omega
    exact ⟨rfl, h4⟩
  · rintro ⟨rfl, h4⟩
    exact ⟨⟨by omega, by omega⟩, rfl, h4⟩

set_option maxRecDepth 100000 in
set_option maxHeartbeats 3200000 in
theorem specProofBlockIs_any (n c : Nat) (a : Option Addr) (A : Nat → Option Addr) (L C : Nat → Nat) (Z : Nat → Nat → Int) (m d : Nat) (b : Option Addr) (G : Nat → Int) (t : ByteArray) (w : World) (hn0 : n ≤ 1048576) (hL0 : ∀ r, r < n → L r ≤ 1048576) (ha0 : Tab w a n A L C Z) (hm1 : m ≤ 1048576) (hb1 : Rd w b m G) (ht : t.size ≤ 1048576) :
    Calls Tryd.prog 22 #[.slice a n c, .slice b m d, .string t] w fun e w' => e = .returned (.bool (tt (PrB n L Z m G t))) ∧ Below w.heap.size w w' := by
  have H1 := Lib.hid (fun (w1 : World) (h : Below w.heap.size w w1) => l3Both_any n c a A L C Z m d b G w1 hn0 hL0 (ha0.below (Nat.le_refl _) h) hm1 (hb1.below (Nat.le_refl _) h))
  by_cases hd : ∃ D, FewAll D ∧ t = strU (wordsB blockB D)
  · obtain ⟨D, hD, htD⟩ := hd
    have RY := Lib.hid (read_yes w (W := blockB) (by decide) ht hD htD)
    by_cases hg : GivenOk n L Z m G
    · have T1 := Lib.hid (tt_of hg)
      have hmn := hg.2.1
      subst hmn
      have hn2 := hg.1.1.1
      have hn5 := hg.1.1.2
      have P1 : PrB m L Z m G t ↔ IsEach m D.length (nth D) ∧ AgainstP m Z G (nth D) := by
        constructor
        · rintro ⟨_, M, h1, h2⟩
          have h3 := congrArg (fun z => z.data.toList) (htD.symm.trans h2)
          simp only [strU_list] at h3
          rw [words_inj blockB D M hD (block_few (by omega) hn5 h1).2.2 h3]
          exact h1
        · intro h; exact ⟨hg, D, h, htD⟩
      obtain ⟨q, hq⟩ : ∃ q, q = D.length := ⟨_, rfl⟩
      obtain ⟨Y, hY⟩ : ∃ Y, Y = nth D := ⟨_, rfl⟩
      rw [← hq, ← hY] at RY P1
      have HG := Lib.hid (fun (x : Option Addr) (e : Nat) (w1 : World) (hr : Rd w1 x q Y) (hq : q ≤ 1048576) => specHouseGiving_any (m : Int) q e x Y w1 ⟨by omega, by omega⟩ hq hr)
      by_cases he : IsEach m q Y
      · have T2 := Lib.hid (tt_of ((giving_each hn2 hn5).2 he))
        have hqm := he.1
        subst hqm
        have HA := Lib.hid (fun (x : Option Addr) (e : Nat) (w1 : World) (h : Below w.heap.size w w1) (hr : Rd w1 x q Y) => l11Against_any q c a A L C Z d e b x G Y w1 hg he.2 (ha0.below (Nat.le_refl _) h) (hb1.below (Nat.le_refl _) h) hr)
        have E := Lib.hid (show tt (AgainstP q Z G Y) = tt (PrB q L Z q G t) from tt_congr (P1.trans ⟨fun h => h.2, fun h => ⟨he, h⟩⟩).symm)
        clear hg he P1 hq hY htD hD ha0 hb1
        go_enter Tryd.func22, Tryd.ntmps22
        go_wp2_with (first
          | (go_at_call 45; refine RY.out.mono ?_; rintro e w1 ⟨⟨x, z, rfl, hrd⟩, hml, hb1⟩; have R1 := Lib.hid hrd; have B1 := Lib.hid hb1; have ML := Lib.hid hml; clear hrd hb1 hml)
          | (go_at_call 52; refine (H1.out _ B1.out).mono ?_; rw [T1.out]; rintro e w2 ⟨rfl, rfl⟩)
          | (go_at_call 59; refine (HG.out _ _ _ R1.out ML.out).mono ?_; rw [T2.out]; rintro e w3 ⟨rfl, hb3⟩; have B3 := Lib.hid (below_chain B1.out hb3); have R3 := Lib.hid (R1.out.below (Nat.le_refl _) hb3); clear hb3)
          | (go_at_call 54; refine (HA.out _ _ _ B3.out R3.out).mono ?_; rw [E.out]; rintro e w4 ⟨rfl, hb4⟩; have B4 := Lib.hid (below_chain B3.out hb4); clear hb4))
        go_ret
        exact ⟨rfl, B4.out⟩
      · have T2 := Lib.hid (tt_no (fun h : GivingOk (m : Int) q Y => he ((giving_each hn2 hn5).1 h)))
        have E := Lib.hid (tt_no (show ¬ PrB m L Z m G t from fun h => he (P1.1 h).1))
        clear hg he P1 hq hY htD hD ha0 hb1
        go_enter Tryd.func22, Tryd.ntmps22
        go_wp2_with (first
          | (go_at_call 45; refine RY.out.mono ?_; rintro e w1 ⟨⟨x, z, rfl, hrd⟩, hml, hb1⟩; have R1 := Lib.hid hrd; have B1 := Lib.hid hb1; have ML := Lib.hid hml; clear hrd hb1 hml)
          | (go_at_call 52; refine (H1.out _ B1.out).mono ?_; rw [T1.out]; rintro e w2 ⟨rfl, rfl⟩)
          | (go_at_call 59; refine (HG.out _ _ _ R1.out ML.out).mono ?_; rw [T2.out]; rintro e w3 ⟨rfl, hb3⟩; have B3 := Lib.hid (below_chain B1.out hb3); clear hb3))
        go_ret
        exact ⟨by rw [E.out]; rfl, B3.out⟩
    · have T1 := Lib.hid (tt_no hg)
      have E := Lib.hid (tt_no (show ¬ PrB n L Z m G t from fun h => hg h.1))
      clear hg htD hD ha0 hb1
      go_enter Tryd.func22, Tryd.ntmps22
      go_wp2_with (first
        | (go_at_call 45; refine RY.out.mono ?_; rintro e w1 ⟨⟨x, z, rfl, hrd⟩, hml, hb1⟩; have R1 := Lib.hid hrd; have B1 := Lib.hid hb1; have ML := Lib.hid hml; clear hrd hb1 hml)
        | (go_at_call 52; refine (H1.out _ B1.out).mono ?_; rw [T1.out]; rintro e w2 ⟨rfl, rfl⟩))
      go_ret
      exact ⟨by rw [E.out]; rfl, B1.out⟩
  · have RN := Lib.hid (read_no w (W := blockB) (by decide) ht (fun D hD e => hd ⟨D, hD, e⟩))
    have E := Lib.hid (tt_no (show ¬ PrB n L Z m G t from fun h => by
      obtain ⟨hg, D, h1, h2⟩ := h
      exact hd ⟨D, (block_few (by have := hg.1.1.1; omega) hg.1.1.2 h1).2.2, h2⟩))
    clear hd ha0 hb1 H1
    go_enter Tryd.func22, Tryd.ntmps22
    go_wp2_with (go_at_call 45; refine RN.out.mono ?_; rintro e w1 ⟨⟨x, y, z, rfl⟩, hb1⟩; have B1 := Lib.hid hb1; clear hb1)
    go_ret
    exact ⟨by rw [E.out]; rfl, B1.out⟩
end Go.Proofs.YtabdbgnkiebcdaaDoor

namespace Go.Proofs.YtabdbgnkiebcdaaDoor
set_option linter.unusedVariables false
set_option linter.unusedSimpArgs false
open Go.RowKit

theorem readGiven_any (n c : Nat) (a : Option Addr) (A : Nat → Option Addr) (L C : Nat → Nat) (Z : Nat → Nat → Int) (m d : Nat) (b : Option Addr) (G : Nat → Int) (w : World) (hn0 : n ≤ 1048576) (hL0 : ∀ r, r < n → L r ≤ 1048576) (ha0 : Tab w a n A L C Z) (hm : m ≤ 1048576) (hb : Rd w b m G) :
    Calls Tryd.prog 67 #[.slice a n c, .slice b m d] w (RetWishes (tt (GivenOk n L Z m G)) a n c w) := by
  have H := Lib.hid (readWishes_any n c a A L C Z w hn0 hL0 ha0)
  by_cases h1 : IsWishes n L Z
  · have T1 := Lib.hid (tt_of h1)
    have HE := Lib.hid (hasEach_any n m d b G w h1.1.2 hm hb)
    by_cases h2 : IsEach n m G
    · have T2 := Lib.hid (tt_of h2)
      have T3 := Lib.hid (tt_of (show GivenOk n L Z m G from ⟨h1, h2⟩))
      clear h1 h2 ha0 hL0 hb
      go_enter Tryd.func67, Tryd.ntmps67
      go_wp2_with (first
        | (go_at_call 112; refine H.out.mono ?_; rintro e w' ⟨rfl, rfl⟩; rw [T1.out])
        | (go_at_call 113; refine HE.out.mono ?_; rintro e w' ⟨rfl, rfl⟩; rw [T2.out]))
      go_ret2
      exact ⟨by rw [T3.out]; rfl, rfl⟩
    · have T2 := Lib.hid (tt_no h2)
      have T3 := Lib.hid (tt_no (show ¬ GivenOk n L Z m G from fun h => h2 h.2))
      clear h1 h2 ha0 hL0 hb
      go_enter Tryd.func67, Tryd.ntmps67
      go_wp2_with (first
        | (go_at_call 112; refine H.out.mono ?_; rintro e w' ⟨rfl, rfl⟩; rw [T1.out])
        | (go_at_call 113; refine HE.out.mono ?_; rintro e w' ⟨rfl, rfl⟩; rw [T2.out]))
      go_ret2
      exact ⟨by rw [T3.out]; rfl, rfl⟩
  · have T1 := Lib.hid (tt_no h1)
    have T3 := Lib.hid (tt_no (show ¬ GivenOk n L Z m G from fun h => h1 h.1))
    clear h1 ha0 hL0 hb
    go_enter Tryd.func67, Tryd.ntmps67
    go_wp2_with (first
      | (go_at_call 112; refine H.out.mono ?_; rintro e w' ⟨rfl, rfl⟩; rw [T1.out]))
    go_ret2
    exact ⟨by rw [T3.out]; rfl, rfl⟩

end Go.Proofs.YtabdbgnkiebcdaaDoor

namespace Go.Proofs.YtabdbgnkiebcdaaDoor
set_option linter.unusedVariables false
set_option linter.unusedSimpArgs false
open Go.RowKit

set_option maxHeartbeats 800000 in
theorem likes_any (n c p : Nat) (a : Option Addr) (A : Nat → Option Addr) (L C : Nat → Nat) (Z : Nat → Nat → Int) (x y : Int) (w : World) (hW : IsWishes n L Z) (hp : p < n) (ha : Tab w a n A L C Z) :
    Calls Tryd.prog 155 #[.slice a n c, .int .i64 p, .int .i64 x, .int .i64 y] w fun e w' => e = .returned (.bool (decide (idxF (Z p) x n < idxF (Z p) y n))) ∧ Below w.heap.size w w' := by
  obtain ⟨ba, oa, rfl, hca, hra⟩ := ha p hp
  have hn5 := hW.1.2
  have hl := (hW.2 p hp).1
  rw [hl] at hca hra
  have HR := Lib.hid hra
  obtain ⟨ix, hix⟩ : ∃ ix, ix = idxF (Z p) x n := ⟨_, rfl⟩
  obtain ⟨iy, hiy⟩ : ∃ iy, iy = idxF (Z p) y n := ⟨_, rfl⟩
  have QX := Lib.hid hix
  have QY := Lib.hid hiy
  have hcr : ∀ r : Later w, r.W.cell? ⟨ba, oa + p, none⟩ = some (.slice (A p) n (C p)) := fun r => later_cell hca r
  rw [← hix, ← hiy]
  have IX := Lib.hid (show ∀ r : Later w, Calls Tryd.prog 174 #[.slice (A p) n (C p), .int .i64 x] r.W fun e w' => e = .returned (.int .i64 ix) ∧ Below r.W.heap.size r.W w' from fun r => by
    refine (index_any n (C p) (A p) (Z p) x _ (by omega) (HR.out.below (Nat.le_refl _) (Later.h _))).mono ?_
    rintro e w' ⟨rfl, rfl⟩
    exact ⟨by rw [QX.out], Below.refl _ _⟩)
  have IY := Lib.hid (show ∀ r : Later w, Calls Tryd.prog 174 #[.slice (A p) n (C p), .int .i64 y] r.W fun e w' => e = .returned (.int .i64 iy) ∧ Below r.W.heap.size r.W w' from fun r => by
    refine (index_any n (C p) (A p) (Z p) y _ (by omega) (HR.out.below (Nat.le_refl _) (Later.h _))).mono ?_
    rintro e w' ⟨rfl, rfl⟩
    exact ⟨by rw [QY.out], Below.refl _ _⟩)
  clear hW hca hra ha hl hix hiy
  go_enter Tryd.func155, Tryd.ntmps155
  go_wp2
  refine wp_region_later (by kernel_rfl) (by kernel_rfl) ?_
  iterate 6 go_big_quiet_step ((go_at_call 174; exact calls_later _ (IX.out _)))
  clear IX
  repeat go_big_quiet_step ((go_at_call 174; exact calls_later _ (IY.out _)))
  refine wpQuiet_nil ?_
  rintro _ ⟨r, rfl⟩
  go_wp2
  go_ret
  exact ⟨rfl, r.h⟩
end Go.Proofs.YtabdbgnkiebcdaaDoor

namespace Go.Proofs.YtabdbgnkiebcdaaDoor
set_option linter.unusedVariables false
set_option linter.unusedSimpArgs false
open Go.RowKit

theorem everybody_any (n c : Nat) (a : Option Addr) (w : World) (hn : n ≤ 5) :
    Calls Tryd.prog 68 #[.slice a n c] w fun e w' => e = .returned (.int .i64 (((2 ^ n : Nat) : Int) - 1)) ∧ w = w' := by
  have hw := wrap_pow (show n < 62 by omega)
  have h2 : (2 : Nat) ^ n ≤ 32 := Nat.pow_le_pow_right (show 0 < 2 by omega) hn
  have h1 : 1 ≤ (2 : Nat) ^ n := Nat.pow_pos (by omega)
  have e : ((2 ^ n : Nat) : Int) = (2 : Int) ^ n := by simp
  have hw1 := Lib.hid (show Ending.returned (Value.int .i64 (wrap64 (2 ^ n - 1))) = .returned (.int .i64 (((2 ^ n : Nat) : Int) - 1)) by
    rw [← e, IntWalk.wrap64_in _ ⟨by omega, by omega⟩])
  clear e
  go_enter Tryd.func68, Tryd.ntmps68
  go_wp2
  go_ret
  exact ⟨hw1.out, rfl⟩
end Go.Proofs.YtabdbgnkiebcdaaDoor

namespace Go.Proofs.YtabdbgnkiebcdaaDoor
set_option linter.unusedVariables false
set_option linter.unusedSimpArgs false
open Go.RowKit

set_option maxHeartbeats 1600000 in
theorem givesOwn_any (n c S : Nat) (a : Option Addr) (X : Nat → Int) (w : World) (hn5 : n ≤ 5) (hd : IsDiff n n X) (hS : S < 2 ^ n) (ha : Rd w a n X) :
    Calls Tryd.prog 132 #[.slice a n c, .int .i64 (S : Nat)] w fun e w' => e = .returned (.bool (tt (OwnP n S X))) ∧ w = w' := by
  have HA := Lib.hid ha
  have HD := Lib.hid hd
  have HE := Lib.hid (fun N (h : Front n (fun i => (X i).toNat) S n N) => own_front hd hS h)
  have HS := Lib.hid hS
  clear ha hd hS
  go_enter Tryd.func132, Tryd.ntmps132
  go_wp2
  go_loop [5, 6, 7, 10] (fun nx _ _ i => ∃ j N : Nat, j ≤ n ∧ i = .int .i64 j ∧ nx = .int .i64 (N : Nat) ∧ Front n (fun i => (X i).toNat) S j N) (fun _ _ _ i => n - (intOf i).toNat)
  case atStart => exact ⟨0, 0, Nat.zero_le _, rfl, rfl, Front.zero _ _ _⟩
  case round =>
    obtain ⟨j, N, hj, rfl, rfl, hF⟩ := hrel
    have HF := Lib.hid hF
    clear hF
    by_cases hjl : j < n
    · have hhas := bit_has S j (Nat.lt_trans HS.out (two_pow_lt (by omega)))
      have hr := HD.out.1 j hjl
      obtain ⟨ba, oa, rfl, hca⟩ := HA.out j hjl
      obtain ⟨p, hp⟩ : ∃ p, p = (X j).toNat := ⟨_, rfl⟩
      have hpn : p < n := by have h1 := hr.1; have h2 := hr.2; omega
      have hX : X j = (p : Nat) := by rw [hp]; have := hr.1; omega
      rw [hX] at hca
      have i1 : (0 : Int) ≤ (j : Int) := by omega
      have i2 : (j : Int) < (n : Int) := by omega
      by_cases hb : S.testBit j = true
      · rw [hb] at hhas
        have hput := bit_put N p (Nat.lt_trans HF.out.1 (two_pow_lt (by omega))) (by omega)
        obtain ⟨N', hN'⟩ : ∃ N', N' = N ||| 2 ^ p := ⟨_, rfl⟩
        rw [← hN'] at hput
        have HN := Lib.hid (show Front n (fun i => (X i).toNat) S (j + 1) N' by rw [hN', hp]; exact HF.out.yes (f := fun i => (X i).toNat) hb (by show (X j).toNat < n; rw [← hp]; exact hpn))
        clear hp hN' hb hr hX
        go_wp2
        go_round
        case rel => exact ⟨j + 1, N', by omega, by go_num, rfl, HN.out⟩
        case measure => simp [intOf]; omega
      · have hb' : S.testBit j = false := by simpa using hb
        rw [hb'] at hhas
        have HN := Lib.hid (HF.out.no hb')
        clear hb hb' hp hr hX
        go_wp2
        go_round
        case rel => exact ⟨j + 1, N, by omega, by go_num, rfl, HN.out⟩
        case measure => simp [intOf]; omega
    · obtain rfl : j = n := by omega
      have hE := HE.out N HF.out
      go_wp2
      go_ret
      exact ⟨by rw [← hE]; rfl, rfl⟩

set_option maxHeartbeats 3200000 in
theorem isBetterFor_any (n : Nat) (Z : Nat → Nat → Int) (G X : Nat → Int) (S : Nat) (c : Nat) (a : Option Addr) (A : Nat → Option Addr) (L C : Nat → Nat) (d e : Nat) (b g : Option Addr) (w : World) (hg : GivenOk n L Z n G) (hd : IsDiff n n X) (hS : S < 2 ^ n) (ha0 : Tab w a n A L C Z) (hb : Rd w g n G) (hx : Rd w b n X) :
    Calls Tryd.prog 133 #[.agg #[.slice a n c, .slice g n d], .slice b n e, .int .i64 (S : Nat)] w fun e w' => e = .returned (.bool (tt (BetterP n Z S G X))) ∧ Below w.heap.size w w' := by
  have hn5 := hg.1.1.2
  have HG := Lib.hid hg
  have HA := Lib.hid ha0
  have HB := Lib.hid hb
  have HX := Lib.hid hx
  have HD := Lib.hid hd
  have HS := Lib.hid hS
  clear hg ha0 hb hx hd hS
  go_enter Tryd.func133, Tryd.ntmps133
  go_wp2
  obtain ⟨s, hs⟩ : ∃ s, s = w.heap.size := ⟨_, rfl⟩
  obtain ⟨w0, hw0⟩ : ∃ w0, w0 = w.alloc (.cells #[.slice a n c, .slice g n d] 71) := ⟨_, rfl⟩
  have hb0 : Below w.heap.size w w0 := by rw [hw0]; exact below_alloc (Below.refl _ w) _
  have q0 : w0.cell? ⟨s, 0, none⟩ = some (.slice a n c) := by rw [hw0, hs]; simp
  have q1 : w0.cell? ⟨s, 1, none⟩ = some (.slice g n d) := by rw [hw0, hs]; simp
  rw [← hw0, ← hs]
  have B0 := Lib.hid hb0
  have Q0 := Lib.hid q0
  have Q1 := Lib.hid q1
  have HS0 := Lib.hid hs
  clear hb0 q0 q1 hw0 hs
  go_loopw [7, 8, 9, 12] (fun sm _ _ i wr => ∃ k : Nat, k ≤ n ∧ i = .int .i64 k ∧ sm = .bool (tt (SomeB Z n S G X k)) ∧ Below w0.heap.size w0 wr ∧ NoneW Z n S G X k) (fun _ _ _ i _ => n - (intOf i).toNat)
  case atStart => exact ⟨0, Nat.zero_le _, rfl, by rw [someB_zero], Below.refl _ _, noneW_zero⟩
  case round =>
    obtain ⟨k, hk, rfl, rfl, hBw, hno⟩ := hrel
    have BR := Lib.hid hBw
    have BW := Lib.hid (below_chain B0.out hBw)
    have NO := Lib.hid hno
    clear hBw hno
    by_cases hlt : k < n
    · have hhas := bit_none S k (Nat.lt_trans HS.out (two_pow_lt (by omega)))
      obtain ⟨bx, ox, rfl, hxc⟩ := (HX.out.below (Nat.le_refl _) BW.out) k hlt
      have i1 : (0 : Int) ≤ (k : Int) := by omega
      have i2 : (k : Int) < (n : Int) := by omega
      by_cases hbk : S.testBit k = true
      · rw [hbk] at hhas
        have hhas : (bits .and .i64 ((S : Int) / 2 ^ k) 1 == 0) = false := hhas
        obtain ⟨bg, og, rfl, hgc⟩ := (HB.out.below (Nat.le_refl _) BW.out) k hlt
        have q0 := (BR.out.cell (p := ⟨s, 0, none⟩) (World.block_lt_of_cell? _ _ Q0.out)).trans Q0.out
        have q1 := (BR.out.cell (p := ⟨s, 1, none⟩) (World.block_lt_of_cell? _ _ Q1.out)).trans Q1.out
        obtain ⟨x, hxx⟩ : ∃ x, x = G k := ⟨_, rfl⟩
        obtain ⟨y, hyy⟩ : ∃ y, y = X k := ⟨_, rfl⟩
        rw [← hxx] at hgc
        rw [← hyy] at hxc
        obtain ⟨pa, hpa⟩ : ∃ p, p = idxF (Z k) x n := ⟨_, rfl⟩
        obtain ⟨pb, hpb⟩ : ∃ p, p = idxF (Z k) y n := ⟨_, rfl⟩
        have KL := Lib.hid (fun (u v : Int) (w2 : World) (h2 : Below wr.heap.size wr w2) (r : Later w2) => likes_any n c k a A L C Z u v r.W HG.out.1 hlt (HA.out.below (Nat.le_refl _) ((BW.out.trans (h2.mono BW.out.size)).trans (r.h.mono (Nat.le_trans BW.out.size h2.size)))))
        have I1 := Lib.hid (fun (w2 : World) (h2 : Below wr.heap.size wr w2) (r : Later w2) => (show Calls Tryd.prog 155 #[.slice a n c, .int .i64 k, .int .i64 x, .int .i64 y] r.W fun e w' => e = .returned (.bool (decide (pa < pb))) ∧ Below r.W.heap.size r.W w' from by rw [hpa, hpb]; exact KL.out x y w2 h2 r))
        have I2 := Lib.hid (fun (w2 : World) (h2 : Below wr.heap.size wr w2) (r : Later w2) => (show Calls Tryd.prog 155 #[.slice a n c, .int .i64 k, .int .i64 y, .int .i64 x] r.W fun e w' => e = .returned (.bool (decide (pb < pa))) ∧ Below r.W.heap.size r.W w' from by rw [hpa, hpb]; exact KL.out y x w2 h2 r))
        have e0 : ∀ r : Later wr, r.W.cell? ⟨s, 0, none⟩ = some (.slice a n c) := fun r => later_cell q0 r
        have e1 : ∀ r : Later wr, r.W.cell? ⟨s, 1, none⟩ = some (.slice (some ⟨bg, og, none⟩) n d) := fun r => later_cell q1 r
        have e2 : ∀ r : Later wr, r.W.cell? ⟨bg, og + k, none⟩ = some (.int .i64 x) := fun r => later_cell hgc r
        have F0 := Lib.hid (show ∀ w2, Below wr.heap.size wr w2 → ∀ r : Later w2, r.W.cell? ⟨s, 0, none⟩ = some (.slice a n c) ∧ r.W.cell? ⟨s, 1, none⟩ = some (.slice (some ⟨bg, og, none⟩) n d) ∧ r.W.cell? ⟨bg, og + k, none⟩ = some (.int .i64 x) from fun w2 h2 r => ⟨later_cell q0 ⟨r.W, h2.trans (r.h.mono h2.size)⟩, later_cell q1 ⟨r.W, h2.trans (r.h.mono h2.size)⟩, later_cell hgc ⟨r.W, h2.trans (r.h.mono h2.size)⟩⟩)
        have SI := Lib.hid (someB_in (Z := Z) (G := G) (X := X) hbk (show pb = idxF (Z k) (X k) n by rw [hpb, hyy]) (show pa = idxF (Z k) (G k) n by rw [hpa, hxx]))
        have HW := Lib.hid (show NoneW Z n S G X n → pb ≤ pa from fun h => by rw [hpb, hpa, hyy, hxx]; exact h k hlt hbk)
        have HNX := Lib.hid (show pb ≤ pa → NoneW Z n S G X (k + 1) from fun h => noneW_succ NO.out fun _ => by rw [← hyy, ← hxx, ← hpb, ← hpa]; exact h)
        clear hbk hgc q0 q1 hxx hyy hpa hpb KL
        by_cases hle : pb ≤ pa
        · have d1 : decide (pa < pb) = false := decide_eq_false (by omega)
          have NX := Lib.hid (HNX.out hle)
          clear HNX HW
          by_cases hs : SomeB Z n S G X k
          · have T1 : tt (SomeB Z n S G X k) = true := tt_of hs
            rw [T1]
            rw [T1] at SI
            have SJ := Lib.hid (show tt (SomeB Z n S G X (k + 1)) = true by rw [SI.out]; rfl)
            go_wp2
            refine wp_region_later (by kernel_rfl) (by kernel_rfl) ?_
            repeat go_big_quiet_step ((go_at_call 155; exact calls_later _ (I1.out _ (Below.refl _ _) _)))
            refine wpQuiet_nil ?_
            rintro _ ⟨r, rfl⟩
            clear I1 I2 e0 e1 e2
            go_wp2
            go_quiet (fail)
            have B2 := Lib.hid (BR.out.trans (r.h.mono BR.out.size))
            go_wp2
            go_roundw
            case rel => exact ⟨k + 1, by omega, by go_num, by rw [SJ.out], below_drewN B2.out _, NX.out⟩
            case measure => simp [intOf]; omega
          · have T1 : tt (SomeB Z n S G X k) = false := tt_no hs
            rw [T1]
            rw [T1] at SI
            have SJ := Lib.hid (show tt (SomeB Z n S G X (k + 1)) = decide (pb < pa) by rw [SI.out]; rfl)
            go_wp2
            refine wp_region_later (by kernel_rfl) (by kernel_rfl) ?_
            repeat go_big_quiet_step ((go_at_call 155; exact calls_later _ (I1.out _ (Below.refl _ _) _)))
            refine wpQuiet_nil ?_
            rintro _ ⟨r, rfl⟩
            have J2 := Lib.hid (I2.out _ r.h)
            have e3 : ∀ r2 : Later r.W, r2.W.cell? ⟨s, 0, none⟩ = some (.slice a n c) := fun r2 => (F0.out _ r.h r2).1
            have e4 : ∀ r2 : Later r.W, r2.W.cell? ⟨s, 1, none⟩ = some (.slice (some ⟨bg, og, none⟩) n d) := fun r2 => (F0.out _ r.h r2).2.1
            have e5 : ∀ r2 : Later r.W, r2.W.cell? ⟨bg, og + k, none⟩ = some (.int .i64 x) := fun r2 => (F0.out _ r.h r2).2.2
            clear I1 I2 e0 e1 e2
            go_wp2
            refine wp_region_later (by kernel_rfl) (by kernel_rfl) ?_
            repeat go_big_quiet_step ((go_at_call 155; exact calls_later _ (J2.out _)))
            refine wpQuiet_nil ?_
            rintro _ ⟨r2, rfl⟩
            have B2 := Lib.hid (BR.out.trans ((r.h.trans (r2.h.mono r.h.size)).mono BR.out.size))
            go_wp2
            go_roundw
            case rel => exact ⟨k + 1, by omega, by go_num, by rw [SJ.out], B2.out, NX.out⟩
            case measure => simp [intOf]; omega
        · have d1 : decide (pa < pb) = true := decide_eq_true (by omega)
          have HF := Lib.hid (tt_no (show ¬ BetterP n Z S G X from fun h => hle (HW.out h.1)))
          clear HNX HW
          go_wp2
          refine wp_region_later (by kernel_rfl) (by kernel_rfl) ?_
          repeat go_big_quiet_step ((go_at_call 155; exact calls_later _ (I1.out _ (Below.refl _ _) _)))
          refine wpQuiet_nil ?_
          rintro _ ⟨r, rfl⟩
          have B2 := Lib.hid (BW.out.trans (r.h.mono BW.out.size))
          clear I1 I2 e0 e1 e2
          go_wp2
          go_ret
          exact ⟨by rw [HF.out]; rfl, B2.out⟩
      · have hb' : S.testBit k = false := by simpa using hbk
        rw [hb'] at hhas
        have hhas : (bits .and .i64 ((S : Int) / 2 ^ k) 1 == 0) = true := hhas
        have HSM := Lib.hid (someB_out (Z := Z) (n := n) (G := G) (X := X) hb')
        have NX := Lib.hid (noneW_succ NO.out (fun h => absurd h hbk))
        clear hbk hb'
        go_wp2
        go_roundw
        case rel => exact ⟨k + 1, by omega, by go_num, by rw [HSM.out], BR.out, NX.out⟩
        case measure => simp [intOf]; omega
    · obtain rfl : k = n := by omega
      have HE := Lib.hid (show tt (SomeB Z k S G X k) = tt (BetterP k Z S G X) from tt_congr ⟨fun h => ⟨NO.out, h⟩, fun h => h.2⟩)
      go_wp2
      go_ret
      exact ⟨by rw [HE.out]; rfl, BW.out⟩
end Go.Proofs.YtabdbgnkiebcdaaDoor
