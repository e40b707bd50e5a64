/- Trading in circles, in plain mathematics. -/
/- Who is reached, and where people point, as sets; in plain mathematics. -/
/- What has been got in the midst of a round of trading, in plain mathematics; what a trade hands back. -/
import Derived.Test.YtgjegpponchdaaaDoorWishes
import Derived.Test.YtgjegpponchdaaaDoorMem
namespace Go.Proofs.YtgjegpponchdaaaDoor
set_option linter.unusedVariables false
open Go.RowKit

/-- Among m + 1 numbers out of m two are the same. -/
theorem twice_in (m : Nat) : ∀ (l : List Nat) (x : Nat → Nat), l.length ≤ m → (∀ i, i ≤ m → x i ∈ l) → ∃ a b, a < b ∧ b ≤ m ∧ x a = x b := by
  induction m with
  | zero =>
    intro l x hl h
    have := h 0 (Nat.le_refl _)
    cases l with
    | nil => simp at this
    | cons => simp at hl
  | succ m ih =>
    intro l x hl h
    by_cases e : ∃ a, a < m + 1 ∧ x a = x (m + 1)
    · obtain ⟨a, h1, h2⟩ := e
      exact ⟨a, m + 1, h1, Nat.le_refl _, h2⟩
    · have hm := h (m + 1) (Nat.le_refl _)
      obtain ⟨a, b, h1, h2, h3⟩ := ih (l.erase (x (m + 1))) x (by rw [List.length_erase_of_mem hm]; omega) (fun i hi => (List.mem_erase_of_ne (fun e' => e ⟨i, by omega, e'⟩)).2 (h i (by omega)))
      exact ⟨a, b, h1, by omega, h3⟩

/-- f done k times. -/
def it (f : Nat → Nat) : Nat → Nat → Nat
  | 0, i => i
  | k + 1, i => f (it f k i)
theorem it_add (f : Nat → Nat) (a b i : Nat) : it f (a + b) i = it f a (it f b i) := by
  induction a with
  | zero => rw [Nat.zero_add]; rfl
  | succ a ih => rw [Nat.add_right_comm]; show f _ = f _; rw [ih]
theorem it_front (f : Nat → Nat) (k i : Nat) : it f (k + 1) i = it f k (f i) := it_add f k 1 i
theorem it_mul {f : Nat → Nat} {k i : Nat} (h : it f k i = i) (m : Nat) : it f (m * k) i = i := by
  induction m with
  | zero => rw [Nat.zero_mul]; rfl
  | succ m ih => rw [Nat.succ_mul, it_add, h, ih]

/-- i lies on a circle of f. -/
def Circ (f : Nat → Nat) (i : Nat) : Prop := ∃ k, 1 ≤ k ∧ it f k i = i

theorem Circ.step {f : Nat → Nat} {i : Nat} (h : Circ f i) : Circ f (f i) := by
  obtain ⟨k, h1, h2⟩ := h
  exact ⟨k, h1, by rw [← it_front]; show f _ = f _; rw [h2]⟩
theorem Circ.it {f : Nat → Nat} {i : Nat} (h : Circ f i) (k : Nat) : Circ f (it f k i) := by
  induction k with
  | zero => exact h
  | succ k ih => exact ih.step
theorem Circ.inj {f : Nat → Nat} {i j : Nat} (hi : Circ f i) (hj : Circ f j) (e : f i = f j) : i = j := by
  obtain ⟨k, h1, h2⟩ := hi
  obtain ⟨m, h3, h4⟩ := hj
  have e1 := it_mul h2 m
  have e2 := it_mul h4 k
  have hp : 1 ≤ m * k := Nat.mul_pos (by omega) (by omega)
  obtain ⟨q, hq⟩ : ∃ q, m * k = q + 1 := ⟨m * k - 1, by omega⟩
  rw [hq, it_front] at e1
  rw [Nat.mul_comm, hq, it_front] at e2
  rw [← e1, e, e2]
/-- What leads to i lies on the circle too. -/
theorem Circ.pred {f : Nat → Nat} {i : Nat} (h : Circ f i) : ∃ j, Circ f j ∧ f j = i ∧ ∃ k, j = Go.Proofs.YtgjegpponchdaaaDoor.it f k i := by
  obtain ⟨k, h1, h2⟩ := h
  obtain ⟨q, rfl⟩ : ∃ q, k = q + 1 := ⟨k - 1, by omega⟩
  exact ⟨_, Circ.it ⟨q + 1, h1, h2⟩ q, h2, q, rfl⟩
theorem it_in {f : Nat → Nat} {P : Nat → Prop} (hS : ∀ i, P i → P (f i)) {i : Nat} (hi : P i) (k : Nat) : P (it f k i) := by
  induction k with
  | zero => exact hi
  | succ k ih => exact hS _ ih
theorem circ_short {f : Nat → Nat} {l : List Nat} (hS : ∀ i, i ∈ l → f i ∈ l) {i : Nat} (hi : i ∈ l) (h : Circ f i) : ∃ k, 1 ≤ k ∧ k ≤ l.length ∧ it f k i = i := by
  obtain ⟨a, b, h1, h2, h3⟩ := twice_in l.length l (fun k => it f k i) (Nat.le_refl _) (fun k _ => it_in (P := fun x => x ∈ l) hS hi k)
  obtain ⟨k, h4, h5⟩ := h
  obtain ⟨K, hK⟩ : ∃ K, a * k = K + a := ⟨a * k - a, by have := Nat.le_mul_of_pos_right a (show 0 < k by omega); omega⟩
  have e1 : it f K (it f a i) = i := by rw [← it_add, ← hK]; exact it_mul h5 a
  refine ⟨b - a, by omega, by omega, ?_⟩
  have e2 : it f (b - a) (it f K (it f a i)) = it f K (it f (b - a) (it f a i)) := by rw [← it_add f (b - a) K, ← it_add f K (b - a), Nat.add_comm]
  rw [e1, ← it_add f (b - a) a, Nat.sub_add_cancel (by omega)] at e2
  have h3' : it f a i = it f b i := h3
  rw [e2, ← h3', e1]
theorem circ_image {f : Nat → Nat} {l : List Nat} (hS : ∀ i, i ∈ l → f i ∈ l) {n : Nat} (hn : l.length ≤ n) (i : Nat) : (i ∈ l ∧ Circ f i) ↔ ∃ j, j ∈ l ∧ it f n j = i := by
  constructor
  · rintro ⟨hi, k, h1, h2⟩
    obtain ⟨K, hK⟩ : ∃ K, n * k = n + K := ⟨n * k - n, by have := Nat.le_mul_of_pos_right n (show 0 < k by omega); omega⟩
    exact ⟨it f K i, it_in (P := fun x => x ∈ l) hS hi K, by rw [← it_add, ← hK]; exact it_mul h2 n⟩
  · rintro ⟨j, hj, rfl⟩
    refine ⟨it_in (P := fun x => x ∈ l) hS hj n, ?_⟩
    obtain ⟨a, b, h1, h2, h3⟩ := twice_in l.length l (fun k => it f k j) (Nat.le_refl _) (fun k _ => it_in (P := fun x => x ∈ l) hS hj k)
    refine ⟨b - a, by omega, ?_⟩
    have h3' : it f a j = it f b j := h3
    have e1 : it f n j = it f (n - a) (it f a j) := by rw [← it_add, Nat.sub_add_cancel (by omega)]
    have e2 : it f (b - a) (it f n j) = it f (n - a) (it f b j) := by rw [← it_add, ← it_add]; congr 1; omega
    rw [e2, ← h3', ← e1]
theorem circ_some {f : Nat → Nat} {l : List Nat} (hS : ∀ i, i ∈ l → f i ∈ l) {j : Nat} (hj : j ∈ l) : ∃ i, i ∈ l ∧ Circ f i :=
  ⟨_, (circ_image hS (Nat.le_refl _) _).2 ⟨j, hj, rfl⟩⟩

/-- The first of the first k numbers that is in a set. -/
def ptO (X : Nat → Int) (S : Nat → Bool) : Nat → Option Nat
  | 0 => none
  | k + 1 => match ptO X S k with
    | some y => some y
    | none => if S (X k).toNat = true then some (X k).toNat else none
/-- The same; 0 if none is. -/
def ptN (X : Nat → Int) (S : Nat → Bool) (n : Nat) : Nat := (ptO X S n).getD 0
theorem ptO_none {X : Nat → Int} {S : Nat → Bool} {n : Nat} (h : ∀ j, j < n → S (X j).toNat = false) : ptO X S n = none := by
  induction n with
  | zero => rfl
  | succ n ih =>
    unfold ptO
    rw [ih fun j hj => h j (by omega)]
    show (if S (X n).toNat = true then some (X n).toNat else none) = none
    rw [h n (by omega)]; rfl
theorem ptO_some {X : Nat → Int} {S : Nat → Bool} {n k : Nat} (h : ∀ j, j < k → S (X j).toNat = false) (hk : S (X k).toNat = true) (hn : k < n) : ptO X S n = some (X k).toNat := by
  induction n with
  | zero => omega
  | succ n ih =>
    unfold ptO
    by_cases e : k = n
    · subst e
      rw [ptO_none h]
      show (if S (X k).toNat = true then some (X k).toNat else none) = _
      rw [if_pos hk]
    · rw [ih (by omega)]
theorem ptN_first {X : Nat → Int} {S : Nat → Bool} {n k : Nat} (h : ∀ j, j < k → S (X j).toNat = false) (hk : S (X k).toNat = true) (hn : k < n) : ptN X S n = (X k).toNat := by
  unfold ptN; rw [ptO_some h hk hn]; rfl
theorem ptN_none {X : Nat → Int} {S : Nat → Bool} {n : Nat} (h : ∀ j, j < n → S (X j).toNat = false) : ptN X S n = 0 := by
  unfold ptN; rw [ptO_none h]; rfl
/-- The first place of a set. -/
theorem first_place {P : Nat → Prop} {n k : Nat} (hk : k < n) (h : P k) : ∃ j, j ≤ k ∧ P j ∧ ∀ i, i < j → ¬ P i := by
  induction k using Nat.strongRecOn with
  | _ k ih =>
    by_cases e : ∃ i, i < k ∧ P i
    · obtain ⟨i, h1, h2⟩ := e
      obtain ⟨j, h3, h4, h5⟩ := ih i h1 (by omega) h2
      exact ⟨j, by omega, h4, h5⟩
    · exact ⟨k, Nat.le_refl _, h, fun i hi hp => e ⟨i, hi, hp⟩⟩
/-- If one of them is in the set, it is the first such one. -/
theorem ptN_spec {X : Nat → Int} {S : Nat → Bool} {n k : Nat} (hk : k < n) (h : S (X k).toNat = true) :
    ∃ j, j ≤ k ∧ S (X j).toNat = true ∧ (∀ i, i < j → S (X i).toNat = false) ∧ ptN X S n = (X j).toNat := by
  obtain ⟨j, h1, h2, h3⟩ := first_place (P := fun i => S (X i).toNat = true) hk h
  have h4 : ∀ i, i < j → S (X i).toNat = false := fun i hi => by simpa using h3 i hi
  exact ⟨j, h1, h2, h4, ptN_first h4 h2 (by omega)⟩
theorem ptN_congr {X : Nat → Int} {S T : Nat → Bool} {n : Nat} (h : ∀ k, k < n → S (X k).toNat = T (X k).toNat) : ptN X S n = ptN X T n := by
  have : ∀ m, m ≤ n → ptO X S m = ptO X T m := by
    intro m hm
    induction m with
    | zero => rfl
    | succ m ih => unfold ptO; rw [ih (by omega), h m (by omega)]
  unfold ptN; rw [this n (Nat.le_refl _)]

/-- A set of people. -/
def Ppl (n : Nat) (S : Nat → Bool) : Prop := ∀ y, S y = true → y < n
/-- Where i points, of those in S. -/
def ptS (Z : Nat → Nat → Int) (n : Nat) (S : Nat → Bool) (i : Nat) : Nat := ptN (Z i) S n
/-- Who is on a circle, of those in S. -/
noncomputable def circB (Z : Nat → Nat → Int) (n : Nat) (S : Nat → Bool) (i : Nat) : Bool := S i && tt (Circ (ptS Z n S) i)
/-- Who is left behind t rounds. -/
noncomputable def tS (Z : Nat → Nat → Int) (n : Nat) : Nat → Nat → Bool
  | 0, y => decide (y < n)
  | t + 1, y => tS Z n t y && !circB Z n (tS Z n t) y
/-- What i has got behind t rounds. -/
noncomputable def gF (Z : Nat → Nat → Int) (n : Nat) : Nat → Nat → Nat
  | 0, _ => 0
  | t + 1, i => if circB Z n (tS Z n t) i = true then ptS Z n (tS Z n t) i else gF Z n t i

section
variable {n : Nat} {L : Nat → Nat} {Z : Nat → Nat → Int}
theorem tS_ppl (Z : Nat → Nat → Int) (n t : Nat) : Ppl n (tS Z n t) := by
  induction t with
  | zero => intro y h; simpa [tS] using h
  | succ t ih => intro y h; refine ih y ?_; unfold tS at h; simp only [Bool.and_eq_true] at h; exact h.1
theorem tS_down {t y : Nat} (h : tS Z n (t + 1) y = true) : tS Z n t y = true := by unfold tS at h; simp only [Bool.and_eq_true] at h; exact h.1
theorem tS_mono {s t y : Nat} (hst : s ≤ t) (h : tS Z n t y = true) : tS Z n s y = true := by
  induction t with
  | zero => have : s = 0 := by omega
            subst this; exact h
  | succ t ih =>
    by_cases e : s = t + 1
    · subst e; exact h
    · exact ih (by omega) (tS_down h)
theorem circB_in {S : Nat → Bool} {i : Nat} (h : circB Z n S i = true) : S i = true := by unfold circB at h; simp only [Bool.and_eq_true] at h; exact h.1
theorem circB_circ {S : Nat → Bool} {i : Nat} (h : circB Z n S i = true) : Circ (ptS Z n S) i := by unfold circB at h; simp only [Bool.and_eq_true] at h; exact tt_iff.1 h.2
theorem circB_of {S : Nat → Bool} {i : Nat} (h : S i = true) (hc : Circ (ptS Z n S) i) : circB Z n S i = true := by unfold circB; rw [h, tt_of hc]; rfl
theorem circB_gone {t y : Nat} (h : circB Z n (tS Z n t) y = true) : tS Z n (t + 1) y = false := by unfold tS; rw [h, circB_in h]; rfl

/-- Who is left points at one who is left: the first such one of the list. -/
theorem ptS_spec (hW : IsWishes n L Z) {S : Nat → Bool} (hS : Ppl n S) {i y : Nat} (hi : i < n) (hy : S y = true) :
    ∃ j, j < n ∧ S (Z i j).toNat = true ∧ (∀ k, k < j → S (Z i k).toNat = false) ∧ ptS Z n S i = (Z i j).toNat := by
  obtain ⟨k, hk, e⟩ := (hW.2 i hi).2.all (hS y hy)
  obtain ⟨j, h1, h2, h3, h4⟩ := ptN_spec (X := Z i) (S := S) (n := n) hk (by rw [e]; simpa using hy)
  exact ⟨j, by omega, h2, h3, h4⟩
theorem ptS_in (hW : IsWishes n L Z) {S : Nat → Bool} (hS : Ppl n S) {i : Nat} (hi : S i = true) : S (ptS Z n S i) = true := by
  obtain ⟨j, _, h, _, e⟩ := ptS_spec hW hS (hS i hi) hi
  rw [e]; exact h
/-- The people of a set, in order. -/
def pplL (n : Nat) (S : Nat → Bool) : List Nat := (List.range n).filter S
theorem mem_pplL {S : Nat → Bool} (hS : Ppl n S) {i : Nat} : i ∈ pplL n S ↔ S i = true := by
  unfold pplL; rw [List.mem_filter, List.mem_range]; exact ⟨fun h => h.2, fun h => ⟨hS i h, h⟩⟩
theorem pplL_le (n : Nat) (S : Nat → Bool) : (pplL n S).length ≤ n := by
  have := List.length_filter_le S (List.range n); rw [List.length_range] at this; exact this
/-- The people on circles, as the model finds them: who is reached by all. -/
theorem circB_image (hW : IsWishes n L Z) {S : Nat → Bool} (hS : Ppl n S) (i : Nat) : circB Z n S i = true ↔ ∃ j, S j = true ∧ it (ptS Z n S) n j = i := by
  have h := circ_image (f := ptS Z n S) (l := pplL n S) (fun i hi => (mem_pplL hS).2 (ptS_in hW hS ((mem_pplL hS).1 hi))) (pplL_le n S) i
  constructor
  · intro hc
    obtain ⟨j, h1, h2⟩ := h.1 ⟨(mem_pplL hS).2 (circB_in hc), circB_circ hc⟩
    exact ⟨j, (mem_pplL hS).1 h1, h2⟩
  · rintro ⟨j, h1, h2⟩
    obtain ⟨h3, h4⟩ := h.2 ⟨j, (mem_pplL hS).2 h1, h2⟩
    exact circB_of ((mem_pplL hS).1 h3) h4
/-- The same, as the program finds them: as many steps as there are people left lead back. -/
theorem circB_steps (hW : IsWishes n L Z) {S : Nat → Bool} (hS : Ppl n S) {i : Nat} (hi : S i = true) : circB Z n S i = true ↔ ∃ k, 1 ≤ k ∧ k ≤ (pplL n S).length ∧ it (ptS Z n S) k i = i := by
  constructor
  · intro hc
    exact circ_short (fun i hi => (mem_pplL hS).2 (ptS_in hW hS ((mem_pplL hS).1 hi))) ((mem_pplL hS).2 hi) (circB_circ hc)
  · rintro ⟨k, h1, _, h3⟩
    exact circB_of hi ⟨k, h1, h3⟩
theorem circB_some (hW : IsWishes n L Z) {S : Nat → Bool} (hS : Ppl n S) {j : Nat} (hj : S j = true) : ∃ i, circB Z n S i = true := by
  obtain ⟨i, h1, h2⟩ := circ_some (f := ptS Z n S) (l := pplL n S) (fun i hi => (mem_pplL hS).2 (ptS_in hW hS ((mem_pplL hS).1 hi))) ((mem_pplL hS).2 hj)
  exact ⟨i, circB_of ((mem_pplL hS).1 h1) h2⟩

/-- Behind t rounds none is left, and before there was one. -/
def IsTurns (Z : Nat → Nat → Int) (n t : Nat) : Prop := (∀ y, tS Z n t y = false) ∧ ∀ s, s < t → ∃ y, tS Z n s y = true
theorem IsTurns.uniq {s t : Nat} (h : IsTurns Z n s) (k : IsTurns Z n t) : s = t := by
  rcases Nat.lt_trichotomy s t with h1 | h1 | h1
  · obtain ⟨y, hy⟩ := k.2 s h1; rw [h.1 y] at hy; cases hy
  · exact h1
  · obtain ⟨y, hy⟩ := h.2 t h1; rw [k.1 y] at hy; cases hy
noncomputable def turnsN (Z : Nat → Nat → Int) (n : Nat) : Nat := @dite _ (∃ t, IsTurns Z n t) (Classical.propDecidable _) (fun h => Classical.choose h) (fun _ => 0)
theorem turnsN_of {t : Nat} (h : IsTurns Z n t) : turnsN Z n = t := by
  unfold turnsN
  rw [dif_pos ⟨t, h⟩]
  exact (Classical.choose_spec (p := fun t => IsTurns Z n t) ⟨t, h⟩).uniq h
/-- What i gets in the end. -/
noncomputable def giveF (Z : Nat → Nat → Int) (n i : Nat) : Int := (gF Z n (turnsN Z n) i : Int)
/-- The number that tells a set of people. -/
def IsMask (n m : Nat) (S : Nat → Bool) : Prop := m < 2 ^ n ∧ ∀ y, m.testBit y = S y
theorem IsMask.uniq {m m' : Nat} {S : Nat → Bool} (h : IsMask n m S) (k : IsMask n m' S) : m = m' := Nat.eq_of_testBit_eq fun y => by rw [h.2, k.2]
def maskN (S : Nat → Bool) : Nat → Nat
  | 0 => 0
  | k + 1 => if S k = true then maskN S k ||| 2 ^ k else maskN S k
theorem maskN_bit (S : Nat → Bool) (k y : Nat) : (maskN S k).testBit y = (decide (y < k) && S y) := by
  induction k with
  | zero => simp [maskN]
  | succ k ih =>
    unfold maskN
    by_cases h : S k = true
    · rw [if_pos h, Nat.testBit_or, ih, Nat.testBit_two_pow]
      by_cases e : y = k
      · subst e; simp [h]
      · have e1 : decide (k = y) = false := by simpa using fun h => e h.symm
        have e2 : decide (y < k) = decide (y < k + 1) := by rw [decide_eq_decide]; omega
        rw [e1, e2, Bool.or_false]
    · rw [if_neg h, ih]
      by_cases e : y = k
      · subst e; simp [h]
      · have e2 : decide (y < k) = decide (y < k + 1) := by rw [decide_eq_decide]; omega
        rw [e2]
theorem maskN_lt (S : Nat → Bool) (k : Nat) : maskN S k < 2 ^ k := by
  induction k with
  | zero => exact Nat.one_pos
  | succ k ih =>
    have h1 : 2 ^ k < 2 ^ (k + 1) := Nat.pow_lt_pow_right (by omega) (by omega)
    unfold maskN
    by_cases h : S k = true
    · rw [if_pos h]; exact Nat.or_lt_two_pow (by omega) h1
    · rw [if_neg h]; omega
theorem maskN_is {S : Nat → Bool} (hS : Ppl n S) : IsMask n (maskN S n) S := ⟨maskN_lt S n, fun y => by
  rw [maskN_bit]
  cases h : S y
  · simp
  · simp [hS y h]⟩
end
end Go.Proofs.YtgjegpponchdaaaDoor

namespace Go.Proofs.YtgjegpponchdaaaDoor
set_option linter.unusedVariables false
set_option linter.unusedSimpArgs false
open Go.RowKit

/-- x is put into the set: the same, the number being a term of its own. -/
theorem bits_or_pow (S x : Nat) (hS : S < 2 ^ 62) (hx : x < 62) : bits .or .i64 (S : Int) (wrap64 (2 ^ x)) = ((S ||| 2 ^ x : Nat) : Int) := bit_put S x hS hx

/-- The set of those who are reached by all of S behind s steps. -/
def Reach (n : Nat) (f : Nat → Nat) (S : Nat → Bool) (s K : Nat) : Prop := K < 2 ^ n ∧ ∀ y, K.testBit y = true ↔ ∃ j, S j = true ∧ it f s j = y
/-- The set of those at whom the first i of K point. -/
def Front (n : Nat) (f : Nat → Nat) (K i N : Nat) : Prop := N < 2 ^ n ∧ ∀ y, N.testBit y = true ↔ ∃ x, x < i ∧ K.testBit x = true ∧ f x = y
theorem Front.zero (n : Nat) (f : Nat → Nat) (K : Nat) : Front n f K 0 0 := ⟨Nat.two_pow_pos n, fun y => by simp⟩
theorem Front.no {n K i N : Nat} {f : Nat → Nat} (h : Front n f K i N) (hi : K.testBit i = false) : Front n f K (i + 1) N := by
  refine ⟨h.1, fun y => (h.2 y).trans ?_⟩
  constructor
  · rintro ⟨x, h1, h2, h3⟩; exact ⟨x, by omega, h2, h3⟩
  · rintro ⟨x, h1, h2, h3⟩
    refine ⟨x, ?_, h2, h3⟩
    by_cases e : x = i
    · subst e; rw [hi] at h2; cases h2
    · omega
theorem Front.yes {n K i N : Nat} {f : Nat → Nat} (h : Front n f K i N) (hi : K.testBit i = true) (hf : f i < n) : Front n f K (i + 1) (N ||| 2 ^ f i) := by
  refine ⟨bit_put_lt h.1 hf, fun y => ?_⟩
  rw [bit_put_has, h.2 y]
  constructor
  · rintro (⟨x, h1, h2, h3⟩ | rfl)
    · exact ⟨x, by omega, h2, h3⟩
    · exact ⟨i, by omega, hi, rfl⟩
  · rintro ⟨x, h1, h2, h3⟩
    by_cases e : x = i
    · subst e; exact .inr h3.symm
    · exact .inl ⟨x, by omega, h2, h3⟩
theorem Reach.next {n K N s : Nat} {f : Nat → Nat} {S : Nat → Bool} (h : Reach n f S s K) (k : Front n f K n N) : Reach n f S (s + 1) N := by
  refine ⟨k.1, fun y => (k.2 y).trans ?_⟩
  constructor
  · rintro ⟨x, _, h2, h3⟩
    obtain ⟨j, h4, h5⟩ := (h.2 x).1 h2
    exact ⟨j, h4, by show f _ = _; rw [h5]; exact h3⟩
  · rintro ⟨j, h4, h5⟩
    have h6 := (h.2 (it f s j)).2 ⟨j, h4, rfl⟩
    refine ⟨it f s j, ?_, h6, h5⟩
    rcases Nat.lt_or_ge (it f s j) n with h7 | h7
    · exact h7
    · rw [Nat.testBit_lt_two_pow (Nat.lt_of_lt_of_le h.1 (Nat.pow_le_pow_right (by omega) h7))] at h6; cases h6
theorem Reach.zero {n m : Nat} (f : Nat → Nat) (hm : m < 2 ^ n) : Reach n f m.testBit 0 m := ⟨hm, fun y => ⟨fun h => ⟨y, h, rfl⟩, fun ⟨j, h1, h2⟩ => by have : j = y := h2; rw [← this]; exact h1⟩⟩
theorem mask_ppl {n m : Nat} (hm : m < 2 ^ n) : Ppl n m.testBit := fun y hy => by
  rcases Nat.lt_or_ge y n with h | h
  · exact h
  · rw [Nat.testBit_lt_two_pow (Nat.lt_of_lt_of_le hm (Nat.pow_le_pow_right (by omega) h))] at hy; cases hy
theorem circB_ppl {n : Nat} {S : Nat → Bool} (Z : Nat → Nat → Int) (hS : Ppl n S) : Ppl n (circB Z n S) := fun y hy => hS y (circB_in hy)
theorem Reach.all {n m K : Nat} {L : Nat → Nat} {Z : Nat → Nat → Int} (hW : IsWishes n L Z) (hm : m < 2 ^ n) (h : Reach n (ptS Z n m.testBit) m.testBit n K) : K = maskN (circB Z n m.testBit) n := by
  refine Nat.eq_of_testBit_eq fun y => ?_
  rw [(maskN_is (circB_ppl Z (mask_ppl hm))).2 y, Bool.eq_iff_iff, h.2 y, circB_image hW (mask_ppl hm)]

end Go.Proofs.YtgjegpponchdaaaDoor

namespace Go.Proofs.YtgjegpponchdaaaDoor
set_option linter.unusedVariables false
set_option linter.unusedSimpArgs false
open Go.RowKit

/-- What a trade hands back: a row of its own, and a number. -/
def RetIN (n : Nat) (X : Nat → Int) (t : Int) (w : World) (e : Ending) (w' : World) : Prop :=
  ∃ a c, e = .returned (.tuple #[.slice a n c, .int .i64 t]) ∧ n ≤ c ∧ OwnI w' w.heap.size w'.heap.size a n X ∧ Below w.heap.size w w'

/-- What has been got when the first i people have been seen in round t. -/
noncomputable def midF (Z : Nat → Nat → Int) (n t i y : Nat) : Int := if y < i then (gF Z n (t + 1) y : Int) else (gF Z n t y : Int)
theorem midF_zero (Z : Nat → Nat → Int) (n t y : Nat) : (gF Z n t y : Int) = midF Z n t 0 y := by unfold midF; rw [if_neg (Nat.not_lt_zero _)]
theorem midF_all {Z : Nat → Nat → Int} {n t y : Nat} (h : y < n) : midF Z n t n y = (gF Z n (t + 1) y : Int) := by unfold midF; rw [if_pos h]
theorem midF_yes {Z : Nat → Nat → Int} {n t i : Nat} (h : circB Z n (tS Z n t) i = true) (y : Nat) : (if y = i then ((ptS Z n (tS Z n t) i : Nat) : Int) else midF Z n t i y) = midF Z n t (i + 1) y := by
  unfold midF
  by_cases e : y = i
  · subst e
    rw [if_pos rfl, if_pos (Nat.lt_succ_self _)]
    show _ = (((if circB Z n (tS Z n t) y = true then ptS Z n (tS Z n t) y else gF Z n t y) : Nat) : Int)
    rw [if_pos h]
  · rw [if_neg e]
    by_cases h' : y < i
    · rw [if_pos h', if_pos (by omega)]
    · rw [if_neg h', if_neg (by omega)]
theorem midF_no {Z : Nat → Nat → Int} {n t i : Nat} (h : circB Z n (tS Z n t) i = false) (y : Nat) : midF Z n t i y = midF Z n t (i + 1) y := by
  unfold midF
  by_cases e : y = i
  · subst e
    rw [if_neg (Nat.lt_irrefl _), if_pos (Nat.lt_succ_self _)]
    show _ = (((if circB Z n (tS Z n t) y = true then ptS Z n (tS Z n t) y else gF Z n t y) : Nat) : Int)
    rw [if_neg (by rw [h]; decide)]
  · by_cases h' : y < i
    · rw [if_pos h', if_pos (by omega)]
    · rw [if_neg h', if_neg (by omega)]

end Go.Proofs.YtgjegpponchdaaaDoor
