/- Trying all ways, in plain mathematics, as the model does it; it comes to joining circles. -/
import Derived.Test.YteigenmagifplaaMostModel
namespace Go.Proofs.Yteigenmagifplaa
set_option linter.unusedVariables false
set_option linter.unusedSimpArgs false
open Go.RowKit

/-- The best of taking one of the first k things and of what there is. -/
def tryK (W : Nat → Int) (i U : Nat) (b : Int) (g : Nat → Int) : Nat → Int
  | 0 => b
  | k + 1 => if WantsB W i k = true ∧ U.testBit k = false then max (tryK W i U b g k) (1 + g k) else tryK W i U b g k
/-- The greatest number of people from the i-th one on, f of them, who take something, where U is taken. -/
def tryF (n : Nat) (W : Nat → Int) : Nat → Nat → Nat → Int
  | 0, _, _ => 0
  | f + 1, i, U => tryK W i U (if U.testBit i = true then -100 else tryF n W f (i + 1) (U ||| 2 ^ i)) (fun k => tryF n W f (i + 1) (U ||| 2 ^ k)) n
section
variable {n : Nat} {W : Nat → Int}
theorem tryK_range {i U : Nat} {b lo hi : Int} {g : Nat → Int} (hb : lo ≤ b ∧ b ≤ hi) (hg : ∀ k, 1 + g k ≤ hi) : ∀ k, lo ≤ tryK W i U b g k ∧ tryK W i U b g k ≤ hi
  | 0 => hb
  | k + 1 => by
    have ih := tryK_range (i := i) (U := U) hb hg k
    have := hg k
    show lo ≤ (if WantsB W i k = true ∧ U.testBit k = false then max (tryK W i U b g k) (1 + g k) else tryK W i U b g k) ∧ (if WantsB W i k = true ∧ U.testBit k = false then max (tryK W i U b g k) (1 + g k) else tryK W i U b g k) ≤ hi
    split
    · omega
    · exact ih
theorem tryF_range : ∀ (f i U : Nat), -100 ≤ tryF n W f i U ∧ tryF n W f i U ≤ f
  | 0, i, U => by show (-100 : Int) ≤ 0 ∧ (0 : Int) ≤ ((0 : Nat) : Int); omega
  | f + 1, i, U => by
    refine tryK_range ?_ (fun k => ?_) n
    · split
      · omega
      · have := tryF_range f (i + 1) (U ||| 2 ^ i)
        omega
    · have := tryF_range f (i + 1) (U ||| 2 ^ k)
      omega
theorem tryK_base {i U : Nat} {b : Int} {g : Nat → Int} : ∀ k, b ≤ tryK W i U b g k
  | 0 => Int.le_refl _
  | k + 1 => by
    have ih := tryK_base (i := i) (U := U) (b := b) (g := g) k
    show b ≤ (if WantsB W i k = true ∧ U.testBit k = false then max (tryK W i U b g k) (1 + g k) else tryK W i U b g k)
    split <;> omega
theorem tryK_ge {i U x : Nat} {b : Int} {g : Nat → Int} (h1 : WantsB W i x = true) (h2 : U.testBit x = false) : ∀ {k}, x < k → 1 + g x ≤ tryK W i U b g k
  | 0, h => absurd h (Nat.not_lt_zero _)
  | k + 1, h => by
    show 1 + g x ≤ (if WantsB W i k = true ∧ U.testBit k = false then max (tryK W i U b g k) (1 + g k) else tryK W i U b g k)
    by_cases e : x = k
    · subst e; rw [if_pos ⟨h1, h2⟩]; omega
    · have := tryK_ge (b := b) (g := g) h1 h2 (show x < k by omega)
      split <;> omega
theorem tryK_is {i U : Nat} {b : Int} {g : Nat → Int} : ∀ k, tryK W i U b g k = b ∨ ∃ x, x < k ∧ WantsB W i x = true ∧ U.testBit x = false ∧ tryK W i U b g k = 1 + g x
  | 0 => .inl rfl
  | k + 1 => by
    have ih := tryK_is (i := i) (U := U) (b := b) (g := g) k
    have e : tryK W i U b g (k + 1) = if WantsB W i k = true ∧ U.testBit k = false then max (tryK W i U b g k) (1 + g k) else tryK W i U b g k := rfl
    by_cases h : WantsB W i k = true ∧ U.testBit k = false
    · rw [if_pos h] at e
      by_cases h2 : tryK W i U b g k ≤ 1 + g k
      · exact .inr ⟨k, by omega, h.1, h.2, by omega⟩
      · rcases ih with h3 | ⟨x, h3, h4, h5, h6⟩
        · left; omega
        · exact .inr ⟨x, by omega, h4, h5, by omega⟩
    · rw [if_neg h] at e
      rcases ih with h3 | ⟨x, h3, h4, h5, h6⟩
      · left; rw [e, h3]
      · exact .inr ⟨x, by omega, h4, h5, by rw [e, h6]⟩
/-- The people from i on take by T what is wanted and not in U, nothing twice. -/
def TakeOk (n : Nat) (W : Nat → Int) (f i U : Nat) (T : Nat → Nat) : Prop :=
  (∀ j, i ≤ j → j < i + f → T j < n ∧ U.testBit (T j) = false ∧ (T j = j ∨ WantsB W j (T j) = true)) ∧ ∀ j k, i ≤ j → j < k → k < i + f → T j ≠ T k
/-- How many of f people from i on take something. -/
def takeC (T : Nat → Nat) : Nat → Nat → Nat
  | 0, _ => 0
  | f + 1, i => (if T i = i then 0 else 1) + takeC T f (i + 1)
theorem takeC_congr {T S : Nat → Nat} : ∀ (f i : Nat), (∀ j, i ≤ j → j < i + f → T j = S j) → takeC T f i = takeC S f i
  | 0, _, _ => rfl
  | f + 1, i, h => by
    show (if T i = i then 0 else 1) + takeC T f (i + 1) = (if S i = i then 0 else 1) + takeC S f (i + 1)
    rw [h i (by omega) (by omega), takeC_congr f (i + 1) fun j h1 h2 => h j (by omega) (by omega)]
theorem put_not {U x y : Nat} (h : U.testBit y = false) (hne : y ≠ x) : (U ||| 2 ^ x).testBit y = false := by
  cases e : (U ||| 2 ^ x).testBit y with
  | false => rfl
  | true =>
    rcases (bit_put_has U x y).1 e with h1 | h1
    · rw [h] at h1; cases h1
    · exact absurd h1 hne
theorem put_not_back {U x y : Nat} (h : (U ||| 2 ^ x).testBit y = false) : U.testBit y = false ∧ y ≠ x := by
  constructor
  · cases e : U.testBit y with
    | false => rfl
    | true => rw [(bit_put_has U x y).2 (.inl e)] at h; cases h
  · rintro rfl
    rw [(bit_put_has U y y).2 (.inr rfl)] at h; cases h
theorem try_ge (hW : IsWants n W) {T : Nat → Nat} : ∀ (f i U : Nat), i + f ≤ n → TakeOk n W f i U T → (takeC T f i : Int) ≤ tryF n W f i U
  | 0, _, _, _, _ => Int.le_refl _
  | f + 1, i, U, hn, h => by
    obtain ⟨h1, h2, h3⟩ := h.1 i (by omega) (by omega)
    have hnext : TakeOk n W f (i + 1) (U ||| 2 ^ T i) T := ⟨fun j hj hj2 => by
      obtain ⟨k1, k2, k3⟩ := h.1 j (by omega) (by omega)
      exact ⟨k1, put_not k2 (fun e => h.2 i j (by omega) (by omega) (by omega) e.symm), k3⟩, fun j k hj hjk hk => h.2 j k (by omega) hjk (by omega)⟩
    have ih := try_ge hW f (i + 1) (U ||| 2 ^ T i) (by omega) hnext
    have e : takeC T (f + 1) i = (if T i = i then 0 else 1) + takeC T f (i + 1) := rfl
    show (takeC T (f + 1) i : Int) ≤ tryK W i U (if U.testBit i = true then -100 else tryF n W f (i + 1) (U ||| 2 ^ i)) (fun k => tryF n W f (i + 1) (U ||| 2 ^ k)) n
    by_cases e1 : T i = i
    · rw [if_pos e1] at e
      have hb := tryK_base (W := W) (i := i) (U := U) (b := if U.testBit i = true then -100 else tryF n W f (i + 1) (U ||| 2 ^ i)) (g := fun k => tryF n W f (i + 1) (U ||| 2 ^ k)) n
      rw [e1] at h2 ih
      rw [if_neg (by rw [h2]; simp)] at hb ⊢
      omega
    · rw [if_neg e1] at e
      rcases h3 with h3 | h3
      · exact absurd h3 e1
      · have hb := tryK_ge (b := if U.testBit i = true then -100 else tryF n W f (i + 1) (U ||| 2 ^ i)) (g := fun k => tryF n W f (i + 1) (U ||| 2 ^ k)) h3 h2 h1
        omega
theorem try_is (hW : IsWants n W) : ∀ (f i U : Nat), i + f ≤ n → (∃ T, TakeOk n W f i U T ∧ (takeC T f i : Int) = tryF n W f i U) ∨ tryF n W f i U ≤ -100 + (f : Int)
  | 0, i, U, _ => .inl ⟨fun _ => 0, ⟨fun j h1 h2 => by omega, fun j k h1 h2 h3 => by omega⟩, rfl⟩
  | f + 1, i, U, hn => by
    have hstep : ∀ x, x < n → U.testBit x = false → (x = i ∨ WantsB W i x = true) → ∀ T, TakeOk n W f (i + 1) (U ||| 2 ^ x) T → TakeOk n W (f + 1) i U (fun j => if j = i then x else T j) := fun x hx hU hxi T hT => by
      refine ⟨fun j h1 h2 => ?_, fun j k h1 h2 h3 => ?_⟩
      · by_cases e : j = i
        · subst e; simp only [if_pos]; exact ⟨hx, hU, hxi⟩
        · simp only [if_neg e]
          obtain ⟨k1, k2, k3⟩ := hT.1 j (by omega) (by omega)
          exact ⟨k1, (put_not_back k2).1, k3⟩
      · by_cases e : j = i
        · subst e
          simp only [if_pos, if_neg (show ¬ k = j by omega)]
          obtain ⟨_, k2, _⟩ := hT.1 k (by omega) (by omega)
          exact fun e2 => (put_not_back k2).2 e2.symm
        · simp only [if_neg e, if_neg (show ¬ k = i by omega)]
          exact hT.2 j k (by omega) h2 (by omega)
    have hcount : ∀ x T, takeC (fun j => if j = i then x else T j) (f + 1) i = (if x = i then 0 else 1) + takeC T f (i + 1) := fun x T => by
      show (if (if i = i then x else T i) = i then 0 else 1) + takeC (fun j => if j = i then x else T j) f (i + 1) = _
      rw [if_pos rfl, takeC_congr (S := T) f (i + 1) fun j h1 h2 => if_neg (by omega)]
    have hF : tryF n W (f + 1) i U = tryK W i U (if U.testBit i = true then -100 else tryF n W f (i + 1) (U ||| 2 ^ i)) (fun k => tryF n W f (i + 1) (U ||| 2 ^ k)) n := rfl
    rw [hF]
    rcases tryK_is (W := W) (i := i) (U := U) (b := if U.testBit i = true then -100 else tryF n W f (i + 1) (U ||| 2 ^ i)) (g := fun k => tryF n W f (i + 1) (U ||| 2 ^ k)) n with h | ⟨x, hx, h1, h2, h⟩
    · rw [h]
      by_cases e : U.testBit i = true
      · rw [if_pos e]; right; omega
      · rw [if_neg e]
        rcases try_is hW f (i + 1) (U ||| 2 ^ i) (by omega) with ⟨T, hT, hc⟩ | hc
        · left
          refine ⟨_, hstep i (by omega) (by simpa using e) (.inl rfl) T hT, ?_⟩
          rw [hcount, if_pos rfl, Nat.zero_add, hc]
        · right; omega
    · rw [h]
      rcases try_is hW f (i + 1) (U ||| 2 ^ x) (by omega) with ⟨T, hT, hc⟩ | hc
      · left
        refine ⟨_, hstep x hx h2 (.inr h1) T hT, ?_⟩
        rw [hcount, if_neg (hW.bit (by omega) h1).2]
        omega
      · right; omega
theorem takeC_moved {T : Nat → Nat} {X : Nat → Int} : ∀ (f i : Nat), (∀ j, i ≤ j → j < i + f → X j = (T j : Nat)) → movedN X i + takeC T f i = movedN X (i + f)
  | 0, _, _ => rfl
  | f + 1, i, h => by
    have ih := takeC_moved f (i + 1) fun j h1 h2 => h j (by omega) (by omega)
    have e1 : movedN X (i + 1) = movedN X i + if X i = i then 0 else 1 := rfl
    have e2 : takeC T (f + 1) i = (if T i = i then 0 else 1) + takeC T f (i + 1) := rfl
    have h0 := h i (by omega) (by omega)
    rw [show i + (f + 1) = i + 1 + f by omega, ← ih, e1, e2]
    by_cases e : T i = i
    · rw [if_pos e, if_pos (by rw [h0, e])]; omega
    · rw [if_neg e, if_neg (by rw [h0]; omega)]; omega
/-- Trying all ways is joining circles. -/
theorem try_most (hW : IsWants n W) : tryF n W n 0 0 = (mostN' n W n : Nat) := by
  have hge : ∀ D, PermOk n W D → (movedN (nth D) n : Int) ≤ tryF n W n 0 0 := fun D hD => by
    obtain ⟨h1, h2, h3⟩ := hD
    have hT : ∀ j, j < n → nth D j = ((nth D j).toNat : Nat) := fun j hj => by have := h2.1 j hj; omega
    obtain ⟨T, hTd⟩ : ∃ T : Nat → Nat, ∀ j, T j = (nth D j).toNat := ⟨_, fun _ => rfl⟩
    have h4 := try_ge hW (T := T) n 0 0 (by omega) ⟨fun j _ hj => by
      have h5 := h2.1 j (by omega)
      rw [hTd j]
      refine ⟨by omega, Nat.zero_testBit _, ?_⟩
      rcases h3 j (by omega) with h6 | h6
      · left; omega
      · exact .inr h6, fun j k _ hjk hk e => by
      have h5 := h2.1 j (by omega)
      have h6 := h2.1 k (by omega)
      rw [hTd j, hTd k] at e
      exact h2.2 j k hjk (by omega) (by omega)⟩
    have h5 := takeC_moved (T := T) (X := nth D) n 0 fun j _ hj => by rw [hTd j]; exact hT j (by omega)
    have h6 : movedN (nth D) 0 = 0 := rfl
    rw [Nat.zero_add] at h5
    omega
  obtain ⟨U, hU⟩ := best_taken hW n
  have h1 := hge _ hU.perm
  have hn := hW.1.2
  have hmov : movedN (nth (bestL n W n)) n = mostN' n W n := rfl
  rcases try_is hW n 0 0 (by omega) with ⟨T, hT, hc⟩ | hc
  · have h2 : PermOk n W ((List.range n).map fun j => ((T j : Nat) : Int)) := by
      refine ⟨by simp, ⟨fun j hj => ?_, fun j k hjk hk e => ?_⟩, fun j hj => ?_⟩
      · rw [nth_map hj]; have := (hT.1 j (by omega) (by omega)).1; omega
      · rw [nth_map (show j < n by omega), nth_map hk] at e
        exact hT.2 j k (by omega) hjk (by omega) (by omega)
      · rw [nth_map hj, Int.toNat_natCast]
        rcases (hT.1 j (by omega) (by omega)).2.2 with h | h
        · left; omega
        · exact .inr h
    have h3 := perm_most hW h2
    have h4 := takeC_moved (T := T) (X := nth ((List.range n).map fun j => ((T j : Nat) : Int))) n 0 fun j _ hj => nth_map (by omega)
    have h5 : movedN (nth ((List.range n).map fun j => ((T j : Nat) : Int))) 0 = 0 := rfl
    rw [Nat.zero_add] at h4
    omega
  · omega
/-- What WantTry answers. -/
noncomputable def tryAns (n : Nat) (W : Nat → Int) : Int := if tt (IsWants n W) = true then (mostN' n W n : Nat) else 0
theorem tryAns_yes (h : IsWants n W) : tryAns n W = (mostN' n W n : Nat) := by unfold tryAns; rw [tt_of h]; rfl
theorem tryAns_no (h : ¬ IsWants n W) : tryAns n W = 0 := by unfold tryAns; rw [tt_no h]; rfl
end
end Go.Proofs.Yteigenmagifplaa
