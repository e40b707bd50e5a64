/- What the laws of chapter 6 say of the answers, in plain mathematics. -/
import Derived.Test.YteigenmagifplaaTryModel
import Derived.Test.YteigenmagifplaaOnModel
import Derived.Test.YteigenmagifplaaWantTurnModel
import Derived.Test.YteigenmagifplaaMostAns
namespace Go.Proofs.Yteigenmagifplaa
set_option linter.unusedVariables false
set_option linter.unusedSimpArgs false
open Go.RowKit
theorem cast_pred {Z : Nat} (h : 1 ≤ Z) : ((Z - 1 : Nat) : Int) = (Z : Int) - 1 := by omega
/-- Is x in the set? As a number. -/
theorem bit_val (S x : Nat) (hS : S < 2 ^ 62) : bits .and .i64 ((S : Int) / 2 ^ x) 1 = if S.testBit x = true then 1 else 0 := by
  have e : ((S : Int) / 2 ^ x) = ((S / 2 ^ x : Nat) : Int) := by simp
  have hle : S / 2 ^ x ≤ S := Nat.div_le_self _ _
  rw [e, show (1 : Int) = ((1 : Nat) : Int) from rfl, bits_and_i64 _ _ (by omega) (by omega)]
  rw [Nat.testBit, Nat.shiftRight_eq_div_pow, Nat.and_comm 1]
  have h2 : S / 2 ^ x &&& 1 = 0 ∨ S / 2 ^ x &&& 1 = 1 := by rw [Nat.and_one_is_mod]; omega
  rcases h2 with h | h <;> rw [h] <;> rfl
section
variable {n : Nat} {W : Nat → Int} {k : Int}
theorem onAns_turn (h : IsWants n W) : onAns n (turnW n W) = onAns n W := by
  apply Nat.eq_of_testBit_eq
  intro y
  rw [Bool.eq_iff_iff, onAns_bit h, onAns_bit (turn_is h)]
  constructor
  · rintro ⟨c, hc, hy⟩
    exact ⟨revL c, revL_back h hc, by rw [revL_set hc]; exact hy⟩
  · rintro ⟨c, hc, hy⟩
    exact ⟨revL c, revL_circ hc, by rw [revL_set hc]; exact hy⟩
theorem onAns_zero (h : IsWants n W) : onAns n W = 0 ↔ circs n W n [] = [] := by
  constructor
  · intro h0
    cases e : circs n W n [] with
    | nil => rfl
    | cons c cs =>
      exfalso
      have hc := (mem_circs.1 (show c ∈ circs n W n [] by rw [e]; simp)).1
      have h2 := hc.2.2.2
      have hb := hc.1.1 0 (by omega)
      have := (onAns_bit h (y := (nth c 0).toNat)).2 ⟨c, hc, (setL_bit hc).2 ⟨0, by omega, by omega⟩⟩
      rw [h0, Nat.zero_testBit] at this
      cases this
  · intro e
    rw [onAns_yes h, e]
    rfl
theorem onAns_lt : onAns n W < 2 ^ n := by
  by_cases h : IsWants n W
  · rw [onAns_yes h]; exact onTo_lt
  · rw [onAns_no h]; exact Nat.two_pow_pos n
theorem most_on (h : IsWants n W) (k : Nat) : mostN' n W k ≤ popN (onAns n W) n := by
  obtain ⟨P, U, hP, _, _, hU, e⟩ := most_is h k
  rw [e]
  refine pop_le n fun y _ hb => ?_
  obtain ⟨c, hc, hy⟩ := (hU y).1 hb
  exact (onAns_bit h).2 ⟨c, (hP c hc).1, hy⟩
theorem full_on (h : IsWants n W) {k : Nat} (e : mostN' n W k = n) : onAns n W = 2 ^ n - 1 := by
  have h1 := most_on h k
  have h2 := pop_bound (onAns n W) n
  exact (full_iff onAns_lt).2 (pop_full n (by omega))
theorem all_on (h : AllOk n W k) : tryAns n W = n ∧ mostA n W k = n ∧ onAns n W = 2 ^ n - 1 := by
  have h1 := h.1.1
  have hk : (k.toNat : Nat) ≤ n := by have := h.1.2; unfold InR at this; omega
  have h2 := most_mono h1 hk
  have h3 := most_le n W n
  have h4 := h.2
  exact ⟨by rw [tryAns_yes h1]; omega, by rw [mostA_yes h.1]; omega, full_on h1 h4⟩
theorem pop_pow : ∀ {a : Nat} (m : Nat), popN (2 ^ a) m = if a < m then 1 else 0
  | a, 0 => rfl
  | a, m + 1 => by
    show popN (2 ^ a) m + (if (2 ^ a).testBit m = true then 1 else 0) = _
    rw [pop_pow m, Nat.testBit_two_pow]
    simp only [decide_eq_true_eq]
    split <;> split <;> split <;> omega
theorem pop_or {U V : Nat} (h : U &&& V = 0) : ∀ (m : Nat), popN (U ||| V) m = popN U m + popN V m
  | 0 => rfl
  | m + 1 => by
    have ih := pop_or h m
    have hb : (U &&& V).testBit m = false := by rw [h]; exact Nat.zero_testBit m
    rw [Nat.testBit_and] at hb
    show popN (U ||| V) m + (if (U ||| V).testBit m = true then 1 else 0) = popN U m + (if U.testBit m = true then 1 else 0) + (popN V m + (if V.testBit m = true then 1 else 0))
    rw [ih, Nat.testBit_or]
    cases e1 : U.testBit m <;> cases e2 : V.testBit m <;> simp [e1, e2] at hb ⊢ <;> omega
theorem pop_two {c : List Int} (h : IsCirc n W c.length (nth c)) (h2 : c.length ≤ 2) : popN (setL c) n = 2 := by
  have h3 := h.2.2.2
  have hl : c.length = 2 := by omega
  have h0 := h.1.1 0 (by omega)
  have h1 := h.1.1 1 (by omega)
  have hne := h.1.2 0 1 (by omega) (by omega)
  have e : setL c = 2 ^ (nth c 0).toNat ||| 2 ^ (nth c 1).toNat := by
    unfold setL
    rw [hl]
    show (0 ||| 2 ^ (nth c 0).toNat) ||| 2 ^ (nth c 1).toNat = _
    rw [Nat.zero_or]
  have ha : (2 ^ (nth c 0).toNat &&& 2 ^ (nth c 1).toNat : Nat) = 0 := by
    apply Nat.eq_of_testBit_eq
    intro y
    rw [Nat.testBit_and, Nat.testBit_two_pow, Nat.testBit_two_pow, Nat.zero_testBit]
    by_cases e1 : (nth c 0).toNat = y
    · have : ¬ (nth c 1).toNat = y := by omega
      simp [this]
    · simp [e1]
  rw [e, pop_or ha, pop_pow, pop_pow, if_pos (by omega), if_pos (by omega)]
theorem pop_union : ∀ {P : List (List Int)} {U : Nat}, Packs P U → (∀ c, c ∈ P → IsCirc n W c.length (nth c) ∧ c.length ≤ 2) → popN (unionL P U) n = popN U n + 2 * P.length
  | [], _, _, _ => rfl
  | c :: P, U, hp, hc => by
    have h1 := pop_union (P := P) hp.2 fun d hd => hc d (by simp [hd])
    show popN (unionL P (U ||| setL c)) n = _
    rw [h1, pop_or hp.1, pop_two (hc c (by simp)).1 (hc c (by simp)).2]
    simp only [List.length_cons]
    omega
theorem two_even (h : IsWants n W) : mostN' n W 2 % 2 = 0 := by
  obtain ⟨P, U, hP, hA, _, hU, e⟩ := most_is h 2
  have e1 : popN U n = popN (unionL P 0) n := pop_congr n fun y _ => by
    rw [hU y, union_bit]
    constructor
    · exact .inr
    · rintro (h1 | h1)
      · rw [Nat.zero_testBit] at h1; cases h1
      · exact h1
  have e2 := pop_union (n := n) (W := W) (packs_zero.2 hA) hP
  have e3 : popN 0 n = 0 := by
    have : ∀ m, popN 0 m = 0 := fun m => by
      induction m with
      | zero => rfl
      | succ m ih => show popN 0 m + (if (0 : Nat).testBit m = true then 1 else 0) = 0; rw [ih, Nat.zero_testBit]; rfl
    exact this n
  omega
/-- Who takes: everybody takes one thing. -/
theorem seen_all {X : Nat → Int} (h : IsDiff n n X) : setN X n = 2 ^ n - 1 := by
  refine (full_iff (setN_lt fun j hj => h.1 j hj)).2 fun y hy => (setN_bit fun j hj => (h.1 j hj).1).2 ?_
  obtain ⟨i, hi, e⟩ := surj_of_inj n (fun i => (X i).toNat) (fun i hi => by have := h.1 i hi; show (X i).toNat < n; omega) (fun i j h1 h2 e => by
    have a1 := h.1 i (by omega)
    have a2 := h.1 j h2
    have := h.2 i j h1 h2
    have e' : (X i).toNat = (X j).toNat := e
    omega) y hy
  exact ⟨i, hi, by have := h.1 i hi; have e' : (X i).toNat = y := e; omega⟩
theorem best_perm (h : IsWants n W) (k : Nat) : PermOk n W (bestL n W k) := by
  obtain ⟨U, hU⟩ := best_taken h k
  exact hU.perm
end
end Go.Proofs.Yteigenmagifplaa
