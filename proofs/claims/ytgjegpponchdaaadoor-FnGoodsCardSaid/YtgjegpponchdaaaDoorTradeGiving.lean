/- What comes by trading in circles is a giving; the first circles. -/
/- Nobody gets a better house by telling another list of wishes, in plain mathematics. -/
import Derived.Test.YtgjegpponchdaaaDoorTradeEnds
import Derived.Test.YtgjegpponchdaaaDoorWishes
namespace Go.Proofs.YtgjegpponchdaaaDoor
set_option linter.unusedVariables false
open Go.RowKit

section
variable {n : Nat} {L : Nat → Nat} {Z : Nat → Nat → Int}
theorem gF_keep {s i : Nat} (h : circB Z n (tS Z n s) i = true) : ∀ t, s + 1 ≤ t → gF Z n t i = ptS Z n (tS Z n s) i := by
  intro t ht
  induction t with
  | zero => omega
  | succ t ih =>
    show (if circB Z n (tS Z n t) i = true then ptS Z n (tS Z n t) i else gF Z n t i) = _
    by_cases e : t = s
    · subst e; rw [if_pos h]
    · rw [if_neg (fun hc => by
        have h1 := tS_mono (s := s + 1) (by omega) (circB_in hc)
        rw [circB_gone h] at h1; cases h1)]
      exact ih (by omega)
theorem leaves {t i : Nat} (hi : i < n) (ht : tS Z n t i = false) : ∃ s, s < t ∧ circB Z n (tS Z n s) i = true := by
  induction t with
  | zero =>
    have : decide (i < n) = false := ht
    simp at this; omega
  | succ t ih =>
    by_cases e : tS Z n t i = false
    · obtain ⟨s, h1, h2⟩ := ih e
      exact ⟨s, by omega, h2⟩
    · have e' : tS Z n t i = true := by simpa using e
      refine ⟨t, by omega, ?_⟩
      have h2 : (tS Z n t i && !circB Z n (tS Z n t) i) = false := ht
      rw [e'] at h2
      simpa using h2
/-- When i leaves, and what i gets then. -/
theorem give_at (hW : IsWishes n L Z) {i : Nat} (hi : i < n) : ∃ s, circB Z n (tS Z n s) i = true ∧ giveF Z n i = (ptS Z n (tS Z n s) i : Nat) ∧ circB Z n (tS Z n s) (ptS Z n (tS Z n s) i) = true := by
  obtain ⟨hT, _, _⟩ := turns_is hW
  obtain ⟨s, h1, h2⟩ := leaves hi (hT.1 i)
  refine ⟨s, h2, ?_, circB_of (ptS_in hW (tS_ppl Z n s) (circB_in h2)) (circB_circ h2).step⟩
  unfold giveF
  rw [gF_keep h2 _ (by omega)]
theorem give_circ (hW : IsWishes n L Z) {s i : Nat} (hi : circB Z n (tS Z n s) i = true) : giveF Z n i = (ptS Z n (tS Z n s) i : Nat) := by
  obtain ⟨hT, _, _⟩ := turns_is hW
  have hs : s + 1 ≤ turnsN Z n := by
    rcases Nat.lt_or_ge s (turnsN Z n) with h | h
    · exact h
    · have := tS_mono h (circB_in hi)
      rw [hT.1 i] at this; cases this
  unfold giveF
  rw [gF_keep hi _ hs]
theorem circ_once {s t i : Nat} (h : circB Z n (tS Z n s) i = true) (k : circB Z n (tS Z n t) i = true) : s = t := by
  rcases Nat.lt_trichotomy s t with h1 | h1 | h1
  · have := tS_mono (s := s + 1) (by omega) (circB_in k)
    rw [circB_gone h] at this; cases this
  · exact h1
  · have := tS_mono (s := t + 1) (by omega) (circB_in h)
    rw [circB_gone k] at this; cases this
theorem give_range (hW : IsWishes n L Z) {i : Nat} (hi : i < n) : 0 ≤ giveF Z n i ∧ giveF Z n i < n := by
  obtain ⟨s, h1, h2, h3⟩ := give_at hW hi
  have := tS_ppl Z n s _ (circB_in h3)
  omega
theorem trade_giving (hW : IsWishes n L Z) : IsDiff n n (giveF Z n) := by
  refine ⟨fun i hi => give_range hW hi, fun i j hij hj e => ?_⟩
  obtain ⟨s, h1, h2, h3⟩ := give_at hW (show i < n by omega)
  obtain ⟨t, k1, k2, k3⟩ := give_at hW hj
  have e2 : ptS Z n (tS Z n s) i = ptS Z n (tS Z n t) j := by omega
  rw [e2] at h3
  obtain rfl := circ_once h3 k3
  have := (circB_circ h1).inj (circB_circ k1) e2
  omega
/-- When all are there, one points at the first house of the list. -/
theorem ptS_first (hW : IsWishes n L Z) {i : Nat} (hi : i < n) : ((ptS Z n (tS Z n 0) i : Nat) : Int) = Z i 0 := by
  have h0 := (hW.2 i hi).2.1 0 (by omega)
  have : ptS Z n (tS Z n 0) i = (Z i 0).toNat := by
    unfold ptS
    exact ptN_first (k := 0) (fun j hj => absurd hj (Nat.not_lt_zero _)) (by show decide ((Z i 0).toNat < n) = true; simp; omega) (by omega)
  omega
/-- Those on the first circles get what they like best. -/
theorem first_best (hW : IsWishes n L Z) {i : Nat} (h : circB Z n (tS Z n 0) i = true) : giveF Z n i = Z i 0 := by
  rw [give_circ hW h, ptS_first hW (tS_ppl Z n 0 i (circB_in h))]
theorem turns_one (hW : IsWishes n L Z) : turnsN Z n = 1 ↔ ∀ i, i < n → circB Z n (tS Z n 0) i = true := by
  constructor
  · intro h i hi
    obtain ⟨hT, _, _⟩ := turns_is hW
    rw [h] at hT
    obtain ⟨s, h1, h2⟩ := leaves hi (hT.1 i)
    obtain rfl : s = 0 := by omega
    exact h2
  · intro h
    refine turnsN_of ⟨fun y => ?_, fun s hs => ?_⟩
    · cases e : tS Z n 1 y
      · rfl
      · have h1 := tS_ppl Z n 1 y e
        rw [circB_gone (h y h1)] at e; cases e
    · obtain rfl : s = 0 := by omega
      exact ⟨0, by show decide (0 < n) = true; have := hW.1.1; simp; omega⟩
/-- If all like different houses best, all are on the first circles. -/
theorem all_circ (hW : IsWishes n L Z) (h : ∀ y : Nat, y < n → ∃ i, i < n ∧ Z i 0 = y) {i : Nat} (hi : i < n) : circB Z n (tS Z n 0) i = true := by
  rw [circB_image hW (tS_ppl Z n 0)]
  have hs : ∀ k y, y < n → ∃ j, j < n ∧ it (ptS Z n (tS Z n 0)) k j = y := by
    intro k
    induction k with
    | zero => intro y hy; exact ⟨y, hy, rfl⟩
    | succ k ih =>
      intro y hy
      obtain ⟨x, hx, e⟩ := h y hy
      obtain ⟨j, hj, e2⟩ := ih x hx
      refine ⟨j, hj, ?_⟩
      show ptS Z n (tS Z n 0) (it (ptS Z n (tS Z n 0)) k j) = y
      have := ptS_first hW hx
      rw [e2]; omega
  obtain ⟨j, hj, e⟩ := hs n i hi
  exact ⟨j, by show decide (j < n) = true; simpa using hj, e⟩
theorem circleF_bit {i : Nat} (Z : Nat → Nat → Int) (n : Nat) : (maskN (circB Z n (tS Z n 0)) n).testBit i = circB Z n (tS Z n 0) i := (maskN_is (circB_ppl Z (tS_ppl Z n 0))).2 i
theorem circle_pos (hW : IsWishes n L Z) : 0 < maskN (circB Z n (tS Z n 0)) n := by
  obtain ⟨z, hz⟩ := circB_some hW (tS_ppl Z n 0) (show tS Z n 0 0 = true by show decide (0 < n) = true; have := hW.1.1; simp; omega)
  rcases Nat.eq_zero_or_pos (maskN (circB Z n (tS Z n 0)) n) with h | h
  · have := circleF_bit (i := z) Z n
    rw [h, hz] at this; simp at this
  · exact h
theorem circle_full (hW : IsWishes n L Z) : maskN (circB Z n (tS Z n 0)) n = 2 ^ n - 1 ↔ turnsN Z n = 1 := by
  rw [turns_one hW]
  constructor
  · intro h i hi
    have := circleF_bit (i := i) Z n
    rw [h, Nat.testBit_two_pow_sub_one] at this
    rw [← this]; simpa using hi
  · intro h
    refine Nat.eq_of_testBit_eq fun y => ?_
    rw [circleF_bit, Nat.testBit_two_pow_sub_one]
    by_cases hy : y < n
    · rw [h y hy]; simp [hy]
    · cases e : circB Z n (tS Z n 0) y
      · simp [hy]
      · exact absurd (tS_ppl Z n 0 y (circB_in e)) hy
end
end Go.Proofs.YtgjegpponchdaaaDoor

namespace Go.Proofs.YtgjegpponchdaaaDoor
set_option linter.unusedVariables false
set_option linter.unusedSimpArgs false
open Go.RowKit

section
variable {n : Nat} {L M : Nat → Nat} {Z Y : Nat → Nat → Int} {p : Nat}
theorem ptS_row {S : Nat → Bool} {i : Nat} (h : Y i = Z i) : ptS Y n S i = ptS Z n S i := by unfold ptS; rw [h]
theorem it_same {S : Nat → Bool} (hY : ∀ i, i ≠ p → Y i = Z i) {i : Nat} : ∀ k, (∀ j, j < k → it (ptS Z n S) j i ≠ p) → it (ptS Y n S) k i = it (ptS Z n S) k i
  | 0, _ => rfl
  | k + 1, h => by
    show ptS Y n S (it (ptS Y n S) k i) = ptS Z n S (it (ptS Z n S) k i)
    rw [it_same hY k (fun j hj => h j (by omega)), ptS_row (hY _ (h k (by omega)))]
theorem circ_same1 {S : Nat → Bool} (hY : ∀ i, i ≠ p → Y i = Z i) (hp : S p = true) (hno : circB Z n S p = false) {i : Nat} (h : circB Z n S i = true) : circB Y n S i = true := by
  have hc := circB_circ h
  have hav : ∀ j, it (ptS Z n S) j i ≠ p := fun j e => by
    have := circB_of (Z := Z) (n := n) hp (by have := hc.it j; rwa [e] at this)
    rw [hno] at this; cases this
  obtain ⟨k, h1, h2⟩ := hc
  exact circB_of (circB_in h) ⟨k, h1, by rw [it_same hY k (fun j _ => hav j)]; exact h2⟩
theorem circ_same {S : Nat → Bool} (hY : ∀ i, i ≠ p → Y i = Z i) (hp : S p = true) (h1 : circB Z n S p = false) (h2 : circB Y n S p = false) (i : Nat) : circB Z n S i = circB Y n S i := by
  rw [Bool.eq_iff_iff]
  exact ⟨circ_same1 hY hp h1, circ_same1 (fun i hi => (hY i hi).symm) hp h2⟩
theorem stays_circ {t : Nat} (h : tS Z n (t + 1) p = true) : circB Z n (tS Z n t) p = false := by
  unfold tS at h
  simp only [Bool.and_eq_true, Bool.not_eq_true'] at h
  exact h.2
/-- As long as p is there, as many are left, whatever p tells. -/
theorem same_left (hY : ∀ i, i ≠ p → Y i = Z i) : ∀ t, tS Z n t p = true → tS Y n t p = true → tS Z n t = tS Y n t
  | 0, _, _ => rfl
  | t + 1, h1, h2 => by
    have ih := same_left hY t (tS_down h1) (tS_down h2)
    funext y
    have hc := circ_same (n := n) (S := tS Z n t) hY (tS_down h1) (stays_circ h1) (by rw [ih]; exact stays_circ h2) y
    show (tS Z n t y && !circB Z n (tS Z n t) y) = (tS Y n t y && !circB Y n (tS Y n t) y)
    rw [hc, ih]
/-- The first one of a list that is in a set stands ahead of the others. -/
theorem best_in (hW : IsWishes n L Z) {S : Nat → Bool} (hS : Ppl n S) (hp : p < n) {h : Nat} (hh : S h = true) : idxF (Z p) (ptS Z n S p : Nat) n ≤ idxF (Z p) (h : Nat) n := by
  obtain ⟨j, hj, h1, h2, h3⟩ := ptS_spec hW hS hp hh
  have hjr : ((Z p j).toNat : Int) = Z p j := by have := (hW.2 p hp).2.1 j hj; omega
  rw [h3, hjr]
  have e1 : idxF (Z p) (Z p j) n = j := idxF_some (fun k hk e => by
    have := h2 k hk
    rw [e, h1] at this; cases this) rfl hj
  obtain ⟨k, hk, e⟩ := (hW.2 p hp).2.all (hS h hh)
  obtain ⟨k', hk1, hk2, hk3⟩ := first_place (P := fun k => Z p k = (h : Nat)) hk e
  have e2 : idxF (Z p) (h : Nat) n = k' := idxF_some hk3 hk2 (by omega)
  rw [e1, e2]
  by_cases hlt : k' < j
  · have := h2 k' hlt
    rw [show Z p k' = (h : Nat) from hk2, Int.toNat_natCast, hh] at this; cases this
  · omega
/-- Of fewer, the first one is the same if it is among them. -/
theorem ptS_sub (hW : IsWishes n L Z) {S T : Nat → Bool} (hS : Ppl n S) (hTS : ∀ y, T y = true → S y = true) {i : Nat} (hi : i < n) (hT : T (ptS Z n S i) = true) : ptS Z n T i = ptS Z n S i := by
  obtain ⟨j, hj, h1, h2, h3⟩ := ptS_spec hW hS hi (hTS _ hT)
  rw [h3] at hT ⊢
  exact ptN_first (fun k hk => by
    cases e : T (Z i k).toNat
    · rfl
    · have := hTS _ e; rw [h2 k hk] at this; cases this) hT hj

/-- Nobody gets a house that is liked better by telling another list. -/
theorem no_better (hW : IsWishes n L Z) (hV : IsWishes n M Y) (hY : ∀ i, i ≠ p → Y i = Z i) (hp : p < n) : idxF (Z p) (giveF Z n p) n ≤ idxF (Z p) (giveF Y n p) n := by
  obtain ⟨s, hs, hg, _⟩ := give_at hW hp
  obtain ⟨s', hs', hg', hn'⟩ := give_at hV hp
  rw [hg, hg']
  by_cases hlt : s ≤ s'
  · have h1 := circB_in hs
    have h2 := tS_mono hlt (circB_in hs')
    have e := same_left (n := n) hY s h1 h2
    refine best_in hW (tS_ppl Z n s) hp ?_
    rw [e]
    exact tS_mono hlt (circB_in hn')
  · have h1 := tS_mono (show s' ≤ s by omega) (circB_in hs)
    have e := same_left (n := n) hY s' h1 (circB_in hs')
    obtain ⟨k, hk1, hk2⟩ := circB_circ hs'
    have hSp := tS_ppl Y n s'
    have hin : ∀ j, tS Y n s' (it (ptS Y n (tS Y n s')) j p) = true := fun j => it_in (P := fun x => tS Y n s' x = true) (fun i hi => ptS_in hV hSp hi) (circB_in hs') j
    have key : ∀ t, s' + t ≤ s → ∀ j, j ≤ k → tS Z n (s' + t) (it (ptS Y n (tS Y n s')) j p) = true := by
      intro t
      induction t with
      | zero => intro _ j _; show tS Z n s' _ = true; rw [e]; exact hin j
      | succ t ih =>
        intro ht j hj
        have ih := ih (by omega)
        have hpt : tS Z n (s' + t) p = true := tS_mono (show s' + t ≤ s by omega) (circB_in hs)
        have hnc : circB Z n (tS Z n (s' + t)) p = false := by
          cases ec : circB Z n (tS Z n (s' + t)) p
          · rfl
          · have := circ_once ec hs; omega
        have hstep : ∀ m j, j + m = k → circB Z n (tS Z n (s' + t)) (it (ptS Y n (tS Y n s')) j p) = true → False := by
          intro m
          induction m with
          | zero =>
            intro j hjm hc
            obtain rfl : j = k := by omega
            rw [hk2, hnc] at hc; cases hc
          | succ m ihm =>
            intro j hjm hc
            by_cases ep : it (ptS Y n (tS Y n s')) j p = p
            · rw [ep, hnc] at hc; cases hc
            · refine ihm (j + 1) (by omega) ?_
              have hnext : it (ptS Y n (tS Y n s')) (j + 1) p = ptS Z n (tS Z n (s' + t)) (it (ptS Y n (tS Y n s')) j p) := by
                show ptS Y n (tS Y n s') (it (ptS Y n (tS Y n s')) j p) = _
                rw [ptS_row (hY _ ep)]
                refine (ptS_sub hW (S := tS Y n s') hSp (fun y hy => by rw [← e]; exact tS_mono (Nat.le_add_right _ _) hy) (hSp _ (hin j)) ?_).symm
                rw [← ptS_row (hY _ ep)]
                exact ih (j + 1) (by omega)
              rw [hnext]
              exact circB_of (ptS_in hW (tS_ppl Z n _) (circB_in hc)) (circB_circ hc).step
        show (tS Z n (s' + t) _ && !circB Z n (tS Z n (s' + t)) _) = true
        rw [ih j hj]
        cases ec : circB Z n (tS Z n (s' + t)) (it (ptS Y n (tS Y n s')) j p)
        · rfl
        · exact (hstep (k - j) j (by omega) ec).elim
    have h2 := key (s - s') (by omega) 1 hk1
    rw [show s' + (s - s') = s by omega] at h2
    exact best_in hW (tS_ppl Z n s) hp h2
end
end Go.Proofs.YtgjegpponchdaaaDoor
