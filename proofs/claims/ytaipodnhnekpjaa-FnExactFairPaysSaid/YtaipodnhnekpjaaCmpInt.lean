/- The library's cmp.Compare at integers; the order of lists, as it is told. -/
import Derived.Test.YtaipodnhnekpjaaProg
import Derived.Test.YtaipodnhnekpjaaMem
namespace Go.Proofs.Ytaipodnhnekpjaa
set_option linter.unusedVariables false
set_option linter.unusedSimpArgs false
open Go.RowKit

/-- Two numbers are compared. -/
def cmpI (x y : Int) : Int := if x < y then -1 else if y < x then 1 else 0
/-- Two lists of n numbers are compared, from the place k on. -/
def cmpN (X Y : Nat → Int) : Nat → Nat → Int
  | _, 0 => 0
  | k, m + 1 => if X k = Y k then cmpN X Y (k + 1) m else cmpI (X k) (Y k)
theorem cmpI_ne {x y : Int} (h : x ≠ y) : cmpI x y ≠ 0 := by
  unfold cmpI
  by_cases h1 : x < y
  · rw [if_pos h1]; omega
  · rw [if_neg h1, if_pos (by omega)]; omega
theorem cmpI_range (x y : Int) : -1 ≤ cmpI x y ∧ cmpI x y ≤ 1 := by
  unfold cmpI
  by_cases h1 : x < y
  · rw [if_pos h1]; omega
  · rw [if_neg h1]
    by_cases h2 : y < x
    · rw [if_pos h2]; omega
    · rw [if_neg h2]; omega

theorem isNaN_any (x : Int) (w : World) : Calls Try.prog 117 #[.int .i64 x] w fun e w' => e = .returned (.bool false) ∧ w = w' := by
  have d1 : (x != x) = false := by simp
  go_enter Try.func117, Try.ntmps117
  go_wp2
  go_ret
  exact ⟨by first | rfl | simp, rfl⟩

set_option maxHeartbeats 400000 in
theorem cmpInt_any (x y : Int) (w : World) : Calls Try.prog 106 #[.int .i64 x, .int .i64 y] w fun e w' => e = .returned (.int .i64 (cmpI x y)) ∧ w = w' := by
  by_cases h1 : x < y
  · have d1 : decide (x < y) = true := by simpa using h1
    have HE := Lib.hid (show cmpI x y = -1 by unfold cmpI; rw [if_pos h1])
    clear h1
    go_enter Try.func106, Try.ntmps106
    go_wp2_with (go_at_call 117; refine (isNaN_any _ _).mono ?_; rintro e w' ⟨rfl, rfl⟩)
    go_ret
    exact ⟨by rw [HE.out]; rfl, rfl⟩
  · have d1 : decide (x < y) = false := by simpa using h1
    by_cases h2 : y < x
    · have d2 : decide (y < x) = true := by simpa using h2
      have HE := Lib.hid (show cmpI x y = 1 by unfold cmpI; rw [if_neg h1, if_pos h2])
      clear h1 h2
      go_enter Try.func106, Try.ntmps106
      go_wp2_with (go_at_call 117; refine (isNaN_any _ _).mono ?_; rintro e w' ⟨rfl, rfl⟩)
      go_ret
      exact ⟨by rw [HE.out]; rfl, rfl⟩
    · have d2 : decide (y < x) = false := by simpa using h2
      have HE := Lib.hid (show cmpI x y = 0 by unfold cmpI; rw [if_neg h1, if_neg h2])
      clear h1 h2
      go_enter Try.func106, Try.ntmps106
      go_wp2_with (go_at_call 117; refine (isNaN_any _ _).mono ?_; rintro e w' ⟨rfl, rfl⟩)
      go_ret
      exact ⟨by rw [HE.out]; rfl, rfl⟩

theorem cmpN_self {X : Nat → Int} : ∀ (m k : Nat), cmpN X X k m = 0
  | 0, k => rfl
  | m + 1, k => by
    show (if X k = X k then cmpN X X (k + 1) m else _) = 0
    rw [if_pos rfl]; exact cmpN_self m (k + 1)
theorem cmpI_anti (x y : Int) : cmpI y x = - cmpI x y := by
  unfold cmpI
  by_cases h1 : x < y
  · rw [if_neg (by omega), if_pos h1, if_pos h1]; rfl
  · rw [if_neg h1]
    by_cases h2 : y < x
    · rw [if_pos h2, if_neg h1, if_pos h2]
    · rw [if_neg h2, if_neg h1, if_neg h2]; rfl
theorem cmpI_lt {x y : Int} : cmpI x y < 0 ↔ x < y := by
  unfold cmpI
  by_cases h1 : x < y
  · simp [h1]
  · rw [if_neg h1]
    by_cases h2 : y < x
    · rw [if_pos h2]; simp [h1]
    · rw [if_neg h2]; simp [h1]
theorem cmpN_anti {X Y : Nat → Int} : ∀ (m k : Nat), cmpN Y X k m = - cmpN X Y k m
  | 0, k => rfl
  | m + 1, k => by
    show (if Y k = X k then cmpN Y X (k + 1) m else cmpI (Y k) (X k)) = - (if X k = Y k then cmpN X Y (k + 1) m else cmpI (X k) (Y k))
    by_cases e : X k = Y k
    · rw [if_pos e, if_pos e.symm]; exact cmpN_anti m (k + 1)
    · rw [if_neg e, if_neg (fun h => e h.symm)]; exact cmpI_anti _ _
theorem cmpN_trans {X Y Z : Nat → Int} : ∀ (m k : Nat), cmpN X Y k m < 0 → cmpN Y Z k m < 0 → cmpN X Z k m < 0
  | 0, k, h, _ => h
  | m + 1, k, h1, h2 => by
    have h1' : (if X k = Y k then cmpN X Y (k + 1) m else cmpI (X k) (Y k)) < 0 := h1
    have h2' : (if Y k = Z k then cmpN Y Z (k + 1) m else cmpI (Y k) (Z k)) < 0 := h2
    show (if X k = Z k then cmpN X Z (k + 1) m else cmpI (X k) (Z k)) < 0
    by_cases e1 : X k = Y k
    · rw [if_pos e1] at h1'
      by_cases e2 : Y k = Z k
      · rw [if_pos e2] at h2'
        rw [if_pos (e1.trans e2)]
        exact cmpN_trans m (k + 1) h1' h2'
      · rw [if_neg e2] at h2'
        rw [if_neg (fun h => e2 (e1.symm.trans h)), e1]
        exact h2'
    · rw [if_neg e1] at h1'
      have a1 := cmpI_lt.1 h1'
      by_cases e2 : Y k = Z k
      · rw [if_neg (fun h => e1 (h.trans e2.symm)), ← e2]; exact h1'
      · rw [if_neg e2] at h2'
        have a2 := cmpI_lt.1 h2'
        rw [if_neg (by omega)]
        exact cmpI_lt.2 (by omega)
theorem cmpN_ntrans {X Y Z : Nat → Int} : ∀ (m k : Nat), ¬ cmpN X Y k m < 0 → ¬ cmpN Y Z k m < 0 → ¬ cmpN X Z k m < 0
  | 0, k, h, _ => h
  | m + 1, k, h1, h2 => by
    have h1' : ¬ (if X k = Y k then cmpN X Y (k + 1) m else cmpI (X k) (Y k)) < 0 := h1
    have h2' : ¬ (if Y k = Z k then cmpN Y Z (k + 1) m else cmpI (Y k) (Z k)) < 0 := h2
    show ¬ (if X k = Z k then cmpN X Z (k + 1) m else cmpI (X k) (Z k)) < 0
    by_cases e1 : X k = Y k
    · rw [if_pos e1] at h1'
      by_cases e2 : Y k = Z k
      · rw [if_pos e2] at h2'
        rw [if_pos (e1.trans e2)]
        exact cmpN_ntrans m (k + 1) h1' h2'
      · rw [if_neg e2] at h2'
        rw [if_neg (fun h => e2 (e1.symm.trans h)), e1]
        exact h2'
    · rw [if_neg e1, cmpI_lt] at h1'
      by_cases e2 : Y k = Z k
      · rw [if_neg (fun h => e1 (h.trans e2.symm)), ← e2, cmpI_lt]; exact h1'
      · rw [if_neg e2, cmpI_lt] at h2'
        rw [if_neg (by omega), cmpI_lt]
        omega
theorem cmpN_zero {X Y : Nat → Int} : ∀ (m k : Nat), cmpN X Y k m = 0 → ∀ j, j < m → X (k + j) = Y (k + j)
  | 0, k, _, j, hj => absurd hj (Nat.not_lt_zero _)
  | m + 1, k, h, j, hj => by
    have h' : (if X k = Y k then cmpN X Y (k + 1) m else cmpI (X k) (Y k)) = 0 := h
    by_cases e : X k = Y k
    · rw [if_pos e] at h'
      by_cases e0 : j = 0
      · subst e0; exact e
      · have := cmpN_zero m (k + 1) h' (j - 1) (by omega)
        rw [show k + 1 + (j - 1) = k + j by omega] at this
        exact this
    · rw [if_neg e] at h'
      exact absurd h' (cmpI_ne e)
theorem cmpN_first {X Y : Nat → Int} : ∀ (j m k : Nat), j < m → (∀ i, i < j → X (k + i) = Y (k + i)) → X (k + j) < Y (k + j) → cmpN X Y k m < 0
  | 0, m + 1, k, _, _, h => by
    show (if X k = Y k then cmpN X Y (k + 1) m else cmpI (X k) (Y k)) < 0
    have h' : X k < Y k := h
    rw [if_neg (by omega)]
    exact cmpI_lt.2 h'
  | j + 1, m + 1, k, hj, he, h => by
    show (if X k = Y k then cmpN X Y (k + 1) m else cmpI (X k) (Y k)) < 0
    rw [if_pos (show X k = Y k from he 0 (by omega))]
    refine cmpN_first j m (k + 1) (by omega) (fun i hi => ?_) ?_
    · have := he (i + 1) (by omega)
      rw [show k + 1 + i = k + (i + 1) by omega]; exact this
    · rw [show k + 1 + j = k + (j + 1) by omega]; exact h

end Go.Proofs.Ytaipodnhnekpjaa
