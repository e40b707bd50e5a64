/- The library's slices.Compare at rows of integers; the order of lists. -/
import Derived.Test.YteigenmagifplaaProg
import Derived.Test.YteigenmagifplaaMem
namespace Go.Proofs.Yteigenmagifplaa
set_option linter.unusedVariables false
set_option linter.unusedSimpArgs false
open Go.RowKit

/-- Two numbers are compared. -/
def cmpI (x y : Int) : Int := if x < y then -1 else if y < x then 1 else 0
/-- Two lists of n numbers are compared, from the place k on. -/
def cmpN (X Y : Nat → Int) : Nat → Nat → Int
  | _, 0 => 0
  | k, m + 1 => if X k = Y k then cmpN X Y (k + 1) m else cmpI (X k) (Y k)
theorem cmpI_ne {x y : Int} (h : x ≠ y) : cmpI x y ≠ 0 := by
  unfold cmpI
  by_cases h1 : x < y
  · rw [if_pos h1]; omega
  · rw [if_neg h1, if_pos (by omega)]; omega
theorem cmpI_range (x y : Int) : -1 ≤ cmpI x y ∧ cmpI x y ≤ 1 := by
  unfold cmpI
  by_cases h1 : x < y
  · rw [if_pos h1]; omega
  · rw [if_neg h1]
    by_cases h2 : y < x
    · rw [if_pos h2]; omega
    · rw [if_neg h2]; omega

theorem isNaN_any (x : Int) (w : World) : Calls Try.prog 74 #[.int .i64 x] w fun e w' => e = .returned (.bool false) ∧ w = w' := by
  have d1 : (x != x) = false := by simp
  go_enter Try.func74, Try.ntmps74
  go_wp2
  go_ret
  exact ⟨by first | rfl | simp, rfl⟩

set_option maxHeartbeats 400000 in
theorem cmpInt_any (x y : Int) (w : World) : Calls Try.prog 70 #[.int .i64 x, .int .i64 y] w fun e w' => e = .returned (.int .i64 (cmpI x y)) ∧ w = w' := by
  by_cases h1 : x < y
  · have d1 : decide (x < y) = true := by simpa using h1
    have HE := Lib.hid (show cmpI x y = -1 by unfold cmpI; rw [if_pos h1])
    clear h1
    go_enter Try.func70, Try.ntmps70
    go_wp2_with (go_at_call 74; refine (isNaN_any _ _).mono ?_; rintro e w' ⟨rfl, rfl⟩)
    go_ret
    exact ⟨by rw [HE.out]; rfl, rfl⟩
  · have d1 : decide (x < y) = false := by simpa using h1
    by_cases h2 : y < x
    · have d2 : decide (y < x) = true := by simpa using h2
      have HE := Lib.hid (show cmpI x y = 1 by unfold cmpI; rw [if_neg h1, if_pos h2])
      clear h1 h2
      go_enter Try.func70, Try.ntmps70
      go_wp2_with (go_at_call 74; refine (isNaN_any _ _).mono ?_; rintro e w' ⟨rfl, rfl⟩)
      go_ret
      exact ⟨by rw [HE.out]; rfl, rfl⟩
    · have d2 : decide (y < x) = false := by simpa using h2
      have HE := Lib.hid (show cmpI x y = 0 by unfold cmpI; rw [if_neg h1, if_neg h2])
      clear h1 h2
      go_enter Try.func70, Try.ntmps70
      go_wp2_with (go_at_call 74; refine (isNaN_any _ _).mono ?_; rintro e w' ⟨rfl, rfl⟩)
      go_ret
      exact ⟨by rw [HE.out]; rfl, rfl⟩

set_option maxHeartbeats 800000 in
theorem compare_any6 (n c d : Nat) (a b : Option Addr) (X Y : Nat → Int) (w : World) (hn : n ≤ 6) (ha : Rd w a n X) (hb : Rd w b n Y) :
    Calls Try.prog 62 #[.slice a n c, .slice b n d] w fun e w' => e = .returned (.int .i64 (cmpN X Y 0 n)) ∧ w = w' := by
  have HA := Lib.hid ha
  have HB := Lib.hid hb
  clear ha hb
  go_enter Try.func62, Try.ntmps62
  go_wp2
  go_loop [5, 6, 7, 8, 11] (fun _ _ _ _ s => ∃ k : Nat, k ≤ n ∧ s = .int .i64 k ∧ cmpN X Y 0 n = cmpN X Y k (n - k)) (fun _ _ _ _ s => n - (intOf s).toNat)
  case atStart => exact ⟨0, Nat.zero_le _, rfl, rfl⟩
  case round =>
    obtain ⟨k, hk, rfl, he⟩ := hrel
    by_cases hlt : k < n
    · obtain ⟨ba, oa, rfl, hca⟩ := HA.out k hlt
      obtain ⟨bb, ob, rfl, hcb⟩ := HB.out k hlt
      have e1 : cmpN X Y k (n - k) = if X k = Y k then cmpN X Y (k + 1) (n - (k + 1)) else cmpI (X k) (Y k) := by
        rw [show n - k = (n - (k + 1)) + 1 by omega]; rfl
      rw [e1] at he
      obtain ⟨x, hx⟩ : ∃ x, x = X k := ⟨_, rfl⟩
      obtain ⟨y, hy⟩ : ∃ y, y = Y k := ⟨_, rfl⟩
      rw [← hx] at hca he
      rw [← hy] at hcb he
      have dk : decide (n ≤ k) = false := by simp; omega
      have dk2 : decide ((n : Int) ≤ (k : Int)) = false := by simp; omega
      have k1 : (0 : Int) ≤ (k : Int) := by omega
      have k2 : (k : Int) < (n : Int) := by omega
      by_cases hxy : x = y
      · rw [if_pos hxy] at he
        have HE := Lib.hid he
        have HC := Lib.hid (show cmpI x y = 0 by rw [hxy]; unfold cmpI; simp)
        clear he hxy hx hy e1
        go_wp2_with (go_at_call 70; refine (cmpInt_any _ _ _).mono ?_; rintro e w' ⟨rfl, rfl⟩; rw [HC.out])
        go_round
        case rel => exact ⟨k + 1, by omega, by go_num, HE.out⟩
        case measure => simp [intOf]; omega
      · rw [if_neg hxy] at he
        have HE := Lib.hid he
        obtain ⟨z, hz⟩ : ∃ z, z = cmpI x y := ⟨_, rfl⟩
        have hz0 : z ≠ 0 := by rw [hz]; exact cmpI_ne hxy
        have d3 : (z != 0) = true := by simpa using hz0
        have HZ := Lib.hid hz
        clear he hxy hx hy e1 hz hz0
        go_wp2_with (go_at_call 70; refine (cmpInt_any _ _ _).mono ?_; rintro e w' ⟨rfl, rfl⟩; rw [← HZ.out])
        go_ret
        exact ⟨by rw [HE.out, ← HZ.out]; rfl, rfl⟩
    · obtain rfl : k = n := by omega
      have HE := Lib.hid (show cmpN X Y 0 k = 0 by rw [he, Nat.sub_self]; rfl)
      have dk : decide (k < k) = false := by simp
      clear he
      go_wp2
      go_ret
      exact ⟨by rw [HE.out]; rfl, rfl⟩
theorem compare_any (n c d : Nat) (a b : Option Addr) (X Y : Nat → Int) (w : World) (hn : n ≤ 5) (ha : Rd w a n X) (hb : Rd w b n Y) :
    Calls Try.prog 62 #[.slice a n c, .slice b n d] w fun e w' => e = .returned (.int .i64 (cmpN X Y 0 n)) ∧ w = w' :=
  compare_any6 n c d a b X Y w (by omega) ha hb

theorem cmpN_self {X : Nat → Int} : ∀ (m k : Nat), cmpN X X k m = 0
  | 0, k => rfl
  | m + 1, k => by
    show (if X k = X k then cmpN X X (k + 1) m else _) = 0
    rw [if_pos rfl]; exact cmpN_self m (k + 1)
theorem cmpI_anti (x y : Int) : cmpI y x = - cmpI x y := by
  unfold cmpI
  by_cases h1 : x < y
  · rw [if_neg (by omega), if_pos h1, if_pos h1]; rfl
  · rw [if_neg h1]
    by_cases h2 : y < x
    · rw [if_pos h2, if_neg h1, if_pos h2]
    · rw [if_neg h2, if_neg h1, if_neg h2]; rfl
theorem cmpI_lt {x y : Int} : cmpI x y < 0 ↔ x < y := by
  unfold cmpI
  by_cases h1 : x < y
  · simp [h1]
  · rw [if_neg h1]
    by_cases h2 : y < x
    · rw [if_pos h2]; simp [h1]
    · rw [if_neg h2]; simp [h1]
theorem cmpN_anti {X Y : Nat → Int} : ∀ (m k : Nat), cmpN Y X k m = - cmpN X Y k m
  | 0, k => rfl
  | m + 1, k => by
    show (if Y k = X k then cmpN Y X (k + 1) m else cmpI (Y k) (X k)) = - (if X k = Y k then cmpN X Y (k + 1) m else cmpI (X k) (Y k))
    by_cases e : X k = Y k
    · rw [if_pos e, if_pos e.symm]; exact cmpN_anti m (k + 1)
    · rw [if_neg e, if_neg (fun h => e h.symm)]; exact cmpI_anti _ _
theorem cmpN_trans {X Y Z : Nat → Int} : ∀ (m k : Nat), cmpN X Y k m < 0 → cmpN Y Z k m < 0 → cmpN X Z k m < 0
  | 0, k, h, _ => h
  | m + 1, k, h1, h2 => by
    have h1' : (if X k = Y k then cmpN X Y (k + 1) m else cmpI (X k) (Y k)) < 0 := h1
    have h2' : (if Y k = Z k then cmpN Y Z (k + 1) m else cmpI (Y k) (Z k)) < 0 := h2
    show (if X k = Z k then cmpN X Z (k + 1) m else cmpI (X k) (Z k)) < 0
    by_cases e1 : X k = Y k
    · rw [if_pos e1] at h1'
      by_cases e2 : Y k = Z k
      · rw [if_pos e2] at h2'
        rw [if_pos (e1.trans e2)]
        exact cmpN_trans m (k + 1) h1' h2'
      · rw [if_neg e2] at h2'
        rw [if_neg (fun h => e2 (e1.symm.trans h)), e1]
        exact h2'
    · rw [if_neg e1] at h1'
      have a1 := cmpI_lt.1 h1'
      by_cases e2 : Y k = Z k
      · rw [if_neg (fun h => e1 (h.trans e2.symm)), ← e2]; exact h1'
      · rw [if_neg e2] at h2'
        have a2 := cmpI_lt.1 h2'
        rw [if_neg (by omega)]
        exact cmpI_lt.2 (by omega)
theorem cmpN_ntrans {X Y Z : Nat → Int} : ∀ (m k : Nat), ¬ cmpN X Y k m < 0 → ¬ cmpN Y Z k m < 0 → ¬ cmpN X Z k m < 0
  | 0, k, h, _ => h
  | m + 1, k, h1, h2 => by
    have h1' : ¬ (if X k = Y k then cmpN X Y (k + 1) m else cmpI (X k) (Y k)) < 0 := h1
    have h2' : ¬ (if Y k = Z k then cmpN Y Z (k + 1) m else cmpI (Y k) (Z k)) < 0 := h2
    show ¬ (if X k = Z k then cmpN X Z (k + 1) m else cmpI (X k) (Z k)) < 0
    by_cases e1 : X k = Y k
    · rw [if_pos e1] at h1'
      by_cases e2 : Y k = Z k
      · rw [if_pos e2] at h2'
        rw [if_pos (e1.trans e2)]
        exact cmpN_ntrans m (k + 1) h1' h2'
      · rw [if_neg e2] at h2'
        rw [if_neg (fun h => e2 (e1.symm.trans h)), e1]
        exact h2'
    · rw [if_neg e1, cmpI_lt] at h1'
      by_cases e2 : Y k = Z k
      · rw [if_neg (fun h => e1 (h.trans e2.symm)), ← e2, cmpI_lt]; exact h1'
      · rw [if_neg e2, cmpI_lt] at h2'
        rw [if_neg (by omega), cmpI_lt]
        omega
theorem cmpN_zero {X Y : Nat → Int} : ∀ (m k : Nat), cmpN X Y k m = 0 → ∀ j, j < m → X (k + j) = Y (k + j)
  | 0, k, _, j, hj => absurd hj (Nat.not_lt_zero _)
  | m + 1, k, h, j, hj => by
    have h' : (if X k = Y k then cmpN X Y (k + 1) m else cmpI (X k) (Y k)) = 0 := h
    by_cases e : X k = Y k
    · rw [if_pos e] at h'
      by_cases e0 : j = 0
      · subst e0; exact e
      · have := cmpN_zero m (k + 1) h' (j - 1) (by omega)
        rw [show k + 1 + (j - 1) = k + j by omega] at this
        exact this
    · rw [if_neg e] at h'
      exact absurd h' (cmpI_ne e)
theorem cmpN_first {X Y : Nat → Int} : ∀ (j m k : Nat), j < m → (∀ i, i < j → X (k + i) = Y (k + i)) → X (k + j) < Y (k + j) → cmpN X Y k m < 0
  | 0, m + 1, k, _, _, h => by
    show (if X k = Y k then cmpN X Y (k + 1) m else cmpI (X k) (Y k)) < 0
    have h' : X k < Y k := h
    rw [if_neg (by omega)]
    exact cmpI_lt.2 h'
  | j + 1, m + 1, k, hj, he, h => by
    show (if X k = Y k then cmpN X Y (k + 1) m else cmpI (X k) (Y k)) < 0
    rw [if_pos (show X k = Y k from he 0 (by omega))]
    refine cmpN_first j m (k + 1) (by omega) (fun i hi => ?_) ?_
    · have := he (i + 1) (by omega)
      rw [show k + 1 + i = k + (i + 1) by omega]; exact this
    · rw [show k + 1 + j = k + (j + 1) by omega]; exact h

end Go.Proofs.Yteigenmagifplaa
