/- HouseLikes, the program's and the model's. -/
import Derived.Test.YtmjbocgoinfamaaSpecHouseIn
import Derived.Test.YtmjbocgoinfamaaIndexI
import Derived.Test.YtmjbocgoinfamaaLater
namespace Go.Proofs.Ytmjbocgoinfamaa
set_option linter.unusedVariables false
set_option linter.unusedSimpArgs false
open Go.RowKit

/-- Where x first stands among the first n; n if nowhere. -/
noncomputable def atL (X : Nat → Int) (x : Int) (n : Nat) : Int := if idxF X x n = -1 then n else idxF X x n
theorem atL_first {X : Nat → Int} {x : Int} {n k : Nat} (h : ∀ j, j < k → X j ≠ x) (hk : X k = x) (hn : k < n) : atL X x n = k := by
  unfold atL
  rw [idxF_some h hk hn, if_neg (by omega)]
theorem atL_none {X : Nat → Int} {x : Int} {n : Nat} (h : ∀ k, k < n → X k ≠ x) : atL X x n = n := by
  unfold atL
  rw [idxF_none h, if_pos rfl]
theorem atL_has {X : Nat → Int} {x : Int} {n : Nat} (h : HasI n X x) : atL X x n = idxF X x n := by
  have := idxF_has.1 h
  unfold atL
  rw [if_neg (by omega)]
/-- Does a person like x better than y? -/
def LikesOk (n : Nat) (L : Nat → Nat) (Z : Nat → Nat → Int) (p x y : Int) : Prop :=
  IsWishes n L Z ∧ InR p 0 (n - 1) ∧ InR x 0 (n - 1) ∧ InR y 0 (n - 1) ∧ idxF (Z p.toNat) x n < idxF (Z p.toNat) y n

set_option maxHeartbeats 400000 in
theorem l3At_any (n c : Nat) (a : Option Addr) (X : Nat → Int) (x : Int) (w : World) (hn : n ≤ 1048576) (ha : Rd w a n X) :
    Calls Try.prog 98 #[.slice a n c, .int .i64 x] w fun e w' => e = .returned (.int .i64 (atL X x n)) ∧ w = w' := by
  go_enter Try.func98, Try.ntmps98
  go_wp2
  go_loop [4, 5] (fun _ i => ∃ k : Nat, k ≤ n ∧ i = .int .i64 k ∧ ∀ j, j < k → X j ≠ x) (fun _ i => n - (intOf i).toNat)
  case atStart => exact ⟨0, Nat.zero_le _, rfl, fun j hj => absurd hj (Nat.not_lt_zero _)⟩
  case round =>
    obtain ⟨k, hk, rfl, hno⟩ := hrel
    have HN := Lib.hid hno
    clear hno
    by_cases hlt : k < n
    · obtain ⟨ba, oa, rfl, hca⟩ := ha k hlt
      clear ha
      by_cases hx : X k = x
      · have hd2 : (X k == x) = true := by simpa using hx
        have HX := Lib.hid (atL_first HN.out hx hlt)
        clear hx
        go_wp2
        go_ret
        exact ⟨by rw [HX.out]; rfl, rfl⟩
      · have hd2 : (X k == x) = false := by simpa using hx
        have HX := Lib.hid hx
        clear hx
        go_wp2
        go_round
        case rel => exact ⟨k + 1, by omega, by go_num, fun j hj => by
          by_cases e : j = k
          · subst e; exact HX.out
          · exact HN.out j (by omega)⟩
        case measure => simp [intOf]; omega
    · obtain rfl : k = n := by omega
      clear ha
      have HX := Lib.hid (atL_none HN.out)
      go_wp2
      go_ret
      exact ⟨by rw [HX.out]; rfl, rfl⟩

theorem hasW_any (n c : Nat) (a : Option Addr) (x : Int) (w : World) (hn : n ≤ 1048576) :
    Calls Try.prog 95 #[.slice a n c, .int .i64 x] w fun e w' => e = .returned (.bool (tt (InR x 0 (n - 1)))) ∧ w = w' := by
  by_cases h0 : 0 ≤ x
  · have hd : decide (0 ≤ x) = true := by simpa using h0
    have HE := Lib.hid (show decide (x < (n : Int)) = tt (InR x 0 ((n : Int) - 1)) by
      by_cases h : x < (n : Int)
      · rw [tt_of (show InR x 0 ((n : Int) - 1) from ⟨h0, by omega⟩)]; simpa using h
      · rw [tt_no (show ¬ InR x 0 ((n : Int) - 1) from fun h' => by have := h'.2; omega)]; simpa using h)
    go_enter Try.func95, Try.ntmps95
    go_wp2
    go_ret
    exact ⟨by rw [← HE.out]; rfl, rfl⟩
  · have hd : decide (0 ≤ x) = false := by simpa using h0
    have HE := Lib.hid (tt_no (show ¬ InR x 0 ((n : Int) - 1) from fun h' => h0 h'.1))
    go_enter Try.func95, Try.ntmps95
    go_wp2
    go_ret
    exact ⟨by rw [HE.out]; rfl, rfl⟩

theorem wishes_has {n : Nat} {L : Nat → Nat} {Z : Nat → Nat → Int} (h : IsWishes n L Z) {p : Nat} (hp : p < n) {x : Int} (hx : InR x 0 ((n : Int) - 1)) : HasI n (Z p) x := by
  obtain ⟨y, rfl⟩ := Int.eq_ofNat_of_zero_le hx.1
  obtain ⟨i, hi, e⟩ := (h.2 p hp).2.all (r := y) (by have := hx.2; omega)
  exact ⟨i, hi, e⟩

set_option maxHeartbeats 800000 in
theorem likes_any (n c p : Nat) (a : Option Addr) (A : Nat → Option Addr) (L C : Nat → Nat) (Z : Nat → Nat → Int) (x y : Int) (w : World) (hW : IsWishes n L Z) (hp : p < n) (ha : Tab w a n A L C Z) :
    Calls Try.prog 96 #[.slice a n c, .int .i64 p, .int .i64 x, .int .i64 y] w fun e w' => e = .returned (.bool (decide (idxF (Z p) x n < idxF (Z p) y n))) ∧ Below w.heap.size w w' := by
  obtain ⟨ba, oa, rfl, hca, hra⟩ := ha p hp
  have hn5 := hW.1.2
  have hl := (hW.2 p hp).1
  rw [hl] at hca hra
  have HR := Lib.hid hra
  obtain ⟨ix, hix⟩ : ∃ ix, ix = idxF (Z p) x n := ⟨_, rfl⟩
  obtain ⟨iy, hiy⟩ : ∃ iy, iy = idxF (Z p) y n := ⟨_, rfl⟩
  have QX := Lib.hid hix
  have QY := Lib.hid hiy
  have hcr : ∀ r : Later w, r.W.cell? ⟨ba, oa + p, none⟩ = some (.slice (A p) n (C p)) := fun r => later_cell hca r
  rw [← hix, ← hiy]
  have IX := Lib.hid (show ∀ r : Later w, Calls Try.prog 106 #[.slice (A p) n (C p), .int .i64 x] r.W fun e w' => e = .returned (.int .i64 ix) ∧ Below r.W.heap.size r.W w' from fun r => by
    refine (index_any n (C p) (A p) (Z p) x _ (by omega) (HR.out.below (Nat.le_refl _) (Later.h _))).mono ?_
    rintro e w' ⟨rfl, rfl⟩
    exact ⟨by rw [QX.out], Below.refl _ _⟩)
  have IY := Lib.hid (show ∀ r : Later w, Calls Try.prog 106 #[.slice (A p) n (C p), .int .i64 y] r.W fun e w' => e = .returned (.int .i64 iy) ∧ Below r.W.heap.size r.W w' from fun r => by
    refine (index_any n (C p) (A p) (Z p) y _ (by omega) (HR.out.below (Nat.le_refl _) (Later.h _))).mono ?_
    rintro e w' ⟨rfl, rfl⟩
    exact ⟨by rw [QY.out], Below.refl _ _⟩)
  clear hW hca hra ha hl hix hiy
  go_enter Try.func96, Try.ntmps96
  go_wp2
  refine wp_region_later (by kernel_rfl) (by kernel_rfl) ?_
  iterate 6 go_big_quiet_step ((go_at_call 106; exact calls_later _ (IX.out _)))
  clear IX
  repeat go_big_quiet_step ((go_at_call 106; exact calls_later _ (IY.out _)))
  refine wpQuiet_nil ?_
  rintro _ ⟨r, rfl⟩
  go_wp2
  go_ret
  exact ⟨rfl, r.h⟩

set_option maxHeartbeats 800000 in
theorem houseLikes_any (n c : Nat) (a : Option Addr) (A : Nat → Option Addr) (L C : Nat → Nat) (Z : Nat → Nat → Int) (p x y : Int) (w : World) (hn0 : n ≤ 1048576) (hL0 : ∀ r, r < n → L r ≤ 1048576) (ha0 : Tab w a n A L C Z) (hx1 : I64 p) (hx2 : I64 x) (hx3 : I64 y) :
    Calls Try.prog 47 #[.slice a n c, .int .i64 p, .int .i64 x, .int .i64 y] w fun e w' => e = .returned (.bool (tt (LikesOk n L Z p x y))) ∧ Below w.heap.size w w' := by
  have H := Lib.hid (readWishes_any n c a A L C Z w hn0 hL0 ha0)
  by_cases h1 : IsWishes n L Z
  · have T1 := Lib.hid (tt_of h1)
    by_cases h2 : InR p 0 ((n : Int) - 1)
    · have T2 := Lib.hid (tt_of h2)
      by_cases h3 : InR x 0 ((n : Int) - 1)
      · have T3 := Lib.hid (tt_of h3)
        by_cases h4 : InR y 0 ((n : Int) - 1)
        · have T4 := Lib.hid (tt_of h4)
          obtain ⟨q, rfl⟩ := Int.eq_ofNat_of_zero_le h2.1
          have HE := Lib.hid (show decide (idxF (Z q) x n < idxF (Z q) y n) = tt (LikesOk n L Z q x y) by
            by_cases h : idxF (Z q) x n < idxF (Z q) y n
            · rw [tt_of (show LikesOk n L Z q x y from ⟨h1, h2, h3, h4, h⟩)]; simpa using h
            · rw [tt_no (show ¬ LikesOk n L Z q x y from fun h' => h h'.2.2.2.2)]; simpa using h)
          have HK := Lib.hid (likes_any n c q a A L C Z x y w h1 (by have := h2.2; omega) ha0)
          clear h1 h2 h3 h4 hL0 ha0 hx1 hx2 hx3
          go_enter Try.func47, Try.ntmps47
          go_wp2_with (first
            | (go_at_call 94; refine H.out.mono ?_; rintro e w' ⟨rfl, rfl⟩; rw [T1.out])
            | (go_at_call 95; refine (hasW_any n c a _ _ hn0).mono ?_; rintro e w' ⟨rfl, rfl⟩; first | rw [T2.out] | rw [T3.out] | rw [T4.out])
            | (go_at_call 96; refine HK.out.mono ?_; rintro e w1 ⟨rfl, hb1⟩; have B1 := Lib.hid hb1; clear hb1))
          go_ret
          exact ⟨by rw [← HE.out]; rfl, B1.out⟩
        · have T4 := Lib.hid (tt_no h4)
          have TL := Lib.hid (tt_no (show ¬ LikesOk n L Z p x y from fun h => h4 h.2.2.2.1))
          clear h1 h2 h3 h4 hL0 ha0
          go_enter Try.func47, Try.ntmps47
          go_wp2_with (first
            | (go_at_call 94; refine H.out.mono ?_; rintro e w' ⟨rfl, rfl⟩; rw [T1.out])
            | (go_at_call 95; refine (hasW_any n c a _ _ hn0).mono ?_; rintro e w' ⟨rfl, rfl⟩; first | rw [T2.out] | rw [T3.out] | rw [T4.out]))
          go_ret
          exact ⟨by rw [TL.out]; rfl, Below.refl _ _⟩
      · have T3 := Lib.hid (tt_no h3)
        have TL := Lib.hid (tt_no (show ¬ LikesOk n L Z p x y from fun h => h3 h.2.2.1))
        clear h1 h2 h3 hL0 ha0
        go_enter Try.func47, Try.ntmps47
        go_wp2_with (first
          | (go_at_call 94; refine H.out.mono ?_; rintro e w' ⟨rfl, rfl⟩; rw [T1.out])
          | (go_at_call 95; refine (hasW_any n c a _ _ hn0).mono ?_; rintro e w' ⟨rfl, rfl⟩; first | rw [T2.out] | rw [T3.out]))
        go_ret
        exact ⟨by rw [TL.out]; rfl, Below.refl _ _⟩
    · have T2 := Lib.hid (tt_no h2)
      have TL := Lib.hid (tt_no (show ¬ LikesOk n L Z p x y from fun h => h2 h.2.1))
      clear h1 h2 hL0 ha0
      go_enter Try.func47, Try.ntmps47
      go_wp2_with (first
        | (go_at_call 94; refine H.out.mono ?_; rintro e w' ⟨rfl, rfl⟩; rw [T1.out])
        | (go_at_call 95; refine (hasW_any n c a _ _ hn0).mono ?_; rintro e w' ⟨rfl, rfl⟩; first | rw [T2.out]))
      go_ret
      exact ⟨by rw [TL.out]; rfl, Below.refl _ _⟩
  · have T1 := Lib.hid (tt_no h1)
    have TL := Lib.hid (tt_no (show ¬ LikesOk n L Z p x y from fun h => h1 h.1))
    clear h1 hL0 ha0
    go_enter Try.func47, Try.ntmps47
    go_wp2_with (first
      | (go_at_call 94; refine H.out.mono ?_; rintro e w' ⟨rfl, rfl⟩; rw [T1.out]))
    go_ret
    exact ⟨by rw [TL.out]; rfl, Below.refl _ _⟩

set_option maxHeartbeats 800000 in
theorem specHouseLikes_any (n c : Nat) (a : Option Addr) (A : Nat → Option Addr) (L C : Nat → Nat) (Z : Nat → Nat → Int) (p x y : Int) (w : World) (hn0 : n ≤ 1048576) (hL0 : ∀ r, r < n → L r ≤ 1048576) (ha0 : Tab w a n A L C Z) (hx1 : I64 p) (hx2 : I64 x) (hx3 : I64 y) :
    Calls Try.prog 48 #[.slice a n c, .int .i64 p, .int .i64 x, .int .i64 y] w fun e w' => e = .returned (.bool (tt (LikesOk n L Z p x y))) ∧ Below w.heap.size w w' := by
  have H := Lib.hid (specHouseIn_any n c a A L C Z w hn0 hL0 ha0)
  by_cases h1 : IsWishes n L Z
  · have T1 := Lib.hid (tt_of h1)
    have hn2 := h1.1.1
    have hn5 := h1.1.2
    by_cases h2 : InR p 0 ((n : Int) - 1)
    · have T2 := Lib.hid (tt_of h2)
      by_cases h3 : InR x 0 ((n : Int) - 1)
      · have T3 := Lib.hid (tt_of h3)
        by_cases h4 : InR y 0 ((n : Int) - 1)
        · have T4 := Lib.hid (tt_of h4)
          obtain ⟨q, rfl⟩ := Int.eq_ofNat_of_zero_le h2.1
          have hq : q < n := by have := h2.2; omega
          obtain ⟨ix, hix⟩ : ∃ ix, ix = idxF (Z q) x n := ⟨_, rfl⟩
          obtain ⟨iy, hiy⟩ : ∃ iy, iy = idxF (Z q) y n := ⟨_, rfl⟩
          have HE := Lib.hid (show decide (ix < iy) = tt (LikesOk n L Z q x y) by
            rw [hix, hiy]
            by_cases h : idxF (Z q) x n < idxF (Z q) y n
            · rw [tt_of (show LikesOk n L Z q x y from ⟨h1, h2, h3, h4, h⟩)]; simpa using h
            · rw [tt_no (show ¬ LikesOk n L Z q x y from fun h' => h h'.2.2.2.2)]; simpa using h)
          obtain ⟨ba, oa, rfl, hca, hra⟩ := ha0 q hq
          rw [(h1.2 q hq).1] at hca hra
          have HR := Lib.hid hra
          have hcr : ∀ r : Later w, r.W.cell? ⟨ba, oa + q, none⟩ = some (.slice (A q) n (C q)) := fun r => later_cell hca r
          have IX := Lib.hid (show ∀ r : Later w, Calls Try.prog 98 #[.slice (A q) n (C q), .int .i64 x] r.W fun e w' => e = .returned (.int .i64 ix) ∧ Below r.W.heap.size r.W w' from fun r => by
            refine (l3At_any n (C q) (A q) (Z q) x _ (by omega) (HR.out.below (Nat.le_refl _) (Later.h _))).mono ?_
            rintro e w' ⟨rfl, rfl⟩
            exact ⟨by rw [hix, atL_has (wishes_has h1 hq h3)], Below.refl _ _⟩)
          have IY := Lib.hid (show ∀ r : Later w, Calls Try.prog 98 #[.slice (A q) n (C q), .int .i64 y] r.W fun e w' => e = .returned (.int .i64 iy) ∧ Below r.W.heap.size r.W w' from fun r => by
            refine (l3At_any n (C q) (A q) (Z q) y _ (by omega) (HR.out.below (Nat.le_refl _) (Later.h _))).mono ?_
            rintro e w' ⟨rfl, rfl⟩
            exact ⟨by rw [hiy, atL_has (wishes_has h1 hq h4)], Below.refl _ _⟩)
          clear h1 h2 h3 h4 hL0 hx1 hx2 hx3 hca hra hix hiy ha0
          go_enter Try.func48, Try.ntmps48
          go_wp2_with (first
            | (go_at_call 97; refine H.out.mono ?_; rintro e w' ⟨rfl, rfl⟩; rw [T1.out])
            | (go_at_call 92; refine (l6In_any _ _ _ _).mono ?_; rintro e w' ⟨rfl, rfl⟩; first | rw [T2.out] | rw [T3.out] | rw [T4.out]))
          refine wp_region_later (by kernel_rfl) (by kernel_rfl) ?_
          iterate 6 go_big_quiet_step ((go_at_call 98; exact calls_later _ (IX.out _)))
          clear IX
          repeat go_big_quiet_step ((go_at_call 98; exact calls_later _ (IY.out _)))
          refine wpQuiet_nil ?_
          rintro _ ⟨r, rfl⟩
          go_wp2
          go_ret
          exact ⟨by rw [← HE.out]; rfl, r.h⟩
        · have T4 := Lib.hid (tt_no h4)
          have TL := Lib.hid (tt_no (show ¬ LikesOk n L Z p x y from fun h => h4 h.2.2.2.1))
          clear h1 h2 h3 h4 hL0 ha0
          go_enter Try.func48, Try.ntmps48
          go_wp2_with (first
            | (go_at_call 97; refine H.out.mono ?_; rintro e w' ⟨rfl, rfl⟩; rw [T1.out])
            | (go_at_call 92; refine (l6In_any _ _ _ _).mono ?_; rintro e w' ⟨rfl, rfl⟩; first | rw [T2.out] | rw [T3.out] | rw [T4.out]))
          go_ret
          exact ⟨by rw [TL.out]; rfl, Below.refl _ _⟩
      · have T3 := Lib.hid (tt_no h3)
        have TL := Lib.hid (tt_no (show ¬ LikesOk n L Z p x y from fun h => h3 h.2.2.1))
        clear h1 h2 h3 hL0 ha0
        go_enter Try.func48, Try.ntmps48
        go_wp2_with (first
          | (go_at_call 97; refine H.out.mono ?_; rintro e w' ⟨rfl, rfl⟩; rw [T1.out])
          | (go_at_call 92; refine (l6In_any _ _ _ _).mono ?_; rintro e w' ⟨rfl, rfl⟩; first | rw [T2.out] | rw [T3.out]))
        go_ret
        exact ⟨by rw [TL.out]; rfl, Below.refl _ _⟩
    · have T2 := Lib.hid (tt_no h2)
      have TL := Lib.hid (tt_no (show ¬ LikesOk n L Z p x y from fun h => h2 h.2.1))
      clear h1 h2 hL0 ha0
      go_enter Try.func48, Try.ntmps48
      go_wp2_with (first
        | (go_at_call 97; refine H.out.mono ?_; rintro e w' ⟨rfl, rfl⟩; rw [T1.out])
        | (go_at_call 92; refine (l6In_any _ _ _ _).mono ?_; rintro e w' ⟨rfl, rfl⟩; first | rw [T2.out]))
      go_ret
      exact ⟨by rw [TL.out]; rfl, Below.refl _ _⟩
  · have T1 := Lib.hid (tt_no h1)
    have TL := Lib.hid (tt_no (show ¬ LikesOk n L Z p x y from fun h => h1 h.1))
    clear h1 hL0 ha0
    go_enter Try.func48, Try.ntmps48
    go_wp2_with (first
      | (go_at_call 97; refine H.out.mono ?_; rintro e w' ⟨rfl, rfl⟩; rw [T1.out]))
    go_ret
    exact ⟨by rw [TL.out]; rfl, Below.refl _ _⟩
end Go.Proofs.Ytmjbocgoinfamaa
