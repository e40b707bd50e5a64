/- The library's slices.Compare and slices.SortFunc at rows of integers; the order of lists; a table that has been put in order. -/
import Derived.Test.YtgjegpponchdaaaDoorWishes
import Derived.Test.YtgjegpponchdaaaDoorProg
import Derived.Shelf.SlSortCmp.Whole1
import Derived.Test.YtgjegpponchdaaaDoorEndsModel
import Derived.Test.YtgjegpponchdaaaDoorLists
import Derived.Test.YtgjegpponchdaaaDoorBlockGiv
namespace Go.Proofs.YtgjegpponchdaaaDoor
set_option linter.unusedVariables false
set_option linter.unusedSimpArgs false
open Go.RowKit

/-- Two numbers are compared. -/
def cmpI (x y : Int) : Int := if x < y then -1 else if y < x then 1 else 0
/-- Two lists of n numbers are compared, from the place k on. -/
def cmpN (X Y : Nat → Int) : Nat → Nat → Int
  | _, 0 => 0
  | k, m + 1 => if X k = Y k then cmpN X Y (k + 1) m else cmpI (X k) (Y k)
theorem cmpI_ne {x y : Int} (h : x ≠ y) : cmpI x y ≠ 0 := by
  unfold cmpI
  by_cases h1 : x < y
  · rw [if_pos h1]; omega
  · rw [if_neg h1, if_pos (by omega)]; omega
theorem cmpI_range (x y : Int) : -1 ≤ cmpI x y ∧ cmpI x y ≤ 1 := by
  unfold cmpI
  by_cases h1 : x < y
  · rw [if_pos h1]; omega
  · rw [if_neg h1]
    by_cases h2 : y < x
    · rw [if_pos h2]; omega
    · rw [if_neg h2]; omega

theorem isNaN_any (x : Int) (w : World) : Calls Tryd.prog 99 #[.int .i64 x] w fun e w' => e = .returned (.bool false) ∧ w = w' := by
  have d1 : (x != x) = false := by simp
  go_enter Tryd.func99, Tryd.ntmps99
  go_wp2
  go_ret
  exact ⟨by first | rfl | simp, rfl⟩

set_option maxHeartbeats 400000 in
theorem cmpInt_any (x y : Int) (w : World) : Calls Tryd.prog 80 #[.int .i64 x, .int .i64 y] w fun e w' => e = .returned (.int .i64 (cmpI x y)) ∧ w = w' := by
  by_cases h1 : x < y
  · have d1 : decide (x < y) = true := by simpa using h1
    have HE := Lib.hid (show cmpI x y = -1 by unfold cmpI; rw [if_pos h1])
    clear h1
    go_enter Tryd.func80, Tryd.ntmps80
    go_wp2_with (go_at_call 99; refine (isNaN_any _ _).mono ?_; rintro e w' ⟨rfl, rfl⟩)
    go_ret
    exact ⟨by rw [HE.out]; rfl, rfl⟩
  · have d1 : decide (x < y) = false := by simpa using h1
    by_cases h2 : y < x
    · have d2 : decide (y < x) = true := by simpa using h2
      have HE := Lib.hid (show cmpI x y = 1 by unfold cmpI; rw [if_neg h1, if_pos h2])
      clear h1 h2
      go_enter Tryd.func80, Tryd.ntmps80
      go_wp2_with (go_at_call 99; refine (isNaN_any _ _).mono ?_; rintro e w' ⟨rfl, rfl⟩)
      go_ret
      exact ⟨by rw [HE.out]; rfl, rfl⟩
    · have d2 : decide (y < x) = false := by simpa using h2
      have HE := Lib.hid (show cmpI x y = 0 by unfold cmpI; rw [if_neg h1, if_neg h2])
      clear h1 h2
      go_enter Tryd.func80, Tryd.ntmps80
      go_wp2_with (go_at_call 99; refine (isNaN_any _ _).mono ?_; rintro e w' ⟨rfl, rfl⟩)
      go_ret
      exact ⟨by rw [HE.out]; rfl, rfl⟩

set_option maxHeartbeats 800000 in
theorem compare_any (n c d : Nat) (a b : Option Addr) (X Y : Nat → Int) (w : World) (hn : n ≤ 5) (ha : Rd w a n X) (hb : Rd w b n Y) :
    Calls Tryd.prog 53 #[.slice a n c, .slice b n d] w fun e w' => e = .returned (.int .i64 (cmpN X Y 0 n)) ∧ w = w' := by
  have HA := Lib.hid ha
  have HB := Lib.hid hb
  clear ha hb
  go_enter Tryd.func53, Tryd.ntmps53
  go_wp2
  go_loop [5, 6, 7, 8, 11] (fun _ _ _ _ s => ∃ k : Nat, k ≤ n ∧ s = .int .i64 k ∧ cmpN X Y 0 n = cmpN X Y k (n - k)) (fun _ _ _ _ s => n - (intOf s).toNat)
  case atStart => exact ⟨0, Nat.zero_le _, rfl, rfl⟩
  case round =>
    obtain ⟨k, hk, rfl, he⟩ := hrel
    by_cases hlt : k < n
    · obtain ⟨ba, oa, rfl, hca⟩ := HA.out k hlt
      obtain ⟨bb, ob, rfl, hcb⟩ := HB.out k hlt
      have e1 : cmpN X Y k (n - k) = if X k = Y k then cmpN X Y (k + 1) (n - (k + 1)) else cmpI (X k) (Y k) := by
        rw [show n - k = (n - (k + 1)) + 1 by omega]; rfl
      rw [e1] at he
      obtain ⟨x, hx⟩ : ∃ x, x = X k := ⟨_, rfl⟩
      obtain ⟨y, hy⟩ : ∃ y, y = Y k := ⟨_, rfl⟩
      rw [← hx] at hca he
      rw [← hy] at hcb he
      have dk : decide (n ≤ k) = false := by simp; omega
      have dk2 : decide ((n : Int) ≤ (k : Int)) = false := by simp; omega
      have k1 : (0 : Int) ≤ (k : Int) := by omega
      have k2 : (k : Int) < (n : Int) := by omega
      by_cases hxy : x = y
      · rw [if_pos hxy] at he
        have HE := Lib.hid he
        have HC := Lib.hid (show cmpI x y = 0 by rw [hxy]; unfold cmpI; simp)
        clear he hxy hx hy e1
        go_wp2_with (go_at_call 80; refine (cmpInt_any _ _ _).mono ?_; rintro e w' ⟨rfl, rfl⟩; rw [HC.out])
        go_round
        case rel => exact ⟨k + 1, by omega, by go_num, HE.out⟩
        case measure => simp [intOf]; omega
      · rw [if_neg hxy] at he
        have HE := Lib.hid he
        obtain ⟨z, hz⟩ : ∃ z, z = cmpI x y := ⟨_, rfl⟩
        have hz0 : z ≠ 0 := by rw [hz]; exact cmpI_ne hxy
        have d3 : (z != 0) = true := by simpa using hz0
        have HZ := Lib.hid hz
        clear he hxy hx hy e1 hz hz0
        go_wp2_with (go_at_call 80; refine (cmpInt_any _ _ _).mono ?_; rintro e w' ⟨rfl, rfl⟩; rw [← HZ.out])
        go_ret
        exact ⟨by rw [HE.out, ← HZ.out]; rfl, rfl⟩
    · obtain rfl : k = n := by omega
      have HE := Lib.hid (show cmpN X Y 0 k = 0 by rw [he, Nat.sub_self]; rfl)
      have dk : decide (k < k) = false := by simp
      clear he
      go_wp2
      go_ret
      exact ⟨by rw [HE.out]; rfl, rfl⟩
def sortL_ren : Go.Shelf.Ren := ⟨fun | 6 => 52 | 15 => 79 | 14 => 78 | 28 => 97 | 29 => 98 | 20 => 89 | 21 => 90 | 22 => 91 | 23 => 92 | 24 => 93 | 25 => 94 | 26 => 95 | 27 => 96 | 46 => 104 | 47 => 105 | 48 => 106 | 49 => 107 | 50 => 108 | 57 => 112 | n => n, fun | 22 => 22 | 24 => 23 | 25 => 68 | 3 => 3 | 39 => 95 | 0 => 0 | 53 => 111 | 55 => 113 | 4 => 4 | 46 => 105 | 45 => 104 | 50 => 38 | 5 => 5 | 9 => 9 | 66 => 114 | 70 => 118 | 76 => 120 | 77 => 121 | n => n, fun | n => n⟩
theorem sortL : SlLaysF.n6 Tryd.prog sortL_ren := {
  mixed := by kernel_rfl,
  f6 := ⟨Tryd.f52.name, by decide, Tryd.func52.trans (congrArg some (by kernel_rfl))⟩,
  f14 := ⟨Tryd.f78.name, by decide, Tryd.func78.trans (congrArg some (by kernel_rfl))⟩,
  f15 := Tryd.func79.trans (congrArg some (by kernel_rfl)),
  f20 := ⟨Tryd.f89.name, by decide, Tryd.func89.trans (congrArg some (by kernel_rfl))⟩,
  f21 := ⟨Tryd.f90.name, by decide, Tryd.func90.trans (congrArg some (by kernel_rfl))⟩,
  f22 := ⟨Tryd.f91.name, by decide, Tryd.func91.trans (congrArg some (by kernel_rfl))⟩,
  f23 := ⟨Tryd.f92.name, by decide, Tryd.func92.trans (congrArg some (by kernel_rfl))⟩,
  f24 := ⟨Tryd.f93.name, by decide, Tryd.func93.trans (congrArg some (by kernel_rfl))⟩,
  f25 := ⟨Tryd.f94.name, by decide, Tryd.func94.trans (congrArg some (by kernel_rfl))⟩,
  f26 := ⟨Tryd.f95.name, by decide, Tryd.func95.trans (congrArg some (by kernel_rfl))⟩,
  f27 := ⟨Tryd.f96.name, by decide, Tryd.func96.trans (congrArg some (by kernel_rfl))⟩,
  f28 := Tryd.func97.trans (congrArg some (by kernel_rfl)),
  f29 := Tryd.func98.trans (congrArg some (by kernel_rfl)),
  f46 := ⟨Tryd.f104.name, by decide, Tryd.func104.trans (congrArg some (by kernel_rfl))⟩,
  f47 := Tryd.func105.trans (congrArg some (by kernel_rfl)),
  f48 := Tryd.func106.trans (congrArg some (by kernel_rfl)),
  f49 := ⟨Tryd.f107.name, by decide, Tryd.func107.trans (congrArg some (by kernel_rfl))⟩,
  f50 := ⟨Tryd.f108.name, by decide, Tryd.func108.trans (congrArg some (by kernel_rfl))⟩,
  f57 := ⟨Tryd.f112.name, by decide, Tryd.func112.trans (congrArg some (by kernel_rfl))⟩,
  t0 := Tryd.underlying0,
  a0 := Tryd.isAgg0,
  z0 := Tryd.sizeOf0,
  v0 := Tryd.zeroValue0,
  t3 := Tryd.underlying3,
  a3 := Tryd.isAgg3,
  z3 := Tryd.sizeOf3,
  v3 := Tryd.zeroValue3,
  t4 := Tryd.underlying4,
  a4 := Tryd.isAgg4,
  z4 := Tryd.sizeOf4,
  v4 := Tryd.zeroValue4,
  t5 := Tryd.underlying5,
  a5 := Tryd.isAgg5,
  z5 := Tryd.sizeOf5,
  v5 := Tryd.zeroValue5,
  t9 := Tryd.underlying9,
  a9 := Tryd.isAgg9,
  z9 := Tryd.sizeOf9,
  v9 := Tryd.zeroValue9,
  t22 := Tryd.underlying22,
  a22 := Tryd.isAgg22,
  z22 := Tryd.sizeOf22,
  v22 := Tryd.zeroValue22,
  a24 := Tryd.isAgg23,
  z24 := Tryd.sizeOf23,
  t25 := Tryd.underlying68,
  a25 := Tryd.isAgg68,
  z25 := Tryd.sizeOf68,
  v25 := Tryd.zeroValue68,
  t39 := Tryd.underlying95,
  a39 := Tryd.isAgg95,
  z39 := Tryd.sizeOf95,
  v39 := Tryd.zeroValue95,
  t45 := Tryd.underlying104,
  a45 := Tryd.isAgg104,
  z45 := Tryd.sizeOf104,
  v45 := Tryd.zeroValue104,
  t46 := Tryd.underlying105,
  a46 := Tryd.isAgg105,
  z46 := Tryd.sizeOf105,
  v46 := Tryd.zeroValue105,
  t50 := Tryd.underlying38,
  a50 := Tryd.isAgg38,
  z50 := Tryd.sizeOf38,
  v50 := Tryd.zeroValue38,
  t53 := Tryd.underlying111,
  a53 := Tryd.isAgg111,
  z53 := Tryd.sizeOf111,
  v53 := Tryd.zeroValue111,
  t55 := Tryd.underlying113,
  a55 := Tryd.isAgg113,
  z55 := Tryd.sizeOf113,
  v55 := Tryd.zeroValue113,
  t66 := Tryd.underlying114,
  a66 := Tryd.isAgg114,
  z66 := Tryd.sizeOf114,
  v66 := Tryd.zeroValue114,
  t70 := Tryd.underlying118,
  a70 := Tryd.isAgg118,
  z70 := Tryd.sizeOf118,
  v70 := Tryd.zeroValue118,
  t76 := Tryd.underlying120,
  a76 := Tryd.isAgg120,
  z76 := Tryd.sizeOf120,
  v76 := Tryd.zeroValue120,
  t77 := Tryd.underlying121,
  a77 := Tryd.isAgg121,
  z77 := Tryd.sizeOf121,
  v77 := Tryd.zeroValue121 }
open Go.Sort (SWO PermIn SortedIn Holds putRow putCells grow)

theorem cmpN_self {X : Nat → Int} : ∀ (m k : Nat), cmpN X X k m = 0
  | 0, k => rfl
  | m + 1, k => by
    show (if X k = X k then cmpN X X (k + 1) m else _) = 0
    rw [if_pos rfl]; exact cmpN_self m (k + 1)
theorem cmpI_anti (x y : Int) : cmpI y x = - cmpI x y := by
  unfold cmpI
  by_cases h1 : x < y
  · rw [if_neg (by omega), if_pos h1, if_pos h1]; rfl
  · rw [if_neg h1]
    by_cases h2 : y < x
    · rw [if_pos h2, if_neg h1, if_pos h2]
    · rw [if_neg h2, if_neg h1, if_neg h2]; rfl
theorem cmpI_lt {x y : Int} : cmpI x y < 0 ↔ x < y := by
  unfold cmpI
  by_cases h1 : x < y
  · simp [h1]
  · rw [if_neg h1]
    by_cases h2 : y < x
    · rw [if_pos h2]; simp [h1]
    · rw [if_neg h2]; simp [h1]
theorem cmpN_anti {X Y : Nat → Int} : ∀ (m k : Nat), cmpN Y X k m = - cmpN X Y k m
  | 0, k => rfl
  | m + 1, k => by
    show (if Y k = X k then cmpN Y X (k + 1) m else cmpI (Y k) (X k)) = - (if X k = Y k then cmpN X Y (k + 1) m else cmpI (X k) (Y k))
    by_cases e : X k = Y k
    · rw [if_pos e, if_pos e.symm]; exact cmpN_anti m (k + 1)
    · rw [if_neg e, if_neg (fun h => e h.symm)]; exact cmpI_anti _ _
theorem cmpN_trans {X Y Z : Nat → Int} : ∀ (m k : Nat), cmpN X Y k m < 0 → cmpN Y Z k m < 0 → cmpN X Z k m < 0
  | 0, k, h, _ => h
  | m + 1, k, h1, h2 => by
    have h1' : (if X k = Y k then cmpN X Y (k + 1) m else cmpI (X k) (Y k)) < 0 := h1
    have h2' : (if Y k = Z k then cmpN Y Z (k + 1) m else cmpI (Y k) (Z k)) < 0 := h2
    show (if X k = Z k then cmpN X Z (k + 1) m else cmpI (X k) (Z k)) < 0
    by_cases e1 : X k = Y k
    · rw [if_pos e1] at h1'
      by_cases e2 : Y k = Z k
      · rw [if_pos e2] at h2'
        rw [if_pos (e1.trans e2)]
        exact cmpN_trans m (k + 1) h1' h2'
      · rw [if_neg e2] at h2'
        rw [if_neg (fun h => e2 (e1.symm.trans h)), e1]
        exact h2'
    · rw [if_neg e1] at h1'
      have a1 := cmpI_lt.1 h1'
      by_cases e2 : Y k = Z k
      · rw [if_neg (fun h => e1 (h.trans e2.symm)), ← e2]; exact h1'
      · rw [if_neg e2] at h2'
        have a2 := cmpI_lt.1 h2'
        rw [if_neg (by omega)]
        exact cmpI_lt.2 (by omega)
theorem cmpN_ntrans {X Y Z : Nat → Int} : ∀ (m k : Nat), ¬ cmpN X Y k m < 0 → ¬ cmpN Y Z k m < 0 → ¬ cmpN X Z k m < 0
  | 0, k, h, _ => h
  | m + 1, k, h1, h2 => by
    have h1' : ¬ (if X k = Y k then cmpN X Y (k + 1) m else cmpI (X k) (Y k)) < 0 := h1
    have h2' : ¬ (if Y k = Z k then cmpN Y Z (k + 1) m else cmpI (Y k) (Z k)) < 0 := h2
    show ¬ (if X k = Z k then cmpN X Z (k + 1) m else cmpI (X k) (Z k)) < 0
    by_cases e1 : X k = Y k
    · rw [if_pos e1] at h1'
      by_cases e2 : Y k = Z k
      · rw [if_pos e2] at h2'
        rw [if_pos (e1.trans e2)]
        exact cmpN_ntrans m (k + 1) h1' h2'
      · rw [if_neg e2] at h2'
        rw [if_neg (fun h => e2 (e1.symm.trans h)), e1]
        exact h2'
    · rw [if_neg e1, cmpI_lt] at h1'
      by_cases e2 : Y k = Z k
      · rw [if_neg (fun h => e1 (h.trans e2.symm)), ← e2, cmpI_lt]; exact h1'
      · rw [if_neg e2, cmpI_lt] at h2'
        rw [if_neg (by omega), cmpI_lt]
        omega
theorem cmpN_zero {X Y : Nat → Int} : ∀ (m k : Nat), cmpN X Y k m = 0 → ∀ j, j < m → X (k + j) = Y (k + j)
  | 0, k, _, j, hj => absurd hj (Nat.not_lt_zero _)
  | m + 1, k, h, j, hj => by
    have h' : (if X k = Y k then cmpN X Y (k + 1) m else cmpI (X k) (Y k)) = 0 := h
    by_cases e : X k = Y k
    · rw [if_pos e] at h'
      by_cases e0 : j = 0
      · subst e0; exact e
      · have := cmpN_zero m (k + 1) h' (j - 1) (by omega)
        rw [show k + 1 + (j - 1) = k + j by omega] at this
        exact this
    · rw [if_neg e] at h'
      exact absurd h' (cmpI_ne e)
theorem cmpN_first {X Y : Nat → Int} : ∀ (j m k : Nat), j < m → (∀ i, i < j → X (k + i) = Y (k + i)) → X (k + j) < Y (k + j) → cmpN X Y k m < 0
  | 0, m + 1, k, _, _, h => by
    show (if X k = Y k then cmpN X Y (k + 1) m else cmpI (X k) (Y k)) < 0
    have h' : X k < Y k := h
    rw [if_neg (by omega)]
    exact cmpI_lt.2 h'
  | j + 1, m + 1, k, hj, he, h => by
    show (if X k = Y k then cmpN X Y (k + 1) m else cmpI (X k) (Y k)) < 0
    rw [if_pos (show X k = Y k from he 0 (by omega))]
    refine cmpN_first j m (k + 1) (by omega) (fun i hi => ?_) ?_
    · have := he (i + 1) (by omega)
      rw [show k + 1 + i = k + (i + 1) by omega]; exact this
    · rw [show k + 1 + j = k + (j + 1) by omega]; exact h

theorem fewer : ∀ {A B : List (List Int)}, A.Nodup → (∀ x, x ∈ A → x ∈ B) → A.length ≤ B.length
  | [], _, _, _ => Nat.zero_le _
  | a :: A, B, h, hs => by
    rw [List.nodup_cons] at h
    have ha := hs a (by simp)
    have h1 : A.length ≤ (B.erase a).length := fewer h.2 (fun x hx => (List.mem_erase_of_ne (fun e => h.1 (by rw [← e]; exact hx))).2 (hs x (by simp [hx])))
    rw [List.length_erase_of_mem ha] at h1
    have h2 := List.length_pos_of_mem ha
    simp only [List.length_cons]
    omega
/-- One list stands ahead of another one. -/
def Bef (n : Nat) (X Y : List Int) : Prop := cmpN (nth X) (nth Y) 0 n < 0
theorem givs_pre {n : Nat} : ∀ (f : Nat) (B D : List Int), D ∈ givs n f B → B <+: D
  | 0, B, D, h => by
    unfold givs at h
    rw [List.mem_singleton] at h
    subst h; exact List.prefix_refl _
  | f + 1, B, D, h => by
    unfold givs at h
    rw [List.mem_flatMap] at h
    obtain ⟨x, _, h⟩ := h
    by_cases e : (x : Int) ∈ B
    · rw [if_pos e] at h; cases h
    · rw [if_neg e] at h
      exact (List.prefix_append _ _).trans (givs_pre f _ D h)
/-- The givings stand in the order of lists. -/
theorem givs_sorted {n : Nat} : ∀ (f : Nat) (B : List Int), B.length + f = n → (givs n f B).Pairwise (Bef n)
  | 0, B, _ => by unfold givs; exact List.pairwise_singleton _ _
  | f + 1, B, hl => by
    unfold givs
    rw [List.pairwise_flatMap]
    refine ⟨fun x hx => ?_, ?_⟩
    · by_cases e : (x : Int) ∈ B
      · rw [if_pos e]; exact List.Pairwise.nil
      · rw [if_neg e]; exact givs_sorted f _ (by rw [List.length_append]; simp; omega)
    · refine (List.pairwise_lt_range (n := n)).imp fun {x y} hxy X hX Y hY => ?_
      by_cases e1 : (x : Int) ∈ B
      · rw [if_pos e1] at hX; cases hX
      by_cases e2 : (y : Int) ∈ B
      · rw [if_pos e2] at hY; cases hY
      rw [if_neg e1] at hX
      rw [if_neg e2] at hY
      have p1 := givs_pre f _ X hX
      have p2 := givs_pre f _ Y hY
      refine cmpN_first B.length n 0 (by omega) (fun i hi => ?_) ?_
      · rw [Nat.zero_add, nth_pre ((List.prefix_append _ _).trans p1) hi, nth_pre ((List.prefix_append _ _).trans p2) hi]
      · rw [Nat.zero_add, nth_pre p1 (by simp), nth_pre p2 (by simp)]
        have a1 : nth (B ++ [(x : Int)]) B.length = x := by unfold nth; simp
        have a2 : nth (B ++ [(y : Int)]) B.length = y := by unfold nth; simp
        rw [a1, a2]; omega
/-- What has the same givings in order is the same list. -/
theorem ends_unique {n : Nat} {P : List Int → Bool} {LL : List (List Int)} (hnd : LL.Nodup) (hm : ∀ X, X ∈ LL ↔ X ∈ (givs n n []).filter P) (hs : LL.Pairwise fun X Y => ¬ Bef n Y X) : LL = (givs n n []).filter P := by
  have hg : ∀ X, X ∈ (givs n n []).filter P → X.length = n := fun X hX => ((mem_givs n [] (Diff.nil n) (by simp) X).1 (List.mem_filter.1 hX).1).2.1
  refine List.Perm.eq_of_pairwise (le := fun X Y => ¬ Bef n Y X) (fun X Y hX hY h1 h2 => ?_) hs ?_ ?_
  · have l1 := hg X ((hm X).1 hX)
    have l2 := hg Y hY
    have h1' : ¬ cmpN (nth Y) (nth X) 0 n < 0 := h1
    have h2' : ¬ cmpN (nth X) (nth Y) 0 n < 0 := h2
    have h3 := cmpN_anti (X := nth X) (Y := nth Y) n 0
    have h0 := cmpN_zero n 0 (show cmpN (nth X) (nth Y) 0 n = 0 by omega)
    refine List.ext_getElem (by omega) fun i i1 i2 => ?_
    have := h0 i (by omega)
    rw [Nat.zero_add] at this
    unfold nth at this
    rw [List.getD_eq_getElem?_getD, List.getD_eq_getElem?_getD, List.getElem?_eq_getElem i1, List.getElem?_eq_getElem i2] at this
    exact this
  · refine ((givs_sorted n [] (by simp)).filter P).imp fun {X Y} h h' => ?_
    have := cmpN_trans n 0 h h'
    rw [cmpN_self] at this
    omega
  · exact (List.perm_ext_iff_of_nodup hnd ((givs_nodup n [] (Diff.nil n) (by simp)).filter P)).2 hm

theorem ends_small (n : Nat) (L : Nat → Nat) (Z : Nat → Nat → Int) : (endsAll n L Z).length ≤ 1048576 ∧ tot (lenL (endsAll n L Z)) (endsAll n L Z).length ≤ 1048576 := by
  by_cases h : IsWishes n L Z
  · rw [endsAll_yes h]
    have := some_small h (fun D => tt (EndP n Z D))
    exact ⟨Nat.le_trans this.1 (by omega), this.2⟩
  · rw [endsAll_no h]; exact ⟨by simp, by simp [tot]⟩

section
variable {M n : Nat} {LL : List (List Int)} {G Cp : Nat → Nat}
/-- A row of the table, as the sort sees it. -/
def encR (M : Nat) (L G Cp : Nat → Nat) (r : Nat) : Value := .slice (some ⟨G (if r < M then r else 0), 0, none⟩) (L (if r < M then r else 0)) (Cp (if r < M then r else 0))
/-- How the sort compares two rows. -/
def cmpR (M n : Nat) (LL : List (List Int)) (r s : Nat) : Int := cmpN (nthL LL (if r < M then r else 0)) (nthL LL (if s < M then s else 0)) 0 n
theorem encR_one (M : Nat) (L G Cp : Nat → Nat) : OneCell (encR M L G Cp) := fun r => rfl
theorem cmpR_swo (M n : Nat) (LL : List (List Int)) : SWO (ltOf (cmpR M n LL)) := by
  refine ⟨fun x => ?_, fun x y z h1 h2 => ?_, fun x y z h1 h2 => ?_⟩
  · simp only [ltOf, cmpR, cmpN_self, decide_eq_false_iff_not]; omega
  · simp only [ltOf, decide_eq_true_eq] at h1 h2 ⊢
    exact cmpN_trans n 0 h1 h2
  · simp only [ltOf, decide_eq_false_iff_not] at h1 h2 ⊢
    exact cmpN_ntrans n 0 h1 h2

/-- The rows as the sort has put them. -/
def sortedLL (LL : List (List Int)) (d : Array Nat) : List (List Int) := d.toList.map fun r => LL.getD r []
theorem sorted_size {d : Array Nat} (hP : PermIn 0 M (List.range M).toArray d) : d.size = M := by have := hP.1; simpa using this
theorem sorted_perm {d : Array Nat} (hP : PermIn 0 M (List.range M).toArray d) : d.toList.Perm (List.range M) := by
  have h := hP.2.2
  have e1 : d.extract 0 M = d := by rw [← sorted_size hP]; exact Array.extract_size
  have e2 : ((List.range M).toArray).extract 0 M = (List.range M).toArray := by
    have := Array.extract_size (xs := (List.range M).toArray)
    simp
  rw [e1, e2] at h
  exact h
theorem sorted_lt {d : Array Nat} (hP : PermIn 0 M (List.range M).toArray d) {r : Nat} (hr : r < M) : d[r]! < M := by
  have hs := sorted_size hP
  have hm : d[r]! ∈ d.toList := by
    rw [getElem!_pos d r (by omega)]
    exact Array.getElem_mem_toList _
  exact List.mem_range.1 ((sorted_perm hP).mem_iff.1 hm)
theorem sorted_inj {d : Array Nat} (hP : PermIn 0 M (List.range M).toArray d) {r s : Nat} (hr : r < M) (hs : s < M) (h : d[r]! = d[s]!) : r = s := by
  have hz := sorted_size hP
  have hn : d.toList.Nodup := (sorted_perm hP).nodup_iff.2 List.nodup_range
  rw [getElem!_pos d r (by omega), getElem!_pos d s (by omega)] at h
  have h' : d.toList[r]'(by simp; omega) = d.toList[s]'(by simp; omega) := by simpa using h
  unfold List.Nodup at hn
  rw [List.pairwise_iff_getElem] at hn
  rcases Nat.lt_trichotomy r s with e | e | e
  · exact absurd h' (hn r s _ _ e)
  · exact e
  · exact absurd h'.symm (hn s r _ _ e)
theorem sortedLL_perm (hM : LL.length = M) {d : Array Nat} (hP : PermIn 0 M (List.range M).toArray d) : (sortedLL LL d).Perm LL := by
  refine ((sorted_perm hP).map _).trans ?_
  have e : (List.range M).map (fun r => LL.getD r []) = LL := by
    refine List.ext_getElem (by simp [hM]) fun i i1 i2 => ?_
    simp [List.getD_eq_getElem?_getD, i2]
  rw [e]
theorem sortedLL_at (hM : LL.length = M) {d : Array Nat} (hP : PermIn 0 M (List.range M).toArray d) {r : Nat} (hr : r < M) : (sortedLL LL d).getD r [] = LL.getD d[r]! [] := by
  have hz := sorted_size hP
  unfold sortedLL
  rw [List.getD_eq_getElem?_getD, List.getElem?_map]
  rw [List.getElem?_eq_getElem (by simpa using (by omega : r < d.size))]
  simp [getElem!_pos d r (by omega)]
theorem sortedLL_asc (hM : LL.length = M) {d : Array Nat} (hP : PermIn 0 M (List.range M).toArray d) (hS : SortedIn (ltOf (cmpR M n LL)) 0 M d) : (sortedLL LL d).Pairwise fun X Y => ¬ Bef n Y X := by
  have hz := sorted_size hP
  rw [List.pairwise_iff_getElem]
  intro i j hi hj hij h
  have hl : (sortedLL LL d).length = M := by unfold sortedLL; simp [hz]
  have h1 := hS i j (Nat.zero_le _) hij (by omega)
  have a1 := sortedLL_at hM hP (r := i) (by omega)
  have a2 := sortedLL_at hM hP (r := j) (by omega)
  rw [List.getD_eq_getElem?_getD, List.getElem?_eq_getElem hi] at a1
  rw [List.getD_eq_getElem?_getD, List.getElem?_eq_getElem hj] at a2
  simp only [Option.getD_some] at a1 a2
  rw [a1, a2] at h
  simp only [ltOf, cmpR, decide_eq_false_iff_not, if_pos (sorted_lt hP (r := i) (by omega)), if_pos (sorted_lt hP (r := j) (by omega))] at h1
  exact h1 h
end

section
variable {tS B M g cap : Nat} {w : World} {G Cp : Nat → Nat} {LL : List (List Int)}
theorem making_holds (h : Making tS B w (.slice (some ⟨g, 0, none⟩) M cap) M G Cp (lenL LL) (nthL LL)) : Holds (encR M (lenL LL) G Cp) w g 0 (List.range M).toArray := by
  intro j hj
  have hj' : j < M := by simpa using hj
  have h1 := h.1.cells (g := g) rfl j (.slice (some ⟨G j, 0, none⟩) (lenL LL j) (Cp j)) (by simp [hj'])
  rw [Go.WideShapes.add_plain] at h1
  refine ⟨?_, h.1.frozenAt _⟩
  rw [h1]
  unfold encR
  simp [hj']
theorem sort_heap {α : Type} [Inhabited α] {enc : α → Value} {n : Nat} {os : Array Obj} {cur : Array Value} {e : TypeId} {fr : Nat × Nat} (d : Array α) (hb : w.heap[g]? = some (.cells cur e fr)) :
    (sortWorld enc w g 0 n d os).heap[g]? = some (.cells (putCells enc 0 d cur) e fr) := by
  have hg : g < w.heap.size := (Array.getElem?_eq_some_iff.1 hb).1
  unfold sortWorld
  rw [Go.Sort.heap_grow_old _ _ (by simpa using hg)]
  simp [putRow, Go.Sort.mapBlock, Go.Sort.ahead, Array.getElem?_modify, hb, Go.Sort.onCells]
theorem sort_grown {α : Type} [Inhabited α] {enc : α → Value} {n : Nat} {os : Array Obj} (d : Array α) : w.grownBy (sortWorld enc w g 0 n d os) (some g) := by
  refine ⟨rfl, rfl, rfl, by simp [sortWorld], fun k hk hne => ?_⟩
  unfold sortWorld
  rw [Go.Sort.heap_grow_old _ _ (by simpa using hk)]
  have : g ≠ k := fun e => hne (by rw [e])
  simp [putRow, Go.Sort.mapBlock, Go.Sort.ahead, Array.getElem?_modify, this]
theorem sort_take {α : Type} [Inhabited α] {enc : α → Value} (cur : Array Value) (d : Array α) (h : d.size ≤ cur.size) : (putCells enc 0 d cur).toList.take d.size = d.toList.map enc := by
  apply List.ext_getElem?
  intro j
  by_cases hj : j < d.size
  · rw [List.getElem?_take_of_lt hj, Array.getElem?_toList]
    simp [putCells, hj, show j < cur.size by omega]
  · rw [List.getElem?_take_eq_none (by omega), List.getElem?_eq_none (by simp; omega)]
/-- Behind the sort the table holds its rows in order. -/
theorem Making.sorted {n : Nat} {os : Array Obj} {d : Array Nat} (hM : LL.length = M) (h : Making tS B w (.slice (some ⟨g, 0, none⟩) M cap) M G Cp (lenL LL) (nthL LL)) (hP : PermIn 0 M (List.range M).toArray d) :
    Making tS B (sortWorld (encR M (lenL LL) G Cp) w g 0 n d os) (.slice (some ⟨g, 0, none⟩) M cap) M (fun r => G d[r]!) (fun r => Cp d[r]!) (lenL (sortedLL LL d)) (nthL (sortedLL LL d)) := by
  have hg := sort_grown (w := w) (g := g) (enc := encR M (lenL LL) G Cp) (n := n) (os := os) d
  have hz := sorted_size hP
  obtain ⟨h1, h2, h3⟩ := h
  refine ⟨?_, fun r hr => ?_, fun r s hr hs hrs e => ?_⟩
  · refine ⟨by simp, ?_⟩
    rcases h1.2 with ⟨hv, _⟩ | ⟨g', cap', cur, hv, k1, k2, k3, k4, k5, k6⟩
    · cases hv
    · cases hv
      refine .inr ⟨g, cap, _, rfl, k1, sort_heap d k2, k3, k4, by simp [putCells, k5], ?_⟩
      rw [Nat.mul_one]
      have := sort_take (enc := encR M (lenL LL) G Cp) cur d (by omega)
      rw [hz] at this
      rw [this]
      refine List.ext_getElem (by simp [hz]) fun i i1 i2 => ?_
      have hi : i < M := by simpa [hz] using i1
      have hd := sorted_lt hP hi
      have hat := sortedLL_at hM hP hi
      simp only [List.getElem_map, List.getElem_range]
      have e1 : d.toList[i]'(by simpa using i1) = d[i]! := by rw [getElem!_pos d i (by omega)]; simp
      rw [e1]
      unfold encR
      rw [if_pos hd]
      have e2 : lenL (sortedLL LL d) i = lenL LL d[i]! := by unfold lenL; rw [hat]
      rw [e2]
  · have hd := sorted_lt hP hr
    have hat := sortedLL_at hM hP hr
    obtain ⟨k1, k2, k3, k4⟩ := h2 _ hd
    have e2 : lenL (sortedLL LL d) r = lenL LL d[r]! := by unfold lenL; rw [hat]
    have e3 : nthL (sortedLL LL d) r = nthL LL d[r]! := by funext k; unfold nthL; rw [hat]
    rw [e2, e3]
    exact ⟨k1, Nat.lt_of_lt_of_le k2 hg.size, k3, k4.of_block (hg.block _ k2 (fun h => k3 h.symm))⟩
  · exact h3 _ _ (sorted_lt hP hr) (sorted_lt hP hs) (fun e' => hrs (sorted_inj hP hr hs e')) e
end
end Go.Proofs.YtgjegpponchdaaaDoor
