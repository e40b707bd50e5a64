/- Wishes and givings: the program's readers. -/
import Derived.Test.YtgjegpponchdaaaDoorMem
import Derived.Test.YtgjegpponchdaaaDoorAreDifferent
namespace Go.Proofs.YtgjegpponchdaaaDoor
set_option linter.unusedVariables false
set_option linter.unusedSimpArgs false
open Go.RowKit

/-- Wishes of n people: n lists of all houses. -/
def IsWishes (n : Nat) (L : Nat → Nat) (Z : Nat → Nat → Int) : Prop := (2 ≤ n ∧ n ≤ 5) ∧ ∀ i, i < n → L i = n ∧ IsDiff n n (Z i)
/-- A list of all numbers below n. -/
def IsEach (n m : Nat) (X : Nat → Int) : Prop := m = n ∧ IsDiff n n X
/-- As many people as there may be. -/
def People (n : Int) : Prop := 2 ≤ n ∧ n ≤ 5

theorem arePeople_any (n : Int) (w : World) : Calls Tryd.prog 64 #[.int .i64 n] w fun e w' => e = .returned (.bool (tt (People n))) ∧ w = w' := by
  by_cases h1 : 2 ≤ n
  · have hd : decide (2 ≤ n) = true := by simpa using h1
    have HE := Lib.hid (show decide (n ≤ 5) = tt (People n) by
      by_cases h : n ≤ 5
      · rw [tt_of (show People n from ⟨h1, h⟩)]; simpa using h
      · rw [tt_no (show ¬ People n from fun h' => h h'.2)]; simpa using h)
    go_enter Tryd.func64, Tryd.ntmps64
    go_wp2
    go_ret
    exact ⟨by rw [← HE.out]; rfl, rfl⟩
  · have hd : decide (2 ≤ n) = false := by simpa using h1
    have HE := Lib.hid (tt_no (show ¬ People n from fun h' => h1 h'.1))
    go_enter Tryd.func64, Tryd.ntmps64
    go_wp2
    go_ret
    exact ⟨by rw [HE.out]; rfl, rfl⟩

theorem hasEach_any (n m c : Nat) (a : Option Addr) (X : Nat → Int) (w : World) (hn : n ≤ 5) (hm : m ≤ 1048576) (ha : Rd w a m X) :
    Calls Tryd.prog 59 #[.int .i64 n, .slice a m c] w fun e w' => e = .returned (.bool (tt (IsEach n m X))) ∧ w = w' := by
  by_cases h1 : m = n
  · subst h1
    have HE := Lib.hid (tt_congr (show IsDiff m m X ↔ IsEach m m X from ⟨fun h => ⟨rfl, h⟩, fun h => h.2⟩))
    have HD := Lib.hid (areDifferent_any m m c a X w (by omega) hm ha)
    clear ha
    go_enter Tryd.func59, Tryd.ntmps59
    go_wp2_with (go_at_call 82; refine HD.out.mono ?_; rintro e w' ⟨rfl, rfl⟩; rw [HE.out])
    go_ret
    exact ⟨rfl, rfl⟩
  · have hd : ((m : Int) == (n : Int)) = false := by simp; omega
    have HE := Lib.hid (tt_no (show ¬ IsEach n m X from fun h => h1 h.1))
    clear ha
    go_enter Tryd.func59, Tryd.ntmps59
    go_wp2
    go_ret
    exact ⟨by rw [HE.out]; rfl, rfl⟩

/-- What readWishes hands back: the list itself, or nothing. -/
def RetWishes (ok : Bool) (a : Option Addr) (n c : Nat) (w : World) (e : Ending) (w' : World) : Prop :=
  e = .returned (.tuple #[if ok = true then .slice a n c else .slice none 0 0, .bool ok]) ∧ w = w'

set_option maxHeartbeats 800000 in
theorem readWishes_any (n c : Nat) (a : Option Addr) (A : Nat → Option Addr) (L C : Nat → Nat) (Z : Nat → Nat → Int) (w : World) (hn0 : n ≤ 1048576) (hL0 : ∀ r, r < n → L r ≤ 1048576) (ha0 : Tab w a n A L C Z) :
    Calls Tryd.prog 39 #[.slice a n c] w (RetWishes (tt (IsWishes n L Z)) a n c w) := by
  have HA := Lib.hid ha0
  have HL := Lib.hid hL0
  clear ha0 hL0
  by_cases hp : People n
  · have T1 := Lib.hid (tt_of hp)
    have hn5 : n ≤ 5 := by have := hp.2; omega
    have hn2 : 2 ≤ n := by have := hp.1; omega
    clear hp
    go_enter Tryd.func39, Tryd.ntmps39
    go_wp2_with (go_at_call 64; refine (arePeople_any _ _).mono ?_; rintro e w' ⟨rfl, rfl⟩; rw [T1.out])
    go_loop [2, 3, 6, 14] (fun _ _ _ i => ∃ k : Nat, k ≤ n ∧ i = .int .i64 k ∧ ∀ j, j < k → L j = n ∧ IsDiff n n (Z j)) (fun _ _ _ i => n - (intOf i).toNat)
    case atStart => exact ⟨0, Nat.zero_le _, rfl, fun j hj => absurd hj (Nat.not_lt_zero _)⟩
    case round =>
      obtain ⟨k, hk, rfl, hall⟩ := hrel
      have HAll := Lib.hid hall
      clear hall
      by_cases hlt : k < n
      · obtain ⟨ba, oa, rfl, hca, hra⟩ := HA.out k hlt
        have HRd := Lib.hid hra
        have hLk := HL.out k hlt
        clear hra
        by_cases he : IsEach n (L k) (Z k)
        · have T2 := Lib.hid (tt_of he)
          have HE := Lib.hid he
          clear he
          go_wp2_with (go_at_call 59; refine (hasEach_any n (L k) (C k) _ (Z k) _ hn5 hLk HRd.out).mono ?_; rintro e w' ⟨rfl, rfl⟩; rw [T2.out])
          go_round
          case rel => exact ⟨k + 1, by omega, by go_num, fun j hj => by
            by_cases e : j = k
            · subst e; exact HE.out
            · exact HAll.out j (by omega)⟩
          case measure => simp [intOf]; omega
        · have T2 := Lib.hid (tt_no he)
          have T3 := Lib.hid (tt_no (show ¬ IsWishes n L Z from fun h => he (h.2 k hlt)))
          clear he
          go_wp2_with (go_at_call 59; refine (hasEach_any n (L k) (C k) _ (Z k) _ hn5 hLk HRd.out).mono ?_; rintro e w' ⟨rfl, rfl⟩; rw [T2.out])
          go_ret2
          exact ⟨by rw [T3.out]; rfl, rfl⟩
      · obtain rfl : k = n := by omega
        have T3 := Lib.hid (tt_of (show IsWishes k L Z from ⟨⟨hn2, hn5⟩, HAll.out⟩))
        go_wp2
        go_ret2
        exact ⟨by rw [T3.out]; rfl, rfl⟩
  · have T1 := Lib.hid (tt_no hp)
    have T3 := Lib.hid (tt_no (show ¬ IsWishes n L Z from fun h => hp ⟨by have := h.1.1; omega, by have := h.1.2; omega⟩))
    clear hp
    go_enter Tryd.func39, Tryd.ntmps39
    go_wp2_with (go_at_call 64; refine (arePeople_any _ _).mono ?_; rintro e w' ⟨rfl, rfl⟩; rw [T1.out])
    go_ret2
    exact ⟨by rw [T3.out]; rfl, rfl⟩
end Go.Proofs.YtgjegpponchdaaaDoor
