/- The program's arePeople and hasEach. -/
import Derived.Test.YtnaegnjgpnakfaaDoorMem
import Derived.Test.YtnaegnjgpnakfaaDoorAreDifferent
namespace Go.Proofs.YtnaegnjgpnakfaaDoor
set_option linter.unusedVariables false
set_option linter.unusedSimpArgs false
open Go.RowKit

/-- Wishes of n people: n lists of all houses. -/
def IsWishes (n : Nat) (L : Nat → Nat) (Z : Nat → Nat → Int) : Prop := (2 ≤ n ∧ n ≤ 5) ∧ ∀ i, i < n → L i = n ∧ IsDiff n n (Z i)
/-- A list of all numbers below n. -/
def IsEach (n m : Nat) (X : Nat → Int) : Prop := m = n ∧ IsDiff n n X
/-- As many people as there may be. -/
def People (n : Int) : Prop := 2 ≤ n ∧ n ≤ 5

theorem arePeople_any (n : Int) (w : World) : Calls Tryd.prog 52 #[.int .i64 n] w fun e w' => e = .returned (.bool (tt (People n))) ∧ w = w' := by
  by_cases h1 : 2 ≤ n
  · have hd : decide (2 ≤ n) = true := by simpa using h1
    have HE := Lib.hid (show decide (n ≤ 5) = tt (People n) by
      by_cases h : n ≤ 5
      · rw [tt_of (show People n from ⟨h1, h⟩)]; simpa using h
      · rw [tt_no (show ¬ People n from fun h' => h h'.2)]; simpa using h)
    go_enter Tryd.func52, Tryd.ntmps52
    go_wp2
    go_ret
    exact ⟨by rw [← HE.out]; rfl, rfl⟩
  · have hd : decide (2 ≤ n) = false := by simpa using h1
    have HE := Lib.hid (tt_no (show ¬ People n from fun h' => h1 h'.1))
    go_enter Tryd.func52, Tryd.ntmps52
    go_wp2
    go_ret
    exact ⟨by rw [HE.out]; rfl, rfl⟩

theorem hasEach_any (n m c : Nat) (a : Option Addr) (X : Nat → Int) (w : World) (hn : n ≤ 5) (hm : m ≤ 1048576) (ha : Rd w a m X) :
    Calls Tryd.prog 53 #[.int .i64 n, .slice a m c] w fun e w' => e = .returned (.bool (tt (IsEach n m X))) ∧ w = w' := by
  by_cases h1 : m = n
  · subst h1
    have HE := Lib.hid (tt_congr (show IsDiff m m X ↔ IsEach m m X from ⟨fun h => ⟨rfl, h⟩, fun h => h.2⟩))
    have HD := Lib.hid (areDifferent_any m m c a X w (by omega) hm ha)
    clear ha
    go_enter Tryd.func53, Tryd.ntmps53
    go_wp2_with (go_at_call 67; refine HD.out.mono ?_; rintro e w' ⟨rfl, rfl⟩; rw [HE.out])
    go_ret
    exact ⟨rfl, rfl⟩
  · have hd : ((m : Int) == (n : Int)) = false := by simp; omega
    have HE := Lib.hid (tt_no (show ¬ IsEach n m X from fun h => h1 h.1))
    clear ha
    go_enter Tryd.func53, Tryd.ntmps53
    go_wp2
    go_ret
    exact ⟨by rw [HE.out]; rfl, rfl⟩

end Go.Proofs.YtnaegnjgpnakfaaDoor
