/- The model's HouseGiving. -/
import Derived.Test.YtgjegpponchdaaaDoorGivingModel
import Derived.Test.YtgjegpponchdaaaDoorL1Every
namespace Go.Proofs.YtgjegpponchdaaaDoor
set_option linter.unusedVariables false
set_option linter.unusedSimpArgs false
open Go.RowKit

theorem specGiving_any (x : Int) (m d : Nat) (b : Option Addr) (X : Nat → Int) (w : World) (hx0 : I64 x) (hm1 : m ≤ 1048576) (hb1 : Rd w b m X) :
    Calls Tryd.prog 56 #[.int .i64 x, .slice b m d] w fun e w' => e = .returned (.bool (tt (GivingOk x m X))) ∧ w = w' := by
  by_cases hp : InR x 2 5
  · have T1 := Lib.hid (tt_of hp)
    by_cases hm : (m : Int) = x
    · have hd : ((m : Int) == x) = true := by simpa using hm
      have hm61 : m ≤ 61 := by have := hp.2; omega
      have HE := Lib.hid (tt_congr (show IsDiff m m X ↔ GivingOk x m X from ⟨fun h => ⟨hp, hm, h⟩, fun h => h.2.2⟩))
      have H := Lib.hid (l1Every_any m d b X w hm61 hb1)
      clear hp hb1 hm
      go_enter Tryd.func56, Tryd.ntmps56
      go_wp2_with (first
        | (go_at_call 63; refine (l6In_any _ _ _ _).mono ?_; rintro e w' ⟨rfl, rfl⟩; rw [T1.out])
        | (go_at_call 62; refine H.out.mono ?_; rintro e w' ⟨rfl, rfl⟩; rw [HE.out]))
      go_ret
      exact ⟨rfl, rfl⟩
    · have hd : ((m : Int) == x) = false := by simpa using hm
      have T2 := Lib.hid (tt_no (show ¬ GivingOk x m X from fun h => hm h.2.1))
      clear hp hb1 hm
      go_enter Tryd.func56, Tryd.ntmps56
      go_wp2_with (go_at_call 63; refine (l6In_any _ _ _ _).mono ?_; rintro e w' ⟨rfl, rfl⟩; rw [T1.out])
      go_ret
      exact ⟨by rw [T2.out]; rfl, rfl⟩
  · have T1 := Lib.hid (tt_no hp)
    have T2 := Lib.hid (tt_no (show ¬ GivingOk x m X from fun h => hp h.1))
    clear hp hb1
    go_enter Tryd.func56, Tryd.ntmps56
    go_wp2_with (go_at_call 63; refine (l6In_any _ _ _ _).mono ?_; rintro e w' ⟨rfl, rfl⟩; rw [T1.out])
    go_ret
    exact ⟨by rw [T2.out]; rfl, rfl⟩
theorem specHouseGiving_any (x : Int) (m d : Nat) (b : Option Addr) (X : Nat → Int) (w : World) (hx0 : I64 x) (hm1 : m ≤ 1048576) (hb1 : Rd w b m X) :
    Calls Tryd.prog 56 #[.int .i64 x, .slice b m d] w fun e w' => e = .returned (.bool (tt (GivingOk x m X))) ∧ Below w.heap.size w w' := by
  refine (specGiving_any x m d b X w hx0 hm1 hb1).mono ?_
  rintro e w' ⟨rfl, rfl⟩
  exact ⟨rfl, Below.refl _ _⟩
end Go.Proofs.YtgjegpponchdaaaDoor
