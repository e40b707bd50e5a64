/- The program's HouseGiving. -/
import Derived.Test.YtnaegnjgpnakfaaDoorGivingModel
namespace Go.Proofs.YtnaegnjgpnakfaaDoor
set_option linter.unusedVariables false
set_option linter.unusedSimpArgs false
open Go.RowKit


theorem houseGiving_free (x : Int) (m d : Nat) (b : Option Addr) (X : Nat → Int) (w : World) (hx0 : I64 x) (hm1 : m ≤ 1048576) (hb1 : Rd w b m X) :
    Calls Tryd.prog 32 #[.int .i64 x, .slice b m d] w fun e w' => e = .returned (.bool (tt (GivingOk x m X))) ∧ Below w.heap.size w w' := by
  by_cases hp : People x
  · have T1 := Lib.hid (tt_of hp)
    obtain ⟨n, rfl⟩ := Int.eq_ofNat_of_zero_le (show 0 ≤ x by have := hp.1; omega)
    have hn5 : n ≤ 5 := by have := hp.2; omega
    have HE := Lib.hid (tt_congr (show IsEach n m X ↔ GivingOk (n : Int) m X from ⟨fun h => ⟨hp, by rw [h.1], by rw [h.1]; exact h.2⟩, fun h => by
      have e : m = n := by have := h.2.1; omega
      exact ⟨e, by have := h.2.2; rwa [e] at this⟩⟩))
    have H := Lib.hid (hasEach_any n m d b X w hn5 hm1 hb1)
    clear hp hb1
    go_enter Tryd.func32, Tryd.ntmps32
    go_wp2_with (first
      | (go_at_call 52; refine (arePeople_any _ _).mono ?_; rintro e w' ⟨rfl, rfl⟩; rw [T1.out])
      | (go_at_call 53; refine H.out.mono ?_; rintro e w' ⟨rfl, rfl⟩; rw [HE.out]))
    go_ret
    exact ⟨rfl, Below.refl _ _⟩
  · have T1 := Lib.hid (tt_no hp)
    have T2 := Lib.hid (tt_no (show ¬ GivingOk x m X from fun h => hp h.1))
    clear hp hb1
    go_enter Tryd.func32, Tryd.ntmps32
    go_wp2_with (go_at_call 52; refine (arePeople_any _ _).mono ?_; rintro e w' ⟨rfl, rfl⟩; rw [T1.out])
    go_ret
    exact ⟨by rw [T2.out]; rfl, Below.refl _ _⟩

theorem houseGiving_any (x : Int) (m d : Nat) (b : Option Addr) (X : Nat → Int) (w : World) (hx0 : I64 x) (hm1 : m ≤ 1048576) (hmd1 : m ≤ d) (hb1 : Rd w b m X) :
    Calls Tryd.prog 32 #[.int .i64 x, .slice b m d] w fun e w' => e = .returned (.bool (tt (GivingOk x m X))) ∧ Below w.heap.size w w' := houseGiving_free x m d b X w hx0 hm1 hb1
end Go.Proofs.YtnaegnjgpnakfaaDoor
