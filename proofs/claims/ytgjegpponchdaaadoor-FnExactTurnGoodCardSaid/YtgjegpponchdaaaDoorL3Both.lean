/- The model's l3Both and l4People. -/
import Derived.Test.YtgjegpponchdaaaDoorSwapModel
import Derived.Test.YtgjegpponchdaaaDoorSpecHouseIn
import Derived.Test.YtgjegpponchdaaaDoorSpecHouseGiving
namespace Go.Proofs.YtgjegpponchdaaaDoor
set_option linter.unusedVariables false
set_option linter.unusedSimpArgs false
open Go.RowKit

theorem l3Both_any (n c : Nat) (a : Option Addr) (A : Nat → Option Addr) (L C : Nat → Nat) (Z : Nat → Nat → Int) (m d : Nat) (b : Option Addr) (G : Nat → Int) (w : World) (hn0 : n ≤ 1048576) (hL0 : ∀ r, r < n → L r ≤ 1048576) (ha0 : Tab w a n A L C Z) (hm : m ≤ 1048576) (hb : Rd w b m G) :
    Calls Tryd.prog 33 #[.slice a n c, .slice b m d] w fun e w' => e = .returned (.bool (tt (GivenOk n L Z m G))) ∧ w = w' := by
  have H := Lib.hid (specHouseIn_any n c a A L C Z w hn0 hL0 ha0)
  by_cases h1 : IsWishes n L Z
  · have T1 := Lib.hid (tt_of h1)
    have HG := Lib.hid (specGiving_any (n : Int) m d b G w ⟨by omega, by omega⟩ hm hb)
    have hiff : GivingOk (n : Int) m G ↔ GivenOk n L Z m G := by
      constructor
      · intro h
        have e : m = n := by have := h.2.1; omega
        exact ⟨h1, e, by have := h.2.2; rwa [e] at this⟩
      · intro h
        exact ⟨⟨by have := h1.1.1; omega, by have := h1.1.2; omega⟩, by rw [h.2.1], by rw [h.2.1]; exact h.2.2⟩
    have HE := Lib.hid (tt_congr hiff)
    clear hiff
    clear h1 ha0 hL0 hb
    go_enter Tryd.func33, Tryd.ntmps33
    go_wp2_with (first
      | (go_at_call 38; refine H.out.mono ?_; rintro e w' ⟨rfl, rfl⟩; rw [T1.out])
      | (go_at_call 56; refine HG.out.mono ?_; rintro e w' ⟨rfl, rfl⟩; rw [HE.out]))
    go_ret
    exact ⟨rfl, rfl⟩
  · have T1 := Lib.hid (tt_no h1)
    have HE := Lib.hid (tt_no (show ¬ GivenOk n L Z m G from fun h => h1 h.1))
    clear h1 ha0 hL0 hb
    go_enter Tryd.func33, Tryd.ntmps33
    go_wp2_with (go_at_call 38; refine H.out.mono ?_; rintro e w' ⟨rfl, rfl⟩; rw [T1.out])
    go_ret
    exact ⟨by rw [HE.out]; rfl, rfl⟩
end Go.Proofs.YtgjegpponchdaaaDoor
