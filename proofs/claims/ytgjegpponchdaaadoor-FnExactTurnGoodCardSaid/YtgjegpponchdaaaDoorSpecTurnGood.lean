/- The model's TurnGood. -/
import Derived.Test.YtgjegpponchdaaaDoorL5Good
import Derived.Test.YtgjegpponchdaaaDoorL3Both
namespace Go.Proofs.YtgjegpponchdaaaDoor
set_option linter.unusedVariables false
set_option linter.unusedSimpArgs false
open Go.RowKit

set_option maxHeartbeats 800000 in
theorem specTurnGood_any (n c : Nat) (a : Option Addr) (A : Nat → Option Addr) (L C : Nat → Nat) (Z : Nat → Nat → Int) (m d : Nat) (b : Option Addr) (G : Nat → Int) (w : World) (hn0 : n ≤ 1048576) (hL0 : ∀ r, r < n → L r ≤ 1048576) (ha0 : Tab w a n A L C Z) (hm1 : m ≤ 1048576) (hb1 : Rd w b m G) :
    Calls Tryd.prog 10 #[.slice a n c, .slice b m d] w fun e w' => e = .returned (.bool (tt (GoodOk n L Z m G))) ∧ Below w.heap.size w w' := by
  have H := Lib.hid (l3Both_any n c a A L C Z m d b G w hn0 hL0 ha0 hm1 hb1)
  by_cases h1 : GivenOk n L Z m G
  · have T1 := Lib.hid (tt_of h1)
    obtain rfl : m = n := h1.2.1
    have hn2 := h1.1.1.1
    have hn5 := h1.1.1.2
    have HE := Lib.hid (tt_congr (show GoodP m Z G ↔ GoodOk m L Z m G from ⟨fun h => ⟨h1, h⟩, fun h => h.2⟩))
    have HG := Lib.hid h1
    have HA := Lib.hid ha0
    have HB1 := Lib.hid hb1
    clear h1 ha0 hL0 hb1
    go_enter Tryd.func10, Tryd.ntmps10
    go_wp2_with (first
      | (go_at_call 33; refine H.out.mono ?_; rintro e w' ⟨rfl, rfl⟩; rw [T1.out])
      | (go_at_call 35; refine (l3GivingsAll_any m hn2 hn5 _ 0 _ (by simp)).mono ?_; rintro e w1 ⟨v, G', Cp, rfl, hMk, hb⟩; obtain ⟨a1, c1, rfl, hO⟩ := hMk.slice; have HO := Lib.hid hO.tab; have HB := Lib.hid ((below_alloc (Below.refl w.heap.size w) _).trans (hb.mono (by simp))); clear hb hO hMk)
      | (go_at_call 34; refine (l5Good_any m c a A L C Z _ _ _ _ _ d b G _ HG.out rfl (HA.out.below (Nat.le_refl _) HB.out) HO.out (HB1.out.below (Nat.le_refl _) HB.out)).mono ?_; rintro e w2 ⟨rfl, hb⟩; rw [HE.out]; have HB2 := Lib.hid (HB.out.trans (hb.mono HB.out.size)); clear hb))
    go_ret
    exact ⟨rfl, HB2.out⟩
  · have T1 := Lib.hid (tt_no h1)
    have HE := Lib.hid (tt_no (show ¬ GoodOk n L Z m G from fun h => h1 h.1))
    clear h1 ha0 hL0 hb1
    go_enter Tryd.func10, Tryd.ntmps10
    go_wp2_with (first
      | (go_at_call 33; refine H.out.mono ?_; rintro e w' ⟨rfl, rfl⟩; rw [T1.out]))
    go_ret
    exact ⟨by rw [HE.out]; rfl, Below.refl _ _⟩
end Go.Proofs.YtgjegpponchdaaaDoor
