/- The program's good and TurnGood. -/
import Derived.Test.YtgjegpponchdaaaDoorBlockGiv
import Derived.Test.YtgjegpponchdaaaDoorFirm
import Derived.Test.YtgjegpponchdaaaDoorReadGiven
namespace Go.Proofs.YtgjegpponchdaaaDoor
set_option linter.unusedVariables false
set_option linter.unusedSimpArgs false
open Go.RowKit

theorem good_any (n c : Nat) (a : Option Addr) (A : Nat → Option Addr) (L C : Nat → Nat) (Z : Nat → Nat → Int) (d : Nat) (g : Option Addr) (G : Nat → Int) (w : World) (hg : GivenOk n L Z n G) (ha : Tab w a n A L C Z) (hb : Rd w g n G) (hT : TzAt w) :
    Calls Tryd.prog 37 #[.slice a n c, .slice g n d] w fun e w' => e = .returned (.bool (tt (GoodP n Z G))) ∧ Below w.heap.size w w' := by
  have hn5 := hg.1.1.2
  have H := Lib.hid (show Calls Tryd.prog 60 #[.slice a n c, .slice g n d, .int .i64 (((2 ^ n : Nat) : Int) - 1)] w fun e w' => e = .returned (.bool (tt (BlocksP n Z G (2 ^ n - 1)))) ∧ Below w.heap.size w w' from by
    have h := blocks_any n c a A L C Z d g G (2 ^ n - 1) w hg (all_lt n) ha hb hT
    rw [show ((2 ^ n - 1 : Nat) : Int) = ((2 ^ n : Nat) : Int) - 1 by have := Nat.two_pow_pos n; omega] at h
    exact h)
  have g1 : 1 ≤ (2 : Nat) ^ n := Nat.pow_pos (by omega)
  have g2 : (2 : Nat) ^ n ≤ 32 := Nat.pow_le_pow_right (show 0 < 2 by omega) hn5
  obtain ⟨E, hE⟩ : ∃ E, E = 2 ^ n := ⟨_, rfl⟩
  rw [← hE] at g1 g2
  have QE := Lib.hid hE
  have H2 := H.out
  rw [← hE] at H2
  have H3 := Lib.hid H2
  clear hg ha hb hT H H2 hE
  by_cases h1 : BlocksP n Z G (E - 1)
  · have T1 := Lib.hid (tt_of h1)
    have HE := Lib.hid (tt_no (show ¬ GoodP n Z G from fun h => h (by rw [← QE.out]; exact h1)))
    clear h1
    go_enter Tryd.func37, Tryd.ntmps37
    go_wp2_with (first
      | (go_at_call 61; refine (everybody_any n c a _ hn5).mono ?_; rintro e w' ⟨rfl, rfl⟩; rw [← QE.out])
      | (go_at_call 60; refine H3.out.mono ?_; rintro e w1 ⟨rfl, hb1⟩; rw [T1.out]; have B1 := Lib.hid hb1; clear hb1))
    go_ret
    exact ⟨by rw [HE.out]; rfl, B1.out⟩
  · have T1 := Lib.hid (tt_no h1)
    have HE := Lib.hid (tt_of (show GoodP n Z G from fun h => h1 (by rw [QE.out]; exact h)))
    clear h1
    go_enter Tryd.func37, Tryd.ntmps37
    go_wp2_with (first
      | (go_at_call 61; refine (everybody_any n c a _ hn5).mono ?_; rintro e w' ⟨rfl, rfl⟩; rw [← QE.out])
      | (go_at_call 60; refine H3.out.mono ?_; rintro e w1 ⟨rfl, hb1⟩; rw [T1.out]; have B1 := Lib.hid hb1; clear hb1))
    go_ret
    exact ⟨by rw [HE.out]; rfl, B1.out⟩

theorem turnGood_any (n c : Nat) (a : Option Addr) (A : Nat → Option Addr) (L C : Nat → Nat) (Z : Nat → Nat → Int) (m d : Nat) (b : Option Addr) (G : Nat → Int) (w : World) (hT : TzAt w) (hn0 : n ≤ 1048576) (hL0 : ∀ r, r < n → L r ≤ 1048576) (ha0 : Tab w a n A L C Z) (hm1 : m ≤ 1048576) (hb1 : Rd w b m G) :
    Calls Tryd.prog 13 #[.slice a n c, .slice b m d] w fun e w' => e = .returned (.bool (tt (GoodOk n L Z m G))) ∧ Below w.heap.size w w' := by
  have H := Lib.hid (readGiven_any n c a A L C Z m d b G w hn0 hL0 ha0 hm1 hb1)
  by_cases h1 : GivenOk n L Z m G
  · have T1 := Lib.hid (tt_of h1)
    obtain rfl : m = n := h1.2.1
    have HE := Lib.hid (tt_congr (show GoodP m Z G ↔ GoodOk m L Z m G from ⟨fun h => ⟨h1, h⟩, fun h => h.2⟩))
    have HM := Lib.hid (good_any m c a A L C Z d b G w h1 ha0 hb1 hT)
    clear h1 ha0 hL0 hb1 hT
    go_enter Tryd.func13, Tryd.ntmps13
    go_wp2_with (first
      | (go_at_call 36; refine H.out.mono ?_; rintro e w' ⟨rfl, rfl⟩; rw [T1.out])
      | (go_at_call 37; refine HM.out.mono ?_; rintro e w1 ⟨rfl, hb⟩; rw [HE.out]; have HB := Lib.hid hb; clear hb))
    go_ret
    exact ⟨rfl, HB.out⟩
  · have T1 := Lib.hid (tt_no h1)
    have HE := Lib.hid (tt_no (show ¬ GoodOk n L Z m G from fun h => h1 h.1))
    clear h1 ha0 hL0 hb1 hT
    go_enter Tryd.func13, Tryd.ntmps13
    go_wp2_with (first
      | (go_at_call 36; refine H.out.mono ?_; rintro e w' ⟨rfl, rfl⟩; rw [T1.out]))
    go_ret
    exact ⟨by rw [HE.out]; rfl, Below.refl _ _⟩
end Go.Proofs.YtgjegpponchdaaaDoor
