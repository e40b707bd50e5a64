/- The model's HouseBlocks and HouseFirm. -/
import Derived.Test.YtfhkbjheleojmaaDoorL3Both
import Derived.Test.YtfhkbjheleojmaaDoorL3Blocks
import Derived.Test.YtfhkbjheleojmaaDoorL6In
namespace Go.Proofs.YtfhkbjheleojmaaDoor
set_option linter.unusedVariables false
set_option linter.unusedSimpArgs false
open Go.RowKit

theorem blocksOk_iff {n m S : Nat} {L : Nat → Nat} {Z : Nat → Nat → Int} {G : Nat → Int} (h1 : GivenOk n L Z m G) (hS : S < 2 ^ n) : BlocksP n Z G S ↔ BlocksOk n L Z m G (S : Nat) := by
  constructor
  · intro h
    exact ⟨h1, ⟨by omega, by have : 1 ≤ (2 : Nat) ^ n := Nat.pow_pos (by omega); omega⟩, by simpa using h⟩
  · rintro ⟨_, _, h⟩
    simpa using h

set_option maxHeartbeats 800000 in
theorem specHouseBlocks_any (n c : Nat) (a : Option Addr) (A : Nat → Option Addr) (L C : Nat → Nat) (Z : Nat → Nat → Int) (m d : Nat) (b : Option Addr) (G : Nat → Int) (x : Int) (w : World) (hn0 : n ≤ 1048576) (hL0 : ∀ r, r < n → L r ≤ 1048576) (ha0 : Tab w a n A L C Z) (hm1 : m ≤ 1048576) (hb1 : Rd w b m G) (hx2 : I64 x) :
    Calls Tryd.prog 11 #[.slice a n c, .slice b m d, .int .i64 x] w fun e w' => e = .returned (.bool (tt (BlocksOk n L Z m G x))) ∧ Below w.heap.size w w' := by
  have H := Lib.hid (l3Both_any n c a A L C Z m d b G w hn0 hL0 ha0 hm1 hb1)
  by_cases h1 : GivenOk n L Z m G
  · have T1 := Lib.hid (tt_of h1)
    obtain rfl : m = n := h1.2.1
    have hn5 := h1.1.1.2
    have g2 : (2 : Nat) ^ m ≤ 32 := Nat.pow_le_pow_right (show 0 < 2 by omega) hn5
    have g1 : 1 ≤ (2 : Nat) ^ m := Nat.pow_pos (by omega)
    have hwp := wrap_pow (show m < 62 by omega)
    obtain ⟨E, hE⟩ : ∃ E, E = 2 ^ m := ⟨_, rfl⟩
    have QE := Lib.hid hE
    by_cases h2 : InR x 1 ((E : Int) - 1)
    · have T2 := Lib.hid (tt_of h2)
      obtain ⟨S, rfl⟩ := Int.eq_ofNat_of_zero_le (show 0 ≤ x by have := h2.1; omega)
      have hS : S < 2 ^ m := by rw [← hE]; have := h2.2; omega
      have HM := Lib.hid (l3Blocks_any m c a A L C Z d b G S w h1 hS ha0 hb1)
      have HE := Lib.hid (tt_congr (blocksOk_iff h1 hS))
      rw [← hE] at g1 g2 hwp
      clear h1 h2 hS ha0 hL0 hb1 hx2 hE
      go_enter Tryd.func11, Tryd.ntmps11
      go_wp2_with (first
        | (go_at_call 33; refine H.out.mono ?_; rintro e w' ⟨rfl, rfl⟩; rw [T1.out])
        | (go_at_call 34; refine (l6In_any _ _ _ _).mono ?_; rintro e w' ⟨rfl, rfl⟩; rw [T2.out])
        | (go_at_call 35; refine HM.out.mono ?_; rintro e w1 ⟨rfl, hb⟩; rw [HE.out]; have HB := Lib.hid hb; clear hb))
      go_ret
      exact ⟨rfl, HB.out⟩
    · have T2 := Lib.hid (tt_no h2)
      have HE := Lib.hid (tt_no (show ¬ BlocksOk m L Z m G x from fun h => h2 (by
        have h3 := h.2.1
        rw [← hE] at h3
        refine ⟨?_, h3.2⟩
        rcases Int.lt_or_le 0 x with h4 | h4
        · omega
        · have h5 := h.2.2
          rw [show x.toNat = 0 by omega] at h5
          exact absurd h5 blocks_pos)))
      rw [← hE] at g1 g2 hwp
      clear h1 h2 ha0 hL0 hb1 hx2 hE
      go_enter Tryd.func11, Tryd.ntmps11
      go_wp2_with (first
        | (go_at_call 33; refine H.out.mono ?_; rintro e w' ⟨rfl, rfl⟩; rw [T1.out])
        | (go_at_call 34; refine (l6In_any _ _ _ _).mono ?_; rintro e w' ⟨rfl, rfl⟩; rw [T2.out]))
      go_ret
      exact ⟨by rw [HE.out]; rfl, Below.refl _ _⟩
  · have T1 := Lib.hid (tt_no h1)
    have HE := Lib.hid (tt_no (show ¬ BlocksOk n L Z m G x from fun h => h1 h.1))
    clear h1 ha0 hL0 hb1 hx2
    go_enter Tryd.func11, Tryd.ntmps11
    go_wp2_with (first
      | (go_at_call 33; refine H.out.mono ?_; rintro e w' ⟨rfl, rfl⟩; rw [T1.out]))
    go_ret
    exact ⟨by rw [HE.out]; rfl, Below.refl _ _⟩

theorem specHouseFirm_any (n c : Nat) (a : Option Addr) (A : Nat → Option Addr) (L C : Nat → Nat) (Z : Nat → Nat → Int) (m d : Nat) (b : Option Addr) (G : Nat → Int) (w : World) (hn0 : n ≤ 1048576) (hL0 : ∀ r, r < n → L r ≤ 1048576) (ha0 : Tab w a n A L C Z) (hm1 : m ≤ 1048576) (hb1 : Rd w b m G) :
    Calls Tryd.prog 17 #[.slice a n c, .slice b m d] w fun e w' => e = .returned (.bool (tt (FirmOk n L Z m G))) ∧ Below w.heap.size w w' := by
  have H := Lib.hid (l3Both_any n c a A L C Z m d b G w hn0 hL0 ha0 hm1 hb1)
  by_cases h1 : GivenOk n L Z m G
  · have T1 := Lib.hid (tt_of h1)
    obtain rfl : m = n := h1.2.1
    have HM := Lib.hid (l3Firm_any m c a A L C Z d b G w h1 ha0 hb1)
    have HE := Lib.hid (tt_congr (show FirmP m Z G ↔ FirmOk m L Z m G from ⟨fun h => ⟨h1, h⟩, fun h => h.2⟩))
    clear h1 ha0 hL0 hb1
    go_enter Tryd.func17, Tryd.ntmps17
    go_wp2_with (first
      | (go_at_call 33; refine H.out.mono ?_; rintro e w' ⟨rfl, rfl⟩; rw [T1.out])
      | (go_at_call 39; refine HM.out.mono ?_; rintro e w1 ⟨rfl, hb⟩; rw [HE.out]; have HB := Lib.hid hb; clear hb))
    go_ret
    exact ⟨rfl, HB.out⟩
  · have T1 := Lib.hid (tt_no h1)
    have HE := Lib.hid (tt_no (show ¬ FirmOk n L Z m G from fun h => h1 h.1))
    clear h1 ha0 hL0 hb1
    go_enter Tryd.func17, Tryd.ntmps17
    go_wp2_with (first
      | (go_at_call 33; refine H.out.mono ?_; rintro e w' ⟨rfl, rfl⟩; rw [T1.out]))
    go_ret
    exact ⟨by rw [HE.out]; rfl, Below.refl _ _⟩
end Go.Proofs.YtfhkbjheleojmaaDoor
