/- The model's l3Own and l3Better. -/
import Derived.Test.YtfhkbjheleojmaaDoorBlockGiv
import Derived.Test.YtfhkbjheleojmaaDoorL3At
import Derived.Test.YtfhkbjheleojmaaDoorL3Circle
import Derived.Test.YtfhkbjheleojmaaDoorLater
namespace Go.Proofs.YtfhkbjheleojmaaDoor
set_option linter.unusedVariables false
set_option linter.unusedSimpArgs false
open Go.RowKit

theorem bit_none (S x : Nat) (hS : S < 2 ^ 62) : (bits .and .i64 ((S : Int) / 2 ^ x) 1 == 0) = !S.testBit x := by
  have e : ((S : Int) / 2 ^ x) = ((S / 2 ^ x : Nat) : Int) := by simp
  have hle : S / 2 ^ x ≤ S := Nat.div_le_self _ _
  rw [e, show (1 : Int) = ((1 : Nat) : Int) from rfl, bits_and_i64 _ _ (by omega) (by omega)]
  rw [Nat.testBit, Nat.shiftRight_eq_div_pow, Nat.and_comm 1]
  have h2 : S / 2 ^ x &&& 1 = 0 ∨ S / 2 ^ x &&& 1 = 1 := by rw [Nat.and_one_is_mod]; omega
  rcases h2 with h | h <;> rw [h] <;> rfl

theorem own_front {n S N : Nat} {X : Nat → Int} (hd : IsDiff n n X) (hS : S < 2 ^ n) (h : Front n (fun i => (X i).toNat) S n N) : ((N : Int) == (S : Int)) = tt (OwnP n S X) := by
  have hy : ∀ y : Nat, N.testBit y = true ↔ ∃ i, i < n ∧ S.testBit i = true ∧ X i = y := fun y => by
    rw [h.2 y]
    constructor
    · rintro ⟨x, h1, h2, h3⟩; exact ⟨x, h1, h2, by have := (hd.1 x h1).1; have h3 : (X x).toNat = y := h3; omega⟩
    · rintro ⟨x, h1, h2, h3⟩; exact ⟨x, h1, h2, by show (X x).toNat = y; omega⟩
  by_cases e : N = S
  · subst e
    rw [tt_of (show OwnP n N X from hy)]
    simp
  · rw [tt_no (fun ho : OwnP n S X => e (Nat.eq_of_testBit_eq fun y => by rw [Bool.eq_iff_iff, hy y, ho y]))]
    simp; omega

set_option maxHeartbeats 1600000 in
theorem l3Own_any (n c S : Nat) (a : Option Addr) (X : Nat → Int) (w : World) (hn5 : n ≤ 5) (hd : IsDiff n n X) (hS : S < 2 ^ n) (ha : Rd w a n X) :
    Calls Tryd.prog 57 #[.int .i64 (S : Nat), .slice a n c] w fun e w' => e = .returned (.bool (tt (OwnP n S X))) ∧ w = w' := by
  have HA := Lib.hid ha
  have HD := Lib.hid hd
  have HE := Lib.hid (fun N (h : Front n (fun i => (X i).toNat) S n N) => own_front hd hS h)
  have HS := Lib.hid hS
  clear ha hd hS
  go_enter Tryd.func57, Tryd.ntmps57
  go_wp2
  go_loop [5, 6] (fun nx i => ∃ j N : Nat, j ≤ n ∧ i = .int .i64 j ∧ nx = .int .i64 (N : Nat) ∧ Front n (fun i => (X i).toNat) S j N) (fun _ i => n - (intOf i).toNat)
  case atStart => exact ⟨0, 0, Nat.zero_le _, rfl, rfl, Front.zero _ _ _⟩
  case round =>
    obtain ⟨j, N, hj, rfl, rfl, hF⟩ := hrel
    have HF := Lib.hid hF
    clear hF
    by_cases hjl : j < n
    · have hhas := bit_has S j (Nat.lt_trans HS.out (two_pow_lt (by omega)))
      by_cases hb : S.testBit j = true
      · obtain ⟨ba, oa, rfl, hca⟩ := HA.out j hjl
        have hr := HD.out.1 j hjl
        rw [hb] at hhas
        obtain ⟨p, hp⟩ : ∃ p, p = (X j).toNat := ⟨_, rfl⟩
        have hpn : p < n := by have h1 := hr.1; have h2 := hr.2; omega
        have hX : X j = (p : Nat) := by rw [hp]; have := hr.1; omega
        rw [hX] at hca
        have hput := bit_put N p (Nat.lt_trans HF.out.1 (two_pow_lt (by omega))) (by omega)
        obtain ⟨N', hN'⟩ : ∃ N', N' = N ||| 2 ^ p := ⟨_, rfl⟩
        rw [← hN'] at hput
        have HN := Lib.hid (show Front n (fun i => (X i).toNat) S (j + 1) N' by rw [hN', hp]; exact HF.out.yes (f := fun i => (X i).toNat) hb (by show (X j).toNat < n; rw [← hp]; exact hpn))
        have i1 : (0 : Int) ≤ (j : Int) := by omega
        have i2 : (j : Int) < (n : Int) := by omega
        clear hp hN' hb hr hX
        go_wp2
        go_round
        case rel => exact ⟨j + 1, N', by omega, by go_num, rfl, HN.out⟩
        case measure => simp [intOf]; omega
      · have hb' : S.testBit j = false := by simpa using hb
        rw [hb'] at hhas
        have HN := Lib.hid (HF.out.no hb')
        clear hb hb'
        go_wp2
        go_round
        case rel => exact ⟨j + 1, N, by omega, by go_num, rfl, HN.out⟩
        case measure => simp [intOf]; omega
    · obtain rfl : j = n := by omega
      have hE := HE.out N HF.out
      go_wp2
      go_ret
      exact ⟨by rw [← hE]; rfl, rfl⟩
end Go.Proofs.YtfhkbjheleojmaaDoor
