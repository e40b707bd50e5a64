/- The walk of the law FnCount: it answers true at every code that can be read. -/
import Derived.Test.YtaipodnhnekpjaaDrawFairCount
import Derived.Test.YtaipodnhnekpjaaFairCountF
import Derived.Test.YtaipodnhnekpjaaSpecFairCount
import Derived.Test.YtaipodnhnekpjaaFairLowF
import Derived.Test.YtaipodnhnekpjaaFnBidModel
namespace Go.Proofs.Ytaipodnhnekpjaa
set_option linter.unusedVariables false
open Go.RowKit

set_option maxHeartbeats 3200000 in
theorem fnCount_walk (n c : Nat) (a : Option Addr) (B : Nat → Nat) (w : World) (hc : n ≤ c) (hb : RdB w a n B) (hab : 0 < n → ∀ b o, a = some ⟨b, o, none⟩ → b < w.heap.size) :
    Calls Try.prog 13 #[.slice a n c] w fun e w' => e = .returned (.bool true) ∧ Below w.heap.size w w' := by
  by_cases hfit : n ≤ 1048576
  · have hd : ¬ (1048576 < n) := by omega
    have HD := Lib.hid (drawFairCount_any n c a B w hfit hc hb hab)
    clear hb hab
    go_enter Try.func13, Try.ntmps13
    go_wp2_with fail
    refine HD.out.mono ?_
    rintro e w1 ⟨ga, N, gc, A, L, C, Z, rfl, ⟨hN1, hN4, hgc⟩, hL, hT, hb1⟩
    have V1 := Lib.hid hT
    have B1 := Lib.hid hb1
    have hn0 : N ≤ 1048576 := by omega
    have HL := Lib.hid (show ∀ r, r < N → L r ≤ 1048576 from fun r hr => by have := hL r hr; omega)
    clear hL hT hb1 HD
    go_wp2_with fail
    refine (fairCount_any N gc ga A L C Z _ hn0 HL.out V1.out).mono ?_
    rintro e w2 ⟨rfl, hb2⟩
    have V2 := Lib.hid (V1.out.below (Nat.le_refl _) hb2)
    have B2 := Lib.hid (below_chain B1.out hb2)
    clear hb2 B1 V1
    go_wp2_with fail
    refine (specFairCount_any N gc ga A L C Z _ hn0 HL.out V2.out).mono ?_
    rintro e w3 ⟨rfl, hb3⟩
    have V3 := Lib.hid (V2.out.below (Nat.le_refl _) hb3)
    have B3 := Lib.hid (below_chain B2.out hb3)
    clear hb3 B2 V2
    by_cases h : CountOk N L Z
    · have K1 := Lib.hid (tt_of h)
      have K0 := Lib.hid (tt_of h.1)
      have K2 := Lib.hid (itemsN_yes h.1)
      have hm2 := h.2
      have hm1 := h.1.1.2.1
      obtain ⟨S, hS⟩ : ∃ S, S = countT N (L 0) Z (21 ^ L 0) := ⟨_, rfl⟩
      have hS1 : 1 ≤ S := by rw [hS]; exact count_pos (by omega) hm1 hm2 h.1.cells
      have hS2 : S ≤ 441 := by rw [hS]; exact Nat.le_trans (countT_le _) (Nat.pow_le_pow_right (n := 21) (by omega) hm2)
      have LH := Lib.hid (fun k (hk : k < L 0) => show (0 ≤ lowP N (L 0) Z k ∧ highP N (L 0) Z k ≤ 20) ∧ lowP N (L 0) Z k ≤ highP N (L 0) Z k ∧ highP N (L 0) Z k - lowP N (L 0) Z k + 1 ≤ (S : Int) from ⟨⟨low_ge hk, high_small hk h.1.cells⟩, low_high hk, by rw [hS]; exact count_range (by omega) hm1 hm2 h.1.cells hk⟩)
      have K5 := Lib.hid (show ifT (CountOk N L Z) ((countT N (L 0) Z (21 ^ L 0) : Nat) : Int) = (S : Nat) by rw [ifT_yes h, hS])
      rw [K1.out, K5.out]
      clear h hS
      go_wp2_with fail
      refine (fairLow_any N gc ga A L C Z _ hn0 HL.out V3.out).mono ?_
      rintro e w4 ⟨fa, fc, rfl, hO4, hb4⟩
      rw [K2.out] at hO4 ⊢
      rw [K0.out]
      have F4 := Lib.hid hO4.rd
      have V4 := Lib.hid (V3.out.below (Nat.le_refl _) hb4)
      have B4 := Lib.hid (below_chain B3.out hb4)
      clear hb4 B3 V3
      clear hO4
      go_wp2_with fail
      refine (fairHigh_any N gc ga A L C Z _ hn0 HL.out V4.out).mono ?_
      rintro e w5 ⟨ha, hc, rfl, hO5, hb5⟩
      rw [K2.out] at hO5 ⊢
      rw [K0.out]
      have H5 := Lib.hid hO5.rd
      have V5 := Lib.hid (V4.out.below (Nat.le_refl _) hb5)
      have F5 := Lib.hid (F4.out.below (Nat.le_refl _) hb5)
      have B5 := Lib.hid (below_chain B4.out hb5)
      clear hb5 B4 V4 F4
      clear hO5
      obtain ⟨m, hm⟩ : ∃ m, m = L 0 := ⟨_, rfl⟩
      rw [← hm] at F5 H5 LH hm1 hm2 ⊢
      clear hm K2
      go_wp2
      go_loopw [12, 13] (fun s x wr => ∃ (k t : Nat) (G : Int), k ≤ m ∧ x = .int .i64 k ∧ s = .int .i64 G ∧ (0 ≤ G ∧ G ≤ (S : Int)) ∧ wr = w5.drewN t) (fun _ x _ => m - (intOf x).toNat)
      case atStart => exact ⟨0, 0, 0, Nat.zero_le _, rfl, rfl, ⟨by omega, by omega⟩, rfl⟩
      case round =>
        obtain ⟨k, t, G, hk, rfl, rfl, ⟨hG0, hG1⟩, rfl⟩ := hrel
        by_cases hlt : k < m
        · obtain ⟨⟨h1, h2⟩, h3, h4⟩ := LH.out k hlt
          obtain ⟨b1, o1, rfl, hc1⟩ := F5.out k hlt
          obtain ⟨b2, o2, rfl, hc2⟩ := H5.out k hlt
          obtain ⟨x, hx⟩ : ∃ x, x = lowP N m Z k := ⟨_, rfl⟩
          obtain ⟨y, hy⟩ : ∃ y, y = highP N m Z k := ⟨_, rfl⟩
          rw [← hx] at hc1 h1 h3 h4
          rw [← hy] at hc2 h2 h3 h4
          have i1 : (0 : Int) ≤ (k : Int) := by omega
          have i2 : (k : Int) < (m : Int) := by omega
          have hw1 : IntKind.i64.wrap (y - x) = y - x := by rw [IntKind.wrap_i64]; omega
          have hw2 : IntKind.i64.wrap (y - x + 1) = y - x + 1 := by rw [IntKind.wrap_i64]; omega
          clear hx hy
          go_wp2
          go_region
          all_goals (
            go_wp2
            go_roundw
            case rel => exact ⟨k + 1, _, max G (y - x + 1), by omega, by go_num, rfl, ⟨by omega, by omega⟩, by first | rfl | rw [World.drewN_drewN]⟩
            case measure => simp [intOf]; omega)
        · obtain rfl : k = m := by omega
          have d1 : decide ((S : Int) ≥ 1) = true := by simp; omega
          have d2 : decide ((S : Int) ≥ G) = true := by simp; omega
          have d3 : decide (1 ≤ S) = true := by simp; omega
          have d4 : decide (G ≤ (S : Int)) = true := by simp; omega
          go_wp2
          go_ret
          exact ⟨rfl, below_drewN B5.out t⟩
    · have K1 := Lib.hid (tt_no h)
      rw [K1.out, ifT_no h]
      clear h
      go_wp2_with fail
      go_ret
      exact ⟨rfl, B3.out⟩
  · have hd : 1048576 < n := by omega
    clear hb hab
    go_enter Try.func13, Try.ntmps13
    go_wp2
    go_ret
    exact ⟨rfl, Below.refl _ _⟩
end Go.Proofs.Ytaipodnhnekpjaa
