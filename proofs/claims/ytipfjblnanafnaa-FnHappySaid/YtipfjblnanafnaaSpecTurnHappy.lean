/- The model's TurnHappy. -/
import Derived.Test.YtipfjblnanafnaaHappyModel
import Derived.Test.YtipfjblnanafnaaL3Both
import Derived.Deep.QuietTactic
import Derived.BigQuiet
namespace Go.Proofs.Ytipfjblnanafnaa
set_option linter.unusedVariables false
set_option linter.unusedSimpArgs false
open Go.RowKit

set_option maxHeartbeats 1600000 in
theorem specTurnHappy_any (n c : Nat) (a : Option Addr) (A : Nat → Option Addr) (L C : Nat → Nat) (Z : Nat → Nat → Int) (m d : Nat) (b : Option Addr) (G : Nat → Int) (w : World) (hn0 : n ≤ 1048576) (hL0 : ∀ r, r < n → L r ≤ 1048576) (ha0 : Tab w a n A L C Z) (hm1 : m ≤ 1048576) (hb1 : Rd w b m G) :
    Calls Try.prog 20 #[.slice a n c, .slice b m d] w fun e w' => e = .returned (.tuple #[.int .i64 (happyN n L Z m G : Nat), .bool (tt (GivenOk n L Z m G))]) ∧ Below w.heap.size w w' := by
  have H := Lib.hid (l3Both_any n c a A L C Z m d b G w hn0 hL0 ha0 hm1 hb1)
  by_cases h1 : GivenOk n L Z m G
  · have T1 := Lib.hid (tt_of h1)
    have TN := Lib.hid (happyN_yes h1)
    obtain rfl : m = n := h1.2.1
    have hn5 := h1.1.1.2
    have hn2 := h1.1.1.1
    have HG := Lib.hid h1
    have HA := Lib.hid ha0
    have HB1 := Lib.hid hb1
    clear h1 ha0 hL0 hb1
    go_enter Try.func20, Try.ntmps20
    go_wp2_with (go_at_call 38; refine H.out.mono ?_; rintro e w' ⟨rfl, rfl⟩; rw [T1.out])
    go_loopw [6, 7] (fun h s wr => ∃ k : Nat, k ≤ m ∧ s = .int .i64 k ∧ h = .int .i64 (hapF Z G k : Nat) ∧ Below w.heap.size w wr) (fun h s _ => m - (intOf s).toNat)
    case atStart => exact ⟨0, Nat.zero_le _, rfl, rfl, Below.refl _ _⟩
    case round =>
      obtain ⟨k, hk, rfl, rfl, hB⟩ := hrel
      have BR := Lib.hid hB
      clear hB
      by_cases hlt : k < m
      · obtain ⟨ba, oa, rfl, hca, hra⟩ := HA.out.below (Nat.le_refl _) BR.out k hlt
        rw [(HG.out.1.2 k hlt).1] at hca hra
        obtain ⟨br, or, hrw, hcr⟩ := hra 0 (by omega)
        rw [hrw] at hca
        rw [Nat.add_zero] at hcr
        obtain ⟨bg, og, rfl, hcg⟩ := HB1.out.below (Nat.le_refl _) BR.out k hlt
        obtain ⟨x, hx⟩ : ∃ x, x = Z k 0 := ⟨_, rfl⟩
        obtain ⟨y, hy⟩ : ∃ y, y = G k := ⟨_, rfl⟩
        rw [← hx] at hcr
        rw [← hy] at hcg
        have hle := hapF_le Z G k
        obtain ⟨H0, hH⟩ : ∃ H0, H0 = hapF Z G k := ⟨_, rfl⟩
        rw [← hH] at hle ⊢
        have k1 : (0 : Int) ≤ (k : Int) := by omega
        have k2 : (k : Int) < (m : Int) := by omega
        have k3 : (0 : Int) < (m : Int) := by omega
        have k4 : 0 < m := by omega
        by_cases hxy : x = y
        · have d1 : (x == y) = true := by simp [hxy]
          have HN := Lib.hid (show hapF Z G (k + 1) = H0 + 1 by rw [hapF_yes (by rw [← hx, ← hy]; exact hxy), hH])
          clear hx hy hH hxy hra hrw
          go_wp2
          go_quiet (fail)
          go_wp2
          go_roundw
          case rel => exact ⟨k + 1, by omega, by go_num, by rw [HN.out]; go_num, by first | exact BR.out | exact below_drewN BR.out _⟩
          case measure => simp [intOf]; omega
        · have d1 : (x == y) = false := by simp [hxy]
          have HN := Lib.hid (show hapF Z G (k + 1) = H0 by rw [hapF_no (by rw [← hx, ← hy]; exact hxy), hH])
          clear hx hy hH hxy hra hrw
          go_wp2
          go_quiet (fail)
          go_wp2
          go_roundw
          case rel => exact ⟨k + 1, by omega, by go_num, by rw [HN.out], by first | exact BR.out | exact below_drewN BR.out _⟩
          case measure => simp [intOf]; omega
      · obtain rfl : k = m := by omega
        go_wp2
        go_ret2
        exact ⟨by rw [T1.out, TN.out]; rfl, BR.out⟩
  · have T1 := Lib.hid (tt_no h1)
    have TN := Lib.hid (happyN_no h1)
    clear h1 ha0 hL0 hb1
    go_enter Try.func20, Try.ntmps20
    go_wp2_with (go_at_call 38; refine H.out.mono ?_; rintro e w' ⟨rfl, rfl⟩; rw [T1.out])
    go_ret2
    exact ⟨by rw [T1.out, TN.out]; rfl, Below.refl _ _⟩
end Go.Proofs.Ytipfjblnanafnaa
