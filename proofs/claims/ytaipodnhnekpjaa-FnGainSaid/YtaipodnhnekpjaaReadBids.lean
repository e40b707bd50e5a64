/- The program's areBidders, readBids, items, hasBidder, hasItem. -/
import Derived.Test.YtaipodnhnekpjaaDealsWay
import Derived.Test.YtaipodnhnekpjaaMin
import Derived.Test.YtaipodnhnekpjaaMax
namespace Go.Proofs.Ytaipodnhnekpjaa
set_option linter.unusedVariables false
set_option linter.unusedSimpArgs false
open Go.RowKit

theorem areBidders_any (x : Int) (w : World) : Calls Try.prog 95 #[.int .i64 x] w fun e w' => e = .returned (.bool (tt (1 ≤ x ∧ x ≤ 4))) ∧ w = w' := by
  by_cases h1 : 1 ≤ x
  · have d1 : decide (x ≥ 1) = true := by simpa using h1
    by_cases h2 : x ≤ 4
    · have d2 : decide (x ≤ 4) = true := by simpa using h2
      have T1 := Lib.hid (tt_of (show 1 ≤ x ∧ x ≤ 4 from ⟨h1, h2⟩))
      clear h1 h2
      go_enter Try.func95, Try.ntmps95
      go_wp2
      go_ret
      exact ⟨by rw [T1.out]; rfl, rfl⟩
    · have d2 : decide (x ≤ 4) = false := by simpa using h2
      have T1 := Lib.hid (tt_no (show ¬ (1 ≤ x ∧ x ≤ 4) from fun h => h2 h.2))
      clear h1 h2
      go_enter Try.func95, Try.ntmps95
      go_wp2
      go_ret
      exact ⟨by rw [T1.out]; rfl, rfl⟩
  · have d1 : decide (x ≥ 1) = false := by simpa using h1
    have T1 := Lib.hid (tt_no (show ¬ (1 ≤ x ∧ x ≤ 4) from fun h => h1 h.1))
    clear h1
    go_enter Try.func95, Try.ntmps95
    go_wp2
    go_ret
    exact ⟨by rw [T1.out]; rfl, rfl⟩

/-- What readBids hands back. -/
def bidsV (b : Bool) (a : Option Addr) (n c : Nat) : Value := if b = true then .slice a n c else .slice none 0 0

set_option maxRecDepth 100000 in
set_option maxHeartbeats 1600000 in
theorem readBids_any (n c : Nat) (a : Option Addr) (A : Nat → Option Addr) (L C : Nat → Nat) (Z : Nat → Nat → Int) (w : World) (hn0 : n ≤ 1048576) (hL0 : ∀ r, r < n → L r ≤ 1048576) (ha0 : Tab w a n A L C Z) :
    Calls Try.prog 58 #[.slice a n c] w fun e w' => e = .returned (.tuple #[bidsV (tt (IsBids n L Z)) a n c, .bool (tt (IsBids n L Z))]) ∧ w = w' := by
  have HA := Lib.hid ha0
  have HB := Lib.hid (fun x => areBidders_any x w)
  clear ha0
  by_cases h1 : 1 ≤ (n : Int) ∧ (n : Int) ≤ 4
  · have T1 := Lib.hid (tt_of h1)
    have hn1 : 0 < n := by omega
    have hn4 : n ≤ 4 := by omega
    clear h1
    obtain ⟨ba, oa, rfl, hc0, hr0⟩ := HA.out 0 hn1
    have HR0 := Lib.hid hr0
    clear hr0
    rw [Nat.add_zero] at hc0
    obtain ⟨m, hm⟩ : ∃ m, m = L 0 := ⟨_, rfl⟩
    rw [← hm] at hc0
    have QM := Lib.hid hm
    clear hm
    by_cases h2 : 1 ≤ (m : Int) ∧ (m : Int) ≤ 4
    · have T2 := Lib.hid (tt_of h2)
      have hm1 : 1 ≤ m := by omega
      have hm4 : m ≤ 4 := by omega
      clear h2
      go_enter Try.func58, Try.ntmps58
      go_wp2_with (first
        | (go_at_call 95; refine (HB.out _).mono ?_; rintro e w' ⟨rfl, rfl⟩; rw [T1.out])
        | (go_at_call 95; refine (HB.out _).mono ?_; rintro e w' ⟨rfl, rfl⟩; rw [T2.out]))
      go_loop [2, 3, 5, 20] (fun _ _ _ i => ∃ k : Nat, k ≤ n ∧ i = .int .i64 k ∧ ∀ j, j < k → L j = m ∧ ∀ x, x < m → 0 ≤ Z j x ∧ Z j x ≤ 20) (fun _ _ _ i => n - (intOf i).toNat)
      case atStart => exact ⟨0, Nat.zero_le _, rfl, fun j hj => absurd hj (Nat.not_lt_zero _)⟩
      case round =>
        obtain ⟨k, hk, rfl, hall⟩ := hrel
        have HAll := Lib.hid hall
        clear hall
        by_cases hlt : k < n
        · obtain ⟨bk, ok, hbk, hck, hrk⟩ := HA.out k hlt
          obtain ⟨rfl, rfl⟩ : ba = bk ∧ oa = ok := by simpa using hbk
          clear hbk
          obtain ⟨l, hl⟩ : ∃ l, l = L k := ⟨_, rfl⟩
          rw [← hl] at hck hrk
          have QL := Lib.hid hl
          clear hl
          by_cases he : l = m
          · have d1 : ((l : Int) != (m : Int)) = false := by simp [he]
            have QE := Lib.hid he
            have hl1 : 1 ≤ l := by omega
            have hl2 : l ≤ 1048576 := by omega
            have HMin := Lib.hid (min_any l (C k) (A k) (Z k) w hl1 hl2 hrk)
            have HMax := Lib.hid (max_any l (C k) (A k) (Z k) w hl1 hl2 hrk)
            obtain ⟨y, hy⟩ : ∃ y, y = minF (Z k) (l - 1) := ⟨_, rfl⟩
            obtain ⟨z, hz⟩ : ∃ z, z = maxF (Z k) (l - 1) := ⟨_, rfl⟩
            rw [← hy] at HMin
            rw [← hz] at HMax
            have QY := Lib.hid hy
            have QZ := Lib.hid hz
            clear he hy hz hrk
            by_cases hy0 : y < 0
            · have d2 : decide (y < 0) = true := by simpa using hy0
              have NO := Lib.hid (tt_no (show ¬ IsBids n L Z from fun h => by
                obtain ⟨i, hi, e⟩ := minF_is (Z k) (l - 1)
                have h3 := (h.2 k hlt).2 i (by rw [← QM.out]; have := QE.out; omega)
                rw [← e, ← QY.out] at h3
                omega))
              clear hy0
              go_wp2_with (first
                | (go_at_call 96; refine HMin.out.mono ?_; rintro e w' ⟨rfl, rfl⟩)
                | (go_at_call 97; refine HMax.out.mono ?_; rintro e w' ⟨rfl, rfl⟩))
              go_ret2
              exact ⟨by rw [NO.out]; rfl, rfl⟩
            · have d2 : decide (y < 0) = false := by simpa using hy0
              have HY0 := Lib.hid (show 0 ≤ y by omega)
              clear hy0
              by_cases hz0 : z > 20
              · have d3 : decide (z > 20) = true := by simpa using hz0
                have NO := Lib.hid (tt_no (show ¬ IsBids n L Z from fun h => by
                  obtain ⟨i, hi, e⟩ := maxF_is (Z k) (l - 1)
                  have h3 := (h.2 k hlt).2 i (by rw [← QM.out]; have := QE.out; omega)
                  rw [← e, ← QZ.out] at h3
                  omega))
                clear hz0
                go_wp2_with (first
                  | (go_at_call 96; refine HMin.out.mono ?_; rintro e w' ⟨rfl, rfl⟩)
                  | (go_at_call 97; refine HMax.out.mono ?_; rintro e w' ⟨rfl, rfl⟩))
                go_ret2
                exact ⟨by rw [NO.out]; rfl, rfl⟩
              · have d3 : decide (z > 20) = false := by simpa using hz0
                have HZ0 := Lib.hid (show z ≤ 20 by omega)
                clear hz0
                go_wp2_with (first
                  | (go_at_call 96; refine HMin.out.mono ?_; rintro e w' ⟨rfl, rfl⟩)
                  | (go_at_call 97; refine HMax.out.mono ?_; rintro e w' ⟨rfl, rfl⟩))
                go_round
                case rel => exact ⟨k + 1, by omega, by go_num, fun j hj => by
                  by_cases e : j = k
                  · subst e
                    refine ⟨by rw [← QL.out]; exact QE.out, fun x hx => ?_⟩
                    have h4 := minF_le (Z j) (l - 1) x (by have := QE.out; omega)
                    have h5 := maxF_ge (Z j) (l - 1) x (by have := QE.out; omega)
                    rw [← QY.out] at h4
                    rw [← QZ.out] at h5
                    have := HY0.out
                    have := HZ0.out
                    omega
                  · exact HAll.out j (by omega)⟩
                case measure => simp [intOf]; omega
          · have d1 : ((l : Int) != (m : Int)) = true := by simp; omega
            have NO := Lib.hid (tt_no (show ¬ IsBids n L Z from fun h => he (by rw [QL.out, QM.out]; exact (h.2 k hlt).1)))
            clear he hrk
            go_wp2
            go_ret2
            exact ⟨by rw [NO.out]; rfl, rfl⟩
        · obtain rfl : k = n := by omega
          have YES := Lib.hid (tt_of (show IsBids k L Z from ⟨⟨⟨by omega, by omega⟩, by rw [← QM.out]; omega⟩, fun r hr => by rw [← QM.out]; exact HAll.out r hr⟩))
          go_wp2
          go_ret2
          exact ⟨by rw [YES.out]; rfl, rfl⟩
    · have T2 := Lib.hid (tt_no h2)
      have NO := Lib.hid (tt_no (show ¬ IsBids n L Z from fun h => h2 (by rw [QM.out]; have := h.1.2; omega)))
      clear h2
      go_enter Try.func58, Try.ntmps58
      go_wp2_with (first
        | (go_at_call 95; refine (HB.out _).mono ?_; rintro e w' ⟨rfl, rfl⟩; rw [T1.out])
        | (go_at_call 95; refine (HB.out _).mono ?_; rintro e w' ⟨rfl, rfl⟩; rw [T2.out]))
      go_ret2
      exact ⟨by rw [NO.out]; rfl, rfl⟩
  · have T1 := Lib.hid (tt_no h1)
    have NO := Lib.hid (tt_no (show ¬ IsBids n L Z from fun h => h1 (by have := h.1.1; omega)))
    clear h1
    go_enter Try.func58, Try.ntmps58
    go_wp2_with (go_at_call 95; refine (HB.out (n : Nat)).mono ?_; rintro e w' ⟨rfl, rfl⟩; rw [T1.out])
    go_ret2
    exact ⟨by rw [NO.out]; rfl, rfl⟩

theorem bidItems_any (n c : Nat) (a : Option Addr) (A : Nat → Option Addr) (L C : Nat → Nat) (Z : Nat → Nat → Int) (w : World) (hn : 0 < n) (ha0 : Tab w a n A L C Z) :
    Calls Try.prog 61 #[.slice a n c] w fun e w' => e = .returned (.int .i64 (L 0 : Nat)) ∧ w = w' := by
  obtain ⟨ba, oa, rfl, hc0, _⟩ := ha0 0 hn
  rw [Nat.add_zero] at hc0
  clear ha0
  go_enter Try.func61, Try.ntmps61
  go_wp2
  go_ret
  exact ⟨rfl, rfl⟩
end Go.Proofs.Ytaipodnhnekpjaa
