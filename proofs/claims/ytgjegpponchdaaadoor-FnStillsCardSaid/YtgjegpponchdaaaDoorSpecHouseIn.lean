/- The model's HouseIn. -/
import Derived.Test.YtgjegpponchdaaaDoorWishes
import Derived.Test.YtgjegpponchdaaaDoorL1Every
namespace Go.Proofs.YtgjegpponchdaaaDoor
set_option linter.unusedVariables false
set_option linter.unusedSimpArgs false
open Go.RowKit

/-- Some bool. -/
def SomeBool (e : Ending) : Prop := ∃ b, e = .returned (.bool b)

set_option maxHeartbeats 800000 in
/-- Of a list however long the model's l1Every tells something. -/
theorem l1Every_some (m c : Nat) (a : Option Addr) (X : Nat → Int) (w : World) (hm : m ≤ 1048576) (ha : Rd w a m X) :
    Calls Tryd.prog 62 #[.slice a m c] w fun e w' => SomeBool e ∧ w = w' := by
  go_enter Tryd.func62, Tryd.ntmps62
  go_wp2
  go_loop [2, 3, 4] (fun r s i => ∃ k : Nat, k ≤ m ∧ i = .int .i64 k ∧ r = .bool false ∧ ∃ S : Int, s = .int .i64 S) (fun _ _ i => m - (intOf i).toNat)
  case atStart => exact ⟨0, Nat.zero_le _, rfl, rfl, 0, rfl⟩
  case round =>
    obtain ⟨k, hk, rfl, rfl, S, rfl⟩ := hrel
    by_cases hlt : k < m
    · obtain ⟨ba, oa, rfl, hca⟩ := ha k hlt
      clear ha
      by_cases hin : InR (X k) 0 (m - 1)
      · have B1 := Lib.hid (tt_of hin)
        unfold InR at hin
        obtain ⟨x, hx⟩ := Int.eq_ofNat_of_zero_le hin.1
        have hxn : x < m := by omega
        clear hin
        rw [hx] at hca B1
        clear hx
        go_wp2_with (go_at_call 63; refine (l6In_any _ _ _ _).mono ?_; rintro e w' ⟨rfl, rfl⟩; rw [B1.out])
        go_round
        case rel => exact ⟨k + 1, by omega, by go_num, rfl, _, rfl⟩
        case measure => simp [intOf]; omega
      · have B1 := Lib.hid (tt_no hin)
        clear hin
        go_wp2_with (go_at_call 63; refine (l6In_any _ _ _ _).mono ?_; rintro e w' ⟨rfl, rfl⟩; rw [B1.out])
        go_ret
        exact ⟨⟨_, rfl⟩, rfl⟩
    · obtain rfl : k = m := by omega
      clear ha
      go_wp2
      go_ret
      exact ⟨⟨_, rfl⟩, rfl⟩

set_option maxHeartbeats 800000 in
theorem specHouseIn_any (n c : Nat) (a : Option Addr) (A : Nat → Option Addr) (L C : Nat → Nat) (Z : Nat → Nat → Int) (w : World) (hn0 : n ≤ 1048576) (hL0 : ∀ r, r < n → L r ≤ 1048576) (ha0 : Tab w a n A L C Z) :
    Calls Tryd.prog 38 #[.slice a n c] w fun e w' => e = .returned (.bool (tt (IsWishes n L Z))) ∧ w = w' := by
  have HA := Lib.hid ha0
  have HL := Lib.hid hL0
  clear ha0 hL0
  go_enter Tryd.func38, Tryd.ntmps38
  go_wp2
  go_loop [2, 3] (fun _ i => ∃ k : Nat, k ≤ n ∧ i = .int .i64 k ∧ (n ≤ 5 → ∀ j, j < k → L j = n ∧ IsDiff n n (Z j))) (fun _ i => n - (intOf i).toNat)
  case atStart => exact ⟨0, Nat.zero_le _, rfl, fun _ j hj => absurd hj (Nat.not_lt_zero _)⟩
  case round =>
    obtain ⟨k, hk, rfl, hall⟩ := hrel
    have HAll := Lib.hid hall
    clear hall
    by_cases hlt : k < n
    · obtain ⟨ba, oa, rfl, hca, hra⟩ := HA.out k hlt
      have HRd := Lib.hid hra
      have hLk := HL.out k hlt
      clear hra
      by_cases he : L k = n
      · have hd : ((L k : Int) != (n : Int)) = false := by simp [he]
        by_cases h5 : n ≤ 5
        · by_cases hdf : IsDiff n n (Z k)
          · have T2 := Lib.hid (tt_of (show IsDiff (L k) (L k) (Z k) by rw [he]; exact hdf))
            have HD := Lib.hid hdf
            have HE := Lib.hid he
            have hl61 : L k ≤ 61 := by omega
            clear hdf he
            go_wp2_with (go_at_call 62; refine (l1Every_any (L k) (C k) _ (Z k) _ hl61 HRd.out).mono ?_; rintro e w' ⟨rfl, rfl⟩; rw [T2.out])
            go_round
            case rel => exact ⟨k + 1, by omega, by go_num, fun _ j hj => by
              by_cases e : j = k
              · subst e; exact ⟨HE.out, HD.out⟩
              · exact HAll.out h5 j (by omega)⟩
            case measure => simp [intOf]; omega
          · have T2 := Lib.hid (tt_no (show ¬ IsDiff (L k) (L k) (Z k) by rw [he]; exact hdf))
            have T3 := Lib.hid (tt_no (show ¬ IsWishes n L Z from fun h => hdf (h.2 k hlt).2))
            have hl61 : L k ≤ 61 := by omega
            clear hdf he
            go_wp2_with (go_at_call 62; refine (l1Every_any (L k) (C k) _ (Z k) _ hl61 HRd.out).mono ?_; rintro e w' ⟨rfl, rfl⟩; rw [T2.out])
            go_ret
            exact ⟨by rw [T3.out]; rfl, rfl⟩
        · have T3 := Lib.hid (tt_no (show ¬ IsWishes n L Z from fun h => h5 h.1.2))
          clear he
          go_wp2_with fail
          refine (l1Every_some (L k) (C k) _ (Z k) _ hLk HRd.out).mono ?_
          rintro e w' ⟨⟨b, rfl⟩, rfl⟩
          cases b
          · go_wp2
            go_ret
            exact ⟨by rw [T3.out]; rfl, rfl⟩
          · go_wp2
            go_round
            case rel => exact ⟨k + 1, by omega, by go_num, fun h => absurd h h5⟩
            case measure => simp [intOf]; omega
      · have hd : ((L k : Int) != (n : Int)) = true := by simp; omega
        have T3 := Lib.hid (tt_no (show ¬ IsWishes n L Z from fun h => he (h.2 k hlt).1))
        clear he
        go_wp2
        go_ret
        exact ⟨by rw [T3.out]; rfl, rfl⟩
    · obtain rfl : k = n := by omega
      have TE := Lib.hid (tt_congr (show InR (k : Int) 2 5 ↔ IsWishes k L Z from ⟨fun h => ⟨⟨by have := h.1; omega, by have := h.2; omega⟩, HAll.out (by have := h.2; omega)⟩, fun h => ⟨by have := h.1.1; omega, by have := h.1.2; omega⟩⟩))
      go_wp2_with (go_at_call 63; refine (l6In_any _ _ _ _).mono ?_; rintro e w' ⟨rfl, rfl⟩; rw [TE.out])
      go_ret
      exact ⟨rfl, rfl⟩
theorem specHouseIn_below (n c : Nat) (a : Option Addr) (A : Nat → Option Addr) (L C : Nat → Nat) (Z : Nat → Nat → Int) (w : World) (hn0 : n ≤ 1048576) (hL0 : ∀ r, r < n → L r ≤ 1048576) (ha0 : Tab w a n A L C Z) :
    Calls Tryd.prog 38 #[.slice a n c] w fun e w' => e = .returned (.bool (tt (IsWishes n L Z))) ∧ Below w.heap.size w w' := by
  refine (specHouseIn_any n c a A L C Z w hn0 hL0 ha0).mono ?_
  rintro e w' ⟨rfl, rfl⟩
  exact ⟨rfl, Below.refl _ _⟩
end Go.Proofs.YtgjegpponchdaaaDoor
