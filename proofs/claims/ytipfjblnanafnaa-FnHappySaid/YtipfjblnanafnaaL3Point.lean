/- The model's l3Point: whom one points at. -/
import Derived.Test.YtipfjblnanafnaaTradeModel
namespace Go.Proofs.Ytipfjblnanafnaa
set_option linter.unusedVariables false
open Go.RowKit

theorem diff_nat {n : Nat} {X : Nat → Int} (h : IsDiff n n X) {k : Nat} (hk : k < n) : ∃ x : Nat, X k = x ∧ x < n := by
  have h1 := h.1 k hk
  obtain ⟨x, hx⟩ := Int.eq_ofNat_of_zero_le h1.1
  exact ⟨x, hx, by omega⟩

set_option maxHeartbeats 800000 in
theorem l3Point_any (n c m : Nat) (a : Option Addr) (X : Nat → Int) (w : World) (hn : n ≤ 5) (hm : m < 2 ^ 62) (hd : IsDiff n n X) (ha : Rd w a n X) :
    Calls Try.prog 61 #[.slice a n c, .int .i64 (m : Nat)] w fun e w' => e = .returned (.int .i64 (ptN X m.testBit n : Nat)) ∧ w = w' := by
  have HD := Lib.hid hd
  have HM := Lib.hid hm
  clear hd hm
  go_enter Try.func61, Try.ntmps61
  go_wp2
  go_loop [4, 5] (fun _ i => ∃ k : Nat, k ≤ n ∧ i = .int .i64 k ∧ ∀ j, j < k → m.testBit (X j).toNat = false) (fun _ i => n - (intOf i).toNat)
  case atStart => exact ⟨0, Nat.zero_le _, rfl, fun j hj => absurd hj (Nat.not_lt_zero _)⟩
  case round =>
    obtain ⟨k, hk, rfl, hno⟩ := hrel
    have HN := Lib.hid hno
    clear hno
    by_cases hlt : k < n
    · obtain ⟨ba, oa, rfl, hca⟩ := ha k hlt
      clear ha
      obtain ⟨x, hx, hxn⟩ := diff_nat HD.out hlt
      have hhas := bit_has m x HM.out
      rw [hx] at hca
      have HX := Lib.hid hx
      clear hx
      by_cases hb : m.testBit x = true
      · rw [hb] at hhas
        have HP := Lib.hid (show ptN X m.testBit n = x by rw [ptN_first HN.out (by rw [HX.out]; exact hb) hlt, HX.out]; rfl)
        clear hb
        go_wp2
        go_ret
        exact ⟨by rw [HP.out]; rfl, rfl⟩
      · have hb' : m.testBit x = false := by simpa using hb
        rw [hb'] at hhas
        have HB := Lib.hid hb'
        clear hb hb'
        go_wp2
        go_round
        case rel => exact ⟨k + 1, by omega, by go_num, fun j hj => by
          by_cases e : j = k
          · subst e; rw [HX.out]; exact HB.out
          · exact HN.out j (by omega)⟩
        case measure => simp [intOf]; omega
    · obtain rfl : k = n := by omega
      clear ha
      have HP := Lib.hid (ptN_none HN.out)
      go_wp2
      go_ret
      exact ⟨by rw [HP.out]; rfl, rfl⟩
end Go.Proofs.Ytipfjblnanafnaa
