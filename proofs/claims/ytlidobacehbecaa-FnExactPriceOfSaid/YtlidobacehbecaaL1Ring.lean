/- The model's l1Ring. -/
import Derived.Test.YtlidobacehbecaaL1Different
import Derived.Test.YtlidobacehbecaaDiff
namespace Go.Proofs.Ytlidobacehbecaa
set_option linter.unusedVariables false
open Go.RowKit

set_option maxHeartbeats 800000 in
theorem l1Ring_any (n m c : Nat) (a : Option Addr) (X : Nat → Int) (w : World) (hn : n ≤ 61) (hm : m ≤ 1048576) (ha : Rd w a m X) :
    Calls Try.prog 61 #[.int .i64 n, .slice a m c] w fun e w' => e = .returned (.bool (tt (IsRing n m X))) ∧ ∃ q, w' = w.drewN q := by
  have HA := Lib.hid ha
  go_enter Try.func61, Try.ntmps61
  go_wp2
  go_loopw [4, 5] (fun r i wr => ∃ k : Nat, i = .int .i64 ((k : Int) + 1) ∧ (k = 0 ∨ k + 1 ≤ m) ∧ r = .bool false ∧ (∀ j, 1 ≤ j → j < k + 1 → X 0 < X j) ∧ ∃ q, wr = w.drewN q) (fun _ i _ => m + 1 - (intOf i).toNat)
  case atStart => exact ⟨0, rfl, .inl rfl, rfl, fun j h1 h2 => absurd h1 (by omega), 0, rfl⟩
  case round =>
    obtain ⟨k, rfl, hk, rfl, hs, q, rfl⟩ := hrel
    have H1 := Lib.hid hs
    clear hs
    by_cases hlt : k + 1 < m
    · obtain ⟨ba, oa, rfl, hc0⟩ := ha 0 (by omega)
      obtain ⟨bb, ob, he, hc1⟩ := ha (k + 1) hlt
      obtain ⟨rfl, rfl⟩ : bb = ba ∧ ob = oa := by simpa using he.symm
      rw [Nat.add_zero] at hc0
      have hd1 : decide ((k : Int) + 1 < m) = true := by simp; omega
      have hi1 : (0 : Int) ≤ (k : Int) + 1 := by omega
      have hi2 : (k : Int) + 1 < m := by omega
      have hi3 : ((k : Int) + 1).toNat = k + 1 := by omega
      have hi4 : 0 < m := by omega
      clear he ha hk
      go_wp2
      go_quiet (fail)
      by_cases hle : X (k + 1) ≤ X 0
      · have hd2 : decide (X (k + 1) ≤ X 0) = true := by simpa using hle
        have Hno := Lib.hid (tt_no (show ¬ IsRing n m X from fun h => by have := h.2 (k + 1) (by omega) hlt; omega))
        go_wp2
        go_ret
        exact ⟨by rw [Hno.out]; rfl, q + nq, by rw [World.drewN_drewN]⟩
      · have hd2 : decide (X (k + 1) ≤ X 0) = false := by simpa using hle
        go_wp2
        go_roundw
        case rel => exact ⟨k + 1, by go_num, .inr (by omega), rfl, fun j h1 h2 => by
          by_cases e : j = k + 1
          · subst e; omega
          · exact H1.out j h1 (by omega), q + nq, rfl⟩
        case measure => simp [intOf]; omega
    · have hd1 : decide ((k : Int) + 1 < m) = false := by simp; omega
      have Hyes := Lib.hid (tt_congr (show IsRing n m X ↔ IsWay n m X from ⟨fun h => h.1, fun h => ⟨h, fun i h1 h2 => H1.out i h1 (by have := h.2; omega)⟩⟩))
      clear ha
      go_wp2_with fail
      refine (l1Different_any n m c a X _ hn hm (HA.out.drewN _)).mono ?_
      rintro e w' ⟨rfl, rfl⟩
      go_wp2
      go_ret
      exact ⟨by rw [Hyes.out]; rfl, q, rfl⟩
end Go.Proofs.Ytlidobacehbecaa
