/- The program's size of its array of rates: how many moneys there are. -/
import Derived.Test.YtmjbocgoinfamaaProg
import Derived.Test.YtmjbocgoinfamaaReadRates
import Derived.Test.YtmjbocgoinfamaaValue
namespace Go.Proofs.Ytmjbocgoinfamaa
set_option linter.unusedVariables false
open Go.RowKit

/-- The array F is kept for n moneys. -/
structure Kept (n : Nat) (F : Nat → Int) : Prop where
  le : n ≤ 5
  diag : ∀ i, i < n → atF F i i ≠ 0
  none : n < 5 → atF F n n = 0
  rate : ∀ i k, i < n → k < n → 0 ≤ atF F i k ∧ atF F i k ≤ 144

theorem atF_rate {n : Nat} {L : Nat → Nat} {Z : Nat → Nat → Int} (h : IsRates n L Z) {i k : Nat} (hi : i < n) (hk : k < n) : atF (rateF n L Z) i k = Z i k := by
  have h5 := h.1.2
  have e1 : (i * 5 + k) / 5 = i := by omega
  have e2 : (i * 5 + k) % 5 = k := by omega
  unfold atF
  rw [← rateF_yes h, e1, e2, if_pos ⟨hi, hk⟩]

theorem Kept.of_rates {n : Nat} {L : Nat → Nat} {Z : Nat → Nat → Int} (h : IsRates n L Z) : Kept n (rateF n L Z) := by
  refine ⟨h.1.2, fun i hi => ?_, fun h5 => ?_, fun i k hi hk => ?_⟩
  · rw [atF_rate h hi hi, ((h.2 i hi).2 i hi).2 rfl]; decide
  · have e1 : (n * 5 + n) / 5 = n := by omega
    unfold atF
    rw [← rateF_yes h, e1, if_neg (by omega)]
  · rw [atF_rate h hi hk]
    have := ((h.2 i hi).2 k hk).1
    omega

set_option maxHeartbeats 400000 in
theorem size_any (n : Nat) (F : Nat → Int) (w : World) (h : Kept n F) :
    Calls Try.prog 59 #[.agg (cellsV 25 F)] w fun e w' => e = .returned (.int .i64 n) ∧ Below w.heap.size w w' := by
  have hn5 := h.le
  have H := Lib.hid h
  clear h
  go_enter Try.func59, Try.ntmps59
  go_wp2_with ((with_reducible refine arr_box 25 _ _ F ?_ ?_); exact rfl; intro w1 hA1 hs1 hb1)
  have A1 := Lib.hid hA1
  have B1 := Lib.hid hb1
  clear hA1 hs1 hb1
  go_loop [3] (fun i => ∃ k : Nat, k ≤ n ∧ i = .int .i64 k) (fun i => n - (intOf i).toNat)
  case atStart => exact ⟨0, by omega, rfl⟩
  case round =>
    obtain ⟨k, hk, rfl⟩ := hrel
    by_cases hlt : k < n
    · have hcell : w1.cell? ⟨w.heap.size, k * 5 + k, none⟩ = some (.int .i64 (atF F k k)) := A1.out.cell (j := k * 5 + k) (by omega)
      have hne : (atF F k k != 0) = true := by simpa using H.out.diag k hlt
      have hk5 : k < 5 := by omega
      have hd : decide ((k : Int) < 5) = true := by simp; omega
      go_wp2
      go_round
      case rel => exact ⟨k + 1, by omega, by go_num⟩
      case measure => simp [intOf]; omega
    · obtain rfl : k = n := by omega
      by_cases hk5 : k < 5
      · have hcell : w1.cell? ⟨w.heap.size, k * 5 + k, none⟩ = some (.int .i64 (atF F k k)) := A1.out.cell (j := k * 5 + k) (by omega)
        have hne : (atF F k k != 0) = false := by simpa using H.out.none hk5
        have hd : decide ((k : Int) < 5) = true := by simp; omega
        go_wp2
        go_ret
        exact ⟨rfl, B1.out⟩
      · have hd : decide ((k : Int) < 5) = false := by simp; omega
        go_wp2
        go_ret
        exact ⟨rfl, B1.out⟩
end Go.Proofs.Ytmjbocgoinfamaa
