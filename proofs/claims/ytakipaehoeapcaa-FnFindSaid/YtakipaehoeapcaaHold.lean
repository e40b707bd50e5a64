/- The program's hold. -/
import Derived.Test.YtakipaehoeapcaaReadPrices
import Derived.Test.YtakipaehoeapcaaSize
namespace Go.Proofs.Ytakipaehoeapcaa
set_option linter.unusedVariables false
open Go.RowKit

/-- In an array F kept for n moneys the prices W hold. -/
def HoldsF (n : Nat) (F : Nat → Int) (W : Nat → Int) : Prop := ∀ i, i < n → ∀ k, k < n → atF F i k * W k ≤ 12 * W i

theorem cell_one {w : World} {v : Value} {t : Nat} {w1 : World} (hb : Below (w.alloc (.cells #[v] t)).heap.size (w.alloc (.cells #[v] t)) w1) : w1.cell? ⟨w.heap.size, 0, none⟩ = some v :=
  (hb.cell (p := ⟨w.heap.size, 0, none⟩) (by simp)).trans (cell_of_row _ _ _ #[v] t (0, 0) (heap_alloc_last w _))

theorem prodF_le {n : Nat} {F W : Nat → Int} (hp : IsPrices n W) (hk : Kept n F) {i j : Nat} (hi : i < n) (hj : j < n) : 0 ≤ atF F i j * W j ∧ atF F i j * W j ≤ 144000000000 := by
  obtain ⟨h1, h2⟩ := hk.rate i j hi hj
  obtain ⟨h3, h4⟩ := hp.2 j hj
  have h5 : atF F i j * W j ≤ 144 * 1000000000 := Int.mul_le_mul h2 h4 (by omega) (by omega)
  exact ⟨Int.mul_nonneg (by omega) (by omega), by omega⟩

set_option maxHeartbeats 1600000 in
theorem hold_any (n d : Nat) (b : Option Addr) (W F : Nat → Int) (w : World) (hp : IsPrices n W) (hk : Kept n F) (hb : Rd w b n W) :
    Calls Try.prog 69 #[.agg #[.slice b n d], .agg (cellsV 25 F)] w fun e w' => e = .returned (.bool (tt (HoldsF n F W))) ∧ Below w.heap.size w w' := by
  have HP := Lib.hid hp
  have HK := Lib.hid hk
  have HB := Lib.hid hb
  have h5 := hp.1.2
  clear hp hk hb
  go_enter Try.func69, Try.ntmps69
  go_wp2_with ((with_reducible refine arr_box 25 _ _ F ?_ ?_); exact rfl; intro w1 hA1 hs1 hb1; have hc1 := cell_one hb1; have HA := Lib.hid hA1; have Hb := Lib.hid hb1; clear hA1 hs1 hb1)
  have A1 := Lib.hid (show ArrAt w1 (w.heap.size + 1) 49 25 F by have := HA.out; rwa [show (w.alloc (Obj.cells #[Value.slice b n d] 69)).heap.size = w.heap.size + 1 from by simp] at this)
  have B1 := Lib.hid ((below_alloc (Below.refl w.heap.size w) _).trans (Hb.out.mono (by simp)))
  clear HA Hb
  go_loop [4, 5, 6, 7, 8, 12] (fun r _ _ _ _ s => ∃ i : Nat, i ≤ n ∧ s = .int .i64 i ∧ r = .bool false ∧ ∀ i', i' < i → ∀ k, k < n → atF F i' k * W k ≤ 12 * W i') (fun _ _ _ _ _ s => n - (intOf s).toNat)
  case atStart => exact ⟨0, Nat.zero_le _, rfl, rfl, fun j hj => absurd hj (Nat.not_lt_zero _)⟩
  case round =>
    obtain ⟨i, hi, rfl, rfl, hall⟩ := hrel
    have G1 := Lib.hid hall
    clear hall
    by_cases hlt : i < n
    · obtain ⟨bb, ob, rfl, hcb⟩ := (HB.out.below (Nat.le_refl _) B1.out) i hlt
      have hw := HP.out.2 i hlt
      have hw1 := hw.1
      have hw2 := hw.2
      clear hw
      go_wp2
      go_loop [4, 7, 8, 20] (fun r _ _ s => ∃ j : Nat, j ≤ n ∧ s = .int .i64 j ∧ r = .bool false ∧ ∀ k, k < j → atF F i k * W k ≤ 12 * W i) (fun _ _ _ s => n - (intOf s).toNat)
      case atStart => exact ⟨0, Nat.zero_le _, rfl, rfl, fun j hj => absurd hj (Nat.not_lt_zero _)⟩
      case round =>
        obtain ⟨j, hj, rfl, rfl, hall⟩ := hrel
        have G2 := Lib.hid hall
        clear hall
        by_cases hjlt : j < n
        · have hcb2 : w1.cell? ⟨bb, ob + j, none⟩ = some (.int .i64 (W j)) := by
            obtain ⟨b', o', he, hc'⟩ := (HB.out.below (Nat.le_refl _) B1.out) j hjlt
            cases he; exact hc'
          have hcF : w1.cell? ⟨w.heap.size + 1, i * 5 + j, none⟩ = some (.int .i64 (atF F i j)) := A1.out.cell (j := i * 5 + j) (by omega)
          have hp := prodF_le HP.out HK.out hlt hjlt
          have hp1 := hp.1
          have hp2 := hp.2
          have hi5 : i < 5 := by omega
          have hj5 : j < 5 := by omega
          clear hp
          by_cases hq : atF F i j * W j ≤ 12 * W i
          · have hd : decide (12 * W i < atF F i j * W j) = false := by simpa using hq
            have HQ := Lib.hid hq
            clear hq
            go_wp2
            go_round
            case rel =>
              exact ⟨j + 1, by omega, by go_num, rfl, fun k hk => by
                by_cases e : k = j
                · subst e; exact HQ.out
                · exact G2.out k (by omega)⟩
            case measure => simp [intOf]; omega
          · have hd : decide (12 * W i < atF F i j * W j) = true := by simpa using hq
            have hno := Lib.hid (tt_no (show ¬ HoldsF n F W from fun h => hq (h i hlt j hjlt)))
            clear hq
            go_wp2
            go_ret
            exact ⟨by rw [hno.out]; rfl, B1.out⟩
        · obtain rfl : j = n := by omega
          go_wp2
          go_round
          case rel =>
            exact ⟨i + 1, by omega, by go_num, rfl, fun i' hi' => by
              by_cases e : i' = i
              · subst e; exact G2.out
              · exact G1.out i' (by omega)⟩
          case measure => simp [intOf]; omega
    · obtain rfl : i = n := by omega
      have hyes := Lib.hid (tt_of (show HoldsF i F W from G1.out))
      go_wp2
      go_ret
      exact ⟨by rw [hyes.out]; rfl, B1.out⟩
end Go.Proofs.Ytakipaehoeapcaa
