/- The program's value of a list of moneys over its array of rates. -/
import Derived.Test.YtmjbocgoinfamaaUnitAfter
import Derived.Test.YtmjbocgoinfamaaMem
namespace Go.Proofs.Ytmjbocgoinfamaa
set_option linter.unusedVariables false
open Go.RowKit

/-- The array's number of row i at k. -/
def atF (F : Nat → Int) (i k : Nat) : Int := F (i * 5 + k)

set_option maxHeartbeats 800000 in
theorem value_any (n m d : Nat) (F : Nat → Int) (b : Option Addr) (W : Nat → Int) (steps : Int) (w : World) (hn5 : n ≤ 5) (hF : ∀ i k, i < n → k < n → 0 ≤ atF F i k ∧ atF F i k ≤ 144) (hb : Rd w b m W)
    (hm1 : 2 ≤ m) (hm2 : m ≤ 6) (hmd : m ≤ d) (hs1 : steps - m + 1 ≤ 6) (hs0 : 0 ≤ steps) (hW : ∀ i, i < m → 0 ≤ W i ∧ W i < n) :
    Calls Try.prog 99 #[.agg (cellsV 25 F), .slice b m d, .int .i64 steps] w fun e w' => e = .returned (.int .i64 (valF (atF F) W (p12 (steps - m + 1).toNat) (m - 1))) ∧ Below w.heap.size w w' := by
  have hv := p12_small (steps - m + 1).toNat (by omega)
  have hZ' : ∀ j, j + 1 < m → 0 ≤ atF F (W j).toNat (W (j + 1)).toNat ∧ atF F (W j).toNat (W (j + 1)).toNat ≤ 144 := fun j hj => by
    have h1 := hW j (by omega)
    have h2 := hW (j + 1) hj
    exact hF _ _ (by omega) (by omega)
  obtain ⟨v0, hv0⟩ : ∃ v0, v0 = p12 (steps - m + 1).toNat := ⟨_, rfl⟩
  rw [← hv0] at hv ⊢
  obtain ⟨bb, ob, rfl, -⟩ := hb 0 (by omega)
  have hlt := (hb.lt (show 0 < m by omega))
  have V0 := Lib.hid hv0
  have V1 := Lib.hid hZ'
  have V4 := Lib.hid hb
  have V5 := Lib.hid hW
  have e1 : ((m : Int) - 1).toNat = m - 1 := by omega
  clear hv0 hF hZ' hb hW hlt
  go_enter Try.func99, Try.ntmps99
  go_wp2_with (first
    | ((with_reducible refine arr_box 25 _ _ F ?_ ?_); exact rfl; intro w1 hA1 hs1 hb1; have S1 := Lib.hid hs1; clear hs1)
    | (go_at_call 60; refine (unitAfter_any _ _ (by omega) (by omega)).mono ?_; rintro e w' ⟨rfl, rfl⟩; rw [← V0.out]))
  have A1 := Lib.hid hA1
  have B1 := Lib.hid hb1
  clear hA1 hb1
  go_loop [7, 8, 9, 19] (fun v _ _ i => ∃ k : Nat, k + 1 ≤ m ∧ i = .int .i64 k ∧ v = .int .i64 (valF (atF F) W v0 k)) (fun _ _ _ i => m - (intOf i).toNat)
  case atStart => exact ⟨0, by omega, rfl, rfl⟩
  case round =>
    obtain ⟨k, hk, rfl, rfl⟩ := hrel
    obtain ⟨hb1, hb2⟩ := valF_bound (Z := atF F) (W := W) k (by omega) hv (fun j hj => V1.out j (by omega))
    by_cases hlt : k + 1 < m
    · obtain ⟨hb3, hb4⟩ := valF_bound (Z := atF F) (W := W) (k + 1) (by omega) hv (fun j hj => V1.out j (by omega))
      have hstep : valF (atF F) W v0 (k + 1) = valF (atF F) W v0 k * atF F (W k).toNat (W (k + 1)).toNat := rfl
      have hR := V4.out.below (Nat.le_refl _) B1.out
      obtain ⟨bb', ob', hbe, hcb1⟩ := hR k (by omega)
      obtain ⟨rfl, rfl⟩ : bb' = bb ∧ ob' = ob := by simpa using hbe.symm
      obtain ⟨bb2, ob2, hbe2, hcb2⟩ := hR (k + 1) hlt
      obtain ⟨rfl, rfl⟩ : bb2 = bb' ∧ ob2 = ob' := by simpa using hbe2.symm
      rw [show ob2 + (k + 1) = ob2 + 1 + k from by omega] at hcb2
      obtain ⟨hx1, hx2⟩ := V5.out k (by omega)
      obtain ⟨hy1, hy2⟩ := V5.out (k + 1) hlt
      obtain ⟨x, hx⟩ := Int.eq_ofNat_of_zero_le hx1
      obtain ⟨y, hy⟩ := Int.eq_ofNat_of_zero_le hy1
      rw [hx] at hx2 hcb1
      rw [hy] at hy2 hcb2
      rw [hx, hy, Int.toNat_natCast, Int.toNat_natCast] at hstep
      have hxn : x < n := by omega
      have hyn : y < n := by omega
      have hcell : w1.cell? ⟨w.heap.size, x * 5 + y, none⟩ = some (.int .i64 (atF F x y)) := A1.out.cell (j := x * 5 + y) (by omega)
      have hmul : wrap64 (valF (atF F) W v0 k * atF F x y) = valF (atF F) W v0 (k + 1) := by rw [← hstep]; exact IntWalk.wrap64_in _ ⟨by omega, by omega⟩
      have hk1 : k < m - 1 := by omega
      have hx5 : x < 5 := by omega
      have hy5 : y < 5 := by omega
      have E := Lib.hid hmul
      clear hx hy hx1 hy1 hbe hbe2 hstep hmul hR
      go_wp2
      go_round
      case rel => exact ⟨k + 1, by omega, by go_num, by rw [E.out]⟩
      case measure => simp [intOf]; omega
    · obtain rfl : k + 1 = m := by omega
      go_wp2
      go_ret
      exact ⟨ret_int rfl, B1.out⟩
end Go.Proofs.Ytmjbocgoinfamaa
