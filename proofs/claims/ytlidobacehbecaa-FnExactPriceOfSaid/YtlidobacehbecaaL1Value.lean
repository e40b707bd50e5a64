/- The model's l1Value: the product along a list. -/
import Derived.Test.YtlidobacehbecaaL1Power
namespace Go.Proofs.Ytlidobacehbecaa
set_option linter.unusedVariables false
open Go.RowKit

set_option maxHeartbeats 800000 in
theorem l1Value_any (n c m d : Nat) (a b : Option Addr) (A : Nat → Option Addr) (L C : Nat → Nat) (Z : Nat → Nat → Int) (W : Nat → Int) (steps : Int) (w : World) (hr : IsRates n L Z) (ha : Tab w a n A L C Z) (hb : Rd w b m W)
    (hm1 : 1 ≤ m) (hm2 : m ≤ 6) (hs1 : steps - m + 1 ≤ 6) (hs0 : 0 ≤ steps) (hW : ∀ i, i < m → 0 ≤ W i ∧ W i < n) :
    Calls Try.prog 62 #[.slice a n c, .slice b m d, .int .i64 steps] w fun e w' => e = .returned (.int .i64 (valF Z W (p12 (steps - m + 1).toNat) (m - 1))) ∧ ∃ q, w' = w.drewN q := by
  have hn5 := hr.1.2
  have hv := p12_small (steps - m + 1).toNat (by omega)
  have hZ : ∀ i k, i < n → k < n → 0 ≤ Z i k ∧ Z i k ≤ 144 := fun i k hi hk => by have := ((hr.2 i hi).2 k hk).1; omega
  have hZ' : ∀ j, j + 1 < m → 0 ≤ Z (W j).toNat (W (j + 1)).toNat ∧ Z (W j).toNat (W (j + 1)).toNat ≤ 144 := fun j hj => by
    have h1 := hW j (by omega)
    have h2 := hW (j + 1) hj
    exact hZ _ _ (by omega) (by omega)
  obtain ⟨v0, hv0⟩ : ∃ v0, v0 = p12 (steps - m + 1).toNat := ⟨_, rfl⟩
  rw [← hv0] at hv ⊢
  have V0 := Lib.hid hv0
  have V1 := Lib.hid hZ'
  have V2 := Lib.hid hr
  have V3 := Lib.hid ha
  have V4 := Lib.hid hb
  have V5 := Lib.hid hW
  clear hv0 hZ hZ' hr ha hb hW
  go_enter Try.func62, Try.ntmps62
  go_wp2_with fail
  refine (l1Power_any _ _ (by omega) (by omega)).mono ?_
  rintro e w' ⟨rfl, rfl⟩
  rw [← V0.out]
  go_wp2
  go_loopw [7, 8] (fun v i wr => ∃ k : Nat, k + 1 ≤ m ∧ i = .int .i64 ((k : Int) + 1) ∧ v = .int .i64 (valF Z W v0 k) ∧ ∃ q, wr = w.drewN q) (fun _ i _ => m - (intOf i).toNat)
  case atStart => exact ⟨0, by omega, rfl, rfl, 0, rfl⟩
  case round =>
    obtain ⟨k, hk, rfl, rfl, q, rfl⟩ := hrel
    obtain ⟨hb1, hb2⟩ := valF_bound (Z := Z) (W := W) k (by omega) hv (fun j hj => V1.out j (by omega))
    by_cases hlt : k + 1 < m
    · obtain ⟨hb3, hb4⟩ := valF_bound (Z := Z) (W := W) (k + 1) (by omega) hv (fun j hj => V1.out j (by omega))
      have hstep : valF Z W v0 (k + 1) = valF Z W v0 k * Z (W k).toNat (W (k + 1)).toNat := rfl
      obtain ⟨bb, ob, rfl, hcb1⟩ := V4.out k (by omega)
      obtain ⟨bb', ob', hbe, hcb2⟩ := V4.out (k + 1) hlt
      obtain ⟨rfl, rfl⟩ : bb' = bb ∧ ob' = ob := by simpa using hbe.symm
      obtain ⟨hx1, hx2⟩ := V5.out k (by omega)
      obtain ⟨hy1, hy2⟩ := V5.out (k + 1) hlt
      obtain ⟨x, hx⟩ := Int.eq_ofNat_of_zero_le hx1
      obtain ⟨y, hy⟩ := Int.eq_ofNat_of_zero_le hy1
      rw [hx] at hx2 hcb1
      rw [hy] at hy2 hcb2
      rw [hx, hy, Int.toNat_natCast, Int.toNat_natCast] at hstep
      have hxn : x < n := by omega
      have hyn : y < n := by omega
      obtain ⟨ba, oa, rfl, hca, hra⟩ := V3.out x hxn
      have hLx := (V2.out.2 x hxn).1
      have hLy : y < L x := by omega
      obtain ⟨bc, oc, hA, hcc⟩ := hra y (by omega)
      rw [hA] at hca
      have hmul : wrap64 (valF Z W v0 k * Z x y) = valF Z W v0 (k + 1) := by rw [← hstep]; exact IntWalk.wrap64_in _ ⟨by omega, by omega⟩
      have e1 : IntKind.i64.wrap ((k : Int) + 1 - 1) = (k : Int) := by rw [show (k : Int) + 1 - 1 = (k : Int) from by omega]; exact IntWalk.i64_in _ (by omega)
      have hd1 : decide ((k : Int) + 1 < m) = true := by simp; omega
      have hi1 : (0 : Int) ≤ (k : Int) + 1 := by omega
      have hi2 : (k : Int) < m := by omega
      have hi3 : (k : Int) + 1 < m := by omega
      have hi4 : (x : Int) < n := by omega
      have hi5 : (y : Int) < (L x : Int) := by omega
      have hi6 : ((k : Int) + 1).toNat = k + 1 := by omega
      have E := Lib.hid hmul
      clear hx hy hx1 hy1 hbe hA hra hstep hLx hmul
      go_wp2
      go_quiet (fail)
      go_wp2
      go_roundw
      case rel => exact ⟨k + 1, by omega, by go_num, by rw [E.out], q + nq, rfl⟩
      case measure => simp [intOf]; omega
    · obtain rfl : k + 1 = m := by omega
      go_wp2
      go_ret
      exact ⟨ret_int rfl, q, rfl⟩
end Go.Proofs.Ytlidobacehbecaa
