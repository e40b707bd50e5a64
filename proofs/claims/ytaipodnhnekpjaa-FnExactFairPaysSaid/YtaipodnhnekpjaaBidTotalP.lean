/- The program's total of a deal. -/
import Derived.Test.YtaipodnhnekpjaaDealsWay
import Derived.Test.YtaipodnhnekpjaaProg
namespace Go.Proofs.Ytaipodnhnekpjaa
set_option linter.unusedVariables false
set_option linter.unusedSimpArgs false
open Go.RowKit

set_option maxHeartbeats 800000 in
/-- n bidders, each one's row at least m long; each one gets an item or none. -/
theorem bidTotal_any (n c q d m : Nat) (a b : Option Addr) (A : Nat → Option Addr) (L C : Nat → Nat) (Z : Nat → Nat → Int) (D : Nat → Int) (w : World) (hq : q ≤ n) (hn : n ≤ 64) (hL : ∀ r, r < n → L r = m) (hZ : ∀ r, r < n → ∀ x, x < m → 0 ≤ Z r x ∧ Z r x ≤ 20) (hD : ∀ i, i < q → -1 ≤ D i ∧ D i < m) (ha0 : Tab w a n A L C Z) (hb0 : Rd w b q D) :
    Calls Try.prog 98 #[.slice a n c, .slice b q d] w fun e w' => e = .returned (.int .i64 (dealT Z D q)) ∧ w = w' := by
  have HA := Lib.hid ha0
  have HB := Lib.hid hb0
  have HD := Lib.hid hD
  have HZ := Lib.hid hZ
  have HR := Lib.hid (fun k (hk : k ≤ q) => dealT_range (Z := Z) (D := D) (M := 20) (by omega) k fun i hi hd => hZ i (by omega) _ (by have := hD i (by omega); omega))
  have HL := Lib.hid hL
  clear ha0 hb0 hD hZ hL
  go_enter Try.func98, Try.ntmps98
  go_wp2
  go_loop [5, 6, 7, 10] (fun s _ _ i => ∃ k : Nat, k ≤ q ∧ i = .int .i64 k ∧ s = .int .i64 (dealT Z D k)) (fun _ _ _ i => q - (intOf i).toNat)
  case atStart => exact ⟨0, Nat.zero_le _, rfl, rfl⟩
  case round =>
    obtain ⟨k, hk, rfl, rfl⟩ := hrel
    by_cases hlt : k < q
    · obtain ⟨bb, ob, rfl, hcb⟩ := HB.out k hlt
      obtain ⟨T, hT⟩ : ∃ T, T = dealT Z D k := ⟨_, rfl⟩
      have hTr := HR.out k hk
      rw [← hT] at hTr
      rw [← hT]
      have hd := HD.out k hlt
      by_cases he : D k = -1
      · rw [he] at hcb
        have E := Lib.hid (show dealT Z D (k + 1) = T by rw [hT]; show dealT Z D k + (if D k = -1 then 0 else _) = _; rw [if_pos he, Int.add_zero])
        clear he hd hT
        go_wp2
        go_round
        case rel => exact ⟨k + 1, by omega, by go_num, by rw [E.out]⟩
        case measure => simp [intOf]; omega
      · obtain ⟨x, hx⟩ := Int.eq_ofNat_of_zero_le (show 0 ≤ D k by omega)
        have hxm : x < m := by omega
        obtain ⟨ba, oa, rfl, hca, hra⟩ := HA.out k (by omega)
        rw [HL.out k (by omega)] at hca hra
        obtain ⟨br, or', har, hcx⟩ := hra x hxm
        rw [har] at hca
        have hzx := HZ.out k (by omega) x hxm
        obtain ⟨y, hy⟩ : ∃ y, y = Z k x := ⟨_, rfl⟩
        rw [← hy] at hcx hzx
        have E := Lib.hid (show dealT Z D (k + 1) = T + y by rw [hT, hy]; show dealT Z D k + (if D k = -1 then 0 else Z k (D k).toNat) = _; rw [if_neg he, hx, Int.toNat_natCast])
        rw [hx] at hcb
        have d1 : ((x : Int) != -1) = true := bne_iff_ne.2 (by omega)
        have hkn : (k : Int) < (n : Int) := by omega
        have hw1 : IntKind.i64.wrap (T + y) = T + y := by rw [IntKind.wrap_i64]; omega
        clear he hd hT hx hy har hra
        go_wp2
        go_round
        case rel => exact ⟨k + 1, by omega, by go_num, by rw [E.out]⟩
        case measure => simp [intOf]; omega
    · obtain rfl : k = q := by omega
      go_wp2
      go_ret
      exact ⟨rfl, rfl⟩
end Go.Proofs.Ytaipodnhnekpjaa
