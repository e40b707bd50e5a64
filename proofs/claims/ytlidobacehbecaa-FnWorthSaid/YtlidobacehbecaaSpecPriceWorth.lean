/- The model's PriceWorth. -/
import Derived.Test.YtlidobacehbecaaL2Prices
namespace Go.Proofs.Ytlidobacehbecaa
set_option linter.unusedVariables false
open Go.RowKit

set_option maxHeartbeats 1600000 in
theorem specPriceWorth_any (m c m' c' : Nat) (a b : Option Addr) (X Y : Nat → Int) (w : World) (hm0 : m ≤ 1048576) (hb0 : Rd w a m X) (hm1 : m' ≤ 1048576) (hb1 : Rd w b m' Y) :
    Calls Try.prog 17 #[.slice a m c, .slice b m' c'] w fun e w' => e = .returned (.tuple #[.int .i64 (worthAns m X m' Y), .bool (tt (WorthOk m X m' Y))]) ∧ Below w.heap.size w w' := by
  have H1 := Lib.hid (l2Prices_any m c a X w hm0 hb0)
  have HA := Lib.hid hb0
  have HB := Lib.hid hb1
  clear hb0 hb1
  by_cases hp : IsPrices m X
  · have T1 := Lib.hid (tt_of hp)
    have HP := Lib.hid hp
    by_cases he : m' = m
    · subst he
      have hd : ((m' : Int) != (m' : Int)) = false := by simp
      have h5 := hp.1.2
      clear hp
      go_enter Try.func17, Try.ntmps17
      go_wp2_with (go_at_call 53; refine H1.out.mono ?_; rintro e w1 ⟨rfl, rfl⟩; rw [T1.out])
      go_loopw [4, 5, 6, 7] (fun r q s i wi => ∃ k : Nat, k ≤ m' ∧ i = .int .i64 k ∧ r = .int .i64 0 ∧ q = .bool false ∧ s = .int .i64 (sumP X Y k) ∧ (∀ j, j < k → X j ≤ 1000000 ∧ 0 ≤ Y j ∧ Y j ≤ 1000) ∧ ∃ q, wi = w.drewN q) (fun _ _ _ i _ => m' - (intOf i).toNat)
      case atStart => exact ⟨0, Nat.zero_le _, rfl, rfl, rfl, rfl, fun j hj => absurd hj (Nat.not_lt_zero _), 0, rfl⟩
      case round =>
        obtain ⟨k, hk, rfl, rfl, rfl, rfl, hall, q, rfl⟩ := hrel
        have H2 := Lib.hid hall
        clear hall
        by_cases hlt : k < m'
        · obtain ⟨ba, oa, rfl, hca⟩ := HA.out k hlt
          obtain ⟨bb, ob, rfl, hcb⟩ := HB.out k hlt
          by_cases hx : X k ≤ 1000000
          · have hdx : decide (1000000 < X k) = false := by simpa using hx
            by_cases hy : InR (Y k) 0 1000
            · have B1 := Lib.hid (tt_of hy)
              have HY := Lib.hid hy
              have HX := Lib.hid hx
              have hy1 := hy.1
              have hy2 := hy.2
              have hx1 := (HP.out.2 k hlt).1
              have hm1 : X k * Y k ≤ 1000000 * 1000 := Int.mul_le_mul hx hy2 hy1 (by omega)
              have hm2 : 0 ≤ X k * Y k := Int.mul_nonneg (by omega) hy1
              have hs := sumP_le (X := X) (Y := Y) (m := k) (k := k) (fun j hj => ⟨⟨(HP.out.2 j (by omega)).1, (H2.out j hj).1⟩, (H2.out j hj).2⟩) (Nat.le_refl _)
              obtain ⟨S, hS⟩ : ∃ S, S = sumP X Y k := ⟨_, rfl⟩
              rw [← hS] at hs
              have hs1 := hs.1
              have hs2 := hs.2
              have QS := Lib.hid hS
              clear hy hx hs
              rw [← hS]
              clear hS
              go_wp2_with (go_at_call 54; refine (l6In_any _ _ _ _).mono ?_; rintro e w' ⟨rfl, rfl⟩; rw [B1.out])
              go_quiet (fail)
              go_wp2
              go_roundw
              case rel =>
                refine ⟨k + 1, by omega, by go_num, rfl, rfl, ?_, fun j hj => ?_, ?_⟩
                · show Value.int .i64 _ = Value.int .i64 (sumP X Y k + X k * Y k)
                  rw [QS.out]
                · by_cases e : j = k
                  · subst e; exact ⟨HX.out, HY.out⟩
                  · exact H2.out j (by omega)
                · exact ⟨_, rfl⟩
              case measure => simp [intOf]; omega
            · have B1 := Lib.hid (tt_no hy)
              have hno := Lib.hid (show ¬ WorthOk m' X m' Y from fun h => hy ((h.2 k hlt).2))
              have W1 := Lib.hid (worthAns_no hno.out)
              have W2 := Lib.hid (tt_no hno.out)
              clear hy
              go_wp2_with (go_at_call 54; refine (l6In_any _ _ _ _).mono ?_; rintro e w' ⟨rfl, rfl⟩; rw [B1.out])
              go_ret2
              exact ⟨by rw [W1.out, W2.out]; rfl, below_drewN (Below.refl _ _) _⟩
          · have hdx : decide (1000000 < X k) = true := by simpa using hx
            have hno := Lib.hid (show ¬ WorthOk m' X m' Y from fun h => hx ((h.2 k hlt).1))
            have W1 := Lib.hid (worthAns_no hno.out)
            have W2 := Lib.hid (tt_no hno.out)
            clear hx
            go_wp2
            go_ret2
            exact ⟨by rw [W1.out, W2.out]; rfl, below_drewN (Below.refl _ _) _⟩
        · obtain rfl : k = m' := by omega
          have hyes := Lib.hid (show WorthOk k X k Y from ⟨⟨HP.out, rfl⟩, H2.out⟩)
          have W1 := Lib.hid (worthAns_yes hyes.out)
          have W2 := Lib.hid (tt_of hyes.out)
          go_wp2
          go_ret2
          exact ⟨by rw [W1.out, W2.out]; rfl, below_drewN (Below.refl _ _) _⟩
    · have hd : ((m' : Int) != (m : Int)) = true := by simp; omega
      have hno := Lib.hid (show ¬ WorthOk m X m' Y from fun h => he h.1.2)
      have W1 := Lib.hid (worthAns_no hno.out)
      have W2 := Lib.hid (tt_no hno.out)
      clear hp he
      go_enter Try.func17, Try.ntmps17
      go_wp2_with (go_at_call 53; refine H1.out.mono ?_; rintro e w1 ⟨rfl, rfl⟩; rw [T1.out])
      go_ret2
      exact ⟨by rw [W1.out, W2.out]; rfl, Below.refl _ _⟩
  · have T1 := Lib.hid (tt_no hp)
    have hno := Lib.hid (show ¬ WorthOk m X m' Y from fun h => hp h.1.1)
    have W1 := Lib.hid (worthAns_no hno.out)
    have W2 := Lib.hid (tt_no hno.out)
    clear hp
    go_enter Try.func17, Try.ntmps17
    go_wp2_with (go_at_call 53; refine H1.out.mono ?_; rintro e w1 ⟨rfl, rfl⟩; rw [T1.out])
    go_ret2
    exact ⟨by rw [W1.out, W2.out]; rfl, Below.refl _ _⟩
end Go.Proofs.Ytlidobacehbecaa
