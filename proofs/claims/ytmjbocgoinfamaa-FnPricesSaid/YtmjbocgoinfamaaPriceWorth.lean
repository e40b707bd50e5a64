/- The program's times and PriceWorth. -/
import Derived.Test.YtmjbocgoinfamaaReadPrices
namespace Go.Proofs.Ytmjbocgoinfamaa
set_option linter.unusedVariables false
open Go.RowKit

set_option maxHeartbeats 800000 in
theorem times_any (m c c' : Nat) (a b : Option Addr) (X Y : Nat → Int) (w : World) (hm : m ≤ 5) (ha : Rd w a m X) (hb : Rd w b m Y) (hall : ∀ j, j < m → (1 ≤ X j ∧ X j ≤ 1000000) ∧ 0 ≤ Y j ∧ Y j ≤ 1000) :
    Calls Try.prog 89 #[.slice a m c, .slice b m c'] w fun e w' => e = .returned (.int .i64 (sumP X Y m)) ∧ Below w.heap.size w w' := by
  have HA := Lib.hid ha
  have HB := Lib.hid hb
  have H2 := Lib.hid hall
  clear ha hb hall
  go_enter Try.func89, Try.ntmps89
  go_wp2
  go_loopw [5, 6, 7, 10] (fun s _ _ i wi => ∃ k : Nat, k ≤ m ∧ i = .int .i64 k ∧ s = .int .i64 (sumP X Y k) ∧ ∃ q, wi = w.drewN q) (fun _ _ _ i _ => m - (intOf i).toNat)
  case atStart => exact ⟨0, Nat.zero_le _, rfl, rfl, 0, rfl⟩
  case round =>
    obtain ⟨k, hk, rfl, rfl, q, rfl⟩ := hrel
    by_cases hlt : k < m
    · obtain ⟨ba, oa, rfl, hca⟩ := HA.out k hlt
      obtain ⟨bb, ob, rfl, hcb⟩ := HB.out k hlt
      obtain ⟨⟨hx1, hx⟩, hy1, hy2⟩ := H2.out k hlt
      have hm1 : X k * Y k ≤ 1000000 * 1000 := Int.mul_le_mul hx hy2 hy1 (by omega)
      have hm2 : 0 ≤ X k * Y k := Int.mul_nonneg (by omega) hy1
      have hs := sumP_le (X := X) (Y := Y) (m := k) (k := k) (fun j hj => H2.out j (by omega)) (Nat.le_refl _)
      obtain ⟨S, hS⟩ : ∃ S, S = sumP X Y k := ⟨_, rfl⟩
      rw [← hS] at hs
      have hs1 := hs.1
      have hs2 := hs.2
      have QS := Lib.hid hS
      clear hs
      rw [← hS]
      clear hS
      go_wp2
      go_roundw
      case rel =>
        refine ⟨k + 1, by omega, by go_num, ?_, _, rfl⟩
        show Value.int .i64 _ = Value.int .i64 (sumP X Y k + X k * Y k)
        rw [QS.out]
      case measure => simp [intOf]; omega
    · obtain rfl : k = m := by omega
      go_wp2
      go_ret
      exact ⟨rfl, below_drewN (Below.refl _ _) _⟩

set_option maxHeartbeats 1600000 in
theorem priceWorth_any (m c m' c' : Nat) (a b : Option Addr) (X Y : Nat → Int) (w : World) (hm0 : m ≤ 1048576) (hmd0 : m ≤ c) (hb0 : Rd w a m X) (hm1 : m' ≤ 1048576) (hmd1 : m' ≤ c') (hb1 : Rd w b m' Y) :
    Calls Try.prog 42 #[.slice a m c, .slice b m' c'] w fun e w' => e = .returned (.tuple #[.int .i64 (worthAns m X m' Y), .bool (tt (WorthOk m X m' Y))]) ∧ Below w.heap.size w w' := by
  have HA := Lib.hid hb0
  have HB := Lib.hid hb1
  clear hmd0 hmd1 hb1
  by_cases hp : IsPrices m X
  · have H1 := Lib.hid (readPrices_yes m c a X w hb0 hp)
    have HP := Lib.hid hp
    have h5 := hp.1.2
    clear hb0 hp
    by_cases hx : AllR m X 1 1000000
    · have T1 := Lib.hid (tt_of hx)
      have HX := Lib.hid hx
      clear hx
      by_cases he : m' = m
      · subst he
        have hd : ((m' : Int) != (m' : Int)) = false := by simp
        by_cases hy : AllR m' Y 0 1000
        · have T2 := Lib.hid (tt_of hy)
          have HY := Lib.hid hy
          have hyes := Lib.hid (show WorthOk m' X m' Y from ⟨⟨HP.out, rfl⟩, fun k hk => ⟨(HX.out k hk).2, HY.out k hk⟩⟩)
          have W1 := Lib.hid (worthAns_yes hyes.out)
          have W2 := Lib.hid (tt_of hyes.out)
          clear hy
          have t1 : True := trivial
          go_enter Try.func42, Try.ntmps42
          go_wp2_with (first
            | (go_at_call 86; refine H1.out.mono ?_; rintro e w1 ⟨rfl, hb1⟩; have B1 := Lib.hid hb1; clear hb1)
            | (go_at_call 88; have _t := t1; refine (within_any m' c a X _ _ _ hm0 (HA.out.below (Nat.le_refl _) (below_alloc B1.out _))).mono ?_; clear t1; rintro e w2 ⟨rfl, rfl⟩; rw [T1.out])
            | (go_at_call 88; refine (within_any m' c' b Y _ _ _ hm0 (HB.out.below (Nat.le_refl _) (below_alloc B1.out _))).mono ?_; rintro e w2 ⟨rfl, rfl⟩; rw [T2.out])
            | (go_at_call 89; refine (times_any m' c c' a b X Y _ h5 (HA.out.below (Nat.le_refl _) (below_alloc B1.out _)) (HB.out.below (Nat.le_refl _) (below_alloc B1.out _)) (fun j hj => ⟨⟨(HX.out j hj).1, (HX.out j hj).2⟩, HY.out j hj⟩)).mono ?_; rintro e w3 ⟨rfl, hb3⟩; have B3 := Lib.hid hb3; clear hb3))
          go_ret2
          exact ⟨by rw [W1.out, W2.out]; rfl, below_chain (below_alloc B1.out _) B3.out⟩
        · have T2 := Lib.hid (tt_no hy)
          have hno := Lib.hid (show ¬ WorthOk m' X m' Y from fun h => hy (fun k hk => (h.2 k hk).2))
          have W1 := Lib.hid (worthAns_no hno.out)
          have W2 := Lib.hid (tt_no hno.out)
          clear hy
          have t1 : True := trivial
          go_enter Try.func42, Try.ntmps42
          go_wp2_with (first
            | (go_at_call 86; refine H1.out.mono ?_; rintro e w1 ⟨rfl, hb1⟩; have B1 := Lib.hid hb1; clear hb1)
            | (go_at_call 88; have _t := t1; refine (within_any m' c a X _ _ _ hm0 (HA.out.below (Nat.le_refl _) (below_alloc B1.out _))).mono ?_; clear t1; rintro e w2 ⟨rfl, rfl⟩; rw [T1.out])
            | (go_at_call 88; refine (within_any m' c' b Y _ _ _ hm0 (HB.out.below (Nat.le_refl _) (below_alloc B1.out _))).mono ?_; rintro e w2 ⟨rfl, rfl⟩; rw [T2.out]))
          go_ret2
          exact ⟨by rw [W1.out, W2.out]; rfl, below_alloc B1.out _⟩
      · have hd : ((m' : Int) != (m : Int)) = true := by simp; omega
        have hno := Lib.hid (show ¬ WorthOk m X m' Y from fun h => he h.1.2)
        have W1 := Lib.hid (worthAns_no hno.out)
        have W2 := Lib.hid (tt_no hno.out)
        clear he
        go_enter Try.func42, Try.ntmps42
        go_wp2_with (first
          | (go_at_call 86; refine H1.out.mono ?_; rintro e w1 ⟨rfl, hb1⟩; have B1 := Lib.hid hb1; clear hb1)
          | (go_at_call 88; refine (within_any m c a X _ _ _ hm0 (HA.out.below (Nat.le_refl _) (below_alloc B1.out _))).mono ?_; rintro e w2 ⟨rfl, rfl⟩; rw [T1.out]))
        go_ret2
        exact ⟨by rw [W1.out, W2.out]; rfl, below_alloc B1.out _⟩
    · have T1 := Lib.hid (tt_no hx)
      have hno := Lib.hid (show ¬ WorthOk m X m' Y from fun h => hx (fun k hk => ⟨(HP.out.2 k hk).1, (h.2 k hk).1⟩))
      have W1 := Lib.hid (worthAns_no hno.out)
      have W2 := Lib.hid (tt_no hno.out)
      clear hx
      go_enter Try.func42, Try.ntmps42
      go_wp2_with (first
        | (go_at_call 86; refine H1.out.mono ?_; rintro e w1 ⟨rfl, hb1⟩; have B1 := Lib.hid hb1; clear hb1)
        | (go_at_call 88; refine (within_any m c a X _ _ _ hm0 (HA.out.below (Nat.le_refl _) (below_alloc B1.out _))).mono ?_; rintro e w2 ⟨rfl, rfl⟩; rw [T1.out]))
      go_ret2
      exact ⟨by rw [W1.out, W2.out]; rfl, below_alloc B1.out _⟩
  · have H1 := Lib.hid (readPrices_no m c a X w hm0 hb0 hp)
    have hno := Lib.hid (show ¬ WorthOk m X m' Y from fun h => hp h.1.1)
    have W1 := Lib.hid (worthAns_no hno.out)
    have W2 := Lib.hid (tt_no hno.out)
    clear hp hb0
    go_enter Try.func42, Try.ntmps42
    go_wp2_with (go_at_call 86; refine H1.out.mono ?_; rintro e w1 ⟨rfl, hb1⟩; have B1 := Lib.hid hb1; clear hb1)
    go_ret2
    exact ⟨by rw [W1.out, W2.out]; rfl, below_alloc B1.out _⟩
end Go.Proofs.Ytmjbocgoinfamaa
