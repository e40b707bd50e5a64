/- The program's within and readPrices. -/
import Derived.Test.YtmjbocgoinfamaaProg
import Derived.Test.YtmjbocgoinfamaaMem
import Derived.Test.YtmjbocgoinfamaaBox
namespace Go.Proofs.Ytmjbocgoinfamaa
set_option linter.unusedVariables false
open Go.RowKit

def AllR (m : Nat) (X : Nat → Int) (lo hi : Int) : Prop := ∀ k, k < m → InR (X k) lo hi

set_option maxHeartbeats 800000 in
theorem within_any (m c : Nat) (a : Option Addr) (X : Nat → Int) (lo hi : Int) (w : World) (hm : m ≤ 1048576) (ha : Rd w a m X) :
    Calls Try.prog 88 #[.slice a m c, .int .i64 lo, .int .i64 hi] w fun e w' => e = .returned (.bool (tt (AllR m X lo hi))) ∧ w = w' := by
  go_enter Try.func88, Try.ntmps88
  go_wp2
  go_loop [6, 8, 11] (fun r _ i => ∃ k : Nat, k ≤ m ∧ i = .int .i64 k ∧ r = .bool false ∧ AllR k X lo hi) (fun _ _ i => m - (intOf i).toNat)
  case atStart => exact ⟨0, Nat.zero_le _, rfl, rfl, fun j hj => absurd hj (Nat.not_lt_zero _)⟩
  case round =>
    obtain ⟨k, hk, rfl, rfl, hall⟩ := hrel
    have H1 := Lib.hid hall
    clear hall
    by_cases hlt : k < m
    · obtain ⟨ba, oa, rfl, hca⟩ := ha k hlt
      clear ha
      by_cases h0 : X k < lo
      · have hno := Lib.hid (show ¬ AllR m X lo hi from fun h => by have := (h k hlt).1; omega)
        have hd : decide (X k < lo) = true := by simpa using h0
        go_wp2
        go_ret
        exact ⟨by rw [tt_no hno.out]; rfl, rfl⟩
      · by_cases h1 : hi < X k
        · have hno := Lib.hid (show ¬ AllR m X lo hi from fun h => by have := (h k hlt).2; omega)
          have hd : decide (hi < X k) = true := by simpa using h1
          go_wp2
          go_ret
          exact ⟨by rw [tt_no hno.out]; rfl, rfl⟩
        · have HI := Lib.hid (show InR (X k) lo hi from ⟨by omega, by omega⟩)
          go_wp2
          go_round
          case rel =>
            exact ⟨k + 1, by omega, by go_num, rfl, fun j hj => by
              by_cases e : j = k
              · subst e; exact HI.out
              · exact H1.out j (by omega)⟩
          case measure => simp [intOf]; omega
    · obtain rfl : k = m := by omega
      clear ha
      go_wp2
      go_ret
      exact ⟨by rw [tt_of H1.out]; rfl, rfl⟩

theorem Try.sizePrices : (Try.prog.info? 82).map (·.size) = some 1 := by kernel_rfl
theorem allR_prices {m : Nat} {X : Nat → Int} (h2 : 2 ≤ m) (h5 : m ≤ 5) : IsPrices m X ↔ AllR m X 1 1000000000 :=
  ⟨fun h k hk => h.2 k hk, fun h => ⟨⟨h2, h5⟩, fun k hk => h k hk⟩⟩

set_option maxHeartbeats 800000 in
theorem readPrices_yes (m c : Nat) (a : Option Addr) (X : Nat → Int) (w : World) (ha : Rd w a m X) (h : IsPrices m X) :
    Calls Try.prog 86 #[.slice a m c] w fun e w' => e = .returned (.tuple #[.agg #[.slice a m c], .bool true]) ∧ Below w.heap.size w w' := by
  have h2 := h.1.1
  have h5 := h.1.2
  have T1 := Lib.hid (tt_of ((allR_prices h2 h5).1 h))
  have HA := Lib.hid ha
  clear ha h
  go_enter Try.func86, Try.ntmps86
  go_wp2_with (go_at_call 88; refine (within_any m c a X _ _ _ (by omega) (HA.out.below (Nat.le_refl _) (below_alloc (below_alloc (Below.refl _ _) _) _))).mono ?_; rintro e w1 ⟨rfl, rfl⟩; rw [T1.out])
  refine bodyPost_ret (v := .tuple #[.agg #[.slice a m c], .bool true]) ?_ rfl ⟨rfl, below_alloc (below_alloc (Below.refl _ _) _) _⟩
  rw [results_box_tmp Try.results86 _ _ w.heap.size 82 #[.slice a m c] (0, 0) _ rfl (heap_two w _ _) Try.underlying82 rfl Try.sizePrices]
  rfl

set_option maxHeartbeats 800000 in
theorem readPrices_no (m c : Nat) (a : Option Addr) (X : Nat → Int) (w : World) (hm : m ≤ 1048576) (ha : Rd w a m X) (h : ¬ IsPrices m X) :
    Calls Try.prog 86 #[.slice a m c] w fun e w' => e = .returned (.tuple #[.agg #[.slice none 0 0], .bool false]) ∧ Below w.heap.size w w' := by
  have HA := Lib.hid ha
  clear ha
  by_cases h2 : m < 2
  · clear h
    have hd : decide ((m : Int) < 2) = true := by simp; omega
    go_enter Try.func86, Try.ntmps86
    go_wp2_with fail
    refine bodyPost_ret (v := .tuple #[.agg #[.slice none 0 0], .bool false]) ?_ rfl ⟨rfl, below_alloc (below_alloc (Below.refl _ _) _) _⟩
    rw [results_box_tmp Try.results86 _ _ w.heap.size 82 #[.slice none 0 0] (0, 0) _ rfl (heap_two w _ _) Try.underlying82 rfl Try.sizePrices]
    rfl
  · by_cases h5 : 5 < m
    · clear h
      have hd : decide ((m : Int) < 2) = false := by simp; omega
      have hd2 : decide (5 < (m : Int)) = true := by simp; omega
      go_enter Try.func86, Try.ntmps86
      go_wp2_with fail
      refine bodyPost_ret (v := .tuple #[.agg #[.slice none 0 0], .bool false]) ?_ rfl ⟨rfl, below_alloc (below_alloc (Below.refl _ _) _) _⟩
      rw [results_box_tmp Try.results86 _ _ w.heap.size 82 #[.slice none 0 0] (0, 0) _ rfl (heap_two w _ _) Try.underlying82 rfl Try.sizePrices]
      rfl
    · have T1 := Lib.hid (tt_no (fun h' => h ((allR_prices (by omega) (by omega)).2 h')))
      have h2' : 2 ≤ m := by omega
      have h5' : m ≤ 5 := by omega
      clear h2 h5
      clear h
      go_enter Try.func86, Try.ntmps86
      go_wp2_with (go_at_call 88; refine (within_any m c a X _ _ _ (by omega) (HA.out.below (Nat.le_refl _) (below_alloc (below_alloc (Below.refl _ _) _) _))).mono ?_; rintro e w1 ⟨rfl, rfl⟩; rw [T1.out])
      refine bodyPost_ret (v := .tuple #[.agg #[.slice none 0 0], .bool false]) ?_ rfl ⟨rfl, below_alloc (below_alloc (Below.refl _ _) _) _⟩
      rw [results_box_tmp Try.results86 _ _ w.heap.size 82 #[.slice none 0 0] (0, 0) _ rfl (heap_two w _ _) Try.underlying82 rfl Try.sizePrices]
      rfl

theorem priceIn_any (m c : Nat) (a : Option Addr) (X : Nat → Int) (w : World) (hm0 : m ≤ 1048576) (hmd0 : m ≤ c) (hb0 : Rd w a m X) :
    Calls Try.prog 40 #[.slice a m c] w fun e w' => e = .returned (.bool (tt (IsPrices m X))) ∧ Below w.heap.size w w' := by
  by_cases h : IsPrices m X
  · have H := Lib.hid (readPrices_yes m c a X w hb0 h)
    have T1 := Lib.hid (tt_of h)
    clear hb0 h
    go_enter Try.func40, Try.ntmps40
    go_wp2_with (go_at_call 86; refine H.out.mono ?_; rintro e w1 ⟨rfl, hb1⟩; have B1 := Lib.hid hb1; clear hb1)
    go_ret
    exact ⟨by rw [T1.out]; rfl, below_alloc B1.out _⟩
  · have H := Lib.hid (readPrices_no m c a X w hm0 hb0 h)
    have T1 := Lib.hid (tt_no h)
    clear hb0 h
    go_enter Try.func40, Try.ntmps40
    go_wp2_with (go_at_call 86; refine H.out.mono ?_; rintro e w1 ⟨rfl, hb1⟩; have B1 := Lib.hid hb1; clear hb1)
    go_ret
    exact ⟨by rw [T1.out]; rfl, below_alloc B1.out _⟩
end Go.Proofs.Ytmjbocgoinfamaa
