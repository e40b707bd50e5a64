/- The program's SwapStill. -/
import Derived.Test.YtipfjblnanafnaaReadHeld
import Derived.Test.YtipfjblnanafnaaStill
namespace Go.Proofs.Ytipfjblnanafnaa
set_option linter.unusedVariables false
set_option linter.unusedSimpArgs false
open Go.RowKit

set_option maxRecDepth 100000 in
set_option maxHeartbeats 1600000 in
theorem swapStill_anyc (n c : Nat) (a : Option Addr) (A : Nat → Option Addr) (L C : Nat → Nat) (Z : Nat → Nat → Int) (m d : Nat) (b : Option Addr) (G : Nat → Int) (w : World) (hn0 : n ≤ 1048576) (hL0 : ∀ r, r < n → L r ≤ 1048576) (ha0 : Tab w a n A L C Z) (hm1 : m ≤ 1048576) (hb1 : Rd w b m G) :
    Calls Try.prog 33 #[.slice a n c, .slice b m d] w fun e w' => e = .returned (.bool (tt (StillOk n L Z m G))) ∧ Below w.heap.size w w' := by
  by_cases hg : GivenOk n L Z m G
  · have H := Lib.hid (readHeld_yes n c a A L C Z m d b G w hn0 hL0 ha0 hm1 hb1 hg)
    have HE := Lib.hid (tt_congr (show StillP n Z G ↔ StillOk n L Z m G from ⟨fun h => ⟨hg, h⟩, fun h => h.2⟩))
    have HW := Lib.hid (fun w1 (h : Below w.heap.size w w1) => still_any n c a A L C Z G w1 hg.1 (ha0.below (Nat.le_refl _) h))
    clear hg ha0 hL0 hb1
    go_enter Try.func33, Try.ntmps33
    go_wp2_with (first
      | (go_at_call 56; refine H.out.mono ?_; rintro e w1 ⟨rfl, hb1⟩)
      | ((with_reducible refine arr_alloc 6 _ (Try.zeroHeld _) ?_); intro w2 hA2 hs2 hb2; clear hs2)
      | ((with_reducible refine arr_store 6 _ _ _ _ _ _ (heldF n G) ?_ ?_ hA2 Try.sizeHeld ?_); exact rfl; exact rfl; intro w3 hA3 hs3 ho3 hb3; have hb4 := (below_chain hb1 hb2).trans (hb3.mono hb1.size); clear hA2 hs3 ho3)
      | ((with_reducible refine st_load_g 6 _ _ _ _ _ _ _ ?_ ?_ hA3 Try.underlying69 rfl Try.sizeHeld ?_); exact rfl; exact rfl)
      | (go_at_call 57; refine (HW.out _ hb4).mono ?_; rintro e w5 ⟨rfl, hb5⟩; rw [HE.out]; have hb6 := Lib.hid (below_chain hb4 hb5); clear hb5))
    go_ret
    exact ⟨rfl, hb6.out⟩
  · have H := Lib.hid (readHeld_no n c a A L C Z m d b G w hn0 hL0 ha0 hm1 hb1 hg)
    have HE := Lib.hid (tt_no (show ¬ StillOk n L Z m G from fun h => hg h.1))
    clear hg ha0 hL0 hb1
    go_enter Try.func33, Try.ntmps33
    go_wp2_with (first
      | (go_at_call 56; refine H.out.mono ?_; rintro e w1 ⟨rfl, hb1⟩)
      | ((with_reducible refine arr_alloc 6 _ (Try.zeroHeld _) ?_); intro w2 hA2 hs2 hb2; clear hs2)
      | ((with_reducible refine arr_store 6 _ _ _ _ _ _ (fun _ => 0) ?_ ?_ hA2 Try.sizeHeld ?_); exact rfl; exact rfl; intro w3 hA3 hs3 ho3 hb3; have hb4 := (below_chain hb1 hb2).trans (hb3.mono hb1.size); clear hA2 hs3 ho3))
    go_ret
    exact ⟨by rw [HE.out]; rfl, hb4⟩
theorem swapStill_any (n c : Nat) (a : Option Addr) (A : Nat → Option Addr) (L C : Nat → Nat) (Z : Nat → Nat → Int) (m d : Nat) (b : Option Addr) (G : Nat → Int) (w : World) (hn0 : n ≤ 1048576) (hL0 : ∀ r, r < n → L r ≤ 1048576) (ha0 : Tab w a n A L C Z) (hm1 : m ≤ 1048576) (hmd1 : m ≤ d) (hb1 : Rd w b m G) :
    Calls Try.prog 33 #[.slice a n c, .slice b m d] w fun e w' => e = .returned (.bool (tt (StillOk n L Z m G))) ∧ Below w.heap.size w w' :=
  swapStill_anyc n c a A L C Z m d b G w hn0 hL0 ha0 hm1 hb1
end Go.Proofs.Ytipfjblnanafnaa
