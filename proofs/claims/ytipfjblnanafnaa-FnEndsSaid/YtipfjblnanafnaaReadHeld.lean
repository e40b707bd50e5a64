/- The program's readGiven and readHeld. -/
import Derived.Test.YtipfjblnanafnaaReadGiven
import Derived.Test.YtipfjblnanafnaaHeld
namespace Go.Proofs.Ytipfjblnanafnaa
set_option linter.unusedVariables false
set_option linter.unusedSimpArgs false
open Go.RowKit

theorem Try.builtHeld0 : Try.prog.built 69 [] = some (cellsV 6 fun _ => 0) := by kernel_rfl

set_option maxRecDepth 100000 in
set_option maxHeartbeats 800000 in
theorem readHeld_yes (n c : Nat) (a : Option Addr) (A : Nat → Option Addr) (L C : Nat → Nat) (Z : Nat → Nat → Int) (m d : Nat) (b : Option Addr) (G : Nat → Int) (w : World) (hn0 : n ≤ 1048576) (hL0 : ∀ r, r < n → L r ≤ 1048576) (ha0 : Tab w a n A L C Z) (hm : m ≤ 1048576) (hb : Rd w b m G) (h : GivenOk n L Z m G) :
    Calls Try.prog 56 #[.slice a n c, .slice b m d] w fun e w' => e = .returned (.tuple #[.slice a n c, .agg (cellsV 6 (heldF n G)), .bool true]) ∧ Below w.heap.size w w' := by
  have T := Lib.hid (tt_of h)
  obtain rfl : m = n := h.2.1
  have hn2 := h.1.1.1
  have hn5 := h.1.1.2
  have H := Lib.hid (fun w1 (k : Below w.heap.size w w1) => readGiven_any m c a A L C Z m d b G w1 hn0 hL0 (ha0.below (Nat.le_refl _) k) hm (hb.below (Nat.le_refl _) k))
  have HB := Lib.hid hb
  clear h ha0 hL0 hb
  go_enter Try.func56, Try.ntmps56
  go_wp2_with (first
    | ((with_reducible refine arr_alloc 6 _ (Try.zeroHeld _) ?_); intro w1 hA1 hs1 hb1; clear hs1)
    | (go_at_call 43; refine (H.out _ hb1).mono ?_; rintro e w' ⟨rfl, rfl⟩; rw [T.out])
    | (go_at_call 87; refine (hold_any m d b G _ (by omega) hn5 (HB.out.below (Nat.le_refl _) hb1)).mono ?_; rintro e w2 ⟨rfl, hb2⟩; have hA2 := hA1.below hA1.lt hb2; clear hA1)
    | ((with_reducible refine arr_store 6 _ _ _ _ _ _ (heldF m G) ?_ ?_ hA2 Try.sizeHeld ?_); exact rfl; exact rfl; intro w3 hA3 hs3 ho3 hb3))
  exact bodyPost_ret (results_held rfl _ _ _ _ 6 _ _ rfl hA3 Try.underlying69 rfl Try.sizeHeld) rfl ⟨rfl, (below_chain hb1 hb2).trans hb3⟩

set_option maxRecDepth 100000 in
set_option maxHeartbeats 800000 in
theorem readHeld_no (n c : Nat) (a : Option Addr) (A : Nat → Option Addr) (L C : Nat → Nat) (Z : Nat → Nat → Int) (m d : Nat) (b : Option Addr) (G : Nat → Int) (w : World) (hn0 : n ≤ 1048576) (hL0 : ∀ r, r < n → L r ≤ 1048576) (ha0 : Tab w a n A L C Z) (hm : m ≤ 1048576) (hb : Rd w b m G) (h : ¬ GivenOk n L Z m G) :
    Calls Try.prog 56 #[.slice a n c, .slice b m d] w fun e w' => e = .returned (.tuple #[.slice none 0 0, .agg (cellsV 6 fun _ => 0), .bool false]) ∧ Below w.heap.size w w' := by
  have T := Lib.hid (tt_no h)
  have H := Lib.hid (fun w1 (k : Below w.heap.size w w1) => readGiven_any n c a A L C Z m d b G w1 hn0 hL0 (ha0.below (Nat.le_refl _) k) hm (hb.below (Nat.le_refl _) k))
  clear h ha0 hL0 hb
  go_enter Try.func56, Try.ntmps56
  go_wp2_with (first
    | ((with_reducible refine arr_alloc 6 _ (Try.zeroHeld _) ?_); intro w1 hA1 hs1 hb1; clear hs1)
    | (go_at_call 43; refine (H.out _ hb1).mono ?_; rintro e w' ⟨rfl, rfl⟩; rw [T.out])
    | (with_reducible refine arr_build0 6 _ Try.builtHeld0 ?_)
    | ((with_reducible refine arr_store 6 _ _ _ _ _ _ (fun _ => 0) ?_ ?_ hA1 Try.sizeHeld ?_); exact rfl; exact rfl; intro w3 hA3 hs3 ho3 hb3))
  exact bodyPost_ret (results_held rfl _ _ _ _ 6 _ _ rfl hA3 Try.underlying69 rfl Try.sizeHeld) rfl ⟨rfl, hb1.trans hb3⟩
end Go.Proofs.Ytipfjblnanafnaa
