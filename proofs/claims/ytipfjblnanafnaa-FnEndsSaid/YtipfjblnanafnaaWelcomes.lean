/- The program's welcomes. -/
import Derived.Test.YtipfjblnanafnaaWishes
import Derived.Test.YtipfjblnanafnaaHeld
import Derived.Test.YtipfjblnanafnaaLikes
namespace Go.Proofs.Ytipfjblnanafnaa
set_option linter.unusedVariables false
set_option linter.unusedSimpArgs false
open Go.RowKit

set_option maxRecDepth 100000 in
set_option maxHeartbeats 1600000 in
theorem welcomes_any (n c i k : Nat) (a : Option Addr) (A : Nat → Option Addr) (L C : Nat → Nat) (Z : Nat → Nat → Int) (G : Nat → Int) (w : World) (hW : IsWishes n L Z) (ha0 : Tab w a n A L C Z) (hi : i < n) (hk : k < n) :
    Calls Try.prog 91 #[.slice a n c, .agg (cellsV 6 (heldF n G)), .int .i64 i, .int .i64 k] w fun e w' => e = .returned (.bool (tt (MayP n Z G i k))) ∧ Below w.heap.size w w' := by
  have hn5 := hW.1.2
  have HA := Lib.hid ha0
  have HW := Lib.hid hW
  obtain ⟨x, hx⟩ : ∃ x, x = G i := ⟨_, rfl⟩
  obtain ⟨y, hy⟩ : ∃ y, y = G k := ⟨_, rfl⟩
  have hfi : heldF n G (1 + i) = x := by rw [heldF_at G hi, hx]
  have hfk : heldF n G (1 + k) = y := by rw [heldF_at G hk, hy]
  have QI := Lib.hid hfi
  have QK := Lib.hid hfk
  have i1 : (0 : Int) ≤ (i : Int) := by omega
  have i2 : (i : Int) < 5 := by omega
  have k1 : (0 : Int) ≤ (k : Int) := by omega
  have k2 : (k : Int) < 5 := by omega
  have H1 := Lib.hid (fun w1 (h : Below w.heap.size w w1) => likes_any n c i a A L C Z y x w1 hW hi (ha0.below (Nat.le_refl _) h))
  have H2 := Lib.hid (fun w1 (h : Below w.heap.size w w1) => likes_any n c k a A L C Z x y w1 hW hk (ha0.below (Nat.le_refl _) h))
  have QX := Lib.hid hx
  have QY := Lib.hid hy
  clear hW ha0 hfi hfk hx hy
  by_cases h1 : idxF (Z i) y n < idxF (Z i) x n
  · have d1 := Lib.hid (show decide (idxF (Z i) y n < idxF (Z i) x n) = true from decide_eq_true h1)
    have HE := Lib.hid (show decide (idxF (Z k) x n < idxF (Z k) y n) = tt (MayP n Z G i k) from by
      by_cases h2 : idxF (Z k) x n < idxF (Z k) y n
      · rw [tt_of (show MayP n Z G i k from ⟨by rw [← QX.out, ← QY.out]; exact h1, by rw [← QX.out, ← QY.out]; exact h2⟩)]; exact decide_eq_true h2
      · rw [tt_no (show ¬ MayP n Z G i k from fun h => h2 (by have := h.2; rwa [← QX.out, ← QY.out] at this))]; exact decide_eq_false h2)
    clear h1
    go_enter Try.func91, Try.ntmps91
    go_wp2_with ((with_reducible refine arr_box 6 _ _ (heldF n G) ?_ ?_); exact rfl; intro w1 hA1 hs1 hb1; have ci := hA1.cell (j := 1 + i) (by omega); have ck := hA1.cell (j := 1 + k) (by omega); rw [QI.out] at ci; rw [QK.out] at ck; clear hs1 hA1)
    go_quiet (fail)
    rename_i nq
    have hb2 := Lib.hid (below_drewN hb1 nq)
    clear ci ck hb1
    go_wp2_with fail
    refine (H1.out _ hb2.out).mono ?_
    rintro e w3 ⟨rfl, hb3⟩
    rw [d1.out]
    have hb4 := Lib.hid (below_chain hb2.out hb3)
    clear hb3
    go_wp2_with fail
    refine (H2.out _ hb4.out).mono ?_
    rintro e w5 ⟨rfl, hb5⟩
    rw [HE.out]
    have hb6 := Lib.hid (below_chain hb4.out hb5)
    clear hb5
    go_wp2
    go_ret
    exact ⟨rfl, hb6.out⟩
  · have d1 := Lib.hid (show decide (idxF (Z i) y n < idxF (Z i) x n) = false from decide_eq_false h1)
    have HE := Lib.hid (tt_no (show ¬ MayP n Z G i k from fun h => h1 (by have := h.1; rwa [← QX.out, ← QY.out] at this)))
    clear h1
    go_enter Try.func91, Try.ntmps91
    go_wp2_with ((with_reducible refine arr_box 6 _ _ (heldF n G) ?_ ?_); exact rfl; intro w1 hA1 hs1 hb1; have ci := hA1.cell (j := 1 + i) (by omega); have ck := hA1.cell (j := 1 + k) (by omega); rw [QI.out] at ci; rw [QK.out] at ck; clear hs1 hA1)
    go_quiet (fail)
    rename_i nq
    have hb2 := Lib.hid (below_drewN hb1 nq)
    clear ci ck hb1
    go_wp2_with fail
    refine (H1.out _ hb2.out).mono ?_
    rintro e w3 ⟨rfl, hb3⟩
    rw [d1.out]
    have hb4 := Lib.hid (below_chain hb2.out hb3)
    clear hb3
    go_wp2
    go_ret
    exact ⟨by rw [HE.out]; rfl, hb4.out⟩
end Go.Proofs.Ytipfjblnanafnaa
