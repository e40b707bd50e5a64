/- The program's likes. -/
import Derived.Test.YtgjegpponchdaaaDoorIndexI
import Derived.Test.YtgjegpponchdaaaDoorSeq
namespace Go.Proofs.YtgjegpponchdaaaDoor
set_option linter.unusedVariables false
set_option linter.unusedSimpArgs false
open Go.RowKit

set_option maxHeartbeats 800000 in
theorem likes_any (n c p : Nat) (a : Option Addr) (A : Nat → Option Addr) (L C : Nat → Nat) (Z : Nat → Nat → Int) (x y : Int) (w : World) (hW : IsWishes n L Z) (hp : p < n) (ha : Tab w a n A L C Z) :
    Calls Tryd.prog 103 #[.slice a n c, .int .i64 p, .int .i64 x, .int .i64 y] w fun e w' => e = .returned (.bool (decide (idxF (Z p) x n < idxF (Z p) y n))) ∧ Below w.heap.size w w' := by
  obtain ⟨ba, oa, rfl, hca, hra⟩ := ha p hp
  have hn5 := hW.1.2
  have hl := (hW.2 p hp).1
  rw [hl] at hca hra
  have HR := Lib.hid hra
  obtain ⟨ix, hix⟩ : ∃ ix, ix = idxF (Z p) x n := ⟨_, rfl⟩
  obtain ⟨iy, hiy⟩ : ∃ iy, iy = idxF (Z p) y n := ⟨_, rfl⟩
  have QX := Lib.hid hix
  have QY := Lib.hid hiy
  have hcr : ∀ r : Later w, r.W.cell? ⟨ba, oa + p, none⟩ = some (.slice (A p) n (C p)) := fun r => later_cell hca r
  rw [← hix, ← hiy]
  have IX := Lib.hid (show ∀ r : Later w, Calls Tryd.prog 111 #[.slice (A p) n (C p), .int .i64 x] r.W fun e w' => e = .returned (.int .i64 ix) ∧ Below r.W.heap.size r.W w' from fun r => by
    refine (index_any n (C p) (A p) (Z p) x _ (by omega) (HR.out.below (Nat.le_refl _) (Later.h _))).mono ?_
    rintro e w' ⟨rfl, rfl⟩
    exact ⟨by rw [QX.out], Below.refl _ _⟩)
  have IY := Lib.hid (show ∀ r : Later w, Calls Tryd.prog 111 #[.slice (A p) n (C p), .int .i64 y] r.W fun e w' => e = .returned (.int .i64 iy) ∧ Below r.W.heap.size r.W w' from fun r => by
    refine (index_any n (C p) (A p) (Z p) y _ (by omega) (HR.out.below (Nat.le_refl _) (Later.h _))).mono ?_
    rintro e w' ⟨rfl, rfl⟩
    exact ⟨by rw [QY.out], Below.refl _ _⟩)
  clear hW hca hra ha hl hix hiy
  go_enter Tryd.func103, Tryd.ntmps103
  go_wp2
  refine wp_region_later (by kernel_rfl) (by kernel_rfl) ?_
  iterate 6 go_big_quiet_step ((go_at_call 111; exact calls_later _ (IX.out _)))
  clear IX
  repeat go_big_quiet_step ((go_at_call 111; exact calls_later _ (IY.out _)))
  refine wpQuiet_nil ?_
  rintro _ ⟨r, rfl⟩
  go_wp2
  go_ret
  exact ⟨rfl, r.h⟩
end Go.Proofs.YtgjegpponchdaaaDoor
