/- The program's hasRound. -/
import Derived.Test.YtmjbocgoinfamaaHasWay
import Derived.Test.YtmjbocgoinfamaaLater
import Derived.Test.YtmjbocgoinfamaaClone
import Derived.Test.YtmjbocgoinfamaaMin
namespace Go.Proofs.Ytmjbocgoinfamaa
set_option linter.unusedVariables false
open Go.RowKit

set_option maxHeartbeats 800000 in
theorem hasRound_any (n m d : Nat) (F : Nat → Int) (b : Option Addr) (X : Nat → Int) (w : World) (h : Kept n F) (hm : m ≤ 1048576) (hb : Rd w b m X) :
    Calls Try.prog 65 #[.agg (cellsV 25 F), .slice b m d] w fun e w' => e = .returned (.bool (tt (IsRing n m X))) ∧ Below w.heap.size w w' := by
  have H := Lib.hid h
  have HB := Lib.hid hb
  clear h hb
  by_cases hw : IsWay n m X
  · have T := Lib.hid (tt_of hw)
    have hm2 := hw.2.1
    have E := Lib.hid (show (X 0 == minF X (m - 1)) = tt (IsRing n m X) from tt_eq (by rw [beq_iff_eq]; exact ring_iff hw))
    obtain ⟨bb, ob, rfl, hlt, hc0⟩ := HB.out.lt (show 0 < m by omega)
    rw [Nat.add_zero] at hc0
    have HC := Lib.hid hc0
    have hi1 : 0 < m := by omega
    clear hw hlt hc0
    go_enter Try.func65, Try.ntmps65
    go_wp2_with ((with_reducible refine arr_box 25 _ _ F ?_ ?_); exact rfl; intro w1 hA1 hs1 hb1)
    have A1 := Lib.hid hA1
    have B1 := Lib.hid hb1
    have hcr : ∀ r : Later w1, r.W.cell? ⟨bb, ob, none⟩ = some (.int .i64 (X 0)) := fun r => later_cell ((hb1.cell (p := ⟨bb, ob, none⟩) (World.block_lt_of_cell? _ _ HC.out)).trans HC.out) r
    clear hA1 hs1 hb1
    refine wp_region_later (by kernel_rfl) (by kernel_rfl) ?_
    repeat (first
      | ((with_reducible refine quiet_load_arr 25 _ _ _ 58 _ w.heap.size F ?_ ?_ Try.underlying58 Try.sizeRates ?_); exact rfl; (rintro _ ⟨r, rfl⟩; exact later_arr A1.out r))
      | quiet_step ((first
          | (go_at_call 53; exact calls_later _ ((hasWay_any n m d F _ X _ H.out hm ((HB.out.below (Nat.le_refl _) B1.out).below (Nat.le_refl _) (Later.h _))).mono fun e w' ⟨he, hb⟩ => ⟨he.trans (by rw [T.out]), hb⟩))
          | (go_at_call 103; exact calls_later _ ((min_any m d _ X _ (by omega) hm ((HB.out.below (Nat.le_refl _) B1.out).below (Nat.le_refl _) (Later.h _))).mono fun e w' ⟨he, hw⟩ => ⟨he, hw ▸ Below.refl _ _⟩)))))
    clear hcr
    refine wpQuiet_nil ?_
    rintro _ ⟨r, rfl⟩
    go_wp2
    go_ret
    exact ⟨by rw [← E.out]; rfl, B1.out.trans (r.h.mono B1.out.size)⟩
  · have T := Lib.hid (tt_no hw)
    have E := Lib.hid (tt_no (show ¬ IsRing n m X from fun h => hw h.1))
    clear hw
    go_enter Try.func65, Try.ntmps65
    go_wp2_with ((with_reducible refine arr_box 25 _ _ F ?_ ?_); exact rfl; intro w1 hA1 hs1 hb1)
    have A1 := Lib.hid hA1
    have B1 := Lib.hid hb1
    clear hA1 hs1 hb1
    refine wp_region_later (by kernel_rfl) (by kernel_rfl) ?_
    repeat (first
      | ((with_reducible refine quiet_load_arr 25 _ _ _ 58 _ w.heap.size F ?_ ?_ Try.underlying58 Try.sizeRates ?_); exact rfl; (rintro _ ⟨r, rfl⟩; exact later_arr A1.out r))
      | quiet_step ((go_at_call 53; exact calls_later _ ((hasWay_any n m d F _ X _ H.out hm ((HB.out.below (Nat.le_refl _) B1.out).below (Nat.le_refl _) (Later.h _))).mono fun e w' ⟨he, hb⟩ => ⟨he.trans (by rw [T.out]), hb⟩))))
    refine wpQuiet_nil ?_
    rintro _ ⟨r, rfl⟩
    go_wp2
    go_ret
    exact ⟨by rw [E.out]; rfl, B1.out.trans (r.h.mono B1.out.size)⟩
end Go.Proofs.Ytmjbocgoinfamaa
