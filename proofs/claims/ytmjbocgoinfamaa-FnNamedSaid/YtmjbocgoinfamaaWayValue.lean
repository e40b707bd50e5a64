/- The program's wayValue. -/
import Derived.Test.YtmjbocgoinfamaaSize
import Derived.Test.YtmjbocgoinfamaaLater
namespace Go.Proofs.Ytmjbocgoinfamaa
set_option linter.unusedVariables false
open Go.RowKit

set_option maxHeartbeats 800000 in
theorem wayValue_any (n m d : Nat) (F : Nat → Int) (b : Option Addr) (W : Nat → Int) (w : World) (h : Kept n F) (hn2 : 2 ≤ n) (hway : IsWay n m W) (hmd : m ≤ d) (hb : Rd w b m W) :
    Calls Try.prog 54 #[.agg (cellsV 25 F), .slice b m d] w fun e w' => e = .returned (.int .i64 (valF (atF F) W (p12 ((n : Int) - 1 - m + 1).toNat) (m - 1))) ∧ Below w.heap.size w w' := by
  have hn5 := h.le
  have hm2 := hway.2.1
  have hmn := hway.2.2
  have H := Lib.hid h
  have HB := Lib.hid hb
  have HW := Lib.hid hway
  clear h hb hway
  go_enter Try.func54, Try.ntmps54
  go_wp2_with ((with_reducible refine arr_box 25 _ _ F ?_ ?_); exact rfl; intro w1 hA1 hs1 hb1)
  have A1 := Lib.hid hA1
  have B1 := Lib.hid hb1
  clear hA1 hs1 hb1
  have hwr : IntKind.i64.wrap ((n : Int) - 1) = (n : Int) - 1 := IntWalk.i64_in _ (by omega)
  refine wp_region_later (by kernel_rfl) (by kernel_rfl) ?_
  repeat (first
    | ((with_reducible refine quiet_load_arr 25 _ _ _ 58 _ w.heap.size F ?_ ?_ Try.underlying58 Try.sizeRates ?_); exact rfl; (rintro _ ⟨r, rfl⟩; exact later_arr A1.out r))
    | quiet_step ((first
        | (go_at_call 59; exact calls_later _ (size_any n F _ H.out))
        | (go_at_call 99; exact calls_later _ (value_any n m d F b W _ _ hn5 H.out.rate ((HB.out.below (Nat.le_refl _) B1.out).below (Nat.le_refl _) (Later.h _)) hm2 (by omega) hmd (by omega) (by omega) HW.out.1.1)))))
  clear hwr
  refine wpQuiet_nil ?_
  rintro _ ⟨r, rfl⟩
  go_wp2
  go_ret
  exact ⟨rfl, B1.out.trans (r.h.mono B1.out.size)⟩
end Go.Proofs.Ytmjbocgoinfamaa
