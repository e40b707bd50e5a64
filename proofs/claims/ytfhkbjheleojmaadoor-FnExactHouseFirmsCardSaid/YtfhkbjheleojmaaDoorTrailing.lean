/- The library's TrailingZeros, where its table lies as it is laid. -/
import Derived.Test.YtfhkbjheleojmaaDoorMem
import Derived.Test.YtfhkbjheleojmaaDoorProg
import Derived.Shelf.Spec.TrailingZeros
namespace Go.Proofs.YtfhkbjheleojmaaDoor
set_option linter.unusedVariables false
set_option linter.unusedSimpArgs false
open Go.RowKit

/-- The library's table lies in its variable. -/
def TzAt (w : World) : Prop := ∀ j, j < 64 → w.cell? ⟨1, j, none⟩ = some (.int .u8 ((Lib.deBruijn64tab.getD j 0 : Nat) : Int))
theorem TzAt.below {w w' : World} {B : Nat} (h : TzAt w) (hB : w.heap.size ≤ B) (hb : Below B w w') : TzAt w' := fun j hj =>
  (hb.cell (p := ⟨_, j, none⟩) (Nat.lt_of_lt_of_le (World.block_lt_of_cell? _ _ (h j hj)) hB)).trans (h j hj)

set_option maxHeartbeats 800000 in
theorem tz64_any (x k idx : Nat) (w : World) (hx0 : ((x : Int) == 0) = false)
    (key : IntKind.u64.wrap (bits BinOp.and IntKind.u64 (x : Int) (IntKind.u64.wrap (-(x : Int))) * 285870213051353865) / 288230376151711744 = (idx : Int))
    (hi : idx < 64) (hk : k < 64) (hcell : w.cell? ⟨1, idx, none⟩ = some (.int .u8 k)) :
    Calls Tryd.prog 81 #[.int .u64 x] w fun e w' => e = .returned (.int .i64 k) ∧ w = w' := by
  have g1 : Tryd.prog.globals[1]? = Tryd.prog.globals[1]? := rfl
  go_enter Tryd.func81, Tryd.ntmps81
  go_wp2_with (simp only [key])
  go_ret
  exact ⟨rfl, rfl⟩

set_option maxHeartbeats 800000 in
theorem trailing_any (x : Nat) (w : World) (hx0 : x ≠ 0) (hx : x < 2 ^ 62) (hT : TzAt w) :
    Calls Tryd.prog 76 #[.int .u64 x] w fun e w' => e = .returned (.int .i64 (Lib.ctz 64 x : Nat)) ∧ w = w' := by
  obtain ⟨hlow, hk⟩ := Lib.lowest_bit 64 x hx0 (by omega)
  obtain ⟨hi, htab⟩ := Lib.deBruijn64_at _ hk
  have hcell := hT _ hi
  rw [htab] at hcell
  have H := Lib.hid (tz64_any x _ _ w (by simp; omega) (tz64_key x _ (by omega) hx0 hlow) hi hk hcell)
  clear hlow hk hi htab hcell hT
  go_enter Tryd.func76, Tryd.ntmps76
  go_wp2_with (go_at_call 81; refine H.out.mono ?_; rintro e w' ⟨rfl, rfl⟩)
  go_ret
  exact ⟨rfl, rfl⟩
/-- The lowest one of a set. -/
theorem ctz_bit {x : Nat} (hx0 : x ≠ 0) (hx : x < 2 ^ 64) : x.testBit (Lib.ctz 64 x) = true := by
  unfold Lib.ctz
  rw [if_neg hx0]
  obtain ⟨m, hm, _⟩ := Lib.ctzFrom_spec 64 x (by omega) hx
  obtain ⟨k, hk⟩ : ∃ k, k = Lib.ctzFrom 64 x := ⟨_, rfl⟩
  rw [← hk] at hm ⊢
  rw [hm, Nat.mul_comm, Nat.testBit_mul_two_pow]
  simp
end Go.Proofs.YtfhkbjheleojmaaDoor
