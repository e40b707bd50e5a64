/- The model's WantCircles. -/
import Derived.Test.YteigenmagifplaaL6wCircles
import Derived.Test.YteigenmagifplaaOnModel
namespace Go.Proofs.Yteigenmagifplaa
set_option linter.unusedVariables false
set_option linter.unusedSimpArgs false
open Go.RowKit

/-- All circles, out of nothing. -/
theorem l6wAll_any (n c f : Nat) (a : Option Addr) (W : Nat → Int) (w : World) (hW : IsWants n W) (hf : f ≤ n) (ha : Rd w a n W) (ba cb : Nat) (hba : ba < w.heap.size) :
    Calls Try.prog 36 #[.slice a n c, .int .i64 (f : Nat), .slice (some ⟨ba, 0, none⟩) 0 cb] w (RetLS 23 (circs n W f []) w) :=
  l6wCircles_any n c a W f hW hf f [] 0 cb ba 0 w (Diff.nil n) rfl (by omega) ha hba (fun j hj => absurd hj (Nat.not_lt_zero _))

set_option maxHeartbeats 800000 in
theorem specWantCircles_any (n c : Nat) (a : Option Addr) (W : Nat → Int) (k : Int) (w : World) (hm0 : n ≤ 1048576) (hb0 : Rd w a n W) (hx1 : I64 k) :
    Calls Try.prog 12 #[.slice a n c, .int .i64 k] w (RetTB (tt (WantK n W k)) (circsA n W k).length (lenL (circsA n W k)) (nthL (circsA n W k)) w) := by
  have H := Lib.hid (l6wGiven_any n c a W k w hm0 hb0)
  by_cases h : WantK n W k
  · have T1 := Lib.hid (tt_of h)
    have TA := Lib.hid (circsA_yes h)
    obtain ⟨f, rfl⟩ := Int.eq_ofNat_of_zero_le (show 0 ≤ k by have := h.2.1; omega)
    have hfn : f ≤ n := by have := h.2.2; omega
    have HC := Lib.hid (fun w' (hb : Below w.heap.size w w') ba cb (hba : ba < w'.heap.size) => l6wAll_any n c f a W w' h.1 hfn (hb0.below (Nat.le_refl _) hb) ba cb hba)
    rw [Int.toNat_natCast] at TA
    clear hb0 h
    go_enter Try.func12, Try.ntmps12
    go_wp2_with (first
      | (go_at_call 35; refine H.out.mono ?_; rintro e w1 ⟨rfl, hb1⟩; rw [T1.out]; have B1 := Lib.hid hb1; clear hb1)
      | (go_at_call 36; refine (HC.out _ (below_alloc B1.out _) _ _ (by simp)).mono ?_; rintro e w2 ⟨g, cap, G, Cp, rfl, hM, hb2⟩; have HM := Lib.hid hM; have B2 := Lib.hid ((below_alloc B1.out (.cells #[] 3)).trans (hb2.mono (Nat.le_trans B1.out.size (by simp)))); have S2 := Lib.hid (show w.heap.size ≤ (w1.alloc (.cells #[] 3)).heap.size from Nat.le_trans B1.out.size (by simp)); clear hM hb2))
    go_ret2
    exact ⟨_, _, _, _, by rw [T1.out, TA.out]; rfl, by rw [TA.out]; exact HM.out.ownT.sub S2.out (Nat.le_refl _), B2.out⟩
  · have T1 := Lib.hid (tt_no h)
    have TA := Lib.hid (circsA_no h)
    clear hb0 h
    go_enter Try.func12, Try.ntmps12
    go_wp2_with (go_at_call 35; refine H.out.mono ?_; rintro e w1 ⟨rfl, hb1⟩; rw [T1.out]; have B1 := Lib.hid hb1; clear hb1)
    go_ret2
    exact ⟨_, _, fun _ => none, fun _ => 0, by rw [T1.out, TA.out]; rfl, by rw [TA.out]; exact .inl rfl, below_alloc B1.out _⟩
end Go.Proofs.Yteigenmagifplaa
