/- The walk of the exact law of TermMoved: it answers true at every input that can be read. -/
import Derived.Test.YtnaegnjgpnakfaaDoorTermMoved
namespace Go.Proofs.YtnaegnjgpnakfaaDoor
set_option linter.unusedVariables false
set_option linter.unusedSimpArgs false
open Go.RowKit

theorem exactTermMoved_walk (x0 : Int) (s1 : ByteArray) (w : World) (hE : ErrAt w) (hx0 : I64 x0) (hs1 : s1.size ≤ maxLen) : Calls Tryd.prog 8 #[.int .i64 x0, .string s1] w fun e w' => e = .returned (.bool true) ∧ Below w.heap.size w w' := by
  by_cases hfit1 : s1.size ≤ 1048576
  · have hd1 : decide ((1048576 : Int) < (s1.size : Int)) = false := decide_eq_false (by omega)
    have hdn1 : decide (1048576 < s1.size) = false := decide_eq_false (by omega)
    have H1 := Lib.hid (specTermMoved_any x0 s1 w hx0)
    have H2 := Lib.hid (fun (w1 : World) (h1 : Below w.heap.size w w1) => termMoved_any x0 s1 w1 (hE.below h1) hx0)
    obtain ⟨q0, hq0⟩ : ∃ q, q = termB x0 s1 := ⟨_, rfl⟩
    rw [← hq0] at H1 H2
    clear hq0
    obtain ⟨q1, hq1⟩ : ∃ q, q = movedA x0 s1 := ⟨_, rfl⟩
    rw [← hq1] at H1 H2
    clear hq1
    obtain ⟨q2, hq2⟩ : ∃ q, q = cyclesA x0 s1 := ⟨_, rfl⟩
    rw [← hq2] at H1 H2
    clear hq2
    clear hs1 hx0 hE hfit1
    cases q0
    all_goals
      go_enter Tryd.func8, Tryd.ntmps8
      go_wp2_with (first
        | (go_at_call 27; refine H1.out.mono ?_; rintro e w1 ⟨rfl, hb1⟩; have X1 := Lib.hid hb1; clear hb1)
        | (go_at_call 28; refine (H2.out _ X1.out).mono ?_; rintro e w2 ⟨rfl, hb2⟩; have X2 := Lib.hid hb2; clear hb2))
      go_ret
      exact ⟨rfl, below_chain X1.out X2.out⟩
  · have hd : decide ((1048576 : Int) < (s1.size : Int)) = true := decide_eq_true (by omega)
    have hdn : decide (1048576 < s1.size) = true := decide_eq_true (by omega)
    clear hE
    go_enter Tryd.func8, Tryd.ntmps8
    go_wp2
    go_ret
    exact ⟨rfl, Below.refl _ _⟩
end Go.Proofs.YtnaegnjgpnakfaaDoor
