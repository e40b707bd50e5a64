/- The exact law of TermIn. -/
import Derived.Test.YtnaegnjgpnakfaaDoorSpecOf
import Derived.Test.YtnaegnjgpnakfaaDoorTermReadP
namespace Go.Proofs.YtnaegnjgpnakfaaDoor
set_option linter.unusedVariables false
set_option linter.unusedSimpArgs false
open Go.RowKit

/-- Is a text a term for so many? -/
noncomputable def termB (n : Int) (s : ByteArray) : Bool := (termN n s).isSome
theorem specTermIn_any (n : Int) (s : ByteArray) (w : World) (hn : I64 n) : Calls Tryd.prog 14 #[.int .i64 n, .string s] w fun e w' => e = .returned (.bool (termB n s)) ∧ Below w.heap.size w w' := by
  have H := Lib.hid (l10Of_any n s w hn)
  unfold termB
  clear hn
  cases ho : termN n s with
  | none =>
    rw [ho] at H
    go_enter Tryd.func14, Tryd.ntmps14
    go_wp2_with (go_at_call 38; refine H.out.mono ?_; rintro e w1 ⟨hb, c, L, a, m, k, ok, rfl, hok⟩; have hok' : ok = false := hok; subst hok'; have X := Lib.hid hb; clear hb)
    go_ret
    exact ⟨rfl, below_alloc X.out _⟩
  | some t =>
    rw [ho] at H
    go_enter Tryd.func14, Tryd.ntmps14
    go_wp2_with (go_at_call 38; refine H.out.mono ?_; rintro e w1 ⟨hb, c, L, a, m, k, ok, rfl, rfl, hv⟩; have X := Lib.hid hb; clear hb hv)
    go_ret
    exact ⟨rfl, below_alloc X.out _⟩
theorem termIn_any (n : Int) (s : ByteArray) (w : World) (hE : ErrAt w) (hn : I64 n) : Calls Tryd.prog 15 #[.int .i64 n, .string s] w fun e w' => e = .returned (.bool (termB n s)) ∧ Below w.heap.size w w' := by
  have H := Lib.hid (readTerm_any n s w hE hn)
  unfold termB
  clear hn hE
  cases ho : termN n s with
  | none =>
    rw [ho] at H
    go_enter Tryd.func15, Tryd.ntmps15
    go_wp2_with (go_at_call 39; refine H.out.mono ?_; rintro e w1 ⟨hb, rfl⟩; have X := Lib.hid hb; clear hb)
    go_ret
    exact ⟨rfl, X.out⟩
  | some t =>
    rw [ho] at H
    go_enter Tryd.func15, Tryd.ntmps15
    go_wp2_with (go_at_call 39; refine H.out.mono ?_; rintro e w1 ⟨hb, v, rfl, hv⟩; have X := Lib.hid hb; clear hb hv)
    go_ret
    exact ⟨rfl, X.out⟩
theorem fnExactTermIn_walk (n : Int) (s : ByteArray) (w : World) (hE : ErrAt w) (hn : I64 n) (hs : s.size ≤ maxLen) : Calls Tryd.prog 3 #[.int .i64 n, .string s] w fun e w' => e = .returned (.bool true) ∧ Below w.heap.size w w' := by
  by_cases h : 1048576 < s.size
  · have d1 : decide ((1048576 : Int) < (s.size : Int)) = true := decide_eq_true (by omega)
    have d1n : decide (1048576 < s.size) = true := decide_eq_true h
    clear h hs hn
    go_enter Tryd.func3, Tryd.ntmps3
    go_wp2
    go_ret
    exact ⟨rfl, Below.refl _ _⟩
  · have d1 : decide ((1048576 : Int) < (s.size : Int)) = false := decide_eq_false (by omega)
    have d1n : decide (1048576 < s.size) = false := decide_eq_false h
    have H1 := Lib.hid (specTermIn_any n s w hn)
    have H2 := Lib.hid (fun (w1 : World) (h1 : Below w.heap.size w w1) => termIn_any n s w1 (hE.below h1) hn)
    have E := Lib.hid (show (termB n s == termB n s) = true by cases termB n s <;> rfl)
    clear h hs hn hE
    obtain ⟨b, hb⟩ : ∃ b, b = termB n s := ⟨_, rfl⟩
    rw [← hb] at H1 H2
    clear hb E
    cases b
    all_goals
      go_enter Tryd.func3, Tryd.ntmps3
      go_wp2_with (first
        | (go_at_call 14; refine H1.out.mono ?_; rintro e w1 ⟨rfl, hb1⟩; have X1 := Lib.hid hb1; clear hb1)
        | (go_at_call 15; refine (H2.out _ X1.out).mono ?_; rintro e w2 ⟨rfl, hb2⟩; have X2 := Lib.hid hb2; clear hb2))
      go_ret
      exact ⟨rfl, below_chain X1.out X2.out⟩
end Go.Proofs.YtnaegnjgpnakfaaDoor
