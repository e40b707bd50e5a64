/- TermIn, of the model and of the program. -/
import Derived.Test.YtnaegnjgpnakfaaDoorTermBool
namespace Go.Proofs.YtnaegnjgpnakfaaDoor
set_option linter.unusedVariables false
set_option linter.unusedSimpArgs false
open Go.RowKit

theorem specTermIn_any (n : Int) (s : ByteArray) (w : World) (hn : I64 n) : Calls Tryd.prog 14 #[.int .i64 n, .string s] w fun e w' => e = .returned (.bool (termB n s)) ∧ Below w.heap.size w w' := by
  have H := Lib.hid (l10Of_any n s w hn)
  unfold termB
  clear hn
  cases ho : termN n s with
  | none =>
    rw [ho] at H
    go_enter Tryd.func14, Tryd.ntmps14
    go_wp2_with (go_at_call 38; refine H.out.mono ?_; rintro e w1 ⟨hb, c, L, a, m, k, ok, rfl, hok⟩; have hok' : ok = false := hok; subst hok'; have X := Lib.hid hb; clear hb)
    go_ret
    exact ⟨rfl, below_alloc X.out _⟩
  | some t =>
    rw [ho] at H
    go_enter Tryd.func14, Tryd.ntmps14
    go_wp2_with (go_at_call 38; refine H.out.mono ?_; rintro e w1 ⟨hb, c, L, a, m, k, ok, rfl, rfl, hv⟩; have X := Lib.hid hb; clear hb hv)
    go_ret
    exact ⟨rfl, below_alloc X.out _⟩
theorem termIn_any (n : Int) (s : ByteArray) (w : World) (hE : ErrAt w) (hn : I64 n) : Calls Tryd.prog 15 #[.int .i64 n, .string s] w fun e w' => e = .returned (.bool (termB n s)) ∧ Below w.heap.size w w' := by
  have H := Lib.hid (readTerm_any n s w hE hn)
  unfold termB
  clear hn hE
  cases ho : termN n s with
  | none =>
    rw [ho] at H
    go_enter Tryd.func15, Tryd.ntmps15
    go_wp2_with (go_at_call 39; refine H.out.mono ?_; rintro e w1 ⟨hb, rfl⟩; have X := Lib.hid hb; clear hb)
    go_ret
    exact ⟨rfl, X.out⟩
  | some t =>
    rw [ho] at H
    go_enter Tryd.func15, Tryd.ntmps15
    go_wp2_with (go_at_call 39; refine H.out.mono ?_; rintro e w1 ⟨hb, v, rfl, hv⟩; have X := Lib.hid hb; clear hb hv)
    go_ret
    exact ⟨rfl, X.out⟩
end Go.Proofs.YtnaegnjgpnakfaaDoor
