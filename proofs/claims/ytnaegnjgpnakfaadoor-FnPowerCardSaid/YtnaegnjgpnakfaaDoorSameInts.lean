/- The laws' sameInts: two rows of integers are compared: true exactly if they are as long and the same at each place; nothing is written. -/
import Derived.Test.YtnaegnjgpnakfaaDoorMem
import Derived.Test.YtnaegnjgpnakfaaDoorProg
import Derived.Test.YtnaegnjgpnakfaaDoorSameB
namespace Go.Proofs.YtnaegnjgpnakfaaDoor
set_option linter.unusedVariables false

section
open Go.RowKit
set_option maxHeartbeats 400000 in
theorem sameInts_any (n m ca cb : Nat) (a b : Option Addr) (X Y : Nat → Int) (w : World) (hn : n ≤ 9223372036854775807) (hm : m ≤ 9223372036854775807) (ha : Rd w a n X) (hb : Rd w b m Y) :
    Calls Tryd.prog 31 #[.slice a n ca, .slice b m cb] w fun e w' => e = .returned (.bool (tt (SameB n m X Y))) ∧ ∃ q, w' = w.drewN q := by
  by_cases hnm : n = m
  · subst hnm
    go_enter Tryd.func31, Tryd.ntmps31
    go_wp2
    go_loopw [4, 5] (fun r i wr => ∃ k : Nat, k ≤ n ∧ i = .int .i64 k ∧ r = .bool false ∧ (∀ j, j < k → X j = Y j) ∧ ∃ q, wr = w.drewN q) (fun _ i _ => n - (intOf i).toNat)
    case atStart => exact ⟨0, Nat.zero_le _, rfl, rfl, fun j hj => absurd hj (Nat.not_lt_zero _), 0, rfl⟩
    case round =>
      obtain ⟨k, hk, rfl, rfl, hs, q, rfl⟩ := hrel
      by_cases hlt : k < n
      · obtain ⟨ba, oa, rfl, hca⟩ := ha k hlt
        obtain ⟨bb, ob, rfl, hcb⟩ := hb k hlt
        have H1 := Lib.hid hs
        clear hs ha hb
        go_wp2
        go_quiet (fail)
        go_wp2
        · have ht : (X k != Y k) = true := by assumption
          have hf : ¬ SameB n n X Y := fun h => by have := h.2 k hlt; simp [this] at ht
          go_ret
          exact ⟨by rw [tt_no hf]; rfl, q + nq, by rw [World.drewN_drewN]⟩
        · have ht : (X k != Y k) = false := by assumption
          have he : X k = Y k := by simpa using ht
          go_roundw
          case rel =>
            exact ⟨k + 1, by omega, by go_num, rfl, fun j hj => by
              by_cases e : j = k
              · rw [e]; exact he
              · exact H1.out j (by omega), _, rfl⟩
          case measure => simp [intOf]; omega
      · have H1 := Lib.hid hs
        clear hs ha hb
        go_wp2
        go_ret
        exact ⟨by rw [tt_of ⟨rfl, fun j hj => H1.out j (by omega)⟩]; rfl, _, rfl⟩
  · go_enter Tryd.func31, Tryd.ntmps31
    have hne : ((n : Int) != (m : Int)) = true := by simp; omega
    go_wp2
    go_ret
    exact ⟨by rw [tt_no (fun h => hnm h.1)]; rfl, 0, rfl⟩
end

end Go.Proofs.YtnaegnjgpnakfaaDoor
