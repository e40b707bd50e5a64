/- The model's l8Prices: whether a list is item prices. -/
import Derived.Test.YtaipodnhnekpjaaFairFn
import Derived.Test.YtaipodnhnekpjaaL6In
namespace Go.Proofs.Ytaipodnhnekpjaa
set_option linter.unusedVariables false
set_option linter.unusedSimpArgs false
open Go.RowKit

set_option maxRecDepth 100000 in
set_option maxHeartbeats 800000 in
theorem l8Prices_any (n c q d : Nat) (a b : Option Addr) (A : Nat → Option Addr) (L C : Nat → Nat) (Z : Nat → Nat → Int) (P : Nat → Int) (w : World) (hn1 : 1 ≤ n) (hq : q ≤ 1048576) (ha0 : Tab w a n A L C Z) (hb0 : Rd w b q P) :
    Calls Try.prog 46 #[.slice a n c, .slice b q d] w fun e w' => e = .returned (.bool (tt (ItemP q (L 0) P))) ∧ w = w' := by
  obtain ⟨ba, oa, rfl, hc0, _⟩ := ha0 0 hn1
  rw [Nat.add_zero] at hc0
  have HB := Lib.hid hb0
  have hn0 : (0 : Int) < (n : Int) := by omega
  obtain ⟨m, hm⟩ : ∃ m, m = L 0 := ⟨_, rfl⟩
  rw [← hm] at hc0 ⊢
  clear ha0 hb0 hm
  go_enter Try.func46, Try.ntmps46
  go_wp2
  go_loop [5] (fun i => ∃ k : Nat, k ≤ q ∧ i = .int .i64 k ∧ ∀ j, j < k → 0 ≤ P j ∧ P j ≤ 20) (fun i => q - (intOf i).toNat)
  case atStart => exact ⟨0, Nat.zero_le _, rfl, fun j hj => absurd hj (Nat.not_lt_zero _)⟩
  case round =>
    obtain ⟨k, hk, rfl, hall⟩ := hrel
    have H1 := Lib.hid hall
    clear hall
    by_cases hlt : k < q
    · obtain ⟨bb, ob, rfl, hcb⟩ := HB.out k hlt
      by_cases hin : InR (P k) 0 20
      · have T1 := Lib.hid (tt_of hin)
        have HI := Lib.hid hin
        clear hin
        go_wp2_with (go_at_call 74; refine (l6In_any _ _ _ _).mono ?_; rintro e w' ⟨rfl, rfl⟩; rw [T1.out])
        go_round
        case rel =>
          exact ⟨k + 1, by omega, by go_num, fun j hj => by
            by_cases e : j = k
            · subst e; exact HI.out
            · exact H1.out j (by omega)⟩
        case measure => simp [intOf]; omega
      · have T1 := Lib.hid (tt_no hin)
        have NO := Lib.hid (tt_no (show ¬ ItemP q m P from fun h => hin (h.1 k hlt)))
        clear hin
        go_wp2_with (go_at_call 74; refine (l6In_any _ _ _ _).mono ?_; rintro e w' ⟨rfl, rfl⟩; rw [T1.out])
        go_ret
        exact ⟨by rw [NO.out]; rfl, rfl⟩
    · obtain rfl : k = q := by omega
      have E := Lib.hid (show ((k : Int) == (m : Int)) = tt (ItemP k m P) from by
        by_cases e : k = m
        · rw [tt_of ⟨H1.out, e⟩]; simp [e]
        · rw [tt_no fun h => e h.2]; exact beq_eq_false_iff_ne.2 (by omega))
      go_wp2
      go_ret
      exact ⟨by rw [← E.out]; rfl, rfl⟩
end Go.Proofs.Ytaipodnhnekpjaa
