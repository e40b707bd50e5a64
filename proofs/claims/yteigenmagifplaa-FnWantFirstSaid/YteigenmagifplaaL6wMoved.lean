/- The model's l6wMoved and l6wLess. -/
import Derived.Test.YteigenmagifplaaWantModel
import Derived.Test.YteigenmagifplaaSeq
import Derived.Test.YteigenmagifplaaProg
import Derived.BigQuiet
namespace Go.Proofs.Yteigenmagifplaa
set_option linter.unusedVariables false
set_option linter.unusedSimpArgs false
open Go.RowKit

set_option maxHeartbeats 800000 in
theorem l6wMoved_any (m c : Nat) (a : Option Addr) (T : Nat → Int) (w : World) (hm : m ≤ 1048576) (ha : Rd w a m T) :
    Calls Try.prog 49 #[.slice a m c] w fun e w' => e = .returned (.int .i64 (movedN T m : Nat)) ∧ w = w' := by
  go_enter Try.func49, Try.ntmps49
  go_wp2
  go_loop [3, 4] (fun s i => ∃ k : Nat, k ≤ m ∧ i = .int .i64 k ∧ s = .int .i64 (movedN T k : Nat)) (fun _ i => m - (intOf i).toNat)
  case atStart => exact ⟨0, Nat.zero_le _, rfl, rfl⟩
  case round =>
    obtain ⟨k, hk, rfl, rfl⟩ := hrel
    by_cases hlt : k < m
    · obtain ⟨ba, oa, rfl, hca⟩ := ha k hlt
      have hle := movedN_le T k
      obtain ⟨x, hx⟩ : ∃ x, x = T k := ⟨_, rfl⟩
      obtain ⟨N, hN⟩ : ∃ N, N = movedN T k := ⟨_, rfl⟩
      have hnext : movedN T (k + 1) = N + if x = k then 0 else 1 := by rw [hx, hN]; rfl
      rw [← hx] at hca
      rw [← hN] at hle ⊢
      have HX := Lib.hid hnext
      clear ha hx hN hnext
      by_cases e : x = k
      · have d1 : (x != (k : Int)) = false := by simp [e]
        have E := Lib.hid (show movedN T (k + 1) = N by rw [HX.out, if_pos e]; rfl)
        clear e
        go_wp2
        go_round
        case rel => exact ⟨k + 1, by omega, by go_num, by rw [E.out]⟩
        case measure => simp [intOf]; omega
      · have d1 : (x != (k : Int)) = true := by simp [e]
        have E := Lib.hid (show movedN T (k + 1) = N + 1 by rw [HX.out, if_neg e])
        clear e
        go_wp2
        go_round
        case rel => exact ⟨k + 1, by omega, by go_num, by rw [E.out]; go_num⟩
        case measure => simp [intOf]; omega
    · obtain rfl : k = m := by omega
      clear ha
      go_wp2
      go_ret
      exact ⟨rfl, rfl⟩

set_option maxHeartbeats 800000 in
theorem l6wLess_any (n c d : Nat) (a b : Option Addr) (X Y : Nat → Int) (w : World) (hn : n ≤ 1048576) (ha : Rd w a n X) (hb : Rd w b n Y) :
    Calls Try.prog 66 #[.slice a n c, .slice b n d] w fun e w' => e = .returned (.bool (tt (LessP n X Y))) ∧ Below w.heap.size w w' := by
  have HA := Lib.hid ha
  have HB := Lib.hid hb
  clear ha hb
  go_enter Try.func66, Try.ntmps66
  go_wp2
  go_loopw [5] (fun i wr => ∃ k : Nat, k ≤ n ∧ i = .int .i64 k ∧ (∀ j, j < k → X j = Y j) ∧ Below w.heap.size w wr) (fun i _ => n - (intOf i).toNat)
  case atStart => exact ⟨0, Nat.zero_le _, rfl, fun j hj => absurd hj (Nat.not_lt_zero _), Below.refl _ _⟩
  case round =>
    obtain ⟨k, hk, rfl, he, hB⟩ := hrel
    have HE := Lib.hid he
    have BR := Lib.hid hB
    clear he hB
    by_cases hlt : k < n
    · obtain ⟨ba, oa, rfl, hca⟩ := (HA.out.below (Nat.le_refl _) BR.out) k hlt
      obtain ⟨bb, ob, rfl, hcb⟩ := (HB.out.below (Nat.le_refl _) BR.out) k hlt
      obtain ⟨x, hx⟩ : ∃ x, x = X k := ⟨_, rfl⟩
      obtain ⟨y, hy⟩ : ∃ y, y = Y k := ⟨_, rfl⟩
      rw [← hx] at hca
      rw [← hy] at hcb
      have HX := Lib.hid hx
      have HY := Lib.hid hy
      clear hx hy
      have LA := later_cell hca
      have LB := later_cell hcb
      have i1 : (0 : Int) ≤ (k : Int) := by omega
      have i2 : (k : Int) < (n : Int) := by omega
      by_cases e : x = y
      · have d1 : (x != y) = false := by simp [e]
        have E := Lib.hid (show X k = Y k by rw [← HX.out, ← HY.out, e])
        clear e hca hcb
        go_wp2
        refine wp_region_later (by kernel_rfl) (by kernel_rfl) ?_
        repeat go_big_quiet_step (fail)
        refine wpQuiet_nil ?_
        rintro _ ⟨r, rfl⟩
        have B2 := Lib.hid (BR.out.trans (r.h.mono BR.out.size))
        go_wp2
        go_roundw
        case rel => exact ⟨k + 1, by omega, by go_num, fun j hj => by
          by_cases e : j = k
          · subst e; exact E.out
          · exact HE.out j (by omega), B2.out⟩
        case measure => simp [intOf]; omega
      · have d1 : (x != y) = true := by simp [e]
        have E := Lib.hid (show decide (x < y) = tt (LessP n X Y) from by
          by_cases hl : x < y
          · rw [tt_of (show LessP n X Y from ⟨k, hlt, HE.out, by rw [← HX.out, ← HY.out]; exact hl⟩)]; simpa using hl
          · rw [tt_no (show ¬ LessP n X Y from fun ⟨j, hj, h1, h2⟩ => by
              rcases Nat.lt_trichotomy j k with h3 | h3 | h3
              · have := HE.out j h3; omega
              · subst h3; have h4 := HX.out; have h5 := HY.out; omega
              · have h6 := h1 k h3
                have h4 := HX.out
                have h5 := HY.out
                exact e (by omega))]
            simpa using hl)
        clear e hca hcb
        go_wp2
        refine wp_region_later (by kernel_rfl) (by kernel_rfl) ?_
        repeat go_big_quiet_step (fail)
        refine wpQuiet_nil ?_
        rintro _ ⟨r, rfl⟩
        have LA2 : ∀ r2 : Later r.W, r2.W.cell? ⟨ba, oa + k, none⟩ = some (.int .i64 x) := later_cell (LA r)
        have LB2 : ∀ r2 : Later r.W, r2.W.cell? ⟨bb, ob + k, none⟩ = some (.int .i64 y) := later_cell (LB r)
        have B2 := Lib.hid (BR.out.trans (r.h.mono BR.out.size))
        go_wp2
        refine wp_region_later (by kernel_rfl) (by kernel_rfl) ?_
        repeat go_big_quiet_step (fail)
        refine wpQuiet_nil ?_
        rintro _ ⟨r2, rfl⟩
        have B3 := Lib.hid (B2.out.trans (r2.h.mono B2.out.size))
        go_wp2
        go_ret
        exact ⟨by rw [← E.out]; rfl, B3.out⟩
    · obtain rfl : k = n := by omega
      have hno := Lib.hid (show ¬ LessP k X Y from fun ⟨j, hj, h1, h2⟩ => by have := HE.out j hj; omega)
      go_wp2
      go_ret
      exact ⟨by rw [tt_no hno.out]; rfl, BR.out⟩
end Go.Proofs.Yteigenmagifplaa
