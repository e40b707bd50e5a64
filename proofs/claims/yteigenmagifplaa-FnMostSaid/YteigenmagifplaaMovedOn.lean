/- The library's ContainsFunc at the question whether somebody on a circle takes something. -/
import Derived.Test.YteigenmagifplaaProg
import Derived.Test.YteigenmagifplaaMem
namespace Go.Proofs.Yteigenmagifplaa
set_option linter.unusedVariables false
set_option linter.unusedSimpArgs false
open Go.RowKit

theorem movedAt_any (n ct b x : Nat) (at' : Option Addr) (T : Nat → Int) (w : World) (hx : x < n) (hc : w.cell? ⟨b, 0, none⟩ = some (.slice at' n ct)) (ha : Rd w at' n T) :
    Calls Try.prog 64 #[.int .i64 (x : Nat), .pointer (some ⟨b, 0, none⟩)] w fun e w' => e = .returned (.bool (T x != (x : Int))) ∧ w = w' := by
  obtain ⟨ba, oa, rfl, hca⟩ := ha x hx
  have i1 : (0 : Int) ≤ (x : Int) := by omega
  have i2 : (x : Int) < (n : Int) := by omega
  obtain ⟨v, hv⟩ : ∃ v, v = T x := ⟨_, rfl⟩
  rw [← hv] at hca ⊢
  clear hv ha
  go_enter Try.func64, Try.ntmps64
  go_wp2_with fail
  go_ret
  exact ⟨rfl, rfl⟩

/-- Somebody on the circle takes something. -/
def MovedOn (m : Nat) (C T : Nat → Int) : Prop := ∃ j, j < m ∧ T (C j).toNat ≠ C j
/-- The first place of those that do; -1 if nobody does. -/
noncomputable def movedIdx (C T : Nat → Int) : Nat → Int
  | 0 => -1
  | k + 1 => if movedIdx C T k = -1 then (if T (C k).toNat ≠ C k then (k : Int) else -1) else movedIdx C T k
theorem movedIdx_none {C T : Nat → Int} : ∀ {k : Nat}, (∀ j, j < k → T (C j).toNat = C j) → movedIdx C T k = -1
  | 0, _ => rfl
  | k + 1, h => by
    show (if movedIdx C T k = -1 then (if T (C k).toNat ≠ C k then (k : Int) else -1) else movedIdx C T k) = -1
    rw [if_pos (movedIdx_none fun j hj => h j (by omega)), if_neg (fun hn => hn (h k (by omega)))]
theorem movedIdx_some {C T : Nat → Int} {j : Nat} : ∀ {k : Nat}, j < k → (∀ i, i < j → T (C i).toNat = C i) → T (C j).toNat ≠ C j → movedIdx C T k = (j : Nat)
  | 0, h, _, _ => absurd h (Nat.not_lt_zero _)
  | k + 1, h, h1, h2 => by
    show (if movedIdx C T k = -1 then (if T (C k).toNat ≠ C k then (k : Int) else -1) else movedIdx C T k) = (j : Nat)
    by_cases e : j = k
    · subst e
      rw [if_pos (movedIdx_none h1), if_pos h2]
    · rw [movedIdx_some (show j < k by omega) h1 h2, if_neg (by omega)]

set_option maxHeartbeats 800000 in
theorem indexMoved_any (n ct b m d : Nat) (at' ac : Option Addr) (T C : Nat → Int) (w : World) (hm : m ≤ 1048576) (hC : ∀ j, j < m → 0 ≤ C j ∧ C j < n) (hc : w.cell? ⟨b, 0, none⟩ = some (.slice at' n ct)) (ha : Rd w at' n T) (hr : Rd w ac m C) :
    Calls Try.prog 71 #[.slice ac m d, .func (.func 64) #[] #[.pointer (some ⟨b, 0, none⟩)]] w fun e w' => e = .returned (.int .i64 (movedIdx C T m)) ∧ w = w' := by
  have HR := Lib.hid hr
  have HC := Lib.hid hC
  have HM := Lib.hid (fun x hx => movedAt_any n ct b x at' T w hx hc ha)
  clear hr hC hc ha
  go_enter Try.func71, Try.ntmps71
  go_wp2_with fail
  go_loop [4, 5, 8] (fun _ _ s => ∃ k : Nat, k ≤ m ∧ s = .int .i64 k ∧ ∀ i, i < k → T (C i).toNat = C i) (fun _ _ s => m - (intOf s).toNat)
  case atStart => exact ⟨0, Nat.zero_le _, rfl, fun i hi => absurd hi (Nat.not_lt_zero _)⟩
  case round =>
    obtain ⟨k, hk, rfl, hall⟩ := hrel
    have HAll := Lib.hid hall
    clear hall
    by_cases hlt : k < m
    · obtain ⟨ba, oa, rfl, hca⟩ := HR.out k hlt
      obtain ⟨x, hx⟩ := Int.eq_ofNat_of_zero_le (HC.out k hlt).1
      have hxn : x < n := by have := (HC.out k hlt).2; omega
      rw [hx] at hca
      have HX := Lib.hid hx
      clear hx
      by_cases e : T x = (x : Int)
      · have T1 := Lib.hid (show (T x != (x : Int)) = false by simp [e])
        have E := Lib.hid e
        clear e
        go_wp2_with (go_at_call 64; refine (HM.out x hxn).mono ?_; rintro e w' ⟨rfl, rfl⟩; rw [T1.out])
        go_round
        case rel => exact ⟨k + 1, by omega, by go_num, fun i hi => by
          by_cases ei : i = k
          · rw [ei, HX.out, Int.toNat_natCast]; exact E.out
          · exact HAll.out i (by omega)⟩
        case measure => simp [intOf]; omega
      · have T1 := Lib.hid (show (T x != (x : Int)) = true by simp [e])
        have E := Lib.hid (show movedIdx C T m = (k : Nat) from movedIdx_some hlt HAll.out (by rw [HX.out, Int.toNat_natCast]; exact e))
        clear e
        go_wp2_with (go_at_call 64; refine (HM.out x hxn).mono ?_; rintro e w' ⟨rfl, rfl⟩; rw [T1.out])
        go_ret
        exact ⟨by rw [E.out]; rfl, rfl⟩
    · obtain rfl : k = m := by omega
      have E := Lib.hid (movedIdx_none HAll.out)
      go_wp2_with fail
      go_ret
      exact ⟨by rw [E.out]; rfl, rfl⟩

theorem containsMoved_any (n ct b m d : Nat) (at' ac : Option Addr) (T C : Nat → Int) (w : World) (hm : m ≤ 1048576) (hC : ∀ j, j < m → 0 ≤ C j ∧ C j < n) (hc : w.cell? ⟨b, 0, none⟩ = some (.slice at' n ct)) (ha : Rd w at' n T) (hr : Rd w ac m C) :
    Calls Try.prog 63 #[.slice ac m d, .func (.func 64) #[] #[.pointer (some ⟨b, 0, none⟩)]] w fun e w' => e = .returned (.bool (tt (MovedOn m C T))) ∧ w = w' := by
  have H := Lib.hid (indexMoved_any n ct b m d at' ac T C w hm hC hc ha hr)
  obtain ⟨r, hre⟩ : ∃ r, r = movedIdx C T m := ⟨_, rfl⟩
  have hd : decide (0 ≤ r) = tt (MovedOn m C T) := by
    rw [hre]
    by_cases h : MovedOn m C T
    · rw [tt_of h]
      obtain ⟨j, hj, hne⟩ := h
      obtain ⟨i, _, hi1, hi2⟩ : ∃ i, i ≤ j ∧ T (C i).toNat ≠ C i ∧ ∀ l, l < i → T (C l).toNat = C l := by
        induction j using Nat.strongRecOn with
        | _ j ih =>
          by_cases e : ∃ i, i < j ∧ T (C i).toNat ≠ C i
          · obtain ⟨i, h1, h2⟩ := e
            obtain ⟨l, h3, h4, h5⟩ := ih i h1 (by omega) h2
            exact ⟨l, by omega, h4, h5⟩
          · refine ⟨j, Nat.le_refl _, hne, fun l hl => ?_⟩
            by_cases e2 : T (C l).toNat = C l
            · exact e2
            · exact absurd ⟨l, hl, e2⟩ e
      rw [movedIdx_some (by omega) hi2 hi1]
      simp
    · rw [tt_no h, movedIdx_none fun j hj => by
        by_cases e2 : T (C j).toNat = C j
        · exact e2
        · exact absurd ⟨j, hj, e2⟩ h]
      simp
  have HD := Lib.hid hd
  rw [← hre] at H
  clear hre hc ha hr hC hd
  have hd2 := HD.out
  obtain ⟨Bb, hBb⟩ : ∃ Bb, Bb = tt (MovedOn m C T) := ⟨_, rfl⟩
  rw [← hBb] at hd2 ⊢
  clear hBb HD
  go_enter Try.func63, Try.ntmps63
  go_wp2_with (go_at_call 71; refine H.out.mono ?_; rintro e w' ⟨rfl, rfl⟩)
  go_ret
  exact ⟨rfl, rfl⟩
end Go.Proofs.Yteigenmagifplaa
