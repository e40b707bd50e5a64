/- The program's WantTurn. -/
import Derived.Test.YtamglhpgdaoaoaaReadWants
import Derived.Test.YtamglhpgdaoaoaaWantTurnModel
import Derived.StillTailTactics
namespace Go.Proofs.Ytamglhpgdaoaoaa
set_option linter.unusedVariables false
set_option linter.unusedSimpArgs false
open Go.RowKit

set_option maxRecDepth 100000 in
set_option maxHeartbeats 1600000 in
theorem wantTurn_all (n c : Nat) (a : Option Addr) (W : Nat → Int) (w : World) (hm0 : n ≤ 1048576) (hb0 : Rd w a n W) :
    Calls Try.prog 18 #[.slice a n c] w (RetIB (tt (IsWants n W)) (wantN n W) (turnW n W) w) := by
  have H := Lib.hid (readWants_any n c a W w hm0 hb0)
  clear hb0
  by_cases h : IsWants n W
  · have T1 := Lib.hid (tt_of h)
    have TN := Lib.hid (wantN_yes h)
    have HW := Lib.hid h
    have hn2 := h.1.1
    have hn6 := h.1.2
    have hmk := run_make_row' (P := Try.prog) 23 3 (.int .i64 0) 8 Try.underlying23 Try.infoInt rfl .i64 .i64 n (by omega) (by omega)
    clear h
    go_enter Try.func18, Try.ntmps18
    go_wp2_with (go_at_call 45; refine H.out.mono ?_; rintro e w1 ⟨v, rfl, hv, hb1⟩; rw [T1.out]; obtain ⟨g, rfl, hg1, hg2, hr⟩ := hv HW.out; have B1 := Lib.hid hb1; have HR := Lib.hid hr; clear hb1 hr)
    clear hmk
    obtain ⟨s, hs⟩ : ∃ s, s = w1.heap.size := ⟨_, rfl⟩
    obtain ⟨w0, hw0⟩ : ∃ w0, w0 = w1.alloc (.cells (madeCells #[.int .i64 0] n) 3) := ⟨_, rfl⟩
    rw [← hw0, ← hs]
    have R0 := Lib.hid (show w0.rowIs s 3 n (fun y => .int .i64 (turnP n W 0 0 y)) from by
      have h := (World.rowIs_made w1 (.int .i64 0) n 3).congr (g := fun y => .int .i64 (turnP n W 0 0 y)) (fun y _ => by rw [turnP_zero])
      rw [← hs, ← hw0] at h
      exact h)
    have B0 := Lib.hid (show Below w1.heap.size w1 w0 from by rw [hw0]; exact below_alloc (Below.refl _ w1) _)
    have S1 := Lib.hid (show w1.heap.size = s from hs.symm)
    have hws : w.heap.size ≤ s := by have := B1.out.size; omega
    clear hs hw0
    go_loopw [7, 8, 21] (fun _ _ i wr => ∃ k : Nat, k ≤ n ∧ i = .int .i64 k ∧ wr.rowIs s 3 n (fun y => .int .i64 (turnP n W k 0 y)) ∧ Below w1.heap.size w1 wr) (fun _ _ i _ => n - (intOf i).toNat)
    case atStart => exact ⟨0, Nat.zero_le _, rfl, R0.out, B0.out⟩
    case round =>
      obtain ⟨i, hi, rfl, hrow, hB⟩ := hrel
      clear R0 B0
      by_cases hlt : i < n
      · have R1 := Lib.hid hrow
        have B2 := Lib.hid hB
        clear hrow hB
        go_wp2_with fail
        go_loopw [8, 26] (fun _ x wr => ∃ k : Nat, k ≤ n ∧ x = .int .i64 k ∧ wr.rowIs s 3 n (fun y => .int .i64 (turnP n W i k y)) ∧ Below w1.heap.size w1 wr) (fun _ x _ => n - (intOf x).toNat)
        case atStart => exact ⟨0, Nat.zero_le _, rfl, R1.out, B2.out⟩
        case round =>
          obtain ⟨k, hk, rfl, hrow, hB⟩ := hrel
          clear R1 B2
          by_cases hkl : k < n
          · have HC := Lib.hid (wants_any n n (some ⟨g, 0, none⟩) W i k _ HW.out (HR.out.below (Nat.le_refl _) hB) hlt (by omega))
            obtain ⟨z, hz, hz6, hz2, hor⟩ := turnP_or HW.out hlt hkl
            have hc0 := hrow.cell hkl
            have hf0 := hrow.frozen k
            rw [hz] at hc0
            have HZ := Lib.hid hz
            have HO := Lib.hid hor
            have R1 := Lib.hid hrow
            have B2 := Lib.hid hB
            have i1 : (0 : Int) ≤ (k : Int) := by omega
            have i2 : (k : Int) < (n : Int) := by omega
            clear hrow hB hz hor
            cases hb : WantsB W i k with
            | true =>
              have T2 := Lib.hid hb
              have hor2 := (HO.out.1 hb).2
              obtain ⟨z', hz'⟩ : ∃ z', z' = z ||| 2 ^ i := ⟨_, rfl⟩
              rw [← hz'] at hor2
              have HZ' := Lib.hid (show ((z' : Nat) : Int) = turnP n W i (k + 1) k by rw [hz']; exact (HO.out.1 hb).1)
              have e64 : min i 64 = i := by omega
              clear hb hz'
              go_wp2_with (go_at_call 47; refine HC.out.mono ?_; rintro e w' ⟨rfl, rfl⟩; rw [T2.out])
              go_still_tail 8, (by kernel_rfl)
              go_wp2_with fail
              go_roundw
              case rel =>
                refine ⟨k + 1, by omega, by go_num, ?_, (B2.out.setCell (p := ⟨s, k, none⟩) (by show w1.heap.size ≤ s; have := S1.out; omega) _).drew⟩
                have h := (R1.out.set k (.int .i64 (z' : Nat))).congr (g := fun y => .int .i64 (turnP n W i (k + 1) y)) (fun y _ => by
                  by_cases e : y = k
                  · rw [if_pos e, e, HZ'.out]
                  · rw [if_neg e, turnP_other e])
                exact h
              case measure => simp [intOf]; omega
            | false =>
              have T2 := Lib.hid hb
              have HE := Lib.hid (HO.out.2 hb)
              clear hb
              go_wp2_with (go_at_call 47; refine HC.out.mono ?_; rintro e w' ⟨rfl, rfl⟩; rw [T2.out])
              go_roundw
              case rel =>
                refine ⟨k + 1, by omega, by go_num, ?_, B2.out⟩
                exact R1.out.congr (g := fun y => .int .i64 (turnP n W i (k + 1) y)) (fun y _ => by
                  by_cases e : y = k
                  · rw [e, ← HE.out]
                  · rw [turnP_other e])
              case measure => simp [intOf]; omega
          · obtain rfl : k = n := by omega
            have R1 := Lib.hid hrow
            have B2 := Lib.hid hB
            clear hrow hB
            go_wp2_with fail
            go_roundw
            case rel => exact ⟨i + 1, by omega, by go_num, R1.out.congr (fun y hy => by rw [turnP_row hy]), B2.out⟩
            case measure => simp [intOf]; omega
      · obtain rfl : i = n := by omega
        have R1 := Lib.hid hrow
        have B2 := Lib.hid hB
        clear hrow hB
        go_wp2_with fail
        go_ret2
        have hl := R1.out.lt
        exact ⟨_, _, by rw [T1.out, TN.out]; rfl, by rw [TN.out]; exact .inr ⟨s, hws, hl, (OwnR.of_row R1.out).congr (fun y hy => turnP_all hy)⟩, B1.out.trans (B2.out.mono B1.out.size)⟩
  · have T1 := Lib.hid (tt_no h)
    have TN := Lib.hid (wantN_no h)
    clear h
    go_enter Try.func18, Try.ntmps18
    go_wp2_with (go_at_call 45; refine H.out.mono ?_; rintro e w1 ⟨v, rfl, hv, hb1⟩; rw [T1.out]; have B1 := Lib.hid hb1; clear hb1 hv)
    go_ret2
    exact ⟨none, 0, by rw [T1.out, TN.out]; rfl, .inl TN.out, B1.out⟩
theorem wantTurn_any (n c : Nat) (a : Option Addr) (W : Nat → Int) (w : World) (hm0 : n ≤ 1048576) (hmd0 : n ≤ c) (hb0 : Rd w a n W) :
    Calls Try.prog 18 #[.slice a n c] w (RetIB (tt (IsWants n W)) (wantN n W) (turnW n W) w) :=
  wantTurn_all n c a W w hm0 hb0
end Go.Proofs.Ytamglhpgdaoaoaa
