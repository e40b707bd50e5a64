/- The model's l6wTry and WantTry. -/
import Derived.Test.YteigenmagifplaaTryModel
import Derived.Test.YteigenmagifplaaSpecWantIn
namespace Go.Proofs.Yteigenmagifplaa
set_option linter.unusedVariables false
set_option linter.unusedSimpArgs false
open Go.RowKit

theorem max_if (a b : Int) : max a b = if a < b then b else a := by split <;> omega
set_option maxRecDepth 100000 in
set_option maxHeartbeats 1600000 in
theorem l6wTry_any (n c : Nat) (a : Option Addr) (W : Nat → Int) (hW : IsWants n W) (f : Nat) : ∀ (i U : Nat) (w : World), i + f = n → U < 2 ^ n → Rd w a n W →
    Calls Try.prog 52 #[.slice a n c, .int .i64 (i : Nat), .int .i64 (U : Nat)] w fun e w' => e = .returned (.int .i64 (tryF n W f i U)) ∧ w = w' := by
  have hn2 := hW.1.1
  have hn6 := hW.1.2
  have HW := Lib.hid hW
  clear hW
  induction f with
  | zero =>
    intro i U w hin hU ha
    obtain rfl : i = n := by omega
    clear ha
    go_enter Try.func52, Try.ntmps52
    go_wp2_with fail
    go_ret
    exact ⟨rfl, rfl⟩
  | succ f ih =>
    intro i U w hin hU ha
    have hi : i < n := by omega
    have HA := Lib.hid ha
    have IH := Lib.hid (fun x (hx : x < n) => ih (i + 1) (U ||| 2 ^ x) w (by omega) (bit_put_lt hU hx) ha)
    have IR := Lib.hid (fun x => tryF_range (n := n) (W := W) f (i + 1) (U ||| 2 ^ x))
    have hp6 : 2 ^ n ≤ 2 ^ 6 := Nat.pow_le_pow_right (by omega) hn6
    have hU64 : U < 64 := by omega
    have hne : ((i : Int) == (n : Int)) = false := by simp; omega
    have hb := bit_hasnt U i (by omega)
    have e64 : min i 64 = i := by omega
    obtain ⟨Ui, hUi⟩ : ∃ Ui, Ui = U ||| 2 ^ i := ⟨_, rfl⟩
    have hput := bit_put U i (by omega) (by omega)
    rw [← hUi] at hput
    have HUi := Lib.hid hUi
    obtain ⟨ba, oa, hba, hca⟩ := ha i hi
    subst hba
    obtain ⟨y, hy⟩ := Int.eq_ofNat_of_zero_le (HW.out.lt hi).1
    have hy63 : y ≤ 63 := by have := (HW.out.lt hi).2; omega
    rw [hy] at hca
    have HY := Lib.hid (fun x => show WantsB W i x = y.testBit x by unfold WantsB; rw [hy, Int.toNat_natCast])
    have hi2 : (i : Int) < (n : Int) := by omega
    obtain ⟨b0, hb0⟩ : ∃ b0 : Int, b0 = if U.testBit i = true then -100 else tryF n W f (i + 1) (U ||| 2 ^ i) := ⟨_, rfl⟩
    have HF := Lib.hid (show tryF n W (f + 1) i U = tryK W i U b0 (fun k => tryF n W f (i + 1) (U ||| 2 ^ k)) n by rw [hb0]; rfl)
    have HK := Lib.hid (fun k => tryK_range (W := W) (i := i) (U := U) (b := b0) (g := fun k => tryF n W f (i + 1) (U ||| 2 ^ k)) (lo := -100) (hi := 7) (by
      rw [hb0]
      split
      · omega
      · have := tryF_range (n := n) (W := W) f (i + 1) (U ||| 2 ^ i); omega) (fun k => by have := tryF_range (n := n) (W := W) f (i + 1) (U ||| 2 ^ k); omega) k)
    have HB0 := Lib.hid hb0
    clear ha ih hU hp6 hUi hb0 hy
    by_cases hbit : U.testBit i = true
    · rw [hbit] at hb
      have EB := Lib.hid (show b0 = -100 by rw [HB0.out, if_pos hbit])
      clear hbit
      go_enter Try.func52, Try.ntmps52
      go_wp2_with fail
      go_loop [7, 8] (fun b x => ∃ k : Nat, k ≤ n ∧ x = .int .i64 k ∧ b = .int .i64 (tryK W i U b0 (fun k => tryF n W f (i + 1) (U ||| 2 ^ k)) k)) (fun _ x => n - (intOf x).toNat)
      case atStart => exact ⟨0, Nat.zero_le _, rfl, by rw [EB.out]; rfl⟩
      case round =>
        obtain ⟨k, hk, rfl, rfl⟩ := hrel
        obtain ⟨G, hG⟩ : ∃ G, G = tryK W i U b0 (fun k => tryF n W f (i + 1) (U ||| 2 ^ k)) k := ⟨_, rfl⟩
        have hGr := HK.out k
        rw [← hG] at hGr ⊢
        have HG := Lib.hid hG
        obtain ⟨hGr1, hGr2⟩ := hGr
        clear hG
        by_cases hlt : k < n
        · have hw := bit_has y k (by omega)
          have hu := bit_hasnt U k (by omega)
          have e64k : min k 64 = k := by omega
          have hKs := Lib.hid (show tryK W i U b0 (fun k => tryF n W f (i + 1) (U ||| 2 ^ k)) (k + 1) = if WantsB W i k = true ∧ U.testBit k = false then max G (1 + tryF n W f (i + 1) (U ||| 2 ^ k)) else G by rw [HG.out]; rfl)
          cases hyb : y.testBit k with
          | false =>
            rw [hyb] at hw
            have HN := Lib.hid (show ¬ (WantsB W i k = true ∧ U.testBit k = false) by rw [HY.out k, hyb]; simp)
            clear hyb
            go_wp2_with fail
            go_round
            case rel => exact ⟨k + 1, by omega, by go_num, by rw [hKs.out, if_neg HN.out]⟩
            case measure => simp [intOf]; omega
          | true =>
            rw [hyb] at hw
            cases hub : U.testBit k with
            | true =>
              rw [hub] at hu
              have HN := Lib.hid (show ¬ (WantsB W i k = true ∧ U.testBit k = false) by rw [hub]; simp)
              clear hyb hub
              go_wp2_with fail
              go_round
              case rel => exact ⟨k + 1, by omega, by go_num, by rw [hKs.out, if_neg HN.out]⟩
              case measure => simp [intOf]; omega
            | false =>
              rw [hub] at hu
              have HN := Lib.hid (show (WantsB W i k = true ∧ U.testBit k = false) by rw [HY.out k, hyb, hub]; simp)
              have hputk := bit_put U k (by omega) (by omega)
              obtain ⟨Uk, hUk⟩ : ∃ Uk, Uk = U ||| 2 ^ k := ⟨_, rfl⟩
              rw [← hUk] at hputk
              have HIk := Lib.hid (show Calls Try.prog 52 #[.slice (some ⟨ba, oa, none⟩) n c, .int .i64 ((i : Int) + 1), .int .i64 (Uk : Nat)] w fun e w' => e = .returned (.int .i64 (tryF n W f (i + 1) (U ||| 2 ^ k))) ∧ w = w' by rw [hUk]; exact IH.out k hlt)
              obtain ⟨v, hv⟩ : ∃ v, v = tryF n W f (i + 1) (U ||| 2 ^ k) := ⟨_, rfl⟩
              obtain ⟨hv1, hv2⟩ := IR.out k
              rw [← hv] at HIk hKs hv1 hv2
              clear hyb hub hUk hv
              go_wp2_with (go_at_call 52; refine HIk.out.mono ?_; rintro e w' ⟨rfl, rfl⟩)
              go_round
              case rel => exact ⟨k + 1, by omega, by go_num, by rw [hKs.out, if_pos HN.out, max_if]⟩
              case measure => simp [intOf]; omega
        · obtain rfl : k = n := by omega
          go_wp2_with fail
          go_ret
          exact ⟨by rw [HF.out, ← HG.out]; rfl, rfl⟩
    · rw [show U.testBit i = false by simpa using hbit] at hb
      have EB := Lib.hid (show b0 = tryF n W f (i + 1) (U ||| 2 ^ i) by rw [HB0.out, if_neg hbit])
      have HI0 := Lib.hid (show Calls Try.prog 52 #[.slice (some ⟨ba, oa, none⟩) n c, .int .i64 ((i : Int) + 1), .int .i64 (Ui : Nat)] w fun e w' => e = .returned (.int .i64 (tryF n W f (i + 1) (U ||| 2 ^ i))) ∧ w = w' by rw [HUi.out]; exact IH.out i hi)
      clear hbit
      go_enter Try.func52, Try.ntmps52
      go_wp2_with (go_at_call 52; refine HI0.out.mono ?_; rintro e w' ⟨rfl, rfl⟩; rw [← EB.out])
      go_loop [7, 8] (fun b x => ∃ k : Nat, k ≤ n ∧ x = .int .i64 k ∧ b = .int .i64 (tryK W i U b0 (fun k => tryF n W f (i + 1) (U ||| 2 ^ k)) k)) (fun _ x => n - (intOf x).toNat)
      case atStart => exact ⟨0, Nat.zero_le _, rfl, rfl⟩
      case round =>
        obtain ⟨k, hk, rfl, rfl⟩ := hrel
        obtain ⟨G, hG⟩ : ∃ G, G = tryK W i U b0 (fun k => tryF n W f (i + 1) (U ||| 2 ^ k)) k := ⟨_, rfl⟩
        have hGr := HK.out k
        rw [← hG] at hGr ⊢
        have HG := Lib.hid hG
        obtain ⟨hGr1, hGr2⟩ := hGr
        clear hG
        by_cases hlt : k < n
        · have hw := bit_has y k (by omega)
          have hu := bit_hasnt U k (by omega)
          have e64k : min k 64 = k := by omega
          have hKs := Lib.hid (show tryK W i U b0 (fun k => tryF n W f (i + 1) (U ||| 2 ^ k)) (k + 1) = if WantsB W i k = true ∧ U.testBit k = false then max G (1 + tryF n W f (i + 1) (U ||| 2 ^ k)) else G by rw [HG.out]; rfl)
          cases hyb : y.testBit k with
          | false =>
            rw [hyb] at hw
            have HN := Lib.hid (show ¬ (WantsB W i k = true ∧ U.testBit k = false) by rw [HY.out k, hyb]; simp)
            clear hyb
            go_wp2_with fail
            go_round
            case rel => exact ⟨k + 1, by omega, by go_num, by rw [hKs.out, if_neg HN.out]⟩
            case measure => simp [intOf]; omega
          | true =>
            rw [hyb] at hw
            cases hub : U.testBit k with
            | true =>
              rw [hub] at hu
              have HN := Lib.hid (show ¬ (WantsB W i k = true ∧ U.testBit k = false) by rw [hub]; simp)
              clear hyb hub
              go_wp2_with fail
              go_round
              case rel => exact ⟨k + 1, by omega, by go_num, by rw [hKs.out, if_neg HN.out]⟩
              case measure => simp [intOf]; omega
            | false =>
              rw [hub] at hu
              have HN := Lib.hid (show (WantsB W i k = true ∧ U.testBit k = false) by rw [HY.out k, hyb, hub]; simp)
              have hputk := bit_put U k (by omega) (by omega)
              obtain ⟨Uk, hUk⟩ : ∃ Uk, Uk = U ||| 2 ^ k := ⟨_, rfl⟩
              rw [← hUk] at hputk
              have HIk := Lib.hid (show Calls Try.prog 52 #[.slice (some ⟨ba, oa, none⟩) n c, .int .i64 ((i : Int) + 1), .int .i64 (Uk : Nat)] w fun e w' => e = .returned (.int .i64 (tryF n W f (i + 1) (U ||| 2 ^ k))) ∧ w = w' by rw [hUk]; exact IH.out k hlt)
              obtain ⟨v, hv⟩ : ∃ v, v = tryF n W f (i + 1) (U ||| 2 ^ k) := ⟨_, rfl⟩
              obtain ⟨hv1, hv2⟩ := IR.out k
              rw [← hv] at HIk hKs hv1 hv2
              clear hyb hub hUk hv
              go_wp2_with (go_at_call 52; refine HIk.out.mono ?_; rintro e w' ⟨rfl, rfl⟩)
              go_round
              case rel => exact ⟨k + 1, by omega, by go_num, by rw [hKs.out, if_pos HN.out, max_if]⟩
              case measure => simp [intOf]; omega
        · obtain rfl : k = n := by omega
          go_wp2_with fail
          go_ret
          exact ⟨by rw [HF.out, ← HG.out]; rfl, rfl⟩

theorem specWantTry_any (n c : Nat) (a : Option Addr) (W : Nat → Int) (w : World) (hm0 : n ≤ 1048576) (hb0 : Rd w a n W) :
    Calls Try.prog 25 #[.slice a n c] w fun e w' => e = .returned (.tuple #[.int .i64 (tryAns n W), .bool (tt (IsWants n W))]) ∧ Below w.heap.size w w' := by
  have H := Lib.hid (specWantIn_any n c a W w hm0 hb0)
  by_cases h : IsWants n W
  · have T1 := Lib.hid (tt_of h)
    have TA := Lib.hid (show tryF n W n 0 0 = tryAns n W by rw [tryAns_yes h, try_most h])
    have HT := Lib.hid (fun w' (hb : Below w.heap.size w w') => l6wTry_any n c a W h n 0 0 w' (by omega) (Nat.two_pow_pos n) (hb0.below (Nat.le_refl _) hb))
    clear hb0 h
    go_enter Try.func25, Try.ntmps25
    go_wp2_with (first
      | (go_at_call 45; refine H.out.mono ?_; rintro e w1 ⟨rfl, hb1⟩; rw [T1.out]; have B1 := Lib.hid hb1; clear hb1)
      | (go_at_call 52; refine (HT.out _ B1.out).mono ?_; rintro e w' ⟨rfl, rfl⟩; rw [TA.out]))
    go_ret2
    exact ⟨by rw [T1.out]; rfl, B1.out⟩
  · have T1 := Lib.hid (tt_no h)
    have TA := Lib.hid (tryAns_no h)
    clear hb0 h
    go_enter Try.func25, Try.ntmps25
    go_wp2_with (go_at_call 45; refine H.out.mono ?_; rintro e w1 ⟨rfl, hb1⟩; rw [T1.out]; have B1 := Lib.hid hb1; clear hb1)
    go_ret2
    exact ⟨by rw [T1.out, TA.out]; rfl, B1.out⟩
end Go.Proofs.Yteigenmagifplaa
