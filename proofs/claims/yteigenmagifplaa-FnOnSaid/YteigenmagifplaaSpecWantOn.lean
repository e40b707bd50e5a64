/- The model's WantOn. -/
import Derived.Test.YteigenmagifplaaSpecWantCircs
import Derived.Test.YteigenmagifplaaL6wSet
namespace Go.Proofs.Yteigenmagifplaa
set_option linter.unusedVariables false
set_option linter.unusedSimpArgs false
open Go.RowKit

set_option maxHeartbeats 1600000 in
theorem specWantOn_any (n c : Nat) (a : Option Addr) (W : Nat → Int) (w : World) (hm0 : n ≤ 1048576) (hb0 : Rd w a n W) :
    Calls Try.prog 19 #[.slice a n c] w fun e w' => e = .returned (.tuple #[.int .i64 (onAns n W : Nat), .bool (tt (IsWants n W))]) ∧ Below w.heap.size w w' := by
  have H := Lib.hid (specWantIn_any n c a W w hm0 hb0)
  by_cases h : IsWants n W
  · have T1 := Lib.hid (tt_of h)
    have TA := Lib.hid (onAns_yes h)
    have HW := Lib.hid h
    have hn6 := h.1.2
    have HC := Lib.hid (fun w' (hb : Below w.heap.size w w') ba cb (hba : ba < w'.heap.size) => l6wAll_any n c n a W w' h (Nat.le_refl _) (hb0.below (Nat.le_refl _) hb) ba cb hba)
    clear hb0 h
    go_enter Try.func19, Try.ntmps19
    go_wp2_with (first
      | (go_at_call 45; refine H.out.mono ?_; rintro e w1 ⟨rfl, hb1⟩; rw [T1.out]; have B1 := Lib.hid hb1; clear hb1)
      | (go_at_call 36; refine (HC.out _ (below_alloc B1.out _) _ _ (by simp)).mono ?_; rintro e w2 ⟨g, cap, G, Cp, rfl, hM, hb2⟩; have HM := Lib.hid hM.ownT.tab; have B2 := Lib.hid ((below_alloc B1.out (.cells #[] 3)).trans (hb2.mono (Nat.le_trans B1.out.size (by simp)))); clear hM hb2))
    obtain ⟨CC, hCC⟩ : ∃ CC, CC = circs n W n [] := ⟨_, rfl⟩
    have hlen : CC.length ≤ 1957 := by rw [hCC]; exact circs_small hn6 n
    have HAT := Lib.hid (show ∀ r, r < CC.length → IsCirc n W (CC.getD r []).length (nth (CC.getD r [])) ∧ (CC.getD r []).length ≤ n from fun r hr => by rw [hCC] at hr ⊢; exact circs_at hr)
    have HLT := Lib.hid (show ∀ i, onTo CC i < 2 ^ n from fun i => by rw [hCC]; exact onTo_lt)
    rw [← hCC] at HM TA ⊢
    have QC := Lib.hid hCC
    clear hCC
    go_loop [4, 6] (fun s i => ∃ k : Nat, k ≤ CC.length ∧ i = .int .i64 k ∧ s = .int .i64 (onTo CC k : Nat)) (fun _ i => CC.length - (intOf i).toNat)
    case atStart => exact ⟨0, Nat.zero_le _, rfl, rfl⟩
    case round =>
      obtain ⟨k, hk, rfl, rfl⟩ := hrel
      by_cases hlt : k < CC.length
      · obtain ⟨bt, ot, hbt, hct, hrt⟩ := HM.out k hlt
        cases hbt
        obtain ⟨hcirc, hl6⟩ := HAT.out k hlt
        have HS := Lib.hid (l6wSet_any n (lenL CC k) (Cp k) (some ⟨G k, 0, none⟩) (nthL CC k) w2 hn6 (by unfold lenL; omega) hrt (fun j hj => hcirc.1.1 j hj))
        have h1 := HLT.out k
        have h2 : setN (nthL CC k) (lenL CC k) < 2 ^ n := setN_lt fun j hj => hcirc.1.1 j hj
        have hp6 : 2 ^ n ≤ 2 ^ 6 := Nat.pow_le_pow_right (by omega) hn6
        obtain ⟨U, hU⟩ : ∃ U, U = onTo CC k := ⟨_, rfl⟩
        obtain ⟨S, hS⟩ : ∃ S, S = setN (nthL CC k) (lenL CC k) := ⟨_, rfl⟩
        have hor := bits_or_i64 U S (by omega) (by omega)
        obtain ⟨V, hV⟩ : ∃ V, V = U ||| S := ⟨_, rfl⟩
        rw [← hV] at hor
        have HN := Lib.hid (show onTo CC (k + 1) = V by rw [onTo_succ hlt, hV, hU, hS]; rfl)
        rw [← hS] at HS
        rw [← hU]
        have i1 : (k : Int) < (CC.length : Int) := by omega
        clear hcirc hrt hl6 h1 h2 hp6 hU hS hV
        rw [Nat.zero_add] at hct
        go_wp2_with (go_at_call 46; refine HS.out.mono ?_; rintro e w' ⟨rfl, rfl⟩)
        go_round
        case rel => exact ⟨k + 1, by omega, by go_num, by rw [HN.out]⟩
        case measure => simp [intOf]; omega
      · obtain rfl : k = CC.length := by omega
        go_wp2_with fail
        go_ret2
        exact ⟨by rw [T1.out, TA.out]; rfl, B2.out⟩
  · have T1 := Lib.hid (tt_no h)
    have TA := Lib.hid (onAns_no h)
    clear hb0 h
    go_enter Try.func19, Try.ntmps19
    go_wp2_with (go_at_call 45; refine H.out.mono ?_; rintro e w1 ⟨rfl, hb1⟩; rw [T1.out]; have B1 := Lib.hid hb1; clear hb1)
    go_ret2
    exact ⟨by rw [T1.out, TA.out]; rfl, B1.out⟩
end Go.Proofs.Yteigenmagifplaa
