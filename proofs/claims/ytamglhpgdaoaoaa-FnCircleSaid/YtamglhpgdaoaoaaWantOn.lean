/- The program's WantOn. -/
import Derived.Test.YtamglhpgdaoaoaaWantCircs
namespace Go.Proofs.Ytamglhpgdaoaoaa
set_option linter.unusedVariables false
set_option linter.unusedSimpArgs false
open Go.RowKit

set_option maxRecDepth 100000 in
set_option maxHeartbeats 1600000 in
theorem wantOn_all (n c : Nat) (a : Option Addr) (W : Nat → Int) (w : World) (hm0 : n ≤ 1048576) (hb0 : Rd w a n W) :
    Calls Try.prog 22 #[.slice a n c] w fun e w' => e = .returned (.tuple #[.int .i64 (onAns n W : Nat), .bool (tt (IsWants n W))]) ∧ Below w.heap.size w w' := by
  have H := Lib.hid (readWants_any n c a W w hm0 hb0)
  clear hb0
  by_cases h : IsWants n W
  · have T1 := Lib.hid (tt_of h)
    have TA := Lib.hid (onAns_yes h)
    have HW := Lib.hid h
    have hn2 := h.1.1
    have hn6 := h.1.2
    clear h
    go_enter Try.func22, Try.ntmps22
    go_wp2_with (first
      | (go_at_call 45; refine H.out.mono ?_; rintro e w1 ⟨v, rfl, hv, hb1⟩; rw [T1.out]; obtain ⟨g, rfl, hg1, hg2, hr⟩ := hv HW.out; have B1 := Lib.hid hb1; have R1 := Lib.hid hr; clear hb1 hr)
      | (go_at_call 59; refine (circles_any n g n W w1 HW.out hn2 (Nat.le_refl _) R1.out).mono ?_; rintro e w2 ⟨a1, c1, A1, C1, rfl, hO, hb2⟩; have HM := Lib.hid hO.tab; have B2 := Lib.hid (B1.out.trans (hb2.mono B1.out.size)); clear hO hb2))
    obtain ⟨CC, hCC⟩ : ∃ CC, CC = circs n W n [] := ⟨_, rfl⟩
    have hlen : CC.length ≤ 1957 := by rw [hCC]; exact circs_small hn6 n
    have HAT := Lib.hid (show ∀ r, r < CC.length → IsCirc n W (CC.getD r []).length (nth (CC.getD r [])) ∧ (CC.getD r []).length ≤ n from fun r hr => by rw [hCC] at hr ⊢; exact circs_at hr)
    have HLT := Lib.hid (show ∀ i, onTo CC i < 2 ^ n from fun i => by rw [hCC]; exact onTo_lt)
    rw [← hCC] at HM TA ⊢
    have QC := Lib.hid hCC
    clear hCC
    have hp6 : 2 ^ n ≤ 2 ^ 6 := Nat.pow_le_pow_right (by omega) hn6
    go_loop [6, 8, 10, 23] (fun s _ _ i => ∃ k : Nat, k ≤ CC.length ∧ i = .int .i64 k ∧ s = .int .i64 (onTo CC k : Nat)) (fun _ _ _ i => CC.length - (intOf i).toNat)
    case atStart => exact ⟨0, Nat.zero_le _, rfl, rfl⟩
    case round =>
      obtain ⟨k, hk, rfl, rfl⟩ := hrel
      by_cases hlt : k < CC.length
      · obtain ⟨bt, ot, hbt, hct, hrt⟩ := HM.out k hlt
        subst hbt
        obtain ⟨hcirc, hl6⟩ := HAT.out k hlt
        have h1 := HLT.out k
        obtain ⟨m, hm⟩ : ∃ m, m = lenL CC k := ⟨_, rfl⟩
        obtain ⟨C, hC⟩ : ∃ C, C = nthL CC k := ⟨_, rfl⟩
        have hmm : m ≤ 6 := by rw [hm]; unfold lenL; omega
        have HN := Lib.hid (show onTo CC (k + 1) = onTo CC k ||| setN C m by rw [onTo_succ hlt, hm, hC]; rfl)
        have HCR := Lib.hid (show ∀ j, j < m → 0 ≤ C j ∧ C j < n by rw [hm, hC]; exact hcirc.1.1)
        rw [← hm] at hct hrt
        rw [← hC] at hrt
        obtain ⟨U, hU⟩ : ∃ U, U = onTo CC k := ⟨_, rfl⟩
        rw [← hU] at h1 HN ⊢
        have HRT := Lib.hid hrt
        have QU := Lib.hid hU
        have i1 : (k : Int) < (CC.length : Int) := by omega
        clear hcirc hrt hl6 hU hm hC
        go_wp2_with fail
        clear hct
        go_loop [6, 10, 29] (fun s _ i => ∃ j : Nat, j ≤ m ∧ i = .int .i64 j ∧ s = .int .i64 (U ||| setN C j : Nat)) (fun _ _ i => m - (intOf i).toNat)
        case atStart => exact ⟨0, Nat.zero_le _, rfl, by rw [show U ||| setN C 0 = U from Nat.or_zero U]⟩
        case round =>
          obtain ⟨j, hj, rfl, rfl⟩ := hrel
          have h3 := setN_part HCR.out h1 hj
          obtain ⟨S, hS⟩ : ∃ S, S = U ||| setN C j := ⟨_, rfl⟩
          rw [← hS] at h3 ⊢
          by_cases hjl : j < m
          · obtain ⟨br, orr, hbr, hcr⟩ := HRT.out j hjl
            rw [hbr]
            obtain ⟨x, hx⟩ := Int.eq_ofNat_of_zero_le (HCR.out j hjl).1
            have hxn : x < n := by have := (HCR.out j hjl).2; omega
            rw [hx] at hcr
            have hput := bit_put S x (by omega) (by omega)
            obtain ⟨S', hS'⟩ : ∃ S', S' = S ||| 2 ^ x := ⟨_, rfl⟩
            rw [← hS'] at hput
            have e64 : min x 64 = x := by omega
            have HS' := Lib.hid (show (U ||| setN C (j + 1)) = S' by
              rw [hS', hS]
              show U ||| (setN C j ||| 2 ^ (C j).toNat) = _
              rw [hx, Int.toNat_natCast, Nat.or_assoc])
            have i2 : (j : Int) < (m : Int) := by omega
            have i3 : (0 : Int) ≤ (x : Int) := by omega
            clear hx hS hS' hbr
            go_wp2_with fail
            go_round
            case rel => exact ⟨j + 1, by omega, by go_num, by rw [HS'.out]⟩
            case measure => simp [intOf]; omega
          · obtain rfl : j = m := by omega
            have HS := Lib.hid hS
            clear hS
            go_wp2_with fail
            go_round
            case rel => exact ⟨k + 1, by omega, by go_num, by rw [HN.out, ← HS.out]⟩
            case measure => simp [intOf]; omega
      · obtain rfl : k = CC.length := by omega
        go_wp2_with fail
        go_ret2
        exact ⟨by rw [T1.out, TA.out]; rfl, B2.out⟩
  · have T1 := Lib.hid (tt_no h)
    have TA := Lib.hid (onAns_no h)
    clear h
    go_enter Try.func22, Try.ntmps22
    go_wp2_with (go_at_call 45; refine H.out.mono ?_; rintro e w1 ⟨v, rfl, hv, hb1⟩; rw [T1.out]; have B1 := Lib.hid hb1; clear hb1 hv)
    go_ret2
    exact ⟨by rw [T1.out, TA.out]; rfl, B1.out⟩
theorem wantOn_any (n c : Nat) (a : Option Addr) (W : Nat → Int) (w : World) (hm0 : n ≤ 1048576) (hmd0 : n ≤ c) (hb0 : Rd w a n W) :
    Calls Try.prog 22 #[.slice a n c] w fun e w' => e = .returned (.tuple #[.int .i64 (onAns n W : Nat), .bool (tt (IsWants n W))]) ∧ Below w.heap.size w w' :=
  wantOn_all n c a W w hm0 hb0
end Go.Proofs.Ytamglhpgdaoaoaa
