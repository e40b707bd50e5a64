/- The walk of the law FnBidSum: it answers true at every code that can be read. -/
import Derived.Test.YtopoeeahociohaaDrawBidBest
import Derived.Test.YtopoeeahociohaaBidBestF
import Derived.Test.YtopoeeahociohaaSpecBidBest
import Derived.Test.YtopoeeahociohaaFnBidModel
namespace Go.Proofs.Ytopoeeahociohaa
set_option linter.unusedVariables false
open Go.RowKit

set_option maxHeartbeats 3200000 in
theorem fnBidSum_walk (n c : Nat) (a : Option Addr) (B : Nat → Nat) (w : World) (hc : n ≤ c) (hb : RdB w a n B) (hab : 0 < n → ∀ b o, a = some ⟨b, o, none⟩ → b < w.heap.size) :
    Calls Try.prog 13 #[.slice a n c] w fun e w' => e = .returned (.bool true) ∧ Below w.heap.size w w' := by
  by_cases hfit : n ≤ 1048576
  · have hd : ¬ (1048576 < n) := by omega
    have HD := Lib.hid (drawBidBest_any n c a B w hfit hc hb hab)
    clear hb hab
    go_enter Try.func13, Try.ntmps13
    go_wp2_with fail
    refine HD.out.mono ?_
    rintro e w1 ⟨ga, N, gc, A, L, C, Z, rfl, ⟨hN1, hN4, hgc⟩, hL, hT, hb1⟩
    have V1 := Lib.hid hT
    have B1 := Lib.hid hb1
    have hn0 : N ≤ 1048576 := by omega
    have HL := Lib.hid (show ∀ r, r < N → L r ≤ 1048576 from fun r hr => by have := hL r hr; omega)
    clear hL hT hb1 HD
    go_wp2_with fail
    refine (bidBest_any N gc ga A L C Z _ hn0 HL.out V1.out).mono ?_
    rintro e w2 ⟨rfl, hb2⟩
    have V2 := Lib.hid (V1.out.below (Nat.le_refl _) hb2)
    have B2 := Lib.hid (below_chain B1.out hb2)
    clear hb2 B1 V1
    go_wp2_with fail
    refine (specBidBest_any N gc ga A L C Z _ hn0 HL.out V2.out).mono ?_
    rintro e w3 ⟨rfl, hb3⟩
    have V3 := Lib.hid (V2.out.below (Nat.le_refl _) hb3)
    have B3 := Lib.hid (below_chain B2.out hb3)
    clear hb3 B2 V2
    by_cases h : IsBids N L Z
    · have K1 := Lib.hid (tt_of h)
      obtain ⟨l, hl⟩ : ∃ l, l = L 0 := ⟨_, rfl⟩
      have hm1 : 1 ≤ l := by rw [hl]; exact h.1.2.1
      have hm4 : l ≤ 4 := by rw [hl]; exact h.1.2.2
      obtain ⟨x, hx⟩ : ∃ x, x = bestV N (L 0) Z := ⟨_, rfl⟩
      have K2 := Lib.hid (show ifT (IsBids N L Z) (bestV N (L 0) Z) = x by rw [hx]; exact ifT_yes h)
      have HC := Lib.hid (show ∀ r, r < N → ∀ k, k < l → 0 ≤ Z r k ∧ Z r k ≤ 20 from by rw [hl]; exact h.cells)
      have h1 : x ≤ sumZ (fun i => rmax (Z i) l) N := by rw [hx, ← hl]; exact best_sum (fun i hi => rmax_nonneg _ _) fun i k hi hk => rmax_ge (f := Z i) hk
      have h2 : x ≤ sumZ (fun x => rmax (fun r => Z r x) N) l := by rw [hx, ← hl, ← best_swap]; exact best_sum (fun i hi => rmax_nonneg _ _) fun i k hi hk => rmax_ge (f := fun r => Z r i) hk
      obtain ⟨b0, o0, rfl, hc0, _⟩ := V3.out 0 hN1
      rw [Nat.add_zero, ← hl] at hc0
      have HV := Lib.hid (fun r (hr : r < N) => show ∃ br or' cr, w3.cell? ⟨b0, o0 + r, none⟩ = some (.slice (some ⟨br, or', none⟩) l cr) ∧ ∀ k, k < l → w3.cell? ⟨br, or' + k, none⟩ = some (.int .i64 (Z r k)) from by
        obtain ⟨b1, o1, e1, hca, hra⟩ := V3.out r hr
        cases e1
        rw [show L r = l from by rw [hl]; exact h.rows r hr] at hca hra
        obtain ⟨br, or', e2, _⟩ := hra 0 (by omega)
        rw [e2] at hca hra
        refine ⟨br, or', _, hca, fun k hk => ?_⟩
        obtain ⟨b2, o2, e3, hcx⟩ := hra k hk
        cases e3
        exact hcx)
      have HRR := Lib.hid (fun i (hi : i ≤ N) => sum_range (f := fun i => rmax (Z i) l) i fun r hr => ⟨rmax_nonneg _ _, rmax_le _ (by omega) fun x hx => (HC.out r (by omega) x hx).2⟩)
      have HRC := Lib.hid (fun i (hi : i ≤ l) => sum_range (f := fun x => rmax (fun r => Z r x) N) i fun r hr => ⟨rmax_nonneg _ _, rmax_le _ (by omega) fun x hx => (HC.out x hx r (by omega)).2⟩)
      have H1 := Lib.hid h1
      have H2 := Lib.hid h2
      rw [K1.out, K2.out]
      clear h hl hx h1 h2
      have hN0 : (0 : Int) < (N : Int) := by omega
      go_wp2
      go_loop [8, 9] (fun s x => ∃ i : Nat, i ≤ N ∧ x = .int .i64 i ∧ s = .int .i64 (sumZ (fun i => rmax (Z i) l) i)) (fun _ x => N - (intOf x).toNat)
      case atStart => exact ⟨0, Nat.zero_le _, rfl, rfl⟩
      case round =>
        obtain ⟨i, hi, rfl, rfl⟩ := hrel
        obtain ⟨S, hS⟩ : ∃ S, S = sumZ (fun i => rmax (Z i) l) i := ⟨_, rfl⟩
        have hSr : 0 ≤ S ∧ S ≤ 20 * (i : Int) := by rw [hS]; exact HRR.out i hi
        rw [← hS]
        by_cases hil : i < N
        · have hn := Lib.hid (show sumZ (fun i => rmax (Z i) l) (i + 1) = S + rmax (Z i) l by rw [hS]; rfl)
          have hMr : 0 ≤ rmax (Z i) l ∧ rmax (Z i) l ≤ 20 := ⟨rmax_nonneg _ _, rmax_le _ (by omega) fun x hx => (HC.out i hil x hx).2⟩
          obtain ⟨T, hT⟩ : ∃ T, T = rmax (Z i) l := ⟨_, rfl⟩
          rw [← hT] at hn hMr
          have HT := Lib.hid hT
          have hiO : (i : Int) < (N : Int) := by omega
          clear hS hT
          obtain ⟨br, or', cr, hcr, hrow⟩ := HV.out i hil
          have HRW := Lib.hid hrow
          clear hrow
          go_wp2
          go_loop [10, 11] (fun s x => ∃ j : Nat, j ≤ l ∧ x = .int .i64 j ∧ s = .int .i64 (rmax (Z i) j)) (fun _ x => l - (intOf x).toNat)
          case atStart => exact ⟨0, Nat.zero_le _, rfl, rfl⟩
          case round =>
            obtain ⟨j, hj, rfl, rfl⟩ := hrel
            by_cases hjl : j < l
            · have hcx := HRW.out j hjl
              obtain ⟨G, hG⟩ : ∃ G, G = rmax (Z i) j := ⟨_, rfl⟩
              obtain ⟨u, hu⟩ : ∃ u, u = Z i j := ⟨_, rfl⟩
              have hn2 := Lib.hid (show rmax (Z i) (j + 1) = max G u by rw [hG, hu]; rfl)
              have hjI : (j : Int) < (l : Int) := by omega
              rw [← hG]
              rw [← hu] at hcx
              clear hG hu
              go_wp2
              go_round
              case rel => exact ⟨j + 1, by omega, by go_num, by rw [hn2.out]⟩
              case measure => simp [intOf]; omega
            · obtain rfl : l = j := by omega
              rw [← HT.out]
              have hwS : IntKind.i64.wrap (S + T) = S + T := by rw [IntKind.wrap_i64]; omega
              go_wp2
              go_round
              case rel => exact ⟨i + 1, by omega, by go_num, by rw [hn.out]⟩
              case measure => simp [intOf]; omega
        · obtain rfl : N = i := by omega
          have d1 : decide (x ≤ S) = true := by have := H1.out; rw [← hS] at this; simpa using this
          obtain ⟨Q, hQ⟩ : ∃ Q, Q = S := ⟨_, rfl⟩
          rw [← hQ] at d1 ⊢
          clear hS hSr hQ
          go_wp2
          go_loop [12, 13] (fun s x => ∃ i : Nat, i ≤ l ∧ x = .int .i64 i ∧ s = .int .i64 (sumZ (fun x => rmax (fun r => Z r x) N) i)) (fun _ x => l - (intOf x).toNat)
          case atStart => exact ⟨0, Nat.zero_le _, rfl, rfl⟩
          case round =>
            obtain ⟨i, hi, rfl, rfl⟩ := hrel
            obtain ⟨S, hS⟩ : ∃ S, S = sumZ (fun x => rmax (fun r => Z r x) N) i := ⟨_, rfl⟩
            have hSr : 0 ≤ S ∧ S ≤ 20 * (i : Int) := by rw [hS]; exact HRC.out i hi
            rw [← hS]
            by_cases hil : i < l
            · have hn := Lib.hid (show sumZ (fun x => rmax (fun r => Z r x) N) (i + 1) = S + rmax (fun r => Z r i) N by rw [hS]; rfl)
              have hMr : 0 ≤ rmax (fun r => Z r i) N ∧ rmax (fun r => Z r i) N ≤ 20 := ⟨rmax_nonneg _ _, rmax_le _ (by omega) fun x hx => (HC.out x hx i hil).2⟩
              obtain ⟨T, hT⟩ : ∃ T, T = rmax (fun r => Z r i) N := ⟨_, rfl⟩
              rw [← hT] at hn hMr
              have HT := Lib.hid hT
              have hiO : (i : Int) < (l : Int) := by omega
              clear hS hT
              go_wp2
              go_loop [14, 15] (fun s x => ∃ j : Nat, j ≤ N ∧ x = .int .i64 j ∧ s = .int .i64 (rmax (fun r => Z r i) j)) (fun _ x => N - (intOf x).toNat)
              case atStart => exact ⟨0, Nat.zero_le _, rfl, rfl⟩
              case round =>
                obtain ⟨j, hj, rfl, rfl⟩ := hrel
                by_cases hjl : j < N
                · obtain ⟨br, or', cr, hcr, hrow⟩ := HV.out j hjl
                  have hcx := hrow i hil
                  clear hrow
                  obtain ⟨G, hG⟩ : ∃ G, G = rmax (fun r => Z r i) j := ⟨_, rfl⟩
                  obtain ⟨u, hu⟩ : ∃ u, u = Z j i := ⟨_, rfl⟩
                  have hn2 := Lib.hid (show rmax (fun r => Z r i) (j + 1) = max G u by rw [hG, hu]; rfl)
                  have hjI : (j : Int) < (N : Int) := by omega
                  rw [← hG]
                  rw [← hu] at hcx
                  clear hG hu
                  go_wp2
                  go_round
                  case rel => exact ⟨j + 1, by omega, by go_num, by rw [hn2.out]⟩
                  case measure => simp [intOf]; omega
                · obtain rfl : N = j := by omega
                  rw [← HT.out]
                  have hwS : IntKind.i64.wrap (S + T) = S + T := by rw [IntKind.wrap_i64]; omega
                  go_wp2
                  go_round
                  case rel => exact ⟨i + 1, by omega, by go_num, by rw [hn.out]⟩
                  case measure => simp [intOf]; omega
            · obtain rfl : l = i := by omega
              have d2 : decide (x ≤ S) = true := by have := H2.out; rw [← hS] at this; simpa using this
              clear hS hSr
              go_wp2
              go_ret
              exact ⟨rfl, B3.out⟩
    · have K1 := Lib.hid (tt_no h)
      rw [K1.out, ifT_no h]
      clear h
      go_wp2_with fail
      go_ret
      exact ⟨rfl, B3.out⟩
  · have hd : 1048576 < n := by omega
    clear hb hab
    go_enter Try.func13, Try.ntmps13
    go_wp2
    go_ret
    exact ⟨rfl, Below.refl _ _⟩
end Go.Proofs.Ytopoeeahociohaa
