/- The walk of the law FnSpread: it answers true at every code that can be read. -/
import Derived.Test.YtbdbeeeffajbnaaDrawOne
import Derived.Test.YtbdbeeeffajbnaaSpecPriceSpread
import Derived.Test.YtbdbeeeffajbnaaPriceSpread
import Derived.Test.YtbdbeeeffajbnaaRateTurn
import Derived.Test.YtbdbeeeffajbnaaRateFair
namespace Go.Proofs.Ytbdbeeeffajbnaa
set_option linter.unusedVariables false
open Go.RowKit

theorem turn_rates {n : Nat} {L : Nat → Nat} {Z : Nat → Nat → Int} (h : IsRates n L Z) : IsRates n (fun _ => n) (turnX Z) :=
  ⟨h.1, fun i hi => ⟨rfl, fun k hk => ⟨((h.2 k hk).2 i hi).1, fun e => by subst e; exact ((h.2 i hi).2 i hi).2 rfl⟩⟩⟩
theorem lossI_turn (Z : Nat → Nat → Int) (i k : Nat) : lossI (turnX Z) i k = lossI Z i k := by
  induction k with
  | zero => rfl
  | succ k ih =>
    show lossI (turnX Z) i k + (decide (Z k i * Z i k < 144)).toNat = lossI Z i k + (decide (Z i k * Z k i < 144)).toNat
    rw [ih, Int.mul_comm]
theorem lossN_turn (Z : Nat → Nat → Int) (n : Nat) : lossN (turnX Z) n = lossN Z n := by
  induction n with
  | zero => rfl
  | succ n ih =>
    show lossN (turnX Z) n + lossI (turnX Z) n n = lossN Z n + lossI Z n n
    rw [ih, lossI_turn]
theorem lossN_pairs (Z : Nat → Nat → Int) (n : Nat) : 2 * (lossN Z n : Int) ≤ (n : Int) * ((n : Int) - 1) := by
  induction n with
  | zero => simp [lossN]
  | succ n ih =>
    have h1 := lossI_le Z n n
    have e : ((n + 1 : Nat) : Int) * (((n + 1 : Nat) : Int) - 1) = (n : Int) * ((n : Int) - 1) + 2 * (n : Int) := by
      have e1 : ((n + 1 : Nat) : Int) - 1 = (n : Int) := by omega
      rw [e1]
      have e2 : ((n + 1 : Nat) : Int) = (n : Int) + 1 := by omega
      rw [e2, Int.add_mul, Int.mul_sub]
      omega
    rw [e]
    have e3 : (lossN Z (n + 1) : Int) = (lossN Z n : Int) + (lossI Z n n : Int) := by
      show ((lossN Z n + lossI Z n n : Nat) : Int) = _
      omega
    rw [e3]
    omega
theorem lossI_none {Z : Nat → Nat → Int} {i k : Nat} (h : ∀ j, j < k → Z i j * Z j i = 144) : lossI Z i k = 0 := by
  induction k with
  | zero => rfl
  | succ k ih =>
    show lossI Z i k + (decide (Z i k * Z k i < 144)).toNat = 0
    rw [ih (fun j hj => h j (by omega)), h k (by omega)]
    rfl
theorem fair_none {n : Nat} {L : Nat → Nat} {Z : Nat → Nat → Int} (h : FairOk n L Z) : lossN Z n = 0 := by
  have hr := h.1
  have hp : ∀ i, i < n → ∀ k, k < n → Z i k * Z k i = 144 := by
    intro i hi k hk
    have h1 := h.2 i hi k hk
    have h2 := h.2 k hk i hi
    have h3 := mid_back hr h.2 hi
    have h4 := mid_back hr h.2 hk
    have h5 : (12 * 12) * (Z i k * Z k i) = 144 * 144 := by
      calc (12 * 12) * (Z i k * Z k i) = (12 * Z i k) * (12 * Z k i) := by ac_rfl
        _ = (Z i 0 * Z 0 k) * (Z k 0 * Z 0 i) := by rw [h1, h2]
        _ = (Z 0 i * Z i 0) * (Z 0 k * Z k 0) := by ac_rfl
        _ = 144 * 144 := by rw [h3, h4]
    omega
  have : ∀ m, m ≤ n → lossN Z m = 0 := by
    intro m
    induction m with
    | zero => intro _; rfl
    | succ m ih =>
      intro hm
      show lossN Z m + lossI Z m m = 0
      rw [ih (by omega), lossI_none (fun j hj => hp m (by omega) j (by omega))]
  exact this n (Nat.le_refl _)

set_option maxHeartbeats 3200000 in
theorem fnSpread_walk (n c : Nat) (a : Option Addr) (B : Nat → Nat) (w : World) (hc : n ≤ c) (hb : RdB w a n B) (hab : 0 < n → ∀ b o, a = some ⟨b, o, none⟩ → b < w.heap.size) :
    Calls Try.prog 10 #[.slice a n c] w fun e w' => e = .returned (.bool true) ∧ Below w.heap.size w w' := by
  by_cases hfit : n ≤ 1048576
  · have hd : ¬ (1048576 < n) := by omega
    have HD := Lib.hid (drawPriceSpread_any n c a B w hfit hc hb hab)
    clear hb hab
    go_enter Try.func10, Try.ntmps10
    go_wp2_with fail
    refine HD.out.mono ?_
    rintro e w1 ⟨ga, N, gc, A, L, C, Z, rfl, ⟨hN1, hN5⟩, hL, hT, hb1⟩
    have HT := Lib.hid hT
    have HL := Lib.hid (show ∀ r, r < N → L r ≤ 1048576 from fun r hr => by have := hL r hr; omega)
    have B1 := Lib.hid hb1
    clear hT hL hb1 HD
    go_wp2_with fail
    refine (priceSpread_any N gc ga A L C Z _ (by omega) HL.out HT.out).mono ?_
    rintro e w2 ⟨rfl, hb2⟩
    have B2 := Lib.hid hb2
    clear hb2
    by_cases hr : IsRates N L Z
    · have K1 := Lib.hid (tt_of hr)
      have K2 := Lib.hid (spreadAns_yes hr)
      have KT1 := Lib.hid (turnN_yes hr)
      have KR := Lib.hid (tt_of (turn_rates hr))
      have KS := Lib.hid (show spreadAns N (fun _ => N) (turnX Z) = (lossN Z N : Nat) by rw [spreadAns_yes (turn_rates hr), lossN_turn])
      have hpairs := lossN_pairs Z N
      have hSle := lossN_le Z N hN5
      have HF := Lib.hid (show lossN Z N ≠ 0 → tt (FairOk N L Z) = false from fun h0 => tt_no (fun h => h0 (fair_none h)))
      obtain ⟨S, hS⟩ : ∃ S, S = lossN Z N := ⟨_, rfl⟩
      rw [← hS] at KS hpairs hSle HF K2
      obtain ⟨T, hT'⟩ : ∃ T : Int, T = (N : Int) * ((N : Int) - 1) := ⟨_, rfl⟩
      rw [← hT'] at hpairs
      have hT1 : 0 ≤ T := by omega
      have hT2 : T ≤ 20 := by
        have : N = 1 ∨ N = 2 ∨ N = 3 ∨ N = 4 ∨ N = 5 := by omega
        rcases this with rfl | rfl | rfl | rfl | rfl <;> rw [hT'] <;> decide
      have hST : (S : Int) ≤ T / 2 := by omega
      have HST := Lib.hid (show decide ((S : Int) ≤ T / 2) = true by simpa using hST)
      have HTE := Lib.hid hT'.symm
      rw [K1.out, K2.out]
      clear hS hr hpairs hST hT'
      go_wp2_with fail
      refine (specPriceSpread_any N gc ga A L C Z _ (by omega) HL.out (HT.out.below (Nat.le_refl _) B2.out)).mono ?_
      rintro e w3 ⟨rfl, hb3⟩
      rw [K1.out, K2.out]
      have B3 := Lib.hid (below_chain B2.out hb3)
      clear hb3
      go_wp2_with fail
      refine (rateTurn_any N gc ga A L C Z _ (by omega) HL.out (HT.out.below (Nat.le_refl _) B3.out)).mono ?_
      rintro e w4 ⟨ta, tc, tA, tC, rfl, hO4, hb4⟩
      rw [KT1.out] at hO4 ⊢
      rw [K1.out]
      have T4 := Lib.hid hO4.tab
      have B4 := Lib.hid (below_chain B3.out hb4)
      clear hO4 hb4
      go_wp2_with fail
      refine (priceSpread_any N tc _ _ _ _ _ _ (by omega) (fun _ _ => by show N ≤ _; omega) T4.out).mono ?_
      rintro e w5 ⟨rfl, hb5⟩
      rw [KS.out, KR.out]
      have B5 := Lib.hid (below_chain B4.out hb5)
      clear hb5
      have hTE := HTE.out
      have hST := HST.out
      by_cases h0 : S = 0
      · subst h0
        go_wp2
        all_goals
          go_ret
          exact ⟨by first | (exfalso; omega) | rfl | simp, below_chain B1.out B5.out⟩
      · have hd0 : ((S : Int) == 0) = false := by simp; omega
        have KF := Lib.hid (HF.out h0)
        clear h0
        go_wp2_with (go_at_call 35; refine (rateFair_any N gc ga A L C Z _ (by omega) HL.out (HT.out.below (Nat.le_refl _) B5.out)).mono ?_; rintro e w6 ⟨rfl, hb6⟩; rw [KF.out]; have B6 := Lib.hid (below_chain B5.out hb6); clear hb6)
        go_ret
        exact ⟨rfl, below_chain B1.out B6.out⟩
    · have K1 := Lib.hid (tt_no hr)
      have K2 := Lib.hid (spreadAns_no hr)
      rw [K1.out, K2.out]
      clear hr
      go_wp2_with fail
      refine (specPriceSpread_any N gc ga A L C Z _ (by omega) HL.out (HT.out.below (Nat.le_refl _) B2.out)).mono ?_
      rintro e w3 ⟨rfl, hb3⟩
      rw [K1.out, K2.out]
      have B3 := Lib.hid (below_chain B2.out hb3)
      clear hb3
      go_wp2
      go_ret
      exact ⟨rfl, below_chain B1.out B3.out⟩
  · have hd : 1048576 < n := by omega
    clear hb hab
    go_enter Try.func10, Try.ntmps10
    go_wp2_with fail
    go_ret
    exact ⟨rfl, Below.refl _ _⟩
end Go.Proofs.Ytbdbeeeffajbnaa
