/- The model's RateFirst. -/
import Derived.Test.YtakipaehoeapcaaSpecRateGains
namespace Go.Proofs.Ytakipaehoeapcaa
set_option linter.unusedVariables false
open Go.RowKit

/-- The first round that gains; the empty list if there is none. -/
noncomputable def firstL (n : Nat) (L : Nat → Nat) (Z : Nat → Nat → Int) : List Int := if tt (IsRates n L Z) = true then (gaining n Z).getD 0 [] else []
theorem firstL_yes {n : Nat} {L : Nat → Nat} {Z : Nat → Nat → Int} (h : IsRates n L Z) : firstL n L Z = (gaining n Z).getD 0 [] := by unfold firstL; rw [tt_of h]; rfl
theorem firstL_no {n : Nat} {L : Nat → Nat} {Z : Nat → Nat → Int} (h : ¬ IsRates n L Z) : firstL n L Z = [] := by unfold firstL; rw [tt_no h]; rfl
theorem firstL_none {n : Nat} {L : Nat → Nat} {Z : Nat → Nat → Int} (h : IsRates n L Z) (h0 : (gaining n Z).length = 0) : firstL n L Z = [] := by
  rw [firstL_yes h, List.eq_nil_of_length_eq_zero h0]; rfl
theorem gaining_ring {n : Nat} {Z : Nat → Nat → Int} {D : List Int} (h : D ∈ gaining n Z) : Gains n Z D := by
  unfold gaining at h
  rw [List.mem_filter] at h
  exact tt_iff.1 h.2
theorem firstL_ring {n : Nat} {L : Nat → Nat} {Z : Nat → Nat → Int} (h : IsRates n L Z) (h0 : 0 < (gaining n Z).length) : Gains n Z (firstL n L Z) := by
  rw [firstL_yes h]
  refine gaining_ring ?_
  rw [List.getD_eq_getElem?_getD, List.getElem?_eq_getElem h0]
  exact List.getElem_mem h0
theorem firstL_le {n : Nat} {L : Nat → Nat} {Z : Nat → Nat → Int} : (firstL n L Z).length ≤ 1048576 := by
  by_cases h : IsRates n L Z
  · by_cases h0 : 0 < (gaining n Z).length
    · have h1 := (firstL_ring h h0).1.1.2.2
      have := h.1.2
      omega
    · rw [firstL_none h (by omega)]; simp
  · rw [firstL_no h]; simp

set_option maxHeartbeats 1600000 in
theorem specRateFirst_any (n c : Nat) (a : Option Addr) (A : Nat → Option Addr) (L C : Nat → Nat) (Z : Nat → Nat → Int) (w : World) (hn0 : n ≤ 1048576) (hL0 : ∀ r, r < n → L r ≤ 1048576) (ha0 : Tab w a n A L C Z) :
    Calls Try.prog 22 #[.slice a n c] w (RetIB (tt (0 < gainN n L Z)) (firstL n L Z).length (nth (firstL n L Z)) w) := by
  have H1 := Lib.hid (specRateIn_any n c a A L C Z w hn0 hL0 ha0)
  by_cases hr : IsRates n L Z
  · have H2 := Lib.hid (fun w' (hb : Below w.heap.size w w') => l1Rounds_any n c a A L C Z w' hr (ha0.below (Nat.le_refl _) hb))
    have T1 := Lib.hid (tt_of hr)
    have T2 := Lib.hid (gainN_yes hr)
    have HR := Lib.hid hr
    obtain ⟨N, hN⟩ : ∃ N, N = (gaining n Z).length := ⟨_, rfl⟩
    have QN := Lib.hid hN
    clear hL0 ha0 hr hN
    by_cases h0 : 0 < N
    · have hz : ((N : Int) == 0) = false := by simp only [beq_eq_false_iff_ne]; omega
      have T3 := Lib.hid (tt_of h0)
      go_enter Try.func22, Try.ntmps22
      have t1 := Lib.hid True.intro
      go_wp2_with (first
        | (go_at_call 48; refine H1.out.mono ?_; rintro e w' ⟨rfl, rfl⟩; rw [T1.out])
        | (have _t := t1; go_at_call 49; refine (H2.out _ (Below.refl _ _)).mono ?_; rintro e w1 ⟨v, G, Cp, rfl, hM, hb⟩; rw [← QN.out] at hM; obtain ⟨ga, gc, rfl⟩ := making_len hM; have B1 := Lib.hid hb; clear hM hb t1)
        | (go_at_call 49; refine (H2.out _ B1.out).mono ?_; rintro e w2 ⟨v, G, Cp, rfl, hM, hb⟩; rw [← QN.out] at hM; obtain ⟨g, gc, rfl⟩ := owns_form hM.1 h0; have hc := hM.1.cells (g := g) rfl 0 (.slice (some ⟨G 0, 0, none⟩) (lenL (gaining n Z) 0) (Cp 0)) (by simp [h0]); rw [Go.WideShapes.add_plain, Nat.add_zero] at hc; have HM := Lib.hid (hM.2.1 0 h0); have B2 := Lib.hid (below_chain B1.out hb); have S1 := Lib.hid B1.out.size; clear hM hb))
      go_ret2
      refine ⟨_, _, by rw [T2.out, ← QN.out, T3.out, firstL_yes HR.out]; rfl, ?_, B2.out⟩
      rw [firstL_yes HR.out]
      exact .inr ⟨G 0, Nat.le_trans S1.out HM.out.1, HM.out.2.1, HM.out.2.2.2⟩
    · have hz : ((N : Int) == 0) = true := by simp only [beq_iff_eq]; omega
      have T3 := Lib.hid (tt_no h0)
      have F0 := Lib.hid (firstL_none HR.out (by rw [← QN.out]; omega))
      go_enter Try.func22, Try.ntmps22
      go_wp2_with (first
        | (go_at_call 48; refine H1.out.mono ?_; rintro e w' ⟨rfl, rfl⟩; rw [T1.out])
        | (go_at_call 49; refine (H2.out _ (Below.refl _ _)).mono ?_; rintro e w1 ⟨v, G, Cp, rfl, hM, hb⟩; rw [← QN.out] at hM; obtain ⟨ga, gc, rfl⟩ := making_len hM; have B1 := Lib.hid hb; clear hM hb))
      go_ret2
      exact ⟨_, _, by rw [T2.out, ← QN.out, T3.out, F0.out]; rfl, .inl (by rw [F0.out]; rfl), B1.out.trans ((below_alloc (Below.refl _ _) _).mono B1.out.size)⟩
  · have T1 := Lib.hid (tt_no hr)
    have T2 := Lib.hid (gainN_no hr)
    have F0 := Lib.hid (firstL_no hr)
    have T3 := Lib.hid (tt_no (show ¬ 0 < gainN n L Z by rw [T2.out]; omega))
    clear hL0 ha0 hr
    go_enter Try.func22, Try.ntmps22
    go_wp2_with (go_at_call 48; refine H1.out.mono ?_; rintro e w' ⟨rfl, rfl⟩; rw [T1.out])
    go_ret2
    exact ⟨_, _, by rw [T3.out, F0.out]; rfl, .inl (by rw [F0.out]; rfl), below_alloc (Below.refl _ _) _⟩
end Go.Proofs.Ytakipaehoeapcaa
