/- The program's WantCircle. -/
import Derived.Test.YtamglhpgdaoaoaaWantSteps
import Derived.Test.YtamglhpgdaoaoaaAreDifferent
import Derived.Test.YtamglhpgdaoaoaaMin
import Derived.Test.YtamglhpgdaoaoaaSeq
import Derived.BigQuiet
import Derived.BigGuardPart
namespace Go.Proofs.Ytamglhpgdaoaoaa
set_option linter.unusedVariables false
set_option linter.unusedSimpArgs false
open Go.RowKit

theorem ring_circ {n m : Nat} {W C : Nat → Int} : IsCirc n W m C ↔ IsRing n m C ∧ ∀ i, i < m → WantsB W (C i).toNat (C ((i + 1) % m)).toNat = true := by
  constructor
  · rintro ⟨h1, h2, h3, h4⟩
    exact ⟨⟨⟨h1, h4, diff_le h1⟩, fun i h5 h6 => h2 i (by omega) h6⟩, h3⟩
  · rintro ⟨⟨⟨h1, h4, _⟩, h2⟩, h3⟩
    exact ⟨h1, fun i h5 h6 => h2 i (by omega) h6, h3, h4⟩
theorem ring_allow {n m : Nat} {W C : Nat → Int} (hW : IsWants n W) (h : IsRing n m C) : AllowP n n W (nextF (nth (ownF n)) C m m) ↔ IsCirc n W m C := by
  rw [ring_circ]
  obtain ⟨⟨h1, h4, h5⟩, h2⟩ := h
  have hown : ∀ i, i < n → nth (ownF n) i = i := fun i hi => nth_map hi
  have hon : ∀ i j, j < m → C j = (i : Nat) → nextF (nth (ownF n)) C m m i = C ((j + 1) % m) := fun i j hj e => nextF_on hj e h1.2
  constructor
  · intro ha
    refine ⟨⟨⟨h1, h4, h5⟩, h2⟩, fun j hj => ?_⟩
    have hr := h1.1 j hj
    obtain ⟨y, hy⟩ := Int.eq_ofNat_of_zero_le hr.1
    have h6 := ha y (by omega)
    rw [hon y j hj hy] at h6
    rw [hy, Int.toNat_natCast]
    rcases h6 with h6 | h6
    · have hm : (j + 1) % m < m := Nat.mod_lt _ (by omega)
      have e : C ((j + 1) % m) = C j := by rw [h6, hy]
      have : (j + 1) % m = j := by
        rcases Nat.lt_trichotomy ((j + 1) % m) j with h | h | h
        · exact absurd e (h1.2 _ _ h hj)
        · exact h
        · exact absurd e.symm (h1.2 _ _ h hm)
      by_cases e2 : j + 1 = m
      · rw [e2, Nat.mod_self] at this; omega
      · rw [Nat.mod_eq_of_lt (by omega)] at this; omega
    · exact h6
  · rintro ⟨_, hw⟩ i hi
    by_cases hin : ∃ j, j < m ∧ C j = (i : Nat)
    · obtain ⟨j, hj, e⟩ := hin
      right
      rw [hon i j hj e]
      have := hw j hj
      rw [e, Int.toNat_natCast] at this
      exact this
    · left
      rw [nextF_off fun j hj e => hin ⟨j, hj, e⟩, hown i hi]
theorem next_range {n m : Nat} {C : Nat → Int} (hm : 1 ≤ m) (hC : ∀ j, j < m → 0 ≤ C j ∧ C j < n) {T : Nat → Int} : ∀ {k : Nat}, k ≤ m → ∀ i, i < n → 0 ≤ T i ∧ T i < n → 0 ≤ nextF T C m k i ∧ nextF T C m k i < n
  | 0, _, i, hi, h => h
  | k + 1, hk, i, hi, h => by
    show 0 ≤ (if (i : Int) = C k then C ((k + 1) % m) else nextF T C m k i) ∧ (if (i : Int) = C k then C ((k + 1) % m) else nextF T C m k i) < n
    split
    · exact hC _ (Nat.mod_lt _ (by omega))
    · exact next_range hm hC (by omega) i hi h

set_option maxRecDepth 100000 in
set_option maxHeartbeats 3200000 in
theorem wantCircle_all (n c : Nat) (a : Option Addr) (W : Nat → Int) (m d : Nat) (b : Option Addr) (C : Nat → Int) (w : World) (hm0 : n ≤ 1048576) (hb0 : Rd w a n W) (hm1 : m ≤ 1048576) (hb1 : Rd w b m C) :
    Calls Try.prog 20 #[.slice a n c, .slice b m d] w fun e w' => e = .returned (.bool (tt (IsWants n W ∧ IsCirc n W m C))) ∧ Below w.heap.size w w' := by
  have H := Lib.hid (readWants_any n c a W w hm0 hb0)
  have HB := Lib.hid hb1
  clear hb0 hb1
  by_cases hW : IsWants n W
  · have T1 := Lib.hid (tt_of hW)
    have HW := Lib.hid hW
    have hn2 := hW.1.1
    have hn6 := hW.1.2
    clear hW
    by_cases hm2 : m < 2
    · have d1 : decide ((m : Int) < 2) = true := by simp; omega
      have TF := Lib.hid (tt_no (show ¬ (IsWants n W ∧ IsCirc n W m C) from fun h => by have := h.2.2.2.2; omega))
      go_enter Try.func20, Try.ntmps20
      go_wp2_with (go_at_call 45; refine H.out.mono ?_; rintro e w1 ⟨v, rfl, hv, hb1⟩; rw [T1.out]; obtain ⟨g, rfl, hg1, hg2, hr⟩ := hv HW.out; have B1 := Lib.hid hb1; clear hb1 hr)
      refine wp_region_later (by kernel_rfl) (by kernel_rfl) ?_
      repeat go_big_quiet_step (fail)
      refine wpQuiet_nil ?_
      rintro _ ⟨r, rfl⟩
      go_wp2
      go_ret
      exact ⟨by rw [TF.out]; rfl, B1.out.trans (r.h.mono B1.out.size)⟩
    · have d1 : decide ((m : Int) < 2) = false := by simp; omega
      have HD := Lib.hid (fun w (hb : Rd w b m C) => areDifferent_any n m d b C w (by omega) hm1 hb)
      by_cases hD : IsDiff n m C
      · have T2 := Lib.hid (tt_of hD)
        have hway : IsWay n m C := ⟨hD, by omega, diff_le hD⟩
        obtain ⟨bb, ob, hbe, hlt, hc0⟩ := HB.out.lt (show 0 < m by omega)
        subst hbe
        rw [Nat.add_zero] at hc0
        have HC0 := Lib.hid hc0
        have hi1 : 0 < m := by omega
        have HM := Lib.hid (fun w (hb : Rd w (some ⟨bb, ob, none⟩) m C) => min_any m d _ C w (by omega) hm1 hb)
        obtain ⟨x0, hx0⟩ : ∃ x0, x0 = C 0 := ⟨_, rfl⟩
        obtain ⟨x1, hx1⟩ : ∃ x1, x1 = minF C (m - 1) := ⟨_, rfl⟩
        rw [← hx0] at HC0
        rw [← hx1] at HM
        by_cases hR : x0 = x1
        · have d2 : (x0 != x1) = false := by simp [hR]
          have hring := (ring_iff hway).1 (by rw [← hx0, ← hx1, hR])
          have HO := Lib.hid (fun c a w => ownThings_any n c a w hn2 hn6)
          have HA := Lib.hid (fun c a w (h1 : Rd w a n (nth (ownF n))) (h2 : Rd w (some ⟨bb, ob, none⟩) m C) => along_any n c m d a (some ⟨bb, ob, none⟩) (nth (ownF n)) C w (by omega) hn6 (by omega) hm1 hD.1 h1 h2)
          have HL := Lib.hid (fun c d a b w (h1 : Rd w a n W) (h2 : Rd w b n (nextF (nth (ownF n)) C m m)) => allows_any n c d a b W _ w HW.out (fun i hi => next_range (by omega) hD.1 (Nat.le_refl _) i hi (by rw [show nth (ownF n) i = i from nth_map hi]; omega)) h1 h2)
          have TE := Lib.hid (show tt (AllowP n n W (nextF (nth (ownF n)) C m m)) = tt (IsWants n W ∧ IsCirc n W m C) from tt_congr ((ring_allow HW.out hring).trans ⟨fun h => ⟨HW.out, h⟩, fun h => h.2⟩))
          clear hD hway hc0 hlt hx0 hx1 hR hring
          go_enter Try.func20, Try.ntmps20
          go_wp2_with (go_at_call 45; refine H.out.mono ?_; rintro e w1 ⟨v, rfl, hv, hb1⟩; rw [T1.out]; obtain ⟨g, rfl, hg1, hg2, hr⟩ := hv HW.out; have B1 := Lib.hid hb1; have R1 := Lib.hid hr; clear hb1 hr)
          have hcr : ∀ r : Later w1, r.W.cell? ⟨bb, ob, none⟩ = some (.int .i64 x0) := fun r => later_cell ((B1.out.cell (p := ⟨bb, ob, none⟩) (World.block_lt_of_cell? _ _ HC0.out)).trans HC0.out) r
          refine wp_region_later (by kernel_rfl) (by kernel_rfl) ?_
          repeat go_big_quiet_step ((first
            | (go_at_call 53; exact calls_later _ ((HD.out _ ((HB.out.below (Nat.le_refl _) B1.out).below (Nat.le_refl _) (Later.h _))).mono fun e w' ⟨he, hw⟩ => ⟨he.trans (by rw [T2.out]), hw ▸ Below.refl _ _⟩))
            | (go_at_call 54; exact calls_later _ ((HM.out _ ((HB.out.below (Nat.le_refl _) B1.out).below (Nat.le_refl _) (Later.h _))).mono fun e w' ⟨he, hw⟩ => ⟨he, hw ▸ Below.refl _ _⟩))))
          clear hcr
          refine wpQuiet_nil ?_
          rintro _ ⟨r, rfl⟩
          obtain ⟨w2, hw2⟩ : ∃ w2, w2 = r.W := ⟨_, rfl⟩
          have B2 := Lib.hid (show Below w1.heap.size w1 w2 by rw [hw2]; exact r.h)
          rw [← hw2]
          clear hw2
          go_wp2_with (first
            | (go_at_call 57; refine (HO.out _ _ _).mono ?_; rintro e w3 ⟨g3, c3, rfl, hg3, hO3, hb3⟩; have O3 := Lib.hid hO3; have B3 := Lib.hid hb3; clear hO3 hb3)
            | (go_at_call 56; refine (HA.out _ _ _ O3.out.rd ((HB.out.below (Nat.le_refl _) B1.out).below (Nat.le_refl _) (B2.out.trans (B3.out.mono B2.out.size)))).mono ?_; rintro e w4 ⟨g4, c4, rfl, hg4, hO4, hb4⟩; have O4 := Lib.hid hO4; have B4 := Lib.hid hb4; clear hO4 hb4)
            | (go_at_call 55; refine (HL.out _ _ _ _ _ (((R1.out.below (Nat.le_refl _) B2.out).below (Nat.le_refl _) B3.out).below (Nat.le_refl _) B4.out) O4.out.rd).mono ?_; rintro e w5 ⟨rfl, rfl⟩; rw [TE.out]))
          go_ret
          exact ⟨rfl, below_chain (below_chain (below_chain B1.out B2.out) B3.out) B4.out⟩
        · have d2 : (x0 != x1) = true := by simp [hR]
          have TF := Lib.hid (tt_no (show ¬ (IsWants n W ∧ IsCirc n W m C) from fun h => hR (by rw [hx0, hx1]; exact (ring_iff hway).2 (ring_circ.1 h.2).1)))
          clear hD hway hc0 hlt hx0 hx1 hR
          go_enter Try.func20, Try.ntmps20
          go_wp2_with (go_at_call 45; refine H.out.mono ?_; rintro e w1 ⟨v, rfl, hv, hb1⟩; rw [T1.out]; obtain ⟨g, rfl, hg1, hg2, hr⟩ := hv HW.out; have B1 := Lib.hid hb1; clear hb1 hr)
          have hcr : ∀ r : Later w1, r.W.cell? ⟨bb, ob, none⟩ = some (.int .i64 x0) := fun r => later_cell ((B1.out.cell (p := ⟨bb, ob, none⟩) (World.block_lt_of_cell? _ _ HC0.out)).trans HC0.out) r
          refine wp_region_later (by kernel_rfl) (by kernel_rfl) ?_
          repeat go_big_quiet_step ((first
            | (go_at_call 53; exact calls_later _ ((HD.out _ ((HB.out.below (Nat.le_refl _) B1.out).below (Nat.le_refl _) (Later.h _))).mono fun e w' ⟨he, hw⟩ => ⟨he.trans (by rw [T2.out]), hw ▸ Below.refl _ _⟩))
            | (go_at_call 54; exact calls_later _ ((HM.out _ ((HB.out.below (Nat.le_refl _) B1.out).below (Nat.le_refl _) (Later.h _))).mono fun e w' ⟨he, hw⟩ => ⟨he, hw ▸ Below.refl _ _⟩))))
          clear hcr
          refine wpQuiet_nil ?_
          rintro _ ⟨r, rfl⟩
          go_wp2
          go_ret
          exact ⟨by rw [TF.out]; rfl, B1.out.trans (r.h.mono B1.out.size)⟩
      · have T2 := Lib.hid (tt_no hD)
        have TF := Lib.hid (tt_no (show ¬ (IsWants n W ∧ IsCirc n W m C) from fun h => hD h.2.1))
        clear hD
        go_enter Try.func20, Try.ntmps20
        go_wp2_with (go_at_call 45; refine H.out.mono ?_; rintro e w1 ⟨v, rfl, hv, hb1⟩; rw [T1.out]; obtain ⟨g, rfl, hg1, hg2, hr⟩ := hv HW.out; have B1 := Lib.hid hb1; clear hb1 hr)
        refine wp_region_later (by kernel_rfl) (by kernel_rfl) ?_
        repeat go_big_quiet_step ((go_at_call 53; exact calls_later _ ((HD.out _ ((HB.out.below (Nat.le_refl _) B1.out).below (Nat.le_refl _) (Later.h _))).mono fun e w' ⟨he, hw⟩ => ⟨he.trans (by rw [T2.out]), hw ▸ Below.refl _ _⟩)))
        refine wpQuiet_nil ?_
        rintro _ ⟨r, rfl⟩
        go_wp2
        go_ret
        exact ⟨by rw [TF.out]; rfl, B1.out.trans (r.h.mono B1.out.size)⟩
  · have T1 := Lib.hid (tt_no hW)
    have TF := Lib.hid (tt_no (show ¬ (IsWants n W ∧ IsCirc n W m C) from fun h => hW h.1))
    clear hW
    go_enter Try.func20, Try.ntmps20
    go_wp2_with (go_at_call 45; refine H.out.mono ?_; rintro e w1 ⟨v, rfl, hv, hb1⟩; rw [T1.out]; have B1 := Lib.hid hb1; clear hb1 hv)
    refine wp_region_later (by kernel_rfl) (by kernel_rfl) ?_
    repeat go_big_quiet_step (fail)
    refine wpQuiet_nil ?_
    rintro _ ⟨r, rfl⟩
    go_wp2
    go_ret
    exact ⟨by rw [TF.out]; rfl, B1.out.trans (r.h.mono B1.out.size)⟩
theorem wantCircle_any (n c : Nat) (a : Option Addr) (W : Nat → Int) (m d : Nat) (b : Option Addr) (C : Nat → Int) (w : World) (hm0 : n ≤ 1048576) (hmd0 : n ≤ c) (hb0 : Rd w a n W) (hm1 : m ≤ 1048576) (hmd1 : m ≤ d) (hb1 : Rd w b m C) :
    Calls Try.prog 20 #[.slice a n c, .slice b m d] w fun e w' => e = .returned (.bool (tt (IsWants n W ∧ IsCirc n W m C))) ∧ Below w.heap.size w w' :=
  wantCircle_all n c a W m d b C w hm0 hb0 hm1 hb1
end Go.Proofs.Ytamglhpgdaoaoaa
