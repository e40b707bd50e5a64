/- The model's l6wCircle. -/
import Derived.Test.YtamglhpgdaoaoaaSpecWantIn
namespace Go.Proofs.Ytamglhpgdaoaoaa
set_option linter.unusedVariables false
set_option linter.unusedSimpArgs false
open Go.RowKit

set_option maxHeartbeats 1600000 in
theorem l6wCircle_any (n c m d : Nat) (a b : Option Addr) (W C : Nat → Int) (w : World) (hW : IsWants n W) (hm : m ≤ 1048576) (ha : Rd w a n W) (hb : Rd w b m C) :
    Calls Try.prog 58 #[.slice a n c, .slice b m d] w fun e w' => e = .returned (.bool (tt (IsCirc n W m C))) ∧ Below w.heap.size w w' := by
  have HA := Lib.hid ha
  have HB := Lib.hid hb
  have HW := Lib.hid hW
  have hn2 := hW.1.1
  have hn6 := hW.1.2
  clear ha hb hW
  go_enter Try.func58, Try.ntmps58
  go_wp2
  go_loopw [5] (fun i wr => ∃ k : Nat, k ≤ m ∧ i = .int .i64 k ∧ (∀ j, j < k → 0 ≤ C j ∧ C j < n) ∧ (∀ j, 0 < j → j < k → C 0 < C j) ∧ Below w.heap.size w wr) (fun i _ => m - (intOf i).toNat)
  case atStart => exact ⟨0, Nat.zero_le _, rfl, fun j hj => absurd hj (Nat.not_lt_zero _), fun j _ hj => absurd hj (Nat.not_lt_zero _), Below.refl _ _⟩
  case round =>
    obtain ⟨k, hk, rfl, h1, h2, hB⟩ := hrel
    have H1 := Lib.hid h1
    have H2 := Lib.hid h2
    have BR := Lib.hid hB
    clear h1 h2 hB
    by_cases hlt : k < m
    · obtain ⟨bb, ob, rfl, hcb⟩ := (HB.out.below (Nat.le_refl _) BR.out) k hlt
      obtain ⟨bb', ob', hE, hc0⟩ := (HB.out.below (Nat.le_refl _) BR.out) 0 (by omega)
      cases hE
      rw [Nat.add_zero] at hc0
      by_cases hin : InR (C k) 0 ((n : Int) - 1)
      · have B1 := Lib.hid (tt_of hin)
        have HI := Lib.hid hin
        obtain ⟨x, hx⟩ := Int.eq_ofNat_of_zero_le hin.1
        obtain ⟨y, hy⟩ : ∃ y, y = C 0 := ⟨_, rfl⟩
        rw [hx] at hcb B1
        rw [← hy] at hc0
        have HX := Lib.hid hx
        have HY := Lib.hid hy
        clear hin hx hy
        have I1 := Lib.hid (fun W' => (show Calls Try.prog 46 #[.int .i64 (x : Int), .int .i64 0, .int .i64 ((n : Int) - 1)] W' fun e w' => e = .returned (.bool true) ∧ Below W'.heap.size W' w' from (l6In_any _ _ _ _).mono fun e w' ⟨h1, h2⟩ => ⟨by rw [h1, B1.out], by rw [← h2]; exact Below.refl _ _⟩))
        have LC := later_cell hcb
        have L0 := later_cell hc0
        have i1 : (0 : Int) ≤ (k : Int) := by omega
        have i2 : (k : Int) < (m : Int) := by omega
        have i3 : (0 : Int) < (m : Int) := by omega
        by_cases hk0 : k = 0
        · have d1 : decide ((0 : Int) < (k : Int)) = false := by simp; omega
          have d1' : decide (0 < k) = false := by simp; omega
          have HK := Lib.hid hk0
          clear hk0
          go_wp2
          refine wp_region_later (by kernel_rfl) (by kernel_rfl) ?_
          repeat go_big_quiet_step ((go_at_call 46; exact calls_later _ (I1.out _)))
          refine wpQuiet_nil ?_
          rintro _ ⟨r, rfl⟩
          have B2 := Lib.hid (BR.out.trans (r.h.mono BR.out.size))
          go_wp2
          go_roundw
          case rel => exact ⟨k + 1, by omega, by go_num, fun j hj => by
            have := HK.out
            obtain rfl : j = k := by omega
            have := HI.out
            exact ⟨this.1, by have := this.2; omega⟩, fun j h0 hj => by have := HK.out; omega, B2.out⟩
          case measure => simp [intOf]; omega
        · have d1 : decide ((0 : Int) < (k : Int)) = true := by simp; omega
          have d1' : decide (0 < k) = true := by simp; omega
          by_cases hle : (x : Int) ≤ y
          · have d2 : decide ((x : Int) ≤ y) = true := by simpa using hle
            have hno := Lib.hid (show ¬ IsCirc n W m C from fun h => by
              have h3 := h.2.1 k (by omega) hlt
              have h4 := HX.out
              have h5 := HY.out
              omega)
            clear hle
            go_wp2
            refine wp_region_later (by kernel_rfl) (by kernel_rfl) ?_
            repeat go_big_quiet_step ((go_at_call 46; exact calls_later _ (I1.out _)))
            refine wpQuiet_nil ?_
            rintro _ ⟨r, rfl⟩
            have B2 := Lib.hid (BR.out.trans (r.h.mono BR.out.size))
            go_wp2
            go_ret
            exact ⟨by rw [tt_no hno.out]; rfl, B2.out⟩
          · have d2 : decide ((x : Int) ≤ y) = false := by simpa using hle
            have HL := Lib.hid hle
            clear hle
            go_wp2
            refine wp_region_later (by kernel_rfl) (by kernel_rfl) ?_
            repeat go_big_quiet_step ((go_at_call 46; exact calls_later _ (I1.out _)))
            refine wpQuiet_nil ?_
            rintro _ ⟨r, rfl⟩
            have B2 := Lib.hid (BR.out.trans (r.h.mono BR.out.size))
            go_wp2
            go_roundw
            case rel => exact ⟨k + 1, by omega, by go_num, fun j hj => by
              by_cases e : j = k
              · subst e
                have := HI.out
                exact ⟨this.1, by have := this.2; omega⟩
              · exact H1.out j (by omega), fun j h0 hj => by
              by_cases e : j = k
              · subst e
                have h3 := HL.out
                have h4 := HX.out
                have h5 := HY.out
                omega
              · exact H2.out j h0 (by omega), B2.out⟩
            case measure => simp [intOf]; omega
      · have B1 := Lib.hid (tt_no hin)
        have hno := Lib.hid (show ¬ IsCirc n W m C from fun h => hin (by
          have h3 := h.1.1 k hlt
          exact ⟨h3.1, by have := h3.2; omega⟩))
        clear hin
        have I1 := Lib.hid (fun W' => (show Calls Try.prog 46 #[.int .i64 (C k), .int .i64 0, .int .i64 ((n : Int) - 1)] W' fun e w' => e = .returned (.bool false) ∧ Below W'.heap.size W' w' from (l6In_any _ _ _ _).mono fun e w' ⟨h1, h2⟩ => ⟨by rw [h1, B1.out], by rw [← h2]; exact Below.refl _ _⟩))
        have LC := later_cell hcb
        have i1 : (0 : Int) ≤ (k : Int) := by omega
        have i2 : (k : Int) < (m : Int) := by omega
        clear hc0
        go_wp2
        refine wp_region_later (by kernel_rfl) (by kernel_rfl) ?_
        repeat go_big_quiet_step ((go_at_call 46; exact calls_later _ (I1.out _)))
        refine wpQuiet_nil ?_
        rintro _ ⟨r, rfl⟩
        have B2 := Lib.hid (BR.out.trans (r.h.mono BR.out.size))
        go_wp2
        go_ret
        exact ⟨by rw [tt_no hno.out]; rfl, B2.out⟩
    · obtain rfl : k = m := by omega
      go_wp2
      go_loopw [6, 7] (fun s i wr => ∃ q S : Nat, q ≤ k ∧ i = .int .i64 q ∧ s = .int .i64 S ∧ S < 2 ^ n ∧ SetOf S q C ∧ IsDiff n q C ∧ (∀ j, j < q → WantsB W (C j).toNat (C ((j + 1) % k)).toNat = true) ∧ Below w.heap.size w wr) (fun _ i _ => k - (intOf i).toNat)
      case atStart => exact ⟨0, 0, Nat.zero_le _, rfl, rfl, Nat.two_pow_pos n, SetOf.nil C, IsDiff.nil n C, fun j hj => absurd hj (Nat.not_lt_zero _), BR.out⟩
      case round =>
        obtain ⟨q, S, hq, rfl, rfl, hS, hset, hdf, hwt, hB⟩ := hrel
        clear BR
        have HS := Lib.hid hS
        have HSET := Lib.hid hset
        have HDF := Lib.hid hdf
        have HWT := Lib.hid hwt
        have BR := Lib.hid hB
        clear hS hset hdf hwt hB
        by_cases hlt : q < k
        · obtain ⟨bb, ob, rfl, hcb⟩ := (HB.out.below (Nat.le_refl _) BR.out) q hlt
          obtain ⟨q2, hq2⟩ : ∃ q2, q2 = (q + 1) % k := ⟨_, rfl⟩
          have hq2k : q2 < k := by rw [hq2]; exact Nat.mod_lt _ (by omega)
          have htm : ((q : Int) + 1).tmod (k : Int) = (q2 : Int) := by rw [Int.tmod_eq_emod_of_nonneg (by omega), hq2, Int.natCast_emod]; rfl
          obtain ⟨bb', ob', hE, hcy⟩ := (HB.out.below (Nat.le_refl _) BR.out) q2 hq2k
          cases hE
          obtain ⟨x, hx⟩ := Int.eq_ofNat_of_zero_le (H1.out q hlt).1
          obtain ⟨y, hy⟩ := Int.eq_ofNat_of_zero_le (H1.out q2 hq2k).1
          have hxn : x < n := by have := (H1.out q hlt).2; omega
          have hyn : y < n := by have := (H1.out q2 hq2k).2; omega
          obtain ⟨ba, oa, rfl, hca⟩ := (HA.out.below (Nat.le_refl _) BR.out) x hxn
          have hwx := HW.out.lt hxn
          obtain ⟨z, hz⟩ := Int.eq_ofNat_of_zero_le hwx.1
          have hz63 : z ≤ 63 := by have := hwx.2; omega
          rw [hx] at hcb
          rw [hy] at hcy
          rw [hz] at hca
          have hp6 : 2 ^ n ≤ 2 ^ 6 := Nat.pow_le_pow_right (by omega) hn6
          have hS64 : S < 64 := by have := HS.out; omega
          have f1 := bit_has S x (by omega)
          have f2 := bit_hasnt z y (by omega)
          have HX := Lib.hid hx
          have HY := Lib.hid hy
          have HZ := Lib.hid hz
          have HQ := Lib.hid hq2
          have LCx := later_cell hcb
          have LCy := later_cell hcy
          have LCz := later_cell hca
          have i1 : (0 : Int) ≤ (q : Int) := by omega
          have i2 : (q : Int) < (k : Int) := by omega
          have i3 : (0 : Int) ≤ (q2 : Int) := by omega
          have i4 : (q2 : Int) < (k : Int) := by omega
          have i5 : (x : Int) < (n : Int) := by omega
          have k0 : ((k : Int) == 0) = false := by simp; omega
          clear hx hy hz hwx hq2 hp6 hca hcb hcy
          have WB := Lib.hid (show WantsB W (C q).toNat (C ((q + 1) % k)).toNat = z.testBit y by
            unfold WantsB
            rw [← HQ.out, HX.out, HY.out, Int.toNat_natCast, Int.toNat_natCast, HZ.out, Int.toNat_natCast])
          cases hsx : S.testBit x with
          | true =>
            rw [hsx] at f1
            have hno := Lib.hid (show ¬ IsCirc n W k C from fun h => not_diff_twice HSET.out hlt HX.out hsx h.1)
            clear hsx f2
            go_wp2
            refine wp_region_later (by kernel_rfl) (by kernel_rfl) ?_
            repeat go_big_quiet_step (fail)
            refine wpQuiet_nil ?_
            rintro _ ⟨r, rfl⟩
            have B2 := Lib.hid (BR.out.trans (r.h.mono BR.out.size))
            go_wp2
            go_ret
            exact ⟨by rw [tt_no hno.out]; rfl, B2.out⟩
          | false =>
            rw [hsx] at f1
            have HSX := Lib.hid hsx
            clear hsx
            cases hzy : z.testBit y with
            | false =>
              rw [hzy] at f2
              have hno := Lib.hid (show ¬ IsCirc n W k C from fun h => by
                have h3 := h.2.2.1 q hlt
                rw [WB.out, hzy] at h3
                cases h3)
              clear hzy
              go_wp2
              refine wp_region_later (by kernel_rfl) (by kernel_rfl) ?_
              repeat go_big_quiet_step (fail)
              refine wpQuiet_nil ?_
              rintro _ ⟨r, rfl⟩
              have B2 := Lib.hid (BR.out.trans (r.h.mono BR.out.size))
              go_wp2
              go_ret
              exact ⟨by rw [tt_no hno.out]; rfl, B2.out⟩
            | true =>
              rw [hzy] at f2
              have HZY := Lib.hid hzy
              obtain ⟨S', hS'⟩ : ∃ S', S' = S ||| 2 ^ x := ⟨_, rfl⟩
              have hput := bit_put S x (by omega) (by omega)
              rw [← hS'] at hput
              have HS' := Lib.hid hS'
              clear hzy hS'
              go_wp2
              refine wp_region_later (by kernel_rfl) (by kernel_rfl) ?_
              repeat go_big_quiet_step (fail)
              refine wpQuiet_nil ?_
              rintro _ ⟨r, rfl⟩
              have B2 := Lib.hid (BR.out.trans (r.h.mono BR.out.size))
              have hc2 := LCx r
              go_wp2
              go_roundw
              case rel => exact ⟨q + 1, S', by omega, by go_num, rfl, by rw [HS'.out]; exact bit_put_lt HS.out hxn, by rw [HS'.out]; exact HSET.out.put HX.out, HDF.out.snoc HSET.out HX.out hxn HSX.out, fun j hj => by
                by_cases e : j = q
                · subst e; rw [WB.out]; exact HZY.out
                · exact HWT.out j (by omega), B2.out⟩
              case measure => simp [intOf]; omega
        · obtain rfl : q = k := by omega
          have hiff := Lib.hid (show decide (2 ≤ q) = tt (IsCirc n W q C) from by
            by_cases h : 2 ≤ q
            · rw [tt_of (show IsCirc n W q C from ⟨HDF.out, H2.out, HWT.out, h⟩)]; simpa using h
            · rw [tt_no (show ¬ IsCirc n W q C from fun h' => h h'.2.2.2)]; simpa using h)
          go_wp2
          go_ret
          exact ⟨by rw [← hiff.out]; simp; omega, BR.out⟩
end Go.Proofs.Ytamglhpgdaoaoaa
