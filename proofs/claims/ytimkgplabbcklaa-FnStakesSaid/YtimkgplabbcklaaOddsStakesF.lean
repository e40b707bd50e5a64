/- The program's evenStakes and OddsStakes. -/
import Derived.Test.YtimkgplabbcklaaReadOdds
import Derived.Test.YtimkgplabbcklaaLowest
namespace Go.Proofs.Ytimkgplabbcklaa
set_option linter.unusedVariables false
set_option linter.unusedSimpArgs false
open Go.RowKit

theorem made_ownO (w : World) (n t : Nat) : OwnR (w.alloc (.cells (madeCells #[.int .i64 0] n) t)) w.heap.size (some ⟨w.heap.size, 0, none⟩) n (fun _ => 0) := .inr ⟨0, rfl, fun k hk => by
  obtain ⟨cur, h1, h2, h3⟩ := World.rowIs_made w (.int .i64 0) n t
  rw [Nat.zero_add]
  exact ⟨(cell_of_row _ _ k _ _ _ h1).trans (h3 k hk), frozen_of_row _ _ k _ _ h1⟩⟩

set_option maxRecDepth 100000 in
set_option maxHeartbeats 3200000 in
theorem evenStakes_any (m c : Nat) (a : Option Addr) (X : Nat → Int) (w : World) (h : IsOdds m X) (ha : Rd w a m X) :
    Calls Try.prog 32 #[.slice a m c] w (RetI m (stakeF m X) w) := by
  have HX := Lib.hid h.2
  have hm6 := h.1.2
  have hm2 := h.1.1
  have HA := Lib.hid ha
  have HP := Lib.hid (fun k (hk : k ≤ m) => prodT_pos (X := X) (k := k) fun j hj => h.2 j (by omega))
  have HV := Lib.hid (fun j (hj : j < m) => show (prodT X m : Int) / X j * X j = prodT X m from share_mul (h.2 j hj).1 (prodT_dvd hj))
  have hmk := run_make_row' (P := Try.prog) 47 3 (.int .i64 0) 8 Try.underlying47 Try.infoInt rfl .i64 .i64 m (by omega) (by omega)
  have E0 := Lib.hid (made_ownO w m 3)
  clear h ha
  go_enter Try.func32, Try.ntmps32
  go_wp2
  go_loop [3, 5, 11] (fun p _ i => ∃ k : Nat, k ≤ m ∧ i = .int .i64 k ∧ p = .int .i64 (prodT X k : Nat)) (fun _ _ i => m - (intOf i).toNat)
  case atStart => exact ⟨0, Nat.zero_le _, rfl, rfl⟩
  case round =>
    obtain ⟨k, hk, rfl, rfl⟩ := hrel
    by_cases hlt : k < m
    · have hx := HX.out k hlt
      have hr := (HP.out k hk).2
      have h20 : 20 ^ k ≤ 64000000 := Nat.le_trans (Nat.pow_le_pow_right (by omega) (show k ≤ 6 by omega)) (by decide)
      have EP := Lib.hid (show prodT X (k + 1) = prodT X k * (X k).toNat from rfl)
      obtain ⟨ba, oa, rfl, hca⟩ := HA.out k hlt
      obtain ⟨p, hp⟩ : ∃ p, p = prodT X k := ⟨_, rfl⟩
      obtain ⟨x, hxx⟩ := Int.eq_ofNat_of_zero_le (show 0 ≤ X k by omega)
      rw [hxx] at hca hx
      rw [hxx, Int.toNat_natCast, ← hp] at EP
      rw [← hp] at hr ⊢
      have hp6 : p ≤ 64000000 := by omega
      clear hp hxx hr h20 hmk
      have hp1 : 0 ≤ (p : Int) * (x : Int) := Int.mul_nonneg (by omega) (by omega)
      have hp2 : (p : Int) * (x : Int) ≤ 64000000 * 20 := Int.mul_le_mul (by omega) (by omega) (by omega) (by omega)
      go_wp2
      go_round
      case rel => exact ⟨k + 1, by omega, by go_num, by rw [EP.out, Int.natCast_mul]⟩
      case measure => simp [intOf]; omega
    · obtain rfl : k = m := by omega
      have hA := HP.out k (Nat.le_refl _)
      have h20 : 20 ^ k ≤ 64000000 := Nat.le_trans (Nat.pow_le_pow_right (by omega) hm6) (by decide)
      obtain ⟨A, hAA⟩ : ∃ A, A = prodT X k := ⟨_, rfl⟩
      rw [← hAA] at hA HV ⊢
      have hA1 := hA.1
      have hA2 : A ≤ 64000000 := by omega
      clear hA hAA HP h20
      go_wp2
      clear hmk
      go_loopw [7, 8, 24] (fun _ _ i wr => ∃ (j : Nat) (V : Nat → Int), j ≤ k ∧ i = .int .i64 j ∧ OwnR wr w.heap.size (some ⟨w.heap.size, 0, none⟩) k V ∧ (∀ l, l < j → V l = (A : Int) / X l) ∧ Below w.heap.size w wr) (fun _ _ i _ => k - (intOf i).toNat)
      case atStart => exact ⟨0, _, Nat.zero_le _, rfl, E0.out, fun l hl => absurd hl (Nat.not_lt_zero _), below_alloc (Below.refl _ _) _⟩
      case round =>
        obtain ⟨j, V, hj, rfl, hO, hV, hB⟩ := hrel
        have HO := Lib.hid hO
        have HVV := Lib.hid hV
        have HB := Lib.hid hB
        clear hO hV hB E0
        by_cases hlt : j < k
        · obtain ⟨hck, hfk⟩ := HO.out.at hlt
          have hx := HX.out j hlt
          obtain ⟨ba, oa, rfl, hca⟩ := (HA.out.below (Nat.le_refl _) HB.out) j hlt
          obtain ⟨x, hxx⟩ : ∃ x, x = X j := ⟨_, rfl⟩
          rw [← hxx] at hca hx
          have QX := Lib.hid hxx
          have hx1 := hx.1
          have hx2 := hx.2
          clear hxx hx
          have hq1 : 0 ≤ (A : Int) / x := Int.ediv_nonneg (by omega) (by omega)
          have hq2 : (A : Int) / x ≤ A := Int.ediv_le_self _ (by omega)
          have i1 : (0 : Int) ≤ (j : Int) := by omega
          have i2 : (j : Int) < (k : Int) := by omega
          have hne1 : (x == 0) = false := by simp; omega
          have hne2 : ¬ x = 0 := by omega
          go_wp2
          go_roundw
          case rel =>
            refine ⟨j + 1, fun l => if l = j then (A : Int) / x else V l, by omega, by go_num, HO.out.set hlt _, fun l hl => ?_, HB.out.setCell (Nat.le_refl _) _⟩
            dsimp only
            by_cases e : l = j
            · rw [if_pos e, e, QX.out]
            · rw [if_neg e]; exact HVV.out l (by omega)
          case measure => simp [intOf]; omega
        · obtain rfl : j = k := by omega
          have HL := Lib.hid (lowest_any6 j j (some ⟨w.heap.size, 0, none⟩) (fun i => (A : Int) / X i) _ (by omega) hm6 (HO.out.congr HVV.out).rd (fun i hi => by
            have h1 := HV.out i hi
            have h2 := HX.out i hi
            have h3 : 0 ≤ (A : Int) / X i := Int.ediv_nonneg (by omega) (by omega)
            have h4 : (A : Int) / X i ≤ A := Int.ediv_le_self _ (by omega)
            refine ⟨?_, by omega⟩
            rcases Int.lt_or_le 0 ((A : Int) / X i) with h5 | h5
            · omega
            · have h6 : (A : Int) / X i = 0 := by omega
              rw [h6, Int.zero_mul] at h1; omega))
          have EF := Lib.hid (fun i (hi : i < j) => stake_of (F := fun i => (A : Int) / X i) (A := A) (by omega) hi HX.out HV.out)
          go_wp2_with (go_at_call 51; refine HL.out.mono ?_; rintro e' w6 ⟨g6, cap6, rfl, ⟨hg61, hg62, hg63⟩, hO6, hb6⟩; have O6 := Lib.hid hO6; have B6 := Lib.hid (HB.out.trans (hb6.mono HB.out.size)); clear hO6 hb6)
          go_ret
          have hB := HB.out.size
          exact ⟨_, _, rfl, ⟨by omega, hg62, hg63⟩, O6.out.congr fun i hi => EF.out i hi, B6.out⟩

set_option maxRecDepth 100000 in
set_option maxHeartbeats 1600000 in
theorem oddsStakes_all (m c : Nat) (a : Option Addr) (X : Nat → Int) (w : World) (hm0 : m ≤ 1048576) (hb0 : Rd w a m X) :
    Calls Try.prog 11 #[.slice a m c] w (RetIB (tt (IsOdds m X)) (stakeN m X) (stakeF m X) w) := by
  have H := Lib.hid (readOdds_any m c a X w hm0 hb0)
  by_cases h : IsOdds m X
  · have T1 := Lib.hid (tt_of h)
    have HE := Lib.hid (evenStakes_any m c a X w h hb0)
    rw [stakeN_yes h, T1.out]
    clear h hb0
    go_enter Try.func11, Try.ntmps11
    go_wp2_with (first
      | (go_at_call 27; refine H.out.mono ?_; rintro e w' ⟨rfl, rfl⟩; rw [T1.out, show ∀ a : Option Addr, oddsV true a m c = .slice a m c from fun _ => rfl])
      | (go_at_call 32; refine HE.out.mono ?_; rintro e w2 ⟨g, cap, rfl, ⟨hg1, hg2, _⟩, hO, hb⟩; have O2 := Lib.hid hO; have B2 := Lib.hid hb; clear hO hb))
    go_ret2
    exact ⟨_, _, rfl, .inr ⟨g, hg1, hg2, O2.out⟩, B2.out⟩
  · have T1 := Lib.hid (tt_no h)
    rw [stakeN_no h, T1.out]
    clear h hb0
    go_enter Try.func11, Try.ntmps11
    go_wp2_with (go_at_call 27; refine H.out.mono ?_; rintro e w' ⟨rfl, rfl⟩; rw [T1.out, show ∀ a : Option Addr, oddsV false a m c = .slice none 0 0 from fun _ => rfl])
    go_ret2
    exact ⟨_, _, rfl, .inl rfl, Below.refl _ _⟩
theorem oddsStakes_any (m c : Nat) (a : Option Addr) (X : Nat → Int) (w : World) (hm0 : m ≤ 1048576) (hmd0 : m ≤ c) (hb0 : Rd w a m X) :
    Calls Try.prog 11 #[.slice a m c] w (RetIB (tt (IsOdds m X)) (stakeN m X) (stakeF m X) w) := oddsStakes_all m c a X w hm0 hb0
end Go.Proofs.Ytimkgplabbcklaa
