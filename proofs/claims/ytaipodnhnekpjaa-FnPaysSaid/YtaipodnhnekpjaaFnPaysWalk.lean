/- The walk of the law FnPays: it answers true at every code that can be read. -/
import Derived.Test.YtaipodnhnekpjaaDrawFairPays
import Derived.Test.YtaipodnhnekpjaaFairPaysF
import Derived.Test.YtaipodnhnekpjaaSpecFairPays
import Derived.Test.YtaipodnhnekpjaaFairLowF
import Derived.Test.YtaipodnhnekpjaaBidFirstF
import Derived.Test.YtaipodnhnekpjaaSameInts
import Derived.Test.YtaipodnhnekpjaaFnBidModel
namespace Go.Proofs.Ytaipodnhnekpjaa
set_option linter.unusedVariables false
open Go.RowKit

set_option maxHeartbeats 3200000 in
theorem fnPays_walk (n c : Nat) (a : Option Addr) (B : Nat → Nat) (w : World) (hc : n ≤ c) (hb : RdB w a n B) (hab : 0 < n → ∀ b o, a = some ⟨b, o, none⟩ → b < w.heap.size) :
    Calls Try.prog 12 #[.slice a n c] w fun e w' => e = .returned (.bool true) ∧ Below w.heap.size w w' := by
  by_cases hfit : n ≤ 1048576
  · have hd : ¬ (1048576 < n) := by omega
    have HD := Lib.hid (drawFairPays_any n c a B w hfit hc hb hab)
    clear hb hab
    go_enter Try.func12, Try.ntmps12
    go_wp2_with fail
    refine HD.out.mono ?_
    rintro e w1 ⟨ga, N, gc, A, L, C, Z, rfl, ⟨hN1, hN4, hgc⟩, hL, hT, hb1⟩
    have V1 := Lib.hid hT
    have B1 := Lib.hid hb1
    have hn0 : N ≤ 1048576 := by omega
    have HL := Lib.hid (show ∀ r, r < N → L r ≤ 1048576 from fun r hr => by have := hL r hr; omega)
    clear hL hT hb1 HD
    go_wp2_with fail
    refine (fairPays_any N gc ga A L C Z _ hn0 HL.out V1.out).mono ?_
    rintro e w2 ⟨fa, fc, rfl, hO2, hb2⟩
    have F2 := Lib.hid hO2.rd
    have V2 := Lib.hid (V1.out.below (Nat.le_refl _) hb2)
    have B2 := Lib.hid (below_chain B1.out hb2)
    clear hb2 B1 V1
    clear hO2
    go_wp2_with fail
    refine (specFairPays_any N gc ga A L C Z _ hn0 HL.out V2.out).mono ?_
    rintro e w3 ⟨sa, sc, rfl, hO3, hb3⟩
    have S3 := Lib.hid hO3.rd
    have V3 := Lib.hid (V2.out.below (Nat.le_refl _) hb3)
    have F3 := Lib.hid (F2.out.below (Nat.le_refl _) hb3)
    have B3 := Lib.hid (below_chain B2.out hb3)
    clear hb3 B2 V2 F2
    clear hO3
    by_cases h : IsBids N L Z
    · have K1 := Lib.hid (tt_of h)
      have K2 := Lib.hid (itemsN_yes h)
      have K3 := Lib.hid (firstN_yes h)
      obtain ⟨hfd, hfb⟩ := firstD_is h
      have hm4 := h.1.2.2
      have LH := Lib.hid (fun k (hk : k < N) => show payB N (L 0) Z (nth (firstD N (L 0) Z)) k = (if nth (firstD N (L 0) Z) k = -1 then 0 else lowP N (L 0) Z (nth (firstD N (L 0) Z) k).toNat) ∧ -1 ≤ nth (firstD N (L 0) Z) k ∧ nth (firstD N (L 0) Z) k < (L 0 : Int) from ⟨pay_due hfd hfb (by omega) hk, hfd.1 k hk⟩)
      have SM := Lib.hid (tt_of (show SameB N N (payB N (L 0) Z (nth (firstD N (L 0) Z))) (payB N (L 0) Z (nth (firstD N (L 0) Z))) from ⟨rfl, fun _ _ => rfl⟩))
      rw [K3.out] at F3 S3
      rw [K1.out, K3.out]
      clear h hfd hfb
      go_wp2_with fail
      refine (sameInts_any N N fc sc _ _ _ _ _ (by omega) (by omega) F3.out S3.out).mono ?_
      rintro e w4 ⟨rfl, q4, rfl⟩
      rw [SM.out]
      have V4 := Lib.hid (V3.out.drewN q4)
      have F4 := Lib.hid (F3.out.drewN q4)
      have S4 := Lib.hid (S3.out.drewN q4)
      have B4 := Lib.hid (below_chain B3.out (below_drewN (Below.refl _ _) q4))
      clear B3 V3 F3 S3
      clear S4
      go_wp2_with fail
      refine (bidFirst_any N gc ga A L C Z _ hn0 HL.out V4.out).mono ?_
      rintro e w5 ⟨da, dc, rfl, hO5, hb5⟩
      rw [K3.out] at hO5 ⊢
      rw [K1.out]
      have D5 := Lib.hid hO5.rd
      have V5 := Lib.hid (V4.out.below (Nat.le_refl _) hb5)
      have F5 := Lib.hid (F4.out.below (Nat.le_refl _) hb5)
      have B5 := Lib.hid (below_chain B4.out hb5)
      clear hb5 B4 V4 F4
      clear hO5
      go_wp2_with fail
      refine (fairLow_any N gc ga A L C Z _ hn0 HL.out V5.out).mono ?_
      rintro e w6 ⟨ga', gc', rfl, hO6, hb6⟩
      rw [K2.out] at hO6 ⊢
      rw [K1.out]
      have G6 := Lib.hid hO6.rd
      have V6 := Lib.hid (V5.out.below (Nat.le_refl _) hb6)
      have F6 := Lib.hid (F5.out.below (Nat.le_refl _) hb6)
      have D6 := Lib.hid (D5.out.below (Nat.le_refl _) hb6)
      have B6 := Lib.hid (below_chain B5.out hb6)
      clear hb6 B5 V5 F5 D5
      clear hO6
      obtain ⟨m, hm⟩ : ∃ m, m = L 0 := ⟨_, rfl⟩
      rw [← hm] at F6 G6 D6 LH hm4 ⊢
      clear hm K2
      obtain ⟨D, hD⟩ : ∃ D, D = nth (firstD N m Z) := ⟨_, rfl⟩
      rw [← hD] at F6 D6 LH
      clear hD
      obtain ⟨Pb, hPb⟩ : ∃ Pb, Pb = payB N m Z D := ⟨_, rfl⟩
      rw [← hPb] at F6 LH
      clear hPb
      obtain ⟨Lo, hLo⟩ : ∃ Lo, Lo = lowP N m Z := ⟨_, rfl⟩
      rw [← hLo] at G6 LH
      clear hLo
      go_wp2
      go_loopw [12, 13] (fun x _ wr => ∃ k t : Nat, k ≤ N ∧ x = .int .i64 k ∧ wr = w6.drewN t) (fun x _ _ => N - (intOf x).toNat)
      case atStart => exact ⟨0, 0, Nat.zero_le _, rfl, rfl⟩
      case round =>
        obtain ⟨k, t, hk, rfl, rfl⟩ := hrel
        by_cases hlt : k < N
        · obtain ⟨h1, h2, h3⟩ := LH.out k hlt
          obtain ⟨b0, o0, rfl, hc0⟩ := F6.out k hlt
          obtain ⟨b1, o1, rfl, hc1⟩ := D6.out k hlt
          have i1 : (0 : Int) ≤ (k : Int) := by omega
          have i2 : (k : Int) < (N : Int) := by omega
          by_cases he : D k = -1
          · rw [if_pos he] at h1
            rw [h1] at hc0
            rw [he] at hc1
            clear he h1 h2 h3
            go_wp2
            go_roundw
            case rel => exact ⟨k + 1, t, by omega, by go_num, rfl⟩
            case measure => simp [intOf]; omega
          · obtain ⟨x, hx⟩ := Int.eq_ofNat_of_zero_le (show 0 ≤ D k by omega)
            have hxm : x < m := by omega
            rw [if_neg he, hx, Int.toNat_natCast] at h1
            rw [h1] at hc0
            rw [hx] at hc1
            obtain ⟨b2, o2, rfl, hc2⟩ := G6.out x hxm
            obtain ⟨z, hz⟩ : ∃ z, z = Lo x := ⟨_, rfl⟩
            rw [← hz] at hc0 hc2
            have i3 : (0 : Int) ≤ (x : Int) := by omega
            have i4 : (x : Int) < (m : Int) := by omega
            have d0 : decide ((x : Int) ≥ 0) = true := by simp
            clear he h1 h2 h3 hx hz
            go_wp2
            go_roundw
            case rel => exact ⟨k + 1, t, by omega, by go_num, rfl⟩
            case measure => simp [intOf]; omega
        · obtain rfl : k = N := by omega
          go_wp2
          go_ret
          exact ⟨rfl, below_drewN B6.out t⟩
    · have K1 := Lib.hid (tt_no h)
      have K2 := Lib.hid (firstN_no h)
      have SM := Lib.hid (tt_of (show SameB 0 0 (payB N (L 0) Z (nth (firstD N (L 0) Z))) (payB N (L 0) Z (nth (firstD N (L 0) Z))) from ⟨rfl, fun _ _ => rfl⟩))
      rw [K2.out] at F3 S3 ⊢
      rw [K1.out]
      clear h
      go_wp2_with fail
      refine (sameInts_any 0 0 fc sc _ _ _ _ _ (by omega) (by omega) F3.out S3.out).mono ?_
      rintro e w4 ⟨rfl, q4, rfl⟩
      rw [SM.out]
      have F4 := Lib.hid (F3.out.drewN q4)
      have S4 := Lib.hid (S3.out.drewN q4)
      clear F3 S3 V3
      go_wp2_with fail
      refine (sameInts_any 0 0 fc sc _ _ _ _ _ (by omega) (by omega) F4.out S4.out).mono ?_
      rintro e w5 ⟨rfl, q5, rfl⟩
      rw [SM.out]
      clear F4 S4
      go_wp2_with fail
      go_ret
      exact ⟨rfl, below_chain B3.out (below_drewN (Below.refl _ _) (q4 + q5))⟩
  · have hd : 1048576 < n := by omega
    clear hb hab
    go_enter Try.func12, Try.ntmps12
    go_wp2
    go_ret
    exact ⟨rfl, Below.refl _ _⟩
end Go.Proofs.Ytaipodnhnekpjaa
