/- The walk of the law FnWantFirst: it answers true at every code that can be read. -/
import Derived.Test.YteigenmagifplaaDrawWantFirst
import Derived.Test.YteigenmagifplaaWantFirst
import Derived.Test.YteigenmagifplaaSpecWantFirst
import Derived.Test.YteigenmagifplaaWantMost
import Derived.Test.YteigenmagifplaaSameInts
import Derived.Test.YteigenmagifplaaFnWantModel
namespace Go.Proofs.Yteigenmagifplaa
set_option linter.unusedVariables false
open Go.RowKit

set_option maxHeartbeats 3200000 in
theorem fnWantFirst_walk (n c : Nat) (a : Option Addr) (B : Nat → Nat) (w : World) (hc : n ≤ c) (hb : RdB w a n B) (hab : 0 < n → ∀ b o, a = some ⟨b, o, none⟩ → b < w.heap.size) :
    Calls Try.prog 7 #[.slice a n c] w fun e w' => e = .returned (.bool true) ∧ Below w.heap.size w w' := by
  by_cases hfit : n ≤ 1048576
  · have hd : ¬ (1048576 < n) := by omega
    have HD := Lib.hid (drawWantFirst_any n c a B w hfit hc hb hab)
    clear hb hab
    go_enter Try.func7, Try.ntmps7
    go_wp2_with fail
    refine HD.out.mono ?_
    rintro e w1 ⟨ga, m, gc, X, k, rfl, ⟨hm2, hm6, hmc⟩, ⟨hk0, hk1⟩, hX, hb1⟩
    have X1 := Lib.hid hX
    have B1 := Lib.hid hb1
    have hik : I64 k := by unfold I64; omega
    have hik1 : I64 (k + 1) := by unfold I64; omega
    clear hX hb1 HD
    go_wp2_with fail
    refine (wantFirst_any m gc _ X k _ (by omega) hmc X1.out hik).mono ?_
    rintro e w2 ⟨fa, fc, rfl, hO2, hb2⟩
    have F2 := Lib.hid hO2.rd
    have X2 := Lib.hid (X1.out.below (Nat.le_refl _) hb2)
    have B2 := Lib.hid (below_chain B1.out hb2)
    clear hb2 B1 X1
    clear hO2
    go_wp2_with fail
    refine (specWantFirst_any m gc _ X k _ (by omega) X2.out hik).mono ?_
    rintro e w3 ⟨sa, sc, rfl, hO3, hb3⟩
    have S3 := Lib.hid hO3.rd
    have X3 := Lib.hid (X2.out.below (Nat.le_refl _) hb3)
    have F3 := Lib.hid (F2.out.below (Nat.le_refl _) hb3)
    have B3 := Lib.hid (below_chain B2.out hb3)
    clear hb3 B2 X2 F2
    clear hO3
    by_cases h : WantK m X k
    · have K1 := Lib.hid (tt_of h)
      have K2 := Lib.hid (firstN_yes h)
      have hP := best_perm h.1 k.toNat
      obtain ⟨D, hD⟩ : ∃ D : Nat → Int, D = nth (bestL m X k.toNat) := ⟨_, rfl⟩
      obtain ⟨z, hz⟩ : ∃ z, z = movedN D m := ⟨_, rfl⟩
      have K3 := Lib.hid (show mostA m X k = (z : Nat) by rw [hz, hD]; exact mostA_yes h)
      have PD := Lib.hid (show ∀ i, i < m → 0 ≤ D i ∧ D i < m by rw [hD]; exact hP.2.1.1)
      have PW := Lib.hid (show ∀ i, i < m → D i = i ∨ WantsB X i (D i).toNat = true by rw [hD]; exact hP.2.2)
      have PX := Lib.hid h.1.2
      have PS := Lib.hid (show setN D m = 2 ^ m - 1 by rw [hD]; exact seen_all hP.2.1)
      have HZ := Lib.hid hz.symm
      have hzm : z ≤ m := by rw [hz]; exact movedN_le D m
      have SM := Lib.hid (tt_of (show SameB m m D D from ⟨rfl, fun _ _ => rfl⟩))
      rw [K2.out, ← hD] at F3 S3
      rw [K1.out, K2.out]
      clear h hP hD hz
      go_wp2_with fail
      refine (sameInts_any m m fc sc _ _ _ _ _ (by omega) (by omega) F3.out S3.out).mono ?_
      rintro e w4 ⟨rfl, q4, rfl⟩
      rw [SM.out]
      have X4 := Lib.hid (X3.out.drewN q4)
      have F4 := Lib.hid (F3.out.drewN q4)
      have S4 := Lib.hid (S3.out.drewN q4)
      have B4 := Lib.hid (below_chain B3.out (below_drewN (Below.refl _ _) q4))
      clear B3 X3 F3 S3
      clear S4
      go_wp2_with fail
      refine (wantMost_all m gc _ X k _ (by omega) X4.out hik).mono ?_
      rintro e w5 ⟨rfl, hb5⟩
      rw [K3.out]
      rw [K1.out]
      have X5 := Lib.hid (X4.out.below (Nat.le_refl _) hb5)
      have F5 := Lib.hid (F4.out.below (Nat.le_refl _) hb5)
      have B5 := Lib.hid (below_chain B4.out hb5)
      clear hb5 B4 X4 F4
      go_wp2_with fail
      go_loopw [11, 12, 13] (fun sn mv s wi => ∃ i : Nat, i ≤ m ∧ s = .int .i64 i ∧ sn = .int .i64 (setN D i : Nat) ∧ mv = .int .i64 (movedN D i : Nat) ∧ ∃ q, wi = w5.drewN q) (fun _ _ s _ => m - (intOf s).toNat)
      case atStart => exact ⟨0, Nat.zero_le _, rfl, rfl, rfl, 0, rfl⟩
      case round =>
        obtain ⟨i, hi, rfl, rfl, rfl, q0, rfl⟩ := hrel
        have hSl := setN_lt (C := D) (n := m) (k := i) fun j hj => PD.out j (by omega)
        have hS6 : setN D i < 64 := Nat.lt_of_lt_of_le hSl (show 2 ^ m ≤ 2 ^ 6 from Nat.pow_le_pow_right (by omega) hm6)
        have hMi := movedN_le D i
        by_cases hlt : i < m
        · obtain ⟨S, hS⟩ : ∃ S, S = setN D i := ⟨_, rfl⟩
          obtain ⟨M, hM⟩ : ∃ M, M = movedN D i := ⟨_, rfl⟩
          obtain ⟨x, hx⟩ := Int.eq_ofNat_of_zero_le (PD.out i hlt).1
          have hxm : x < m := by have := (PD.out i hlt).2; omega
          have hxt : (D i).toNat = x := by omega
          have hn1 := Lib.hid (show setN D (i + 1) = S ||| 2 ^ x by rw [hS, ← hxt]; rfl)
          have hn2 := Lib.hid (show movedN D (i + 1) = M + if D i = i then 0 else 1 by rw [hM]; rfl)
          have hPW := PW.out i hlt
          rw [← hS] at hS6 ⊢
          rw [← hM] at hMi ⊢
          have hput := bit_put S x (by omega) (by omega)
          obtain ⟨S', hS'⟩ : ∃ S', S' = S ||| 2 ^ x := ⟨_, rfl⟩
          rw [← hS'] at hput hn1
          obtain ⟨bf, of, hga, hcf⟩ := F5.out i hlt
          subst hga
          rw [hx] at hcf hPW hn2
          obtain ⟨bx, ox, hgb, hcx⟩ := X5.out i hlt
          cases hgb
          simp only [Nat.zero_add] at hcx
          obtain ⟨y, hy⟩ := Int.eq_ofNat_of_zero_le (PX.out i hlt).1
          have hym : y < 2 ^ m := by have := (PX.out i hlt).2.1; omega
          have hy6 : y < 64 := Nat.lt_of_lt_of_le hym (show 2 ^ m ≤ 2 ^ 6 from Nat.pow_le_pow_right (by omega) hm6)
          rw [hy] at hcx
          have hWB : WantsB X i x = y.testBit x := by unfold WantsB; rw [hy]; rfl
          have i2 : (i : Int) < (m : Int) := by omega
          clear hSl hS' hS hM hxt hy hym hx
          by_cases hxi : x = i
          · have hne : ((x : Int) != (i : Int)) = false := by simp; omega
            have hn3 := Lib.hid (show movedN D (i + 1) = M by rw [hn2.out, if_pos (by omega)]; rfl)
            clear hn2 hPW hWB
            clear hxi
            go_wp2_with fail
            go_roundw
            case rel => exact ⟨i + 1, by omega, by go_num, by rw [hn1.out], by rw [hn3.out], q0, rfl⟩
            case measure => simp [intOf]; omega
          · have hne : ((x : Int) != (i : Int)) = true := by simp; omega
            have hn3 := Lib.hid (show movedN D (i + 1) = M + 1 by rw [hn2.out, if_neg (by omega)])
            have hyb : y.testBit x = true := by
              rw [← hWB]
              rcases hPW with e | e
              · exact absurd e (by omega)
              · exact e
            have hh := bit_hasnt y x (by omega)
            rw [hyb] at hh
            clear hn2 hPW hWB hyb hxi
            go_wp2
            go_quiet (fail)
            go_wp2
            go_roundw
            case rel => exact ⟨i + 1, by omega, by go_num, by rw [hn1.out], by rw [hn3.out]; go_num, _, rfl⟩
            case measure => simp [intOf]; omega
        · obtain rfl : m = i := by omega
          rw [PS.out, HZ.out]
          obtain ⟨Z, hZ⟩ : ∃ Z, Z = 2 ^ m := ⟨_, rfl⟩
          have hZ1 : 1 ≤ Z := by rw [hZ]; exact Nat.two_pow_pos m
          have hp6 : (2 : Nat) ^ m ≤ 2 ^ 6 := Nat.pow_le_pow_right (by omega) hm6
          have hZ6 : Z ≤ 64 := by rw [hZ]; exact hp6
          have hsh : wrap64 (2 ^ min m 64) = (Z : Int) := by rw [hZ, show min m 64 = m by omega]; exact wrap_pow (show m < 62 by omega)
          have hsh2 : wrap64 (2 ^ m) = (Z : Int) := by rw [hZ]; exact wrap_pow (show m < 62 by omega)
          rw [← hZ, cast_pred hZ1]
          clear hZ hp6 hSl hS6 hMi PS
          have hsb : wrap64 ((Z : Int) - 1) = (Z : Int) - 1 := IntWalk.wrap64_in _ (by omega)
          go_wp2_with fail
          go_ret
          exact ⟨rfl, below_drewN B5.out q0⟩
    · have K1 := Lib.hid (tt_no h)
      have K2 := Lib.hid (firstN_no h)
      have SM := Lib.hid (tt_of (show SameB 0 0 (nth (bestL m X k.toNat)) (nth (bestL m X k.toNat)) from ⟨rfl, fun _ _ => rfl⟩))
      rw [K2.out] at F3 S3 ⊢
      rw [K1.out]
      clear h
      go_wp2_with fail
      refine (sameInts_any 0 0 fc sc _ _ _ _ _ (by omega) (by omega) F3.out S3.out).mono ?_
      rintro e w4 ⟨rfl, q4, rfl⟩
      rw [SM.out]
      have F4 := Lib.hid (F3.out.drewN q4)
      have S4 := Lib.hid (S3.out.drewN q4)
      clear F3 S3 X3
      go_wp2_with fail
      refine (sameInts_any 0 0 fc sc _ _ _ _ _ (by omega) (by omega) F4.out S4.out).mono ?_
      rintro e w5 ⟨rfl, q5, rfl⟩
      rw [SM.out]
      clear F4 S4
      go_wp2_with fail
      go_ret
      exact ⟨rfl, below_chain B3.out (below_drewN (Below.refl _ _) (q4 + q5))⟩
  · have hd : 1048576 < n := by omega
    clear hb hab
    go_enter Try.func7, Try.ntmps7
    go_wp2
    go_ret
    exact ⟨rfl, Below.refl _ _⟩
end Go.Proofs.Yteigenmagifplaa
