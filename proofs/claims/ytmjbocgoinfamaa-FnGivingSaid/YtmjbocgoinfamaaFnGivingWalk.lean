/- The walk of the law FnGiving: it answers true at every code that can be read. -/
import Derived.Test.YtmjbocgoinfamaaDrawGiving
import Derived.Test.YtmjbocgoinfamaaHouseGiving
namespace Go.Proofs.Ytmjbocgoinfamaa
set_option linter.unusedVariables false
set_option linter.unusedSimpArgs false
open Go.RowKit

set_option maxHeartbeats 3200000 in
theorem fnGiving_walk (n c : Nat) (a : Option Addr) (B : Nat → Nat) (w : World) (hc : n ≤ c) (hb : RdB w a n B) (hab : 0 < n → ∀ b o, a = some ⟨b, o, none⟩ → b < w.heap.size) :
    Calls Try.prog 11 #[.slice a n c] w fun e w' => e = .returned (.bool true) ∧ Below w.heap.size w w' := by
  by_cases hfit : n ≤ 1048576
  · have hd : ¬ (1048576 < n) := by omega
    have HD := Lib.hid (drawHouseGiving_any n c a B w hfit hc hb hab)
    clear hb hab
    go_enter Try.func11, Try.ntmps11
    go_wp2_with fail
    refine HD.out.mono ?_
    rintro e w1 ⟨z, g, M, cap, X, rfl, ⟨⟨hz1, hz2⟩, hcap, hM6⟩, hX, hb1⟩
    have HX := Lib.hid hX
    have B1 := Lib.hid hb1
    clear hX hb1 HD
    by_cases hg : GivingOk z M X
    · have K1 := Lib.hid (tt_of hg)
      have hM2 := hg.1.1
      have HDI := Lib.hid hg.2.2
      obtain rfl : (M : Int) = z := hg.2.1
      clear hg
      go_wp2_with fail
      refine (houseGiving_any M M cap _ X _ ⟨by omega, by omega⟩ (by omega) hcap HX.out).mono ?_
      rintro e w2 ⟨rfl, hb2⟩
      rw [K1.out]
      have B2 := Lib.hid hb2
      clear hb2
      go_wp2_with fail
      refine (specHouseGiving_any M M cap _ X _ ⟨by omega, by omega⟩ (by omega) (HX.out.below (Nat.le_refl _) B2.out)).mono ?_
      rintro e w3 ⟨rfl, hb3⟩
      rw [K1.out]
      have B3 := Lib.hid (below_chain B2.out hb3)
      have RX := Lib.hid (HX.out.below (Nat.le_refl _) B3.out)
      clear hb3
      go_wp2
      go_loop [7, 8, 9] (fun s _ _ => ∃ i : Nat, i ≤ M ∧ s = .int .i64 i) (fun s _ _ => M - (intOf s).toNat)
      case atStart => exact ⟨0, Nat.zero_le _, rfl⟩
      case round =>
        obtain ⟨i, hi, rfl⟩ := hrel
        by_cases hilt : i < M
        · go_wp2
          go_loop [8, 9] (fun b s => ∃ k : Nat, k ≤ M ∧ s = .int .i64 k ∧ ∃ bb : Bool, b = .bool bb ∧ (bb = true ↔ ∃ j, j < k ∧ X j = i)) (fun _ s => M - (intOf s).toNat)
          case atStart => exact ⟨0, Nat.zero_le _, rfl, false, rfl, by simp⟩
          case round =>
            obtain ⟨k, hk, rfl, bb, rfl, hbb⟩ := hrel
            have HBB := Lib.hid hbb
            clear hbb
            by_cases hklt : k < M
            · obtain ⟨b', o', he, hck⟩ := RX.out k hklt
              simp only [Option.some.injEq, Addr.mk.injEq, and_true] at he
              obtain ⟨rfl, rfl⟩ := he
              rw [Nat.zero_add] at hck
              cases bb with
              | true =>
                go_wp2
                go_round
                case rel => exact ⟨k + 1, by omega, by go_num, true, rfl, ⟨fun _ => by obtain ⟨j, hj, e⟩ := HBB.out.1 rfl; exact ⟨j, by omega, e⟩, fun _ => rfl⟩⟩
                case measure => simp [intOf]; omega
              | false =>
                by_cases hxi : X k = i
                · have hd1 : (X k == (i : Int)) = true := by simpa using hxi
                  have HXI := Lib.hid hxi
                  clear hxi
                  go_wp2
                  go_round
                  case rel => exact ⟨k + 1, by omega, by go_num, true, rfl, ⟨fun _ => ⟨k, by omega, HXI.out⟩, fun _ => rfl⟩⟩
                  case measure => simp [intOf]; omega
                · have hd1 : (X k == (i : Int)) = false := by simpa using hxi
                  have HXI := Lib.hid hxi
                  clear hxi
                  go_wp2
                  go_round
                  case rel =>
                    refine ⟨k + 1, by omega, by go_num, false, rfl, ⟨(fun h => by cases h), fun ⟨j, hj, e⟩ => ?_⟩⟩
                    by_cases e' : j = k
                    · subst e'; exact absurd e HXI.out
                    · exact HBB.out.2 ⟨j, by omega, e⟩
                  case measure => simp [intOf]; omega
            · obtain rfl : k = M := by omega
              obtain rfl : bb = true := HBB.out.2 (HDI.out.all hilt)
              go_wp2
              go_round
              case rel => exact ⟨i + 1, by omega, by go_num⟩
              case measure => simp [intOf]; omega
        · obtain rfl : i = M := by omega
          go_wp2
          go_ret
          exact ⟨by first | rfl | simp, below_chain B1.out B3.out⟩
    · have K1 := Lib.hid (tt_no hg)
      clear hg
      go_wp2_with fail
      refine (houseGiving_any z M cap _ X _ ⟨by omega, by omega⟩ (by omega) hcap HX.out).mono ?_
      rintro e w2 ⟨rfl, hb2⟩
      rw [K1.out]
      have B2 := Lib.hid hb2
      clear hb2
      go_wp2_with fail
      refine (specHouseGiving_any z M cap _ X _ ⟨by omega, by omega⟩ (by omega) (HX.out.below (Nat.le_refl _) B2.out)).mono ?_
      rintro e w3 ⟨rfl, hb3⟩
      rw [K1.out]
      have B3 := Lib.hid (below_chain B2.out hb3)
      clear hb3
      go_wp2
      go_ret
      exact ⟨by first | rfl | simp, below_chain B1.out B3.out⟩
  · have hd : 1048576 < n := by omega
    clear hb hab
    go_enter Try.func11, Try.ntmps11
    go_wp2_with fail
    go_ret
    exact ⟨rfl, Below.refl _ _⟩
end Go.Proofs.Ytmjbocgoinfamaa
