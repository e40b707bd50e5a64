/- The model's l9Sum. -/
import Derived.Test.YtimkgplabbcklaaL2Least
import Derived.Test.YtimkgplabbcklaaOddsModel
namespace Go.Proofs.Ytimkgplabbcklaa
set_option linter.unusedVariables false
set_option linter.unusedSimpArgs false
open Go.RowKit

set_option maxHeartbeats 1600000 in
theorem l9Sum_any (m c : Nat) (a : Option Addr) (X : Nat → Int) (w : World) (hm : m ≤ 6) (ha : Rd w a m X) (hX : ∀ j, j < m → 1 ≤ X j ∧ X j ≤ 20) :
    Calls Try.prog 31 #[.slice a m c] w fun e w' => e = .returned (.tuple #[.int .i64 (topN (pieceS X m) : Nat), .int .i64 (botN (pieceS X m) : Nat)]) ∧ w = w' := by
  have HX := Lib.hid hX
  clear hX
  go_enter Try.func31, Try.ntmps31
  go_wp2
  go_loop [4, 5, 6] (fun t b i => ∃ k : Nat, k ≤ m ∧ i = .int .i64 k ∧ t = .int .i64 (topN (pieceS X k) : Nat) ∧ b = .int .i64 (botN (pieceS X k) : Nat)) (fun _ _ i => m - (intOf i).toNat)
  case atStart => exact ⟨0, Nat.zero_le _, rfl, by rw [show pieceS X 0 = 0 from rfl, top_zero]; rfl, by rw [show pieceS X 0 = 0 from rfl, bot_zero]; rfl⟩
  case round =>
    obtain ⟨k, hk, rfl, rfl, rfl⟩ := hrel
    by_cases hlt : k < m
    · obtain ⟨ba, oa, rfl, hca⟩ := ha k hlt
      clear ha
      have hx := HX.out k hlt
      have hS := pieceS_le (X := X) (k := k) fun j hj => HX.out j (by omega)
      have hN := Lib.hid (next_terms (S := pieceS X k) hx)
      have ht0 := top_le (pieceS X k)
      have hb0 := bot_le (pieceS X k)
      have hb1 := bot_pos (pieceS X k)
      have hSn := Lib.hid (show pieceS X (k + 1) = pieceS X k + pieceN (X k) from rfl)
      obtain ⟨t, ht⟩ : ∃ t, t = topN (pieceS X k) := ⟨_, rfl⟩
      obtain ⟨b, hb⟩ : ∃ b, b = botN (pieceS X k) := ⟨_, rfl⟩
      rw [← ht, ← hb] at hN
      rw [← ht] at ht0 ⊢
      rw [← hb] at hb0 hb1 ⊢
      have ht1 : t ≤ 1396755360 := by
        have h6 : k * LC ≤ 6 * LC := Nat.mul_le_mul_right _ (by omega)
        have : 6 * LC = 1396755360 := by decide
        omega
      have hb2 : b ≤ 232792560 := by have : LC = 232792560 := rfl; omega
      obtain ⟨x, hxx⟩ := Int.eq_ofNat_of_zero_le (show 0 ≤ X k by omega)
      rw [hxx] at hca hx hN hSn
      rw [Int.toNat_natCast] at hN
      have QX := Lib.hid hxx
      clear ht hb ht0 hb0 hS hxx
      have hp1 : 0 ≤ (t : Int) * (x : Int) := Int.mul_nonneg (by omega) (by omega)
      have hp2 : (t : Int) * (x : Int) ≤ 1396755360 * 20 := Int.mul_le_mul (by omega) (by omega) (by omega) (by omega)
      have hr1 : 0 ≤ (b : Int) * (x : Int) := Int.mul_nonneg (by omega) (by omega)
      have hr2 : (b : Int) * (x : Int) ≤ 232792560 * 20 := Int.mul_le_mul (by omega) (by omega) (by omega) (by omega)
      obtain ⟨u, hu⟩ : ∃ u : Nat, u = t * x + b := ⟨_, rfl⟩
      obtain ⟨l, hl⟩ : ∃ l : Nat, l = b * x := ⟨_, rfl⟩
      rw [← hu, ← hl] at hN
      have hu' : (t : Int) * (x : Int) + (b : Int) = (u : Int) := by rw [hu, Int.natCast_add, Int.natCast_mul]
      have hl' : (b : Int) * (x : Int) = (l : Int) := by rw [hl, Int.natCast_mul]
      have hl0 : 0 < l := by rw [hl]; exact Nat.mul_pos hb1 (by omega)
      obtain ⟨g, hg⟩ : ∃ g, g = Nat.gcd u l := ⟨_, rfl⟩
      have hgp : 0 < g := by rw [hg]; exact Nat.gcd_pos_of_pos_right _ hl0
      rw [← hg] at hN
      have QG := Lib.hid hg
      clear hu hl hg
      have hu6 : u ≤ 28167899760 := by omega
      have hl6 : l ≤ 4655851200 := by omega
      have hq1 : 0 ≤ (u : Int) / (g : Int) := Int.ediv_nonneg (by omega) (by omega)
      have hq2 : (u : Int) / (g : Int) ≤ u := Int.ediv_le_self _ (by omega)
      have hq3 : 0 ≤ (l : Int) / (g : Int) := Int.ediv_nonneg (by omega) (by omega)
      have hq4 : (l : Int) / (g : Int) ≤ l := Int.ediv_le_self _ (by omega)
      go_wp2_with (go_at_call 35; (try rw [hu']); (try rw [hl']); refine (l2Divisor_any u l _ (by omega) (by omega)).mono ?_; rintro e w' ⟨rfl, rfl⟩; rw [← QG.out])
      go_round
      case rel =>
        refine ⟨k + 1, by omega, by go_num, ?_, ?_⟩
        · rw [hSn.out, ← hN.out.1, Int.natCast_ediv]
        · rw [hSn.out, ← hN.out.2, Int.natCast_ediv]
      case measure => simp [intOf]; omega
    · obtain rfl : k = m := by omega
      clear ha
      obtain ⟨t, ht⟩ : ∃ t, t = topN (pieceS X k) := ⟨_, rfl⟩
      obtain ⟨b, hb⟩ : ∃ b, b = botN (pieceS X k) := ⟨_, rfl⟩
      rw [← ht, ← hb]
      have QT := Lib.hid ht
      have QB := Lib.hid hb
      clear ht hb
      go_wp2
      go_ret2
      exact ⟨by rw [← QT.out, ← QB.out]; rfl, rfl⟩
end Go.Proofs.Ytimkgplabbcklaa
