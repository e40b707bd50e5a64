/- The model's l2Divisor and l2Least. -/
import Derived.Test.YtimkgplabbcklaaProg
import Derived.Test.YtimkgplabbcklaaMem
import Derived.Test.YtimkgplabbcklaaInfoInts
namespace Go.Proofs.Ytimkgplabbcklaa
set_option linter.unusedVariables false
open Go.RowKit

set_option maxHeartbeats 800000 in
theorem l2Divisor_any (x y : Nat) (w : World) (hx : x ≤ 1000000000000000000) (hy : y ≤ 1000000000000000000) :
    Calls Try.prog 35 #[.int .i64 x, .int .i64 y] w fun e w' => e = .returned (.int .i64 (Nat.gcd x y : Nat)) ∧ w = w' := by
  obtain ⟨g, hg⟩ : ∃ g, g = Nat.gcd x y := ⟨_, rfl⟩
  rw [← hg]
  have QG := Lib.hid hg
  clear hg
  go_enter Try.func35, Try.ntmps35
  go_wp2
  go_loop [0, 1, 5] (fun p q _ => ∃ a b : Nat, p = .int .i64 a ∧ q = .int .i64 b ∧ Nat.gcd a b = g ∧ a ≤ 1000000000000000000 ∧ b ≤ 1000000000000000000) (fun _ q _ => (intOf q).toNat)
  case atStart => exact ⟨x, y, rfl, rfl, QG.out.symm, hx, hy⟩
  case round =>
    obtain ⟨a, b, rfl, rfl, he, ha, hb⟩ := hrel
    have HE := Lib.hid he
    clear he
    by_cases hlt : 0 < b
    · go_wp2
      go_round
      case rel =>
        refine ⟨b, a % b, rfl, by rw [Int.natCast_emod], ?_, hb, ?_⟩
        · rw [gcd_turn]; exact HE.out
        · have := Nat.mod_lt a hlt; omega
      case measure =>
        show ((a : Int) % (b : Int)).toNat < ((b : Nat) : Int).toNat
        rw [← Int.natCast_emod]
        exact Nat.mod_lt a hlt
    · obtain rfl : b = 0 := by omega
      have HG := Lib.hid (show a = g by rw [← HE.out]; exact (Nat.gcd_zero_right a).symm)
      go_wp2
      go_ret
      exact ⟨by rw [← HG.out]; rfl, rfl⟩

set_option maxHeartbeats 1600000 in
theorem l2Least_any6 (m c : Nat) (a : Option Addr) (X : Nat → Int) (w : World) (hm1 : 1 ≤ m) (hm : m ≤ 6) (ha : Rd w a m X) (hX : ∀ k, k < m → 1 ≤ X k ∧ X k ≤ 1000000000000000000) :
    Calls Try.prog 36 #[.slice a m c] w (RetList 3 m (leastF X m) w) := by
  obtain ⟨i0, hi, hz0, hz1, hz2⟩ := info_parts Try.infoInt
  have HA := Lib.hid ha
  have HX := Lib.hid hX
  clear ha hX
  go_enter Try.func36, Try.ntmps36
  go_wp2
  go_loop [3, 4] (fun d s => ∃ k : Nat, k ≤ m ∧ s = .int .i64 k ∧ d = .int .i64 (gcdT X k : Nat)) (fun _ s => m - (intOf s).toNat)
  case atStart => exact ⟨0, Nat.zero_le _, rfl, rfl⟩
  case round =>
    obtain ⟨k, hk, rfl, rfl⟩ := hrel
    have hle := gcdT_le (M := 1000000000000000000) k (fun j hj => HX.out j (by omega))
    obtain ⟨D, hD⟩ : ∃ D, D = gcdT X k := ⟨_, rfl⟩
    rw [← hD] at hle ⊢
    have QD := Lib.hid hD
    clear hD
    by_cases hlt : k < m
    · obtain ⟨ba, oa, rfl, hca⟩ := HA.out k hlt
      obtain ⟨x, hx⟩ := Int.eq_ofNat_of_zero_le (show 0 ≤ X k by have := (HX.out k hlt).1; omega)
      have hx18 : x ≤ 1000000000000000000 := by have := (HX.out k hlt).2; omega
      rw [hx] at hca
      have QX := Lib.hid hx
      clear hx
      go_wp2_with (go_at_call 35; refine (l2Divisor_any x D _ hx18 hle).mono ?_; rintro e w' ⟨rfl, rfl⟩)
      go_round
      case rel =>
        refine ⟨k + 1, by omega, by go_num, ?_⟩
        show Value.int .i64 _ = Value.int .i64 ((Nat.gcd (gcdT X k) (X k).toNat : Nat) : Int)
        rw [QX.out, ← QD.out, Nat.gcd_comm]
        rfl
      case measure => simp [intOf]; omega
    · obtain rfl : k = m := by omega
      have hpos := gcdT_pos (X := X) hm1 (fun j hj => (HX.out j hj).1)
      rw [← QD.out] at hpos
      go_wp2
      have R0 := Lib.hid (show (w.alloc (.cells #[] 3)).ownsRow w.heap.size 3 1 (.slice (some ⟨w.heap.size, 0, none⟩) 0 0) 0 (cellsL 0 (leastF X k)) from World.ownsRow_made w #[] 0 (Nat.le_refl _) (Nat.zero_le _) (by simp))
      go_loopw [5, 6] (fun row s wi => ∃ j : Nat, j ≤ k ∧ s = .int .i64 j ∧ ∃ rv, rv = row ∧ wi.ownsRow w.heap.size 3 1 rv j (cellsL j (leastF X k)) ∧ Below w.heap.size w wi) (fun _ s _ => k - (intOf s).toNat)
      case atStart => exact ⟨0, Nat.zero_le _, rfl, _, rfl, R0.out, below_alloc (Below.refl _ _) _⟩
      case round =>
        obtain ⟨j, hj, rfl, rv, rfl, hown, hb⟩ := hrel
        clear R0
        by_cases hjlt : j < k
        · obtain ⟨ba, oa, rfl, hca⟩ := (HA.out.below (Nat.le_refl _) hb) j hjlt
          have hx1 := (HX.out j hjlt).1
          have hx2 := (HX.out j hjlt).2
          have hq1 : 0 ≤ X j / (D : Int) := Int.ediv_nonneg (by omega) (by omega)
          have hq2 : X j / (D : Int) ≤ X j := Int.ediv_le_self _ (by omega)
          have HO := Lib.hid hown
          have Hb := Lib.hid hb
          have hsz := hb.size
          clear hown hb
          go_wp2_with (at_builtin; refine wpList_append_lies _ (by rfl) (.tmp 26) (.tmp 33) 23 (by rfl) w.heap.size 3 i0 (.int .i64 0) 1 8 Try.underlying23 hi hz0 hz1 hz2 (by rfl) (by decide) rv j (cellsL j (leastF X k)) (by rfl) (HO.out.alloc _) ⟨_, 0, none⟩ 1 1 [.int .i64 (X j / (D : Int))] (by rfl) (by rfl) (news_one (by simp)) (by simp [Value.oneCell']) (by omega) (by unfold maxLen; omega) (by omega) (by simp; omega) _ rfl ?_; intro g2 cap2 w2 hown2 hgrow2 hat2 hlt2; have N2 := Lib.hid hown2; have G2 := Lib.hid hgrow2; clear hown2 hgrow2 hat2)
          go_roundw
          case rel =>
            refine ⟨j + 1, by omega, by go_num, _, rfl, ?_, (Hb.out.alloc hsz _).grown G2.out (by simp; omega) (fun k hk => (HO.out.lt k hk).1)⟩
            have := N2.out
            rw [cellsL_snoc] at this
            rwa [cellsL_congr (Y := leastF X k) (fun l hl => by
              by_cases e : l < j
              · rw [if_pos e]
              · rw [if_neg e]; have : l = j := by omega
                subst this; rw [QD.out]; rfl)] at this
          case measure => simp [intOf]; omega
        · obtain rfl : j = k := by omega
          obtain ⟨gr, cr, rfl⟩ := owns_form hown (by omega)
          have HO := Lib.hid hown
          have Hb := Lib.hid hb
          clear hown hb
          go_wp2
          go_ret
          exact ⟨_, _, rfl, HO.out, Hb.out⟩
theorem l2Least_any (m c : Nat) (a : Option Addr) (X : Nat → Int) (w : World) (hm1 : 1 ≤ m) (hm : m ≤ 5) (ha : Rd w a m X) (hX : ∀ k, k < m → 1 ≤ X k ∧ X k ≤ 1000000000000000000) :
    Calls Try.prog 36 #[.slice a m c] w (RetList 3 m (leastF X m) w) := l2Least_any6 m c a X w hm1 (by omega) ha hX
end Go.Proofs.Ytimkgplabbcklaa
