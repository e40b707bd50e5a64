/- The program's divisor and lowest. -/
import Derived.Test.YtimkgplabbcklaaProg
import Derived.Test.YtimkgplabbcklaaMem
import Derived.Test.YtimkgplabbcklaaLists
import Derived.Test.YtimkgplabbcklaaInfoInts
import Derived.Test.YtimkgplabbcklaaClone
import Derived.IntWalk
namespace Go.Proofs.Ytimkgplabbcklaa
set_option linter.unusedVariables false
open Go.RowKit

set_option maxHeartbeats 1600000 in
theorem divisor_any6 (m c : Nat) (a : Option Addr) (X : Nat → Int) (w : World) (hm : m ≤ 6) (ha : Rd w a m X) (hX : ∀ k, k < m → 1 ≤ X k ∧ X k ≤ 1000000000000000000) :
    Calls Try.prog 53 #[.slice a m c] w fun e w' => e = .returned (.int .i64 (gcdT X m : Nat)) ∧ ∃ q, w' = w.drewN q := by
  have HA := Lib.hid ha
  have HX := Lib.hid hX
  clear ha hX
  go_enter Try.func53, Try.ntmps53
  go_wp2
  go_loopw [3, 5, 8] (fun d _ s wi => ∃ k : Nat, k ≤ m ∧ s = .int .i64 k ∧ d = .int .i64 (gcdT X k : Nat) ∧ ∃ q, wi = w.drewN q) (fun _ _ s _ => m - (intOf s).toNat)
  case atStart => exact ⟨0, Nat.zero_le _, rfl, rfl, 0, rfl⟩
  case round =>
    obtain ⟨k, hk, rfl, rfl, q, rfl⟩ := hrel
    have hle := gcdT_le (M := 1000000000000000000) k (fun j hj => HX.out j (by omega))
    obtain ⟨D, hD⟩ : ∃ D, D = gcdT X k := ⟨_, rfl⟩
    rw [← hD] at hle ⊢
    have QD := Lib.hid hD
    clear hD
    by_cases hlt : k < m
    · obtain ⟨ba, oa, rfl, hca⟩ := HA.out k hlt
      obtain ⟨x, hx⟩ := Int.eq_ofNat_of_zero_le (show 0 ≤ X k by have := (HX.out k hlt).1; omega)
      have hx18 : x ≤ 1000000000000000000 := by have := (HX.out k hlt).2; omega
      rw [hx] at hca
      have QX := Lib.hid hx
      have QG := Lib.hid (show gcdT X (k + 1) = Nat.gcd D x by show Nat.gcd (gcdT X k) (X k).toNat = _; rw [hx, ← QD.out]; rfl)
      clear hx
      go_wp2
      go_loopw [3, 5] (fun d y wi => ∃ a b : Nat, d = .int .i64 a ∧ y = .int .i64 b ∧ Nat.gcd a b = Nat.gcd D x ∧ a ≤ 1000000000000000000 ∧ b ≤ 1000000000000000000 ∧ ∃ q, wi = w.drewN q) (fun _ y _ => (intOf y).toNat)
      case atStart => exact ⟨D, x, rfl, rfl, rfl, hle, hx18, _, rfl⟩
      case round =>
        obtain ⟨a, b, rfl, rfl, he, ha, hb, q, rfl⟩ := hrel
        have HE := Lib.hid he
        clear he
        by_cases hb0 : 0 < b
        · have hd : ((b : Int) != 0) = true := by simp; omega
          have hml := Nat.mod_lt a hb0
          have hz : ((b : Int) == 0) = false := by simp; omega
          have hz2 : ¬ (b : Int) = 0 := by omega
          have hm1 : (a : Int).tmod (b : Int) = ((a % b : Nat) : Int) := by rw [Int.tmod_eq_emod_of_nonneg (by omega), Int.natCast_emod]
          have hm2 : IntKind.i64.wrap ((a % b : Nat) : Int) = ((a % b : Nat) : Int) := IntWalk.i64_in _ (by omega)
          have HM := Lib.hid hml
          clear hml
          go_wp2
          go_quiet (fail)
          go_wp2
          clear hm1 hm2 hz hz2
          go_roundw
          case rel =>
            refine ⟨b, a % b, rfl, ?_, ?_, hb, ?_, ?_⟩
            · first | rfl | (rw [Int.natCast_emod])
            · rw [gcd_turn]; exact HE.out
            · have := HM.out; omega
            · first | exact ⟨_, rfl⟩ | exact ⟨q + nq, by rw [World.drewN_drewN]⟩
          case measure =>
            first
              | exact HM.out
              | (show ((a : Int) % (b : Int)).toNat < ((b : Nat) : Int).toNat; rw [← Int.natCast_emod]; exact HM.out)
        · obtain rfl : b = 0 := by omega
          have hd : (((0 : Nat) : Int) != 0) = false := by decide
          have HG := Lib.hid (show a = gcdT X (k + 1) by rw [QG.out, ← HE.out]; exact (Nat.gcd_zero_right a).symm)
          clear hd
          go_wp2
          go_roundw
          case rel =>
            exact ⟨k + 1, by omega, by go_num, by rw [← HG.out], _, rfl⟩
          case measure => simp [intOf]; omega
    · obtain rfl : k = m := by omega
      go_wp2
      go_ret
      exact ⟨by rw [← QD.out]; rfl, _, rfl⟩

theorem divisor_any (m c : Nat) (a : Option Addr) (X : Nat → Int) (w : World) (hm : m ≤ 5) (ha : Rd w a m X) (hX : ∀ k, k < m → 1 ≤ X k ∧ X k ≤ 1000000000000000000) :
    Calls Try.prog 53 #[.slice a m c] w fun e w' => e = .returned (.int .i64 (gcdT X m : Nat)) ∧ ∃ q, w' = w.drewN q := divisor_any6 m c a X w (by omega) ha hX

set_option maxHeartbeats 400000 in
theorem cloneM_any (m c : Nat) (a : Option Addr) (X : Nat → Int) (w : World) (hm1 : 1 ≤ m) (hm : m ≤ 1048576) (ha : Rd w a m X) :
    Calls Try.prog 55 #[.slice a m c] w (RetList 3 m X w) := by
  obtain ⟨ba, oa, rfl, hlt, hc0⟩ := ha.lt (show 0 < m by omega)
  obtain ⟨i0, hi, hz0, hz1, hz2⟩ := info_parts Try.infoInt
  have hnil := fun (w : World) (a : Option Addr) (n c n' c' : Nat) => Lib.run_eql_slice_nil (P := Try.prog) w 47 3 a n c n' c' Try.underlying47
  have HA := Lib.hid ha
  clear ha hc0
  go_enter Try.func55, Try.ntmps55
  go_wp2_with (at_builtin; refine wpList_append_grows _ (by rfl) (.tmp 5) (.tmp 6) 47 (by rfl) 3 i0 (.int .i64 0) 1 8 Try.underlying47 hi hz0 hz1 hz2 (by rfl) (by decide) _ 0 0 [] (by rfl) (fun h => by cases h) (by rfl) (fun _ _ j u h => absurd h (by simp)) ⟨ba, oa, none⟩ m c (cellsL m X) (by rfl) ((cellsL_length m X).trans (Nat.mul_one m).symm) (HA.out.news (by repeat (first | exact Below.refl _ _ | refine Below.drew ?_ | refine below_alloc ?_ _))) (cellsL_one m X) (by omega) (by unfold maxLen; omega) (by omega) ?_; intro v1 w1 hown0 hgrow1; simp only [Nat.zero_add, List.nil_append] at hown0)
  obtain ⟨h1, (⟨he, h0⟩ | ⟨g, cap, cur, rfl, hg, hr⟩)⟩ := hown0
  · omega
  · have hB : Below w.heap.size w w1 := (below_alloc (Below.refl w.heap.size w) _).grown hgrow1 (by simp) (fun k h => by cases h)
    go_ret
    exact ⟨g, cap, rfl, ⟨h1, .inr ⟨g, cap, cur, rfl, by simp at hg; omega, hr⟩⟩, hB⟩

set_option maxHeartbeats 1600000 in
theorem lowest_any6 (m c : Nat) (a : Option Addr) (X : Nat → Int) (w : World) (hm1 : 1 ≤ m) (hm : m ≤ 6) (ha : Rd w a m X) (hX : ∀ k, k < m → 1 ≤ X k ∧ X k ≤ 1000000000000000000) :
    Calls Try.prog 51 #[.slice a m c] w (RetI m (leastF X m) w) := by
  have HA := Lib.hid ha
  have HX := Lib.hid hX
  have hpos := gcdT_pos (X := X) hm1 (fun j hj => (hX j hj).1)
  have hle := gcdT_le (M := 1000000000000000000) m hX
  have HL := Lib.hid (show ∀ j, X j / ((gcdT X m : Nat) : Int) = leastF X m j from fun j => rfl)
  obtain ⟨D, hD⟩ : ∃ D, D = gcdT X m := ⟨_, rfl⟩
  rw [← hD] at hle hpos
  have QD := Lib.hid hD
  clear ha hX hD
  go_enter Try.func51, Try.ntmps51
  go_wp2_with (first
    | (go_at_call 53; refine (divisor_any6 m c a X _ hm HA.out HX.out).mono ?_; rintro e w1 ⟨rfl, q, rfl⟩; rw [← QD.out])
    | (go_at_call 55; refine (cloneM_any m c a X _ hm1 (by omega) (HA.out.drewN q)).mono ?_; rintro e w2 ⟨g, cap, rfl, hown, hb2⟩; have hgl := hown.lt g rfl; have hcap := (owns_cap hown).1; have HO := Lib.hid (OwnR.of_owns hown); have B2 := Lib.hid ((below_drewN (Below.refl w.heap.size w) q).trans hb2); clear hown hb2))
  have hg1 : w.heap.size ≤ g := hgl.1
  have hg2 := hgl.2
  clear hgl
  go_loopw [5, 12] (fun _ s wr => ∃ k : Nat, k ≤ m ∧ s = .int .i64 k ∧ OwnR wr g (some ⟨g, 0, none⟩) m (fun j => if j < k then leastF X m j else X j) ∧ wr.heap.size = w2.heap.size ∧ Below w.heap.size w wr) (fun _ s _ => m - (intOf s).toNat)
  case atStart => exact ⟨0, Nat.zero_le _, rfl, HO.out.congr (fun k _ => by rw [if_neg (Nat.not_lt_zero _)]), rfl, B2.out⟩
  case round =>
    obtain ⟨k, hk, rfl, hO, hsz, hB⟩ := hrel
    clear HO B2
    by_cases hlt : k < m
    · have hc := hO.at hlt
      rw [if_neg (Nat.lt_irrefl k)] at hc
      have hc1 := hc.1
      have hc2 := hc.2
      have hx1 := (HX.out k hlt).1
      have hx2 := (HX.out k hlt).2
      have hq1 : 0 ≤ X k / (D : Int) := Int.ediv_nonneg (by omega) (by omega)
      have hq2 : X k / (D : Int) ≤ X k := Int.ediv_le_self _ (by omega)
      have HO := Lib.hid hO
      have HB := Lib.hid hB
      have HS := Lib.hid hsz
      clear hO hB hsz hc
      go_wp2
      go_roundw
      case rel =>
        refine ⟨k + 1, by omega, by go_num, (HO.out.set hlt (X k / (D : Int))).congr (fun j hj => ?_), ?_, HB.out.setCell (by show w.heap.size ≤ g; omega) _⟩
        · by_cases e : j = k
          · subst e
            rw [if_pos rfl, if_pos (Nat.lt_succ_self _), ← HL.out j, QD.out]
          · rw [if_neg e]
            by_cases h : j < k
            · rw [if_pos h, if_pos (by omega)]
            · rw [if_neg h, if_neg (by omega)]
        · rw [← HS.out]; simp [World.setCell]
      case measure => simp [intOf]; omega
    · obtain rfl : k = m := by omega
      have HO := Lib.hid hO
      have HB := Lib.hid hB
      have HS := Lib.hid hsz
      clear hO hB hsz
      go_wp2
      go_ret
      exact ⟨_, _, rfl, ⟨hg1, by rw [HS.out]; exact hg2, hcap⟩, HO.out.congr (fun j hj => by rw [if_pos hj]), HB.out⟩
theorem lowest_any (m c : Nat) (a : Option Addr) (X : Nat → Int) (w : World) (hm1 : 1 ≤ m) (hm : m ≤ 5) (ha : Rd w a m X) (hX : ∀ k, k < m → 1 ≤ X k ∧ X k ≤ 1000000000000000000) :
    Calls Try.prog 51 #[.slice a m c] w (RetI m (leastF X m) w) := lowest_any6 m c a X w hm1 (by omega) ha hX

end Go.Proofs.Ytimkgplabbcklaa
