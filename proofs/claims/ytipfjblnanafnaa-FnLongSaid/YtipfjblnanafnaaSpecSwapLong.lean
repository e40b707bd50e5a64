/- The model's SwapLong. -/
import Derived.Test.YtipfjblnanafnaaEndsModel
import Derived.Test.YtipfjblnanafnaaL4Long
import Derived.Test.YtipfjblnanafnaaL3Givings
import Derived.Test.YtipfjblnanafnaaSpecHouseIn
namespace Go.Proofs.Ytipfjblnanafnaa
set_option linter.unusedVariables false
set_option linter.unusedSimpArgs false
open Go.RowKit

set_option maxHeartbeats 1600000 in
theorem specSwapLong_any (n c : Nat) (a : Option Addr) (A : Nat → Option Addr) (L C : Nat → Nat) (Z : Nat → Nat → Int) (w : World) (hn0 : n ≤ 1048576) (hL0 : ∀ r, r < n → L r ≤ 1048576) (ha0 : Tab w a n A L C Z) :
    Calls Try.prog 29 #[.slice a n c] w fun e w' => e = .returned (.tuple #[.int .i64 (mostN n L Z), .bool (tt (IsWishes n L Z))]) ∧ Below w.heap.size w w' := by
  have H := Lib.hid (specHouseIn_any n c a A L C Z w hn0 hL0 ha0)
  by_cases h1 : IsWishes n L Z
  · have T1 := Lib.hid (tt_of h1)
    have TN := Lib.hid (mostN_yes h1)
    have HW := Lib.hid h1
    have HA := Lib.hid ha0
    have hn2 := h1.1.1
    have hn5 := h1.1.2
    obtain ⟨LL, hLL⟩ : ∃ LL, LL = givs n n [] := ⟨_, rfl⟩
    have QL := Lib.hid hLL
    have hM0 := givsN_le hn5
    rw [← hLL] at hM0
    obtain ⟨M, hM2⟩ : ∃ M, M = LL.length := ⟨_, rfl⟩
    rw [← hM2] at hM0
    have QM := Lib.hid hM2
    have HX := Lib.hid (fun i => long_range h1 ((givs n n []).getD i []))
    clear h1 ha0 hL0 hLL hM2
    go_enter Try.func29, Try.ntmps29
    go_wp2_with (first
      | (go_at_call 47; refine H.out.mono ?_; rintro e w' ⟨rfl, rfl⟩; rw [T1.out])
      | (go_at_call 48; refine (l3GivingsAll_any n hn2 hn5 _ 0 _ (by simp)).mono ?_; rintro e w1 ⟨v, G', Cp, rfl, hMk, hb⟩; rw [← QL.out, ← QM.out] at hMk; obtain ⟨a1, c1, rfl, hO⟩ := hMk.slice; have HO := Lib.hid hO.tab; have HB := Lib.hid ((below_alloc (Below.refl w.heap.size w) _).trans (hb.mono (by simp))); clear hb hO hMk)
      | (go_at_call 49; refine (l4Long_any n c M _ a _ A L C Z _ _ w1 HW.out (HA.out.below (Nat.le_refl _) HB.out) (by rw [← QL.out]; exact QM.out) (by rw [← QL.out]; exact HO.out)).mono ?_; rintro e w2 ⟨g, cap, rfl, ⟨hg1, hg2, hg3⟩, hO2, hb2⟩; have R2 := Lib.hid hO2; have B2 := Lib.hid (HB.out.trans (hb2.mono HB.out.size)); clear hO2 hb2))
    go_loopw [4, 6] (fun s i wr => ∃ x : Nat, x ≤ M ∧ i = .int .i64 x ∧ s = .int .i64 (maxTo (fun i => longF n Z ((givs n n []).getD i [])) x) ∧ Below w2.heap.size w2 wr) (fun _ i _ => M - (intOf i).toNat)
    case atStart => exact ⟨0, Nat.zero_le _, rfl, rfl, Below.refl _ _⟩
    case round =>
      obtain ⟨x, hx, rfl, rfl, hB⟩ := hrel
      have BR := Lib.hid hB
      clear hB
      by_cases hlt : x < M
      · have R3 := Lib.hid (R2.out.of_block (BR.out.block g hg2))
        have hcx := (R3.out.at hlt).1
        have SX := Lib.hid (show maxTo (fun i => longF n Z ((givs n n []).getD i [])) (x + 1) = max (maxTo (fun i => longF n Z ((givs n n []).getD i [])) x) (longF n Z ((givs n n []).getD x [])) from rfl)
        obtain ⟨y, hy⟩ : ∃ y, y = longF n Z ((givs n n []).getD x []) := ⟨_, rfl⟩
        obtain ⟨m, hm⟩ : ∃ m, m = maxTo (fun i => longF n Z ((givs n n []).getD i [])) x := ⟨_, rfl⟩
        rw [← hy] at hcx
        rw [← hy, ← hm] at SX
        rw [← hm]
        have i1 : (0 : Int) ≤ (x : Int) := by omega
        have i2 : (x : Int) < (M : Int) := by omega
        have EX := Lib.hid (show (if m < y then y else m) = max m y by
          by_cases h : m < y
          · rw [if_pos h]; omega
          · rw [if_neg h]; omega)
        clear hy hm
        go_wp2
        go_roundw
        case rel => exact ⟨x + 1, by omega, by go_num, by rw [SX.out, ← EX.out], BR.out⟩
        case measure => simp [intOf]; omega
      · obtain rfl : M = x := by omega
        have E1 := Lib.hid (show maxTo (fun i => longF n Z ((givs n n []).getD i [])) M = mostN n L Z by rw [TN.out, QM.out, QL.out])
        go_wp2
        go_ret2
        exact ⟨by rw [T1.out, ← E1.out]; rfl, B2.out.trans (BR.out.mono B2.out.size)⟩
  · have T1 := Lib.hid (tt_no h1)
    have TN := Lib.hid (mostN_no h1)
    clear h1 ha0 hL0
    go_enter Try.func29, Try.ntmps29
    go_wp2_with (go_at_call 47; refine H.out.mono ?_; rintro e w' ⟨rfl, rfl⟩; rw [T1.out])
    go_ret2
    exact ⟨by rw [T1.out, TN.out]; rfl, Below.refl _ _⟩
end Go.Proofs.Ytipfjblnanafnaa
