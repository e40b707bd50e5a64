/- The program's BidWithout. -/
import Derived.Test.YtaipodnhnekpjaaBidMost
import Derived.Test.YtaipodnhnekpjaaDealsWay
import Derived.Test.YtaipodnhnekpjaaHasBidder
namespace Go.Proofs.Ytaipodnhnekpjaa
set_option linter.unusedVariables false
set_option linter.unusedSimpArgs false
open Go.RowKit

theorem without1_gives (ib i n cD : Nat) (aD : Option Addr) (D : Nat → Int) (W : World) (hc : W.cell? ⟨ib, 0, none⟩ = some (.int .i64 (i : Nat))) (hi : i < n) (hd : Rd W aD n D) :
    FnGives Try.prog 107 #[.pointer (some ⟨ib, 0, none⟩)] #[.slice aD n cD] (.bool (decide (D i = -1))) W := by
  unfold FnGives
  show Calls Try.prog 107 #[.slice aD n cD, .pointer (some ⟨ib, 0, none⟩)] W _
  obtain ⟨ba, oa, rfl, hcd⟩ := hd i hi
  obtain ⟨x, hx⟩ : ∃ x, x = D i := ⟨_, rfl⟩
  rw [← hx] at hcd ⊢
  have E := Lib.hid (show (x == -1) = decide (x = -1) by by_cases h : x = -1 <;> simp [h])
  have hin : (i : Int) < (n : Int) := by omega
  clear hd hx
  go_enter Try.func107, Try.ntmps107
  go_wp2
  go_ret
  exact ⟨by rw [← E.out]; rfl, 0, rfl⟩

set_option maxHeartbeats 800000 in
theorem bidWithout_any (n c : Nat) (a : Option Addr) (A : Nat → Option Addr) (L C : Nat → Nat) (Z : Nat → Nat → Int) (x : Int) (w : World) (hn0 : n ≤ 1048576) (hL0 : ∀ r, r < n → L r ≤ 1048576) (ha0 : Tab w a n A L C Z) (hx1 : I64 x) :
    Calls Try.prog 71 #[.slice a n c, .int .i64 x] w fun e w' => e = .returned (.tuple #[.int .i64 (ifT (IsBids n L Z ∧ 0 ≤ x ∧ x < (n : Int)) (withoutV n (L 0) Z x.toNat)), .bool (tt (IsBids n L Z ∧ 0 ≤ x ∧ x < (n : Int)))]) ∧ Below w.heap.size w w' := by
  have hba := below_alloc (Below.refl w.heap.size w) (.cells #[.int .i64 x] 3)
  have hxa := cell_of_row _ _ 0 _ _ _ (heap_alloc_last w (.cells #[.int .i64 x] 3))
  obtain ⟨wa, hwa⟩ : ∃ wa, wa = w.alloc (.cells #[.int .i64 x] 3) := ⟨_, rfl⟩
  rw [← hwa] at hba hxa
  have HA := ha0.below (Nat.le_refl _) hba
  have H := Lib.hid (readBids_any n c a A L C Z wa hn0 hL0 HA)
  by_cases h1 : IsBids n L Z
  · have T1 := Lib.hid (tt_of h1)
    have HH := Lib.hid (fun w' => hasBidder_any n c a x w')
    by_cases h2 : 0 ≤ x ∧ x < (n : Int)
    · have T2 := Lib.hid (tt_of h2)
      have T3 := Lib.hid (tt_of (show IsBids n L Z ∧ 0 ≤ x ∧ x < (n : Int) from ⟨h1, h2⟩))
      have T4 := Lib.hid (ifT_yes (x := withoutV n (L 0) Z x.toNat) (show IsBids n L Z ∧ 0 ≤ x ∧ x < (n : Int) from ⟨h1, h2⟩))
      obtain ⟨i, rfl⟩ := Int.eq_ofNat_of_zero_le h2.1
      have hi : i < n := by have := h2.2; omega
      rw [Int.toNat_natCast] at T4 ⊢
      have HM := Lib.hid (show Calls Try.prog 59 #[.slice a n c, .func (.func 107) #[] #[.pointer (some ⟨w.heap.size, 0, none⟩)]] wa fun e w' => e = .returned (.int .i64 (withoutV n (L 0) Z i)) ∧ Below wa.heap.size wa w' from by
        have h := most_any n c (L 0) a A L C Z wa h1.1.1.1 h1.1.1.2 (by have := h1.1.2.2; omega) h1.rows h1.cells HA _ #[.pointer (some ⟨w.heap.size, 0, none⟩)] (enters_of Try.func107 (by kernel_rfl) rfl) (fun D => decide (nth D i = -1)) (fun W D aD cD hb hD hd => without1_gives w.heap.size i n cD aD (nth D) W ((hb.cell (p := ⟨w.heap.size, 0, none⟩) (World.block_lt_of_cell? _ _ hxa)).trans hxa) hi hd) (decide_eq_true (nth_none hi))
        rw [without_way hi] at h
        exact h)

      obtain ⟨y, hy⟩ : ∃ y, y = withoutV n (L 0) Z i := ⟨_, rfl⟩
      rw [← hy] at HM T4 ⊢
      rw [T4.out]
      have BA := Lib.hid hba
      have HXA := Lib.hid hxa
      clear h1 h2 ha0 HA hy hba T4
      go_enter Try.func71, Try.ntmps71
      go_wp2_with fail
      rw [← hwa]
      clear hwa
      refine H.out.mono ?_
      rintro e w' ⟨rfl, rfl⟩
      rw [T1.out, show bidsV true a n c = .slice a n c from rfl]
      go_wp2_with (first
        | (go_at_call 76; refine (HH.out _).mono ?_; rintro e w' ⟨rfl, rfl⟩; rw [T2.out])
        | (go_at_call 59; refine HM.out.mono ?_; rintro e w2 ⟨rfl, hb⟩; have B := Lib.hid (BA.out.trans (hb.mono BA.out.size)); clear hb))
      go_ret2
      exact ⟨by rw [T3.out]; rfl, B.out⟩
    · have T2 := Lib.hid (tt_no h2)
      have T3 := Lib.hid (tt_no (show ¬ (IsBids n L Z ∧ 0 ≤ x ∧ x < (n : Int)) from fun h => h2 h.2))
      have T4 := Lib.hid (ifT_no (x := withoutV n (L 0) Z x.toNat) (show ¬ (IsBids n L Z ∧ 0 ≤ x ∧ x < (n : Int)) from fun h => h2 h.2))
      have BA := Lib.hid hba
      clear h1 h2 ha0 HA hba
      go_enter Try.func71, Try.ntmps71
      go_wp2_with fail
      rw [← hwa]
      clear hwa
      refine H.out.mono ?_
      rintro e w' ⟨rfl, rfl⟩
      rw [T1.out, show bidsV true a n c = .slice a n c from rfl]
      go_wp2_with (first
        | (go_at_call 76; refine (HH.out _).mono ?_; rintro e w' ⟨rfl, rfl⟩; rw [T2.out]))
      go_ret2
      exact ⟨by rw [T3.out, T4.out]; rfl, BA.out⟩
  · have T1 := Lib.hid (tt_no h1)
    have T3 := Lib.hid (tt_no (show ¬ (IsBids n L Z ∧ 0 ≤ x ∧ x < (n : Int)) from fun h => h1 h.1))
    have T4 := Lib.hid (ifT_no (x := withoutV n (L 0) Z x.toNat) (show ¬ (IsBids n L Z ∧ 0 ≤ x ∧ x < (n : Int)) from fun h => h1 h.1))
    have BA := Lib.hid hba
    clear h1 ha0 HA hba
    go_enter Try.func71, Try.ntmps71
    go_wp2_with fail
    rw [← hwa]
    clear hwa
    refine H.out.mono ?_
    rintro e w' ⟨rfl, rfl⟩
    rw [T1.out, show bidsV false a n c = .slice none 0 0 from rfl]
    go_wp2
    go_ret2
    exact ⟨by rw [T3.out, T4.out]; rfl, BA.out⟩
end Go.Proofs.Ytaipodnhnekpjaa
