/- The model's BidTwice. -/
import Derived.Test.YtbmkgkiochhdmaaSpecBidIn
import Derived.Test.YtbmkgkiochhdmaaBidMost
import Derived.Test.YtbmkgkiochhdmaaL7Item
import Derived.Test.YtbmkgkiochhdmaaL7Most
namespace Go.Proofs.Ytbmkgkiochhdmaa
set_option linter.unusedVariables false
set_option linter.unusedSimpArgs false
open Go.RowKit

set_option maxHeartbeats 800000 in
theorem specBidTwice_any (n c : Nat) (a : Option Addr) (A : Nat → Option Addr) (L C : Nat → Nat) (Z : Nat → Nat → Int) (x : Int) (w : World) (hn0 : n ≤ 1048576) (hL0 : ∀ r, r < n → L r ≤ 1048576) (ha0 : Tab w a n A L C Z) (hx1 : I64 x) :
    Calls Try.prog 30 #[.slice a n c, .int .i64 x] w fun e w' => e = .returned (.tuple #[.int .i64 (ifT (IsBids n L Z ∧ 0 ≤ x ∧ x < (L 0 : Int)) (twiceV n (L 0) Z x.toNat)), .bool (tt (IsBids n L Z ∧ 0 ≤ x ∧ x < (L 0 : Int)))]) ∧ Below w.heap.size w w' := by
  have H := Lib.hid (l7Item_any n c a A L C Z x w hn0 hL0 ha0)
  by_cases h1 : IsBids n L Z ∧ 0 ≤ x ∧ x < (L 0 : Int)
  · have T1 := Lib.hid (tt_of h1)
    have T4 := Lib.hid (ifT_yes (x := twiceV n (L 0) Z x.toNat) h1)
    obtain ⟨i, rfl⟩ := Int.eq_ofNat_of_zero_le h1.2.1
    have hi : i < L 0 := by have := h1.2.2; omega
    rw [Int.toNat_natCast] at T4 ⊢
    have HI := Lib.hid (fun w' (hb : Below w.heap.size w w') => l7Items_any n c (L 0) i a A L C Z 2 w' h1.1.1.1.1 rfl h1.1.1.2.1 h1.1.1.2.2 (by have := h1.1.1.2.2; omega) (ha0.below (Nat.le_refl _) hb))
    have HM := Lib.hid (fun w' g cap (hb : Below w.heap.size w w') (hr : Rd w' (some ⟨g, 0, none⟩) (L 0) (itemsX i 2)) => show Calls Try.prog 50 #[.slice a n c, .slice (some ⟨g, 0, none⟩) (L 0) cap, .int .i64 (-1)] w' fun e w2 => e = .returned (.int .i64 (twiceV n (L 0) Z i)) ∧ Below w'.heap.size w' w2 from by
      have := l7Most_any n c (L 0) cap a (some ⟨g, 0, none⟩) A L C Z (itemsX i 2) (-1) w' h1.1.1.1.2 h1.1.1.2.1 h1.1.1.2.2 (.inl rfl) h1.1.rows h1.1.cells (items_range (by omega)) (ha0.below (Nat.le_refl _) hb) hr
      rw [keepW_all (n := n) (Z := Z)] at this
      exact this)
    obtain ⟨y, hy⟩ : ∃ y, y = twiceV n (L 0) Z i := ⟨_, rfl⟩
    rw [← hy] at HM T4 ⊢
    clear h1 ha0 hy hi
    go_enter Try.func30, Try.ntmps30
    go_wp2_with (first
      | (go_at_call 56; refine H.out.mono ?_; rintro e w1 ⟨rfl, hb⟩; rw [T1.out]; have B1 := Lib.hid hb; clear hb)
      | (go_at_call 51; refine (HI.out _ B1.out).mono ?_; rintro e w2 ⟨g, cap, rfl, hg, hO, hb⟩; have R2 := Lib.hid hO.rd; have B2 := Lib.hid (B1.out.trans (hb.mono B1.out.size)); clear hg hO hb)
      | (go_at_call 50; refine (HM.out _ _ _ B2.out R2.out).mono ?_; rintro e w3 ⟨rfl, hb⟩; have B3 := Lib.hid (B2.out.trans (hb.mono B2.out.size)); clear hb))
    go_ret2
    exact ⟨by rw [T1.out, T4.out]; rfl, B3.out⟩
  · have T1 := Lib.hid (tt_no h1)
    have T4 := Lib.hid (ifT_no (x := twiceV n (L 0) Z x.toNat) h1)
    clear h1 ha0
    go_enter Try.func30, Try.ntmps30
    go_wp2_with (go_at_call 56; refine H.out.mono ?_; rintro e w1 ⟨rfl, hb⟩; rw [T1.out]; have B1 := Lib.hid hb; clear hb)
    go_ret2
    exact ⟨by rw [T1.out, T4.out]; rfl, B1.out⟩
end Go.Proofs.Ytbmkgkiochhdmaa
