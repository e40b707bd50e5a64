/- The program's BidLess. -/
import Derived.Test.YtaipodnhnekpjaaBidMost
import Derived.Test.YtaipodnhnekpjaaDealsWay
import Derived.Test.YtaipodnhnekpjaaHasItem
namespace Go.Proofs.Ytaipodnhnekpjaa
set_option linter.unusedVariables false
set_option linter.unusedSimpArgs false
open Go.RowKit

theorem less1_gives (ib i n cD : Nat) (aD : Option Addr) (D : Nat → Int) (W : World) (hn : n ≤ 1000) (hc : W.cell? ⟨ib, 0, none⟩ = some (.int .i64 (i : Nat))) (hd : Rd W aD n D) :
    FnGives Try.prog 101 #[.pointer (some ⟨ib, 0, none⟩)] #[.slice aD n cD] (.bool (!tt (HasI n D (i : Int)))) W := by
  unfold FnGives
  show Calls Try.prog 101 #[.slice aD n cD, .pointer (some ⟨ib, 0, none⟩)] W _
  have HC := Lib.hid (contains_any n cD aD D (i : Nat) W (by omega) hd)
  obtain ⟨b, hb⟩ : ∃ b, b = tt (HasI n D (i : Int)) := ⟨_, rfl⟩
  rw [← hb] at HC ⊢
  clear hd hb
  go_enter Try.func101, Try.ntmps101
  go_wp2_with (go_at_call 89; refine HC.out.mono ?_; rintro e w' ⟨rfl, rfl⟩)
  go_ret
  exact ⟨rfl, 0, rfl⟩

theorem less_has {n m i : Nat} {D : List Int} (h : D ∈ dealsP m n) : (!tt (HasI n (nth D) (i : Int))) = true ↔ ∀ j, j < n → nth D j ≠ (i : Int) := by
  by_cases e : HasI n (nth D) (i : Int)
  · rw [tt_of e]
    obtain ⟨j, hj, ej⟩ := e
    exact ⟨fun h => absurd h (by decide), fun h => absurd ej (h j hj)⟩
  · rw [tt_no e]
    exact ⟨fun _ j hj ej => e ⟨j, hj, ej⟩, fun _ => rfl⟩

set_option maxHeartbeats 800000 in
theorem bidLess_any (n c : Nat) (a : Option Addr) (A : Nat → Option Addr) (L C : Nat → Nat) (Z : Nat → Nat → Int) (x : Int) (w : World) (hn0 : n ≤ 1048576) (hL0 : ∀ r, r < n → L r ≤ 1048576) (ha0 : Tab w a n A L C Z) (hx1 : I64 x) :
    Calls Try.prog 66 #[.slice a n c, .int .i64 x] w fun e w' => e = .returned (.tuple #[.int .i64 (ifT (IsBids n L Z ∧ 0 ≤ x ∧ x < (L 0 : Int)) (lessV n (L 0) Z x.toNat)), .bool (tt (IsBids n L Z ∧ 0 ≤ x ∧ x < (L 0 : Int)))]) ∧ Below w.heap.size w w' := by
  have hba := below_alloc (Below.refl w.heap.size w) (.cells #[.int .i64 x] 3)
  have hxa := cell_of_row _ _ 0 _ _ _ (heap_alloc_last w (.cells #[.int .i64 x] 3))
  obtain ⟨wa, hwa⟩ : ∃ wa, wa = w.alloc (.cells #[.int .i64 x] 3) := ⟨_, rfl⟩
  rw [← hwa] at hba hxa
  have HA := ha0.below (Nat.le_refl _) hba
  have H := Lib.hid (readBids_any n c a A L C Z wa hn0 hL0 HA)
  by_cases h1 : IsBids n L Z
  · have T1 := Lib.hid (tt_of h1)
    have HH := Lib.hid (hasItem_any n c a A L C Z x wa (by have := h1.1.1.1; omega) HA)
    by_cases h2 : 0 ≤ x ∧ x < (L 0 : Int)
    · have T2 := Lib.hid (tt_of h2)
      have T3 := Lib.hid (tt_of (show IsBids n L Z ∧ 0 ≤ x ∧ x < (L 0 : Int) from ⟨h1, h2⟩))
      have T4 := Lib.hid (ifT_yes (x := lessV n (L 0) Z x.toNat) (show IsBids n L Z ∧ 0 ≤ x ∧ x < (L 0 : Int) from ⟨h1, h2⟩))
      obtain ⟨i, rfl⟩ := Int.eq_ofNat_of_zero_le h2.1
      have hi : i < L 0 := by have := h2.2; omega
      rw [Int.toNat_natCast] at T4 ⊢
      have HM := Lib.hid (show Calls Try.prog 59 #[.slice a n c, .func (.func 101) #[] #[.pointer (some ⟨w.heap.size, 0, none⟩)]] wa fun e w' => e = .returned (.int .i64 (lessV n (L 0) Z i)) ∧ Below wa.heap.size wa w' from by
        have h := most_any n c (L 0) a A L C Z wa h1.1.1.1 h1.1.1.2 (by have := h1.1.2.2; omega) h1.rows h1.cells HA _ #[.pointer (some ⟨w.heap.size, 0, none⟩)] (enters_of Try.func101 (by kernel_rfl) rfl) (fun D => !tt (HasI n (nth D) (i : Int))) (fun W D aD cD hb hD hd => less1_gives w.heap.size i n cD aD (nth D) W (by have := h1.1.1.2; omega) ((hb.cell (p := ⟨w.heap.size, 0, none⟩) (World.block_lt_of_cell? _ _ hxa)).trans hxa) hd) (by rw [tt_no]; rfl; rintro ⟨j, hj, e⟩; rw [nth_none hj] at e; omega)
        rw [less_way hi _ fun D hD => less_has hD] at h
        exact h)

      obtain ⟨y, hy⟩ : ∃ y, y = lessV n (L 0) Z i := ⟨_, rfl⟩
      rw [← hy] at HM T4 ⊢
      rw [T4.out]
      have BA := Lib.hid hba
      have HXA := Lib.hid hxa
      clear h1 h2 ha0 HA hy hba T4
      go_enter Try.func66, Try.ntmps66
      go_wp2_with fail
      rw [← hwa]
      clear hwa
      refine H.out.mono ?_
      rintro e w' ⟨rfl, rfl⟩
      rw [T1.out, show bidsV true a n c = .slice a n c from rfl]
      go_wp2_with (first
        | (go_at_call 99; refine HH.out.mono ?_; rintro e w' ⟨rfl, rfl⟩; rw [T2.out])
        | (go_at_call 59; refine HM.out.mono ?_; rintro e w2 ⟨rfl, hb⟩; have B := Lib.hid (BA.out.trans (hb.mono BA.out.size)); clear hb))
      go_ret2
      exact ⟨by rw [T3.out]; rfl, B.out⟩
    · have T2 := Lib.hid (tt_no h2)
      have T3 := Lib.hid (tt_no (show ¬ (IsBids n L Z ∧ 0 ≤ x ∧ x < (L 0 : Int)) from fun h => h2 h.2))
      have T4 := Lib.hid (ifT_no (x := lessV n (L 0) Z x.toNat) (show ¬ (IsBids n L Z ∧ 0 ≤ x ∧ x < (L 0 : Int)) from fun h => h2 h.2))
      have BA := Lib.hid hba
      clear h1 h2 ha0 HA hba
      go_enter Try.func66, Try.ntmps66
      go_wp2_with fail
      rw [← hwa]
      clear hwa
      refine H.out.mono ?_
      rintro e w' ⟨rfl, rfl⟩
      rw [T1.out, show bidsV true a n c = .slice a n c from rfl]
      go_wp2_with (first
        | (go_at_call 99; refine HH.out.mono ?_; rintro e w' ⟨rfl, rfl⟩; rw [T2.out]))
      go_ret2
      exact ⟨by rw [T3.out, T4.out]; rfl, BA.out⟩
  · have T1 := Lib.hid (tt_no h1)
    have T3 := Lib.hid (tt_no (show ¬ (IsBids n L Z ∧ 0 ≤ x ∧ x < (L 0 : Int)) from fun h => h1 h.1))
    have T4 := Lib.hid (ifT_no (x := lessV n (L 0) Z x.toNat) (show ¬ (IsBids n L Z ∧ 0 ≤ x ∧ x < (L 0 : Int)) from fun h => h1 h.1))
    have BA := Lib.hid hba
    clear h1 ha0 HA hba
    go_enter Try.func66, Try.ntmps66
    go_wp2_with fail
    rw [← hwa]
    clear hwa
    refine H.out.mono ?_
    rintro e w' ⟨rfl, rfl⟩
    rw [T1.out, show bidsV false a n c = .slice none 0 0 from rfl]
    go_wp2
    go_ret2
    exact ⟨by rw [T3.out, T4.out]; rfl, BA.out⟩
end Go.Proofs.Ytaipodnhnekpjaa
