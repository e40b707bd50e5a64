/- The program's BidTwice. -/
import Derived.Test.YtaipodnhnekpjaaBidMost
import Derived.Test.YtaipodnhnekpjaaBidWithSecond
import Derived.Test.YtaipodnhnekpjaaHasItem
namespace Go.Proofs.Ytaipodnhnekpjaa
set_option linter.unusedVariables false
set_option linter.unusedSimpArgs false
open Go.RowKit

theorem second_cells {n m k : Nat} {Z : Nat → Nat → Int} (hk : k < m) (hZ : ∀ r, r < n → ∀ x, x < m → 0 ≤ Z r x ∧ Z r x ≤ 20) : ∀ r, r < n → ∀ x, x < m + 1 → 0 ≤ secondZ Z m k r x ∧ secondZ Z m k r x ≤ 20 := fun r hr x hx => by
  unfold secondZ
  by_cases e : x < m
  · rw [if_pos e]; exact hZ r hr x e
  · rw [if_neg e]; exact hZ r hr k hk

set_option maxHeartbeats 800000 in
theorem bidTwice_any (n c : Nat) (a : Option Addr) (A : Nat → Option Addr) (L C : Nat → Nat) (Z : Nat → Nat → Int) (x : Int) (w : World) (hn0 : n ≤ 1048576) (hL0 : ∀ r, r < n → L r ≤ 1048576) (ha0 : Tab w a n A L C Z) (hx1 : I64 x) :
    Calls Try.prog 64 #[.slice a n c, .int .i64 x] w fun e w' => e = .returned (.tuple #[.int .i64 (ifT (IsBids n L Z ∧ 0 ≤ x ∧ x < (L 0 : Int)) (twiceV n (L 0) Z x.toNat)), .bool (tt (IsBids n L Z ∧ 0 ≤ x ∧ x < (L 0 : Int)))]) ∧ Below w.heap.size w w' := by
  have hba := Below.refl w.heap.size w
  have HA := ha0.below (Nat.le_refl _) hba
  have H := Lib.hid (readBids_any n c a A L C Z w hn0 hL0 HA)
  by_cases h1 : IsBids n L Z
  · have T1 := Lib.hid (tt_of h1)
    have HH := Lib.hid (hasItem_any n c a A L C Z x w (by have := h1.1.1.1; omega) HA)
    by_cases h2 : 0 ≤ x ∧ x < (L 0 : Int)
    · have T2 := Lib.hid (tt_of h2)
      have T3 := Lib.hid (tt_of (show IsBids n L Z ∧ 0 ≤ x ∧ x < (L 0 : Int) from ⟨h1, h2⟩))
      have T4 := Lib.hid (ifT_yes (x := twiceV n (L 0) Z x.toNat) (show IsBids n L Z ∧ 0 ≤ x ∧ x < (L 0 : Int) from ⟨h1, h2⟩))
      obtain ⟨i, rfl⟩ := Int.eq_ofNat_of_zero_le h2.1
      have hi : i < L 0 := by have := h2.2; omega
      rw [Int.toNat_natCast] at T4 ⊢
      have HW := Lib.hid (withSecond_any n c (L 0) i a A L C Z w h1.1.1.1 h1.1.1.2 h1.1.2.2 hi h1.rows HA)
      have HM := Lib.hid (fun (g : Nat) (G Cp : Nat → Nat) w' (hT : Tab w' (some ⟨g, 0, none⟩) n (fun r => some ⟨G r, 0, none⟩) (fun _ => L 0 + 1) Cp (secondZ Z (L 0) i)) => show Calls Try.prog 59 #[.slice (some ⟨g, 0, none⟩) n n, .func (.func 60) #[] #[]] w' fun e w2 => e = .returned (.int .i64 (twiceV n (L 0) Z i)) ∧ Below w'.heap.size w' w2 from by
        have h := most_all n n (L 0 + 1) _ _ _ _ _ w' h1.1.1.1 h1.1.1.2 (by have := h1.1.2.2; omega) (fun _ _ => rfl) (second_cells hi h1.cells) hT
        rw [second_way hi] at h
        exact h)

      obtain ⟨y, hy⟩ : ∃ y, y = twiceV n (L 0) Z i := ⟨_, rfl⟩
      rw [← hy] at HM T4 ⊢
      rw [T4.out]
      have BA := Lib.hid hba
      clear h1 h2 ha0 HA hy hba T4
      go_enter Try.func64, Try.ntmps64
      go_wp2_with (first
        | (go_at_call 58; refine H.out.mono ?_; rintro e w' ⟨rfl, rfl⟩; rw [T1.out, show bidsV true a n c = .slice a n c from rfl])
        | (go_at_call 99; refine HH.out.mono ?_; rintro e w' ⟨rfl, rfl⟩; rw [T2.out])
        | (go_at_call 100; refine HW.out.mono ?_; rintro e w2 ⟨g, G, Cp, rfl, hT, hb⟩; have HT := Lib.hid hT; have B2 := Lib.hid hb; clear hT hb)
        | (go_at_call 59; refine (HM.out _ _ _ _ HT.out).mono ?_; rintro e w3 ⟨rfl, hb⟩; have B := Lib.hid (B2.out.trans (hb.mono B2.out.size)); clear hb))
      go_ret2
      exact ⟨by rw [T3.out]; rfl, B.out⟩
    · have T2 := Lib.hid (tt_no h2)
      have T3 := Lib.hid (tt_no (show ¬ (IsBids n L Z ∧ 0 ≤ x ∧ x < (L 0 : Int)) from fun h => h2 h.2))
      have T4 := Lib.hid (ifT_no (x := twiceV n (L 0) Z x.toNat) (show ¬ (IsBids n L Z ∧ 0 ≤ x ∧ x < (L 0 : Int)) from fun h => h2 h.2))
      have BA := Lib.hid hba
      clear h1 h2 ha0 HA hba
      go_enter Try.func64, Try.ntmps64
      go_wp2_with (first
        | (go_at_call 58; refine H.out.mono ?_; rintro e w' ⟨rfl, rfl⟩; rw [T1.out, show bidsV true a n c = .slice a n c from rfl])
        | (go_at_call 99; refine HH.out.mono ?_; rintro e w' ⟨rfl, rfl⟩; rw [T2.out]))
      go_ret2
      exact ⟨by rw [T3.out, T4.out]; rfl, BA.out⟩
  · have T1 := Lib.hid (tt_no h1)
    have T3 := Lib.hid (tt_no (show ¬ (IsBids n L Z ∧ 0 ≤ x ∧ x < (L 0 : Int)) from fun h => h1 h.1))
    have T4 := Lib.hid (ifT_no (x := twiceV n (L 0) Z x.toNat) (show ¬ (IsBids n L Z ∧ 0 ≤ x ∧ x < (L 0 : Int)) from fun h => h1 h.1))
    have BA := Lib.hid hba
    clear h1 ha0 HA hba
    go_enter Try.func64, Try.ntmps64
    go_wp2_with (go_at_call 58; refine H.out.mono ?_; rintro e w' ⟨rfl, rfl⟩; rw [T1.out, show bidsV false a n c = .slice none 0 0 from rfl])
    go_ret2
    exact ⟨by rw [T3.out, T4.out]; rfl, BA.out⟩
end Go.Proofs.Ytaipodnhnekpjaa
