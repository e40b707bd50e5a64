/- The program's BidFirst. -/
import Derived.Test.YtaipodnhnekpjaaBidMost
namespace Go.Proofs.Ytaipodnhnekpjaa
set_option linter.unusedVariables false
set_option linter.unusedSimpArgs false
open Go.RowKit

/-- The first best deal. -/
def firstD (n m : Nat) (Z : Nat → Nat → Int) : List Int := (bestsL n Z (dealsP m n)).getD 0 []
noncomputable def firstN (n : Nat) (L : Nat → Nat) (Z : Nat → Nat → Int) : Nat := if tt (IsBids n L Z) = true then n else 0
theorem firstN_yes {n : Nat} {L : Nat → Nat} {Z : Nat → Nat → Int} (h : IsBids n L Z) : firstN n L Z = n := by unfold firstN; rw [tt_of h]; rfl
theorem firstN_small (n : Nat) (L : Nat → Nat) (Z : Nat → Nat → Int) : firstN n L Z ≤ 1048576 := by
  unfold firstN
  by_cases h : IsBids n L Z
  · rw [tt_of h]; have := h.1.1; simp; omega
  · rw [tt_no h]; simp
theorem firstN_no {n : Nat} {L : Nat → Nat} {Z : Nat → Nat → Int} (h : ¬ IsBids n L Z) : firstN n L Z = 0 := by unfold firstN; rw [tt_no h]; rfl

set_option maxHeartbeats 800000 in
theorem bidFirst_any (n c : Nat) (a : Option Addr) (A : Nat → Option Addr) (L C : Nat → Nat) (Z : Nat → Nat → Int) (w : World) (hn0 : n ≤ 1048576) (hL0 : ∀ r, r < n → L r ≤ 1048576) (ha0 : Tab w a n A L C Z) :
    Calls Try.prog 39 #[.slice a n c] w (RetIB (tt (IsBids n L Z)) (firstN n L Z) (nth (firstD n (L 0) Z)) w) := by
  have H := Lib.hid (readBids_any n c a A L C Z w hn0 hL0 ha0)
  by_cases h1 : IsBids n L Z
  · have T1 := Lib.hid (tt_of h1)
    have T2 := Lib.hid (firstN_yes h1)
    have HB := Lib.hid (best_any n c (L 0) a A L C Z w h1.1.1.1 h1.1.1.2 (by have := h1.1.2.2; omega) h1.rows h1.cells ha0 _ #[] (enters_of Try.func60 (by kernel_rfl) rfl) (fun _ => true) (fun W D aD cD _ _ _ => anyDeal_gives _ W) rfl)
    rw [show (dealsP (L 0) n).filter (fun _ => true) = dealsP (L 0) n from List.filter_eq_self.2 fun _ _ => rfl] at HB
    clear h1 ha0
    go_enter Try.func39, Try.ntmps39
    go_wp2_with (go_at_call 58; refine H.out.mono ?_; rintro e w' ⟨rfl, rfl⟩; rw [T1.out, show bidsV true a n c = .slice a n c from rfl])
    refine HB.out.mono ?_
    intro e w1 hret
    obtain ⟨g, cap, M, G, c2, rfl, hM0, _, hc, hG1, hG2, hown, hin, hb⟩ := hret.first (dealsP_none n)
    have HO := Lib.hid (And.intro hG1 (And.intro hG2 hown))
    have BB := Lib.hid hb
    have hz : (0 : Int) < (M : Int) := by omega
    clear hret hown hin hb hG1 hG2 HB
    go_wp2
    go_ret2
    obtain ⟨k1, k2, k3⟩ := HO.out
    refine ⟨some ⟨G, 0, none⟩, c2, by rw [T1.out, T2.out]; rfl, ?_, BB.out⟩
    rw [T2.out]
    exact .inr ⟨G, k1, k2, k3⟩
  · have T1 := Lib.hid (tt_no h1)
    have T2 := Lib.hid (firstN_no h1)
    clear h1 ha0
    go_enter Try.func39, Try.ntmps39
    go_wp2_with (go_at_call 58; refine H.out.mono ?_; rintro e w' ⟨rfl, rfl⟩; rw [T1.out, show bidsV false a n c = .slice none 0 0 from rfl])
    go_ret2
    exact ⟨none, 0, by rw [T1.out, T2.out]; rfl, by rw [T2.out]; exact .inl rfl, Below.refl _ _⟩
end Go.Proofs.Ytaipodnhnekpjaa
