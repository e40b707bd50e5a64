/- The model's BidFirst. -/
import Derived.Test.YtopoeeahociohaaSpecBidIn
import Derived.Test.YtopoeeahociohaaBidMost
import Derived.Test.YtopoeeahociohaaL7First
import Derived.Test.YtopoeeahociohaaBidFirstF
namespace Go.Proofs.Ytopoeeahociohaa
set_option linter.unusedVariables false
set_option linter.unusedSimpArgs false
open Go.RowKit

set_option maxHeartbeats 800000 in
theorem specBidFirst_any (n c : Nat) (a : Option Addr) (A : Nat → Option Addr) (L C : Nat → Nat) (Z : Nat → Nat → Int) (w : World) (hn0 : n ≤ 1048576) (hL0 : ∀ r, r < n → L r ≤ 1048576) (ha0 : Tab w a n A L C Z) :
    Calls Try.prog 26 #[.slice a n c] w (RetIB (tt (IsBids n L Z)) (firstN n L Z) (nth (firstD n (L 0) Z)) w) := by
  have H := Lib.hid (specBidIn_any n c a A L C Z w hn0 hL0 ha0)
  by_cases h1 : IsBids n L Z
  · have T1 := Lib.hid (tt_of h1)
    have T2 := Lib.hid (firstN_yes h1)
    have HF := Lib.hid (fun w' (hb : Below w.heap.size w w') => l7First_any n c a A L C Z w' h1 (ha0.below (Nat.le_refl _) hb))
    clear h1 ha0
    go_enter Try.func26, Try.ntmps26
    go_wp2_with (go_at_call 16; refine H.out.mono ?_; rintro e w1 ⟨rfl, hb⟩; rw [T1.out]; have B1 := Lib.hid hb; clear hb)
    refine (HF.out _ B1.out).mono ?_
    rintro e w2 ⟨v, l, G, Cp, rfl, hown, hrow, hl, hb⟩
    have hp : 0 < l.length := by
      have := bests_pos (Z := Z) (dealsP_none (m := L 0) n)
      rw [← hl, List.length_map] at this
      exact this
    obtain ⟨g, cap, rfl⟩ := owns_form hown hp
    have hin : l.getD 0 0 ∈ l := getD_in hp
    have hck := hown.cells (g := g) rfl 0 (encB n G Cp (l.getD 0 0)) (by simp [List.getD_eq_getElem?_getD, hp])
    rw [Go.WideShapes.add_plain, Nat.zero_add] at hck
    unfold encB at hck
    obtain ⟨k1, k2, k3⟩ := hrow _ hin
    have e0 : firstD n (L 0) Z = rowD (L 0) n (l.getD 0 0) := by
      unfold firstD
      rw [← hl]
      simp [List.getD_eq_getElem?_getD, hp]
    rw [← e0] at k3
    have HO := Lib.hid (And.intro k1 (And.intro k2 k3))
    have B2 := Lib.hid (B1.out.trans (hb.mono B1.out.size))
    have S1 := Lib.hid B1.out.size
    obtain ⟨r0, hr0⟩ : ∃ r0, r0 = l.getD 0 0 := ⟨_, rfl⟩
    rw [← hr0] at hck HO
    obtain ⟨M, hM⟩ : ∃ M, M = l.length := ⟨_, rfl⟩
    rw [← hM] at hp ⊢
    have hz : (0 : Int) < (M : Int) := by omega
    clear hown hrow hl hb hin k1 k2 k3 e0 hr0 hM HF
    go_wp2
    go_ret2
    obtain ⟨k1, k2, k3⟩ := HO.out
    have hs := S1.out
    refine ⟨some ⟨G r0, 0, none⟩, Cp r0, by rw [T1.out, T2.out]; rfl, ?_, B2.out⟩
    rw [T2.out]
    exact .inr ⟨G r0, by omega, k2, k3⟩
  · have T1 := Lib.hid (tt_no h1)
    have T2 := Lib.hid (firstN_no h1)
    clear h1 ha0
    go_enter Try.func26, Try.ntmps26
    go_wp2_with (go_at_call 16; refine H.out.mono ?_; rintro e w1 ⟨rfl, hb⟩; rw [T1.out]; have B1 := Lib.hid hb; clear hb)
    go_ret2
    exact ⟨_, _, by rw [T1.out, T2.out]; rfl, by rw [T2.out]; exact .inl rfl, below_alloc B1.out _⟩
end Go.Proofs.Ytopoeeahociohaa
