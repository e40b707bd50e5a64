/- The model's SwapAll. -/
import Derived.Test.YtlncinbphgallaaL3Both
import Derived.Test.YtlncinbphgallaaL4All
namespace Go.Proofs.Ytlncinbphgallaa
set_option linter.unusedVariables false
set_option linter.unusedSimpArgs false
open Go.RowKit

theorem tot_times {L : Nat → Nat} {B : Nat} : ∀ k, (∀ r, r < k → L r ≤ B) → tot L k ≤ k * B
  | 0, _ => by simp [tot]
  | k + 1, h => by
    have h1 := tot_times k (fun r hr => h r (by omega))
    have h2 := h k (by omega)
    show tot L k + L k ≤ (k + 1) * B
    rw [Nat.succ_mul]; omega
theorem pairs_two {P : List (Nat × Nat)} (r : Nat) : lenL (pairsL P) r ≤ 2 := by
  unfold lenL
  by_cases h : r < (pairsL P).length
  · rw [List.getD_eq_getElem?_getD, List.getElem?_eq_getElem h]
    simp [pairsL]
  · rw [List.getD_eq_getElem?_getD, List.getElem?_eq_none (by omega)]
    simp
theorem allL_small (n : Nat) (L : Nat → Nat) (Z : Nat → Nat → Int) (m : Nat) (G : Nat → Int) : (allL n L Z m G).length ≤ 1048576 ∧ tot (lenL (allL n L Z m G)) (allL n L Z m G).length ≤ 1048576 := by
  by_cases h : GivenOk n L Z m G
  · rw [allL_yes h]
    have h1 : (pairsL (mayL n Z G)).length ≤ 25 := by rw [pairsL_length]; exact mayL_le h.1.1.2
    have h2 := tot_times (L := lenL (pairsL (mayL n Z G))) (B := 2) (pairsL (mayL n Z G)).length (fun r _ => pairs_two r)
    omega
  · rw [allL_no h]
    simp [tot]

theorem specSwapAll_any (n c : Nat) (a : Option Addr) (A : Nat → Option Addr) (L C : Nat → Nat) (Z : Nat → Nat → Int) (m d : Nat) (b : Option Addr) (G : Nat → Int) (w : World) (hn0 : n ≤ 1048576) (hL0 : ∀ r, r < n → L r ≤ 1048576) (ha0 : Tab w a n A L C Z) (hm1 : m ≤ 1048576) (hb1 : Rd w b m G) :
    Calls Try.prog 22 #[.slice a n c, .slice b m d] w (RetTB (tt (GivenOk n L Z m G)) (allL n L Z m G).length (lenL (allL n L Z m G)) (nthL (allL n L Z m G)) w) := by
  have H := Lib.hid (l3Both_any n c a A L C Z m d b G w hn0 hL0 ha0 hm1 hb1)
  by_cases h1 : GivenOk n L Z m G
  · have T1 := Lib.hid (tt_of h1)
    have TN := Lib.hid (allL_yes h1)
    obtain rfl : m = n := h1.2.1
    have HM := Lib.hid (l4All_any m c a A L C Z d b G w h1 ha0 hb1)
    clear h1 ha0 hL0 hb1
    go_enter Try.func22, Try.ntmps22
    go_wp2_with (first
      | (go_at_call 55; refine H.out.mono ?_; rintro e w' ⟨rfl, rfl⟩; rw [T1.out])
      | (go_at_call 56; refine HM.out.mono ?_; rintro e w1 ⟨v, G', Cp, rfl, hMk, hb⟩; obtain ⟨a1, c1, rfl, hO⟩ := hMk.slice; have HO := Lib.hid hO; have HB := Lib.hid hb; clear hb hO hMk))
    go_ret2
    exact ⟨_, _, _, _, by rw [T1.out, TN.out]; rfl, by rw [TN.out]; exact HO.out, HB.out⟩
  · have T1 := Lib.hid (tt_no h1)
    have TN := Lib.hid (allL_no h1)
    clear h1 ha0 hL0 hb1
    go_enter Try.func22, Try.ntmps22
    go_wp2_with (first
      | (go_at_call 55; refine H.out.mono ?_; rintro e w' ⟨rfl, rfl⟩; rw [T1.out]))
    go_ret2
    exact ⟨_, _, (fun _ => none), (fun _ => 0), by rw [T1.out, TN.out]; rfl, .inl (by rw [TN.out]; rfl), below_alloc (Below.refl _ _) _⟩
end Go.Proofs.Ytlncinbphgallaa
