/- The walk of the law FnLong: it answers true at every code that can be read. -/
import Derived.Test.YtipfjblnanafnaaDrawSwapLong
import Derived.Test.YtipfjblnanafnaaSwapLong
import Derived.Test.YtipfjblnanafnaaSpecSwapLong
import Derived.Test.YtipfjblnanafnaaSwapStill
import Derived.Test.YtipfjblnanafnaaUpTo
namespace Go.Proofs.Ytipfjblnanafnaa
set_option linter.unusedVariables false
set_option linter.unusedSimpArgs false
open Go.RowKit

section
variable {n : Nat} {L : Nat → Nat} {Z : Nat → Nat → Int}
theorem most_some (hW : IsWishes n L Z) : ∃ t : Nat, mostN n L Z = t ∧ (∃ G, Led n Z t G) ∧ ∀ G, ¬ Led n Z (t + 1) G := by
  obtain ⟨t, h1, h2⟩ := greatest (P := fun t => ∃ G, Led n Z t G) 10 ⟨0, _, .start⟩ (fun r ⟨G, hr⟩ => led_ten hW hr)
  have h3 : ∀ G, ¬ Led n Z (t + 1) G := fun G hG => by have := h2 (t + 1) ⟨G, hG⟩; omega
  exact ⟨t, most_is hW h1 h3, h1, h3⟩
theorem still_congr {X Y : Nat → Int} (e : ∀ i, i < n → X i = Y i) : StillP n Z X ↔ StillP n Z Y := by
  have : ∀ i k, i < n → k < n → (MayP n Z X i k ↔ MayP n Z Y i k) := fun i k hi hk => by unfold MayP; rw [e i hi, e k hk]
  exact ⟨fun h i k hi hk hm => h i k hi hk ((this i k hi hk).2 hm), fun h i k hi hk hm => h i k hi hk ((this i k hi hk).1 hm)⟩
/-- No swap is made just if the beginning is still. -/
theorem most_zero (hW : IsWishes n L Z) {t : Nat} (h1 : ∃ G, Led n Z t G) (h2 : ∀ G, ¬ Led n Z (t + 1) G) : t = 0 ↔ StillOk n L Z n (fun k => (k : Int)) := by
  have hg : GivenOk n L Z n (fun k => (k : Int)) := ⟨hW, rfl, fun i hi => ⟨by show (0 : Int) ≤ (i : Int); omega, by show (i : Int) < n; omega⟩, fun i j hij hj e => by have e : (i : Int) = j := e; omega⟩
  have e := still_congr (n := n) (Z := Z) (X := nth (ownL n)) (Y := fun k => (k : Int)) (fun i hi => ownL_nth hi)
  constructor
  · rintro rfl
    refine ⟨hg, e.1 (mayL_nil.1 ?_)⟩
    rw [List.eq_nil_iff_forall_not_mem]
    intro p hp
    exact h2 _ (led_next.2 ⟨ownL n, .start, p, hp, rfl⟩)
  · rintro ⟨_, hs⟩
    have hs := mayL_nil.2 (e.2 hs)
    cases t with
    | zero => rfl
    | succ t =>
      obtain ⟨G, hG⟩ := h1
      obtain ⟨Y, hY⟩ := led_down hG 1 (by omega)
      obtain ⟨G', h3, p, hp, _⟩ := led_next.1 hY
      rw [led_zero.1 h3, hs] at hp
      cases hp
end

set_option maxHeartbeats 3200000 in
set_option maxRecDepth 100000 in
theorem fnLong_walk (n c : Nat) (a : Option Addr) (B : Nat → Nat) (w : World) (hc : n ≤ c) (hb : RdB w a n B) (hab : 0 < n → ∀ b o, a = some ⟨b, o, none⟩ → b < w.heap.size) :
    Calls Try.prog 9 #[.slice a n c] w fun e w' => e = .returned (.bool true) ∧ Below w.heap.size w w' := by
  by_cases hfit : n ≤ 1048576
  · have hd : ¬ (1048576 < n) := by omega
    have HD := Lib.hid (drawSwapLong_any n c a B w hfit hc hb hab)
    clear hb hab
    go_enter Try.func9, Try.ntmps9
    go_wp2_with fail
    refine HD.out.mono ?_
    rintro e w1 ⟨ga, N, gc, A, L, C, Z, rfl, ⟨hN1, hN5⟩, hL, hT, hb1⟩
    have HT := Lib.hid hT
    have HL := Lib.hid (show ∀ r, r < N → L r ≤ 1048576 from fun r hr => by have := hL r hr; omega)
    have B1 := Lib.hid hb1
    clear hT hL hb1 HD
    go_wp2_with fail
    refine (swapLong_any N gc ga A L C Z _ (by omega) HL.out HT.out).mono ?_
    rintro e w2 ⟨rfl, hb2⟩
    have B2 := Lib.hid hb2
    clear hb2
    go_wp2_with fail
    refine (specSwapLong_any N gc ga A L C Z _ (by omega) HL.out (HT.out.below (Nat.le_refl _) B2.out)).mono ?_
    rintro e w3 ⟨rfl, hb3⟩
    have B3 := Lib.hid (below_chain B2.out hb3)
    clear hb3
    by_cases hw : IsWishes N L Z
    · have KW := Lib.hid (tt_of hw)
      obtain ⟨t, hmt, hl1, hl2⟩ := most_some hw
      have KM := Lib.hid hmt
      have hz := most_zero hw hl1 hl2
      have hsm : 2 * (t : Int) ≤ N * (N - 1) := by obtain ⟨G, hG⟩ := hl1; exact led_small hw hG
      have hn2 := hw.1.1
      have KS := Lib.hid (show ((t : Int) == 0) = tt (StillOk N L Z N (fun k => (k : Int))) from tt_eq (by rw [← hz]; simp))
      clear hw hmt hl1 hl2 hz
      rw [KW.out, KM.out]
      have hcase : N = 2 ∨ N = 3 ∨ N = 4 ∨ N = 5 := by omega
      rcases hcase with rfl | rfl | rfl | rfl
      · have ht : (t : Int) ≤ 10 := by omega
        have ht2 : (t : Int) ≤ 1 := by omega
        go_wp2_with fail
        refine (upTo_any _ _ (by omega) (by omega)).mono ?_
        rintro e w4 ⟨g4, c4, rfl, hO4, hb4⟩
        have O4 := Lib.hid (owns_rd hO4)
        have hc4 := (owns_cap hO4).1
        have B4 := Lib.hid (below_chain B3.out hb4)
        clear hO4 hb4
        go_wp2_with (go_at_call 33; refine (swapStill_any _ gc ga A L C Z _ c4 (some ⟨g4, 0, none⟩) (fun k => (k : Int)) _ (by omega) HL.out (HT.out.below (Nat.le_refl _) B4.out) (by omega) hc4 O4.out).mono ?_; rintro e w5 ⟨rfl, hb5⟩; rw [← KS.out]; have B5 := Lib.hid (below_chain B4.out hb5); clear hb5)
        go_ret
        exact ⟨by first | rfl | simp, below_chain B1.out B5.out⟩
      · have ht : (t : Int) ≤ 10 := by omega
        have ht2 : (t : Int) ≤ 3 := by omega
        go_wp2_with fail
        refine (upTo_any _ _ (by omega) (by omega)).mono ?_
        rintro e w4 ⟨g4, c4, rfl, hO4, hb4⟩
        have O4 := Lib.hid (owns_rd hO4)
        have hc4 := (owns_cap hO4).1
        have B4 := Lib.hid (below_chain B3.out hb4)
        clear hO4 hb4
        go_wp2_with (go_at_call 33; refine (swapStill_any _ gc ga A L C Z _ c4 (some ⟨g4, 0, none⟩) (fun k => (k : Int)) _ (by omega) HL.out (HT.out.below (Nat.le_refl _) B4.out) (by omega) hc4 O4.out).mono ?_; rintro e w5 ⟨rfl, hb5⟩; rw [← KS.out]; have B5 := Lib.hid (below_chain B4.out hb5); clear hb5)
        go_ret
        exact ⟨by first | rfl | simp, below_chain B1.out B5.out⟩
      · have ht : (t : Int) ≤ 10 := by omega
        have ht2 : (t : Int) ≤ 6 := by omega
        go_wp2_with fail
        refine (upTo_any _ _ (by omega) (by omega)).mono ?_
        rintro e w4 ⟨g4, c4, rfl, hO4, hb4⟩
        have O4 := Lib.hid (owns_rd hO4)
        have hc4 := (owns_cap hO4).1
        have B4 := Lib.hid (below_chain B3.out hb4)
        clear hO4 hb4
        go_wp2_with (go_at_call 33; refine (swapStill_any _ gc ga A L C Z _ c4 (some ⟨g4, 0, none⟩) (fun k => (k : Int)) _ (by omega) HL.out (HT.out.below (Nat.le_refl _) B4.out) (by omega) hc4 O4.out).mono ?_; rintro e w5 ⟨rfl, hb5⟩; rw [← KS.out]; have B5 := Lib.hid (below_chain B4.out hb5); clear hb5)
        go_ret
        exact ⟨by first | rfl | simp, below_chain B1.out B5.out⟩
      · have ht : (t : Int) ≤ 10 := by omega
        have ht2 : (t : Int) ≤ 10 := by omega
        go_wp2_with fail
        refine (upTo_any _ _ (by omega) (by omega)).mono ?_
        rintro e w4 ⟨g4, c4, rfl, hO4, hb4⟩
        have O4 := Lib.hid (owns_rd hO4)
        have hc4 := (owns_cap hO4).1
        have B4 := Lib.hid (below_chain B3.out hb4)
        clear hO4 hb4
        go_wp2_with (go_at_call 33; refine (swapStill_any _ gc ga A L C Z _ c4 (some ⟨g4, 0, none⟩) (fun k => (k : Int)) _ (by omega) HL.out (HT.out.below (Nat.le_refl _) B4.out) (by omega) hc4 O4.out).mono ?_; rintro e w5 ⟨rfl, hb5⟩; rw [← KS.out]; have B5 := Lib.hid (below_chain B4.out hb5); clear hb5)
        go_ret
        exact ⟨by first | rfl | simp, below_chain B1.out B5.out⟩
    · have KW := Lib.hid (tt_no hw)
      have KM := Lib.hid (mostN_no hw)
      rw [KW.out, KM.out]
      clear hw
      go_wp2
      go_ret
      exact ⟨by first | rfl | simp, below_chain B1.out B3.out⟩
  · have hd : 1048576 < n := by omega
    clear hb hab
    go_enter Try.func9, Try.ntmps9
    go_wp2_with fail
    go_ret
    exact ⟨rfl, Below.refl _ _⟩
end Go.Proofs.Ytipfjblnanafnaa
