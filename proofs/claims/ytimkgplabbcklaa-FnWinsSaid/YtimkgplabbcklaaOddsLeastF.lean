/- The program's hasStakes, leastAndSum and OddsLeast. -/
import Derived.Test.YtimkgplabbcklaaReadOdds
import Derived.Test.YtimkgplabbcklaaWithin
namespace Go.Proofs.Ytimkgplabbcklaa
set_option linter.unusedVariables false
set_option linter.unusedSimpArgs false
open Go.RowKit

set_option maxRecDepth 100000 in
set_option maxHeartbeats 1600000 in
theorem hasStakes_any (m c q d : Nat) (a b : Option Addr) (X Y : Nat → Int) (w : World) (h : IsOdds m X) (hm1 : q ≤ 1048576) (hb1 : Rd w b q Y) :
    Calls Try.prog 37 #[.slice a m c, .slice b q d] w fun e w' => e = .returned (.bool (tt (StakedP m X q Y))) ∧ w = w' := by
  have HW := Lib.hid (within_any q d b Y 0 1000000000 w hm1 hb1)
  by_cases he : q = m
  · subst he
    have E := Lib.hid (show tt (AllR q Y 0 1000000000) = tt (StakedP q X q Y) from tt_congr ⟨fun h' => ⟨⟨h, rfl⟩, fun j hj => h' j hj⟩, fun h' j hj => h'.2 j hj⟩)
    have d1 : ((q : Int) == (q : Int)) = true := by simp
    clear h hb1
    go_enter Try.func37, Try.ntmps37
    go_wp2_with (go_at_call 52; refine HW.out.mono ?_; rintro e w' ⟨rfl, rfl⟩; rw [E.out])
    go_ret
    exact ⟨rfl, rfl⟩
  · rw [tt_no (show ¬ StakedP m X q Y from fun h' => he h'.1.2)]
    have d1 : ((q : Int) == (m : Int)) = false := by simp; omega
    have HE := Lib.hid he
    clear h hb1 he
    go_enter Try.func37, Try.ntmps37
    go_wp2_with fail
    go_ret
    exact ⟨rfl, rfl⟩

set_option maxHeartbeats 1600000 in
theorem leastAndSum_any (m c d : Nat) (a b : Option Addr) (X Y : Nat → Int) (w : World) (hm1 : 1 ≤ m) (hm6 : m ≤ 6) (ha : Rd w a m X) (hb : Rd w b m Y) (hX : ∀ j, j < m → 1 ≤ X j ∧ X j ≤ 20) (hY : ∀ j, j < m → 0 ≤ Y j ∧ Y j ≤ 1000000000) :
    Calls Try.prog 38 #[.slice a m c, .slice b m d] w fun e w' => e = .returned (.tuple #[.int .i64 (leastR X Y m), .int .i64 (sumR Y m)]) ∧ ∃ t, w' = w.drewN t := by
  have HA := Lib.hid ha
  have HB := Lib.hid hb
  have HL := Lib.hid (fun k (hk : k ≤ m) => leastR_range hX hY hm1 hk)
  have HS := Lib.hid (fun k (hk : k ≤ m) => sumR_range hY hk)
  have HR := Lib.hid (fun k (hk : k < m) => ret_range (hX k hk) (hY k hk))
  have HY := Lib.hid hY
  obtain ⟨ba, oa, rfl, hca⟩ := ha 0 hm1
  obtain ⟨bb, ob, rfl, hcb⟩ := hb 0 hm1
  rw [Nat.add_zero] at hca hcb
  have hr0 := HR.out 0 hm1
  have hr1 := hr0.1
  have hr2 := hr0.2
  have hi1 : 0 < m := hm1
  obtain ⟨x0, hx0⟩ : ∃ x, x = X 0 := ⟨_, rfl⟩
  obtain ⟨y0, hy0⟩ : ∃ y, y = Y 0 := ⟨_, rfl⟩
  have E0 := Lib.hid (show leastR X Y 0 = x0 * y0 from by rw [hx0, hy0]; rfl)
  rw [← hx0] at hca hr1 hr2
  rw [← hy0] at hcb hr1 hr2
  clear ha hb hX hY hr0 hx0 hy0
  go_enter Try.func38, Try.ntmps38
  go_wp2
  go_quiet (fail)
  go_wp2
  clear hca hcb hr1 hr2
  go_loopw [6, 7, 8, 9, 19] (fun l s _ _ i wr => ∃ k t : Nat, k ≤ m ∧ i = .int .i64 k ∧ l = .int .i64 (leastR X Y k) ∧ s = .int .i64 (sumR Y k) ∧ wr = w.drewN t) (fun _ _ _ _ i _ => m - (intOf i).toNat)
  case atStart => exact ⟨0, _, Nat.zero_le _, rfl, by rw [E0.out], rfl, rfl⟩
  case round =>
    obtain ⟨k, t, hk, rfl, rfl, rfl, rfl⟩ := hrel
    by_cases hlt : k < m
    · obtain ⟨b1, o1, e1, hca⟩ := HA.out k hlt
      obtain ⟨b2, o2, e2, hcb⟩ := HB.out k hlt
      obtain ⟨rfl, rfl⟩ : ba = b1 ∧ oa = o1 := by simpa using e1
      obtain ⟨rfl, rfl⟩ : bb = b2 ∧ ob = o2 := by simpa using e2
      have hr0 := HR.out k hlt
      have hl0 := HL.out k hk
      have hs0 := HS.out k hk
      have hy0 := HY.out k hlt
      have hs1 := hs0.1
      have hs2 : sumR Y k ≤ 6000000000 := by have := hs0.2; omega
      have hy1 := hy0.1
      have hy2 := hy0.2
      have EL := Lib.hid (show leastR X Y (k + 1) = min (leastR X Y k) (X k * Y k) from rfl)
      have ES := Lib.hid (show sumR Y (k + 1) = sumR Y k + Y k from rfl)
      obtain ⟨l, hl⟩ : ∃ l, l = leastR X Y k := ⟨_, rfl⟩
      obtain ⟨s, hs⟩ : ∃ s, s = sumR Y k := ⟨_, rfl⟩
      obtain ⟨x, hx⟩ : ∃ x, x = X k := ⟨_, rfl⟩
      obtain ⟨y, hy⟩ : ∃ y, y = Y k := ⟨_, rfl⟩
      rw [← hl] at EL ⊢
      rw [← hs] at ES hs1 hs2 ⊢
      rw [← hx] at EL hca hr0
      rw [← hy] at EL ES hcb hr0 hy1 hy2
      have hr1 := hr0.1
      have hr2 := hr0.2
      have i1 : (0 : Int) ≤ (k : Int) := by omega
      have i2 : (k : Int) < (m : Int) := by omega
      clear e1 e2 hl0 hs0 hy0 hr0 hl hs hx hy
      go_wp2
      go_roundw
      case rel => exact ⟨k + 1, _, by omega, by go_num, by rw [EL.out], by rw [ES.out], by first | rfl | rw [World.drewN_drewN]⟩
      case measure => simp [intOf]; omega
    · obtain rfl : k = m := by omega
      obtain ⟨l, hl⟩ : ∃ l, l = leastR X Y k := ⟨_, rfl⟩
      obtain ⟨s, hs⟩ : ∃ s, s = sumR Y k := ⟨_, rfl⟩
      rw [← hl, ← hs]
      have QT := Lib.hid hl
      have QB := Lib.hid hs
      clear hl hs
      go_wp2
      go_ret2
      exact ⟨by rw [← QT.out, ← QB.out]; rfl, _, rfl⟩

set_option maxRecDepth 100000 in
set_option maxHeartbeats 1600000 in
theorem oddsLeast_all (m c q d : Nat) (a b : Option Addr) (X Y : Nat → Int) (w : World) (hm0 : m ≤ 1048576) (hb0 : Rd w a m X) (hm1 : q ≤ 1048576) (hb1 : Rd w b q Y) :
    Calls Try.prog 17 #[.slice a m c, .slice b q d] w fun e w' => e = .returned (.tuple #[.int .i64 (leastA m X q Y), .int .i64 (stakedA m X q Y), .bool (tt (StakedP m X q Y))]) ∧ Below w.heap.size w w' := by
  have H := Lib.hid (readOdds_any m c a X w hm0 hb0)
  by_cases ho : IsOdds m X
  · have T1 := Lib.hid (tt_of ho)
    have HH := Lib.hid (hasStakes_any m c q d a b X Y w ho hm1 hb1)
    by_cases h : StakedP m X q Y
    · have T2 := Lib.hid (tt_of h)
      have hq := h.1.2
      subst hq
      have HS := leastAndSum_any q c d a b X Y w (by have := ho.1; omega) ho.1.2 hb0 hb1 ho.2 h.2
      rw [leastA_yes h, stakedA_yes h, T2.out]
      obtain ⟨t, ht⟩ : ∃ t, t = leastR X Y q := ⟨_, rfl⟩
      obtain ⟨s, hs⟩ : ∃ s, s = sumR Y q := ⟨_, rfl⟩
      rw [← ht, ← hs] at HS ⊢
      have HS := Lib.hid HS
      clear ht hs h ho hb0 hb1
      go_enter Try.func17, Try.ntmps17
      go_wp2_with (first
        | (go_at_call 27; refine H.out.mono ?_; rintro e w' ⟨rfl, rfl⟩; rw [T1.out, show ∀ a : Option Addr, oddsV true a q c = .slice a q c from fun _ => rfl])
        | (go_at_call 37; refine HH.out.mono ?_; rintro e w' ⟨rfl, rfl⟩; rw [T2.out])
        | (go_at_call 38; refine HS.out.mono ?_; rintro e w3 ⟨rfl, t1, rfl⟩))
      go_ret3
      exact ⟨rfl, below_drewN (Below.refl _ _) t1⟩
    · have T2 := Lib.hid (tt_no h)
      rw [leastA_no h, stakedA_no h, T2.out]
      clear h ho hb0 hb1
      go_enter Try.func17, Try.ntmps17
      go_wp2_with (first
        | (go_at_call 27; refine H.out.mono ?_; rintro e w' ⟨rfl, rfl⟩; rw [T1.out, show ∀ a : Option Addr, oddsV true a m c = .slice a m c from fun _ => rfl])
        | (go_at_call 37; refine HH.out.mono ?_; rintro e w' ⟨rfl, rfl⟩; rw [T2.out]))
      go_ret3
      exact ⟨rfl, Below.refl _ _⟩
  · have T1 := Lib.hid (tt_no ho)
    have h : ¬ StakedP m X q Y := fun h' => ho h'.1.1
    rw [leastA_no h, stakedA_no h, tt_no h]
    clear h ho hb0 hb1
    go_enter Try.func17, Try.ntmps17
    go_wp2_with (go_at_call 27; refine H.out.mono ?_; rintro e w' ⟨rfl, rfl⟩; rw [T1.out, show ∀ a : Option Addr, oddsV false a m c = .slice none 0 0 from fun _ => rfl])
    go_ret3
    exact ⟨rfl, Below.refl _ _⟩
theorem oddsLeast_any (m c q d : Nat) (a b : Option Addr) (X Y : Nat → Int) (w : World) (hm0 : m ≤ 1048576) (hmd0 : m ≤ c) (hb0 : Rd w a m X) (hm1 : q ≤ 1048576) (hmd1 : q ≤ d) (hb1 : Rd w b q Y) :
    Calls Try.prog 17 #[.slice a m c, .slice b q d] w fun e w' => e = .returned (.tuple #[.int .i64 (leastA m X q Y), .int .i64 (stakedA m X q Y), .bool (tt (StakedP m X q Y))]) ∧ Below w.heap.size w w' := oddsLeast_all m c q d a b X Y w hm0 hb0 hm1 hb1
end Go.Proofs.Ytimkgplabbcklaa
