/- The model's l9Stakes and l9Least. -/
import Derived.Test.YtimkgplabbcklaaL9Odds
namespace Go.Proofs.Ytimkgplabbcklaa
set_option linter.unusedVariables false
set_option linter.unusedSimpArgs false
open Go.RowKit

set_option maxHeartbeats 800000 in
theorem l9Stakes_any (m c q d : Nat) (a b : Option Addr) (X Y : Nat → Int) (w : World) (hm0 : m ≤ 1048576) (hb0 : Rd w a m X) (hm1 : q ≤ 1048576) (hb1 : Rd w b q Y) :
    Calls Try.prog 41 #[.slice a m c, .slice b q d] w fun e w' => e = .returned (.bool (tt (StakedP m X q Y))) ∧ w = w' := by
  have H := Lib.hid (l9Odds_any m c a X w hm0 hb0)
  have hb := hb1
  clear hb0 hb1
  go_enter Try.func41, Try.ntmps41
  go_wp2
  go_loop [4, 5] (fun r i => ∃ k : Nat, k ≤ q ∧ i = .int .i64 k ∧ r = .bool false ∧ ∀ j, j < k → 0 ≤ Y j ∧ Y j ≤ 1000000000) (fun _ i => q - (intOf i).toNat)
  case atStart => exact ⟨0, Nat.zero_le _, rfl, rfl, fun j hj => absurd hj (Nat.not_lt_zero _)⟩
  case round =>
    obtain ⟨k, hk, rfl, rfl, hall⟩ := hrel
    have H1 := Lib.hid hall
    clear hall
    by_cases hlt : k < q
    · obtain ⟨ba, oa, rfl, hca⟩ := hb k hlt
      clear hb
      by_cases hin : InR (Y k) 0 1000000000
      · have B1 := Lib.hid (tt_of hin)
        have HI := Lib.hid hin
        clear hin
        go_wp2_with (go_at_call 50; refine (l6In_any _ _ _ _).mono ?_; rintro e w' ⟨rfl, rfl⟩; rw [B1.out])
        go_round
        case rel =>
          exact ⟨k + 1, by omega, by go_num, rfl, fun j hj => by
            by_cases e : j = k
            · subst e; exact HI.out
            · exact H1.out j (by omega)⟩
        case measure => simp [intOf]; omega
      · have B1 := Lib.hid (tt_no hin)
        have hno := Lib.hid (show ¬ StakedP m X q Y from fun h => hin (h.2 k hlt))
        clear hin
        go_wp2_with (go_at_call 50; refine (l6In_any _ _ _ _).mono ?_; rintro e w' ⟨rfl, rfl⟩; rw [B1.out])
        go_ret
        exact ⟨by rw [tt_no hno.out]; rfl, rfl⟩
    · obtain rfl : k = q := by omega
      clear hb
      by_cases h : IsOdds m X
      · have T1 := Lib.hid (tt_of h)
        by_cases he : k = m
        · subst he
          have TS := Lib.hid (tt_of (show StakedP k X k Y from ⟨⟨h, rfl⟩, H1.out⟩))
          clear h
          go_wp2_with (go_at_call 30; refine H.out.mono ?_; rintro e w' ⟨rfl, rfl⟩; rw [T1.out])
          go_ret
          exact ⟨by rw [TS.out]; rfl, rfl⟩
        · have TS := Lib.hid (tt_no (show ¬ StakedP m X k Y from fun h' => he h'.1.2))
          have d1 : ((k : Int) == (m : Int)) = false := by simp; omega
          have HE := Lib.hid he
          clear h he
          go_wp2_with (go_at_call 30; refine H.out.mono ?_; rintro e w' ⟨rfl, rfl⟩; rw [T1.out])
          go_ret
          exact ⟨by rw [TS.out]; rfl, rfl⟩
      · have T1 := Lib.hid (tt_no h)
        have TS := Lib.hid (tt_no (show ¬ StakedP m X k Y from fun h' => h h'.1.1))
        clear h
        go_wp2_with (go_at_call 30; refine H.out.mono ?_; rintro e w' ⟨rfl, rfl⟩; rw [T1.out])
        go_ret
        exact ⟨by rw [TS.out]; rfl, rfl⟩

set_option maxHeartbeats 1600000 in
theorem l9Least_any (m c d : Nat) (a b : Option Addr) (X Y : Nat → Int) (w : World) (hm1 : 1 ≤ m) (hm6 : m ≤ 6) (ha : Rd w a m X) (hb : Rd w b m Y) (hX : ∀ j, j < m → 1 ≤ X j ∧ X j ≤ 20) (hY : ∀ j, j < m → 0 ≤ Y j ∧ Y j ≤ 1000000000) :
    Calls Try.prog 42 #[.slice a m c, .slice b m d] w fun e w' => e = .returned (.tuple #[.int .i64 (leastR X Y m), .int .i64 (sumR Y m)]) ∧ ∃ t, w' = w.drewN t := by
  have HA := Lib.hid ha
  have HB := Lib.hid hb
  have HL := Lib.hid (fun k (hk : k ≤ m) => leastR_range hX hY hm1 hk)
  have HS := Lib.hid (fun k (hk : k ≤ m) => sumR_range hY hk)
  have HR := Lib.hid (fun k (hk : k < m) => ret_range (hX k hk) (hY k hk))
  have HY := Lib.hid hY
  obtain ⟨ba, oa, rfl, hca⟩ := ha 0 hm1
  obtain ⟨bb, ob, rfl, hcb⟩ := hb 0 hm1
  rw [Nat.add_zero] at hca hcb
  have hr0 := HR.out 0 hm1
  have hr1 := hr0.1
  have hr2 := hr0.2
  have hi1 : 0 < m := hm1
  obtain ⟨x0, hx0⟩ : ∃ x, x = X 0 := ⟨_, rfl⟩
  obtain ⟨y0, hy0⟩ : ∃ y, y = Y 0 := ⟨_, rfl⟩
  have E0 := Lib.hid (show leastR X Y 0 = x0 * y0 from by rw [hx0, hy0]; rfl)
  rw [← hx0] at hca hr1 hr2
  rw [← hy0] at hcb hr1 hr2
  clear ha hb hX hY hr0 hx0 hy0
  go_enter Try.func42, Try.ntmps42
  go_wp2
  go_quiet (fail)
  go_wp2
  clear hca hcb hr1 hr2
  go_loopw [6, 7, 8] (fun l s i wr => ∃ k t : Nat, k ≤ m ∧ i = .int .i64 k ∧ l = .int .i64 (leastR X Y k) ∧ s = .int .i64 (sumR Y k) ∧ wr = w.drewN t) (fun _ _ i _ => m - (intOf i).toNat)
  case atStart => exact ⟨0, _, Nat.zero_le _, rfl, by rw [E0.out], rfl, rfl⟩
  case round =>
    obtain ⟨k, t, hk, rfl, rfl, rfl, rfl⟩ := hrel
    by_cases hlt : k < m
    · obtain ⟨b1, o1, e1, hca⟩ := HA.out k hlt
      obtain ⟨b2, o2, e2, hcb⟩ := HB.out k hlt
      obtain ⟨rfl, rfl⟩ : ba = b1 ∧ oa = o1 := by simpa using e1
      obtain ⟨rfl, rfl⟩ : bb = b2 ∧ ob = o2 := by simpa using e2
      have hr0 := HR.out k hlt
      have hl0 := HL.out k hk
      have hs0 := HS.out k hk
      have hy0 := HY.out k hlt
      have hs1 := hs0.1
      have hs2 : sumR Y k ≤ 6000000000 := by have := hs0.2; omega
      have hy1 := hy0.1
      have hy2 := hy0.2
      have EL := Lib.hid (show leastR X Y (k + 1) = min (leastR X Y k) (X k * Y k) from rfl)
      have ES := Lib.hid (show sumR Y (k + 1) = sumR Y k + Y k from rfl)
      obtain ⟨l, hl⟩ : ∃ l, l = leastR X Y k := ⟨_, rfl⟩
      obtain ⟨s, hs⟩ : ∃ s, s = sumR Y k := ⟨_, rfl⟩
      obtain ⟨x, hx⟩ : ∃ x, x = X k := ⟨_, rfl⟩
      obtain ⟨y, hy⟩ : ∃ y, y = Y k := ⟨_, rfl⟩
      rw [← hl] at EL ⊢
      rw [← hs] at ES hs1 hs2 ⊢
      rw [← hx] at EL hca hr0
      rw [← hy] at EL ES hcb hr0 hy1 hy2
      have hr1 := hr0.1
      have hr2 := hr0.2
      clear e1 e2 hl0 hs0 hy0 hr0 hl hs hx hy
      go_wp2
      go_quiet (fail)
      go_wp2
      go_roundw
      case rel => exact ⟨k + 1, _, by omega, by go_num, by rw [EL.out]; congr 1; split <;> omega, by rw [ES.out], by first | rfl | rw [World.drewN_drewN]⟩
      case measure => simp [intOf]; omega
    · obtain rfl : k = m := by omega
      obtain ⟨l, hl⟩ : ∃ l, l = leastR X Y k := ⟨_, rfl⟩
      obtain ⟨s, hs⟩ : ∃ s, s = sumR Y k := ⟨_, rfl⟩
      rw [← hl, ← hs]
      have QT := Lib.hid hl
      have QB := Lib.hid hs
      clear hl hs
      go_wp2
      go_ret2
      exact ⟨by rw [← QT.out, ← QB.out]; rfl, _, rfl⟩
end Go.Proofs.Ytimkgplabbcklaa
