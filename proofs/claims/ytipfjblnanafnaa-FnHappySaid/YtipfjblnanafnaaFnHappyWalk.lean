/- The walk of the law FnHappy: it answers true at every code that can be read. -/
import Derived.Test.YtipfjblnanafnaaDrawTurnHappy
import Derived.Test.YtipfjblnanafnaaTurnHappy
import Derived.Test.YtipfjblnanafnaaSpecTurnHappy
import Derived.Test.YtipfjblnanafnaaHouseTrade
import Derived.Test.YtipfjblnanafnaaHouseTurns
import Derived.Test.YtipfjblnanafnaaTradeGiving
import Derived.Test.YtipfjblnanafnaaSameInts
namespace Go.Proofs.Ytipfjblnanafnaa
set_option linter.unusedVariables false
set_option linter.unusedSimpArgs false
open Go.RowKit

/-- All get what they like best just if trading in circles gives it at once. -/
theorem happy_all {n : Nat} {L : Nat → Nat} {Z : Nat → Nat → Int} {G : Nat → Int} (hg : GivenOk n L Z n G) : hapF Z G n = n ↔ SameB n n (giveF Z n) G ∧ turnsN Z n = 1 := by
  rw [hapF_all, turns_one hg.1]
  constructor
  · intro h
    have hc : ∀ i, i < n → circB Z n (tS Z n 0) i = true := fun i hi => all_circ hg.1 (fun y hy => by
      obtain ⟨j, hj, e⟩ := hg.2.2.all hy
      exact ⟨j, hj, by rw [h j hj, e]⟩) hi
    exact ⟨⟨rfl, fun i hi => by rw [first_best hg.1 (hc i hi), h i hi]⟩, hc⟩
  · rintro ⟨⟨_, h1⟩, h2⟩ i hi
    rw [← h1 i hi, first_best hg.1 (h2 i hi)]

set_option maxHeartbeats 3200000 in
set_option maxRecDepth 100000 in
theorem fnHappy_walk (n c : Nat) (a : Option Addr) (B : Nat → Nat) (w : World) (hc : n ≤ c) (hb : RdB w a n B) (hab : 0 < n → ∀ b o, a = some ⟨b, o, none⟩ → b < w.heap.size) :
    Calls Try.prog 5 #[.slice a n c] w fun e w' => e = .returned (.bool true) ∧ Below w.heap.size w w' := by
  by_cases hfit : n ≤ 1048576
  · have hd : ¬ (1048576 < n) := by omega
    have HD := Lib.hid (drawTurnHappy_any n c a B w hfit hc hb hab)
    clear hb hab
    go_enter Try.func5, Try.ntmps5
    go_wp2_with fail
    refine HD.out.mono ?_
    rintro e w1 ⟨ga, N, gc, A, L, C, Z, b, m, d, X, rfl, ⟨⟨hN1, hN5⟩, hmd, hm6⟩, hL, hT, hX, hb1⟩
    have HT := Lib.hid hT
    have HX := Lib.hid hX
    have HL := Lib.hid (show ∀ r, r < N → L r ≤ 1048576 from fun r hr => by have := hL r hr; omega)
    have B1 := Lib.hid hb1
    clear hT hX hL hb1 HD
    go_wp2_with fail
    refine (turnHappy_any N gc ga A L C Z m d b X _ (by omega) HL.out HT.out (by omega) hmd HX.out).mono ?_
    rintro e w2 ⟨rfl, hb2⟩
    have B2 := Lib.hid hb2
    clear hb2
    go_wp2_with fail
    refine (specTurnHappy_any N gc ga A L C Z m d b X _ (by omega) HL.out (HT.out.below (Nat.le_refl _) B2.out) (by omega) (HX.out.below (Nat.le_refl _) B2.out)).mono ?_
    rintro e w3 ⟨rfl, hb3⟩
    have B3 := Lib.hid (below_chain B2.out hb3)
    clear hb3
    by_cases hok : GivenOk N L Z m X
    · obtain rfl : m = N := hok.2.1
      have K1 := Lib.hid (tt_of hok)
      have KA := Lib.hid (happyN_yes hok)
      have hW := hok.1
      have KW := Lib.hid (tt_of hW)
      have KN := Lib.hid (tradeN_yes hW)
      have KI := Lib.hid (show ifWishes m L Z (turnsN Z m : Nat) = (turnsN Z m : Nat) by unfold ifWishes; rw [if_pos KW.out])
      have hall := happy_all hok
      obtain ⟨H0, hH⟩ : ∃ H0, H0 = hapF Z X m := ⟨_, rfl⟩
      obtain ⟨T0, hT0⟩ : ∃ T0, T0 = turnsN Z m := ⟨_, rfl⟩
      have hle : H0 ≤ m := by rw [hH]; exact hapF_le Z X m
      rw [← hH, ← hT0] at hall
      have QH := Lib.hid hH
      have QT := Lib.hid hT0
      rw [K1.out, KA.out, ← QH.out]
      have hle2 : (H0 : Int) ≤ (m : Int) := by omega
      clear hH hT0 hok hW
      go_wp2_with fail
      refine (houseTrade_any m gc ga A L C Z _ (by omega) HL.out (HT.out.below (Nat.le_refl _) B3.out)).mono ?_
      rintro e w4 ⟨a4, c4, rfl, hO4, hb4⟩
      rw [KW.out, KN.out]
      rw [KN.out] at hO4
      have O4 := Lib.hid hO4
      have B4 := Lib.hid (below_chain B3.out hb4)
      clear hO4 hb4
      go_wp2_with fail
      refine (houseTurns_any m gc ga A L C Z _ (by omega) HL.out (HT.out.below (Nat.le_refl _) B4.out)).mono ?_
      rintro e w5 ⟨rfl, hb5⟩
      rw [KW.out, KI.out, ← QT.out]
      have B5 := Lib.hid (below_chain B4.out hb5)
      have S5 := Lib.hid (fun (w9 : World) (h : Below w5.heap.size w5 w9) => sameInts_any m m c4 d a4 b (giveF Z m) X w9 (by omega) (by omega) (((O4.out.below (Nat.le_refl _) hb5).rd).below (Nat.le_refl _) h) ((HX.out.below (Nat.le_refl _) (below_chain B4.out hb5)).below (Nat.le_refl _) h))
      clear hb5
      by_cases hS : SameB m m (giveF Z m) X
      · have T1 := Lib.hid (tt_of hS)
        by_cases ht : T0 = 1
        · have hHm : H0 = m := hall.2 ⟨hS, ht⟩
          have d1 : ((H0 : Int) == (m : Int)) = true := by simp [hHm]
          have d2 : ((T0 : Int) == 1) = true := by simp [ht]
          clear hall hS ht hHm
          go_wp2_with (go_at_call 25; refine (S5.out _ (Below.refl _ _)).mono ?_; rintro e w6 ⟨rfl, q, rfl⟩; rw [T1.out])
          go_ret
          exact ⟨by first | rfl | simp, below_drewN (below_chain B1.out B5.out) q⟩
        · have hHm : H0 ≠ m := fun h => ht (hall.1 h).2
          have d1 : ((H0 : Int) == (m : Int)) = false := by simp; omega
          have d2 : ((T0 : Int) == 1) = false := by simp; omega
          clear hall hS ht hHm
          go_wp2_with (go_at_call 25; refine (S5.out _ (Below.refl _ _)).mono ?_; rintro e w6 ⟨rfl, q, rfl⟩; rw [T1.out])
          go_ret
          exact ⟨by first | rfl | simp, below_drewN (below_chain B1.out B5.out) q⟩
      · have T1 := Lib.hid (tt_no hS)
        have hHm : H0 ≠ m := fun h => hS (hall.1 h).1
        have d1 : ((H0 : Int) == (m : Int)) = false := by simp; omega
        clear hall hS hHm
        go_wp2_with (go_at_call 25; refine (S5.out _ (Below.refl _ _)).mono ?_; rintro e w6 ⟨rfl, q, rfl⟩; rw [T1.out])
        go_ret
        exact ⟨by first | rfl | simp, below_drewN (below_chain B1.out B5.out) q⟩
    · have K1 := Lib.hid (tt_no hok)
      have KA := Lib.hid (happyN_no hok)
      rw [K1.out, KA.out]
      clear hok
      go_wp2
      go_ret
      exact ⟨by first | rfl | simp, below_chain B1.out B3.out⟩
  · have hd : 1048576 < n := by omega
    clear hb hab
    go_enter Try.func5, Try.ntmps5
    go_wp2_with fail
    go_ret
    exact ⟨rfl, Below.refl _ _⟩
end Go.Proofs.Ytipfjblnanafnaa
