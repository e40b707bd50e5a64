/- The walk of the law FnMoved: it answers true at every code that can be read. -/
import Derived.Test.YtnaegnjgpnakfaaDoorDrawTermMoved
import Derived.Test.YtnaegnjgpnakfaaDoorTermMoved
namespace Go.Proofs.YtnaegnjgpnakfaaDoor
set_option linter.unusedVariables false
set_option linter.unusedSimpArgs false
open Go.RowKit

set_option maxRecDepth 100000 in
set_option maxHeartbeats 6400000 in
theorem fnMoved_walk (n c : Nat) (a : Option Addr) (B : Nat → Nat) (w : World) (hE : ErrAt w) (hc : n ≤ c) (hb : RdB w a n B) (hab : 0 < n → ∀ b o, a = some ⟨b, o, none⟩ → b < w.heap.size) :
    Calls Tryd.prog 13 #[.slice a n c] w fun e w' => e = .returned (.bool true) ∧ Below w.heap.size w w' := by
  by_cases hfit : n ≤ 1048576
  · have hd : ¬ (1048576 < n) := by omega
    have HD := Lib.hid (drawTermMoved_any n c a B w hfit hc hb hab)
    have HE := Lib.hid (fun (w' : World) (h : Below w.heap.size w w') => hE.below h)
    clear hb hab hE
    go_enter Tryd.func13, Tryd.ntmps13
    go_wp2_with fail
    refine HD.out.mono ?_
    rintro e w1 ⟨q, s, rfl, hq, hs, hb1⟩
    have B1 := Lib.hid hb1
    have HQ := Lib.hid (show I64 (q : Int) from ⟨by omega, by omega⟩)
    clear hb1 HD
    go_wp2_with fail
    have H2 := termMoved_any (q : Int) s w1 (HE.out _ B1.out) HQ.out
    cases ht : termN (q : Int) s with
    | none =>
      have TT := Lib.hid (And.intro (moved_none ht) (term_none ht).1)
      clear ht
      rw [TT.out.1.1, TT.out.1.2, TT.out.2] at H2
      refine H2.mono ?_
      clear H2
      rintro e w2 ⟨rfl, hb2⟩
      have B2 := Lib.hid (below_chain B1.out hb2)
      clear hb2
      go_wp2_with fail
      have H3 := specTermMoved_any (q : Int) s w2 HQ.out
      rw [TT.out.1.1, TT.out.1.2, TT.out.2] at H3
      refine H3.mono ?_
      clear H3
      rintro e w3 ⟨rfl, hb3⟩
      have B3 := Lib.hid (below_chain B2.out hb3)
      clear hb3
      go_wp2_with fail
      go_ret
      exact ⟨by first | rfl | simp, B3.out⟩
    | some t =>
      obtain ⟨N, hqN, hN, hP⟩ := trade_perm ht
      obtain rfl : q = N := by omega
      clear hqN
      have T1 := (term_some ht).1
      have T2 := (moved_some ht).1
      have T3 := (moved_some ht).2
      rw [Int.toNat_natCast] at T2 T3
      have HC := chk_facts (chk_all hN.1 hN.2 hP)
      rw [moved_is hP] at T2
      obtain ⟨M, hM⟩ : ∃ M, M = moveN q (givD q (giv q t)) := ⟨_, rfl⟩
      obtain ⟨K, hK⟩ : ∃ K, K = (cycS q (givD q (giv q t))).length := ⟨_, rfl⟩
      have f1 := HC.none
      have f2 := HC.twice
      rw [← hM, ← hK] at f1 f2
      rw [← hM] at T2
      rw [← hK] at T3
      have TT := Lib.hid (And.intro T2 (And.intro T3 T1))
      clear ht hM hK hP HC T1 T2 T3
      have hK2 : K ≤ 2 := by omega
      have hM5 : M ≤ 5 := by omega
      have hkw : IntKind.i64.wrap (2 * (K : Int)) = 2 * (K : Int) := IntWalk.i64_in _ (by omega)
      have hkv : wrap64 (2 * (K : Int)) = 2 * (K : Int) := IntWalk.wrap64_in _ (by omega)
      have g2 : decide (2 * (K : Int) ≤ (M : Int)) = true := decide_eq_true (by omega)
      have g3 : decide ((M : Int) ≤ (q : Int)) = true := decide_eq_true (by omega)
      have g3n : decide (M ≤ q) = true := decide_eq_true (by omega)
      rw [TT.out.1, TT.out.2.1, TT.out.2.2] at H2
      refine H2.mono ?_
      clear H2
      rintro e w2 ⟨rfl, hb2⟩
      have B2 := Lib.hid (below_chain B1.out hb2)
      clear hb2
      go_wp2_with fail
      have H3 := specTermMoved_any (q : Int) s w2 HQ.out
      rw [TT.out.1, TT.out.2.1, TT.out.2.2] at H3
      refine H3.mono ?_
      clear H3
      rintro e w3 ⟨rfl, hb3⟩
      have B3 := Lib.hid (below_chain B2.out hb3)
      clear hb3
      by_cases h0 : M = 0
      · have k0 : K = 0 := f1.2 h0
        have m1 : ((M : Int) == 0) = true := beq_iff_eq.2 (by omega)
        have m2 : ((K : Int) == 0) = true := beq_iff_eq.2 (by omega)
        have m1d : decide ((M : Int) = 0) = true := decide_eq_true (by omega)
        have m2d : decide ((K : Int) = 0) = true := decide_eq_true (by omega)
        clear f1 f2 h0 k0
        go_wp2_with fail
        go_ret
        exact ⟨by first | rfl | simp, B3.out⟩
      · have k0 : K ≠ 0 := fun h => h0 (f1.1 h)
        have m1 : ((M : Int) == 0) = false := beq_eq_false_iff_ne.2 (by omega)
        have m2 : ((K : Int) == 0) = false := beq_eq_false_iff_ne.2 (by omega)
        have m1d : decide ((M : Int) = 0) = false := decide_eq_false (by omega)
        have m2d : decide ((K : Int) = 0) = false := decide_eq_false (by omega)
        clear f1 f2 h0 k0
        go_wp2_with fail
        go_ret
        exact ⟨by first | rfl | simp, B3.out⟩
  · have hd : 1048576 < n := by omega
    clear hb hab hE
    go_enter Tryd.func13, Tryd.ntmps13
    go_wp2_with fail
    go_ret
    exact ⟨rfl, Below.refl _ _⟩
end Go.Proofs.YtnaegnjgpnakfaaDoor
