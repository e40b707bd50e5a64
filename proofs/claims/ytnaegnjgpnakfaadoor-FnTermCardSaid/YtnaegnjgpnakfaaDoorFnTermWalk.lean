/- The walk of the law FnTerm: it answers true at every code that can be read. -/
import Derived.Test.YtnaegnjgpnakfaaDoorDrawTermIn
import Derived.Test.YtnaegnjgpnakfaaDoorTermIn
import Derived.Test.YtnaegnjgpnakfaaDoorTermTexts
namespace Go.Proofs.YtnaegnjgpnakfaaDoor
set_option linter.unusedVariables false
set_option linter.unusedSimpArgs false
open Go.RowKit

set_option maxRecDepth 100000 in
set_option maxHeartbeats 6400000 in
theorem fnTerm_walk (n c : Nat) (a : Option Addr) (B : Nat → Nat) (w : World) (hE : ErrAt w) (hc : n ≤ c) (hb : RdB w a n B) (hab : 0 < n → ∀ b o, a = some ⟨b, o, none⟩ → b < w.heap.size) :
    Calls Tryd.prog 9 #[.slice a n c] w fun e w' => e = .returned (.bool true) ∧ Below w.heap.size w w' := by
  by_cases hfit : n ≤ 1048576
  · have hd : ¬ (1048576 < n) := by omega
    have HD := Lib.hid (drawTermIn_any n c a B w hfit hc hb hab)
    have HE := Lib.hid (fun (w' : World) (h : Below w.heap.size w w') => hE.below h)
    clear hb hab hE
    go_enter Tryd.func9, Tryd.ntmps9
    go_wp2_with fail
    refine HD.out.mono ?_
    rintro e w1 ⟨q, s, rfl, hq, hs, hb1⟩
    have B1 := Lib.hid hb1
    have HQ := Lib.hid (show I64 (q : Int) from ⟨by omega, by omega⟩)
    clear hb1 HD
    cases ht : termN (q : Int) s with
    | none =>
      have K := Lib.hid (isTerm_no ht)
      clear ht
      go_wp2_with (first
        | (go_at_call 15; refine (termIn_any q s _ (HE.out _ B1.out) HQ.out).mono ?_; rintro e w2 ⟨rfl, hb2⟩; rw [K.out]; have B2 := Lib.hid (below_chain B1.out hb2); clear hb2)
        | (go_at_call 14; refine (specTermIn_any q s _ HQ.out).mono ?_; rintro e w3 ⟨rfl, hb3⟩; rw [K.out]; have B3 := Lib.hid (below_chain B2.out hb3); clear hb3))
      go_ret
      exact ⟨rfl, B3.out⟩
    | some t =>
      have K := Lib.hid (isTerm ht)
      have K1 := Lib.hid (isTerm (term_sign 45 (by unfold SignP; decide) ht (by omega)))
      have K2 := Lib.hid (isTerm (term_sign 50 (by unfold SignP; decide) ht (by omega)))
      have K3 := Lib.hid (fun h : (q : Int) ≠ 5 => (isTerm (term_more ht h)))
      have K4 := Lib.hid (isTerm_no (term_closed 41 ht))
      have d1 : decide ((59 : Int) < (s.size : Int)) = false := decide_eq_false (by omega)
      have d1n : decide (59 < s.size) = false := decide_eq_false (by omega)
      have hqw : IntKind.i64.wrap ((q : Int) + 1) = (q : Int) + 1 := IntWalk.i64_in _ (by omega)
      have hqv : wrap64 ((q : Int) + 1) = (q : Int) + 1 := IntWalk.wrap64_in _ (by omega)
      have HQ1 := Lib.hid (show I64 ((q : Int) + 1) from ⟨by omega, by omega⟩)
      clear ht
      by_cases h5 : q = 5
      · have q5 : ((q : Int) == 5) = true := beq_iff_eq.2 (by omega)
        have q5d : decide ((q : Int) = 5) = true := decide_eq_true (by omega)
        clear K3 hqw hqv HQ1 h5
        have t1 : True := trivial
        have t2 : True := trivial
        have t3 : True := trivial
        have t4 : True := trivial
        have t5 : True := trivial
        have t6 : True := trivial
        go_wp2_with (first
          | (have _t := t1; go_at_call 15; refine (termIn_any q s _ (HE.out _ B1.out) HQ.out).mono ?_; rintro e w2 ⟨rfl, hb2⟩; rw [K.out]; have B2 := Lib.hid (below_chain B1.out hb2); clear hb2 t1 _t)
          | (have _t := t2; go_at_call 14; refine (specTermIn_any q s _ HQ.out).mono ?_; rintro e w3 ⟨rfl, hb3⟩; rw [K.out]; have B3 := Lib.hid (below_chain B2.out hb3); clear hb3 t2 _t)
          | (have _t := t3; go_at_call 15; have H9 := termIn_any (q : Int) (⟨#[45]⟩ ++ s) w3 (HE.out _ B3.out) HQ.out; rw [K1.out] at H9; refine H9.mono ?_; clear H9; rintro e w4 ⟨rfl, hb4⟩; have B4 := Lib.hid (below_chain B3.out hb4); clear hb4 t3 _t)
          | (have _t := t4; go_at_call 15; have H9 := termIn_any (q : Int) (⟨#[50]⟩ ++ s) w4 (HE.out _ B4.out) HQ.out; rw [K2.out] at H9; refine H9.mono ?_; clear H9; rintro e w5 ⟨rfl, hb5⟩; have B5 := Lib.hid (below_chain B4.out hb5); clear hb5 t4 _t)
          | (have _t := t5; go_at_call 15; have H9 := termIn_any (q : Int) (s ++ ⟨#[41]⟩) w5 (HE.out _ B5.out) HQ.out; rw [K4.out] at H9; refine H9.mono ?_; clear H9; rintro e w7 ⟨rfl, hb7⟩; have B7 := Lib.hid (below_chain B5.out hb7); clear hb7 t5 _t))
        go_ret
        exact ⟨rfl, B7.out⟩
      · have q5 : ((q : Int) == 5) = false := beq_eq_false_iff_ne.2 (by omega)
        have q5d : decide ((q : Int) = 5) = false := decide_eq_false (by omega)
        have K3 := Lib.hid (K3.out (by omega))
        clear h5
        have t1 : True := trivial
        have t2 : True := trivial
        have t3 : True := trivial
        have t4 : True := trivial
        have t5 : True := trivial
        have t6 : True := trivial
        go_wp2_with (first
          | (have _t := t1; go_at_call 15; refine (termIn_any q s _ (HE.out _ B1.out) HQ.out).mono ?_; rintro e w2 ⟨rfl, hb2⟩; rw [K.out]; have B2 := Lib.hid (below_chain B1.out hb2); clear hb2 t1 _t)
          | (have _t := t2; go_at_call 14; refine (specTermIn_any q s _ HQ.out).mono ?_; rintro e w3 ⟨rfl, hb3⟩; rw [K.out]; have B3 := Lib.hid (below_chain B2.out hb3); clear hb3 t2 _t)
          | (have _t := t3; go_at_call 15; have H9 := termIn_any (q : Int) (⟨#[45]⟩ ++ s) w3 (HE.out _ B3.out) HQ.out; rw [K1.out] at H9; refine H9.mono ?_; clear H9; rintro e w4 ⟨rfl, hb4⟩; have B4 := Lib.hid (below_chain B3.out hb4); clear hb4 t3 _t)
          | (have _t := t4; go_at_call 15; have H9 := termIn_any (q : Int) (⟨#[50]⟩ ++ s) w4 (HE.out _ B4.out) HQ.out; rw [K2.out] at H9; refine H9.mono ?_; clear H9; rintro e w5 ⟨rfl, hb5⟩; have B5 := Lib.hid (below_chain B4.out hb5); clear hb5 t4 _t)
          | (have _t := t5; go_at_call 15; have H9 := termIn_any ((q : Int) + 1) s w5 (HE.out _ B5.out) HQ1.out; rw [K3.out] at H9; refine H9.mono ?_; clear H9; rintro e w6 ⟨rfl, hb6⟩; have B6 := Lib.hid (below_chain B5.out hb6); clear hb6 t5 _t)
          | (have _t := t6; go_at_call 15; have H9 := termIn_any (q : Int) (s ++ ⟨#[41]⟩) w6 (HE.out _ B6.out) HQ.out; rw [K4.out] at H9; refine H9.mono ?_; clear H9; rintro e w7 ⟨rfl, hb7⟩; have B7 := Lib.hid (below_chain B6.out hb7); clear hb7 t6 _t))
        go_ret
        exact ⟨rfl, B7.out⟩
  · have hd : 1048576 < n := by omega
    clear hb hab hE
    go_enter Tryd.func9, Tryd.ntmps9
    go_wp2_with fail
    go_ret
    exact ⟨rfl, Below.refl _ _⟩
end Go.Proofs.YtnaegnjgpnakfaaDoor
