/- The walk of the law FnPower: it answers true at every code that can be read. -/
import Derived.Test.YtnaegnjgpnakfaaDoorDrawTermGives
import Derived.Test.YtnaegnjgpnakfaaDoorTermGives
import Derived.Test.YtnaegnjgpnakfaaDoorTermTexts
import Derived.Test.YtnaegnjgpnakfaaDoorSameInts
import Derived.BigQuiet
namespace Go.Proofs.YtnaegnjgpnakfaaDoor
set_option linter.unusedVariables false
set_option linter.unusedSimpArgs false
open Go.RowKit

set_option maxRecDepth 100000 in
set_option maxHeartbeats 6400000 in
theorem fnPower_walk (n c : Nat) (a : Option Addr) (B : Nat → Nat) (w : World) (hE : ErrAt w) (hc : n ≤ c) (hb : RdB w a n B) (hab : 0 < n → ∀ b o, a = some ⟨b, o, none⟩ → b < w.heap.size) :
    Calls Tryd.prog 11 #[.slice a n c] w fun e w' => e = .returned (.bool true) ∧ Below w.heap.size w w' := by
  by_cases hfit : n ≤ 1048576
  · have hd : ¬ (1048576 < n) := by omega
    have HD := Lib.hid (drawTermGives_any n c a B w hfit hc hb hab)
    have HE := Lib.hid (fun (w' : World) (h : Below w.heap.size w w') => hE.below h)
    clear hb hab hE
    go_enter Tryd.func11, Tryd.ntmps11
    go_wp2_with fail
    refine HD.out.mono ?_
    rintro e w1 ⟨q, s, rfl, hq, hs, hb1⟩
    have B1 := Lib.hid hb1
    have HQ := Lib.hid (show I64 (q : Int) from ⟨by omega, by omega⟩)
    clear hb1 HD
    go_wp2_with fail
    have H2 := termGives_any (q : Int) s w1 (HE.out _ B1.out) HQ.out
    cases ht : termN (q : Int) s with
    | none =>
      obtain ⟨T1, T2⟩ := term_none ht
      have TT := Lib.hid (term_none ht)
      clear ht
      rw [T1, T2] at H2
      clear T1 T2
      refine H2.mono ?_
      clear H2
      rintro e w2 ⟨ga2, gc2, rfl, hO2, hb2⟩
      have O2 := Lib.hid hO2.rd
      have Z2 := Lib.hid hb2.size
      have B2 := Lib.hid (below_chain B1.out hb2)
      clear hO2 hb2
      go_wp2_with fail
      have H3 := specTermGives_any (q : Int) s w2 HQ.out
      rw [TT.out.1, TT.out.2] at H3
      refine H3.mono ?_
      clear H3
      rintro e w3 ⟨ga3, gc3, rfl, hO3, hb3⟩
      have O3 := Lib.hid hO3.rd
      have P3 := Lib.hid (O2.out.below (Nat.le_refl _) hb3)
      have B3 := Lib.hid (below_chain B2.out hb3)
      clear hO3 hb3 O2
      have t1 : True := trivial
      go_wp2_with (first
        | (have _t := t1; go_at_call 31; have H4 := sameInts_any 0 0 gc2 gc3 ga2 ga3 _ _ w3 (by omega) (by omega) P3.out O3.out; rw [tt_of (show SameB 0 0 _ _ from ⟨rfl, fun j hj => absurd hj (Nat.not_lt_zero _)⟩)] at H4; refine H4.mono ?_; clear H4; rintro e w4 ⟨rfl, d4, rfl⟩; have P4 := Lib.hid (P3.out.drewN d4); have O4 := Lib.hid (O3.out.drewN d4); have B4 := Lib.hid (below_drewN B3.out d4); clear P3 O3 t1 _t)
        | (go_at_call 31; have H4 := sameInts_any 0 0 gc2 gc3 ga2 ga3 _ _ _ (by omega) (by omega) P4.out O4.out; rw [tt_of (show SameB 0 0 _ _ from ⟨rfl, fun j hj => absurd hj (Nat.not_lt_zero _)⟩)] at H4; refine H4.mono ?_; clear H4; rintro e w5 ⟨rfl, d5, rfl⟩; have B5 := Lib.hid (below_drewN B4.out d5); clear P4 O4))
      go_ret
      exact ⟨rfl, by first | exact B5.out | exact below_drewN B3.out _⟩
    | some t =>
      obtain ⟨T1, T2, T3⟩ := term_some ht
      rw [Int.toNat_natCast] at T2 T3
      have TT := Lib.hid (And.intro T1 (And.intro T2 T3))
      have HP := Lib.hid (show People (q : Int) ∧ IsDiff q q (giv q t) from by
        have h := (termN_some ht).1
        have h2 := giv_perm (n := q) (termN_wf ht) (by have := (termN_some ht).2.2; omega)
        exact ⟨h, h2⟩)
      have HT := Lib.hid ht
      clear ht
      rw [T1, T2, T3] at H2
      clear T1 T2 T3
      refine H2.mono ?_
      clear H2
      rintro e w2 ⟨ga2, gc2, rfl, hO2, hb2⟩
      have O2 := Lib.hid hO2.rd
      have Z2 := Lib.hid hb2.size
      have B2 := Lib.hid (below_chain B1.out hb2)
      clear hO2 hb2
      go_wp2_with fail
      have H3 := specTermGives_any (q : Int) s w2 HQ.out
      rw [TT.out.1, TT.out.2.1, TT.out.2.2] at H3
      refine H3.mono ?_
      clear H3
      rintro e w3 ⟨ga3, gc3, rfl, hO3, hb3⟩
      have O3 := Lib.hid hO3.rd
      have P3 := Lib.hid (O2.out.below (Nat.le_refl _) hb3)
      have B3 := Lib.hid (below_chain B2.out hb3)
      clear hO3 hb3 O2
      by_cases h27 : 27 < s.size
      · have d1 : decide ((27 : Int) < (s.size : Int)) = true := decide_eq_true (by omega)
        have d1n : decide (27 < s.size) = true := decide_eq_true h27
        clear h27
        go_wp2_with (first
          | (go_at_call 31; have H4 := sameInts_any q q gc2 gc3 ga2 ga3 _ _ w3 (by omega) (by omega) P3.out O3.out; rw [tt_of (show SameB q q _ _ from ⟨rfl, fun j hj => rfl⟩)] at H4; refine H4.mono ?_; clear H4; rintro e w4 ⟨rfl, d4, rfl⟩; have P4 := Lib.hid (P3.out.drewN d4); have B4 := Lib.hid (below_drewN B3.out d4); clear P3 O3 B3))
        go_ret
        exact ⟨by first | rfl | simp, B4.out⟩
      · have d1 : decide ((27 : Int) < (s.size : Int)) = false := decide_eq_false (by omega)
        have d1n : decide (27 < s.size) = false := decide_eq_false h27
        have HX := Lib.hid (term_some (term_sign 50 (by unfold SignP; decide) HT.out (by omega)))
        have HY := Lib.hid (term_some (term_pair HT.out HT.out (by omega)))
        clear h27
        have t1 : True := trivial
        go_wp2_with (first
          | (go_at_call 31; have H4 := sameInts_any q q gc2 gc3 ga2 ga3 _ _ w3 (by omega) (by omega) P3.out O3.out; rw [tt_of (show SameB q q _ _ from ⟨rfl, fun j hj => rfl⟩)] at H4; refine H4.mono ?_; clear H4; rintro e w4 ⟨rfl, d4, rfl⟩; have P4 := Lib.hid (P3.out.drewN d4); have B4 := Lib.hid (below_drewN B3.out d4); clear P3 O3 B3)
          | (have _t := t1; go_at_call 17; have H5 := termGives_any (q : Int) (⟨#[50]⟩ ++ s) _ (HE.out _ B4.out) HQ.out; rw [HX.out.1, HX.out.2.1, HX.out.2.2, Int.toNat_natCast] at H5; refine H5.mono ?_; clear H5; rintro e w5 ⟨ga5, gc5, rfl, hO5, hb5⟩; have O5 := Lib.hid (show Rd w5 ga5 q (giv q (.times 2 t)) from hO5.rd); have P5 := Lib.hid (P4.out.below (Nat.le_refl _) hb5); have B5 := Lib.hid (below_chain B4.out hb5); clear hO5 hb5 t1 _t)
          | (go_at_call 17; have H6 := termGives_any (q : Int) (⟨#[40]⟩ ++ s ++ ⟨#[46]⟩ ++ s ++ ⟨#[41]⟩) w5 (HE.out _ B5.out) HQ.out; rw [HY.out.1, HY.out.2.1, HY.out.2.2, Int.toNat_natCast] at H6; refine H6.mono ?_; clear H6; rintro e w6 ⟨ga6, gc6, rfl, hO6, hb6⟩; have O6 := Lib.hid (show Rd w6 ga6 q (giv q (.pair t t)) from hO6.rd); have P6 := Lib.hid (P5.out.below (Nat.le_refl _) hb6); have Q6 := Lib.hid (O5.out.below (Nat.le_refl _) hb6); have B6 := Lib.hid (below_chain B5.out hb6); clear hO6 hb6 P4 P5 O5))
        go_loopw [13] (fun k wr => ∃ i : Nat, i ≤ q ∧ k = .int .i64 i ∧ Below w6.heap.size w6 wr) (fun k _ => q - (intOf k).toNat)
        case atStart => exact ⟨0, Nat.zero_le _, rfl, Below.refl _ _⟩
        case round =>
          obtain ⟨i, hi, rfl, hB⟩ := hrel
          have BR := Lib.hid hB
          by_cases hlt : i < q
          · have hr := HP.out.2.1 i hlt
            obtain ⟨v, hv⟩ : ∃ v : Nat, giv q t i = (v : Int) := ⟨(giv q t i).toNat, by omega⟩
            have hvq : v < q := by omega
            obtain ⟨b1, o1, e1, c1⟩ := (P6.out.below (Nat.le_refl _) hB) i hlt
            obtain ⟨b2, o2, e2, c2⟩ := (P6.out.below (Nat.le_refl _) hB) v hvq
            obtain ⟨b3, o3, e3, c3⟩ := (Q6.out.below (Nat.le_refl _) hB) i hlt
            rw [twice_is, hv, Int.toNat_natCast] at c3
            rw [hv] at c1
            cases e3
            subst e1
            cases e2
            obtain ⟨z, hz⟩ : ∃ z, z = giv q t v := ⟨_, rfl⟩
            rw [← hz] at c2 c3
            clear hz hv hr hB
            have CC := Lib.hid (And.intro c1 (And.intro c2 c3))
            go_wp2
            go_quiet (fail)
            go_wp2
            go_roundw
            case rel => exact ⟨i + 1, by omega, by go_num, by first | exact BR.out | exact below_drewN BR.out _ | exact BR.out.drew⟩
            case measure => simp [intOf]; omega
          · obtain rfl : i = q := by omega
            clear hB
            go_wp2_with (go_at_call 31; have H8 := sameInts_any i i gc5 gc6 ga5 ga6 _ _ _ (by omega) (by omega) (Q6.out.below (Nat.le_refl _) BR.out) (O6.out.below (Nat.le_refl _) BR.out); rw [tt_of (show SameB i i (giv i (.times 2 t)) (giv i (.pair t t)) from ⟨rfl, fun j hj => rfl⟩)] at H8; refine H8.mono ?_; clear H8; rintro e w8 ⟨rfl, d8, rfl⟩; have B8 := Lib.hid (below_drewN (below_chain B6.out BR.out) d8))
            go_ret
            exact ⟨rfl, B8.out⟩
  · have hd : 1048576 < n := by omega
    clear hb hab hE
    go_enter Tryd.func11, Tryd.ntmps11
    go_wp2_with fail
    go_ret
    exact ⟨rfl, Below.refl _ _⟩
end Go.Proofs.YtnaegnjgpnakfaaDoor
