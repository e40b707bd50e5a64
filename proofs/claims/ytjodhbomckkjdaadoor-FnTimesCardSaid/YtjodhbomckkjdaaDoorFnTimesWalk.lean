/- The walk of the law FnTimes: it answers true at every code that can be read. -/
import Derived.Test.YtjodhbomckkjdaaDoorDrawTermTimes
import Derived.Test.YtjodhbomckkjdaaDoorTermTimes
import Derived.Test.YtjodhbomckkjdaaDoorSameInts
import Derived.Test.YtjodhbomckkjdaaDoorUpTo
namespace Go.Proofs.YtjodhbomckkjdaaDoor
set_option linter.unusedVariables false
set_option linter.unusedSimpArgs false
open Go.RowKit

theorem moved_zero (F : Nat → Int) : ∀ n, movedN F n = 0 ↔ ∀ i, i < n → F i = (i : Int)
  | 0 => ⟨fun _ i hi => absurd hi (Nat.not_lt_zero _), fun _ => rfl⟩
  | k + 1 => by
    have h1 : movedN F (k + 1) = movedN F k + if F k = (k : Int) then 0 else 1 := rfl
    rw [h1]
    have ih := moved_zero F k
    by_cases e : F k = (k : Int)
    · rw [if_pos e, Nat.add_zero, ih]
      refine ⟨fun h i hi => ?_, fun h i hi => h i (by omega)⟩
      by_cases c : i < k
      · exact h i c
      · obtain rfl : i = k := by omega
        exact e
    · rw [if_neg e]
      exact ⟨fun h => by omega, fun h => absurd (h k (by omega)) e⟩

set_option maxRecDepth 100000 in
set_option maxHeartbeats 6400000 in
theorem fnTimes_walk (n c : Nat) (a : Option Addr) (B : Nat → Nat) (w : World) (hE : ErrAt w) (hc : n ≤ c) (hb : RdB w a n B) (hab : 0 < n → ∀ b o, a = some ⟨b, o, none⟩ → b < w.heap.size) :
    Calls Tryd.prog 5 #[.slice a n c] w fun e w' => e = .returned (.bool true) ∧ Below w.heap.size w w' := by
  by_cases hfit : n ≤ 1048576
  · have hd : ¬ (1048576 < n) := by omega
    have HD := Lib.hid (drawTermTimes_any n c a B w hfit hc hb hab)
    have HE := Lib.hid (fun (w' : World) (h : Below w.heap.size w w') => hE.below h)
    clear hb hab hE
    obtain ⟨i0, hi, hz0, hz1, hz2⟩ := info_parts Tryd.infoInt
    go_enter Tryd.func5, Tryd.ntmps5
    go_wp2_with fail
    refine HD.out.mono ?_
    rintro e w1 ⟨q, s, rfl, hq, hs, hb1⟩
    have B1 := Lib.hid hb1
    have HQ := Lib.hid (show I64 (q : Int) from ⟨by omega, by omega⟩)
    clear hb1 HD
    go_wp2_with fail
    have H2 := termTimes_any (q : Int) s w1 (HE.out _ B1.out) HQ.out
    cases ht : termN (q : Int) s with
    | none =>
      have TT := Lib.hid (And.intro (times_none ht) (term_none ht).1)
      clear ht
      rw [TT.out.1, TT.out.2] at H2
      refine H2.mono ?_
      clear H2
      rintro e w2 ⟨rfl, hb2⟩
      have B2 := Lib.hid (below_chain B1.out hb2)
      clear hb2
      go_wp2_with fail
      have H3 := specTermTimes_any (q : Int) s w2 HQ.out
      rw [TT.out.1, TT.out.2] at H3
      refine H3.mono ?_
      clear H3
      rintro e w3 ⟨rfl, hb3⟩
      have B3 := Lib.hid (below_chain B2.out hb3)
      clear hb3
      go_wp2_with fail
      go_ret
      exact ⟨by first | rfl | simp, B3.out⟩
    | some t =>
      obtain ⟨N, hqN, hN, hP⟩ := term_perm ht
      obtain rfl : q = N := by omega
      clear hqN
      have T1 := (term_some ht).1
      have T2 := (term_some ht).2.1
      have T3 := (term_some ht).2.2
      have T4 := times_some ht
      rw [Int.toNat_natCast] at T2 T3 T4
      have HO := Lib.hid (ordG_facts hN.1 hN.2 hP)
      obtain ⟨G, hG⟩ : ∃ G, G = giv q t := ⟨_, rfl⟩
      rw [← hG] at T3 T4 HO hP
      obtain ⟨R, hR⟩ : ∃ R, R = ordG q G := ⟨_, rfl⟩
      rw [← hR] at T4 HO
      have HP := Lib.hid (And.intro hN hP)
      have TT := Lib.hid (And.intro T4 (And.intro T1 (And.intro T2 T3)))
      clear ht hG hR hP T1 T2 T3 T4
      have hR1 : 1 ≤ R := HO.out.1.1
      have hR6 : R ≤ 6 := HO.out.1.2
      have hN2 : 2 ≤ q := hN.1
      have hN5 : q ≤ 5 := hN.2
      have g1 : decide ((1 : Int) ≤ (R : Int)) = true := decide_eq_true (by omega)
      have g1n : decide (1 ≤ R) = true := decide_eq_true (by omega)
      have g6 : decide ((R : Int) ≤ 6) = true := decide_eq_true (by omega)
      have g6n : decide (R ≤ 6) = true := decide_eq_true (by omega)
      rw [TT.out.1, TT.out.2.1] at H2
      refine H2.mono ?_
      clear H2
      rintro e w2 ⟨rfl, hb2⟩
      have B2 := Lib.hid (below_chain B1.out hb2)
      clear hb2
      go_wp2_with fail
      have H3 := specTermTimes_any (q : Int) s w2 HQ.out
      rw [TT.out.1, TT.out.2.1] at H3
      refine H3.mono ?_
      clear H3
      rintro e w3 ⟨rfl, hb3⟩
      have B3 := Lib.hid (below_chain B2.out hb3)
      clear hb3
      go_wp2_with fail
      have H4 := termGives_any (q : Int) s w3 (HE.out _ B3.out) HQ.out
      rw [TT.out.2.1, TT.out.2.2.1, TT.out.2.2.2] at H4
      refine H4.mono ?_
      clear H4
      rintro e w4 ⟨ga, gc, rfl, hO4, hb4⟩
      have O4 := Lib.hid hO4.rd
      have B4 := Lib.hid (below_chain B3.out hb4)
      clear hO4 hb4
      go_wp2_with fail
      have H5 := upTo_any q w4 (by omega) hN5
      refine H5.mono ?_
      clear H5
      rintro e w5 ⟨g5, c5, rfl, hO5, hb5⟩
      have O5 := Lib.hid (show Rd w5 (some ⟨g5, 0, none⟩) q (powF G 0) from owns_rd hO5)
      have P5 := Lib.hid (O4.out.below (Nat.le_refl _) hb5)
      have B5 := Lib.hid (below_chain B4.out hb5)
      clear hO5 hb5 O4
      go_wp2_with fail
      go_loopw [11, 12, 13, 14] (fun h k _ _ wr => ∃ (m M : Nat) (ah : Option Addr) (ch : Nat), M = m + 1 ∧ m ≤ R ∧ k = .int .i64 (M : Nat) ∧ h = .slice ah q ch ∧ Rd wr ah q (powF G m) ∧ Below w5.heap.size w5 wr) (fun _ k _ _ _ => R + 1 - (intOf k).toNat)
      case atStart => exact ⟨0, 1, _, c5, rfl, Nat.zero_le _, rfl, rfl, O5.out, Below.refl _ _⟩
      case round =>
        obtain ⟨m, M, ah, ch, hM, hm, rfl, rfl, hrd, hbw⟩ := hrel
        have HM := Lib.hid hM
        rename World => wr
        have Z := Lib.hid hrd
        have ZB := Lib.hid hbw
        have hwz := hbw.size
        clear hrd hbw O5
        by_cases hlt : m < R
        · have l1 : decide ((M : Int) ≤ (R : Int)) = true := decide_eq_true (by omega)
          have l1n : decide (M ≤ R) = true := decide_eq_true (by omega)
          have hM6 : M ≤ 6 := by omega
          clear hM
          go_wp2_with fail
          have R0 := Lib.hid (show (wr.alloc (.cells #[] 3)).ownsRow wr.heap.size 3 1 (.slice (some ⟨wr.heap.size, 0, none⟩) 0 0) 0 (cellsL 0 (powF G (m + 1))) from World.ownsRow_made wr #[] 0 (Nat.le_refl _) (Nat.zero_le _) (by simp))
          have U0 := Lib.hid (below_alloc (Below.refl wr.heap.size wr) (.cells #[] 3))
          go_loopw [13, 14] (fun row i wi => ∃ k : Nat, k ≤ q ∧ i = .int .i64 (k : Nat) ∧ ∃ rv, rv = row ∧ wi.ownsRow wr.heap.size 3 1 rv k (cellsL k (powF G (m + 1))) ∧ Below wr.heap.size wr wi) (fun _ i _ => q - (intOf i).toNat)
          case atStart => exact ⟨0, Nat.zero_le _, rfl, _, rfl, R0.out, U0.out⟩
          case round =>
            obtain ⟨k, hk, rfl, rv, rfl, hown, hBu⟩ := hrel
            rename World => wi
            clear R0 U0
            have hsz := hBu.size
            by_cases hkn : k < q
            · have JO := Lib.hid hown
              have JU := Lib.hid hBu
              obtain ⟨b1, o1, e1, c1⟩ := (Z.out.below (Nat.le_refl _) hBu) k hkn
              have hpk := (perm_pow HP.out.2 m).1 k hkn
              obtain ⟨v, hv⟩ : ∃ v : Nat, powF G m k = (v : Int) := ⟨(powF G m k).toNat, by omega⟩
              have hvq : v < q := by omega
              obtain ⟨b2, o2, e2, c2⟩ := ((P5.out.below (Nat.le_refl _) ZB.out).below (Nat.le_refl _) hBu) v (by omega)
              obtain ⟨z, hz⟩ : ∃ z, z = G v := ⟨_, rfl⟩
              have HZ := Lib.hid (show powF G (m + 1) k = z by show G (powF G m k).toNat = z; rw [hv, Int.toNat_natCast, hz])
              rw [hv] at c1
              rw [← hz] at c2
              subst e1
              subst e2
              clear hown hBu hz hv hpk l1 l1n
              go_wp2_with (at_builtin; refine wpList_append_lies _ (by rfl) (.tmp 74) (.tmp 82) 27 (by rfl) wr.heap.size 3 i0 (.int .i64 0) 1 8 Tryd.underlying27 hi hz0 hz1 hz2 (by rfl) (by decide) rv k (cellsL k (powF G (m + 1))) (by rfl) (JO.out.alloc _) ⟨_, 0, none⟩ 1 1 [.int .i64 z] (by rfl) (by rfl) (news_one (by simp)) (by simp [Value.oneCell']) (by omega) (by unfold maxLen; omega) (by omega) (by first | omega | (simp; omega)) _ rfl ?_; intro g2 cap2 w7 hown2 hgrow2 hat2 hlt2; have N2 := Lib.hid hown2; have G2 := Lib.hid hgrow2; clear hown2 hgrow2 hat2)
              go_roundw
              case rel =>
                refine ⟨k + 1, by omega, by go_num, _, rfl, ?_, (below_alloc JU.out _).grown G2.out (by simp; omega) (fun k hk => (JO.out.lt k hk).1)⟩
                have h := N2.out
                rw [cellsL_snoc, cellsL_congr (Y := powF G (m + 1)) (fun j hj => by
                  by_cases e : j < k
                  · simp [e]
                  · obtain rfl : j = k := by omega
                    simp [HZ.out])] at h
                exact h
              case measure => simp [intOf]; omega
            · obtain rfl : k = q := by omega
              obtain ⟨gr, cr, rfl⟩ := owns_form hown (by omega)
              have N6 := Lib.hid (owns_rd hown)
              have U6 := Lib.hid hBu
              clear hown hBu
              have hS : SameB k k (powF G (m + 1)) (fun j => (j : Int)) ↔ m + 1 = R := by
                constructor
                · intro h
                  by_cases e : m + 1 = R
                  · exact e
                  · exact absurd ((moved_zero _ _).2 h.2) (HO.out.2.2 (m + 1) (by omega) (by omega))
                · intro h
                  exact ⟨rfl, by rw [h]; exact (moved_zero _ _).1 HO.out.2.1⟩
              by_cases hmR : m + 1 = R
              · have ST := Lib.hid (tt_of (hS.2 hmR))
                have f1 : ((M : Int) == (R : Int)) = true := beq_iff_eq.2 (by have := HM.out; omega)
                have f1d : decide ((M : Int) = (R : Int)) = true := decide_eq_true (by have := HM.out; omega)
                clear hS
                go_wp2_with (first
                  | (go_at_call 18; refine (upTo_any k _ (by omega) hN5).mono ?_; rintro e w7 ⟨g7, c7, rfl, hO7, hb7⟩; have O7 := Lib.hid (owns_rd hO7); have N7 := Lib.hid (N6.out.below (Nat.le_refl _) hb7); have U7 := Lib.hid (below_chain U6.out hb7); clear hO7 hb7)
                  | (go_at_call 19; have H8 := sameInts_any k k cr c7 (some ⟨gr, 0, none⟩) (some ⟨g7, 0, none⟩) _ _ w7 (by omega) (by omega) N7.out O7.out; rw [ST.out] at H8; refine H8.mono ?_; clear H8; rintro e w8 ⟨rfl, d8, rfl⟩; have N8 := Lib.hid (N7.out.drewN d8); have U8 := Lib.hid (below_drewN U7.out d8)))
                go_roundw
                case rel => exact ⟨m + 1, M + 1, _, cr, by have := HM.out; omega, by omega, by go_num, rfl, N8.out, below_chain ZB.out U8.out⟩
                case measure => have := HM.out; simp [intOf]; omega
              · have ST := Lib.hid (tt_no (fun h => hmR (hS.1 h)))
                have f1 : ((M : Int) == (R : Int)) = false := beq_eq_false_iff_ne.2 (by have := HM.out; omega)
                have f1d : decide ((M : Int) = (R : Int)) = false := decide_eq_false (by have := HM.out; omega)
                clear hS
                go_wp2_with (first
                  | (go_at_call 18; refine (upTo_any k _ (by omega) hN5).mono ?_; rintro e w7 ⟨g7, c7, rfl, hO7, hb7⟩; have O7 := Lib.hid (owns_rd hO7); have N7 := Lib.hid (N6.out.below (Nat.le_refl _) hb7); have U7 := Lib.hid (below_chain U6.out hb7); clear hO7 hb7)
                  | (go_at_call 19; have H8 := sameInts_any k k cr c7 (some ⟨gr, 0, none⟩) (some ⟨g7, 0, none⟩) _ _ w7 (by omega) (by omega) N7.out O7.out; rw [ST.out] at H8; refine H8.mono ?_; clear H8; rintro e w8 ⟨rfl, d8, rfl⟩; have N8 := Lib.hid (N7.out.drewN d8); have U8 := Lib.hid (below_drewN U7.out d8)))
                go_roundw
                case rel => exact ⟨m + 1, M + 1, _, cr, by have := HM.out; omega, by omega, by go_num, rfl, N8.out, below_chain ZB.out U8.out⟩
                case measure => have := HM.out; simp [intOf]; omega
        · obtain rfl : m = R := by omega
          have l1 : decide ((M : Int) ≤ (m : Int)) = false := decide_eq_false (by omega)
          have l1n : decide (M ≤ m) = false := decide_eq_false (by omega)
          clear hM
          go_wp2_with fail
          go_ret
          exact ⟨by first | rfl | simp, below_chain B5.out ZB.out⟩
  · have hd : 1048576 < n := by omega
    clear hb hab hE
    go_enter Tryd.func5, Tryd.ntmps5
    go_wp2_with fail
    go_ret
    exact ⟨rfl, Below.refl _ _⟩
end Go.Proofs.YtjodhbomckkjdaaDoor
