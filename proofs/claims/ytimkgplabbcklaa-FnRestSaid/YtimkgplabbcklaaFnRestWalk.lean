/- The walk of the law FnRest: it answers true at every code that can be read. -/
import Derived.Test.YtimkgplabbcklaaDrawOddsRest
import Derived.Test.YtimkgplabbcklaaOddsRestF
import Derived.Test.YtimkgplabbcklaaSpecOddsRest
import Derived.Test.YtimkgplabbcklaaOddsSureF
import Derived.Test.YtimkgplabbcklaaOddsFn
import Derived.Test.YtimkgplabbcklaaKeepP
import Derived.Test.YtimkgplabbcklaaInfoInts
namespace Go.Proofs.Ytimkgplabbcklaa
set_option linter.unusedVariables false
open Go.RowKit

set_option maxRecDepth 100000 in
set_option maxHeartbeats 3200000 in
theorem fnRest_walk (n c : Nat) (a : Option Addr) (B : Nat → Nat) (w : World) (hc : n ≤ c) (hb : RdB w a n B) (hab : 0 < n → ∀ b o, a = some ⟨b, o, none⟩ → b < w.heap.size) :
    Calls Try.prog 7 #[.slice a n c] w fun e w' => e = .returned (.bool true) ∧ Below w.heap.size w w' := by
  by_cases hfit : n ≤ 1048576
  · have hd : ¬ (1048576 < n) := by omega
    have HD := Lib.hid (drawOddsRest_any n c a B w hfit hc hb hab)
    clear hb hab
    go_enter Try.func7, Try.ntmps7
    go_wp2_with fail
    refine HD.out.mono ?_
    rintro e w1 ⟨g, q, d, X, rfl, ⟨hq1, hq7, hqd⟩, hX, hb1⟩
    have V1 := Lib.hid hX
    have B1 := Lib.hid hb1
    have hq0 : q ≤ 1048576 := by omega
    clear hX hb1 HD
    go_wp2_with fail
    refine (oddsRest_all q d (some ⟨g, 0, none⟩) X _ hq0 V1.out).mono ?_
    rintro e w2 ⟨rfl, hb2⟩
    have V2 := Lib.hid (V1.out.below (Nat.le_refl _) hb2)
    have B2 := Lib.hid (below_chain B1.out hb2)
    clear hb2 B1 V1
    go_wp2_with fail
    refine (specOddsRest_any q d (some ⟨g, 0, none⟩) X _ hq0 V2.out).mono ?_
    rintro e w3 ⟨rfl, hb3⟩
    have V3 := Lib.hid (V2.out.below (Nat.le_refl _) hb3)
    have B3 := Lib.hid (below_chain B2.out hb3)
    clear hb3 B2 V2
    by_cases h : RestYes q X
    · have K1 := Lib.hid (tt_of h)
      have K2 := Lib.hid (restA_yes h.1)
      obtain ⟨hx0, hs1, hs2, hs3⟩ := rest_yes h
      have K3 := Lib.hid (tt_of hs1)
      have K4 := Lib.hid (tt_of hs2)
      obtain ⟨x, hx⟩ : ∃ x, x = restN (pieceS X q) := ⟨_, rfl⟩
      rw [← hx] at K2 hx0 hs3 K4
      have H3 := Lib.hid hs3
      obtain ⟨hx1, hx2⟩ := hx0
      rw [K2.out, K1.out]
      clear h hs1 hs2 hs3 hx
      go_wp2_with fail
      refine (oddsSure_all q d (some ⟨g, 0, none⟩) X _ hq0 V3.out).mono ?_
      rintro e w4 ⟨rfl, hb4⟩
      rw [K3.out]
      have V4 := Lib.hid (V3.out.below (Nat.le_refl _) hb4)
      have B4 := Lib.hid (below_chain B3.out hb4)
      clear hb4 B3 V3
      obtain ⟨i0, hi, hz0, hz1, hz2⟩ := info_parts Try.infoInt
      have t1 : True := trivial
      have HNt1 := Lib.hid V4.out
      by_cases he : x = 1
      · have d1 : (x == 1) = true := by simpa using he
        subst he
        go_wp2_with (first
        | (have _t := t1; at_builtin; refine wpList_append_anyw _ (by rfl) (.tmp 46) (.tmp 47) 23 (by rfl) w4.heap.size 3 i0 Try.underlying23 hi hz0 hz1 hz2 w4.heap.size 0 0 [] (by rfl) (World.ownsRow_made w4 #[] 0 (Nat.le_refl _) (Nat.zero_le _) (by simp)) ⟨g, 0, none⟩ q d (cellsL q X) (by rfl) (by simp [cellsL]) (HNt1.out.news (below_alloc (Below.refl _ _) _)) (cellsL_one q X) (by omega) (by simp) ?_; intro g5t1 cap5t1 w5t1 hown5 hgrow5; clear t1; rw [Nat.zero_add, List.nil_append] at hown5; rw [Nat.zero_add]; have O5t1 := Lib.hid hown5; have B5t1 := Lib.hid ((below_alloc (Below.refl w4.heap.size w4) (.cells #[] 3)).grown hgrow5 (by simp) (fun x hx => by cases hx; exact Nat.le_refl _)); clear hown5 hgrow5)
        | (have _t := O5t1; at_builtin; refine wpList_append_anyw _ (by rfl) (.tmp 48) (.tmp 50) 23 (by rfl) w4.heap.size 3 i0 Try.underlying23 hi hz0 hz1 hz2 g5t1 q cap5t1 (cellsL q X) (by rfl) (O5t1.out.alloc _) ⟨_, 0, none⟩ 1 1 [.int .i64 1] (by rfl) (by rfl) (news_one (by simp)) (by simp [Value.oneCell']) (by omega) (by have := B5t1.out.size; simp; omega) ?_; intro g6t1 cap6t1 w6t1 hown6 hgrow6; have B6t1 := Lib.hid ((below_alloc B5t1.out _).grown hgrow6 (by have := B5t1.out.size; simp; omega) (fun x hx => by cases hx; exact (O5t1.out.lt g5t1 rfl).1)); rw [show cellsL q X ++ [.int .i64 1] = cellsL (q + 1) (snocF X q 1) from cellsL_snoc q X 1] at hown6; have O6t1 := Lib.hid (owns_rd hown6); clear hown6 hgrow6 O5t1 B5t1)
        | (have _t := O6t1; go_at_call 9; refine (oddsSure_all (q + 1) cap6t1 (some ⟨g6t1, 0, none⟩) (snocF X q 1) _ (by omega) O6t1.out).mono ?_; rintro e w7 ⟨rfl, hbw7⟩; rw [K4.out]; have Bw7 := Lib.hid (below_chain B4.out (B6t1.out.trans (hbw7.mono B6t1.out.size))); have Vw7 := Lib.hid (HNt1.out.below (Nat.le_refl _) (B6t1.out.trans (hbw7.mono B6t1.out.size))); clear hbw7 O6t1 B6t1))
        go_ret
        exact ⟨rfl, Bw7.out⟩
      · have d1 : (x == 1) = false := by simpa using he
        have K5 := Lib.hid (tt_no (H3.out he))
        have HE := Lib.hid he
        clear he
        go_wp2_with (first
        | (have _t := t1; at_builtin; refine wpList_append_anyw _ (by rfl) (.tmp 46) (.tmp 47) 23 (by rfl) w4.heap.size 3 i0 Try.underlying23 hi hz0 hz1 hz2 w4.heap.size 0 0 [] (by rfl) (World.ownsRow_made w4 #[] 0 (Nat.le_refl _) (Nat.zero_le _) (by simp)) ⟨g, 0, none⟩ q d (cellsL q X) (by rfl) (by simp [cellsL]) (HNt1.out.news (below_alloc (Below.refl _ _) _)) (cellsL_one q X) (by omega) (by simp) ?_; intro g5t1 cap5t1 w5t1 hown5 hgrow5; clear t1; rw [Nat.zero_add, List.nil_append] at hown5; rw [Nat.zero_add]; have O5t1 := Lib.hid hown5; have B5t1 := Lib.hid ((below_alloc (Below.refl w4.heap.size w4) (.cells #[] 3)).grown hgrow5 (by simp) (fun x hx => by cases hx; exact Nat.le_refl _)); clear hown5 hgrow5)
        | (have _t := O5t1; at_builtin; refine wpList_append_anyw _ (by rfl) (.tmp 48) (.tmp 50) 23 (by rfl) w4.heap.size 3 i0 Try.underlying23 hi hz0 hz1 hz2 g5t1 q cap5t1 (cellsL q X) (by rfl) (O5t1.out.alloc _) ⟨_, 0, none⟩ 1 1 [.int .i64 x] (by rfl) (by rfl) (news_one (by simp)) (by simp [Value.oneCell']) (by omega) (by have := B5t1.out.size; simp; omega) ?_; intro g6t1 cap6t1 w6t1 hown6 hgrow6; have B6t1 := Lib.hid ((below_alloc B5t1.out _).grown hgrow6 (by have := B5t1.out.size; simp; omega) (fun x hx => by cases hx; exact (O5t1.out.lt g5t1 rfl).1)); rw [show cellsL q X ++ [.int .i64 x] = cellsL (q + 1) (snocF X q x) from cellsL_snoc q X x] at hown6; have O6t1 := Lib.hid (owns_rd hown6); clear hown6 hgrow6 O5t1 B5t1)
        | (have _t := O6t1; go_at_call 9; refine (oddsSure_all (q + 1) cap6t1 (some ⟨g6t1, 0, none⟩) (snocF X q x) _ (by omega) O6t1.out).mono ?_; rintro e w7 ⟨rfl, hbw7⟩; rw [K4.out]; have Bw7 := Lib.hid (below_chain B4.out (B6t1.out.trans (hbw7.mono B6t1.out.size))); have Vw7 := Lib.hid (HNt1.out.below (Nat.le_refl _) (B6t1.out.trans (hbw7.mono B6t1.out.size))); clear hbw7 O6t1 B6t1; have t2 : True := trivial; have HNt2 := Lib.hid Vw7.out)
        | (have _t := t2; at_builtin; refine wpList_append_anyw _ (by rfl) (.tmp 58) (.tmp 59) 23 (by rfl) w7.heap.size 3 i0 Try.underlying23 hi hz0 hz1 hz2 w7.heap.size 0 0 [] (by rfl) (World.ownsRow_made w7 #[] 0 (Nat.le_refl _) (Nat.zero_le _) (by simp)) ⟨g, 0, none⟩ q d (cellsL q X) (by rfl) (by simp [cellsL]) (HNt2.out.news (below_alloc (Below.refl _ _) _)) (cellsL_one q X) (by omega) (by simp) ?_; intro g5t2 cap5t2 w5t2 hown5 hgrow5; clear t2; rw [Nat.zero_add, List.nil_append] at hown5; rw [Nat.zero_add]; have O5t2 := Lib.hid hown5; have B5t2 := Lib.hid ((below_alloc (Below.refl w7.heap.size w7) (.cells #[] 3)).grown hgrow5 (by simp) (fun x hx => by cases hx; exact Nat.le_refl _)); clear hown5 hgrow5)
        | (have _t := O5t2; at_builtin; refine wpList_append_anyw _ (by rfl) (.tmp 60) (.tmp 63) 23 (by rfl) w7.heap.size 3 i0 Try.underlying23 hi hz0 hz1 hz2 g5t2 q cap5t2 (cellsL q X) (by rfl) (O5t2.out.alloc _) ⟨_, 0, none⟩ 1 1 [.int .i64 (x - 1)] (by rfl) (by rfl) (news_one (by simp)) (by simp [Value.oneCell']) (by omega) (by have := B5t2.out.size; simp; omega) ?_; intro g6t2 cap6t2 w6t2 hown6 hgrow6; have B6t2 := Lib.hid ((below_alloc B5t2.out _).grown hgrow6 (by have := B5t2.out.size; simp; omega) (fun x hx => by cases hx; exact (O5t2.out.lt g5t2 rfl).1)); rw [show cellsL q X ++ [.int .i64 (x - 1)] = cellsL (q + 1) (snocF X q (x - 1)) from cellsL_snoc q X (x - 1)] at hown6; have O6t2 := Lib.hid (owns_rd hown6); clear hown6 hgrow6 O5t2 B5t2)
        | (have _t := O6t2; go_at_call 9; refine (oddsSure_all (q + 1) cap6t2 (some ⟨g6t2, 0, none⟩) (snocF X q (x - 1)) _ (by omega) O6t2.out).mono ?_; rintro e w9 ⟨rfl, hbw9⟩; rw [K5.out]; have Bw9 := Lib.hid (below_chain Bw7.out (B6t2.out.trans (hbw9.mono B6t2.out.size))); have Vw9 := Lib.hid (HNt2.out.below (Nat.le_refl _) (B6t2.out.trans (hbw9.mono B6t2.out.size))); clear hbw9 O6t2 B6t2))
        go_ret
        exact ⟨rfl, Bw9.out⟩
    · have K1 := Lib.hid (tt_no h)
      rw [(show restA q X = 0 from by
        by_cases hr : RestOk q X
        · rw [restA_yes hr]
          by_cases h0 : restN (pieceS X q) = 0
          · exact h0
          · exact absurd ⟨hr, h0⟩ h
        · exact restA_no hr), K1.out]
      clear h
      go_wp2_with fail
      go_ret
      exact ⟨rfl, B3.out⟩
  · have hd : 1048576 < n := by omega
    clear hb hab
    go_enter Try.func7, Try.ntmps7
    go_wp2
    go_ret
    exact ⟨rfl, Below.refl _ _⟩
end Go.Proofs.Ytimkgplabbcklaa
