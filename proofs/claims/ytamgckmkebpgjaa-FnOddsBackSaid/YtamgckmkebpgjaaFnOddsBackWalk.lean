/- The walk of the law FnOddsBack: it answers true at every code that can be read. -/
import Derived.Test.YtamgckmkebpgjaaDrawOddsSum
import Derived.Test.YtamgckmkebpgjaaOddsSumF
import Derived.Test.YtamgckmkebpgjaaSpecOddsSum
import Derived.Test.YtamgckmkebpgjaaOddsFn
import Derived.Test.YtamgckmkebpgjaaAppendRows
import Derived.Test.YtamgckmkebpgjaaInfoInts
namespace Go.Proofs.Ytamgckmkebpgjaa
set_option linter.unusedVariables false
open Go.RowKit

set_option maxRecDepth 100000 in
set_option maxHeartbeats 3200000 in
theorem fnOddsBack_walk (n c : Nat) (a : Option Addr) (B : Nat → Nat) (w : World) (hc : n ≤ c) (hb : RdB w a n B) (hab : 0 < n → ∀ b o, a = some ⟨b, o, none⟩ → b < w.heap.size) :
    Calls Try.prog 6 #[.slice a n c] w fun e w' => e = .returned (.bool true) ∧ Below w.heap.size w w' := by
  by_cases hfit : n ≤ 1048576
  · have hd : ¬ (1048576 < n) := by omega
    have HD := Lib.hid (drawOddsSum_any n c a B w hfit hc hb hab)
    clear hb hab
    go_enter Try.func6, Try.ntmps6
    go_wp2_with fail
    refine HD.out.mono ?_
    rintro e w1 ⟨g, q, d, X, rfl, ⟨hq1, hq7, hqd⟩, hX, hb1⟩
    have V1 := Lib.hid hX
    have B1 := Lib.hid hb1
    have hq0 : q ≤ 1048576 := by omega
    clear hX hb1 HD
    go_wp2_with fail
    refine (oddsSum_all q d (some ⟨g, 0, none⟩) X _ hq0 V1.out).mono ?_
    rintro e w2 ⟨rfl, hb2⟩
    have V2 := Lib.hid (V1.out.below (Nat.le_refl _) hb2)
    have B2 := Lib.hid (below_chain B1.out hb2)
    clear hb2 B1 V1
    go_wp2_with fail
    refine (specOddsSum_any q d (some ⟨g, 0, none⟩) X _ hq0 V2.out).mono ?_
    rintro e w3 ⟨rfl, hb3⟩
    have V3 := Lib.hid (V2.out.below (Nat.le_refl _) hb3)
    have B3 := Lib.hid (below_chain B2.out hb3)
    clear hb3 B2 V2
    by_cases h : IsOdds q X
    · have K1 := Lib.hid (tt_of h)
      have KT := Lib.hid (sumTop_yes h)
      have KB := Lib.hid (sumBot_yes h)
      have K5 := Lib.hid (tt_of (back_odds h))
      have KT2 := Lib.hid ((sumTop_yes (back_odds h)).trans (by rw [pieceS_back q X]))
      have KB2 := Lib.hid ((sumBot_yes (back_odds h)).trans (by rw [pieceS_back q X]))
      obtain ⟨t, ht⟩ : ∃ t, t = topN (pieceS X q) := ⟨_, rfl⟩
      obtain ⟨l, hl⟩ : ∃ l, l = botN (pieceS X q) := ⟨_, rfl⟩
      rw [← ht] at KT
      rw [← hl] at KB
      rw [← ht] at KT2
      rw [← hl] at KB2
      rw [K1.out, KT.out, KB.out]
      clear h ht hl
      go_wp2
      have O0 := Lib.hid (show (w3.alloc (.cells #[] 3)).ownsRow w3.heap.size 3 1 (.slice (some ⟨w3.heap.size, 0, none⟩) 0 0) 0 (cellsL 0 (backF X q)) from World.ownsRow_made w3 #[] 0 (Nat.le_refl _) (Nat.zero_le _) (by simp))
      go_loopw [10, 11] (fun o s wr => ∃ (j : Nat) (v : Value), j ≤ q ∧ s = .int .i64 ((q : Int) - 1 - (j : Int)) ∧ v = o ∧ wr.ownsRow w3.heap.size 3 1 v j (cellsL j (backF X q)) ∧ Below w3.heap.size w3 wr) (fun _ s _ => (intOf s + 1).toNat)
      case atStart => exact ⟨0, _, Nat.zero_le _, by simp, rfl, O0.out, below_alloc (Below.refl _ _) _⟩
      case round =>
        obtain ⟨j, v, hj, rfl, rfl, hO, hB⟩ := hrel
        have HO := Lib.hid hO
        have HBw := Lib.hid hB
        have hsz := hB.size
        clear hO hB O0
        by_cases hlt : j < q
        · obtain ⟨bb, oo, e1, hca⟩ := (V3.out.below (Nat.le_refl _) HBw.out) (q - 1 - j) (by omega)
          cases e1
          obtain ⟨i0, hi, hz0, hz1, hz2⟩ := info_parts Try.infoInt
          have EX := Lib.hid (cellsL_snocX (X := backF X q) j (x := X (q - 1 - j)) rfl)
          obtain ⟨x, hx⟩ : ∃ x, x = X (q - 1 - j) := ⟨_, rfl⟩
          rw [← hx] at hca EX
          obtain ⟨k, hk⟩ : ∃ k, k = q - 1 - j := ⟨_, rfl⟩
          have hkz : (q : Int) - 1 - (j : Int) = (k : Int) := by omega
          have hkq : k < q := by omega
          rw [← hk, Nat.zero_add] at hca
          rw [hkz]
          have HK := Lib.hid hkz
          have i1 : (0 : Int) ≤ (k : Int) := by omega
          have i2 : (k : Int) < (q : Int) := by omega
          have d1 : decide ((k : Int) ≥ 0) = true := by simp
          clear hx hk hkz
          go_wp2_with (at_builtin; refine wpList_append_gen _ (by rfl) (.tmp 70) (.tmp 75) 23 (by rfl) w3.heap.size 3 i0 (.int .i64 0) 8 Try.underlying23 hi hz0 hz1 hz2 (by rfl) v j _ (by rfl) (HO.out.alloc _) ⟨_, 0, none⟩ 1 1 [.int .i64 x] (by rfl) (by rfl) (news_one (by simp)) (by simp [Value.oneCell']) (by unfold maxLen; omega) (by omega) (by simp; omega) ?_; intro v2 w5 hown2 hgrow2 hat2; have O5 := Lib.hid hown2; have B5 := Lib.hid ((below_alloc HBw.out _).grown hgrow2 (by simp; omega) (fun x hx => (HO.out.lt x hx).1)); clear hown2 hgrow2 hat2)
          go_roundw
          case rel => exact ⟨j + 1, v2, by omega, by (try congr 1); have := HK.out; omega, rfl, by rw [← EX.out]; exact O5.out, B5.out⟩
          case measure => have := HK.out; simp [intOf] <;> omega
        · obtain rfl : j = q := by omega
          obtain ⟨g5, c5, rfl⟩ := owns_form HO.out (by omega)
          have hkz : (j : Int) - 1 - (j : Int) = -1 := by omega
          rw [hkz]
          have HSX := Lib.hid (oddsSum_all j c5 (some ⟨g5, 0, none⟩) (backF X j) wr hq0 (owns_rd HO.out))
          clear hkz
          go_wp2_with (go_at_call 21; refine HSX.out.mono ?_; rintro e w6 ⟨rfl, hb6⟩; rw [KT2.out, KB2.out, K5.out]; have B6 := Lib.hid (below_chain B3.out (HBw.out.trans (hb6.mono HBw.out.size))); clear hb6)
          go_ret
          exact ⟨rfl, B6.out⟩
    · have K1 := Lib.hid (tt_no h)
      rw [sumTop_no h, sumBot_no h, K1.out]
      clear h
      go_wp2_with fail
      go_ret
      exact ⟨rfl, B3.out⟩
  · have hd : 1048576 < n := by omega
    clear hb hab
    go_enter Try.func6, Try.ntmps6
    go_wp2
    go_ret
    exact ⟨rfl, Below.refl _ _⟩
end Go.Proofs.Ytamgckmkebpgjaa
