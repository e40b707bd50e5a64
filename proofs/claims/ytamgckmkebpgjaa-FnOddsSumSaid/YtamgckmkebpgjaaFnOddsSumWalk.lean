/- The walk of the law FnOddsSum: it answers true at every code that can be read. -/
import Derived.Test.YtamgckmkebpgjaaDrawOddsSum
import Derived.Test.YtamgckmkebpgjaaOddsSumF
import Derived.Test.YtamgckmkebpgjaaSpecOddsSum
import Derived.Test.YtamgckmkebpgjaaOddsSureF
import Derived.Test.YtamgckmkebpgjaaOddsFn
namespace Go.Proofs.Ytamgckmkebpgjaa
set_option linter.unusedVariables false
open Go.RowKit

set_option maxRecDepth 100000 in
set_option maxHeartbeats 3200000 in
theorem fnOddsSum_walk (n c : Nat) (a : Option Addr) (B : Nat → Nat) (w : World) (hc : n ≤ c) (hb : RdB w a n B) (hab : 0 < n → ∀ b o, a = some ⟨b, o, none⟩ → b < w.heap.size) :
    Calls Try.prog 4 #[.slice a n c] w fun e w' => e = .returned (.bool true) ∧ Below w.heap.size w w' := by
  by_cases hfit : n ≤ 1048576
  · have hd : ¬ (1048576 < n) := by omega
    have HD := Lib.hid (drawOddsSum_any n c a B w hfit hc hb hab)
    clear hb hab
    go_enter Try.func4, Try.ntmps4
    go_wp2_with fail
    refine HD.out.mono ?_
    rintro e w1 ⟨g, q, d, X, rfl, ⟨hq1, hq7, hqd⟩, hX, hb1⟩
    have V1 := Lib.hid hX
    have B1 := Lib.hid hb1
    have hq0 : q ≤ 1048576 := by omega
    clear hX hb1 HD
    go_wp2_with fail
    refine (oddsSum_all q d (some ⟨g, 0, none⟩) X _ hq0 V1.out).mono ?_
    rintro e w2 ⟨rfl, hb2⟩
    have V2 := Lib.hid (V1.out.below (Nat.le_refl _) hb2)
    have B2 := Lib.hid (below_chain B1.out hb2)
    clear hb2 B1 V1
    go_wp2_with fail
    refine (specOddsSum_any q d (some ⟨g, 0, none⟩) X _ hq0 V2.out).mono ?_
    rintro e w3 ⟨rfl, hb3⟩
    have V3 := Lib.hid (V2.out.below (Nat.le_refl _) hb3)
    have B3 := Lib.hid (below_chain B2.out hb3)
    clear hb3 B2 V2
    by_cases h : IsOdds q X
    · have K1 := Lib.hid (tt_of h)
      have KT := Lib.hid (sumTop_yes h)
      have KB := Lib.hid (sumBot_yes h)
      have hS := pieceS_le (k := q) h.2
      have ht1 := top_pos (pieceS_pos (by have := h.1; omega) h.2)
      have ht2 := top_le (pieceS X q)
      have hl1 := bot_pos (pieceS X q)
      have hl2 := bot_le (pieceS X q)
      have hg := top_gcd (pieceS X q)
      have h6 : q * LC ≤ 6 * LC := Nat.mul_le_mul_right _ h.1.2
      have hLC : LC = 232792560 := rfl
      have HS := top_lt_bot (pieceS X q)
      have HSU : SureP q X ↔ topN (pieceS X q) < botN (pieceS X q) := ⟨fun h' => HS.2 h'.2, fun h' => ⟨h, HS.1 h'⟩⟩
      obtain ⟨t, ht⟩ : ∃ t, t = topN (pieceS X q) := ⟨_, rfl⟩
      obtain ⟨l, hl⟩ : ∃ l, l = botN (pieceS X q) := ⟨_, rfl⟩
      rw [← ht] at KT
      rw [← hl] at KB
      rw [← ht] at ht1 ht2 hg HSU
      rw [← hl] at hl1 hl2 hg HSU
      have ht3 : t ≤ 1396755360 := by omega
      have hl3 : l ≤ 232792560 := by omega
      rw [K1.out, KT.out, KB.out]
      have HG := Lib.hid hg
      have HT := Lib.hid ht1
      have HU := Lib.hid HSU
      clear h hS ht2 hl2 hg h6 hLC HS ht hl HSU
      go_wp2
      go_loop [10, 11, 12] (fun a b _ => ∃ x y : Nat, a = .int .i64 x ∧ b = .int .i64 y ∧ Nat.gcd x y = 1 ∧ x ≤ 1396755360 ∧ y ≤ 1396755360) (fun _ b _ => (intOf b).toNat)
      case atStart => exact ⟨t, l, rfl, rfl, HG.out, ht3, by omega⟩
      case round =>
        obtain ⟨x, y, rfl, rfl, hxy, hx, hy⟩ := hrel
        have HXY := Lib.hid hxy
        clear hxy
        by_cases hlt : 0 < y
        · have hml := Nat.mod_lt x hlt
          have HM := Lib.hid hml
          clear hml
          go_wp2
          go_round
          case rel =>
            refine ⟨y, x % y, rfl, by rw [Int.natCast_emod], ?_, hy, ?_⟩
            · rw [gcd_turn]; exact HXY.out
            · have := HM.out; omega
          case measure =>
            show ((x : Int) % (y : Int)).toNat < ((y : Nat) : Int).toNat
            rw [← Int.natCast_emod]
            exact HM.out
        · obtain rfl : y = 0 := by omega
          obtain rfl : x = 1 := by have := HXY.out; rw [Nat.gcd_zero_right] at this; exact this
          have d1 : decide (t > 0) = true := by simp; omega
          have d2 : decide (l > 0) = true := by simp; omega
          have d1' : decide (0 < t) = true := by simp; omega
          have d2' : decide (0 < l) = true := by simp; omega
          have HSX := Lib.hid (oddsSure_all q d (some ⟨g, 0, none⟩) X w3 hq0 V3.out)
          by_cases hs : t < l
          · have d3 : decide (t < l) = true := by simpa using hs
            have K5 := Lib.hid (tt_of (HU.out.2 hs))
            have HH := Lib.hid hs
            clear hs
            go_wp2_with (go_at_call 23; refine HSX.out.mono ?_; rintro e w4 ⟨rfl, hb4⟩; rw [K5.out]; have B4 := Lib.hid (below_chain B3.out hb4); clear hb4)
            go_ret
            exact ⟨rfl, B4.out⟩
          · have d3 : decide (t < l) = false := by simpa using hs
            have K5 := Lib.hid (tt_no (fun h' => hs (HU.out.1 h')))
            have HH := Lib.hid hs
            clear hs
            go_wp2_with (go_at_call 23; refine HSX.out.mono ?_; rintro e w4 ⟨rfl, hb4⟩; rw [K5.out]; have B4 := Lib.hid (below_chain B3.out hb4); clear hb4)
            go_ret
            exact ⟨rfl, B4.out⟩
    · have K1 := Lib.hid (tt_no h)
      rw [sumTop_no h, sumBot_no h, K1.out]
      clear h
      go_wp2_with fail
      go_ret
      exact ⟨rfl, B3.out⟩
  · have hd : 1048576 < n := by omega
    clear hb hab
    go_enter Try.func4, Try.ntmps4
    go_wp2
    go_ret
    exact ⟨rfl, Below.refl _ _⟩
end Go.Proofs.Ytamgckmkebpgjaa
