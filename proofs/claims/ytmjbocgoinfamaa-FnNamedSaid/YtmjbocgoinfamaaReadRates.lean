/- The program's readRates: the table as an array of 25 cells, and whether it is one. -/
import Derived.Test.YtmjbocgoinfamaaProg
import Derived.Test.YtmjbocgoinfamaaMem
namespace Go.Proofs.Ytmjbocgoinfamaa
set_option linter.unusedVariables false
open Go.RowKit

theorem Try.zeroRates (w : World) : (zeroValue 58).run Try.prog w = .ok (.agg (cellsV 25 fun _ => 0)) w := by kernel_rfl
theorem Try.builtRates : Try.prog.built 58 [] = some (cellsV 25 fun _ => 0) := by kernel_rfl
theorem Try.sizeRates : (Try.prog.info? 58).map (·.size) = some 25 := by kernel_rfl

/-- What is kept: the table's numbers, 0 behind them; all 0 if it is no table of rates. -/
noncomputable def rateF (n : Nat) (L : Nat → Nat) (Z : Nat → Nat → Int) (j : Nat) : Int := if tt (IsRates n L Z) = true ∧ j / 5 < n ∧ j % 5 < n then Z (j / 5) (j % 5) else 0

theorem rateF_no {n : Nat} {L : Nat → Nat} {Z : Nat → Nat → Int} (h : ¬ IsRates n L Z) (j : Nat) : 0 = rateF n L Z j := by
  unfold rateF; rw [tt_no h]; simp
theorem rateF_yes {n : Nat} {L : Nat → Nat} {Z : Nat → Nat → Int} (h : IsRates n L Z) (j : Nat) : (if j / 5 < n ∧ j % 5 < n then Z (j / 5) (j % 5) else 0) = rateF n L Z j := by
  unfold rateF; rw [tt_of h]; simp


theorem readRates_len (n c : Nat) (a : Option Addr) (L : Nat → Nat) (Z : Nat → Nat → Int) (w : World) (hn : n ≤ 1048576) (h1 : n < 2 ∨ 5 < n) :
    Calls Try.prog 52 #[.slice a n c] w fun e w' => e = .returned (.tuple #[.agg (cellsV 25 (rateF n L Z)), .bool (tt (IsRates n L Z))]) ∧ Below w.heap.size w w' := by
  have hno : ¬ IsRates n L Z := fun h => by have := h.1; omega
  have H1 := Lib.hid h1
  have Hno := Lib.hid hno
  clear hno
  by_cases h2 : n < 2
  all_goals
    clear h1
    have h3 := H1.out
    have h4 : ¬ n < 2 → 5 < n := by omega
    clear h3
    try have h5 := h4 h2
    clear h4
    go_enter Try.func52, Try.ntmps52
    go_wp2_with (first
      | ((with_reducible refine arr_alloc 25 _ (Try.zeroRates _) ?_); intro w1 hA1 hs1 hb1; have S1 := Lib.hid hs1; clear hs1)
      | (with_reducible refine arr_build0 25 _ Try.builtRates ?_)
      | ((with_reducible refine arr_store 25 _ _ _ _ _ _ (fun _ => 0) ?_ ?_ hA1 Try.sizeRates ?_); exact rfl; exact rfl; intro w2 hA2 hs2 ho2 hb2; clear hA1))
    all_goals
      refine bodyPost_ret (v := .tuple #[.agg (cellsV 25 (rateF n L Z)), .bool (tt (IsRates n L Z))]) ?_ rfl ⟨rfl, hb1.trans hb2⟩
      rw [results_arr_tmp (F := rateF n L Z) Try.results52 _ _ w.heap.size 58 25 _ _ rfl (hA2.congr fun j _ => rateF_no Hno.out j) Try.underlying58 Try.sizeRates, tt_no Hno.out]
      rfl

/-- What is written when i rows and k numbers of the next one are read. -/
def partF (n i k : Nat) (Z : Nat → Nat → Int) (j : Nat) : Int := if (j / 5 < i ∨ j / 5 = i ∧ j % 5 < k) ∧ j % 5 < n then Z (j / 5) (j % 5) else 0

theorem partF_step {n i k : Nat} {Z : Nat → Nat → Int} (hk : k < n) (hn : n ≤ 5) (j : Nat) : (if j = i * 5 + k then Z i k else partF n i k Z j) = partF n i (k + 1) Z j := by
  unfold partF
  by_cases e : j = i * 5 + k
  · have e1 : j / 5 = i := by omega
    have e2 : j % 5 = k := by omega
    rw [if_pos e, e1, e2, if_pos (by omega)]
  · rw [if_neg e]
    by_cases h : (j / 5 < i ∨ j / 5 = i ∧ j % 5 < k) ∧ j % 5 < n
    · rw [if_pos h, if_pos (by omega)]
    · rw [if_neg h, if_neg (by omega)]
theorem partF_row {n i : Nat} {Z : Nat → Nat → Int} (j : Nat) : partF n i n Z j = partF n (i + 1) 0 Z j := by
  unfold partF
  by_cases h : (j / 5 < i ∨ j / 5 = i ∧ j % 5 < n) ∧ j % 5 < n
  · rw [if_pos h, if_pos (by omega)]
  · rw [if_neg h, if_neg (by omega)]
theorem partF_zero {n : Nat} {Z : Nat → Nat → Int} (j : Nat) : 0 = partF n 0 0 Z j := by
  unfold partF; rw [if_neg (by omega)]
theorem partF_all {n : Nat} {Z : Nat → Nat → Int} (j : Nat) : partF n n 0 Z j = if j / 5 < n ∧ j % 5 < n then Z (j / 5) (j % 5) else 0 := by
  unfold partF
  by_cases h : j / 5 < n ∧ j % 5 < n
  · rw [if_pos h, if_pos (by omega)]
  · rw [if_neg h, if_neg (by omega)]

set_option maxHeartbeats 1000000 in
theorem readRates_mid (n c : Nat) (a : Option Addr) (A : Nat → Option Addr) (L C : Nat → Nat) (Z : Nat → Nat → Int) (w : World) (hn2 : 2 ≤ n) (hn5 : n ≤ 5) (hL : ∀ r, r < n → L r ≤ 1048576) (ha : Tab w a n A L C Z) :
    Calls Try.prog 52 #[.slice a n c] w fun e w' => e = .returned (.tuple #[.agg (cellsV 25 (rateF n L Z)), .bool (tt (IsRates n L Z))]) ∧ Below w.heap.size w w' := by
  go_enter Try.func52, Try.ntmps52
  have hd : decide (5 < (n : Int)) = false := by simp; omega
  have tk : True := trivial
  go_wp2_with (first
    | (have _t := tk; (with_reducible refine arr_alloc 25 _ (Try.zeroRates _) ?_); clear tk; intro w1 hA1 hs1 hb1; have S1 := Lib.hid hs1; clear hs1)
    | ((with_reducible refine arr_alloc 25 _ (Try.zeroRates _) ?_); intro w2 hA2 hs2 hb2; have S2 := Lib.hid hs2; clear hs2))
  have e0 : w1.heap.size = w.heap.size + 1 := S1.out
  have e1 : w2.heap.size = w.heap.size + 2 := by rw [S2.out, e0]
  have hR := hA1.below (by rw [e0]; omega) hb2
  have hB := hb1.trans (hb2.mono (by rw [e0]; omega))
  rw [e0] at hA2 ⊢
  have R1 := Lib.hid hR
  have R2 := Lib.hid (hA2.congr fun j _ => partF_zero (n := n) (Z := Z) j)
  have R3 := Lib.hid hB
  have E1 := Lib.hid e1
  clear hA1 hA2 hb1 hb2 hR hB e0 e1 S1 S2
  go_loopw [3, 6, 7, 8, 9, 21] (fun r _ _ _ _ i wr => ∃ k : Nat, k ≤ n ∧ i = .int .i64 k ∧ r = .bool false ∧ (∀ i, i < k → L i = n ∧ ∀ k, k < n → (1 ≤ Z i k ∧ Z i k ≤ 144) ∧ (i = k → Z i k = 12)) ∧
      ArrAt wr w.heap.size 58 25 (fun _ => 0) ∧ ArrAt wr (w.heap.size + 1) 58 25 (partF n k 0 Z) ∧ wr.heap.size = w.heap.size + 2 ∧ Below w.heap.size w wr) (fun _ _ _ _ _ i _ => n - (intOf i).toNat)
  case atStart => exact ⟨0, Nat.zero_le _, rfl, rfl, fun j hj => absurd hj (Nat.not_lt_zero _), R1.out, R2.out, E1.out, R3.out⟩
  case round =>
    obtain ⟨k, hk, rfl, rfl, hs, hZ, hP, hsz, hb⟩ := hrel
    clear R1 R2 R3 E1
    by_cases hlt : k < n
    · obtain ⟨ba, oa, rfl, hca0, hra0⟩ := ha k hlt
      have hra := hra0.below (Nat.le_refl _) hb
      have hca := (hb.cell (p := ⟨ba, oa + k, none⟩) (World.block_lt_of_cell? _ _ hca0)).trans hca0
      have hLk := hL k hlt
      have H1 := Lib.hid hs
      have H2 := Lib.hid hZ
      have H3 := Lib.hid hP
      have H4 := Lib.hid hsz
      have H5 := Lib.hid hb
      have H6 := Lib.hid hra0
      clear hs ha hL hZ hP hsz hb hra hra0 hca0
      by_cases hln : L k = n
      · have hne : ((L k : Int) != (n : Int)) = false := by simp; omega
        have H7 := Lib.hid hln
        clear hln
        go_wp2
        go_loopw [3, 8, 9, 33] (fun r _ _ i wi => ∃ j : Nat, j ≤ n ∧ i = .int .i64 j ∧ r = .bool false ∧ (∀ j', j' < j → (1 ≤ Z k j' ∧ Z k j' ≤ 144) ∧ (k = j' → Z k j' = 12)) ∧
            ArrAt wi w.heap.size 58 25 (fun _ => 0) ∧ ArrAt wi (w.heap.size + 1) 58 25 (partF n k j Z) ∧ wi.heap.size = w.heap.size + 2 ∧ Below w.heap.size w wi) (fun _ _ _ i _ => n - (intOf i).toNat)
        case atStart => exact ⟨0, Nat.zero_le _, rfl, rfl, fun j hj => absurd hj (Nat.not_lt_zero _), H2.out, H3.out, H4.out, H5.out⟩
        case round =>
          obtain ⟨j, hj, rfl, rfl, hs, hZ, hP, hsz, hb⟩ := hrel
          clear H2 H3 H4 H5 hca
          have hra := H6.out.below (Nat.le_refl _) hb
          by_cases hjlt : j < n
          · obtain ⟨bb, ob, hA, hcb⟩ := hra j (by have := H7.out; omega)
            rw [hA]
            have hLj : j < L k := by have := H7.out; omega
            have hP1 := hP.cell (j := k * 5 + j) (by omega)
            have hP2 := hP.frozen (k * 5 + j)
            have H2 := Lib.hid hZ
            have H3 := Lib.hid hP
            have H4 := Lib.hid hsz
            have H5 := Lib.hid hb
            have H8 := Lib.hid hs
            have H9 := Lib.hid hA
            clear hs hra hA hZ hP hsz hb
            by_cases hlo : Z k j < 1
            · have hdl : decide (Z k j < 1) = true := by simpa using hlo
              have Hno := Lib.hid (show ¬ IsRates n L Z from fun h => by have := ((h.2 k hlt).2 j hjlt).1; omega)
              have hA1 := H2.out
              go_wp2_with (first | (with_reducible refine arr_build0 25 _ Try.builtRates ?_) | ((with_reducible refine arr_store 25 _ _ _ _ _ _ (fun _ => 0) ?_ ?_ hA1 Try.sizeRates ?_); exact rfl; exact rfl; intro w2 hA2 hs2 ho2 hb2; clear hA1))
              refine bodyPost_ret (v := .tuple #[.agg (cellsV 25 (rateF n L Z)), .bool (tt (IsRates n L Z))]) ?_ rfl ⟨rfl, H5.out.trans hb2⟩
              rw [results_arr_tmp (F := rateF n L Z) Try.results52 _ _ w.heap.size 58 25 _ _ rfl (hA2.congr fun j _ => rateF_no Hno.out j) Try.underlying58 Try.sizeRates, tt_no Hno.out]
              rfl
            · by_cases hhi : 144 < Z k j
              · have hdl : decide (144 < Z k j) = true := by simpa using hhi
                have Hno := Lib.hid (show ¬ IsRates n L Z from fun h => by have := ((h.2 k hlt).2 j hjlt).1; omega)
                have hA1 := H2.out
                go_wp2_with (first | (with_reducible refine arr_build0 25 _ Try.builtRates ?_) | ((with_reducible refine arr_store 25 _ _ _ _ _ _ (fun _ => 0) ?_ ?_ hA1 Try.sizeRates ?_); exact rfl; exact rfl; intro w2 hA2 hs2 ho2 hb2; clear hA1))
                refine bodyPost_ret (v := .tuple #[.agg (cellsV 25 (rateF n L Z)), .bool (tt (IsRates n L Z))]) ?_ rfl ⟨rfl, H5.out.trans hb2⟩
                rw [results_arr_tmp (F := rateF n L Z) Try.results52 _ _ w.heap.size 58 25 _ _ rfl (hA2.congr fun j _ => rateF_no Hno.out j) Try.underlying58 Try.sizeRates, tt_no Hno.out]
                rfl
              · have hi2 : decide (144 < Z k j) = false := by simpa using hhi
                by_cases hkj : k = j
                · subst hkj
                  by_cases hz : Z k k = 12
                  · have hb1 : (Z k k != 12) = false := by simp [hz]
                    have HZ := Lib.hid hz
                    clear hz
                    go_wp2
                    go_roundw
                    case rel =>
                      refine ⟨k + 1, by omega, by go_num, rfl, fun j' hj' => ?_, H2.out.setOther (by show w.heap.size ≠ w.heap.size + 1; omega) _, (H3.out.set _ _).congr (fun j' _ => partF_step hjlt hn5 j'), ?_, H5.out.setCell (Nat.le_succ _) _⟩
                      · by_cases e : j' = k
                        · subst e; exact ⟨by omega, fun _ => HZ.out⟩
                        · exact H8.out j' (by omega)
                      · rw [← H4.out]; simp [World.setCell]
                    case measure => simp [intOf]; omega
                  · have hb1 : (Z k k != 12) = true := by simp [hz]
                    have Hno := Lib.hid (show ¬ IsRates n L Z from fun h => hz (((h.2 k hlt).2 k hlt).2 rfl))
                    have hA1 := H2.out
                    go_wp2_with (first | (with_reducible refine arr_build0 25 _ Try.builtRates ?_) | ((with_reducible refine arr_store 25 _ _ _ _ _ _ (fun _ => 0) ?_ ?_ hA1 Try.sizeRates ?_); exact rfl; exact rfl; intro w2 hA2 hs2 ho2 hb2; clear hA1))
                    refine bodyPost_ret (v := .tuple #[.agg (cellsV 25 (rateF n L Z)), .bool (tt (IsRates n L Z))]) ?_ rfl ⟨rfl, H5.out.trans hb2⟩
                    rw [results_arr_tmp (F := rateF n L Z) Try.results52 _ _ w.heap.size 58 25 _ _ rfl (hA2.congr fun j _ => rateF_no Hno.out j) Try.underlying58 Try.sizeRates, tt_no Hno.out]
                    rfl
                · have hb1 : ((k : Int) == (j : Int)) = false := by simp; omega
                  go_wp2
                  go_roundw
                  case rel =>
                    refine ⟨j + 1, by omega, by go_num, rfl, fun j' hj' => ?_, H2.out.setOther (by show w.heap.size ≠ w.heap.size + 1; omega) _, (H3.out.set _ _).congr (fun j' _ => partF_step hjlt hn5 j'), ?_, H5.out.setCell (Nat.le_succ _) _⟩
                    · by_cases e : j' = j
                      · subst e; exact ⟨by omega, fun e => absurd e hkj⟩
                      · exact H8.out j' (by omega)
                    · rw [← H4.out]; simp [World.setCell]
                  case measure => simp [intOf]; omega
          · have H2 := Lib.hid hZ
            have H3 := Lib.hid hP
            have H4 := Lib.hid hsz
            have H5 := Lib.hid hb
            have H8 := Lib.hid hs
            clear hs hra hZ hP hsz hb
            have hge : ¬ j < L k := by have := H7.out; omega
            obtain rfl : j = n := by omega
            go_wp2
            go_roundw
            case rel =>
              exact ⟨k + 1, by omega, by go_num, rfl, fun i' hi' => by
                by_cases e : i' = k
                · subst e; exact ⟨H7.out, fun j' hj' => H8.out j' (by omega)⟩
                · exact H1.out i' (by omega), H2.out, H3.out.congr (fun j _ => partF_row j), H4.out, H5.out⟩
            case measure => simp [intOf]; omega
      · have hne : ((L k : Int) != (n : Int)) = true := by simp; omega
        have Hno := Lib.hid (show ¬ IsRates n L Z from fun h => hln (h.2 k hlt).1)
        have hA1 := H2.out
        go_wp2_with (first | (with_reducible refine arr_build0 25 _ Try.builtRates ?_) | ((with_reducible refine arr_store 25 _ _ _ _ _ _ (fun _ => 0) ?_ ?_ hA1 Try.sizeRates ?_); exact rfl; exact rfl; intro w2 hA2 hs2 ho2 hb2; clear hA1))
        refine bodyPost_ret (v := .tuple #[.agg (cellsV 25 (rateF n L Z)), .bool (tt (IsRates n L Z))]) ?_ rfl ⟨rfl, H5.out.trans hb2⟩
        rw [results_arr_tmp (F := rateF n L Z) Try.results52 _ _ w.heap.size 58 25 _ _ rfl (hA2.congr fun j _ => rateF_no Hno.out j) Try.underlying58 Try.sizeRates, tt_no Hno.out]
        rfl
    · obtain rfl : k = n := by omega
      have hyes : IsRates k L Z := ⟨⟨hn2, hn5⟩, hs⟩
      have Hyes := Lib.hid hyes
      have hP2 := hP.congr (G := rateF k L Z) (fun j _ => (partF_all j).trans (rateF_yes hyes j))
      clear hP hyes hs ha hL
      go_wp2_with (first
        | ((with_reducible refine arr_load 25 _ _ _ _ _ _ _ ?_ hP2 Try.underlying58 Try.sizeRates ?_); exact rfl)
        | ((with_reducible refine arr_store 25 _ _ _ _ _ _ (rateF k L Z) ?_ ?_ hZ Try.sizeRates ?_); exact rfl; exact rfl; intro w2 hA2 hs2 ho2 hb2; clear hZ))
      refine bodyPost_ret (v := .tuple #[.agg (cellsV 25 (rateF k L Z)), .bool (tt (IsRates k L Z))]) ?_ rfl ⟨rfl, hb.trans hb2⟩
      rw [results_arr_tmp (F := rateF k L Z) Try.results52 _ _ w.heap.size 58 25 _ _ rfl hA2 Try.underlying58 Try.sizeRates, tt_of Hyes.out]
      rfl

/-- THE PROGRAM's readRates. -/
theorem readRates_any (n c : Nat) (a : Option Addr) (A : Nat → Option Addr) (L C : Nat → Nat) (Z : Nat → Nat → Int) (w : World) (hn : n ≤ 1048576) (hL : ∀ r, r < n → L r ≤ 1048576) (ha : Tab w a n A L C Z) :
    Calls Try.prog 52 #[.slice a n c] w fun e w' => e = .returned (.tuple #[.agg (cellsV 25 (rateF n L Z)), .bool (tt (IsRates n L Z))]) ∧ Below w.heap.size w w' := by
  by_cases h : n < 2 ∨ 5 < n
  · exact readRates_len n c a L Z w hn h
  · exact readRates_mid n c a A L C Z w (by omega) (by omega) hL ha
end Go.Proofs.Ytmjbocgoinfamaa
