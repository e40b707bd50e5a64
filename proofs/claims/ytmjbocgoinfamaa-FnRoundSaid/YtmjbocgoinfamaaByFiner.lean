/- The program's by and finer. -/
import Derived.Test.YtmjbocgoinfamaaSize
import Derived.Test.YtmjbocgoinfamaaTurned
import Derived.StillTailTactics
import Derived.IntWalk
namespace Go.Proofs.Ytmjbocgoinfamaa
set_option linter.unusedVariables false
open Go.RowKit

/-- What one gets by way of the money x. -/
def byF (F : Nat → Int) (x j : Nat) : Int := atF F (j / 5) x * atF F x (j % 5)
def partB (F : Nat → Int) (x p q j : Nat) : Int := if j / 5 < p ∨ j / 5 = p ∧ j % 5 < q then byF F x j else 0
theorem partB_zero (F : Nat → Int) (x j : Nat) : 0 = partB F x 0 0 j := by unfold partB; rw [if_neg (by omega)]
theorem partB_step (F : Nat → Int) (x p q j : Nat) (hq : q < 5) : (if j = p * 5 + q then atF F p x * atF F x q else partB F x p q j) = partB F x p (q + 1) j := by
  unfold partB byF
  by_cases e : j = p * 5 + q
  · have e1 : j / 5 = p := by omega
    have e2 : j % 5 = q := by omega
    rw [if_pos e, if_pos (by omega), e1, e2]
  · rw [if_neg e]
    by_cases h : j / 5 < p ∨ j / 5 = p ∧ j % 5 < q
    · rw [if_pos h, if_pos (by omega)]
    · rw [if_neg h, if_neg (by omega)]
theorem partB_row (F : Nat → Int) (x p j : Nat) : partB F x p 5 j = partB F x (p + 1) 0 j := by
  unfold partB
  by_cases h : j / 5 < p ∨ j / 5 = p ∧ j % 5 < 5
  · rw [if_pos h, if_pos (by omega)]
  · rw [if_neg h, if_neg (by omega)]
theorem partB_all (F : Nat → Int) (x j : Nat) (hj : j < 25) : partB F x 5 0 j = byF F x j := by unfold partB; rw [if_pos (by omega)]

/-- All twelve times. -/
def finF (F : Nat → Int) (j : Nat) : Int := F j * 12
def partFin (F : Nat → Int) (p q j : Nat) : Int := if j / 5 < p ∨ j / 5 = p ∧ j % 5 < q then finF F j else F j
theorem partFin_zero (F : Nat → Int) (j : Nat) : F j = partFin F 0 0 j := by unfold partFin; rw [if_neg (by omega)]
theorem partFin_here (F : Nat → Int) (p q : Nat) (hq : q < 5) : partFin F p q (p * 5 + q) = atF F p q := by
  unfold partFin; rw [if_neg (by omega)]; rfl
theorem partFin_step (F : Nat → Int) (p q j : Nat) (hq : q < 5) : (if j = p * 5 + q then atF F p q * 12 else partFin F p q j) = partFin F p (q + 1) j := by
  unfold partFin finF
  by_cases e : j = p * 5 + q
  · rw [if_pos e, if_pos (by omega), e]; rfl
  · rw [if_neg e]
    by_cases h : j / 5 < p ∨ j / 5 = p ∧ j % 5 < q
    · rw [if_pos h, if_pos (by omega)]
    · rw [if_neg h, if_neg (by omega)]
theorem partFin_row (F : Nat → Int) (p j : Nat) : partFin F p 5 j = partFin F (p + 1) 0 j := by
  unfold partFin
  by_cases h : j / 5 < p ∨ j / 5 = p ∧ j % 5 < 5
  · rw [if_pos h, if_pos (by omega)]
  · rw [if_neg h, if_neg (by omega)]
theorem partFin_all (F : Nat → Int) (j : Nat) (hj : j < 25) : partFin F 5 0 j = finF F j := by unfold partFin; rw [if_pos (by omega)]

set_option maxRecDepth 100000 in
set_option maxHeartbeats 1600000 in
theorem by_any (F : Nat → Int) (x : Nat) (w : World) (hx : x < 5) (hF : ∀ i k, i < 5 → k < 5 → 0 ≤ atF F i k ∧ atF F i k ≤ 144) :
    Calls Try.prog 69 #[.agg (cellsV 25 F), .int .i64 x] w fun e w' => e = .returned (.agg (cellsV 25 (byF F x))) ∧ Below w.heap.size w w' := by
  have HF := Lib.hid hF
  clear hF
  have t1 : True := trivial
  go_enter Try.func69, Try.ntmps69
  go_wp2_with (first
    | ((with_reducible refine arr_box 25 _ _ F ?_ ?_); exact rfl; intro w1 hA1 hs1 hb1; have S1 := Lib.hid hs1; clear hs1)
    | (have _t := t1; (with_reducible refine arr_alloc 25 _ (Try.zeroRates _) ?_); clear t1; intro w2 hA2 hs2 hb2; have S2 := Lib.hid hs2; clear hs2)
    | ((with_reducible refine arr_alloc 25 _ (Try.zeroRates _) ?_); intro w3 hA3 hs3 hb3; have S3 := Lib.hid hs3; clear hs3))
  obtain ⟨G2, hG2⟩ : ∃ G, G = w1.heap.size := ⟨_, rfl⟩
  obtain ⟨G3, hG3⟩ : ∃ G, G = w2.heap.size := ⟨_, rfl⟩
  have e1 : w1.heap.size = w.heap.size + 1 := S1.out
  have e2 : w2.heap.size = w1.heap.size + 1 := S2.out
  have hB := below_chain (below_chain hb1 hb2) hb3
  have hA1' := hA1.below hA1.lt (below_chain hb2 hb3)
  have hA2' := hA2.below hA2.lt hb3
  have n1 : w.heap.size < G2 := by omega
  have n2 : G2 < G3 := by omega
  rw [← hG2] at hA2' ⊢
  rw [← hG3] at hA3 ⊢
  have R1 := Lib.hid hA1'
  have R2 := Lib.hid hA2'
  have R3 := Lib.hid (hA3.congr fun j _ => partB_zero F x j)
  have RB := Lib.hid hB
  clear hA1 hA2 hA3 hb1 hb2 hb3 hA1' hA2' hB S1 S2 S3 e1 e2 hG2 hG3
  go_loopw [6, 7, 8] (fun _ _ i wr => ∃ p : Nat, p ≤ 5 ∧ i = .int .i64 p ∧ ArrAt wr w.heap.size 58 25 F ∧ ArrAt wr G2 58 25 (fun _ => 0) ∧ ArrAt wr G3 58 25 (partB F x p 0) ∧ Below w.heap.size w wr) (fun _ _ i _ => 5 - (intOf i).toNat)
  case atStart => exact ⟨0, by omega, rfl, R1.out, R2.out, R3.out, RB.out⟩
  case round =>
    obtain ⟨p, hp, rfl, h1, h2, h3, hb⟩ := hrel
    clear R1 R2 R3 RB
    have R1 := Lib.hid h1
    have R2 := Lib.hid h2
    have R3 := Lib.hid h3
    have RB := Lib.hid hb
    by_cases hlt : p < 5
    · have hd : decide ((p : Int) < 5) = true := by simp; omega
      clear h1 h2 h3 hb
      go_wp2
      go_loopw [7, 11] (fun _ k wr => ∃ q : Nat, q ≤ 5 ∧ k = .int .i64 q ∧ ArrAt wr w.heap.size 58 25 F ∧ ArrAt wr G2 58 25 (fun _ => 0) ∧ ArrAt wr G3 58 25 (partB F x p q) ∧ Below w.heap.size w wr) (fun _ k _ => 5 - (intOf k).toNat)
      case atStart => exact ⟨0, by omega, rfl, R1.out, R2.out, R3.out, RB.out⟩
      case round =>
        obtain ⟨q, hq, rfl, h1, h2, h3, hb⟩ := hrel
        clear R1 R2 R3 RB hd
        by_cases hqlt : q < 5
        · have hc1 : wr.cell? ⟨w.heap.size, p * 5 + x, none⟩ = some (.int .i64 (atF F p x)) := h1.cell (j := p * 5 + x) (by omega)
          have hc2 : wr.cell? ⟨w.heap.size, x * 5 + q, none⟩ = some (.int .i64 (atF F x q)) := h1.cell (j := x * 5 + q) (by omega)
          have hc3 := h3.cell (j := p * 5 + q) (by omega)
          have hf3 := h3.frozen (p * 5 + q)
          have hb1 := HF.out p x hlt hx
          have hb2 := HF.out x q hx hqlt
          have hm1 : 0 ≤ atF F p x * atF F x q := Int.mul_nonneg hb1.1 hb2.1
          have hm2 : atF F p x * atF F x q ≤ 144 * 144 := Int.mul_le_mul hb1.2 hb2.2 hb2.1 (by omega)
          have hd : decide ((q : Int) < 5) = true := by simp; omega
          have hp5 : (p : Int) < 5 := by omega
          have hq5 : (q : Int) < 5 := by omega
          have hx5 : (x : Int) < 5 := by omega
          have R1 := Lib.hid h1
          have R2 := Lib.hid h2
          have R3 := Lib.hid h3
          have RB := Lib.hid hb
          have hwr : IntKind.i64.wrap (atF F p x * atF F x q) = atF F p x * atF F x q := IntWalk.i64_in _ (by omega)
          clear h1 h2 h3 hb hb1 hb2
          go_wp2
          go_still_tail 15, (by kernel_rfl)
          go_wp2
          clear hwr
          go_roundw
          case rel =>
            refine ⟨q + 1, by omega, by go_num, ?_, ?_, ?_, (RB.out.setCell (p := ⟨G3, p * 5 + q, none⟩) (by show w.heap.size ≤ G3; omega) _).drew⟩
            · exact R1.out.setOther (a := ⟨G3, p * 5 + q, none⟩) (by show w.heap.size ≠ G3; omega) _
            · exact R2.out.setOther (a := ⟨G3, p * 5 + q, none⟩) (by show G2 ≠ G3; omega) _
            · exact (R3.out.set (p * 5 + q) (atF F p x * atF F x q)).congr (fun j _ => partB_step F x p q j hqlt)
          case measure => simp [intOf]; omega
        · obtain rfl : q = 5 := by omega
          have hd : decide (((5 : Nat) : Int) < 5) = false := by decide
          have R1 := Lib.hid h1
          have R2 := Lib.hid h2
          have R3 := Lib.hid h3
          have RB := Lib.hid hb
          clear h1 h2 h3 hb
          go_wp2
          go_roundw
          case rel => exact ⟨p + 1, by omega, by go_num, R1.out, R2.out, R3.out.congr (fun j hj => partB_row F x p j), RB.out⟩
          case measure => simp [intOf]; omega
    · obtain rfl : p = 5 := by omega
      have hd : decide (((5 : Nat) : Int) < 5) = false := by decide
      clear hb
      go_wp2_with (first
        | ((with_reducible refine arr_load 25 _ _ _ _ _ _ _ ?_ h3 Try.underlying58 Try.sizeRates ?_); exact rfl)
        | ((with_reducible refine arr_store 25 _ _ _ _ _ _ (partB F x 5 0) ?_ ?_ h2 Try.sizeRates ?_); exact rfl; exact rfl; intro w9 hA9 hs9 ho9 hb9; clear h2))
      refine bodyPost_ret (v := .agg (cellsV 25 (byF F x))) ?_ rfl ⟨rfl, RB.out.trans (hb9.mono (by omega))⟩
      exact results_arr Try.results69 _ _ G2 58 25 _ _ _ rfl (hA9.congr fun j hj => partB_all F x j hj) Try.underlying58 Try.sizeRates

set_option maxRecDepth 100000 in
set_option maxHeartbeats 1600000 in
theorem finer_any (F : Nat → Int) (w : World) (hF : ∀ i k, i < 5 → k < 5 → 0 ≤ atF F i k ∧ atF F i k ≤ 144) :
    Calls Try.prog 70 #[.agg (cellsV 25 F)] w fun e w' => e = .returned (.agg (cellsV 25 (finF F))) ∧ Below w.heap.size w w' := by
  have HF := Lib.hid hF
  clear hF
  go_enter Try.func70, Try.ntmps70
  go_wp2_with (first
    | ((with_reducible refine arr_box 25 _ _ F ?_ ?_); exact rfl; intro w1 hA1 hs1 hb1; have S1 := Lib.hid hs1; clear hs1)
    | ((with_reducible refine arr_alloc 25 _ (Try.zeroRates _) ?_); intro w2 hA2 hs2 hb2; have S2 := Lib.hid hs2; clear hs2))
  obtain ⟨G2, hG2⟩ : ∃ G, G = w1.heap.size := ⟨_, rfl⟩
  have e1 : w1.heap.size = w.heap.size + 1 := S1.out
  have hB := below_chain hb1 hb2
  have hA1' := hA1.below hA1.lt hb2
  have n1 : w.heap.size < G2 := by omega
  rw [← hG2] at hA2 ⊢
  have R1 := Lib.hid (hA1'.congr fun j _ => partFin_zero F j)
  have R2 := Lib.hid hA2
  have RB := Lib.hid hB
  clear hA1 hA2 hb1 hb2 hA1' hB S1 S2 e1 hG2
  go_loopw [3, 4, 5] (fun _ _ i wr => ∃ p : Nat, p ≤ 5 ∧ i = .int .i64 p ∧ ArrAt wr w.heap.size 58 25 (partFin F p 0) ∧ ArrAt wr G2 58 25 (fun _ => 0) ∧ Below w.heap.size w wr) (fun _ _ i _ => 5 - (intOf i).toNat)
  case atStart => exact ⟨0, by omega, rfl, R1.out, R2.out, RB.out⟩
  case round =>
    obtain ⟨p, hp, rfl, h1, h2, hb⟩ := hrel
    clear R1 R2 RB
    have R1 := Lib.hid h1
    have R2 := Lib.hid h2
    have RB := Lib.hid hb
    by_cases hlt : p < 5
    · have hd : decide ((p : Int) < 5) = true := by simp; omega
      clear h1 h2 hb
      go_wp2
      go_loopw [4, 8] (fun _ k wr => ∃ q : Nat, q ≤ 5 ∧ k = .int .i64 q ∧ ArrAt wr w.heap.size 58 25 (partFin F p q) ∧ ArrAt wr G2 58 25 (fun _ => 0) ∧ Below w.heap.size w wr) (fun _ k _ => 5 - (intOf k).toNat)
      case atStart => exact ⟨0, by omega, rfl, R1.out, R2.out, RB.out⟩
      case round =>
        obtain ⟨q, hq, rfl, h1, h2, hb⟩ := hrel
        clear R1 R2 RB hd
        by_cases hqlt : q < 5
        · have hc1 : wr.cell? ⟨w.heap.size, p * 5 + q, none⟩ = some (.int .i64 (atF F p q)) := by rw [← partFin_here F p q hqlt]; exact h1.cell (j := p * 5 + q) (by omega)
          have hf1 := h1.frozen (p * 5 + q)
          have hb1 := HF.out p q hlt hqlt
          have hb1' := hb1.1
          have hb2' := hb1.2
          have hd : decide ((q : Int) < 5) = true := by simp; omega
          have hp5 : (p : Int) < 5 := by omega
          have hq5 : (q : Int) < 5 := by omega
          have R1 := Lib.hid h1
          have R2 := Lib.hid h2
          have RB := Lib.hid hb
          have hwr : IntKind.i64.wrap (atF F p q * 12) = atF F p q * 12 := IntWalk.i64_in _ (by omega)
          clear h1 h2 hb hb1
          go_wp2
          go_still_tail 8, (by kernel_rfl)
          go_wp2
          clear hwr
          go_roundw
          case rel =>
            refine ⟨q + 1, by omega, by go_num, ?_, ?_, (RB.out.setCell (p := ⟨w.heap.size, p * 5 + q, none⟩) (Nat.le_refl _) _).drew⟩
            · exact (R1.out.set (p * 5 + q) (atF F p q * 12)).congr (fun j _ => partFin_step F p q j hqlt)
            · exact R2.out.setOther (a := ⟨w.heap.size, p * 5 + q, none⟩) (by show G2 ≠ w.heap.size; omega) _
          case measure => simp [intOf]; omega
        · obtain rfl : q = 5 := by omega
          have hd : decide (((5 : Nat) : Int) < 5) = false := by decide
          have R1 := Lib.hid h1
          have R2 := Lib.hid h2
          have RB := Lib.hid hb
          clear h1 h2 hb
          go_wp2
          go_roundw
          case rel => exact ⟨p + 1, by omega, by go_num, R1.out.congr (fun j hj => partFin_row F p j), R2.out, RB.out⟩
          case measure => simp [intOf]; omega
    · obtain rfl : p = 5 := by omega
      have hd : decide (((5 : Nat) : Int) < 5) = false := by decide
      clear hb
      go_wp2_with (first
        | ((with_reducible refine arr_load 25 _ _ _ _ _ _ _ ?_ h1 Try.underlying58 Try.sizeRates ?_); exact rfl)
        | ((with_reducible refine arr_store 25 _ _ _ _ _ _ (partFin F 5 0) ?_ ?_ h2 Try.sizeRates ?_); exact rfl; exact rfl; intro w9 hA9 hs9 ho9 hb9; clear h2))
      refine bodyPost_ret (v := .agg (cellsV 25 (finF F))) ?_ rfl ⟨rfl, RB.out.trans (hb9.mono (by omega))⟩
      exact results_arr Try.results70 _ _ G2 58 25 _ _ _ rfl (hA9.congr fun j hj => partFin_all F j hj) Try.underlying58 Try.sizeRates
end Go.Proofs.Ytmjbocgoinfamaa
