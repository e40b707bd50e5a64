/- The program's table: the rates that prices fit. -/
import Derived.Test.YtbdbeeeffajbnaaReadPriced
import Derived.StillTailTactics
import Derived.IntWalk
namespace Go.Proofs.Ytbdbeeeffajbnaa
set_option linter.unusedVariables false
open Go.RowKit

/-- Each price twelve times is divided by each. -/
def Divs (n : Nat) (W : Nat → Int) : Prop := ∀ i, i < n → ∀ k, k < n → 12 * W i % W k = 0
/-- What a unit gives. -/
def quoP (W : Nat → Int) (i k : Nat) : Int := 12 * W i / W k
/-- .. as an array; i rows and k numbers of the next one are there. -/
def partQ (n : Nat) (W : Nat → Int) (i k j : Nat) : Int := if (j / 5 < i ∨ j / 5 = i ∧ j % 5 < k) ∧ j % 5 < n then quoP W (j / 5) (j % 5) else 0

theorem partQ_step {n i k : Nat} {W : Nat → Int} (hk : k < n) (hn : n ≤ 5) (j : Nat) : (if j = i * 5 + k then quoP W i k else partQ n W i k j) = partQ n W i (k + 1) j := by
  unfold partQ
  by_cases e : j = i * 5 + k
  · have e1 : j / 5 = i := by omega
    have e2 : j % 5 = k := by omega
    rw [if_pos e, e1, e2, if_pos (by omega)]
  · rw [if_neg e]
    by_cases h : (j / 5 < i ∨ j / 5 = i ∧ j % 5 < k) ∧ j % 5 < n
    · rw [if_pos h, if_pos (by omega)]
    · rw [if_neg h, if_neg (by omega)]
theorem partQ_row {n i : Nat} {W : Nat → Int} (j : Nat) : partQ n W i n j = partQ n W (i + 1) 0 j := by
  unfold partQ
  by_cases h : (j / 5 < i ∨ j / 5 = i ∧ j % 5 < n) ∧ j % 5 < n
  · rw [if_pos h, if_pos (by omega)]
  · rw [if_neg h, if_neg (by omega)]
theorem partQ_zero {n : Nat} {W : Nat → Int} (j : Nat) : 0 = partQ n W 0 0 j := by
  unfold partQ; rw [if_neg (by omega)]

/-- The array: all 0 where there is none. -/
noncomputable def tabQ (n : Nat) (W : Nat → Int) (j : Nat) : Int := if tt (Divs n W) = true then partQ n W n 0 j else 0
theorem tabQ_yes {n : Nat} {W : Nat → Int} (h : tt (Divs n W) = true) (j : Nat) : tabQ n W j = partQ n W n 0 j := by unfold tabQ; rw [if_pos h]
theorem tabQ_no {n : Nat} {W : Nat → Int} (h : tt (Divs n W) = false) (j : Nat) : tabQ n W j = 0 := by unfold tabQ; rw [h]; rfl

set_option maxRecDepth 100000 in
set_option maxHeartbeats 1600000 in
theorem table_any (n d : Nat) (b : Option Addr) (W : Nat → Int) (w : World) (hp : IsPrices n W) (hb : Rd w b n W) :
    Calls Try.prog 84 #[.agg #[.slice b n d]] w fun e w' => e = .returned (.tuple #[.agg (cellsV 25 (tabQ n W)), .bool (tt (Divs n W))]) ∧ Below w.heap.size w w' := by
  have HP := Lib.hid hp
  have HB := Lib.hid hb
  have h5 := hp.1.2
  clear hp hb
  have t1 : True := trivial
  go_enter Try.func84, Try.ntmps84
  go_wp2_with (first
    | ((with_reducible refine box_box _ _ (.slice b n d) ?_ ?_); exact rfl; intro w1 hA1 hs1 hb1; have S1 := Lib.hid hs1; have R1 := Lib.hid hA1; have B1 := Lib.hid hb1; clear hA1 hs1 hb1)
    | (have _t := t1; (with_reducible refine arr_alloc 25 _ (Try.zeroRates _) ?_); clear t1; intro w2 hA2 hs2 hb2; have S2 := Lib.hid hs2; have R2 := Lib.hid hA2; have R1' := Lib.hid (R1.out.below R1.out.lt hb2); have B2 := Lib.hid (below_chain B1.out hb2); clear R1 B1 hA2 hs2 hb2)
    | ((with_reducible refine arr_alloc 25 _ (Try.zeroRates _) ?_); intro w3 hA3 hs3 hb3; have R3 := Lib.hid hA3; have R2' := Lib.hid (R2.out.below R2.out.lt hb3); have hR1 := R1'.out.below R1'.out.lt hb3; have hc1 := hR1.cell; have B3 := Lib.hid (below_chain B2.out hb3); clear R1' R2 B2 hA3 hs3 hb3 hR1))
  have e1 : w1.heap.size = w.heap.size + 1 := S1.out
  have e2 : w2.heap.size = w.heap.size + 2 := by rw [S2.out, S1.out]
  obtain ⟨G2, hG2⟩ : ∃ G, G = w1.heap.size := ⟨_, rfl⟩
  obtain ⟨G3, hG3⟩ : ∃ G, G = w2.heap.size := ⟨_, rfl⟩
  have n1 : w.heap.size < G2 := by omega
  have n2 : G2 < G3 := by omega
  have r2 := R2'.out
  have r3 := R3.out.congr (G := partQ n W 0 0) (fun j _ => partQ_zero j)
  rw [← hG2] at r2 ⊢
  rw [← hG3] at r3 ⊢
  have R2 := Lib.hid r2
  have R4 := Lib.hid r3
  have HC1 := Lib.hid hc1
  clear r2 r3 R2' R3 hG2 hG3 e1 e2 S1 S2 hc1
  go_loopw [3, 5, 6, 7, 8, 12] (fun r _ _ _ _ s wr => ∃ i : Nat, i ≤ n ∧ s = .int .i64 i ∧ r = .bool false ∧ (∀ i', i' < i → ∀ k, k < n → 12 * W i' % W k = 0) ∧ ArrAt wr G2 53 25 (fun _ => 0) ∧ ArrAt wr G3 53 25 (partQ n W i 0) ∧ wr.cell? ⟨w.heap.size, 0, none⟩ = some (.slice b n d) ∧ Below w.heap.size w wr) (fun _ _ _ _ _ s _ => n - (intOf s).toNat)
  case atStart => exact ⟨0, by omega, rfl, rfl, fun j hj => absurd hj (Nat.not_lt_zero _), R2.out, R4.out, HC1.out, B3.out⟩
  case round =>
    obtain ⟨i, hi, rfl, rfl, hall, h2, h3, hc, hbw⟩ := hrel
    have G1 := Lib.hid hall
    clear R2 R4 HC1 B3
    by_cases hlt : i < n
    · obtain ⟨bb, ob, rfl, hcb⟩ := (HB.out.below (Nat.le_refl _) hbw) i hlt
      have hw := HP.out.2 i hlt
      have hw1 := hw.1
      have hw2 := hw.2
      have R2 := Lib.hid h2
      have R3 := Lib.hid h3
      have RC := Lib.hid hc
      have RB := Lib.hid hbw
      clear hw hall h2 h3 hbw
      go_wp2
      clear hcb hc
      go_loopw [3, 7, 8, 20] (fun r _ _ s wi => ∃ j : Nat, j ≤ n ∧ s = .int .i64 j ∧ r = .bool false ∧ (∀ k, k < j → 12 * W i % W k = 0) ∧ ArrAt wi G2 53 25 (fun _ => 0) ∧ ArrAt wi G3 53 25 (partQ n W i j) ∧ wi.cell? ⟨w.heap.size, 0, none⟩ = some (.slice (some ⟨bb, ob, none⟩) n d) ∧ Below w.heap.size w wi) (fun _ _ _ s _ => n - (intOf s).toNat)
      case atStart => exact ⟨0, by omega, rfl, rfl, fun j hj => absurd hj (Nat.not_lt_zero _), R2.out, R3.out, RC.out, RB.out⟩
      case round =>
        obtain ⟨j, hj, rfl, rfl, hall, h2, h3, hc, hbw⟩ := hrel
        have G2' := Lib.hid hall
        clear R2 R3 RC RB
        by_cases hjlt : j < n
        · have hcb2 : wr.cell? ⟨bb, ob + j, none⟩ = some (.int .i64 (W j)) := by
            obtain ⟨b', o', he, hc'⟩ := (HB.out.below (Nat.le_refl _) hbw) j hjlt
            cases he; exact hc'
          have hv := HP.out.2 j hjlt
          have hv1 := hv.1
          have hv2 := hv.2
          have hi5 : (i : Int) < 5 := by omega
          have hj5 : (j : Int) < 5 := by omega
          have hc3 := h3.cell (j := i * 5 + j) (by omega)
          have hf3 := h3.frozen (i * 5 + j)
          have R2 := Lib.hid h2
          have R3 := Lib.hid h3
          have RC := Lib.hid hc
          have RB := Lib.hid hbw
          clear hv hall h2 h3 hbw
          by_cases hq : 12 * W i % W j = 0
          · have hd : (12 * W i % W j != 0) = false := by simpa using hq
            have HQ := Lib.hid hq
            clear hq hc
            have hb1 : 0 ≤ 12 * W i / W j := Int.ediv_nonneg (by omega) (by omega)
            have hb2 : 12 * W i / W j ≤ 12 * W i := Int.ediv_le_self _ (by omega)
            have hm1 : IntKind.i64.wrap (12 * W i) = 12 * W i := IntWalk.i64_in _ (by omega)
            have hm2 : (12 * W i).tdiv (W j) = 12 * W i / W j := Int.tdiv_eq_ediv_of_nonneg (by omega)
            have hm3 : IntKind.i64.wrap (12 * W i / W j) = 12 * W i / W j := IntWalk.i64_in _ (by omega)
            have hz : (W j == 0) = false := by simp; omega
            have hz2 : ¬ W j = 0 := by omega
            go_wp2
            go_still_tail 8, (by kernel_rfl)
            go_wp2
            clear hm1 hm2 hm3
            go_roundw
            case rel =>
              refine ⟨j + 1, by omega, by go_num, rfl, fun k hk => ?_, ?_, ?_, ?_, (RB.out.setCell (p := ⟨G3, i * 5 + j, none⟩) (by show w.heap.size ≤ G3; omega) _).drew⟩
              · by_cases e : k = j
                · subst e; exact HQ.out
                · exact G2'.out k (by omega)
              · exact R2.out.setOther (a := ⟨G3, i * 5 + j, none⟩) (by show G2 ≠ G3; omega) _
              · exact (R3.out.set (i * 5 + j) (12 * W i / W j)).congr (fun l _ => partQ_step hjlt h5 l)
              · refine Eq.trans ?_ RC.out
                show (wr.setCell ⟨G3, i * 5 + j, none⟩ (.int .i64 (12 * W i / W j))).cell? ⟨w.heap.size, 0, none⟩ = _
                exact World.cell?_of_block (w := wr) (Below.heap_setCell _ _ _ _ (by show w.heap.size ≠ G3; omega))
            case measure => simp [intOf]; omega
          · have hd : (12 * W i % W j != 0) = true := by simpa using hq
            have hno := Lib.hid (tt_no (show ¬ Divs n W from fun h => hq (h i hlt j hjlt)))
            have hA2 := R2.out
            clear hq hc3 hf3
            go_wp2_with (first
              | (with_reducible refine arr_build0 25 _ Try.builtRates ?_)
              | ((with_reducible refine arr_store 25 _ _ _ _ _ _ (fun _ => 0) ?_ ?_ hA2 Try.sizeRates ?_); exact rfl; exact rfl; intro w9 hA9 hs9 ho9 hb9; clear hA2))
            refine bodyPost_ret (v := .tuple #[.agg (cellsV 25 (tabQ n W)), .bool (tt (Divs n W))]) ?_ rfl ⟨rfl, RB.out.trans (hb9.mono (by omega))⟩
            rw [results_arr_tmp (F := tabQ n W) Try.results84 _ _ G2 53 25 _ _ rfl (hA9.congr fun j _ => (tabQ_no hno.out j).symm) Try.underlying53 Try.sizeRates, hno.out]
            rfl
        · obtain rfl : j = n := by omega
          have R2 := Lib.hid h2
          have R3 := Lib.hid h3
          have RC := Lib.hid hc
          have RB := Lib.hid hbw
          clear hall h2 h3 hc hbw
          go_wp2
          go_roundw
          case rel =>
            exact ⟨i + 1, by omega, by go_num, rfl, fun i' hi' => by
              by_cases e : i' = i
              · subst e; exact G2'.out
              · exact G1.out i' (by omega), R2.out, R3.out.congr (fun j _ => partQ_row j), RC.out, RB.out⟩
          case measure => simp [intOf]; omega
    · obtain rfl : i = n := by omega
      have hyes := Lib.hid (tt_of (show Divs i W from G1.out))
      have RB := Lib.hid hbw
      clear hall hc hbw
      go_wp2_with (first
        | ((with_reducible refine arr_load 25 _ _ _ _ _ _ _ ?_ h3 Try.underlying53 Try.sizeRates ?_); exact rfl)
        | ((with_reducible refine arr_store 25 _ _ _ _ _ _ (partQ i W i 0) ?_ ?_ h2 Try.sizeRates ?_); exact rfl; exact rfl; intro w9 hA9 hs9 ho9 hb9; clear h2))
      refine bodyPost_ret (v := .tuple #[.agg (cellsV 25 (tabQ i W)), .bool (tt (Divs i W))]) ?_ rfl ⟨rfl, RB.out.trans (hb9.mono (by omega))⟩
      rw [results_arr_tmp (F := tabQ i W) Try.results84 _ _ G2 53 25 _ _ rfl (hA9.congr fun j _ => (tabQ_yes hyes.out j).symm) Try.underlying53 Try.sizeRates, hyes.out]
      rfl
end Go.Proofs.Ytbdbeeeffajbnaa
