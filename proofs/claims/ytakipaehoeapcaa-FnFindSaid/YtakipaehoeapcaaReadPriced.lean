/- The program's readPriced. -/
import Derived.Test.YtakipaehoeapcaaReadPrices
import Derived.Test.YtakipaehoeapcaaSize
import Derived.Deep.RegionWith
namespace Go.Proofs.Ytakipaehoeapcaa
set_option linter.unusedVariables false
open Go.RowKit

theorem Try.zeroPrices (w : World) : (zeroValue 69).run Try.prog w = .ok (.agg #[.slice none 0 0]) w := by kernel_rfl

set_option maxHeartbeats 1600000 in
theorem readPriced_yes (n c d : Nat) (a b : Option Addr) (A : Nat → Option Addr) (L C : Nat → Nat) (Z : Nat → Nat → Int) (W : Nat → Int) (w : World) (hn0 : n ≤ 1048576) (hL0 : ∀ r, r < n → L r ≤ 1048576) (ha0 : Tab w a n A L C Z) (hb1 : Rd w b n W) (ho : BothOk n L Z n W) :
    Calls Try.prog 68 #[.slice a n c, .slice b n d] w fun e w' => e = .returned (.tuple #[.agg (cellsV 25 (rateF n L Z)), .agg #[.slice b n d], .bool true]) ∧ Below w.heap.size w w' := by
  have T1 := Lib.hid (tt_of ho.1.1)
  have HK := Lib.hid (Kept.of_rates ho.1.1)
  have HP := Lib.hid ho.1.2
  have HA := Lib.hid ha0
  have HB := Lib.hid hb1
  have HL := Lib.hid hL0
  have h5 := ho.1.2.1.2
  have hd : ((n : Int) != (n : Int)) = false := by simp
  clear ho ha0 hb1 hL0
  have t1 : True := trivial
  have t2 : True := trivial
  have t3 : True := trivial
  go_enter Try.func68, Try.ntmps68
  go_wp2_with (first
    | (have _t := t1; (with_reducible refine arr_alloc 25 _ (Try.zeroRates _) ?_); clear t1; intro w1 hA1 hs1 hb1; have S1 := Lib.hid hs1; clear hs1)
    | (have _t := t2; (with_reducible refine box_alloc _ _ (Try.zeroPrices _) ?_); clear t2; intro w2 hA2 hs2 hb2; have S2 := Lib.hid hs2; have R1 := Lib.hid (hA1.below hA1.lt hb2); have R2 := Lib.hid hA2; have RB := Lib.hid (below_chain hb1 hb2); clear hs2 hA1 hA2 hb1 hb2)
    | (go_at_call 50; refine (readRates_any n c a A L C Z _ hn0 HL.out (HA.out.below (Nat.le_refl _) RB.out)).mono ?_; rintro e w3 ⟨rfl, hb3⟩; rw [T1.out]; have B3 := Lib.hid hb3; clear hb3)
    | (have _t := t3; (with_reducible refine arr_alloc 25 _ (Try.zeroRates _) ?_); clear t3; intro w4 hA4 hs4 hb4; have S4 := Lib.hid hs4; clear hs4; have B4 := Lib.hid (B3.out.trans (hb4.mono B3.out.size)); clear hb4)
    | ((with_reducible refine arr_store 25 _ _ _ _ _ _ (rateF n L Z) ?_ ?_ hA4 Try.sizeRates ?_); exact rfl; exact rfl; intro w5 hA5 hs5 ho5 hb5; have R7 := Lib.hid hA5; have B5 := Lib.hid (B4.out.trans (hb5.mono B3.out.size)); clear hA4 hA5 hs5 ho5 hb5 B4)
    | (go_at_call 76; refine (readPrices_yes n d b W _ (HB.out.below (Nat.le_refl _) (below_chain RB.out B5.out)) HP.out).mono ?_; rintro e w6 ⟨rfl, hb6⟩; have B6 := Lib.hid hb6; clear hb6)
    | ((with_reducible refine box_alloc _ _ (Try.zeroPrices _) ?_); intro w7 hA7 hs7 hb7; have B7 := Lib.hid hb7; clear hs7 hb7)
    | ((with_reducible refine box_store _ _ _ _ _ _ (.slice b n d) ?_ ?_ hA7 Try.sizePrices rfl ?_); exact rfl; exact rfl; intro w8 hA8 hs8 ho8 hb8; have R9 := Lib.hid hA8; have hR7 := ((R7.out.below R7.out.lt B6.out).below (Nat.lt_of_lt_of_le R7.out.lt B6.out.size) B7.out).below (Nat.lt_of_lt_of_le R7.out.lt B6.out.size) hb8; have B8 := Lib.hid (below_chain B5.out (B6.out.trans ((B7.out.mono B6.out.size).trans (hb8.mono B6.out.size)))); clear hA7 hA8 hs8 ho8 hb8)
    | ((with_reducible refine arr_load_g 25 _ _ _ _ _ _ _ _ ?_ ?_ hR7 Try.underlying49 Try.sizeRates ?_); exact rfl; exact rfl)
    | (go_at_call 81; refine (size_any n _ _ HK.out).mono ?_; rintro e w9 ⟨rfl, hb9⟩; have B9 := Lib.hid hb9; clear hb9))
  have s0 : w.heap.size < w1.heap.size := by rw [S1.out]; omega
  have s1 : w1.heap.size < w2.heap.size := by rw [S2.out]; omega
  have s2 := B3.out.size
  have s3 := R7.out.lt
  have s4 := B6.out.size
  have hBB := (B8.out.trans (B9.out.mono B8.out.size))
  have r1 := R1.out.below R1.out.lt hBB
  have r2 := R2.out.below R2.out.lt hBB
  have r7 := hR7.below hR7.lt B9.out
  have r9 := R9.out.below R9.out.lt B9.out
  have HBB := Lib.hid (below_chain RB.out hBB)
  have hR1 := Lib.hid s0
  clear hBB hR7 R1 R2 RB B3 R7 B5 B6 B7 R9 B8 B9 S1 S2 S4 hd
  refine wp_region_any (by kernel_rfl) ?_
  change wpAny _ _ _ _ _ _ _ (World.drew _)
  have r1 : ArrAt w9.drew w.heap.size 49 25 (fun _ => 0) := r1.of_block rfl
  have r2 : BoxAt w9.drew w1.heap.size 69 (.slice none 0 0) := r2.of_block rfl
  have r7 : ArrAt w9.drew w3.heap.size 49 25 (rateF n L Z) := r7.of_block rfl
  have r9 : BoxAt w9.drew w6.heap.size 69 (.slice b n d) := r9.of_block rfl
  have hB9 : Below w.heap.size w w9.drew := HBB.out.drew
  generalize w9.drew = wq at r1 r2 r7 r9 hB9
  refine wpAny_ready (rs := [0, 1]) (by kernel_rfl) (by simp) (AllReady.cons (o := ⟨_, Op.load _ (.tmp 7), _, _, _, _⟩) rfl (fun K hK => ?_) (AllReady.cons (o := ⟨_, Op.load _ (.tmp 9), _, _, _, _⟩) rfl (fun K hK => ?_) AllReady.nil))
  · refine step_arr_load 25 _ _ _ _ _ _ _ ?_ r7 Try.underlying49 Try.sizeRates ?_
    exact rfl
    refine hK _ _ ?_
    clear hK K
    refine wpAny_ready (rs := [1, 2]) (by kernel_rfl) (by simp) (AllReady.cons (o := ⟨_, Op.load _ (.tmp 9), _, _, _, _⟩) rfl (fun K hK => ?_) (AllReady.cons (o := ⟨_, Op.store _ (.tmp 4) (.tmp 36), _, _, _, _⟩) rfl (fun K hK => ?_) AllReady.nil))
    · refine step_box_load _ _ _ _ _ _ ?_ r9 Try.underlying69 rfl Try.sizePrices ?_
      exact rfl
      refine hK _ _ ?_
      clear hK K
      refine wpAny_ready (rs := [2]) (by kernel_rfl) (by simp) (AllReady.cons (o := ⟨_, Op.store _ (.tmp 4) (.tmp 36), _, _, _, _⟩) rfl (fun K hK => ?_) AllReady.nil)
      refine step_arr_store 25 _ _ _ _ _ _ (rateF n L Z) ?_ ?_ r1 Try.sizeRates ?_
      exact rfl
      exact rfl
      intro wA rA hsA hoA hbA
      have r2A := r2.of_block (hoA _ (by omega))
      have r9A := r9.of_block (hoA _ (by omega))
      have hBA := hB9.trans (hbA.mono (Nat.le_refl _))
      clear r1 r2 r9 hoA hsA hB9 hbA
      refine hK _ _ ?_
      clear hK K
      refine wpAny_ready (rs := [3]) (by kernel_rfl) (by simp) (AllReady.cons (o := ⟨_, Op.store _ (.tmp 5) (.tmp 37), _, _, _, _⟩) rfl (fun K hK => ?_) AllReady.nil)
      refine step_box_store _ _ _ _ _ _ (.slice b n d) ?_ ?_ r2A Try.sizePrices rfl ?_
      exact rfl
      exact rfl
      intro wC rC hsC hoC hbC
      have rAC := rA.of_block (hoC _ (by omega))
      have hBC := hBA.trans (hbC.mono (by omega))
      clear hoC hsC rA r2A hBA hbC
      refine hK _ _ ?_
      clear hK K
      refine wpAny_ready (rs := [4]) (by kernel_rfl) (by simp) (AllReady.cons (o := ⟨_, Op.assign _, _, _, _, _⟩) rfl (fun K hK => ?_) AllReady.nil)
      go_simp
      refine hK _ _ ?_
      clear hK K
      refine wpAny_done (by kernel_rfl) ?_ _
      go_wp2
      refine bodyPost_ret (v := .tuple #[.agg (cellsV 25 (rateF n L Z)), .agg #[.slice b n d], .bool true]) ?_ rfl ⟨rfl, hBC⟩
      rw [results_arr_box_tmp (F := rateF n L Z) Try.results68 _ _ w.heap.size 49 25 _ _ w1.heap.size 69 (.slice b n d) _ rfl rAC Try.underlying49 Try.sizeRates rfl rC Try.underlying69 rfl Try.sizePrices]
      rfl
    · refine step_arr_store 25 _ _ _ _ _ _ (rateF n L Z) ?_ ?_ r1 Try.sizeRates ?_
      exact rfl
      exact rfl
      intro wA rA hsA hoA hbA
      have r2A := r2.of_block (hoA _ (by omega))
      have r9A := r9.of_block (hoA _ (by omega))
      have hBA := hB9.trans (hbA.mono (Nat.le_refl _))
      clear r1 r2 r9 hoA hsA hB9 hbA
      refine hK _ _ ?_
      clear hK K
      refine wpAny_ready (rs := [1]) (by kernel_rfl) (by simp) (AllReady.cons (o := ⟨_, Op.load _ (.tmp 9), _, _, _, _⟩) rfl (fun K hK => ?_) AllReady.nil)
      refine step_box_load _ _ _ _ _ _ ?_ r9A Try.underlying69 rfl Try.sizePrices ?_
      exact rfl
      refine hK _ _ ?_
      clear hK K
      refine wpAny_ready (rs := [3]) (by kernel_rfl) (by simp) (AllReady.cons (o := ⟨_, Op.store _ (.tmp 5) (.tmp 37), _, _, _, _⟩) rfl (fun K hK => ?_) AllReady.nil)
      refine step_box_store _ _ _ _ _ _ (.slice b n d) ?_ ?_ r2A Try.sizePrices rfl ?_
      exact rfl
      exact rfl
      intro wC rC hsC hoC hbC
      have rAC := rA.of_block (hoC _ (by omega))
      have hBC := hBA.trans (hbC.mono (by omega))
      clear hoC hsC rA r2A hBA hbC
      refine hK _ _ ?_
      clear hK K
      refine wpAny_ready (rs := [4]) (by kernel_rfl) (by simp) (AllReady.cons (o := ⟨_, Op.assign _, _, _, _, _⟩) rfl (fun K hK => ?_) AllReady.nil)
      go_simp
      refine hK _ _ ?_
      clear hK K
      refine wpAny_done (by kernel_rfl) ?_ _
      go_wp2
      refine bodyPost_ret (v := .tuple #[.agg (cellsV 25 (rateF n L Z)), .agg #[.slice b n d], .bool true]) ?_ rfl ⟨rfl, hBC⟩
      rw [results_arr_box_tmp (F := rateF n L Z) Try.results68 _ _ w.heap.size 49 25 _ _ w1.heap.size 69 (.slice b n d) _ rfl rAC Try.underlying49 Try.sizeRates rfl rC Try.underlying69 rfl Try.sizePrices]
      rfl
  · refine step_box_load _ _ _ _ _ _ ?_ r9 Try.underlying69 rfl Try.sizePrices ?_
    exact rfl
    refine hK _ _ ?_
    clear hK K
    refine wpAny_ready (rs := [0]) (by kernel_rfl) (by simp) (AllReady.cons (o := ⟨_, Op.load _ (.tmp 7), _, _, _, _⟩) rfl (fun K hK => ?_) AllReady.nil)
    refine step_arr_load 25 _ _ _ _ _ _ _ ?_ r7 Try.underlying49 Try.sizeRates ?_
    exact rfl
    refine hK _ _ ?_
    clear hK K
    refine wpAny_ready (rs := [2]) (by kernel_rfl) (by simp) (AllReady.cons (o := ⟨_, Op.store _ (.tmp 4) (.tmp 36), _, _, _, _⟩) rfl (fun K hK => ?_) AllReady.nil)
    refine step_arr_store 25 _ _ _ _ _ _ (rateF n L Z) ?_ ?_ r1 Try.sizeRates ?_
    exact rfl
    exact rfl
    intro wA rA hsA hoA hbA
    have r2A := r2.of_block (hoA _ (by omega))
    have r9A := r9.of_block (hoA _ (by omega))
    have hBA := hB9.trans (hbA.mono (Nat.le_refl _))
    clear r1 r2 r9 hoA hsA hB9 hbA
    refine hK _ _ ?_
    clear hK K
    refine wpAny_ready (rs := [3]) (by kernel_rfl) (by simp) (AllReady.cons (o := ⟨_, Op.store _ (.tmp 5) (.tmp 37), _, _, _, _⟩) rfl (fun K hK => ?_) AllReady.nil)
    refine step_box_store _ _ _ _ _ _ (.slice b n d) ?_ ?_ r2A Try.sizePrices rfl ?_
    exact rfl
    exact rfl
    intro wC rC hsC hoC hbC
    have rAC := rA.of_block (hoC _ (by omega))
    have hBC := hBA.trans (hbC.mono (by omega))
    clear hoC hsC rA r2A hBA hbC
    refine hK _ _ ?_
    clear hK K
    refine wpAny_ready (rs := [4]) (by kernel_rfl) (by simp) (AllReady.cons (o := ⟨_, Op.assign _, _, _, _, _⟩) rfl (fun K hK => ?_) AllReady.nil)
    go_simp
    refine hK _ _ ?_
    clear hK K
    refine wpAny_done (by kernel_rfl) ?_ _
    go_wp2
    refine bodyPost_ret (v := .tuple #[.agg (cellsV 25 (rateF n L Z)), .agg #[.slice b n d], .bool true]) ?_ rfl ⟨rfl, hBC⟩
    rw [results_arr_box_tmp (F := rateF n L Z) Try.results68 _ _ w.heap.size 49 25 _ _ w1.heap.size 69 (.slice b n d) _ rfl rAC Try.underlying49 Try.sizeRates rfl rC Try.underlying69 rfl Try.sizePrices]
    rfl
end Go.Proofs.Ytakipaehoeapcaa
