/- The program's swapped and list, of givings as structs. -/
import Derived.Test.YtgjegpponchdaaaDoorWishes
import Derived.Test.YtgjegpponchdaaaDoorHeld
import Derived.Test.YtgjegpponchdaaaDoorClone
import Derived.RegionTactic
import Derived.BigRegion
import Derived.Outline
namespace Go.Proofs.YtgjegpponchdaaaDoor
set_option linter.unusedVariables false
set_option linter.unusedSimpArgs false
open Go.RowKit

theorem held_swap {n i k : Nat} {G : Nat → Int} (hi : i < n) (hk : k < n) (hik : i ≠ k) (j : Nat) :
    (if j = 1 + k then G i else if j = 1 + i then G k else heldF n G j) = heldF n (swapF G i k) j := by
  unfold heldF swapF
  by_cases e0 : j = 0
  · rw [if_neg (by omega), if_neg (by omega), if_pos e0, if_pos e0]
  · rw [if_neg e0, if_neg e0]
    by_cases e1 : j = 1 + k
    · rw [if_pos e1, if_pos (by omega), if_neg (by omega), if_pos (by omega)]
    · rw [if_neg e1]
      by_cases e2 : j = 1 + i
      · rw [if_pos e2, if_pos (by omega), if_pos (by omega)]
      · rw [if_neg e2]
        by_cases e3 : j - 1 < n
        · rw [if_pos e3, if_pos e3, if_neg (by omega), if_neg (by omega)]
        · rw [if_neg e3, if_neg e3]

set_option maxRecDepth 100000 in
set_option maxHeartbeats 1600000 in
theorem swapped_any (n i k : Nat) (G : Nat → Int) (w : World) (hn : n ≤ 5) (hi : i < n) (hk : k < n) (hik : i ≠ k) :
    Calls Tryd.prog 76 #[.agg (cellsV 6 (heldF n G)), .int .i64 i, .int .i64 k] w fun e w' => e = .returned (.agg (cellsV 6 (heldF n (swapF G i k)))) ∧ Below w.heap.size w w' := by
  obtain ⟨x, hx⟩ : ∃ x, x = G i := ⟨_, rfl⟩
  obtain ⟨y, hy⟩ : ∃ y, y = G k := ⟨_, rfl⟩
  have QI := Lib.hid (show heldF n G (1 + i) = x by rw [heldF_at G hi, hx])
  have QK := Lib.hid (show heldF n G (1 + k) = y by rw [heldF_at G hk, hy])
  have HS := Lib.hid (fun j => held_swap (G := G) hi hk hik j)
  have QX := Lib.hid hx
  have QY := Lib.hid hy
  have i1 : (0 : Int) ≤ (i : Int) := by omega
  have i2 : (i : Int) < 5 := by omega
  have k1 : (0 : Int) ≤ (k : Int) := by omega
  have k2 : (k : Int) < 5 := by omega
  clear hx hy
  go_enter Tryd.func76, Tryd.ntmps76
  go_wp2_with (first
    | ((with_reducible refine arr_box 6 _ _ (heldF n G) ?_ ?_); exact rfl; intro w1 hA1 hs1 hb1; have S1 := Lib.hid hs1; clear hs1)
    | ((with_reducible refine arr_alloc 6 _ (Tryd.zeroHeld _) ?_); intro w2 hA2 hs2 hb2; have S2 := Lib.hid hs2; clear hs2))
  have hA3 := hA1.below hA1.lt hb2
  have ci := hA3.cell (j := 1 + i) (by omega)
  have ck := hA3.cell (j := 1 + k) (by omega)
  have fi := hA3.frozen (1 + i)
  have fk := hA3.frozen (1 + k)
  rw [QI.out] at ci
  rw [QK.out] at ck
  have si : ∀ v, (w2.setCell ⟨w.heap.size, 1 + i, none⟩ v).cell? ⟨w.heap.size, 1 + k, none⟩ = some (.int .i64 y) := fun v => by
    rw [World.cell?_setCell_other (a := ⟨w.heap.size, 1 + i, none⟩) (b := ⟨w.heap.size, 1 + k, none⟩) (h := fun h => hik (by simp only [Addr.mk.injEq] at h; omega))]; exact ck
  have fi2 : ∀ v, (w2.setCell ⟨w.heap.size, 1 + i, none⟩ v).frozen? ⟨w.heap.size, 1 + k, none⟩ = false := fun v => by rw [World.frozen?_setCell]; exact fk
  obtain ⟨w3, hw3⟩ : ∃ w3, ((w2.setCell ⟨w.heap.size, 1 + i, none⟩ (.int .i64 y)).setCell ⟨w.heap.size, 1 + k, none⟩ (.int .i64 x)).drew = w3 := ⟨_, rfl⟩
  have S1' := S1.out
  have hw1s : w1.heap.size ≠ w.heap.size := by rw [S1']; omega
  have A3 := Lib.hid (show ArrAt w3 w.heap.size 60 6 (heldF n (swapF G i k)) by
    rw [← hw3]
    exact ((hA3.set (1 + i) y).set (1 + k) x).congr (fun j _ => by rw [← HS.out j, QX.out, QY.out]))
  have Z3 := Lib.hid (show ArrAt w3 w1.heap.size 60 6 (fun _ => 0) by
    rw [← hw3]
    exact (hA2.setOther (a := ⟨w.heap.size, 1 + i, none⟩) hw1s _).setOther (a := ⟨w.heap.size, 1 + k, none⟩) hw1s _)
  have B3 := Lib.hid (show Below w.heap.size w w3 by
    rw [← hw3]
    exact (((below_chain hb1 hb2).setCell (Nat.le_refl _) _).setCell (Nat.le_refl _) _).drew)
  have W3 := Lib.hid hw3
  clear hA1 hA2 hA3 hw3 hb1 hb2 hw1s S1'
  go_region
  all_goals (
    rw [W3.out]
    go_wp2_with (first
      | ((with_reducible refine st_load 6 _ _ _ _ _ _ ?_ A3.out Tryd.underlying60 rfl Tryd.sizeHeld ?_); exact rfl)
      | ((with_reducible refine arr_store 6 _ _ _ _ _ _ (heldF n (swapF G i k)) ?_ ?_ Z3.out Tryd.sizeHeld ?_); exact rfl; exact rfl; intro w4 hA4 hs4 ho4 hb4))
    exact bodyPost_ret (results_st rfl _ _ _ _ 6 _ _ rfl hA4 Tryd.underlying60 rfl Tryd.sizeHeld) rfl ⟨rfl, B3.out.trans (hb4.mono (by rw [S1.out]; omega))⟩)

set_option maxRecDepth 100000 in
set_option maxHeartbeats 800000 in
theorem list_any (n : Nat) (G : Nat → Int) (w : World) (hn1 : 1 ≤ n) (hn : n ≤ 5) :
    Calls Tryd.prog 51 #[.agg (cellsV 6 (heldF n G))] w (RetList 3 n G w) := by
  have hsl := fun g o w => run_slice_arr (P := Tryd.prog) 58 3 5 n g o Tryd.underlying58 (by kernel_rfl) (by decide) hn w
  go_enter Tryd.func51, Tryd.ntmps51
  go_wp2_with ((with_reducible refine arr_box 6 _ _ (heldF n G) ?_ ?_); exact rfl; intro w1 hA1 hs1 hb1; have c0 := hA1.cell (j := 0) (by omega); rw [heldF_zero] at c0; have A1 := Lib.hid hA1; have B1 := Lib.hid hb1; clear hA1 hs1 hb1)
  have RD := Lib.hid (show Rd w1 (some ⟨w.heap.size, 1, none⟩) n G from fun j hj => ⟨_, _, rfl, by have := A1.out.cell (j := 1 + j) (by omega); rwa [heldF_at G hj] at this⟩)
  refine (clone_any n 5 _ G _ hn1 (by omega) RD.out).mono ?_
  rintro e w2 ⟨g, cap, rfl, hown, hb2⟩
  have O2 := Lib.hid (owns_base hown B1.out.size)
  have B2 := Lib.hid (B1.out.trans (hb2.mono B1.out.size))
  clear hown hb2
  go_wp2
  go_ret
  exact ⟨g, cap, rfl, O2.out, B2.out⟩
end Go.Proofs.YtgjegpponchdaaaDoor
