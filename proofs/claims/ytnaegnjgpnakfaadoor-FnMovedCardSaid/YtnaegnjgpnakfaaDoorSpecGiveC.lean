/- The model's giving of a term: circles. -/
import Derived.Test.YtnaegnjgpnakfaaDoorSpecGive
namespace Go.Proofs.YtnaegnjgpnakfaaDoor
set_option linter.unusedVariables false
set_option linter.unusedSimpArgs false
open Go.RowKit

theorem letter_num {b x n : Nat} (h : b = x + 97) (hx : x < n) (hn : n ≤ 5) : wrap64 (b : Int) = (b : Int) ∧ IntKind.i64.wrap ((b : Int) - 97) = (x : Int) :=
  ⟨IntWalk.wrap64_in _ (by omega), by rw [IntWalk.i64_in _ (by omega)]; omega⟩
theorem next_num {q len : Nat} (h : q < len) (hl : len ≤ 5) : IntKind.i64.wrap ((q : Int) + 1) = (q : Int) + 1 ∧ ((len : Int) == 0) = false ∧ ¬ (len : Int) = 0 ∧ ¬ len = 0 :=
  ⟨IntWalk.i64_in _ (by omega), by simp; omega, by omega, by omega⟩

set_option maxRecDepth 100000 in
set_option maxHeartbeats 3200000 in
theorem give_circ (n : Nat) (h2 : 2 ≤ n) (h5 : n ≤ 5) (M : List Nat) (hw : WF (.circ M)) (hp : ppl (.circ M) ≤ n) : GiveC n (.circ M) := by
  intro B c L a m k w hv
  obtain ⟨rfl, ⟨hL1, hL2⟩, rfl⟩ := hv
  have hM5 := diff_le hw.2
  have H0 := Lib.hid (fun (w1 : World) => l10Own_any n w1 (by omega) h5)
  have HN := Lib.hid (And.intro h2 h5)
  have HL := Lib.hid (show L.size = M.length ∧ (∀ j, j < M.length → bt L j = M.getD j 0 + 97) ∧ 2 ≤ M.length ∧ M.length ≤ 5 ∧ ∀ j, j < M.length → M.getD j 0 < n from ⟨hL1, hL2, hw.1, hM5, fun j hj => maxL_lt hp hj⟩)
  clear hw hp hL1 hL2 hM5
  clear h2 h5
  go_enter Tryd.func40, Tryd.ntmps40
  go_wp2_with fail
  obtain ⟨G, hG⟩ : ∃ G, G = w.heap.size := ⟨_, rfl⟩
  obtain ⟨W0, hW0⟩ : ∃ W0, W0 = w.alloc (.cells #[.int .u8 91, .string L, .slice a 0 k] 45) := ⟨_, rfl⟩
  have hR : W0.heap[G]? = some (.cells #[.int .u8 91, .string L, .slice a 0 k] 45 (0, 0)) := by rw [hW0, hG]; exact heap_alloc_last w _
  have HB := Lib.hid (show Below w.heap.size w W0 ∧ W0.heap.size = G + 1 from ⟨by rw [hW0]; exact below_alloc (Below.refl _ _) _, by rw [hW0]; simp [hG]⟩)
  have HR := Lib.hid hR
  have HGG := Lib.hid hG
  rw [← hW0, ← hG]
  clear hW0 hG hR
  refine (H0.out W0).mono ?_
  rintro e w1 ⟨g, cap, rfl, ho, hb⟩
  have hcp := owns_cap ho
  have X := Lib.hid (show OwnR w1 g (some ⟨g, 0, none⟩) n idF ∧ Below W0.heap.size W0 w1 ∧ n ≤ cap ∧ W0.heap.size ≤ g ∧ g < w1.heap.size from ⟨OwnR.of_owns ho, hb, hcp.1, hcp.2.1, hcp.2.2⟩)
  have hR1 := (hb.block G (by have := HB.out.2; omega)).trans HR.out
  have c0 : w1.cell? ⟨G, 0, none⟩ = some (.int .u8 91) := cell_of_row _ _ 0 _ _ (0, 0) hR1
  have c1 : w1.cell? ⟨G, 1, none⟩ = some (.string L) := cell_of_row _ _ 1 _ _ (0, 0) hR1
  have c2 : w1.cell? ⟨G, 2, none⟩ = some (.slice a 0 k) := cell_of_row _ _ 2 _ _ (0, 0) hR1
  have HR1 := Lib.hid hR1
  have HB1 := Lib.hid (show Below w.heap.size w w1 from HB.out.1.trans (hb.mono HB.out.1.size))
  clear hR1 ho hb hcp
  have HR2 := Lib.hid HR1.out
  have HZ := Lib.hid (show G < w1.heap.size ∧ G < g from ⟨by have := HB.out.2; have := X.out.2.1.size; omega, by have := HB.out.2; have := X.out.2.2.2.1; omega⟩)
  clear c1 c2
  go_wp2_with fail
  obtain ⟨len, hlen⟩ : ∃ len, len = M.length := ⟨_, rfl⟩
  have HLL := Lib.hid (show L.size = len by rw [HL.out.1, hlen])
  have HLE := Lib.hid hlen
  have HO0 := Lib.hid (show OwnR w1 g (some ⟨g, 0, none⟩) n (nextF idF (nthN M) len 0) from X.out.1)
  clear hlen c0
  go_loopw [6] (fun i wr => ∃ q : Nat, q ≤ len ∧ i = .int .i64 (q : Nat) ∧ OwnR wr g (some ⟨g, 0, none⟩) n (nextF idF (nthN M) len q) ∧ Below g w1 wr ∧ g < wr.heap.size) (fun i _ => len - (intOf i).toNat)
  case atStart => exact ⟨0, Nat.zero_le _, rfl, HO0.out, Below.refl _ _, X.out.2.2.2.2⟩
  case round =>
    obtain ⟨q, hq, rfl, hog, hkp, hgs⟩ := hrel
    rename World => wr
    have hR3 := (hkp.block G HZ.out.2).trans HR2.out
    have e0 : wr.cell? ⟨G, 0, none⟩ = some (.int .u8 91) := cell_of_row _ _ 0 _ _ (0, 0) hR3
    have e1 : wr.cell? ⟨G, 1, none⟩ = some (.string L) := cell_of_row _ _ 1 _ _ (0, 0) hR3
    have hls := HLL.out
    by_cases hlt : q < len
    · have HH := Lib.hid (And.intro hog (And.intro hkp hgs))
      clear hog hkp hgs hR3 e0
      go_wp2_with fail
      obtain ⟨hog, hkp, hgs⟩ := HH.out
      have hR3 := 0
      have hl5 : len ≤ 5 := by rw [HLE.out]; exact HL.out.2.2.2.1
      obtain ⟨q2, hq2⟩ : ∃ q2, q2 = (q + 1) % len := ⟨_, rfl⟩
      have hq2m : q2 < len := by rw [hq2]; exact Nat.mod_lt _ (by omega)
      have htm : ((q : Int) + 1).tmod (len : Int) = (q2 : Int) := by rw [Int.tmod_eq_emod_of_nonneg (by omega), hq2, Int.natCast_emod]; rfl
      obtain ⟨x1, hx1⟩ : ∃ x1, x1 = M.getD q 0 := ⟨_, rfl⟩
      obtain ⟨x2, hx2⟩ : ∃ x2, x2 = M.getD q2 0 := ⟨_, rfl⟩
      have hx1n : x1 < n := by rw [hx1]; exact HL.out.2.2.2.2 q (by rw [← HLE.out]; exact hlt)
      have hx2n : x2 < n := by rw [hx2]; exact HL.out.2.2.2.2 q2 (by rw [← HLE.out]; exact hq2m)
      have hb1 : bt L q = x1 + 97 := by rw [hx1]; exact HL.out.2.1 q (by rw [← HLE.out]; exact hlt)
      have hb2 : bt L q2 = x2 + 97 := by rw [hx2]; exact HL.out.2.1 q2 (by rw [← HLE.out]; exact hq2m)
      obtain ⟨b1, hbb1⟩ : ∃ b1, b1 = bt L q := ⟨_, rfl⟩
      obtain ⟨b2, hbb2⟩ : ∃ b2, b2 = bt L q2 := ⟨_, rfl⟩
      have hix1 : ∀ w : World, (Instr.index 9 (.string L) (.int .i64 (q : Nat))).run Tryd.prog w = .ok (.int .u8 (b1 : Nat)) w := fun w => by rw [hbb1]; exact run_index_bt w _ L _ q Tryd.underlying9 (by omega)
      have hix2 : ∀ w : World, (Instr.index 9 (.string L) (.int .i64 (q2 : Nat))).run Tryd.prog w = .ok (.int .u8 (b2 : Nat)) w := fun w => by rw [hbb2]; exact run_index_bt w _ L _ q2 Tryd.underlying9 (by omega)
      have hn5 := HN.out.2
      obtain ⟨hw1, hw3⟩ := letter_num (hbb1.trans hb1) hx1n hn5
      obtain ⟨hw2, hw4⟩ := letter_num (hbb2.trans hb2) hx2n hn5
      obtain ⟨hw5, hz, hz2, hz3⟩ := next_num hlt hl5
      obtain ⟨hc0, hf0⟩ := hog.at hx1n
      obtain ⟨z, hz0⟩ : ∃ z, z = nextF idF (nthN M) len q x1 := ⟨_, rfl⟩
      rw [← hz0] at hc0
      have HX := Lib.hid (show x1 = M.getD q 0 ∧ x2 = M.getD ((q + 1) % len) 0 from ⟨hx1, by rw [hx2, hq2]⟩)
      have HOG := Lib.hid hog
      have HKP := Lib.hid hkp
      have HGS := Lib.hid hgs
      have i1 : (0 : Int) ≤ (x1 : Int) := Int.natCast_nonneg _
      have i2 : (x1 : Int) < (n : Int) := Int.ofNat_lt.2 hx1n
      clear hog hkp hgs hq2 hx1 hx2 hb1 hb2 hbb1 hbb2 hz0 hR3 hq2m
      have HLT := Lib.hid hlt
      go_region
      have HO2 := Lib.hid (HOG.out.set hx1n (x2 : Int))
      have HK2 := Lib.hid ((HKP.out.setCell (p := ⟨g, x1, none⟩) (Nat.le_refl _) (.int .i64 (x2 : Nat))).drew)
      have HS2 := Lib.hid (show g < (wr.setCell ⟨g, x1, none⟩ (.int .i64 (x2 : Nat))).drew.heap.size from by have := HGS.out; simpa [World.setCell] using this)
      obtain ⟨wz, hwz⟩ : ∃ wz, wz = (wr.setCell ⟨g, x1, none⟩ (.int .i64 (x2 : Nat))).drew := ⟨_, rfl⟩
      have HO3 := Lib.hid (show OwnR wz g (some ⟨g, 0, none⟩) n _ from by rw [hwz]; exact HO2.out.of_block rfl)
      rw [← hwz] at HK2 HS2 ⊢
      clear hwz HO2 hix1 hix2 hw1 hw2 hw3 hw4 htm hc0 hf0 hz hz2 hz3 e1
      go_wp2_with fail
      go_roundw
      case rel =>
        refine ⟨q + 1, HLT.out, by first | rfl | go_num, HO3.out.congr (fun y _ => ?_), HK2.out, HS2.out⟩
        show _ = (if (y : Int) = nthN M q then nthN M ((q + 1) % len) else nextF idF (nthN M) len q y)
        by_cases e : y = x1
        · rw [if_pos e, if_pos (by rw [e, HX.out.1]; rfl), HX.out.2]; rfl
        · rw [if_neg e, if_neg (by intro h; apply e; rw [HX.out.1]; unfold nthN at h; omega)]
      case measure => have := HLT.out; simp [intOf]; omega
    · obtain rfl : q = len := by omega
      have HOG := Lib.hid hog
      have HKP := Lib.hid hkp
      have HGS := Lib.hid hgs
      clear hog hkp hgs hR3
      go_wp2_with fail
      go_ret
      refine ⟨g, cap, rfl, ⟨by have := X.out.2.2.2.1; have := HB.out.1.size; omega, HGS.out, X.out.2.2.1⟩, ?_, HB1.out.trans (HKP.out.mono (by have := X.out.2.2.2.1; have := HB.out.1.size; omega))⟩
      have h := HOG.out
      rw [HLE.out] at h
      exact h

end Go.Proofs.YtnaegnjgpnakfaaDoor
