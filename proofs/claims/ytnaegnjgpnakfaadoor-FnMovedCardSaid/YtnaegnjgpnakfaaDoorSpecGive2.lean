/- The model's giving of a term: pairs and circles. -/
import Derived.Test.YtnaegnjgpnakfaaDoorSpecGive
import Derived.Test.YtnaegnjgpnakfaaDoorPacksModel
namespace Go.Proofs.YtnaegnjgpnakfaaDoor
set_option linter.unusedVariables false
set_option linter.unusedSimpArgs false
open Go.RowKit

set_option maxRecDepth 100000 in
set_option maxHeartbeats 3200000 in
theorem give_pair (n : Nat) (h2 : 2 ≤ n) (h5 : n ≤ 5) (t1 t2 : Tm) (hw : WF t1) (hp : ppl t1 ≤ n) (ih1 : GiveC n t1) (ih2 : GiveC n t2) : GiveC n (.pair t1 t2) := by
  intro B c L a m k w hv
  obtain ⟨rfl, hv1, rfl, b, c', L', a', m', k', c3, L3, a3, m3, k3, rfl, hB, hE, hK, hE3, hK3⟩ := hv
  have H0 := Lib.hid (fun (w1 : World) => l10Own_any n w1 (by omega) h5)
  have HN := Lib.hid (And.intro h2 h5)
  have HP := Lib.hid (giv_perm hw hp)
  have HE := Lib.hid (And.intro hE hE3)
  have HI1 := Lib.hid (fun (w1 : World) (h : Below w.heap.size w w1) => ih1 B c' L' a' m' k' w1 (hK.below h))
  have HI2 := Lib.hid (fun (w1 : World) (h : Below w.heap.size w w1) => ih2 B c3 L3 a3 m3 k3 w1 (hK3.below h))
  clear hw hp ih1 ih2 hE hE3 hK hK3 hv1 hB
  clear h2 h5
  go_enter Tryd.func40, Tryd.ntmps40
  go_wp2_with fail
  obtain ⟨G, hG⟩ : ∃ G, G = w.heap.size := ⟨_, rfl⟩
  obtain ⟨W0, hW0⟩ : ∃ W0, W0 = w.alloc (.cells #[.int .u8 46, .string L, .slice (some ⟨b, 0, none⟩) 2 k] 45) := ⟨_, rfl⟩
  have hR : W0.heap[G]? = some (.cells #[.int .u8 46, .string L, .slice (some ⟨b, 0, none⟩) 2 k] 45 (0, 0)) := by rw [hW0, hG]; exact heap_alloc_last w _
  have HB := Lib.hid (show Below w.heap.size w W0 ∧ W0.heap.size = G + 1 from ⟨by rw [hW0]; exact below_alloc (Below.refl _ _) _, by rw [hW0]; simp [hG]⟩)
  have HR := Lib.hid hR
  have HGG := Lib.hid hG
  rw [← hW0, ← hG]
  clear hW0 hG hR
  refine (H0.out W0).mono ?_
  rintro e w1 ⟨g, cap, rfl, ho, hb⟩
  have hcp := owns_cap ho
  have X := Lib.hid (show OwnR w1 g (some ⟨g, 0, none⟩) n idF ∧ Below W0.heap.size W0 w1 ∧ n ≤ cap ∧ W0.heap.size ≤ g ∧ g < w1.heap.size from ⟨OwnR.of_owns ho, hb, hcp.1, hcp.2.1, hcp.2.2⟩)
  have hR1 := (hb.block G (by have := HB.out.2; omega)).trans HR.out
  have c0 : w1.cell? ⟨G, 0, none⟩ = some (.int .u8 46) := cell_of_row _ _ 0 _ _ (0, 0) hR1
  have c1 : w1.cell? ⟨G, 1, none⟩ = some (.string L) := cell_of_row _ _ 1 _ _ (0, 0) hR1
  have c2 : w1.cell? ⟨G, 2, none⟩ = some (.slice (some ⟨b, 0, none⟩) 2 k) := cell_of_row _ _ 2 _ _ (0, 0) hR1
  have HR1 := Lib.hid hR1
  have HB1 := Lib.hid (show Below w.heap.size w w1 from HB.out.1.trans (hb.mono HB.out.1.size))
  clear hR1 ho hb hcp
  obtain ⟨x0, x1, x2⟩ := HE.out.1.below HB1.out
  have hy := HE.out.2.below HB1.out
  obtain ⟨y0, y1, y2⟩ := hy
  have HY := Lib.hid (And.intro y0 (And.intro y1 y2))
  have HC2 := Lib.hid c2
  have hGl : G < w1.heap.size := by have := HB.out.2; have := X.out.2.1.size; omega
  have hbl : b < w1.heap.size := World.block_lt_of_cell? w1 ⟨b, 0, none⟩ x0
  go_wp2_with fail
  have tk : True := trivial
  go_region_with (first
    | (have _t := tk; go_at_call 40; refine (HI1.out _ (by first | exact HB1.out | exact HB1.out.drew | (exact HB1.out.trans ⟨rfl, rfl, rfl, Nat.le_refl _, fun _ _ => rfl⟩))).mono ?_; clear tk; rintro e w2 ⟨g2, cap2, rfl, hg, ho, hb⟩; have U := Lib.hid (And.intro hg (And.intro ho (show Below w.heap.size w w2 from by first | exact HB1.out.trans (hb.mono HB1.out.size) | exact HB1.out.drew.trans (hb.mono HB1.out.drew.size)))); have z2 : w2.cell? ⟨G, 2, none⟩ = some (.slice (some ⟨b, 0, none⟩) 2 k) := (by rw [World.cell?_of_block (w := w1) (a := ⟨G, 2, none⟩) (hb.block G hGl)]; exact HC2.out); have zy0 : w2.cell? ⟨b, 3, none⟩ = some (.int .u8 (c3 : Nat)) := (by rw [World.cell?_of_block (w := w1) (a := ⟨b, 3, none⟩) (hb.block b hbl)]; exact HY.out.1); have zy1 : w2.cell? ⟨b, 3 + 1, none⟩ = some (.string L3) := (by rw [World.cell?_of_block (w := w1) (a := ⟨b, 3 + 1, none⟩) (hb.block b hbl)]; exact HY.out.2.1); have zy2 : w2.cell? ⟨b, 3 + 2, none⟩ = some (.slice a3 m3 k3) := (by rw [World.cell?_of_block (w := w1) (a := ⟨b, 3 + 2, none⟩) (hb.block b hbl)]; exact HY.out.2.2); clear hg ho hb)
    | (go_at_call 40; refine (HI2.out _ U.out.2.2).mono ?_; rintro e w3 ⟨g3, cap3, rfl, hg, ho, hb⟩; have V := Lib.hid (And.intro hg (And.intro ho hb)); have O1 := Lib.hid (show OwnR w3 g2 (some ⟨g2, 0, none⟩) n (giv n t1) from U.out.2.1.of_block (hb.block g2 U.out.1.2.1)); clear hg ho hb)
    | (go_at_call 45; refine (l10Then_any n cap2 cap3 (some ⟨g2, 0, none⟩) (some ⟨g3, 0, none⟩) (giv n t1) (giv n t2) w3 (by have := HN.out; omega) HN.out.2 HP.out.1 O1.out.rd V.out.2.1.rd).mono ?_; rintro e w4 hl; obtain ⟨g4, cap4, rfl, hg, ho, hb⟩ := RetI.of_list hl; have Z := Lib.hid (And.intro hg (And.intro ho hb)); clear hl hg ho hb))
  all_goals (
    clear z2 zy0 zy1 zy2
    go_wp2_with fail
    go_ret
    exact ⟨g4, cap4, rfl, ⟨by have := Z.out.1.1; have := V.out.2.2.size; have := U.out.2.2.size; omega, Z.out.1.2⟩, Z.out.2.1, below_chain U.out.2.2 (below_chain V.out.2.2 Z.out.2.2)⟩)

end Go.Proofs.YtnaegnjgpnakfaaDoor
