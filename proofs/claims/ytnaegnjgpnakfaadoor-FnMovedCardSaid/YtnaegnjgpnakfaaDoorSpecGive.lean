/- The model's giving of a term. -/
import Derived.Test.YtnaegnjgpnakfaaDoorSpecThen
import Derived.Test.YtnaegnjgpnakfaaDoorSpecCirc
import Derived.Test.YtnaegnjgpnakfaaDoorLists
import Derived.BigRegion
namespace Go.Proofs.YtnaegnjgpnakfaaDoor
set_option linter.unusedVariables false
set_option linter.unusedSimpArgs false
open Go.RowKit

/-- The contract of l10Gives at a term. -/
def GiveC (n : Nat) (t : Tm) : Prop := ∀ (B c : Nat) (L : ByteArray) (a : Option Addr) (m k : Nat) (w : World), SV w B t c L a m →
  Calls Tryd.prog 40 #[.int .i64 (n : Nat), .agg #[.int .u8 (c : Nat), .string L, .slice a m k]] w (RetI n (giv n t) w)
theorem RetI.of_list {n : Nat} {X : Nat → Int} {w : World} {e : Ending} {w' : World} (h : RetList 3 n X w e w') : RetI n X w e w' := by
  obtain ⟨g, cap, he, ho, hb⟩ := h
  have hc := owns_cap ho
  exact ⟨g, cap, he, ⟨hc.2.1, hc.2.2, hc.1⟩, OwnR.of_owns ho, hb⟩
/-- Where those are put who are told, the last one counting. -/
def invI (G : Nat → Int) : Nat → Nat → Int
  | 0, y => y
  | k + 1, y => if G k = y then k else invI G k y
theorem invI_hit {G : Nat → Int} {y : Nat} : ∀ {k : Nat}, (∃ i, i < k ∧ G i = y) → invI G k y = (invF G k y : Nat)
  | 0, ⟨i, hi, _⟩ => absurd hi (Nat.not_lt_zero _)
  | k + 1, ⟨i, hi, e⟩ => by
    show (if G k = y then (k : Int) else invI G k y) = ((if G k = y then k else invF G k y : Nat) : Int)
    by_cases h : G k = y
    · rw [if_pos h, if_pos h]
    · rw [if_neg h, if_neg h]
      exact invI_hit ⟨i, by have : i ≠ k := fun e' => h (by rw [← e']; exact e)
                            omega, e⟩

set_option maxRecDepth 100000 in
set_option maxHeartbeats 3200000 in
theorem give_keep (n : Nat) (h2 : 2 ≤ n) (h5 : n ≤ 5) : GiveC n .keep := by
  intro B c L a m k w hv
  obtain ⟨rfl, hv1, rfl⟩ := hv
  have H0 := Lib.hid (fun (w1 : World) => l10Own_any n w1 (by omega) h5)
  have HN := Lib.hid (And.intro h2 h5)
  clear hv1
  clear h2 h5
  go_enter Tryd.func40, Tryd.ntmps40
  go_wp2_with fail
  obtain ⟨G, hG⟩ : ∃ G, G = w.heap.size := ⟨_, rfl⟩
  obtain ⟨W0, hW0⟩ : ∃ W0, W0 = w.alloc (.cells #[.int .u8 105, .string L, .slice a 0 k] 45) := ⟨_, rfl⟩
  have hR : W0.heap[G]? = some (.cells #[.int .u8 105, .string L, .slice a 0 k] 45 (0, 0)) := by rw [hW0, hG]; exact heap_alloc_last w _
  have HB := Lib.hid (show Below w.heap.size w W0 ∧ W0.heap.size = G + 1 from ⟨by rw [hW0]; exact below_alloc (Below.refl _ _) _, by rw [hW0]; simp [hG]⟩)
  have HR := Lib.hid hR
  have HGG := Lib.hid hG
  rw [← hW0, ← hG]
  clear hW0 hG hR
  refine (H0.out W0).mono ?_
  rintro e w1 ⟨g, cap, rfl, ho, hb⟩
  have hcp := owns_cap ho
  have X := Lib.hid (show OwnR w1 g (some ⟨g, 0, none⟩) n idF ∧ Below W0.heap.size W0 w1 ∧ n ≤ cap ∧ W0.heap.size ≤ g ∧ g < w1.heap.size from ⟨OwnR.of_owns ho, hb, hcp.1, hcp.2.1, hcp.2.2⟩)
  have hR1 := (hb.block G (by have := HB.out.2; omega)).trans HR.out
  have c0 : w1.cell? ⟨G, 0, none⟩ = some (.int .u8 105) := cell_of_row _ _ 0 _ _ (0, 0) hR1
  have c1 : w1.cell? ⟨G, 1, none⟩ = some (.string L) := cell_of_row _ _ 1 _ _ (0, 0) hR1
  have c2 : w1.cell? ⟨G, 2, none⟩ = some (.slice a 0 k) := cell_of_row _ _ 2 _ _ (0, 0) hR1
  have HR1 := Lib.hid hR1
  have HB1 := Lib.hid (show Below w.heap.size w w1 from HB.out.1.trans (hb.mono HB.out.1.size))
  clear hR1 ho hb hcp
  go_wp2_with fail
  go_ret
  exact ⟨g, cap, rfl, ⟨by have := X.out.2.2.2.1; have := HB.out.1.size; omega, X.out.2.2.2.2, X.out.2.2.1⟩, X.out.1, HB1.out⟩

set_option maxRecDepth 100000 in
set_option maxHeartbeats 3200000 in
theorem give_back (n : Nat) (h2 : 2 ≤ n) (h5 : n ≤ 5) (t : Tm) (hw : WF t) (hp : ppl t ≤ n) (ih : GiveC n t) : GiveC n (.back t) := by
  intro B c L a m k w hv
  obtain ⟨rfl, hv1, rfl, b, c', L', a', m', k', rfl, hB, hE, hK⟩ := hv
  have H0 := Lib.hid (fun (w1 : World) => l10Own_any n w1 (by omega) h5)
  have HN := Lib.hid (And.intro h2 h5)
  have HP := Lib.hid (giv_perm hw hp)
  have HE := Lib.hid hE
  have HI := Lib.hid (fun (w1 : World) (h : Below w.heap.size w w1) => ih B c' L' a' m' k' w1 (hK.below h))
  clear hw hp ih hE hK hv1 hB
  clear h2 h5
  go_enter Tryd.func40, Tryd.ntmps40
  go_wp2_with fail
  obtain ⟨G, hG⟩ : ∃ G, G = w.heap.size := ⟨_, rfl⟩
  obtain ⟨W0, hW0⟩ : ∃ W0, W0 = w.alloc (.cells #[.int .u8 45, .string L, .slice (some ⟨b, 0, none⟩) 1 k] 45) := ⟨_, rfl⟩
  have hR : W0.heap[G]? = some (.cells #[.int .u8 45, .string L, .slice (some ⟨b, 0, none⟩) 1 k] 45 (0, 0)) := by rw [hW0, hG]; exact heap_alloc_last w _
  have HB := Lib.hid (show Below w.heap.size w W0 ∧ W0.heap.size = G + 1 from ⟨by rw [hW0]; exact below_alloc (Below.refl _ _) _, by rw [hW0]; simp [hG]⟩)
  have HR := Lib.hid hR
  have HGG := Lib.hid hG
  rw [← hW0, ← hG]
  clear hW0 hG hR
  refine (H0.out W0).mono ?_
  rintro e w1 ⟨g, cap, rfl, ho, hb⟩
  have hcp := owns_cap ho
  have X := Lib.hid (show OwnR w1 g (some ⟨g, 0, none⟩) n idF ∧ Below W0.heap.size W0 w1 ∧ n ≤ cap ∧ W0.heap.size ≤ g ∧ g < w1.heap.size from ⟨OwnR.of_owns ho, hb, hcp.1, hcp.2.1, hcp.2.2⟩)
  have hR1 := (hb.block G (by have := HB.out.2; omega)).trans HR.out
  have c0 : w1.cell? ⟨G, 0, none⟩ = some (.int .u8 45) := cell_of_row _ _ 0 _ _ (0, 0) hR1
  have c1 : w1.cell? ⟨G, 1, none⟩ = some (.string L) := cell_of_row _ _ 1 _ _ (0, 0) hR1
  have c2 : w1.cell? ⟨G, 2, none⟩ = some (.slice (some ⟨b, 0, none⟩) 1 k) := cell_of_row _ _ 2 _ _ (0, 0) hR1
  have HR1 := Lib.hid hR1
  have HB1 := Lib.hid (show Below w.heap.size w w1 from HB.out.1.trans (hb.mono HB.out.1.size))
  clear hR1 ho hb hcp
  obtain ⟨x0, x1, x2⟩ := HE.out.below HB1.out
  go_wp2_with fail
  refine (HI.out _ HB1.out).mono ?_
  rintro e w2 ⟨g2, cap2, rfl, hg2, ho2, hb2⟩
  have hog : OwnR w2 g (some ⟨g, 0, none⟩) n (invI (giv n t) 0) := X.out.1.of_block (hb2.block g X.out.2.2.2.2)
  have Y := Lib.hid (And.intro hg2 (And.intro ho2.rd (below_chain HB1.out hb2)))
  have HO := Lib.hid hog
  have HGL := Lib.hid (show g < w2.heap.size ∧ w.heap.size ≤ g ∧ g ≠ g2 from ⟨by have := X.out.2.2.2.2; have := hb2.size; omega, by have := X.out.2.2.2.1; have := HB.out.1.size; omega, by have := X.out.2.2.2.2; have := hg2.1; omega⟩)
  have HR2 := Lib.hid ((hb2.block G (by have := HB.out.2; have := X.out.2.1.size; omega)).trans HR1.out)
  clear hg2 ho2 hb2 hog c0 c1 c2 x0 x1 x2
  go_wp2_with fail
  go_loopw [8] (fun i wr => ∃ q : Nat, q ≤ n ∧ i = .int .i64 (q : Nat) ∧ OwnR wr g (some ⟨g, 0, none⟩) n (invI (giv n t) q) ∧ Keeps g (g + 1) w2 wr) (fun i _ => n - (intOf i).toNat)
  case atStart => exact ⟨0, Nat.zero_le _, rfl, HO.out, Keeps.refl _ _ _⟩
  case round =>
    obtain ⟨q, hq, rfl, hog, hkp⟩ := hrel
    rename World => wr
    by_cases hlt : q < n
    · obtain ⟨x, hx⟩ := Int.eq_ofNat_of_zero_le (HP.out.1 q hlt).1
      have hxn : x < n := by have := (HP.out.1 q hlt).2; omega
      obtain ⟨b2, o2, he2, hc2⟩ := Y.out.2.1 q hlt
      cases he2
      have hcr : wr.cell? ⟨g2, 0 + q, none⟩ = some (.int .i64 (giv n t q)) := by
        rw [hkp.cell (p := ⟨g2, 0 + q, none⟩) (by have := HGL.out.2.2; show g2 < g ∨ g + 1 ≤ g2; omega)]; exact hc2
      rw [hx, Nat.zero_add] at hcr
      obtain ⟨hc0, hf0⟩ := hog.at hxn
      obtain ⟨z, hz⟩ : ∃ z, z = invI (giv n t) q x := ⟨_, rfl⟩
      rw [← hz] at hc0
      have HX := Lib.hid hx
      have HOG := Lib.hid hog
      have HKP := Lib.hid hkp
      clear hog hkp hc2 hx hz
      have hn5 := HN.out.2
      go_wp2_with fail
      go_roundw
      case rel =>
        refine ⟨q + 1, by omega, by go_num, (HOG.out.set hxn (q : Int)).congr (fun y _ => ?_), HKP.out.setCell (p := ⟨g, x, none⟩) (Nat.le_refl _) (Nat.lt_succ_self _) _⟩
        show _ = (if giv n t q = y then (q : Int) else invI (giv n t) q y)
        by_cases e : y = x
        · rw [if_pos e, if_pos (by rw [HX.out, e])]
        · rw [if_neg e, if_neg (by rw [HX.out]; omega)]
      case measure => simp [intOf]; omega
    · obtain rfl : q = n := by omega
      have HOG := Lib.hid hog
      have HKP := Lib.hid hkp
      have hR3 : wr.heap[G]? = _ := (hkp.block G (by have := HGL.out; have := HB.out.2; have := X.out.2.2.2.1; omega)).trans HR2.out
      have c0' : wr.cell? ⟨G, 0, none⟩ = some (.int .u8 45) := cell_of_row _ _ 0 _ _ (0, 0) hR3
      clear hog hkp hR3
      go_wp2_with fail
      go_ret
      refine ⟨g, cap, rfl, ⟨HGL.out.2.1, by rw [HKP.out.size]; exact HGL.out.1, X.out.2.2.1⟩, HOG.out.congr (fun y hy => ?_), Y.out.2.2.trans (HKP.out.below.mono HGL.out.2.1)⟩
      exact invI_hit (HP.out.all hy)

set_option maxRecDepth 100000 in
set_option maxHeartbeats 3200000 in
theorem give_times (n : Nat) (h2 : 2 ≤ n) (h5 : n ≤ 5) (q0 : Nat) (hq0 : 2 ≤ q0 ∧ q0 ≤ 9) (t : Tm) (hw : WF t) (hp : ppl t ≤ n) (ih : GiveC n t) : GiveC n (.times q0 t) := by
  intro B c L a m k w hv
  obtain ⟨hc48, hv1, rfl, b, c', L', a', m', k', rfl, hB, hE, hK⟩ := hv
  have d1 : ((c : Int) == 91) = false := by simp; omega
  have d2 : ((c : Int) == 45) = false := by simp; omega
  have d3 : ((c : Int) == 46) = false := by simp; omega
  have d4 : decide ((50 : Int) ≤ (c : Int)) = true := decide_eq_true (by omega)
  have d4n : decide (50 ≤ c) = true := decide_eq_true (by omega)
  have d5 : decide ((c : Int) ≤ 57) = true := decide_eq_true (by omega)
  have d5n : decide (c ≤ 57) = true := decide_eq_true (by omega)
  have H0 := Lib.hid (fun (w1 : World) => l10Own_any n w1 (by omega) h5)
  have HN := Lib.hid (And.intro h2 h5)
  have HP := Lib.hid (giv_perm hw hp)
  have HC := Lib.hid (And.intro hc48 hq0)
  have HE := Lib.hid hE
  have HI := Lib.hid (fun (w1 : World) (h : Below w.heap.size w w1) => ih B c' L' a' m' k' w1 (hK.below h))
  clear hw hp ih hE hK hv1 hB hc48 hq0
  clear h2 h5
  go_enter Tryd.func40, Tryd.ntmps40
  go_wp2_with fail
  obtain ⟨G, hG⟩ : ∃ G, G = w.heap.size := ⟨_, rfl⟩
  obtain ⟨W0, hW0⟩ : ∃ W0, W0 = w.alloc (.cells #[.int .u8 (c : Nat), .string L, .slice (some ⟨b, 0, none⟩) 1 k] 45) := ⟨_, rfl⟩
  have hR : W0.heap[G]? = some (.cells #[.int .u8 (c : Nat), .string L, .slice (some ⟨b, 0, none⟩) 1 k] 45 (0, 0)) := by rw [hW0, hG]; exact heap_alloc_last w _
  have HB := Lib.hid (show Below w.heap.size w W0 ∧ W0.heap.size = G + 1 from ⟨by rw [hW0]; exact below_alloc (Below.refl _ _) _, by rw [hW0]; simp [hG]⟩)
  have HR := Lib.hid hR
  have HGG := Lib.hid hG
  rw [← hW0, ← hG]
  clear hW0 hG hR
  refine (H0.out W0).mono ?_
  rintro e w1 ⟨g, cap, rfl, ho, hb⟩
  have hcp := owns_cap ho
  have X := Lib.hid (show OwnR w1 g (some ⟨g, 0, none⟩) n idF ∧ Below W0.heap.size W0 w1 ∧ n ≤ cap ∧ W0.heap.size ≤ g ∧ g < w1.heap.size from ⟨OwnR.of_owns ho, hb, hcp.1, hcp.2.1, hcp.2.2⟩)
  have hR1 := (hb.block G (by have := HB.out.2; omega)).trans HR.out
  have c0 : w1.cell? ⟨G, 0, none⟩ = some (.int .u8 (c : Nat)) := cell_of_row _ _ 0 _ _ (0, 0) hR1
  have c1 : w1.cell? ⟨G, 1, none⟩ = some (.string L) := cell_of_row _ _ 1 _ _ (0, 0) hR1
  have c2 : w1.cell? ⟨G, 2, none⟩ = some (.slice (some ⟨b, 0, none⟩) 1 k) := cell_of_row _ _ 2 _ _ (0, 0) hR1
  have HR1 := Lib.hid hR1
  have HB1 := Lib.hid (show Below w.heap.size w w1 from HB.out.1.trans (hb.mono HB.out.1.size))
  clear hR1 ho hb hcp
  obtain ⟨x0, x1, x2⟩ := HE.out.below HB1.out
  go_wp2_with fail
  refine (HI.out _ HB1.out).mono ?_
  rintro e w2 ⟨g2, cap2, rfl, hg2, ho2, hb2⟩
  have Y := Lib.hid (And.intro hg2 (And.intro ho2.rd (below_chain HB1.out hb2)))
  have HO := Lib.hid (show OwnR w2 g (some ⟨g, 0, none⟩) n (powF (giv n t) 0) from X.out.1.of_block (hb2.block g X.out.2.2.2.2))
  have HGL := Lib.hid (show g < w2.heap.size ∧ w.heap.size ≤ g from ⟨by have := X.out.2.2.2.2; have := hb2.size; omega, by have := X.out.2.2.2.1; have := HB.out.1.size; omega⟩)
  have HR2 := Lib.hid ((hb2.block G (by have := HB.out.2; have := X.out.2.1.size; omega)).trans HR1.out)
  have HG2 := Lib.hid (show G < w2.heap.size by have := HB.out.2; have := X.out.2.1.size; have := hb2.size; omega)
  clear hg2 ho2 hb2 c0 c1 c2 x0 x1 x2 d1 d2 d3 d4 d4n d5 d5n
  go_wp2_with fail
  go_loopw [5, 10] (fun row i wr => ∃ q : Nat, q ≤ q0 ∧ i = .int .u8 ((48 + q : Nat) : Int) ∧ ∃ g3 cap3 : Nat, row = .slice (some ⟨g3, 0, none⟩) n cap3 ∧ (w.heap.size ≤ g3 ∧ g3 < wr.heap.size ∧ n ≤ cap3) ∧ OwnR wr g3 (some ⟨g3, 0, none⟩) n (powF (giv n t) q) ∧ Below w2.heap.size w2 wr) (fun _ i _ => 48 + q0 - (intOf i).toNat)
  case atStart => exact ⟨0, Nat.zero_le _, rfl, g, cap, rfl, ⟨HGL.out.2, HGL.out.1, X.out.2.2.1⟩, HO.out, Below.refl _ _⟩
  case round =>
    obtain ⟨q, hq, rfl, g3, cap3, rfl, hg3, ho3, hb3⟩ := hrel
    rename World => wr
    have c0 : wr.cell? ⟨G, 0, none⟩ = some (.int .u8 (c : Nat)) := cell_of_row _ _ 0 _ _ (0, 0) ((hb3.block G HG2.out).trans HR2.out)
    have Z := Lib.hid (And.intro hg3 (And.intro ho3 hb3))
    have HQ := Lib.hid hq
    obtain ⟨i, hi⟩ : ∃ i, i = 48 + q := ⟨_, rfl⟩
    have HI2 := Lib.hid hi
    rw [← hi]
    clear hg3 ho3 hb3
    by_cases hlt : q < q0
    · have d1 : decide ((i : Int) < (c : Int)) = true := decide_eq_true (by have := HC.out.1; omega)
      have d1n : decide (i < c) = true := decide_eq_true (by have := HC.out.1; omega)
      have hw : IntKind.u8.wrap ((i : Int) + 1) = ((48 + (q + 1) : Nat) : Int) := by
        obtain rfl := hi
        have := HC.out.2.2
        rcases (by omega : q = 0 ∨ q = 1 ∨ q = 2 ∨ q = 3 ∨ q = 4 ∨ q = 5 ∨ q = 6 ∨ q = 7 ∨ q = 8) with rfl | rfl | rfl | rfl | rfl | rfl | rfl | rfl | rfl <;> rfl
      have HT := Lib.hid (l10Then_any n cap3 cap2 (some ⟨g3, 0, none⟩) (some ⟨g2, 0, none⟩) (powF (giv n t) q) (giv n t) wr (by have := HN.out; omega) HN.out.2 (perm_pow HP.out q).1 Z.out.2.1.rd (Y.out.2.1.below (Nat.le_refl _) Z.out.2.2))
      have HL := Lib.hid hlt
      clear hi hlt hq
      go_wp2_with (go_at_call 45; refine HT.out.mono ?_; rintro e w4 hl; obtain ⟨g4, cap4, rfl, hg4, ho4, hb4⟩ := RetI.of_list hl; have V := Lib.hid (And.intro hg4 (And.intro ho4 hb4)); clear hl hg4 ho4 hb4)
      go_roundw
      case rel => exact ⟨q + 1, HL.out, rfl, g4, cap4, rfl, ⟨by have := V.out.1.1; have := Z.out.2.2.size; have := Y.out.2.2.size; omega, V.out.1.2⟩, V.out.2.1, Z.out.2.2.trans (V.out.2.2.mono Z.out.2.2.size)⟩
      case measure => have := HL.out; have := HI2.out; simp [intOf]; omega
    · obtain rfl : q = q0 := by omega
      have d1 : decide ((i : Int) < (c : Int)) = false := decide_eq_false (by have := HC.out.1; omega)
      have d1n : decide (i < c) = false := decide_eq_false (by have := HC.out.1; omega)
      clear hi hlt hq
      go_wp2_with fail
      go_ret
      exact ⟨g3, cap3, rfl, Z.out.1, Z.out.2.1, below_chain Y.out.2.2 Z.out.2.2⟩

end Go.Proofs.YtnaegnjgpnakfaaDoor
