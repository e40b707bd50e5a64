/- The program's joined: the first list with most people. -/
import Derived.Test.YteigenmagifplaaJoin
import Derived.Test.YteigenmagifplaaCircles
import Derived.Test.YteigenmagifplaaL6wBest
namespace Go.Proofs.Yteigenmagifplaa
set_option linter.unusedVariables false
set_option linter.unusedSimpArgs false
open Go.RowKit

theorem Outside.below' {V : Nat → Prop} {a b c : World} (h : Outside V b c) (k : Below a.heap.size a b) (hv : ∀ x, V x → a.heap.size ≤ x) : Below a.heap.size a c :=
  ⟨h.os.trans k.os, h.tape.trans k.tape, h.output.trans k.output, Nat.le_trans k.size h.size, fun x hx => (h.block x (Nat.lt_of_lt_of_le hx k.size) (fun hV => by have := hv x hV; omega)).trans (k.block x hx)⟩
set_option maxRecDepth 100000 in
set_option maxHeartbeats 3200000 in
theorem joined_any (n g k : Nat) (W : Nat → Int) (w : World) (hW : IsWants n W) (hk2 : 2 ≤ k) (hkn : k ≤ n) (ha : Rd w (some ⟨g, 0, none⟩) n W) :
    Calls Try.prog 48 #[.slice (some ⟨g, 0, none⟩) n n, .int .i64 (k : Nat)] w (RetO n (nth (bestL n W k)) w) := by
  have hn2 := hW.1.1
  have hn6 := hW.1.2
  have HW := Lib.hid hW
  have HA := Lib.hid ha
  clear hW ha
  have hcell : ∀ (w3 : World) (x : Nat), w3.heap.size = x → (w3.alloc (.cells #[.nilFunc] 66)).cell? ⟨x, 0, none⟩ = some .nilFunc ∧ (w3.alloc (.cells #[.nilFunc] 66)).frozen? ⟨x, 0, none⟩ = false := fun w3 x hx => by
    have h := heap_alloc_last w3 (.cells #[.nilFunc] 66)
    rw [hx] at h
    exact ⟨cell_of_row _ _ 0 _ _ _ h, frozen_of_row _ _ 0 _ _ h⟩
  have hst : ∀ (w3 : World) (x y : Nat), w3.heap.size = x → (store ⟨x, 0, none⟩ (joinV y x)).run Try.prog (w3.alloc (.cells #[.nilFunc] 66)) = .ok () ((w3.alloc (.cells #[.nilFunc] 66)).setCell ⟨x, 0, none⟩ (joinV y x)) := fun w3 x y hx => by
    obtain ⟨h1, h2⟩ := hcell w3 x hx
    rw [run_store _ _ _ _ _ (by rfl), h1]
    simp [h2]
  unfold joinV at hst
  clear hcell
  go_enter Try.func48, Try.ntmps48
  go_wp2_with (go_at_call 43; refine (ownThings_any n n _ _ hn2 hn6).mono ?_; rintro e w1 ⟨g0, c0, rfl, ⟨hg1, hg2, hg3⟩, hO, hb1⟩; have O1 := Lib.hid hO; have B1 := Lib.hid hb1; have hst2 := hst (w1.alloc (.cells #[.slice (some ⟨g0, 0, none⟩) n c0] 23)) (w1.heap.size + 1) w1.heap.size (by simp); clear hO hb1)
  clear hst hst2
  obtain ⟨s, hs⟩ : ∃ s, s = w1.heap.size := ⟨_, rfl⟩
  obtain ⟨w2, hw2⟩ : ∃ w2, w2 = (w1.alloc (.cells #[.slice (some ⟨g0, 0, none⟩) n c0] 23)).alloc (.cells #[joinV s (s + 1)] 66) := ⟨_, rfl⟩
  have e4 := hw2
  unfold joinV at e4
  rw [← hs, ← e4]
  clear e4
  have B2 := Lib.hid (show Below w1.heap.size w1 w2 by rw [hw2]; exact below_alloc (below_alloc (Below.refl _ w1) _) _)
  have hb1 : w2.heap[s]? = some (.cells #[.slice (some ⟨g0, 0, none⟩) n c0] 23 (0, 0)) := by
    have h := heap_alloc_last w1 (.cells #[.slice (some ⟨g0, 0, none⟩) n c0] 23)
    rw [← hs] at h
    rw [hw2, Below.heap_alloc _ _ _ (by simp; omega)]
    exact h
  have hb2 : w2.heap[s + 1]? = some (.cells #[joinV s (s + 1)] 66 (0, 0)) := by
    have h := heap_alloc_last (w1.alloc (.cells #[.slice (some ⟨g0, 0, none⟩) n c0] 23)) (.cells #[joinV s (s + 1)] 66)
    rw [World.size_alloc, ← hs, ← hw2] at h
    exact h
  have hs2 : s + 2 ≤ w2.heap.size := by rw [hw2]; simp; omega
  have cb := cell_of_row w2 s 0 _ _ (0, 0) hb1
  have fb := frozen_of_row w2 s 0 _ _ hb1
  have cj := cell_of_row w2 (s + 1) 0 _ _ (0, 0) hb2
  have hg2s : g0 < s := by omega
  have hws : w.heap.size ≤ s := by omega
  have O2 := Lib.hid (O1.out.of_block (B2.out.block g0 hg2))
  have BA := Lib.hid (show BestAt n s w.heap.size (ownF n) w2 from ⟨g0, c0, cb, fb, ⟨hg1, by omega, by omega⟩, O2.out⟩)
  have CJ := Lib.hid (show w2.cell? ⟨s + 1, 0, none⟩ = some (joinV s (s + 1)) from cj)
  have RA := Lib.hid ((HA.out.below (Nat.le_refl _) B1.out).below (Nat.le_refl _) B2.out)
  have hcb : w2.cell? ⟨s, 0, none⟩ = some (.slice (some ⟨g0, 0, none⟩) n c0) := cb
  have hcj : w2.cell? ⟨s + 1, 0, none⟩ = some (.func (.func 61) #[] #[.pointer (some ⟨s, 0, none⟩), .pointer (some ⟨s + 1, 0, none⟩)]) := cj
  have BW := Lib.hid (below_chain B1.out B2.out)
  clear hw2 hb1 hb2 cb fb cj hs O1
  obtain ⟨CC, hCC⟩ : ∃ CC, CC = circs n W k [] := ⟨_, rfl⟩
  have hlen : CC.length ≤ 1957 := by rw [hCC]; exact circs_small hn6 k
  have HCM := Lib.hid (show ∀ c, c ∈ CC → IsCirc n W c.length (nth c) from fun c hc => by rw [hCC] at hc; exact (mem_circs.1 hc).1)
  have HCI := Lib.hid (fun w' (h : Rd w' (some ⟨g, 0, none⟩) n W) => circlesC_any n g k W w' HW.out hk2 hkn h)
  rw [← hCC] at HCI
  have HBE := Lib.hid (show bestIn n (ownF n) (takesL CC (ownF n) 0) = bestL n W k by rw [hCC]; rfl)
  clear hCC
  go_region_with ((first
      | (go_at_call 34; refine (HCI.out _ RA.out.drew).mono ?_; rintro e w4 ⟨a4, c4, A4, C4, rfl, hroom, hO4, hb4⟩; have hb5 : Below w2.heap.size w2 w4 := (by first | exact hb4 | exact (Below.refl w2.heap.size w2).drew.trans hb4); have hcb4 := (hb5.cell (p := ⟨s, 0, none⟩) (by show s < _; omega)).trans hcb; have hcj4 := (hb5.cell (p := ⟨s + 1, 0, none⟩) (by show s + 1 < _; omega)).trans hcj)
      | (go_at_call 61; refine (join_any n s (s + 1) w.heap.size W HW.out (by omega) CC.length CC (ownF n) 0 g0 c0 a4 c4 A4 C4 (ownF n) w4 rfl hlen HCM.out (taken_own n W) (O2.out.of_block (hb5.block g0 (by omega))) ⟨hg1, by have := hb5.size; omega, by omega⟩ (by have := hb5.size; omega) (BA.out.below hb5) (hO4.sub (by have := hb5.size; first | (simp; omega) | omega) (Nat.le_refl _)) hroom ((hb5.cell (p := ⟨s + 1, 0, none⟩) (by show s + 1 < _; omega)).trans CJ.out)).mono ?_; rintro e w9 ⟨⟨u, rfl⟩, ho9, hbest9⟩; have hk9 := ho9.cell (p := ⟨s + 1, 0, none⟩) (fun h => by have h' : s + 1 = s := h; omega) hcj4)))
  all_goals (
    rw [HBE.out] at hbest9
    obtain ⟨gb, cbb, r1, r2, ⟨r3, r4, r5⟩, r6⟩ := hbest9
    have R6 := Lib.hid r6
    have HO9 := Lib.hid ho9
    have HB5 := Lib.hid hb5
    clear r6 ho9 hb5 hb4 hcb4 hcj4 hk9 hcb hcj hO4
    go_wp2_with fail
    go_ret
    exact ⟨gb, cbb, rfl, ⟨r3, r4⟩, R6.out, ((Outside.of_below (V := fun k => k = s) (HB5.out)).trans' HO9.out (fun _ _ h => h)).below' BW.out (fun k h => by rw [h]; exact hws)⟩)
end Go.Proofs.Yteigenmagifplaa
