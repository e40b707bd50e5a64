/- The program's still. -/
import Derived.Test.YtgjegpponchdaaaDoorWelcomeSwaps
import Derived.Test.YtgjegpponchdaaaDoorRange
import Derived.Shelf.Abstract
namespace Go.Proofs.YtgjegpponchdaaaDoor
set_option linter.unusedVariables false
set_option linter.unusedSimpArgs false
open Go.RowKit
attribute [local go_sem] Oper.semAt_some wide_fn wide_round_fn

/-- Between rounds: one cell, at block s, and all older blocks are as they were. -/
def CellJ (b : Nat) (w : World) (v : Value) (Wx : World) : Prop := Below w.heap.size w Wx ∧ Wx.cell? ⟨b, 0, none⟩ = some v ∧ Wx.frozen? ⟨b, 0, none⟩ = false
theorem CellJ.lt {b : Nat} {w : World} {v : Value} {Wx : World} (h : CellJ b w v Wx) : b < Wx.heap.size := World.block_lt_of_cell? _ _ h.2.1
theorem CellJ.inside {b : Nat} {w : World} {v : Value} {A B : World} {V : Nat → Prop} (h : CellJ b w v A) (hin : Inside (fun k => V k ∨ k < w.heap.size) A B) (hv : V b) : CellJ b w v B :=
  ⟨below_inside h.1 hin (fun k hk => .inr hk), hin.cell (p := ⟨b, 0, none⟩) (.inl hv) h.2.1, (frozen_inside hin (p := ⟨b, 0, none⟩) (.inl hv)).trans h.2.2⟩
theorem CellJ.set {b : Nat} {w : World} {v : Value} {Wx : World} (h : CellJ b w v Wx) (hb : w.heap.size ≤ b) (u : Value) (hu : u.oneCell' = true) : CellJ b w u (Wx.setCell ⟨b, 0, none⟩ u) :=
  ⟨h.1.setCell hb _, World.cell?_setCell_same' _ _ _ (by rw [h.2.1]; rfl), frozen_set h.2.2⟩

set_option maxRecDepth 100000 in
set_option maxHeartbeats 2000000 in
theorem still_any (n c : Nat) (a : Option Addr) (A : Nat → Option Addr) (L C : Nat → Nat) (Z : Nat → Nat → Int) (G : Nat → Int) (w : World) (hW : IsWishes n L Z) (ha : Tab w a n A L C Z) :
    Calls Tryd.prog 47 #[.slice a n c, .agg (cellsV 6 (heldF n G))] w fun e w' => e = .returned (.bool (tt (StillP n Z G))) ∧ Below w.heap.size w w' := by
  have HW := Lib.hid hW
  have HA := Lib.hid ha
  clear hW ha
  refine (callsIn_wide (n := 9)).1 ?_
  refine callsIn_of_wp_marks Tryd.func47 rfl trivial ?_ rfl
  simp only [Tryd.ntmps47, List.size_toArray, List.length_cons, List.length_nil, Nat.reduceAdd, Nat.reduceSub, Array.replicate_succ, Array.replicate_zero, List.push_toArray, List.append_toArray, List.nil_append, List.cons_append]
  gi_wp2_with (first
    | ((with_reducible refine arrI_box 6 _ _ (heldF n G) ?_ ?_); exact rfl; intro w1 hA1 hs1 hb1; have S1 := Lib.hid hs1; have B1 := Lib.hid hb1; clear hs1 hb1)
    | ((with_reducible refine stI_load 6 _ _ _ _ _ _ ?_ (hA1.below hA1.lt (below_alloc (Below.refl _ w1) (.cells #[.bool false] 4))) Tryd.underlying60 rfl Tryd.sizeHeld ?_); exact rfl)
    | (gi_at_call 73; refine (callsIn_wide.2 (welcomeSwaps_any n c a G _)).mono ?_; rintro e w4 ⟨rfl, hcw, hag, hs4, hb4⟩; have CW := Lib.hid hcw; have AG := Lib.hid hag; have S4 := Lib.hid hs4; have B4 := Lib.hid hb4; clear hcw hag hs4 hb4))
  obtain ⟨s, hs⟩ : ∃ s, s = w.heap.size := ⟨_, rfl⟩
  have e1 : w1.heap.size = s + 1 := by rw [S1.out, hs]
  have e2 : (w1.alloc (.cells #[.bool false] 4)).heap.size = s + 2 := by simp [e1]
  have CW' := CW.out
  have AG' := AG.out
  have S4' := S4.out
  have B4' := B4.out
  rw [e2] at CW' AG' S4' B4'
  rw [e1, ← hs]
  have hB0 : Below w.heap.size w w4 := (below_alloc B1.out _).trans (B4'.mono (by omega))
  have J0 := Lib.hid (show CellJ (s + 1) w (.bool false) w4 from ⟨hB0, (B4'.cell (p := ⟨s + 1, 0, none⟩) (show s + 1 < s + 2 by omega)).trans (by rw [← e1]; simp), (World.frozen?_of_block (w := w1.alloc _) (B4'.block (s + 1) (by omega))).trans (by rw [← e1]; simp)⟩)
  have CW2 := Lib.hid CW'
  have AG2 := Lib.hid AG'
  have HB0 := Lib.hid hB0
  have HS := Lib.hid hs
  have hs4 : w4.heap.size = s + 4 := S4'
  have hsw : w.heap.size ≤ s + 1 := by omega
  have hsw2 : w.heap.size ≤ s := by omega
  have hsw3 : s ≤ w.heap.size := by omega
  clear hs CW' AG' S4' B4' CW AG S4 B4 hB0 S1 B1 hA1 e1 e2
  refine wp_seqV (av := pairV) (gf := 87) (lb := #[.pointer (some ⟨s + 1 + 1, 0, none⟩), .pointer (some ⟨s + 1 + 1 + 1, 0, none⟩)]) rfl (enters_of Tryd.func87 (by kernel_rfl) rfl) (fun _ => rfl) (R := seeR w.heap.size (s + 1 + 1) (s + 1 + 1 + 1)) (LL := mayL n Z G)
    (seq_welcome n c a A L C Z G w w4 (s + 1 + 1) (s + 1 + 1 + 1) HW.out HA.out HB0.out CW2.out AG2.out) (fun k => k = s + 1) (fun k hk => ⟨fun h => by rcases hk with hk | hk | hk <;> omega, by rcases hk with hk | hk | hk <;> omega⟩)
    (fun V pre Wx => V = (fun k => k = s + 1) ∧ pre = [] ∧ CellJ (s + 1) w (.bool false) Wx)
    (fun c' V pre Wx => c' = .ret ∧ V = (fun k => k = s + 1) ∧ (∃ D, pre = [D]) ∧ CellJ (s + 1) w (.bool false) Wx)
    (fun k => k < w.heap.size) (fun k hk => by omega) ?cI ?cIx ⟨rfl, rfl, J0.out⟩
    (fun p a' _ => a' = { tmps := #[.slice a n c, .agg (cellsV 6 (heldF n G)), undef, .pointer (some ⟨s, 0, none⟩), .pointer (some ⟨s + 1, 0, none⟩), .slice a n c, .agg (cellsV 6 (heldF n G)), .func (.func 87) #[] #[.pointer (some ⟨s + 1 + 1, 0, none⟩), .pointer (some ⟨s + 1 + 1 + 1, 0, none⟩)], .int .i64 p.1, .int .i64 p.2], defers := [] })
    (fun v a' W l r o h _ => h) ?assign ?body ?done ?stop
  case cI =>
    constructor
    · rintro V pre Wx ⟨rfl, _, h⟩ k rfl
      exact h.lt
    · rintro V pre A B ⟨rfl, rfl, h⟩ hin
      exact ⟨rfl, rfl, h.inside hin rfl⟩
  case cIx =>
    intro c'
    constructor
    · rintro V pre Wx ⟨_, rfl, _, h⟩ k rfl
      exact h.lt
    · rintro V pre A B ⟨rfl, rfl, hp, h⟩ hin
      exact ⟨rfl, rfl, hp, h.inside hin rfl⟩
  case assign =>
    intro l' v Wx K hK
    gi_wp2
    exact hK _ _ (Outside.refl _ _) (by simp [pairV, HS.out])
  case body =>
    rintro l' V pre D a' Wx ⟨rfl, rfl, h⟩ hpre hV rfl
    have H := Lib.hid h
    obtain ⟨_, hc, hf⟩ := h
    gi_wp2
    refine ⟨?_, fun k => k = s + 1, fun k hk => .inl hk, ⟨rfl, rfl, ⟨D.1, D.2, rfl⟩, H.out.set (by omega) _ rfl⟩⟩
    exact Outside.of_grown (row := some (s + 1)) (grownBy_setCell' _ _ _) (fun k hk => by cases hk; rfl)
  case done =>
    rintro D V Wx hD hV hnD ⟨rfl, h0, h⟩ hKD
    have E1 := Lib.hid (tt_of (mayL_nil.1 h0))
    have H := Lib.hid h
    obtain ⟨_, hc, hf⟩ := h
    clear h0
    gi_wp2
    have hKD2 : (Wx.setCell ⟨s + 1, 0, none⟩ (.bool true)).heap[D]? = some (.deferred (some [])) := (Below.heap_setCell _ _ _ _ (show D ≠ s + 1 by omega)).trans hKD
    refine ⟨by simp, .inl ⟨_, _, rfl, run_takeDeferred hKD2, ?_⟩⟩
    have H2 := (H.out.set (by omega) (.bool true) rfl).inside (V := fun k => k = s + 1) (Inside.putObj (r := D) (fun h => by rcases h with h | h <;> omega) (.deferred none)) rfl
    exact ⟨_, results_cell1 rfl _ _ ⟨s + 1, 0, none⟩ (.bool true) _ rfl Tryd.underlying4 rfl H2.2.1, by rw [E1.out], H2.1⟩
  case stop =>
    rintro D c' V pre Wx hD hV hnD hpre ⟨rfl, rfl, ⟨D1, rfl⟩, h⟩ hKD
    have E1 := Lib.hid (tt_no (show ¬ StillP n Z G from fun hs => by rw [mayL_nil.2 hs] at hpre; simp at hpre))
    have H := Lib.hid h
    clear h
    gi_wp2
    refine ⟨by simp, .inl ⟨_, _, rfl, run_takeDeferred hKD, ?_⟩⟩
    have H2 := H.out.inside (V := fun k => k = s + 1) (Inside.putObj (r := D) (fun h => by rcases h with h | h <;> omega) (.deferred none)) rfl
    exact ⟨_, results_cell1 rfl _ _ ⟨s + 1, 0, none⟩ (.bool false) _ rfl Tryd.underlying4 rfl H2.2.1, by rw [E1.out], H2.1⟩
end Go.Proofs.YtgjegpponchdaaaDoor
