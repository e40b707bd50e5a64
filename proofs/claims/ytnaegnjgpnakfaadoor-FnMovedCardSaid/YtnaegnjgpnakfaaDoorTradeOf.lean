/- The program's giving of a term. -/
import Derived.Test.YtnaegnjgpnakfaaDoorGiveP
import Derived.Test.YtnaegnjgpnakfaaDoorTermTerm
namespace Go.Proofs.YtnaegnjgpnakfaaDoor
set_option linter.unusedVariables false
set_option linter.unusedSimpArgs false
open Go.RowKit

theorem nextF_congr {T U C D : Nat → Int} {m : Nat} (hT : ∀ i, T i = U i) (hC : ∀ j, j < m → C j = D j) : ∀ {k : Nat}, k ≤ m → ∀ i, nextF T C m k i = nextF U D m k i
  | 0, _, i => hT i
  | k + 1, hk, i => by
    show (if (i : Int) = C k then C ((k + 1) % m) else nextF T C m k i) = (if (i : Int) = D k then D ((k + 1) % m) else nextF U D m k i)
    rw [hC k (by omega), hC ((k + 1) % m) (Nat.mod_lt _ (by omega)), nextF_congr hT hC (k := k) (by omega)]
theorem ta_keepTerm_circleTerm (v : Value) (w : World) : (Instr.typeAssert (.iface 119 v) 49 101 true).run Tryd.prog w = .ok (.tuple #[.slice none 0 0, .bool false]) w := by kernel_rfl
theorem ta_keepTerm_backTerm (v : Value) (w : World) : (Instr.typeAssert (.iface 119 v) 49 103 true).run Tryd.prog w = .ok (.tuple #[.agg #[.nilIface], .bool false]) w := by kernel_rfl
theorem ta_keepTerm_timesTerm (v : Value) (w : World) : (Instr.typeAssert (.iface 119 v) 49 106 true).run Tryd.prog w = .ok (.tuple #[.agg #[.nilIface, .int .i64 0], .bool false]) w := by kernel_rfl
theorem ta_keepTerm_pairTerm (v : Value) (w : World) : (Instr.typeAssert (.iface 119 v) 49 109 true).run Tryd.prog w = .ok (.tuple #[.agg #[.nilIface, .nilIface], .bool false]) w := by kernel_rfl
theorem ta_circleTerm_circleTerm (v : Value) (w : World) : (Instr.typeAssert (.iface 101 v) 49 101 true).run Tryd.prog w = .ok (.tuple #[v, .bool true]) w := by kernel_rfl
theorem ta_circleTerm_backTerm (v : Value) (w : World) : (Instr.typeAssert (.iface 101 v) 49 103 true).run Tryd.prog w = .ok (.tuple #[.agg #[.nilIface], .bool false]) w := by kernel_rfl
theorem ta_circleTerm_timesTerm (v : Value) (w : World) : (Instr.typeAssert (.iface 101 v) 49 106 true).run Tryd.prog w = .ok (.tuple #[.agg #[.nilIface, .int .i64 0], .bool false]) w := by kernel_rfl
theorem ta_circleTerm_pairTerm (v : Value) (w : World) : (Instr.typeAssert (.iface 101 v) 49 109 true).run Tryd.prog w = .ok (.tuple #[.agg #[.nilIface, .nilIface], .bool false]) w := by kernel_rfl
theorem ta_backTerm_circleTerm (v : Value) (w : World) : (Instr.typeAssert (.iface 103 v) 49 101 true).run Tryd.prog w = .ok (.tuple #[.slice none 0 0, .bool false]) w := by kernel_rfl
theorem ta_backTerm_backTerm (v : Value) (w : World) : (Instr.typeAssert (.iface 103 v) 49 103 true).run Tryd.prog w = .ok (.tuple #[v, .bool true]) w := by kernel_rfl
theorem ta_backTerm_timesTerm (v : Value) (w : World) : (Instr.typeAssert (.iface 103 v) 49 106 true).run Tryd.prog w = .ok (.tuple #[.agg #[.nilIface, .int .i64 0], .bool false]) w := by kernel_rfl
theorem ta_backTerm_pairTerm (v : Value) (w : World) : (Instr.typeAssert (.iface 103 v) 49 109 true).run Tryd.prog w = .ok (.tuple #[.agg #[.nilIface, .nilIface], .bool false]) w := by kernel_rfl
theorem ta_timesTerm_circleTerm (v : Value) (w : World) : (Instr.typeAssert (.iface 106 v) 49 101 true).run Tryd.prog w = .ok (.tuple #[.slice none 0 0, .bool false]) w := by kernel_rfl
theorem ta_timesTerm_backTerm (v : Value) (w : World) : (Instr.typeAssert (.iface 106 v) 49 103 true).run Tryd.prog w = .ok (.tuple #[.agg #[.nilIface], .bool false]) w := by kernel_rfl
theorem ta_timesTerm_timesTerm (v : Value) (w : World) : (Instr.typeAssert (.iface 106 v) 49 106 true).run Tryd.prog w = .ok (.tuple #[v, .bool true]) w := by kernel_rfl
theorem ta_timesTerm_pairTerm (v : Value) (w : World) : (Instr.typeAssert (.iface 106 v) 49 109 true).run Tryd.prog w = .ok (.tuple #[.agg #[.nilIface, .nilIface], .bool false]) w := by kernel_rfl
theorem ta_pairTerm_circleTerm (v : Value) (w : World) : (Instr.typeAssert (.iface 109 v) 49 101 true).run Tryd.prog w = .ok (.tuple #[.slice none 0 0, .bool false]) w := by kernel_rfl
theorem ta_pairTerm_backTerm (v : Value) (w : World) : (Instr.typeAssert (.iface 109 v) 49 103 true).run Tryd.prog w = .ok (.tuple #[.agg #[.nilIface], .bool false]) w := by kernel_rfl
theorem ta_pairTerm_timesTerm (v : Value) (w : World) : (Instr.typeAssert (.iface 109 v) 49 106 true).run Tryd.prog w = .ok (.tuple #[.agg #[.nilIface, .int .i64 0], .bool false]) w := by kernel_rfl
theorem ta_pairTerm_pairTerm (v : Value) (w : World) : (Instr.typeAssert (.iface 109 v) 49 109 true).run Tryd.prog w = .ok (.tuple #[v, .bool true]) w := by kernel_rfl
/-- The contract of tradeOf at a term. -/
def TradeC (n : Nat) (t : Tm) : Prop := ∀ (B : Nat) (v : Value) (w : World), PV w B t v → Calls Tryd.prog 64 #[v, .int .i64 (n : Nat)] w (RetI n (giv n t) w)

set_option maxRecDepth 100000 in
set_option maxHeartbeats 1600000 in
theorem trade_keep (n : Nat) (h2 : 2 ≤ n) (h5 : n ≤ 5) : TradeC n .keep := by
  intro B v w hv
  have hv' : v = .iface 119 (.agg #[]) := hv
  subst hv'
  have H := Lib.hid (own_any n w h2 (by omega))
  clear h2 h5 hv
  have ta0 := ta_keepTerm_circleTerm
  have ta1 := ta_keepTerm_backTerm
  have ta2 := ta_keepTerm_timesTerm
  have ta3 := ta_keepTerm_pairTerm
  go_enter Tryd.func64, Tryd.ntmps64
  go_wp2_with (go_at_call 76; refine H.out.mono ?_; rintro e w1 ⟨g, cap, rfl, hg, ho, hb⟩; have X := Lib.hid (And.intro hg (And.intro ho hb)); clear hg ho hb)
  go_ret
  exact ⟨g, cap, rfl, X.out.1, X.out.2.1, X.out.2.2⟩

set_option maxRecDepth 100000 in
set_option maxHeartbeats 1600000 in
theorem trade_circ (n : Nat) (h2 : 2 ≤ n) (h5 : n ≤ 5) (L : List Nat) (hw : WF (.circ L)) (hp : ppl (.circ L) ≤ n) : TradeC n (.circ L) := by
  intro B v w hv
  obtain ⟨b, c, rfl, ⟨hb1, hb2⟩, hrd⟩ := hv
  have H := Lib.hid (own_any n w h2 (by omega))
  have hl := diff_le hw.2
  have HL := Lib.hid (fun (g cap : Nat) (w1 : World) (hr : Rd w1 (some ⟨g, 0, none⟩) n idF) (hB : Below w.heap.size w w1) => alongP_any n cap L.length c (some ⟨g, 0, none⟩) (some ⟨b, 0, none⟩) idF (nthN L) w1 (by omega) (by omega) (by have := hw.1; omega) (by omega) (fun j hj => by have := maxL_lt hp hj; unfold nthN; omega) hr (hrd.below (Nat.le_refl _) hB))
  clear h2 h5 hw hp hb1 hb2 hrd hl
  have ta0 := ta_circleTerm_circleTerm
  go_enter Tryd.func64, Tryd.ntmps64
  go_wp2_with (first
    | (go_at_call 76; refine H.out.mono ?_; rintro e w1 ⟨g, cap, rfl, hg, ho, hb⟩; have X := Lib.hid (And.intro hg (And.intro ho hb)); clear hg ho hb)
    | (go_at_call 75; refine (HL.out g cap w1 X.out.2.1.rd X.out.2.2).mono ?_; rintro e w2 ⟨g2, cap2, rfl, hg, ho, hb⟩; have Y := Lib.hid (And.intro hg (And.intro ho hb)); clear hg ho hb))
  go_ret
  exact ⟨g2, cap2, rfl, ⟨by have := Y.out.1.1; have := X.out.2.2.size; omega, Y.out.1.2⟩, Y.out.2.1, below_chain X.out.2.2 Y.out.2.2⟩

set_option maxRecDepth 100000 in
set_option maxHeartbeats 1600000 in
theorem trade_back (n : Nat) (h2 : 2 ≤ n) (h5 : n ≤ 5) (t : Tm) (hw : WF t) (hp : ppl t ≤ n) (ih : TradeC n t) : TradeC n (.back t) := by
  intro B v w hv
  obtain ⟨u, rfl, hu⟩ := hv
  obtain ⟨T, x, rfl⟩ := hu.iface
  have HP := Lib.hid (giv_perm hw hp)
  have HI := Lib.hid (fun (w1 : World) (h : Below w.heap.size w w1) => ih B (.iface T x) w1 (hu.below h))
  have HN := Lib.hid (And.intro h2 h5)
  clear h2 h5 hw hp ih hu
  have ta0 := ta_backTerm_circleTerm
  have ta1 := ta_backTerm_backTerm
  go_enter Tryd.func64, Tryd.ntmps64
  go_wp2_with fail
  refine (HI.out _ (below_alloc (Below.refl _ _) _)).mono ?_
  rintro e w1 ⟨g, cap, rfl, hg, ho, hb⟩
  have X := Lib.hid (And.intro hg (And.intro ho (show Below w.heap.size w w1 from ((Below.refl _ _).alloc (Nat.le_refl _) _).trans (hb.mono (by simp)))))
  clear hg ho hb
  go_wp2_with (go_at_call 77; refine (bringBack_any n cap (some ⟨g, 0, none⟩) (giv n t) w1 (by have := HN.out; omega) (by have := HN.out; omega) HP.out.1 X.out.2.1.rd).mono ?_; rintro e w2 ⟨g2, cap2, rfl, hg, ho, hb⟩; have Y := Lib.hid (And.intro hg (And.intro ho hb)); clear hg ho hb)
  go_ret
  exact ⟨g2, cap2, rfl, ⟨by have := Y.out.1.1; have := X.out.2.2.size; omega, Y.out.1.2⟩, Y.out.2.1, below_chain X.out.2.2 Y.out.2.2⟩

set_option maxRecDepth 100000 in
set_option maxHeartbeats 3200000 in
theorem trade_times (n : Nat) (h2 : 2 ≤ n) (h5 : n ≤ 5) (k : Nat) (t : Tm) (hk : k ≤ 9) (hw : WF t) (hp : ppl t ≤ n) (ih : TradeC n t) : TradeC n (.times k t) := by
  intro B v w hv
  obtain ⟨u, rfl, hu⟩ := hv
  obtain ⟨T, x, rfl⟩ := hu.iface
  have HP := Lib.hid (giv_perm hw hp)
  have HI := Lib.hid (fun (w1 : World) (h : Below w.heap.size w w1) => ih B (.iface T x) w1 (hu.below h))
  have HN := Lib.hid (And.intro h2 h5)
  have HK := Lib.hid hk
  clear h2 h5 hw hp ih hu hk
  have ta0 := ta_timesTerm_circleTerm
  have ta1 := ta_timesTerm_backTerm
  have ta2 := ta_timesTerm_timesTerm
  go_enter Tryd.func64, Tryd.ntmps64
  go_wp2_with fail
  obtain ⟨s, hs⟩ : ∃ s, s = w.heap.size := ⟨_, rfl⟩
  obtain ⟨w0, hw0⟩ : ∃ w0, w0 = w.alloc (.cells #[.iface T x, .int .i64 (k : Nat)] 106) := ⟨_, rfl⟩
  have c0 : w0.cell? ⟨s, 0, none⟩ = some (.iface T x) := by rw [hw0, hs]; exact cell_of_row _ _ 0 _ _ (0, 0) (heap_alloc_last w _)
  have c1 : w0.cell? ⟨s, 1, none⟩ = some (.int .i64 (k : Nat)) := by rw [hw0, hs]; exact cell_of_row _ _ 1 _ _ (0, 0) (heap_alloc_last w _)
  have B0 := Lib.hid (show Below w.heap.size w w0 from by rw [hw0]; exact (Below.refl _ _).alloc (Nat.le_refl _) _)
  rw [← hw0, ← hs]
  clear hw0 hs
  go_region_with (first
    | (go_at_call 64; refine (HI.out _ (by first | exact B0.out | exact B0.out.drew | (exact B0.out.trans ⟨rfl, rfl, rfl, Nat.le_refl _, fun _ _ => rfl⟩))).mono ?_; rintro e w1 ⟨g, cap, rfl, hg, ho, hb⟩; have X := Lib.hid (And.intro hg (And.intro ho (show Below w.heap.size w w1 from by first | exact B0.out.trans (hb.mono B0.out.size) | exact B0.out.drew.trans (hb.mono B0.out.drew.size)))); have hc1 : w1.cell? ⟨s, 1, none⟩ = some (.int .i64 (k : Nat)) := (by rw [World.cell?_of_block (w := w0) (a := ⟨s, 1, none⟩) (hb.block s (World.block_lt_of_cell? w0 ⟨s, 1, none⟩ c1))]; exact c1); clear hg ho hb)
    | (go_at_call 78; refine (often_any n cap k (some ⟨g, 0, none⟩) (giv n t) w1 HK.out (by have := HN.out; omega) (by have := HN.out; omega) HP.out X.out.2.1.rd).mono ?_; rintro e w2 ⟨g2, cap2, rfl, hg, ho, hb⟩; have Y := Lib.hid (And.intro hg (And.intro ho hb)); clear hg ho hb))
  all_goals (
    clear hc1 c0 c1
    go_wp2_with fail
    go_ret
    exact ⟨g2, cap2, rfl, ⟨by have := Y.out.1.1; have := X.out.2.2.size; omega, Y.out.1.2⟩, Y.out.2.1, below_chain X.out.2.2 Y.out.2.2⟩)

set_option maxRecDepth 100000 in
set_option maxHeartbeats 3200000 in
theorem trade_pair (n : Nat) (h2 : 2 ≤ n) (h5 : n ≤ 5) (t1 t2 : Tm) (hw1 : WF t1) (hp1 : ppl t1 ≤ n) (ih1 : TradeC n t1) (ih2 : TradeC n t2) : TradeC n (.pair t1 t2) := by
  intro B v w hv
  obtain ⟨u1, u2, rfl, hu1, hu2⟩ := hv
  obtain ⟨T1, x1, rfl⟩ := hu1.iface
  obtain ⟨T2, x2, rfl⟩ := hu2.iface
  have HP := Lib.hid (giv_perm hw1 hp1)
  have HI1 := Lib.hid (fun (w1 : World) (h : Below w.heap.size w w1) => ih1 B (.iface T1 x1) w1 (hu1.below h))
  have HI2 := Lib.hid (fun (w1 : World) (h : Below w.heap.size w w1) => ih2 B (.iface T2 x2) w1 (hu2.below h))
  have HN := Lib.hid (And.intro h2 h5)
  clear h2 h5 hw1 hp1 ih1 ih2 hu1 hu2
  have ta0 := ta_pairTerm_circleTerm
  have ta1 := ta_pairTerm_backTerm
  have ta2 := ta_pairTerm_timesTerm
  have ta3 := ta_pairTerm_pairTerm
  go_enter Tryd.func64, Tryd.ntmps64
  go_wp2_with fail
  obtain ⟨s, hs⟩ : ∃ s, s = w.heap.size := ⟨_, rfl⟩
  obtain ⟨w0, hw0⟩ : ∃ w0, w0 = w.alloc (.cells #[.iface T1 x1, .iface T2 x2] 109) := ⟨_, rfl⟩
  have c0 : w0.cell? ⟨s, 0, none⟩ = some (.iface T1 x1) := by rw [hw0, hs]; exact cell_of_row _ _ 0 _ _ (0, 0) (heap_alloc_last w _)
  have c1 : w0.cell? ⟨s, 1, none⟩ = some (.iface T2 x2) := by rw [hw0, hs]; exact cell_of_row _ _ 1 _ _ (0, 0) (heap_alloc_last w _)
  have B0 := Lib.hid (show Below w.heap.size w w0 from by rw [hw0]; exact (Below.refl _ _).alloc (Nat.le_refl _) _)
  rw [← hw0, ← hs]
  clear hw0 hs
  have tk : True := trivial
  go_region_with (first
    | (have _t := tk; go_at_call 64; refine (HI1.out _ (by first | exact B0.out | exact B0.out.drew | (exact B0.out.trans ⟨rfl, rfl, rfl, Nat.le_refl _, fun _ _ => rfl⟩))).mono ?_; clear tk; rintro e w1 ⟨g, cap, rfl, hg, ho, hb⟩; have X := Lib.hid (And.intro hg (And.intro ho (show Below w.heap.size w w1 from by first | exact B0.out.trans (hb.mono B0.out.size) | exact B0.out.drew.trans (hb.mono B0.out.drew.size)))); have hc1 : w1.cell? ⟨s, 1, none⟩ = some (.iface T2 x2) := (by rw [World.cell?_of_block (w := w0) (a := ⟨s, 1, none⟩) (hb.block s (World.block_lt_of_cell? w0 ⟨s, 1, none⟩ c1))]; exact c1); clear hg ho hb)
    | (go_at_call 64; refine (HI2.out _ X.out.2.2).mono ?_; rintro e w2 ⟨g2, cap2, rfl, hg, ho, hb⟩; have Y := Lib.hid (And.intro hg (And.intro ho hb)); have O1 := Lib.hid (show OwnR w2 g (some ⟨g, 0, none⟩) n (giv n t1) from X.out.2.1.of_block (hb.block g X.out.1.2.1)); clear hg ho hb)
    | (go_at_call 47; refine (behind_any n cap cap2 (some ⟨g, 0, none⟩) (some ⟨g2, 0, none⟩) (giv n t1) (giv n t2) w2 (by have := HN.out; omega) (by have := HN.out; omega) HP.out.1 O1.out.rd Y.out.2.1.rd).mono ?_; rintro e w3 ⟨g3, cap3, rfl, hg, ho, hb⟩; have Z := Lib.hid (And.intro hg (And.intro ho hb)); clear hg ho hb))
  all_goals (
    clear hc1 c0 c1
    go_wp2_with fail
    go_ret
    exact ⟨g3, cap3, rfl, ⟨by have := Z.out.1.1; have := Y.out.2.2.size; have := X.out.2.2.size; omega, Z.out.1.2⟩, Z.out.2.1, below_chain X.out.2.2 (below_chain Y.out.2.2 Z.out.2.2)⟩)

theorem trade_all (n : Nat) (h2 : 2 ≤ n) (h5 : n ≤ 5) : ∀ (t : Tm), WF t → ppl t ≤ n → TradeC n t
  | .keep, _, _ => trade_keep n h2 h5
  | .circ L, hw, hp => trade_circ n h2 h5 L hw hp
  | .back t, hw, hp => trade_back n h2 h5 t hw hp (trade_all n h2 h5 t hw hp)
  | .times k t, hw, hp => trade_times n h2 h5 k t hw.1.2 hw.2 hp (trade_all n h2 h5 t hw.2 hp)
  | .pair a b, hw, hp => trade_pair n h2 h5 a b hw.1 (by unfold ppl at hp; omega) (trade_all n h2 h5 a hw.1 (by unfold ppl at hp; omega)) (trade_all n h2 h5 b hw.2 (by unfold ppl at hp; omega))
end Go.Proofs.YtnaegnjgpnakfaaDoor
