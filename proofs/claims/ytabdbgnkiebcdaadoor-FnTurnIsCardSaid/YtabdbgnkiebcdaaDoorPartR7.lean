/- Texts joined: AreDifferent, HasWay, Clone, Min, HasRound, Box, Within, ReadPrices, Hold, IdxF, IndexI, Contains, Ways, Rounds, RoundValue, Gaining. -/
import Derived.Test.YtabdbgnkiebcdaaDoorProg
import Derived.Test.YtabdbgnkiebcdaaDoorPartR1
import Derived.Test.YtabdbgnkiebcdaaDoorPartR6
import Derived.Lib.MinMax
import Derived.Test.YtabdbgnkiebcdaaDoorPartR3
import Derived.WalkKit
import Derived.OwnWalkIn
import Derived.TacticsInMore
import Derived.LoopNIn
import Derived.LoopIn
import Derived.Shelf.Abstract
import Derived.Test.YtabdbgnkiebcdaaDoorPartR4
namespace Go.Proofs.YtabdbgnkiebcdaaDoor
set_option linter.unusedVariables false
open Go.RowKit

set_option maxHeartbeats 800000 in
theorem areDifferent_any (n m c : Nat) (a : Option Addr) (X : Nat → Int) (w : World) (hn : n ≤ 61) (hm : m ≤ 1048576) (ha : Rd w a m X) :
    Calls Tryd.prog 141 #[.int .i64 n, .slice a m c] w fun e w' => e = .returned (.bool (tt (IsDiff n m X))) ∧ w = w' := by
  go_enter Tryd.func141, Tryd.ntmps141
  go_wp2
  go_loop [4, 5, 7, 10] (fun r s _ i => ∃ k : Nat, k ≤ m ∧ i = .int .i64 k ∧ r = .bool false ∧ ∃ S : Nat, S < 2 ^ n ∧ s = .int .i64 S ∧ SetOf S k X ∧ IsDiff n k X) (fun _ _ _ i => m - (intOf i).toNat)
  case atStart => exact ⟨0, Nat.zero_le _, rfl, rfl, 0, Nat.two_pow_pos n, rfl, SetOf.nil X, IsDiff.nil n X⟩
  case round =>
    obtain ⟨k, hk, rfl, rfl, S, hS, rfl, hset, hdiff⟩ := hrel
    have HS := Lib.hid hS
    have H1 := Lib.hid hset
    have H2 := Lib.hid hdiff
    clear hS hset hdiff
    by_cases hlt : k < m
    · obtain ⟨ba, oa, rfl, hca⟩ := ha k hlt
      clear ha
      by_cases h0 : X k < 0
      · have hno := Lib.hid (not_diff_range (n := n) hlt (.inl h0))
        have hd : decide (X k < 0) = true := by simpa using h0
        go_wp2
        go_ret
        exact ⟨by rw [tt_no hno.out]; rfl, rfl⟩
      · by_cases h1 : (n : Int) ≤ X k
        · have hno := Lib.hid (not_diff_range (n := n) hlt (.inr h1))
          have hd : decide ((n : Int) ≤ X k) = true := by simpa using h1
          go_wp2
          go_ret
          exact ⟨by rw [tt_no hno.out]; rfl, rfl⟩
        · obtain ⟨x, hx⟩ := Int.eq_ofNat_of_zero_le (show 0 ≤ X k by omega)
          rw [hx] at hca h0 h1
          have hxn : x < n := by omega
          have hd : decide ((n : Int) ≤ x) = false := by simp; omega
          have hx62 : x < 62 := by omega
          have hS62 : S < 2 ^ 62 := Nat.lt_trans HS.out (two_pow_lt (by omega))
          have HX := Lib.hid hx
          have hhas := bit_has S x hS62
          clear hx h0 h1
          by_cases hb : S.testBit x = true
          · rw [hb] at hhas
            have hno := Lib.hid (not_diff_twice (n := n) H1.out hlt HX.out hb)
            clear hb hS62 hx62
            go_wp2
            go_ret
            exact ⟨by rw [tt_no hno.out]; rfl, rfl⟩
          · have hb' : S.testBit x = false := by simpa using hb
            rw [hb'] at hhas
            obtain ⟨S', hS'⟩ : ∃ S', S' = S ||| 2 ^ x := ⟨_, rfl⟩
            have hput := bit_put S x hS62 hx62
            rw [← hS'] at hput
            have HS' := Lib.hid hS'
            have HB := Lib.hid hb'
            clear hb hb' hS' hS62 hx62
            go_wp2
            go_round
            case rel => exact ⟨k + 1, by omega, by go_num, rfl, S', by rw [HS'.out]; exact bit_put_lt HS.out hxn, rfl, by rw [HS'.out]; exact H1.out.put HX.out, H2.out.snoc H1.out HX.out hxn HB.out⟩
            case measure => simp [intOf]; omega
    · obtain rfl : k = m := by omega
      clear ha
      go_wp2
      go_ret
      exact ⟨by rw [tt_of H2.out]; rfl, rfl⟩
end Go.Proofs.YtabdbgnkiebcdaaDoor

namespace Go.Proofs.YtabdbgnkiebcdaaDoor
set_option linter.unusedVariables false
open Go.RowKit

set_option maxHeartbeats 800000 in
theorem hasWay_any (n m d : Nat) (F : Nat → Int) (b : Option Addr) (W : Nat → Int) (w : World) (h : Kept n F) (hm : m ≤ 1048576) (hb : Rd w b m W) :
    Calls Tryd.prog 144 #[.agg (cellsV 25 F), .slice b m d] w fun e w' => e = .returned (.bool (tt (IsWay n m W))) ∧ Below w.heap.size w w' := by
  have hn5 := h.le
  have H := Lib.hid h
  have HB := Lib.hid hb
  clear h hb
  by_cases h2 : m < 2
  · have hno := Lib.hid (tt_no (show ¬ IsWay n m W from fun h => by have := h.2; omega))
    have hd : decide (2 ≤ (m : Int)) = false := by simp; omega
    go_enter Tryd.func144, Tryd.ntmps144
    go_wp2_with (first
      | ((with_reducible refine arr_box 25 _ _ F ?_ ?_); exact rfl; intro w1 hA1 hs1 hb1; have S1 := Lib.hid hs1; clear hs1)
      | ((with_reducible refine arr_load 25 _ _ _ _ _ _ _ ?_ hA1 Tryd.underlying52 Tryd.sizeRates ?_); exact rfl)
      | (go_at_call 107; refine (size_any n F _ H.out).mono ?_; rintro e w2 ⟨rfl, hb2⟩))
    go_ret
    exact ⟨by rw [hno.out]; rfl, hb1.trans (hb2.mono hb1.size)⟩
  · by_cases h3 : n < m
    · have hno := Lib.hid (tt_no (show ¬ IsWay n m W from fun h => by have := h.2; omega))
      have hd : decide (2 ≤ (m : Int)) = true := by simp; omega
      have hd2 : decide (m ≤ n) = false := by simp; omega
      go_enter Tryd.func144, Tryd.ntmps144
      go_wp2_with (first
        | ((with_reducible refine arr_box 25 _ _ F ?_ ?_); exact rfl; intro w1 hA1 hs1 hb1; have S1 := Lib.hid hs1; clear hs1)
        | ((with_reducible refine arr_load 25 _ _ _ _ _ _ _ ?_ hA1 Tryd.underlying52 Tryd.sizeRates ?_); exact rfl)
        | (go_at_call 107; refine (size_any n F _ H.out).mono ?_; rintro e w2 ⟨rfl, hb2⟩))
      go_ret
      exact ⟨by rw [hno.out]; rfl, hb1.trans (hb2.mono hb1.size)⟩
    · have hyes := Lib.hid (tt_congr (show IsWay n m W ↔ IsDiff n m W from ⟨fun h => h.1, fun h => ⟨h, by omega, by omega⟩⟩))
      have hd : decide (2 ≤ (m : Int)) = true := by simp; omega
      have hd2 : decide (m ≤ n) = true := by simp; omega
      go_enter Tryd.func144, Tryd.ntmps144
      go_wp2_with (first
        | ((with_reducible refine arr_box 25 _ _ F ?_ ?_); exact rfl; intro w1 hA1 hs1 hb1; have S1 := Lib.hid hs1; clear hs1)
        | ((with_reducible refine arr_load 25 _ _ _ _ _ _ _ ?_ hA1 Tryd.underlying52 Tryd.sizeRates ?_); exact rfl)
        | (go_at_call 107; refine (size_any n F _ H.out).mono ?_; rintro e w2 ⟨rfl, hb2⟩; have B2 := Lib.hid (hb1.trans (hb2.mono hb1.size)); clear hb1 hb2)
        | (go_at_call 141; refine (areDifferent_any n m d b W _ (by omega) hm (HB.out.below (Nat.le_refl _) B2.out)).mono ?_; rintro e w3 ⟨rfl, rfl⟩))
      go_ret
      exact ⟨by rw [hyes.out]; rfl, B2.out⟩
end Go.Proofs.YtabdbgnkiebcdaaDoor

namespace Go.Proofs.YtabdbgnkiebcdaaDoor
set_option linter.unusedVariables false
open Go.RowKit

set_option maxHeartbeats 400000 in
theorem clone_any (m c : Nat) (a : Option Addr) (X : Nat → Int) (w : World) (hm1 : 1 ≤ m) (hm : m ≤ 1048576) (ha : Rd w a m X) :
    Calls Tryd.prog 153 #[.slice a m c] w (RetList 3 m X w) := by
  obtain ⟨ba, oa, rfl, hlt, hc0⟩ := ha.lt (show 0 < m by omega)
  obtain ⟨i0, hi, hz0, hz1, hz2⟩ := info_parts Tryd.infoInt
  have hnil := fun (w : World) (a : Option Addr) (n c n' c' : Nat) => Lib.run_eql_slice_nil (P := Tryd.prog) w 32 3 a n c n' c' Tryd.underlying32
  have HA := Lib.hid ha
  clear ha hc0
  go_enter Tryd.func153, Tryd.ntmps153
  go_wp2_with (at_builtin; refine wpList_append_grows _ (by rfl) (.tmp 5) (.tmp 6) 32 (by rfl) 3 i0 (.int .i64 0) 1 8 Tryd.underlying32 hi hz0 hz1 hz2 (by rfl) (by decide) _ 0 0 [] (by rfl) (fun h => by cases h) (by rfl) (fun _ _ j u h => absurd h (by simp)) ⟨ba, oa, none⟩ m c (cellsL m X) (by rfl) ((cellsL_length m X).trans (Nat.mul_one m).symm) (HA.out.news (by repeat (first | exact Below.refl _ _ | refine Below.drew ?_ | refine below_alloc ?_ _))) (cellsL_one m X) (by omega) (by unfold maxLen; omega) (by omega) ?_; intro v1 w1 hown0 hgrow1; simp only [Nat.zero_add, List.nil_append] at hown0)
  obtain ⟨h1, (⟨he, h0⟩ | ⟨g, cap, cur, rfl, hg, hr⟩)⟩ := hown0
  · omega
  · have hB : Below w.heap.size w w1 := (below_alloc (Below.refl w.heap.size w) _).grown hgrow1 (by simp) (fun k h => by cases h)
    go_ret
    exact ⟨g, cap, rfl, ⟨h1, .inr ⟨g, cap, cur, rfl, by simp at hg; omega, hr⟩⟩, hB⟩
end Go.Proofs.YtabdbgnkiebcdaaDoor

namespace Go.Proofs.YtabdbgnkiebcdaaDoor
set_option linter.unusedVariables false
open Go.RowKit

theorem minF_is (X : Nat → Int) (k : Nat) : ∃ i, i ≤ k ∧ minF X k = X i := by
  induction k with
  | zero => exact ⟨0, Nat.le_refl _, rfl⟩
  | succ k ih =>
    obtain ⟨i, hi, e⟩ := ih
    by_cases h : X (k + 1) ≤ minF X k
    · exact ⟨k + 1, Nat.le_refl _, by show min (minF X k) (X (k + 1)) = _; omega⟩
    · exact ⟨i, by omega, by show min (minF X k) (X (k + 1)) = _; omega⟩

set_option maxHeartbeats 400000 in
theorem min_any (m c : Nat) (a : Option Addr) (X : Nat → Int) (w : World) (hm1 : 1 ≤ m) (hm : m ≤ 1048576) (ha : Rd w a m X) :
    Calls Tryd.prog 145 #[.slice a m c] w fun e w' => e = .returned (.int .i64 (minF X (m - 1))) ∧ w = w' := by
  obtain ⟨ba, oa, rfl, hlt, hc0⟩ := ha.lt (show 0 < m by omega)
  rw [Nat.add_zero] at hc0
  have hi1 : 0 < m := by omega
  have hd : decide ((m : Int) < 1) = false := by simp; omega
  have HA := Lib.hid ha
  clear ha hlt
  go_enter Tryd.func145, Tryd.ntmps145
  go_wp2
  go_loop [3, 4] (fun s i => ∃ k : Nat, k + 1 ≤ m ∧ i = .int .i64 ((k : Int) + 1) ∧ s = .int .i64 (minF X k)) (fun _ i => m - (intOf i).toNat)
  case atStart => exact ⟨0, by omega, rfl, rfl⟩
  case round =>
    obtain ⟨k, hk, rfl, rfl⟩ := hrel
    clear hc0
    by_cases hklt : k + 1 < m
    · obtain ⟨bb, ob, he, hc1⟩ := HA.out (k + 1) hklt
      obtain ⟨rfl, rfl⟩ : bb = ba ∧ ob = oa := by simpa using he.symm
      have hd1 : decide ((k : Int) + 1 < m) = true := by simp; omega
      have hi2 : (0 : Int) ≤ (k : Int) + 1 := by omega
      have hi3 : (k : Int) + 1 < m := by omega
      have hi4 : ((k : Int) + 1).toNat = k + 1 := by omega
      clear he
      go_wp2
      go_round
      case rel => exact ⟨k + 1, by omega, by go_num, rfl⟩
      case measure => simp [intOf]; omega
    · have hd1 : decide ((k : Int) + 1 < m) = false := by simp; omega
      obtain rfl : k + 1 = m := by omega
      go_wp2
      go_ret
      exact ⟨ret_int rfl, rfl⟩
end Go.Proofs.YtabdbgnkiebcdaaDoor

namespace Go.Proofs.YtabdbgnkiebcdaaDoor
set_option linter.unusedVariables false
open Go.RowKit

set_option maxHeartbeats 800000 in
theorem hasRound_any (n m d : Nat) (F : Nat → Int) (b : Option Addr) (X : Nat → Int) (w : World) (h : Kept n F) (hm : m ≤ 1048576) (hb : Rd w b m X) :
    Calls Tryd.prog 117 #[.agg (cellsV 25 F), .slice b m d] w fun e w' => e = .returned (.bool (tt (IsRing n m X))) ∧ Below w.heap.size w w' := by
  have H := Lib.hid h
  have HB := Lib.hid hb
  clear h hb
  by_cases hw : IsWay n m X
  · have T := Lib.hid (tt_of hw)
    have hm2 := hw.2.1
    have E := Lib.hid (show (X 0 == minF X (m - 1)) = tt (IsRing n m X) from tt_eq (by rw [beq_iff_eq]; exact ring_iff hw))
    obtain ⟨bb, ob, rfl, hlt, hc0⟩ := HB.out.lt (show 0 < m by omega)
    rw [Nat.add_zero] at hc0
    have HC := Lib.hid hc0
    have hi1 : 0 < m := by omega
    clear hw hlt hc0
    go_enter Tryd.func117, Tryd.ntmps117
    go_wp2_with ((with_reducible refine arr_box 25 _ _ F ?_ ?_); exact rfl; intro w1 hA1 hs1 hb1)
    have A1 := Lib.hid hA1
    have B1 := Lib.hid hb1
    have hcr : ∀ r : Later w1, r.W.cell? ⟨bb, ob, none⟩ = some (.int .i64 (X 0)) := fun r => later_cell ((hb1.cell (p := ⟨bb, ob, none⟩) (World.block_lt_of_cell? _ _ HC.out)).trans HC.out) r
    clear hA1 hs1 hb1
    refine wp_region_later (by kernel_rfl) (by kernel_rfl) ?_
    repeat (first
      | ((with_reducible refine quiet_load_arr 25 _ _ _ 52 _ w.heap.size F ?_ ?_ Tryd.underlying52 Tryd.sizeRates ?_); exact rfl; (rintro _ ⟨r, rfl⟩; exact later_arr A1.out r))
      | quiet_step ((first
          | (go_at_call 144; exact calls_later _ ((hasWay_any n m d F _ X _ H.out hm ((HB.out.below (Nat.le_refl _) B1.out).below (Nat.le_refl _) (Later.h _))).mono fun e w' ⟨he, hb⟩ => ⟨he.trans (by rw [T.out]), hb⟩))
          | (go_at_call 145; exact calls_later _ ((min_any m d _ X _ (by omega) hm ((HB.out.below (Nat.le_refl _) B1.out).below (Nat.le_refl _) (Later.h _))).mono fun e w' ⟨he, hw⟩ => ⟨he, hw ▸ Below.refl _ _⟩)))))
    clear hcr
    refine wpQuiet_nil ?_
    rintro _ ⟨r, rfl⟩
    go_wp2
    go_ret
    exact ⟨by rw [← E.out]; rfl, B1.out.trans (r.h.mono B1.out.size)⟩
  · have T := Lib.hid (tt_no hw)
    have E := Lib.hid (tt_no (show ¬ IsRing n m X from fun h => hw h.1))
    clear hw
    go_enter Tryd.func117, Tryd.ntmps117
    go_wp2_with ((with_reducible refine arr_box 25 _ _ F ?_ ?_); exact rfl; intro w1 hA1 hs1 hb1)
    have A1 := Lib.hid hA1
    have B1 := Lib.hid hb1
    clear hA1 hs1 hb1
    refine wp_region_later (by kernel_rfl) (by kernel_rfl) ?_
    repeat (first
      | ((with_reducible refine quiet_load_arr 25 _ _ _ 52 _ w.heap.size F ?_ ?_ Tryd.underlying52 Tryd.sizeRates ?_); exact rfl; (rintro _ ⟨r, rfl⟩; exact later_arr A1.out r))
      | quiet_step ((go_at_call 144; exact calls_later _ ((hasWay_any n m d F _ X _ H.out hm ((HB.out.below (Nat.le_refl _) B1.out).below (Nat.le_refl _) (Later.h _))).mono fun e w' ⟨he, hb⟩ => ⟨he.trans (by rw [T.out]), hb⟩))))
    refine wpQuiet_nil ?_
    rintro _ ⟨r, rfl⟩
    go_wp2
    go_ret
    exact ⟨by rw [E.out]; rfl, B1.out.trans (r.h.mono B1.out.size)⟩
end Go.Proofs.YtabdbgnkiebcdaaDoor

namespace Go.Proofs.YtabdbgnkiebcdaaDoor
set_option linter.unusedVariables false
open Go.RowKit

/-- The results of a function that hands back a struct in a block of its own and a plain value. -/
theorem results_box_tmp {P : Program} {fn : Func} {p q : Tmp} {ty : TypeId} (h : fn.results = #[.cell p ty, .tmp q]) (tmps : Array Value) (w : World) (g : Nat) (t : TypeId) (cs : Array Value) (fr : Nat × Nat) (d : TypeDesc)
    (hp : tmps.getD p undef = .pointer (some ⟨g, 0, none⟩)) (hg : w.heap[g]? = some (.cells cs t fr)) (hu : P.underlying ty = some d) (hd : (match d with | .struct _ | .array _ _ => true | _ => false) = true) (hi : (P.info? ty).map (·.size) = some cs.size) :
    (results fn tmps).run P w = .ok (.tuple #[.agg cs, tmps.getD q undef]) w := by
  have hp' : tmps[p]?.getD undef = .pointer (some ⟨g, 0, none⟩) := by simpa using hp
  simp [results, h, hp', asAddr, run_loadVar_row w g t ty cs fr d hg hu hd hi]

theorem heap_two (w : World) (A B : Obj) : ((w.alloc A).alloc B).heap[w.heap.size]? = some A := by
  rw [Below.heap_alloc _ _ _ (by simp)]
  exact heap_alloc_last w A

/-- Block g is a struct of one word v, of type t. -/
def BoxAt (w : World) (g t : Nat) (v : Value) : Prop := w.heap[g]? = some (.cells #[v] t (0, 0))

namespace BoxAt
variable {w w' : World} {g t : Nat} {v u : Value}
theorem cell (h : BoxAt w g t v) : w.cell? ⟨g, 0, none⟩ = some v := cell_of_row w g 0 #[v] t (0, 0) h
theorem frozen (h : BoxAt w g t v) (j : Nat) : w.frozen? ⟨g, j, none⟩ = false := frozen_of_row w g j _ t h
theorem lt (h : BoxAt w g t v) : g < w.heap.size := (Array.getElem?_eq_some_iff.1 h).1
theorem of_block (h : BoxAt w g t v) (e : w'.heap[g]? = w.heap[g]?) : BoxAt w' g t v := e.trans h
theorem below {B : Nat} (h : BoxAt w g t v) (hB : g < B) (hb : Below B w w') : BoxAt w' g t v := h.of_block (hb.block g hB)
theorem new (w : World) (t : Nat) (v : Value) : BoxAt (w.alloc (.cells #[v] t)) w.heap.size t v := heap_alloc_last w _
end BoxAt

section
variable {P : Program} {ops : Array Oper} {rest : List Oper} {a : Act} {w : World} {Q : Exit → Act → World → Prop} {d : Option Nat} {ot : TypeId} {pos : String} {aft : Array Edge}

/-- 'var x S', a struct of one word: a new block. -/
theorem box_alloc (ty : Nat) (v : Value) (hz : (zeroValue ty).run P w = .ok (.agg #[v]) w)
    (h : ∀ w1, BoxAt w1 w.heap.size ty v → w1.heap.size = w.heap.size + 1 → Below w.heap.size w w1 → wpList P ops Q rest (a.put d (.pointer (some ⟨w.heap.size, 0, none⟩))) w1) :
    wpList P ops Q (⟨d, Op.alloc ty, ot, pos, aft, none⟩ :: rest) a w := by
  refine wpList_plain rfl fun K hK' => ?_
  have := h (w.alloc (.cells #[v] ty)) (BoxAt.new w ty _) (by simp) ((Below.refl _ _).alloc (Nat.le_refl _) _)
  unfold Oper.wp execOp
  simp [Instr.alloc, hz, newVar, newRow, newObj, Value.cells]
  exact hK' _ _ this

/-- A parameter that is a struct of one word: a new block. -/
theorem box_box (ty : Nat) (x : Operand) (v : Value) (hx : a.eval x = .agg #[v])
    (h : ∀ w1, BoxAt w1 w.heap.size ty v → w1.heap.size = w.heap.size + 1 → Below w.heap.size w w1 → wpList P ops Q rest (a.put d (.pointer (some ⟨w.heap.size, 0, none⟩))) w1) :
    wpList P ops Q (⟨d, Op.box ty x, ot, pos, aft, none⟩ :: rest) a w := by
  refine wpList_plain rfl fun K hK' => ?_
  have := h (w.alloc (.cells #[v] ty)) (BoxAt.new w ty _) (by simp) ((Below.refl _ _).alloc (Nat.le_refl _) _)
  unfold Oper.wp execOp
  simp [Instr.box, hx, newVar, newRow, newObj, Value.cells]
  exact hK' _ _ this

/-- A whole struct is loaded. -/
theorem box_load (ty t : Nat) (x : Operand) (g : Nat) (v : Value) (dd : TypeDesc) (hx : a.eval x = .pointer (some ⟨g, 0, none⟩)) (hg : BoxAt w g t v) (hu : P.underlying ty = some dd) (hd : (match dd with | .struct _ | .array _ _ => true | _ => false) = true) (hi : (P.info? ty).map (·.size) = some 1)
    (h : wpList P ops Q rest (a.put d (.agg #[v])) w) : wpList P ops Q (⟨d, Op.load ty x, ot, pos, aft, none⟩ :: rest) a w :=
  wpList_load_row rfl ty x rfl g hx t #[v] (0, 0) _ hg hu hd hi h

/-- .. behind a guard that let it. -/
theorem box_load_g (ty t : Nat) (x : Operand) (gd : Nat × Bool) (g : Nat) (v : Value) (dd : TypeDesc) (hw : Region.wanted (⟨d, Op.load ty x, ot, pos, aft, some gd⟩ : Oper) (yielded ops a.tmps) = true) (hx : a.eval x = .pointer (some ⟨g, 0, none⟩)) (hg : BoxAt w g t v) (hu : P.underlying ty = some dd) (hd : (match dd with | .struct _ | .array _ _ => true | _ => false) = true) (hi : (P.info? ty).map (·.size) = some 1)
    (h : wpList P ops Q rest (a.put d (.agg #[v])) w) : wpList P ops Q (⟨d, Op.load ty x, ot, pos, aft, some gd⟩ :: rest) a w :=
  wpList_step fun K hK => by
    rw [if_pos hw]
    exact wp_load_row ty x rfl g hx t #[v] (0, 0) _ hg hu hd hi (hK _ _ h)

/-- A whole struct is stored. -/
theorem box_store (ty t : Nat) (x y : Operand) (g : Nat) (v u : Value) (hx : a.eval x = .pointer (some ⟨g, 0, none⟩)) (hy : a.eval y = .agg #[u]) (hg : BoxAt w g t v) (hi : (P.info? ty).map (·.size) = some 1) (hu : u.oneCell' = true)
    (h : ∀ w1, BoxAt w1 g t u → w1.heap.size = w.heap.size → (∀ k, k ≠ g → w1.heap[k]? = w.heap[k]?) → Below g w w1 → wpList P ops Q rest (a.put d undef) w1) : wpList P ops Q (⟨d, Op.store ty x y, ot, pos, aft, none⟩ :: rest) a w := by
  refine wpList_plain rfl fun K hK' => ?_
  refine wp_store_row ty x y rfl g #[u] hx hy t #[v] hg hi rfl (by simp [hu]) (hK' _ _ ?_)
  exact h _ (setRow_heap w g #[v] #[u] t (0, 0) hg) (by simp) (fun k hk => setRow_other w g k _ hk) (below_setRow w _ (Nat.le_refl _))
end

section
variable {P : Program} {ops : Array Oper} {a : Act} {w : World} {K : Act → World → Prop} {Q : Exit → Act → World → Prop} {E : Prop} {d : Option Nat} {ot : TypeId} {pos : String} {aft : Array Edge}
theorem step_arr_load (n ty m e t : Nat) (x : Operand) (g : Nat) (F : Nat → Int) (hx : a.eval x = .pointer (some ⟨g, 0, none⟩)) (hg : ArrAt w g t n F) (hu : P.underlying ty = some (.array m e)) (hi : (P.info? ty).map (·.size) = some n)
    (h : K (a.put d (.agg (cellsV n F))) w) : if Region.wanted (⟨d, Op.load ty x, ot, pos, aft, none⟩ : Oper) (yielded ops a.tmps) = true then Oper.wp P (⟨d, Op.load ty x, ot, pos, aft, none⟩ : Oper) a w K Q else E := by
  rw [if_pos (by simp [Region.wanted])]
  exact wp_load_row ty x rfl g hx t (cellsV n F) (0, 0) _ hg hu rfl (by rw [cellsV_size]; exact hi) h
theorem step_arr_store (n ty t : Nat) (x y : Operand) (g : Nat) (F G : Nat → Int) (hx : a.eval x = .pointer (some ⟨g, 0, none⟩)) (hy : a.eval y = .agg (cellsV n G)) (hg : ArrAt w g t n F) (hi : (P.info? ty).map (·.size) = some n)
    (h : ∀ w1, ArrAt w1 g t n G → w1.heap.size = w.heap.size → (∀ k, k ≠ g → w1.heap[k]? = w.heap[k]?) → Below g w w1 → K (a.put d undef) w1) : if Region.wanted (⟨d, Op.store ty x y, ot, pos, aft, none⟩ : Oper) (yielded ops a.tmps) = true then Oper.wp P (⟨d, Op.store ty x y, ot, pos, aft, none⟩ : Oper) a w K Q else E := by
  rw [if_pos (by simp [Region.wanted])]
  refine wp_store_row ty x y rfl g (cellsV n G) hx hy t (cellsV n F) hg (by rw [cellsV_size]; exact hi) (by rw [cellsV_size, cellsV_size]) (cellsV_one n G) ?_
  exact h _ (setRow_heap w g (cellsV n F) (cellsV n G) t (0, 0) hg) (by simp) (fun k hk => setRow_other w g k _ hk) (below_setRow w _ (Nat.le_refl _))
theorem step_box_load (ty t : Nat) (x : Operand) (g : Nat) (v : Value) (dd : TypeDesc) (hx : a.eval x = .pointer (some ⟨g, 0, none⟩)) (hg : BoxAt w g t v) (hu : P.underlying ty = some dd) (hd : (match dd with | .struct _ | .array _ _ => true | _ => false) = true) (hi : (P.info? ty).map (·.size) = some 1)
    (h : K (a.put d (.agg #[v])) w) : if Region.wanted (⟨d, Op.load ty x, ot, pos, aft, none⟩ : Oper) (yielded ops a.tmps) = true then Oper.wp P (⟨d, Op.load ty x, ot, pos, aft, none⟩ : Oper) a w K Q else E := by
  rw [if_pos (by simp [Region.wanted])]
  exact wp_load_row ty x rfl g hx t #[v] (0, 0) _ hg hu hd hi h
theorem step_box_store (ty t : Nat) (x y : Operand) (g : Nat) (v u : Value) (hx : a.eval x = .pointer (some ⟨g, 0, none⟩)) (hy : a.eval y = .agg #[u]) (hg : BoxAt w g t v) (hi : (P.info? ty).map (·.size) = some 1) (hu : u.oneCell' = true)
    (h : ∀ w1, BoxAt w1 g t u → w1.heap.size = w.heap.size → (∀ k, k ≠ g → w1.heap[k]? = w.heap[k]?) → Below g w w1 → K (a.put d undef) w1) : if Region.wanted (⟨d, Op.store ty x y, ot, pos, aft, none⟩ : Oper) (yielded ops a.tmps) = true then Oper.wp P (⟨d, Op.store ty x y, ot, pos, aft, none⟩ : Oper) a w K Q else E := by
  rw [if_pos (by simp [Region.wanted])]
  refine wp_store_row ty x y rfl g #[u] hx hy t #[v] hg hi rfl (by simp [hu]) ?_
  exact h _ (setRow_heap w g #[v] #[u] t (0, 0) hg) (by simp) (fun k hk => setRow_other w g k _ hk) (below_setRow w _ (Nat.le_refl _))
end

/-- The results of a function that hands back an array, a struct of one word and a plain value. -/
theorem results_arr_box_tmp {P : Program} {fn : Func} {p q r : Tmp} {ty ty' : TypeId} (h : fn.results = #[.cell p ty, .cell q ty', .tmp r]) (tmps : Array Value) (w : World) (g t n m e : Nat) (F : Nat → Int) (g' t' : Nat) (v : Value) (dd : TypeDesc)
    (hp : tmps.getD p undef = .pointer (some ⟨g, 0, none⟩)) (hg : ArrAt w g t n F) (hu : P.underlying ty = some (.array m e)) (hi : (P.info? ty).map (·.size) = some n)
    (hq : tmps.getD q undef = .pointer (some ⟨g', 0, none⟩)) (hg' : BoxAt w g' t' v) (hu' : P.underlying ty' = some dd) (hd : (match dd with | .struct _ | .array _ _ => true | _ => false) = true) (hi' : (P.info? ty').map (·.size) = some 1) :
    (results fn tmps).run P w = .ok (.tuple #[.agg (cellsV n F), .agg #[v], tmps.getD r undef]) w := by
  have hp' : tmps[p]?.getD undef = .pointer (some ⟨g, 0, none⟩) := by simpa using hp
  have hq' : tmps[q]?.getD undef = .pointer (some ⟨g', 0, none⟩) := by simpa using hq
  simp [results, h, hp', hq', asAddr, run_loadVar_row w g t ty (cellsV n F) (0, 0) _ hg hu rfl (by rw [cellsV_size]; exact hi), run_loadVar_row w g' t' ty' #[v] (0, 0) _ hg' hu' hd hi']
end Go.Proofs.YtabdbgnkiebcdaaDoor

namespace Go.Proofs.YtabdbgnkiebcdaaDoor
set_option linter.unusedVariables false
open Go.RowKit

def AllR (m : Nat) (X : Nat → Int) (lo hi : Int) : Prop := ∀ k, k < m → InR (X k) lo hi

set_option maxHeartbeats 800000 in
theorem within_any (m c : Nat) (a : Option Addr) (X : Nat → Int) (lo hi : Int) (w : World) (hm : m ≤ 1048576) (ha : Rd w a m X) :
    Calls Tryd.prog 148 #[.slice a m c, .int .i64 lo, .int .i64 hi] w fun e w' => e = .returned (.bool (tt (AllR m X lo hi))) ∧ w = w' := by
  go_enter Tryd.func148, Tryd.ntmps148
  go_wp2
  go_loop [6, 8, 11] (fun r _ i => ∃ k : Nat, k ≤ m ∧ i = .int .i64 k ∧ r = .bool false ∧ AllR k X lo hi) (fun _ _ i => m - (intOf i).toNat)
  case atStart => exact ⟨0, Nat.zero_le _, rfl, rfl, fun j hj => absurd hj (Nat.not_lt_zero _)⟩
  case round =>
    obtain ⟨k, hk, rfl, rfl, hall⟩ := hrel
    have H1 := Lib.hid hall
    clear hall
    by_cases hlt : k < m
    · obtain ⟨ba, oa, rfl, hca⟩ := ha k hlt
      clear ha
      by_cases h0 : X k < lo
      · have hno := Lib.hid (show ¬ AllR m X lo hi from fun h => by have := (h k hlt).1; omega)
        have hd : decide (X k < lo) = true := by simpa using h0
        go_wp2
        go_ret
        exact ⟨by rw [tt_no hno.out]; rfl, rfl⟩
      · by_cases h1 : hi < X k
        · have hno := Lib.hid (show ¬ AllR m X lo hi from fun h => by have := (h k hlt).2; omega)
          have hd : decide (hi < X k) = true := by simpa using h1
          go_wp2
          go_ret
          exact ⟨by rw [tt_no hno.out]; rfl, rfl⟩
        · have HI := Lib.hid (show InR (X k) lo hi from ⟨by omega, by omega⟩)
          go_wp2
          go_round
          case rel =>
            exact ⟨k + 1, by omega, by go_num, rfl, fun j hj => by
              by_cases e : j = k
              · subst e; exact HI.out
              · exact H1.out j (by omega)⟩
          case measure => simp [intOf]; omega
    · obtain rfl : k = m := by omega
      clear ha
      go_wp2
      go_ret
      exact ⟨by rw [tt_of H1.out]; rfl, rfl⟩
end Go.Proofs.YtabdbgnkiebcdaaDoor

namespace Go.Proofs.YtabdbgnkiebcdaaDoor
set_option linter.unusedVariables false
open Go.RowKit

theorem Tryd.sizePrices : (Tryd.prog.info? 123).map (·.size) = some 1 := by kernel_rfl
theorem allR_prices {m : Nat} {X : Nat → Int} (h2 : 2 ≤ m) (h5 : m ≤ 5) : IsPrices m X ↔ AllR m X 1 1000000000 :=
  ⟨fun h k hk => h.2 k hk, fun h => ⟨⟨h2, h5⟩, fun k hk => h k hk⟩⟩

set_option maxHeartbeats 800000 in
theorem readPrices_yes (m c : Nat) (a : Option Addr) (X : Nat → Int) (w : World) (ha : Rd w a m X) (h : IsPrices m X) :
    Calls Tryd.prog 124 #[.slice a m c] w fun e w' => e = .returned (.tuple #[.agg #[.slice a m c], .bool true]) ∧ Below w.heap.size w w' := by
  have h2 := h.1.1
  have h5 := h.1.2
  have T1 := Lib.hid (tt_of ((allR_prices h2 h5).1 h))
  have HA := Lib.hid ha
  clear ha h
  go_enter Tryd.func124, Tryd.ntmps124
  go_wp2_with (go_at_call 148; refine (within_any m c a X _ _ _ (by omega) (HA.out.below (Nat.le_refl _) (below_alloc (below_alloc (Below.refl _ _) _) _))).mono ?_; rintro e w1 ⟨rfl, rfl⟩; rw [T1.out])
  refine bodyPost_ret (v := .tuple #[.agg #[.slice a m c], .bool true]) ?_ rfl ⟨rfl, below_alloc (below_alloc (Below.refl _ _) _) _⟩
  rw [results_box_tmp Tryd.results124 _ _ w.heap.size 123 #[.slice a m c] (0, 0) _ rfl (heap_two w _ _) Tryd.underlying123 rfl Tryd.sizePrices]
  rfl

set_option maxHeartbeats 800000 in
theorem readPrices_no (m c : Nat) (a : Option Addr) (X : Nat → Int) (w : World) (hm : m ≤ 1048576) (ha : Rd w a m X) (h : ¬ IsPrices m X) :
    Calls Tryd.prog 124 #[.slice a m c] w fun e w' => e = .returned (.tuple #[.agg #[.slice none 0 0], .bool false]) ∧ Below w.heap.size w w' := by
  have HA := Lib.hid ha
  clear ha
  by_cases h2 : m < 2
  · clear h
    have hd : decide ((m : Int) < 2) = true := by simp; omega
    go_enter Tryd.func124, Tryd.ntmps124
    go_wp2_with fail
    refine bodyPost_ret (v := .tuple #[.agg #[.slice none 0 0], .bool false]) ?_ rfl ⟨rfl, below_alloc (below_alloc (Below.refl _ _) _) _⟩
    rw [results_box_tmp Tryd.results124 _ _ w.heap.size 123 #[.slice none 0 0] (0, 0) _ rfl (heap_two w _ _) Tryd.underlying123 rfl Tryd.sizePrices]
    rfl
  · by_cases h5 : 5 < m
    · clear h
      have hd : decide ((m : Int) < 2) = false := by simp; omega
      have hd2 : decide (5 < (m : Int)) = true := by simp; omega
      go_enter Tryd.func124, Tryd.ntmps124
      go_wp2_with fail
      refine bodyPost_ret (v := .tuple #[.agg #[.slice none 0 0], .bool false]) ?_ rfl ⟨rfl, below_alloc (below_alloc (Below.refl _ _) _) _⟩
      rw [results_box_tmp Tryd.results124 _ _ w.heap.size 123 #[.slice none 0 0] (0, 0) _ rfl (heap_two w _ _) Tryd.underlying123 rfl Tryd.sizePrices]
      rfl
    · have T1 := Lib.hid (tt_no (fun h' => h ((allR_prices (by omega) (by omega)).2 h')))
      have h2' : 2 ≤ m := by omega
      have h5' : m ≤ 5 := by omega
      clear h2 h5
      clear h
      go_enter Tryd.func124, Tryd.ntmps124
      go_wp2_with (go_at_call 148; refine (within_any m c a X _ _ _ (by omega) (HA.out.below (Nat.le_refl _) (below_alloc (below_alloc (Below.refl _ _) _) _))).mono ?_; rintro e w1 ⟨rfl, rfl⟩; rw [T1.out])
      refine bodyPost_ret (v := .tuple #[.agg #[.slice none 0 0], .bool false]) ?_ rfl ⟨rfl, below_alloc (below_alloc (Below.refl _ _) _) _⟩
      rw [results_box_tmp Tryd.results124 _ _ w.heap.size 123 #[.slice none 0 0] (0, 0) _ rfl (heap_two w _ _) Tryd.underlying123 rfl Tryd.sizePrices]
      rfl

end Go.Proofs.YtabdbgnkiebcdaaDoor

namespace Go.Proofs.YtabdbgnkiebcdaaDoor
set_option linter.unusedVariables false
open Go.RowKit

/-- In an array F kept for n moneys the prices W hold. -/
def HoldsF (n : Nat) (F : Nat → Int) (W : Nat → Int) : Prop := ∀ i, i < n → ∀ k, k < n → atF F i k * W k ≤ 12 * W i

theorem cell_one {w : World} {v : Value} {t : Nat} {w1 : World} (hb : Below (w.alloc (.cells #[v] t)).heap.size (w.alloc (.cells #[v] t)) w1) : w1.cell? ⟨w.heap.size, 0, none⟩ = some v :=
  (hb.cell (p := ⟨w.heap.size, 0, none⟩) (by simp)).trans (cell_of_row _ _ _ #[v] t (0, 0) (heap_alloc_last w _))

theorem prodF_le {n : Nat} {F W : Nat → Int} (hp : IsPrices n W) (hk : Kept n F) {i j : Nat} (hi : i < n) (hj : j < n) : 0 ≤ atF F i j * W j ∧ atF F i j * W j ≤ 144000000000 := by
  obtain ⟨h1, h2⟩ := hk.rate i j hi hj
  obtain ⟨h3, h4⟩ := hp.2 j hj
  have h5 : atF F i j * W j ≤ 144 * 1000000000 := Int.mul_le_mul h2 h4 (by omega) (by omega)
  exact ⟨Int.mul_nonneg (by omega) (by omega), by omega⟩

set_option maxHeartbeats 1600000 in
theorem hold_any (n d : Nat) (b : Option Addr) (W F : Nat → Int) (w : World) (hp : IsPrices n W) (hk : Kept n F) (hb : Rd w b n W) :
    Calls Tryd.prog 125 #[.agg #[.slice b n d], .agg (cellsV 25 F)] w fun e w' => e = .returned (.bool (tt (HoldsF n F W))) ∧ Below w.heap.size w w' := by
  have HP := Lib.hid hp
  have HK := Lib.hid hk
  have HB := Lib.hid hb
  have h5 := hp.1.2
  clear hp hk hb
  go_enter Tryd.func125, Tryd.ntmps125
  go_wp2_with ((with_reducible refine arr_box 25 _ _ F ?_ ?_); exact rfl; intro w1 hA1 hs1 hb1; have hc1 := cell_one hb1; have HA := Lib.hid hA1; have Hb := Lib.hid hb1; clear hA1 hs1 hb1)
  have A1 := Lib.hid (show ArrAt w1 (w.heap.size + 1) 52 25 F by have := HA.out; rwa [show (w.alloc (Obj.cells #[Value.slice b n d] 123)).heap.size = w.heap.size + 1 from by simp] at this)
  have B1 := Lib.hid ((below_alloc (Below.refl w.heap.size w) _).trans (Hb.out.mono (by simp)))
  clear HA Hb
  go_loop [4, 5, 6, 7, 8, 12] (fun r _ _ _ _ s => ∃ i : Nat, i ≤ n ∧ s = .int .i64 i ∧ r = .bool false ∧ ∀ i', i' < i → ∀ k, k < n → atF F i' k * W k ≤ 12 * W i') (fun _ _ _ _ _ s => n - (intOf s).toNat)
  case atStart => exact ⟨0, Nat.zero_le _, rfl, rfl, fun j hj => absurd hj (Nat.not_lt_zero _)⟩
  case round =>
    obtain ⟨i, hi, rfl, rfl, hall⟩ := hrel
    have G1 := Lib.hid hall
    clear hall
    by_cases hlt : i < n
    · obtain ⟨bb, ob, rfl, hcb⟩ := (HB.out.below (Nat.le_refl _) B1.out) i hlt
      have hw := HP.out.2 i hlt
      have hw1 := hw.1
      have hw2 := hw.2
      clear hw
      go_wp2
      go_loop [4, 7, 8, 20] (fun r _ _ s => ∃ j : Nat, j ≤ n ∧ s = .int .i64 j ∧ r = .bool false ∧ ∀ k, k < j → atF F i k * W k ≤ 12 * W i) (fun _ _ _ s => n - (intOf s).toNat)
      case atStart => exact ⟨0, Nat.zero_le _, rfl, rfl, fun j hj => absurd hj (Nat.not_lt_zero _)⟩
      case round =>
        obtain ⟨j, hj, rfl, rfl, hall⟩ := hrel
        have G2 := Lib.hid hall
        clear hall
        by_cases hjlt : j < n
        · have hcb2 : w1.cell? ⟨bb, ob + j, none⟩ = some (.int .i64 (W j)) := by
            obtain ⟨b', o', he, hc'⟩ := (HB.out.below (Nat.le_refl _) B1.out) j hjlt
            cases he; exact hc'
          have hcF : w1.cell? ⟨w.heap.size + 1, i * 5 + j, none⟩ = some (.int .i64 (atF F i j)) := A1.out.cell (j := i * 5 + j) (by omega)
          have hp := prodF_le HP.out HK.out hlt hjlt
          have hp1 := hp.1
          have hp2 := hp.2
          have hi5 : i < 5 := by omega
          have hj5 : j < 5 := by omega
          clear hp
          by_cases hq : atF F i j * W j ≤ 12 * W i
          · have hd : decide (12 * W i < atF F i j * W j) = false := by simpa using hq
            have HQ := Lib.hid hq
            clear hq
            go_wp2
            go_round
            case rel =>
              exact ⟨j + 1, by omega, by go_num, rfl, fun k hk => by
                by_cases e : k = j
                · subst e; exact HQ.out
                · exact G2.out k (by omega)⟩
            case measure => simp [intOf]; omega
          · have hd : decide (12 * W i < atF F i j * W j) = true := by simpa using hq
            have hno := Lib.hid (tt_no (show ¬ HoldsF n F W from fun h => hq (h i hlt j hjlt)))
            clear hq
            go_wp2
            go_ret
            exact ⟨by rw [hno.out]; rfl, B1.out⟩
        · obtain rfl : j = n := by omega
          go_wp2
          go_round
          case rel =>
            exact ⟨i + 1, by omega, by go_num, rfl, fun i' hi' => by
              by_cases e : i' = i
              · subst e; exact G2.out
              · exact G1.out i' (by omega)⟩
          case measure => simp [intOf]; omega
    · obtain rfl : i = n := by omega
      have hyes := Lib.hid (tt_of (show HoldsF i F W from G1.out))
      go_wp2
      go_ret
      exact ⟨by rw [hyes.out]; rfl, B1.out⟩
end Go.Proofs.YtabdbgnkiebcdaaDoor

namespace Go.Proofs.YtabdbgnkiebcdaaDoor
set_option linter.unusedVariables false
set_option linter.unusedSimpArgs false
open Go.RowKit

/-- Where x first stands among the first n; -1 if nowhere. -/
noncomputable def idxF (X : Nat → Int) (x : Int) : Nat → Int
  | 0 => -1
  | k + 1 => if idxF X x k = -1 then (if X k = x then (k : Int) else -1) else idxF X x k
theorem idxF_none {X : Nat → Int} {x : Int} {n : Nat} (h : ∀ k, k < n → X k ≠ x) : idxF X x n = -1 := by
  induction n with
  | zero => rfl
  | succ n ih =>
    unfold idxF
    rw [if_pos (ih fun k hk => h k (by omega)), if_neg (h n (by omega))]
theorem idxF_some {X : Nat → Int} {x : Int} {n k : Nat} (h : ∀ j, j < k → X j ≠ x) (hk : X k = x) (hn : k < n) : idxF X x n = k := by
  induction n with
  | zero => omega
  | succ n ih =>
    unfold idxF
    by_cases e : k = n
    · subst e
      rw [if_pos (idxF_none h), if_pos hk]
    · rw [ih (by omega), if_neg (by omega)]
/-- Does x stand among the first n? -/
def HasI (n : Nat) (X : Nat → Int) (x : Int) : Prop := ∃ k, k < n ∧ X k = x
theorem idxF_has {X : Nat → Int} {x : Int} {n : Nat} : HasI n X x ↔ 0 ≤ idxF X x n := by
  induction n with
  | zero => constructor
            · rintro ⟨k, h, _⟩; omega
            · intro h; simp [idxF] at h
  | succ n ih =>
    unfold idxF
    constructor
    · rintro ⟨k, hk, e⟩
      by_cases h1 : HasI n X x
      · have := ih.1 h1
        rw [if_neg (by omega)]; exact this
      · have hkn : k = n := by
          by_cases h2 : k < n
          · exact absurd ⟨k, h2, e⟩ h1
          · omega
        subst hkn
        rw [if_pos (idxF_none fun j hj e' => h1 ⟨j, hj, e'⟩), if_pos e]; omega
    · intro h
      by_cases h1 : idxF X x n = -1
      · rw [if_pos h1] at h
        by_cases h2 : X n = x
        · exact ⟨n, by omega, h2⟩
        · rw [if_neg h2] at h; omega
      · rw [if_neg h1] at h
        obtain ⟨k, hk, e⟩ := ih.2 h
        exact ⟨k, by omega, e⟩
end Go.Proofs.YtabdbgnkiebcdaaDoor

namespace Go.Proofs.YtabdbgnkiebcdaaDoor
set_option linter.unusedVariables false
set_option linter.unusedSimpArgs false
open Go.RowKit

set_option maxHeartbeats 400000 in
theorem index_any (n c : Nat) (a : Option Addr) (X : Nat → Int) (x : Int) (w : World) (hn : n ≤ 1048576) (ha : Rd w a n X) :
    Calls Tryd.prog 174 #[.slice a n c, .int .i64 x] w fun e w' => e = .returned (.int .i64 (idxF X x n)) ∧ w = w' := by
  go_enter Tryd.func174, Tryd.ntmps174
  go_wp2
  go_loop [4, 5, 8] (fun _ _ i => ∃ k : Nat, k ≤ n ∧ i = .int .i64 k ∧ ∀ j, j < k → X j ≠ x) (fun _ _ i => n - (intOf i).toNat)
  case atStart => exact ⟨0, Nat.zero_le _, rfl, fun j hj => absurd hj (Nat.not_lt_zero _)⟩
  case round =>
    obtain ⟨k, hk, rfl, hno⟩ := hrel
    have HN := Lib.hid hno
    clear hno
    by_cases hlt : k < n
    · obtain ⟨ba, oa, rfl, hca⟩ := ha k hlt
      clear ha
      by_cases hx : X k = x
      · have hd : decide (x = X k) = true := by simpa using hx.symm
        have hd2 : (x == X k) = true := by simpa using hx.symm
        have HX := Lib.hid (idxF_some HN.out hx hlt)
        clear hx
        go_wp2
        go_ret
        exact ⟨by rw [HX.out]; rfl, rfl⟩
      · have hd : decide (x = X k) = false := by simpa using fun e : x = X k => hx e.symm
        have hd2 : (x == X k) = false := by simpa using fun e : x = X k => hx e.symm
        have HX := Lib.hid hx
        clear hx
        go_wp2
        go_round
        case rel => exact ⟨k + 1, by omega, by go_num, fun j hj => by
          by_cases e : j = k
          · subst e; exact HX.out
          · exact HN.out j (by omega)⟩
        case measure => simp [intOf]; omega
    · obtain rfl : k = n := by omega
      clear ha
      have HX := Lib.hid (idxF_none HN.out)
      go_wp2
      go_ret
      exact ⟨by rw [HX.out]; rfl, rfl⟩

end Go.Proofs.YtabdbgnkiebcdaaDoor

namespace Go.Proofs.YtabdbgnkiebcdaaDoor
set_option linter.unusedVariables false
open Go.RowKit

set_option maxHeartbeats 400000 in
theorem contains_any (n c : Nat) (a : Option Addr) (X : Nat → Int) (x : Int) (w : World) (hn : n ≤ 1048576) (ha : Rd w a n X) :
    Calls Tryd.prog 154 #[.slice a n c, .int .i64 x] w fun e w' => e = .returned (.bool (tt (HasI n X x))) ∧ w = w' := by
  have H1 := Lib.hid (index_any n c a X x w hn ha)
  obtain ⟨r, hr⟩ : ∃ r, r = idxF X x n := ⟨_, rfl⟩
  have hd : decide (0 ≤ r) = tt (HasI n X x) := by
    rw [hr]
    by_cases h : HasI n X x
    · rw [tt_of h]; simpa using idxF_has.1 h
    · rw [tt_no h]
      have := fun h' => h (idxF_has.2 h')
      simpa using this
  have HD := Lib.hid hd
  have HR := Lib.hid hr
  clear hd ha hr
  go_enter Tryd.func154, Tryd.ntmps154
  go_wp2_with (go_at_call 174; refine H1.out.mono ?_; rintro e w' ⟨rfl, rfl⟩; rw [← HR.out])
  go_ret
  exact ⟨by rw [← HD.out]; rfl, rfl⟩
end Go.Proofs.YtabdbgnkiebcdaaDoor

namespace Go.Proofs.YtabdbgnkiebcdaaDoor
set_option linter.unusedVariables false

section
open Go.RowKit
attribute [local go_sem] Oper.semAt_some wide_fn wide_round_fn

theorem hasI_mem {B : List Int} {x : Int} : HasI B.length (nth B) x ↔ x ∈ B := mem_nth.symm
theorem cellsD_snoc (B : List Int) (x : Int) : cellsD B ++ [.int .i64 x] = cellsD (B ++ [x]) := by
  unfold cellsD
  rw [cellsL_snoc, List.length_append]
  exact cellsL_congr fun k hk => by
    have hk' : k < B.length + 1 := hk
    by_cases e : k < B.length
    · rw [if_pos e, nth_snoc_lt e]
    · have : k = B.length := by omega
      rw [if_neg e, this, nth_snoc]
theorem yieldAt_mono {m : Nat} {P : Program} {l : Nat} {args : Array Value} {W : World} {R R' : Ending → World → Prop} (h : YieldAt Fence.wide 9 P l args W R) (hr : ∀ e w, R e w → R' e w) : YieldAt Fence.wide m P l args W R' := by
  obtain ⟨fn, tmps, assign, body, hy, hR⟩ := h
  exact ⟨fn, tmps, assign, body, hy, roundIn_wide (hR.mono hr)⟩

/-- What longer hands back. -/
def RetLater (tI s g cap : Nat) (B : List Int) (V : Nat → Prop) (J Jx : (Nat → Prop) → List (List Int) → World → Prop) (pre LB : List (List Int)) (W : World) (e : Ending) (W' : World) : Prop :=
  Outside (fun k => V k ∨ k = g) W W' ∧ W'.ownsRow s tI 1 (.slice (some ⟨g, 0, none⟩) B.length cap) B.length (cellsD B) ∧ ∃ V', (∀ k, V' k → V k ∨ W.heap.size ≤ k) ∧
    (e = .returned (.bool true) ∧ J V' (pre ++ LB) W' ∨ e = .returned (.bool false) ∧ ∃ q, q <+: LB ∧ Jx V' (pre ++ q) W')

set_option maxRecDepth 100000 in
set_option maxHeartbeats 4000000 in
theorem longer_in6 (n least s l : Nat) (J Jx : (Nat → Prop) → List (List Int) → World → Prop) (LL : List (List Int)) (hn2 : 2 ≤ n) (hn : n ≤ 6) (hle : least ≤ n) (hJ : Caller J) (hJx : Caller Jx) (hY : Yields Tryd.prog 3 s l J Jx LL) (f : Nat) :
    ∀ (B : List Int) (g cap : Nat) (V : Nat → Prop) (pre : List (List Int)) (W : World), Diff n B → 1 ≤ B.length → B.length + f = n → J V pre W → ¬ V g → s ≤ W.heap.size →
      W.ownsRow s 3 1 (.slice (some ⟨g, 0, none⟩) B.length cap) B.length (cellsD B) → (pre ++ later n least f B) <+: LL →
      CallsIn Fence.wide 9 Tryd.prog 131 #[.int .i64 n, .int .i64 least, .slice (some ⟨g, 0, none⟩) B.length cap, .func (.yield l) #[] #[]] W (RetLater 3 s g cap B V J Jx pre (later n least f B) W) := by
  induction f using Nat.strongRecOn with
  | ind f ih =>
    intro B g cap V pre W hd hm1 hf hj hg hs hown hpre
    obtain ⟨i0, hi, hz0, hz1, hz2⟩ := info_parts Tryd.infoInt
    have hle5 := diff_le hd
    have IH := Lib.hid ih
    have HD := Lib.hid hd
    have HG := Lib.hid hg
    have HJ := Lib.hid hj
    have HO := Lib.hid hown
    have hgl := (owns_cap hown).2.2
    have hcap := (owns_cap hown).1
    have EQ := Lib.hid (later_eq (least := least) hd hf)
    rw [later_eq (least := least) hd hf] at hpre ⊢
    have HP := Lib.hid hpre
    have HY := Lib.hid hY
    clear ih hd hg hj hown hpre hY
    by_cases h2 : 2 ≤ B.length
    · have hq : decide (2 ≤ (B.length : Int)) = true := by simp; omega
      have H0 := Lib.hid (show laterTo n least (f - 1) B least = [B] by rw [laterTo_least, if_pos h2])
      refine callsIn_of_wp Tryd.func131 rfl trivial ?_ rfl
      simp only [Tryd.ntmps131, List.size_toArray, List.length_cons, List.length_nil, Nat.reduceAdd, Nat.reduceSub, Array.replicate_succ, Array.replicate_zero, List.push_toArray, List.append_toArray, List.nil_append, List.cons_append]
      gi_wp2_with (gi_at_call 153; refine (callsIn_wide.2 (clone_any B.length cap (some ⟨g, 0, none⟩) (nth B) _ (by omega) (by omega) (owns_rd HO.out))).mono ?_; rintro e W1 ⟨g3, cap3, rfl, hown3, hb3⟩; have B3 := Lib.hid hb3; have J3 := Lib.hid (hJ.steady _ _ _ _ HJ.out (Inside.of_below hb3 (hJ.lies _ _ _ HJ.out))); have O3 := Lib.hid (owns_base hown3 hs); have hg3 := (owns_cap hown3).2.1; have F3 := Lib.hid (show ¬ V g3 from fun h => by have h2 := hJ.lies _ _ _ HJ.out _ h; omega); clear hown3 hb3; obtain ⟨fn, tmps, assign, body, hy, hR⟩ := HY.out V pre B g3 cap3 W1 J3.out (by have h1 := HP.out; have h2 := laterTo_front (n := n) (least := least) (f := f - 1) (B := B) hle; rw [H0.out] at h2; exact ((List.prefix_append_right_inj _).2 h2).trans h1) O3.out F3.out; have HR := Lib.hid hR; clear hR)
      refine (roundIn_wide HR.out).mono ?_
      rintro e W2 ⟨ho2, V2, hV2, (⟨rfl, hj2⟩ | ⟨rfl, hj2⟩)⟩
      · have O2 := Lib.hid (show Outside (fun j => V j ∨ j = g) W W2 from ((Outside.of_below (V := fun j => V j ∨ j = g) B3.out).trans' ho2 (fun _ _ h => .inl h)))
        have W2o := Lib.hid (owns_at HO.out ((ho2.block g (by have := B3.out.size; omega) HG.out).trans (B3.out.block g hgl)))
        have J2 := Lib.hid hj2
        have V2' := Lib.hid (show ∀ j, V2 j → V j ∨ W.heap.size ≤ j from fun j h => by rcases hV2 j h with h | h | h; exact .inl h; exact .inr (by omega); exact .inr (by have := B3.out.size; omega))
        clear ho2 hV2 hj2 hy HR
        gi_wp2
        gi_loopw [8, 9] (fun _ i wr => ∃ k : Nat, least ≤ k ∧ k ≤ n ∧ i = .int .i64 k ∧ Outside (fun j => V j ∨ j = g) W wr ∧ wr.ownsRow s 3 1 (.slice (some ⟨g, 0, none⟩) B.length cap) B.length (cellsD B) ∧
            ∃ V1, (∀ j, V1 j → V j ∨ W.heap.size ≤ j) ∧ J V1 (pre ++ laterTo n least (f - 1) B k) wr) (fun _ i _ => n - (intOf i).toNat)
        case atStart => exact ⟨least, Nat.le_refl _, hle, rfl, O2.out, W2o.out, V2, V2'.out, by rw [H0.out]; exact J2.out⟩
        case round =>
          obtain ⟨k, hk0, hk, rfl, hout, hown, V1, hV1, hj⟩ := hrel
          have OUT := Lib.hid hout
          have OWN := Lib.hid hown
          have HV1 := Lib.hid hV1
          have J1 := Lib.hid hj
          have G1 := Lib.hid (show ¬ V1 g from fun h => by rcases hV1 g h with h | h; exact HG.out h; omega)
          have hsz := hout.size
          have L1 := Lib.hid (hJ.lies _ _ _ hj)
          clear hout hown hV1 hj
          by_cases hlt : k < n
          · by_cases hin : (k : Int) ∈ B
            · have T1 := Lib.hid (tt_of (hasI_mem.2 hin))
              have N1 := Lib.hid (laterTo_no (n := n) (least := least) (f := f - 1) (k := k) (B := B) (fun h => h.2 hin))
              clear hin
              gi_wp2_with (gi_at_call 154; refine (callsIn_wide.2 (contains_any B.length cap (some ⟨g, 0, none⟩) (nth B) _ _ (by omega) (owns_rd OWN.out))).mono ?_; rintro e w1 ⟨rfl, rfl⟩; rw [T1.out])
              go_roundw
              case rel => exact ⟨k + 1, by omega, by omega, by go_num, OUT.out, OWN.out, V1, HV1.out, by rw [N1.out]; exact J1.out⟩
              case measure => simp [intOf]; omega
            · have T1 := Lib.hid (tt_no (fun h => hin (hasI_mem.1 h)))
              have N1 := Lib.hid (laterTo_yes (n := n) (least := least) (f := f - 1) (k := k) (B := B) ⟨hk0, hin⟩)
              have hnd := (HD.out.snoc_iff hlt).2 hin
              have hle2 := diff_le hnd
              rw [List.length_append] at hle2
              simp only [List.length_cons, List.length_nil] at hle2
              have ND := Lib.hid hnd
              have PF := Lib.hid (show (pre ++ laterTo n least (f - 1) B k) ++ later n least (f - 1) (B ++ [(k : Int)]) <+: LL by
                have h1 := laterTo_front (n := n) (least := least) (f := f - 1) (B := B) (show k + 1 ≤ n by omega)
                rw [N1.out] at h1
                rw [List.append_assoc]
                exact ((List.prefix_append_right_inj _).2 h1).trans HP.out)
              clear hin hnd
              gi_wp2_with (first
                | (gi_at_call 154; refine (callsIn_wide.2 (contains_any B.length cap (some ⟨g, 0, none⟩) (nth B) _ _ (by omega) (owns_rd OWN.out))).mono ?_; rintro e w1 ⟨rfl, rfl⟩; rw [T1.out])
                | (gi_at_builtin; refine wpListIn_append1_g _ (4, true) (.tmp 33) (.tmp 35) (by rfl) 3 i0 Tryd.underlying32 hi hz0 hz1 hz2 s g B.length cap (cellsD B) (by rfl) (OWN.out.alloc _) ⟨wr.heap.size, 0, none⟩ 1 (.int .i64 k) (by rfl) (by simp) (by rfl) (by omega) ?_; intro g4 cap4 w4 hown4 hown5 hgr4 hat4; rw [cellsD_snoc] at hown4; have O4 := Lib.hid hown4; have O5 := Lib.hid hown5; have G4 := Lib.hid hgr4; have A4 := Lib.hid hat4; clear hown4 hown5 hgr4 hat4))
              have e1 : (B ++ [(k : Int)]).length = B.length + 1 := by simp
              have hs4 := G4.out.size
              simp only [World.size_alloc] at hs4
              have HIN := Lib.hid (show Inside V1 wr w4 from ((Outside.of_below (below_alloc (Below.refl _ wr) (.cells #[.int .i64 k] 3)) : Outside (fun _ => False) wr _).inside L1.out (fun _ _ h => h)).trans ((Outside.of_grown (V := fun j => j = g) G4.out (fun j h => by cases h; rfl)).inside (fun j h => by have := L1.out j h; simp; omega) (fun j h e => G1.out (by rw [← e]; exact h))))
              have hg4 : ¬ V1 g4 := fun h => by
                rcases A4.out with ⟨rfl, _⟩ | h'
                · exact G1.out h
                · have := L1.out _ h; (try simp only [World.size_alloc] at h'); omega
              have hc : CallsIn Fence.wide 9 Tryd.prog 131 #[.int .i64 n, .int .i64 least, .slice (some ⟨g4, 0, none⟩) (B.length + 1) cap4, .func (.yield l) #[] #[]] w4 (RetLater 3 s g4 cap4 (B ++ [(k : Int)]) V1 J Jx (pre ++ laterTo n least (f - 1) B k) (later n least (f - 1) (B ++ [(k : Int)])) w4) := by
                have h := IH.out (f - 1) (by omega) (B ++ [(k : Int)]) g4 cap4 V1 (pre ++ laterTo n least (f - 1) B k) w4 ND.out (by rw [e1]; omega) (by rw [e1]; omega) (hJ.steady _ _ _ _ J1.out HIN.out) hg4 (by omega) (by rw [e1]; exact O4.out) PF.out
                rw [e1] at h
                exact h
              refine (callsIn_wide.2 (callsIn_wide.1 hc)).mono ?_
              have HOUT := Lib.hid (show ∀ W5, Outside (fun j => V1 j ∨ j = g4) w4 W5 → Outside (fun j => V j ∨ j = g) W W5 from fun W5 h => by
                have o1 : Outside (fun j => V j ∨ j = g) wr w4 := (Outside.of_below (V := fun j => V j ∨ j = g) (below_alloc (Below.refl _ wr) (.cells #[.int .i64 k] 3))).trans' (Outside.of_grown (V := fun j => V j ∨ j = g) G4.out (fun j h => by cases h; exact .inr rfl)) (fun _ _ h => h)
                refine (OUT.out.trans' o1 (fun _ _ h => h)).trans' h (fun j hj hv => ?_)
                rcases hv with hv | rfl
                · rcases HV1.out j hv with h' | h'
                  · exact .inl h'
                  · omega
                · rcases A4.out with ⟨h', _⟩ | h'
                  · exact .inr h'
                  · (try simp only [World.size_alloc] at h'); omega)
              have HOWN := Lib.hid (show ∀ W5, Outside (fun j => V1 j ∨ j = g4) w4 W5 → W5.ownsRow s 3 1 (.slice (some ⟨g4, 0, none⟩) (B.length + 1) cap4) (B.length + 1) (cellsD (B ++ [(k : Int)])) → W5.ownsRow s 3 1 (.slice (some ⟨g, 0, none⟩) B.length cap) B.length (cellsD B) from fun W5 h hw => by
                rcases A4.out with ⟨h1, h2⟩ | h'
                · rw [h1, h2, ← cellsD_snoc] at hw
                  exact owns_front hw (cellsL_length _ _)
                · (try simp only [World.size_alloc] at h')
                  exact owns_at O5.out (h.block g (by omega) (fun hv => by rcases hv with hv | hv; exact G1.out hv; omega)))
              have HV2 := Lib.hid (show ∀ V2 : Nat → Prop, (∀ j, V2 j → V1 j ∨ w4.heap.size ≤ j) → ∀ j, V2 j → V j ∨ W.heap.size ≤ j from fun V2 h j hj => by
                rcases h j hj with h' | h'
                · exact HV1.out j h'
                · exact .inr (by omega))
              have FR := Lib.hid (show laterTo n least (f - 1) B k ++ later n least (f - 1) (B ++ [(k : Int)]) <+: laterTo n least (f - 1) B n by rw [← N1.out]; exact laterTo_front (by omega))
              clear hc hg4 hs4
              rintro e W5 ⟨hout5, hown5, V2, hV2, (⟨rfl, hj5⟩ | ⟨rfl, q, hq, hj5⟩)⟩
              · have OUT5 := Lib.hid (HOUT.out W5 hout5)
                have OWN5 := Lib.hid (HOWN.out W5 hout5 (by rw [e1] at hown5; exact hown5))
                have V5 := Lib.hid (HV2.out V2 hV2)
                have J5 := Lib.hid hj5
                clear hout5 hown5 hV2 hj5 e1
                gi_wp2
                go_roundw
                case rel => exact ⟨k + 1, by omega, by omega, by go_num, OUT5.out, OWN5.out, V2, V5.out, by rw [N1.out, ← List.append_assoc]; exact J5.out⟩
                case measure => simp [intOf]; omega
              · have OUT5 := Lib.hid (HOUT.out W5 hout5)
                have OWN5 := Lib.hid (HOWN.out W5 hout5 (by rw [e1] at hown5; exact hown5))
                have V5 := Lib.hid (HV2.out V2 hV2)
                have J5 := Lib.hid hj5
                have Q5 := Lib.hid hq
                clear hout5 hown5 hV2 hj5 e1 hq
                gi_wp2
                go_ret
                exact ⟨OUT5.out, OWN5.out, V2, V5.out, .inr ⟨rfl, laterTo n least (f - 1) B k ++ q, ((List.prefix_append_right_inj _).2 Q5.out).trans FR.out, by rw [← List.append_assoc]; exact J5.out⟩⟩
          · obtain rfl : k = n := by omega
            gi_wp2
            go_ret
            exact ⟨OUT.out, OWN.out, V1, HV1.out, .inl ⟨rfl, J1.out⟩⟩
      · have O2 := Lib.hid (show Outside (fun j => V j ∨ j = g) W W2 from ((Outside.of_below (V := fun j => V j ∨ j = g) B3.out).trans' ho2 (fun _ _ h => .inl h)))
        have W2o := Lib.hid (owns_at HO.out ((ho2.block g (by have := B3.out.size; omega) HG.out).trans (B3.out.block g hgl)))
        have J2 := Lib.hid hj2
        have V2' := Lib.hid (show ∀ j, V2 j → V j ∨ W.heap.size ≤ j from fun j h => by rcases hV2 j h with h | h | h; exact .inl h; exact .inr (by omega); exact .inr (by have := B3.out.size; omega))
        have PQ := Lib.hid (laterTo_front (n := n) (least := least) (f := f - 1) (B := B) hle)
        clear ho2 hV2 hj2 hy HR
        gi_wp2
        go_ret
        exact ⟨O2.out, W2o.out, V2, V2'.out, .inr ⟨rfl, [B], by rw [← H0.out]; exact PQ.out, J2.out⟩⟩
    · have hq : decide (2 ≤ (B.length : Int)) = false := by simp; omega
      have H0 := Lib.hid (show laterTo n least (f - 1) B least = [] by rw [laterTo_least, if_neg h2])
      refine callsIn_of_wp Tryd.func131 rfl trivial ?_ rfl
      simp only [Tryd.ntmps131, List.size_toArray, List.length_cons, List.length_nil, Nat.reduceAdd, Nat.reduceSub, Array.replicate_succ, Array.replicate_zero, List.push_toArray, List.append_toArray, List.nil_append, List.cons_append]
      gi_wp2
      gi_loopw [8, 9] (fun _ i wr => ∃ k : Nat, least ≤ k ∧ k ≤ n ∧ i = .int .i64 k ∧ Outside (fun j => V j ∨ j = g) W wr ∧ wr.ownsRow s 3 1 (.slice (some ⟨g, 0, none⟩) B.length cap) B.length (cellsD B) ∧
          ∃ V1, (∀ j, V1 j → V j ∨ W.heap.size ≤ j) ∧ J V1 (pre ++ laterTo n least (f - 1) B k) wr) (fun _ i _ => n - (intOf i).toNat)
      case atStart => exact ⟨least, Nat.le_refl _, hle, rfl, Outside.refl _ _, HO.out, V, (fun j h => .inl h), by rw [H0.out, List.append_nil]; exact HJ.out⟩
      case round =>
        obtain ⟨k, hk0, hk, rfl, hout, hown, V1, hV1, hj⟩ := hrel
        have OUT := Lib.hid hout
        have OWN := Lib.hid hown
        have HV1 := Lib.hid hV1
        have J1 := Lib.hid hj
        have G1 := Lib.hid (show ¬ V1 g from fun h => by rcases hV1 g h with h | h; exact HG.out h; omega)
        have hsz := hout.size
        have L1 := Lib.hid (hJ.lies _ _ _ hj)
        clear hout hown hV1 hj
        by_cases hlt : k < n
        · by_cases hin : (k : Int) ∈ B
          · have T1 := Lib.hid (tt_of (hasI_mem.2 hin))
            have N1 := Lib.hid (laterTo_no (n := n) (least := least) (f := f - 1) (k := k) (B := B) (fun h => h.2 hin))
            clear hin
            gi_wp2_with (gi_at_call 154; refine (callsIn_wide.2 (contains_any B.length cap (some ⟨g, 0, none⟩) (nth B) _ _ (by omega) (owns_rd OWN.out))).mono ?_; rintro e w1 ⟨rfl, rfl⟩; rw [T1.out])
            go_roundw
            case rel => exact ⟨k + 1, by omega, by omega, by go_num, OUT.out, OWN.out, V1, HV1.out, by rw [N1.out]; exact J1.out⟩
            case measure => simp [intOf]; omega
          · have T1 := Lib.hid (tt_no (fun h => hin (hasI_mem.1 h)))
            have N1 := Lib.hid (laterTo_yes (n := n) (least := least) (f := f - 1) (k := k) (B := B) ⟨hk0, hin⟩)
            have hnd := (HD.out.snoc_iff hlt).2 hin
            have hle2 := diff_le hnd
            rw [List.length_append] at hle2
            simp only [List.length_cons, List.length_nil] at hle2
            have ND := Lib.hid hnd
            have PF := Lib.hid (show (pre ++ laterTo n least (f - 1) B k) ++ later n least (f - 1) (B ++ [(k : Int)]) <+: LL by
              have h1 := laterTo_front (n := n) (least := least) (f := f - 1) (B := B) (show k + 1 ≤ n by omega)
              rw [N1.out] at h1
              rw [List.append_assoc]
              exact ((List.prefix_append_right_inj _).2 h1).trans HP.out)
            clear hin hnd
            gi_wp2_with (first
              | (gi_at_call 154; refine (callsIn_wide.2 (contains_any B.length cap (some ⟨g, 0, none⟩) (nth B) _ _ (by omega) (owns_rd OWN.out))).mono ?_; rintro e w1 ⟨rfl, rfl⟩; rw [T1.out])
              | (gi_at_builtin; refine wpListIn_append1_g _ (4, true) (.tmp 33) (.tmp 35) (by rfl) 3 i0 Tryd.underlying32 hi hz0 hz1 hz2 s g B.length cap (cellsD B) (by rfl) (OWN.out.alloc _) ⟨wr.heap.size, 0, none⟩ 1 (.int .i64 k) (by rfl) (by simp) (by rfl) (by omega) ?_; intro g4 cap4 w4 hown4 hown5 hgr4 hat4; rw [cellsD_snoc] at hown4; have O4 := Lib.hid hown4; have O5 := Lib.hid hown5; have G4 := Lib.hid hgr4; have A4 := Lib.hid hat4; clear hown4 hown5 hgr4 hat4))
            have e1 : (B ++ [(k : Int)]).length = B.length + 1 := by simp
            have hs4 := G4.out.size
            simp only [World.size_alloc] at hs4
            have HIN := Lib.hid (show Inside V1 wr w4 from ((Outside.of_below (below_alloc (Below.refl _ wr) (.cells #[.int .i64 k] 3)) : Outside (fun _ => False) wr _).inside L1.out (fun _ _ h => h)).trans ((Outside.of_grown (V := fun j => j = g) G4.out (fun j h => by cases h; rfl)).inside (fun j h => by have := L1.out j h; simp; omega) (fun j h e => G1.out (by rw [← e]; exact h))))
            have hg4 : ¬ V1 g4 := fun h => by
              rcases A4.out with ⟨rfl, _⟩ | h'
              · exact G1.out h
              · have := L1.out _ h; (try simp only [World.size_alloc] at h'); omega
            have hc : CallsIn Fence.wide 9 Tryd.prog 131 #[.int .i64 n, .int .i64 least, .slice (some ⟨g4, 0, none⟩) (B.length + 1) cap4, .func (.yield l) #[] #[]] w4 (RetLater 3 s g4 cap4 (B ++ [(k : Int)]) V1 J Jx (pre ++ laterTo n least (f - 1) B k) (later n least (f - 1) (B ++ [(k : Int)])) w4) := by
              have h := IH.out (f - 1) (by omega) (B ++ [(k : Int)]) g4 cap4 V1 (pre ++ laterTo n least (f - 1) B k) w4 ND.out (by rw [e1]; omega) (by rw [e1]; omega) (hJ.steady _ _ _ _ J1.out HIN.out) hg4 (by omega) (by rw [e1]; exact O4.out) PF.out
              rw [e1] at h
              exact h
            refine (callsIn_wide.2 (callsIn_wide.1 hc)).mono ?_
            have HOUT := Lib.hid (show ∀ W5, Outside (fun j => V1 j ∨ j = g4) w4 W5 → Outside (fun j => V j ∨ j = g) W W5 from fun W5 h => by
              have o1 : Outside (fun j => V j ∨ j = g) wr w4 := (Outside.of_below (V := fun j => V j ∨ j = g) (below_alloc (Below.refl _ wr) (.cells #[.int .i64 k] 3))).trans' (Outside.of_grown (V := fun j => V j ∨ j = g) G4.out (fun j h => by cases h; exact .inr rfl)) (fun _ _ h => h)
              refine (OUT.out.trans' o1 (fun _ _ h => h)).trans' h (fun j hj hv => ?_)
              rcases hv with hv | rfl
              · rcases HV1.out j hv with h' | h'
                · exact .inl h'
                · omega
              · rcases A4.out with ⟨h', _⟩ | h'
                · exact .inr h'
                · (try simp only [World.size_alloc] at h'); omega)
            have HOWN := Lib.hid (show ∀ W5, Outside (fun j => V1 j ∨ j = g4) w4 W5 → W5.ownsRow s 3 1 (.slice (some ⟨g4, 0, none⟩) (B.length + 1) cap4) (B.length + 1) (cellsD (B ++ [(k : Int)])) → W5.ownsRow s 3 1 (.slice (some ⟨g, 0, none⟩) B.length cap) B.length (cellsD B) from fun W5 h hw => by
              rcases A4.out with ⟨h1, h2⟩ | h'
              · rw [h1, h2, ← cellsD_snoc] at hw
                exact owns_front hw (cellsL_length _ _)
              · (try simp only [World.size_alloc] at h')
                exact owns_at O5.out (h.block g (by omega) (fun hv => by rcases hv with hv | hv; exact G1.out hv; omega)))
            have HV2 := Lib.hid (show ∀ V2 : Nat → Prop, (∀ j, V2 j → V1 j ∨ w4.heap.size ≤ j) → ∀ j, V2 j → V j ∨ W.heap.size ≤ j from fun V2 h j hj => by
              rcases h j hj with h' | h'
              · exact HV1.out j h'
              · exact .inr (by omega))
            have FR := Lib.hid (show laterTo n least (f - 1) B k ++ later n least (f - 1) (B ++ [(k : Int)]) <+: laterTo n least (f - 1) B n by rw [← N1.out]; exact laterTo_front (by omega))
            clear hc hg4 hs4
            rintro e W5 ⟨hout5, hown5, V2, hV2, (⟨rfl, hj5⟩ | ⟨rfl, q, hq, hj5⟩)⟩
            · have OUT5 := Lib.hid (HOUT.out W5 hout5)
              have OWN5 := Lib.hid (HOWN.out W5 hout5 (by rw [e1] at hown5; exact hown5))
              have V5 := Lib.hid (HV2.out V2 hV2)
              have J5 := Lib.hid hj5
              clear hout5 hown5 hV2 hj5 e1
              gi_wp2
              go_roundw
              case rel => exact ⟨k + 1, by omega, by omega, by go_num, OUT5.out, OWN5.out, V2, V5.out, by rw [N1.out, ← List.append_assoc]; exact J5.out⟩
              case measure => simp [intOf]; omega
            · have OUT5 := Lib.hid (HOUT.out W5 hout5)
              have OWN5 := Lib.hid (HOWN.out W5 hout5 (by rw [e1] at hown5; exact hown5))
              have V5 := Lib.hid (HV2.out V2 hV2)
              have J5 := Lib.hid hj5
              have Q5 := Lib.hid hq
              clear hout5 hown5 hV2 hj5 e1 hq
              gi_wp2
              go_ret
              exact ⟨OUT5.out, OWN5.out, V2, V5.out, .inr ⟨rfl, laterTo n least (f - 1) B k ++ q, ((List.prefix_append_right_inj _).2 Q5.out).trans FR.out, by rw [← List.append_assoc]; exact J5.out⟩⟩
        · obtain rfl : k = n := by omega
          gi_wp2
          go_ret
          exact ⟨OUT.out, OWN.out, V1, HV1.out, .inl ⟨rfl, J1.out⟩⟩
end

section
open Go.RowKit
attribute [local go_sem] Oper.semAt_some wide_fn wide_round_fn

theorem waysFrom_any (n i : Int) (w : World) :
    Calls Tryd.prog 99 #[.int .i64 n, .int .i64 i] w fun e w' => e = .returned (.func (.func 130) #[] #[.pointer (some ⟨w.heap.size, 0, none⟩), .pointer (some ⟨w.heap.size + 1, 0, none⟩)]) ∧ w' = (w.alloc (.cells #[.int .i64 n] 3)).alloc (.cells #[.int .i64 i] 3) := by
  go_enter Tryd.func99, Tryd.ntmps99
  go_wp2
  go_ret
  exact ⟨rfl, rfl⟩

theorem owns_new (w : World) (s tI : Nat) (x : Int) (hs : s ≤ w.heap.size) : (w.alloc (.cells #[.int .i64 x] tI)).ownsRow s tI 1 (.slice (some ⟨w.heap.size, 0, none⟩) 1 1) 1 (cellsD [x]) :=
  ⟨rfl, .inr ⟨w.heap.size, 1, #[.int .i64 x], rfl, hs, World.alloc_heap_new w _, Nat.le_refl _, by unfold maxLen; omega, rfl, rfl⟩⟩
theorem diff_one {n k : Nat} (h : k < n) : Diff n [(k : Int)] := by
  have := (Diff.nil n).snoc_iff (x := k) h
  simp at this
  exact this

set_option maxRecDepth 100000 in
set_option maxHeartbeats 2000000 in
theorem seq_ways6 (n i Bn Bi : Nat) (w : World) (hn2 : 2 ≤ n) (hn : n ≤ 6) (hi : i < n) (hc : w.cell? ⟨Bn, 0, none⟩ = some (.int .i64 n)) (hci : w.cell? ⟨Bi, 0, none⟩ = some (.int .i64 i)) :
    SeqL Tryd.prog 3 130 #[.pointer (some ⟨Bn, 0, none⟩), .pointer (some ⟨Bi, 0, none⟩)] (fun k => k = Bn ∨ k = Bi) (longer n (n - 1) [(i : Int)]) w := by
  intro l V J Jx W hin hR hJ hJx hY h0
  have hcW : W.cell? ⟨Bn, 0, none⟩ = some (.int .i64 n) := hin.cell (p := ⟨Bn, 0, none⟩) (.inl rfl) hc
  have hciW : W.cell? ⟨Bi, 0, none⟩ = some (.int .i64 i) := hin.cell (p := ⟨Bi, 0, none⟩) (.inr rfl) hci
  have J2 := hJ.steady _ _ _ _ h0 (Inside.of_below (below_alloc (Below.refl _ W) (.cells #[.int .i64 i] 3)) (hJ.lies _ _ _ h0))
  have hcl := longer_in6 n 0 W.heap.size l J Jx (longer n (n - 1) [(i : Int)]) hn2 hn (by omega) hJ hJx hY (n - 1) [(i : Int)] W.heap.size 1 V [] (W.alloc (.cells #[.int .i64 i] 3)) (diff_one hi) (by simp) (by simp; omega) J2
    (fun h => by have := hJ.lies _ _ _ h0 _ h; omega) (by simp) (owns_new W _ _ _ (Nat.le_refl _)) (by rw [later_zero, List.nil_append]; exact List.prefix_refl _)
  rw [later_zero, show ((0 : Nat) : Int) = 0 by rfl] at hcl
  simp only [List.length_cons, List.length_nil, Nat.zero_add] at hcl
  have HC := Lib.hid hcl
  clear hin hR hY h0 J2 hcl hc hci
  refine callsIn_of_wp Tryd.func130 rfl trivial ?_ rfl
  simp only [Tryd.ntmps130, List.size_toArray, List.length_cons, List.length_nil, Nat.reduceAdd, Nat.reduceSub, Array.replicate_succ, Array.replicate_zero, List.push_toArray, List.append_toArray, List.nil_append, List.cons_append]
  gi_wp2
  refine (callsIn_wide.2 (callsIn_wide.1 HC.out)).mono ?_
  rintro e W5 ⟨hout5, hown5, V2, hV2, (⟨rfl, hj5⟩ | ⟨rfl, q, hq, hj5⟩)⟩
  · have J5 := Lib.hid hj5
    clear hout5 hown5 hV2 hj5
    gi_wp2
    go_end0
    exact ⟨⟨_, rfl⟩, .inl ⟨V2, by have := J5.out; rwa [List.nil_append] at this⟩⟩
  · have J5 := Lib.hid hj5
    have Q5 := Lib.hid hq
    clear hout5 hown5 hV2 hj5 hq
    gi_wp2
    go_end0
    exact ⟨⟨_, rfl⟩, .inr ⟨V2, q, Q5.out, by have := J5.out; rwa [List.nil_append] at this⟩⟩
theorem seq_ways (n i Bn Bi : Nat) (w : World) (hn2 : 2 ≤ n) (hn : n ≤ 5) (hi : i < n) (hc : w.cell? ⟨Bn, 0, none⟩ = some (.int .i64 n)) (hci : w.cell? ⟨Bi, 0, none⟩ = some (.int .i64 i)) :
    SeqL Tryd.prog 3 130 #[.pointer (some ⟨Bn, 0, none⟩), .pointer (some ⟨Bi, 0, none⟩)] (fun k => k = Bn ∨ k = Bi) (longer n (n - 1) [(i : Int)]) w :=
  seq_ways6 n i Bn Bi w hn2 (by omega) hi hc hci
end

end Go.Proofs.YtabdbgnkiebcdaaDoor

namespace Go.Proofs.YtabdbgnkiebcdaaDoor
set_option linter.unusedVariables false

section
open Go.RowKit
attribute [local go_sem] Oper.semAt_some wide_fn wide_round_fn

theorem rounds_any (n : Int) (w : World) :
    Calls Tryd.prog 106 #[.int .i64 n] w fun e w' => e = .returned (.func (.func 136) #[] #[.pointer (some ⟨w.heap.size, 0, none⟩)]) ∧ w' = w.alloc (.cells #[.int .i64 n] 3) := by
  go_enter Tryd.func106, Tryd.ntmps106
  go_wp2
  go_ret
  exact ⟨rfl, rfl⟩
set_option maxRecDepth 100000 in
set_option maxHeartbeats 2000000 in
theorem seq_rounds (n Bn : Nat) (w : World) (hn2 : 2 ≤ n) (hn : n ≤ 5) (hc : w.cell? ⟨Bn, 0, none⟩ = some (.int .i64 n)) :
    SeqL Tryd.prog 3 136 #[.pointer (some ⟨Bn, 0, none⟩)] (fun k => k = Bn) (roundsTo n n) w := by
  intro l V J Jx W hin hR hJ hJx hY h0
  have hcW : W.cell? ⟨Bn, 0, none⟩ = some (.int .i64 n) := hin.cell (p := ⟨Bn, 0, none⟩) rfl hc
  have HB := Lib.hid (hR Bn rfl)
  have HY := Lib.hid hY
  have H0 := Lib.hid h0
  clear hin hR hY h0
  refine callsIn_of_wp Tryd.func136 rfl trivial ?_ rfl
  simp only [Tryd.ntmps136, List.size_toArray, List.length_cons, List.length_nil, Nat.reduceAdd, Nat.reduceSub, Array.replicate_succ, Array.replicate_zero, List.push_toArray, List.append_toArray, List.nil_append, List.cons_append]
  gi_wp2
  gi_loopw [3, 5] (fun _ i wr => ∃ k : Nat, k ≤ n ∧ i = .int .i64 k ∧ W.heap.size ≤ wr.heap.size ∧ wr.cell? ⟨Bn, 0, none⟩ = some (.int .i64 n) ∧ ∃ V1, (∀ j, V1 j → V j ∨ W.heap.size ≤ j) ∧ J V1 (roundsTo n k) wr) (fun _ i _ => n - (intOf i).toNat)
  case atStart => exact ⟨0, Nat.zero_le _, rfl, Nat.le_refl _, hcW, V, fun j h => .inl h, H0.out⟩
  case round =>
    obtain ⟨k, hk, rfl, hsz, hcr, V1, hV1, hj⟩ := hrel
    have hBlt := World.block_lt_of_cell? _ _ hcW
    have NB : Hid (¬ V1 Bn) := Lib.hid (fun h => by rcases hV1 Bn h with h | h; exact HB.out h; exact absurd (show Bn < W.heap.size from hBlt) (by omega))
    have HV1 := Lib.hid hV1
    have J1 := Lib.hid hj
    clear hV1 hj
    by_cases hlt : k < n
    · have J2 := Lib.hid (hJ.steady _ _ _ _ J1.out (Inside.of_below (below_alloc (Below.refl _ wr) (.cells #[.int .i64 k] 3)) (hJ.lies _ _ _ J1.out)))
      have hc := longer_in6 n (k + 1) W.heap.size l J Jx (roundsTo n n) hn2 (by omega) (by omega) hJ hJx HY.out (n - 1) [(k : Int)] wr.heap.size 1 V1 (roundsTo n k) (wr.alloc (.cells #[.int .i64 k] 3)) (diff_one hlt) (by simp) (by simp; omega) J2.out
        (fun h => by have := hJ.lies _ _ _ J1.out _ h; omega) (by simp; omega) (owns_new wr _ _ _ hsz) (by rw [← roundsTo_succ]; exact roundsTo_front (by omega))
      rw [show ((k + 1 : Nat) : Int) = (k : Int) + 1 by omega] at hc
      simp only [List.length_cons, List.length_nil, Nat.zero_add] at hc
      have HC := Lib.hid hc
      clear hc
      gi_wp2
      refine (callsIn_wide.2 (callsIn_wide.1 HC.out)).mono ?_
      have hs1 : (wr.alloc (.cells #[.int .i64 k] 3)).heap.size = wr.heap.size + 1 := by simp
      rintro e W5 ⟨hout5, hown5, V2, hV2, (⟨rfl, hj5⟩ | ⟨rfl, q, hq, hj5⟩)⟩
      · have hc5 : W5.cell? ⟨Bn, 0, none⟩ = some (.int .i64 n) := hout5.cell (p := ⟨Bn, 0, none⟩) (fun h => by rcases h with h | h; exact NB.out h; have h' : Bn = wr.heap.size := h; omega) (by rw [World.cell?_of_block (w := wr) (Below.heap_alloc wr _ Bn (by omega))]; exact hcr)
        have S5 := hout5.size
        have J5 := Lib.hid hj5
        have V5 := Lib.hid (show ∀ j, V2 j → V j ∨ W.heap.size ≤ j from fun j h => by rcases hV2 j h with h' | h'; exact HV1.out j h'; exact .inr (by omega))
        clear hout5 hown5 hV2 hj5
        gi_wp2
        go_roundw
        case rel => exact ⟨k + 1, by omega, by go_num, by omega, hc5, V2, V5.out, by rw [roundsTo_succ]; exact J5.out⟩
        case measure => simp [intOf]; omega
      · have J5 := Lib.hid hj5
        have Q5 := Lib.hid hq
        clear hout5 hown5 hV2 hj5 hq
        gi_wp2
        refine bodyPost_ret (results_none rfl _ _ _) rfl ?_
        exact ⟨⟨_, rfl⟩, .inr ⟨V2, _, ((List.prefix_append_right_inj _).2 Q5.out).trans (by rw [← roundsTo_succ]; exact roundsTo_front (by omega)), J5.out⟩⟩
    · obtain rfl : k = n := by omega
      gi_wp2
      go_end0
      exact ⟨⟨_, rfl⟩, .inl ⟨V1, J1.out⟩⟩

end

end Go.Proofs.YtabdbgnkiebcdaaDoor

namespace Go.Proofs.YtabdbgnkiebcdaaDoor
set_option linter.unusedVariables false
open Go.RowKit

set_option maxHeartbeats 1000000 in
theorem roundValue_any (n m d : Nat) (F : Nat → Int) (b : Option Addr) (X : Nat → Int) (w : World) (h : Kept n F) (hn2 : 2 ≤ n) (hway : IsWay n m X) (hb : Rd w b m X) :
    Calls Tryd.prog 137 #[.agg (cellsV 25 F), .slice b m d] w fun e w' => e = .returned (.int .i64 (roundV n (atF F) m X)) ∧ Below w.heap.size w w' := by
  have hn5 := h.le
  have hm2 := hway.2.1
  have hmn := hway.2.2
  have hW := Lib.hid (closeF_in hway)
  obtain ⟨ba, oa, rfl, hlt, hc0⟩ := hb.lt (show 0 < m by omega)
  rw [Nat.add_zero] at hc0
  obtain ⟨i0, hi, hz0, hz1, hz2⟩ := info_parts Tryd.infoInt
  have H := Lib.hid h
  have HB := Lib.hid hb
  have HC := Lib.hid hc0
  have hi1 : 0 < m := by omega
  clear h hb hway hc0
  go_enter Tryd.func137, Tryd.ntmps137
  go_wp2_with ((with_reducible refine arr_box 25 _ _ F ?_ ?_); exact rfl; intro w1 hA1 hs1 hb1)
  have hlt1 : ba < w1.heap.size := by rw [hs1]; omega
  have hc1 : w1.cell? ⟨ba, oa, none⟩ = some (.int .i64 (X 0)) := (hb1.cell (p := ⟨ba, oa, none⟩) hlt).trans HC.out
  have HB1 := Lib.hid (HB.out.below (Nat.le_refl _) hb1)
  have A1 := Lib.hid hA1
  have B1 := Lib.hid hb1
  clear hA1 hs1 hb1
  go_region_held3 (fun W => W.cell? ⟨ba, oa, none⟩ = some (.int .i64 (X 0)) ∧ Below w1.heap.size w1 W)
    (first | exact keep_drew ⟨hc1, Below.refl _ _⟩ | exact keep_drew (by assumption) | exact keep_alloc (by assumption) _ | exact keep_below (by assumption) hlt1 hbl | exact keep_grown (by assumption) hlt1 hgrow2 hrow1)
    ((first
      | (go_at_call 153; refine (clone_any m d (some ⟨ba, oa, none⟩) X _ (by omega) (by omega) (HB1.out.below (Nat.le_refl _) (by repeat (first | exact Below.refl _ _ | refine Below.drew ?_ | refine below_alloc ?_ _)))).mono ?_; rintro e w3 ⟨g3, cap3, rfl, hown3, hbl⟩; have hown1 := owns_base (base' := w1.heap.size) hown3 (by simp <;> omega); have hrow1 : ∀ k, (Value.slice (some ⟨g3, 0, none⟩) m cap3).ownBlock = some k → w1.heap.size ≤ k := fun k hk => (hown1.lt k hk).1; clear hown3)
      | (have _t := hown1; refine step_append_lies _ (by rfl) (.tmp 7) (.tmp 11) 32 (by rfl) w1.heap.size 3 i0 (.int .i64 0) 1 8 Tryd.underlying32 hi hz0 hz1 hz2 (by rfl) (by decide) (.slice (some ⟨g3, 0, none⟩) m cap3) m (cellsL m X) (by rfl) (by first | exact hown1 | exact hown1.alloc _) ⟨_, 0, none⟩ 1 1 [.int .i64 (X 0)] (by rfl) (by rfl) (news_one (by first | (simp; done) | exact (hbl.cell (p := ⟨_, 0, none⟩) (by simp)).trans (by simp))) (by simp [Value.oneCell']) (by omega) (by unfold maxLen; omega) (by omega) (by have h1 := hbl.size; simp at h1 ⊢; omega) _ rfl ?_; intro g2 cap2 w2 hown2 hgrow2 hat2 hlt2)))
  all_goals
    have hB := (show w2.cell? ⟨ba, oa, none⟩ = some (.int .i64 (X 0)) ∧ Below w1.heap.size w1 w2 from by assumption).2
    rw [cellsL_snoc] at hown2
    have hcap := (owns_cap hown2).1
    have HO := Lib.hid (owns_rd hown2)
    have A2 := Lib.hid (A1.out.below A1.out.lt hB)
    have B2 := Lib.hid (B1.out.trans (hB.mono B1.out.size))
    clear hown2 hB hown1 hgrow2 hat2 hrow1 hbl hc1 hlt2
    go_wp2
    refine wp_region_later (by kernel_rfl) (by kernel_rfl) ?_
    repeat (first
      | ((with_reducible refine quiet_load_arr 25 _ _ _ 52 _ w.heap.size F ?_ ?_ Tryd.underlying52 Tryd.sizeRates ?_); exact rfl; (rintro _ ⟨r, rfl⟩; exact later_arr A2.out r))
      | quiet_step ((first
          | (go_at_call 107; exact calls_later _ (size_any n F _ H.out))
          | (go_at_call 158; exact calls_later _ (value_any n (m + 1) cap2 F _ (closeF m X) (n : Int) _ hn5 H.out.rate (HO.out.below (Nat.le_refl _) (Later.h _)) (by omega) (by omega) hcap (by omega) (by omega) (fun i _ => hW.out i))))))
    refine wpQuiet_nil ?_
    rintro _ ⟨r, rfl⟩
    go_wp2
    go_ret
    exact ⟨rfl, B2.out.trans (r.h.mono B2.out.size)⟩
end Go.Proofs.YtabdbgnkiebcdaaDoor

namespace Go.Proofs.YtabdbgnkiebcdaaDoor
set_option linter.unusedVariables false

section
open Go.RowKit
attribute [local go_sem] Oper.semAt_some wide_fn wide_round_fn

theorem gaining_any (F : Nat → Int) (w : World) :
    Calls Tryd.prog 63 #[.agg (cellsV 25 F)] w fun e w' => e = .returned (.func (.func 105) #[] #[.pointer (some ⟨w.heap.size, 0, none⟩)]) ∧ ArrAt w' w.heap.size 52 25 F ∧ w'.heap.size = w.heap.size + 1 ∧ Below w.heap.size w w' := by
  go_enter Tryd.func63, Tryd.ntmps63
  go_wp2_with ((with_reducible refine arr_box 25 _ _ F ?_ ?_); exact rfl; intro w1 hA1 hs1 hb1; have S1 := Lib.hid hs1; clear hs1)
  go_ret
  exact ⟨rfl, hA1, S1.out, hb1⟩

set_option maxHeartbeats 1600000 in
theorem gainsBy_any (n m c : Nat) (F : Nat → Int) (a : Option Addr) (X : Nat → Int) (w : World) (hF : Kept n F) (hn2 : 2 ≤ n) (hway : IsWay n m X) (ha : Rd w a m X) :
    Calls Tryd.prog 108 #[.agg (cellsV 25 F), .slice a m c] w fun e w' => e = .returned (.bool (tt (p12 n < roundV n (atF F) m X))) ∧ Below w.heap.size w w' := by
  have hn5 := hF.le
  have H := Lib.hid hF
  have HA := Lib.hid ha
  have HW := Lib.hid hway
  obtain ⟨Pw, hPw⟩ : ∃ Pw, Pw = p12 n := ⟨_, rfl⟩
  obtain ⟨Vv, hVv⟩ : ∃ Vv, Vv = roundV n (atF F) m X := ⟨_, rfl⟩
  have QP := Lib.hid hPw
  have QV := Lib.hid hVv
  have E := Lib.hid (show decide (Pw < Vv) = tt (p12 n < roundV n (atF F) m X) from by
    rw [hPw, hVv]
    by_cases h : p12 n < roundV n (atF F) m X
    · rw [tt_of h, decide_eq_true h]
    · rw [tt_no h, decide_eq_false h])
  clear hF ha hway hPw hVv
  go_enter Tryd.func108, Tryd.ntmps108
  go_wp2_with ((with_reducible refine arr_box 25 _ _ F ?_ ?_); exact rfl; intro w1 hA1 hs1 hb1)
  have A1 := Lib.hid hA1
  have B1 := Lib.hid hb1
  have RV := Lib.hid (show ∀ r : Later w1, Calls Tryd.prog 137 #[.agg (cellsV 25 F), .slice a m c] r.W fun e w' => e = .returned (.int .i64 Vv) ∧ Below r.W.heap.size r.W w' from fun r => by
    rw [QV.out]; exact roundValue_any n m c F _ X _ H.out hn2 HW.out ((HA.out.below (Nat.le_refl _) B1.out).below (Nat.le_refl _) (Later.h _)))
  have UA := Lib.hid (show ∀ r : Later w1, Calls Tryd.prog 138 #[.int .i64 n] r.W fun e w' => e = .returned (.int .i64 Pw) ∧ Below r.W.heap.size r.W w' from fun r => by
    refine (unitAfter_any _ _ (by omega) (by omega)).mono ?_
    rintro e w' ⟨rfl, rfl⟩
    exact ⟨by rw [QP.out, Int.toNat_natCast], Below.refl _ _⟩)
  clear hA1 hs1 hb1
  refine wp_region_later (by kernel_rfl) (by kernel_rfl) ?_
  repeat (first
    | ((with_reducible refine quiet_load_arr 25 _ _ _ 52 _ w.heap.size F ?_ ?_ Tryd.underlying52 Tryd.sizeRates ?_); exact rfl; (rintro _ ⟨r, rfl⟩; exact later_arr A1.out r))
    | quiet_step ((first
        | (go_at_call 137; exact calls_later _ (RV.out _))
        | (go_at_call 107; exact calls_later _ (size_any n F _ H.out))
        | (go_at_call 138; exact calls_later _ (UA.out _)))))
  refine wpQuiet_nil ?_
  rintro _ ⟨r, rfl⟩
  go_wp2
  go_ret
  exact ⟨by rw [← E.out]; rfl, B1.out.trans (r.h.mono B1.out.size)⟩

/-- The rounds among LL that gain. -/
noncomputable def gainL (n : Nat) (F : Nat → Int) (LL : List (List Int)) : List (List Int) := LL.filter fun D => tt (p12 n < roundV n (atF F) D.length (nth D))
theorem gainL_front {n : Nat} {F : Nat → Int} {A B : List (List Int)} (h : A <+: B) : gainL n F A <+: gainL n F B := h.filter _
theorem gainL_yes {n : Nat} {F : Nat → Int} {A : List (List Int)} {D : List Int} (h : p12 n < roundV n (atF F) D.length (nth D)) : gainL n F (A ++ [D]) = gainL n F A ++ [D] := by
  unfold gainL
  rw [List.filter_append]
  simp [tt_of h]
theorem gainL_no {n : Nat} {F : Nat → Int} {A : List (List Int)} {D : List Int} (h : ¬ p12 n < roundV n (atF F) D.length (nth D)) : gainL n F (A ++ [D]) = gainL n F A := by
  unfold gainL
  rw [List.filter_append]
  simp [tt_no h]
/-- All rounds are ways. -/
theorem later_ways {n least : Nat} : ∀ (f : Nat) (B : List Int), Diff n B → ∀ D, D ∈ later n least f B → Diff n D ∧ 2 ≤ D.length
  | 0, B, h, D, hD => by
    unfold later at hD
    by_cases e : 2 ≤ B.length
    · rw [if_pos e] at hD; simp at hD; subst hD; exact ⟨h, e⟩
    · rw [if_neg e] at hD; simp at hD
  | f + 1, B, h, D, hD => by
    unfold later at hD
    rw [List.mem_append] at hD
    rcases hD with hD | hD
    · by_cases e : 2 ≤ B.length
      · rw [if_pos e] at hD; simp at hD; subst hD; exact ⟨h, e⟩
      · rw [if_neg e] at hD; simp at hD
    · rw [List.mem_flatMap] at hD
      obtain ⟨x, hx, hD⟩ := hD
      rw [List.mem_range] at hx
      by_cases e : Next least B x
      · rw [if_pos e] at hD
        exact later_ways f _ ((h.snoc_iff hx).2 e.2) D hD
      · rw [if_neg e] at hD; simp at hD
theorem rounds_ways {n : Nat} {D : List Int} (h : D ∈ roundsTo n n) : IsWay n D.length (nth D) := by
  unfold roundsTo at h
  rw [List.mem_flatMap] at h
  obtain ⟨x, hx, h⟩ := h
  rw [List.mem_range] at hx
  have := later_ways (n - 1) [(x : Int)] (diff_one hx) D h
  exact ⟨this.1, this.2, diff_le this.1⟩

set_option maxRecDepth 100000 in
set_option maxHeartbeats 4000000 in
theorem seq_gaining (n Bt : Nat) (F : Nat → Int) (w : World) (hF : Kept n F) (hn2 : 2 ≤ n) (hA : ArrAt w Bt 52 25 F) :
    SeqL Tryd.prog 3 105 #[.pointer (some ⟨Bt, 0, none⟩)] (fun k => k = Bt) (gainL n F (roundsTo n n)) w := by
  intro l V J Jx W hin hR hJ hJx hY h0
  have hn5 := hF.le
  have hAW : ArrAt W Bt 52 25 F := hA.of_block (hin.block Bt rfl)
  have hBt := hAW.lt
  have HB := Lib.hid (hR Bt rfl)
  have HY := Lib.hid hY
  have H0 := Lib.hid h0
  have HF := Lib.hid hF
  clear hin hR hY h0 hF hA
  refine callsIn_of_wp_marks Tryd.func105 rfl trivial ?_ rfl
  simp only [Tryd.ntmps105, List.size_toArray, List.length_cons, List.length_nil, Nat.reduceAdd, Nat.reduceSub, Array.replicate_succ, Array.replicate_zero, List.push_toArray, List.append_toArray, List.nil_append, List.cons_append]
  gi_wp2_with (first
    | ((with_reducible refine arrI_load 25 _ _ _ _ _ _ F ?_ (hAW.below hBt ((Below.refl _ W).alloc (Nat.le_refl _) _)) Tryd.underlying52 Tryd.sizeRates ?_); exact rfl)
    | (gi_at_call 107; refine (callsIn_wide.2 (size_any n F _ HF.out)).mono ?_; rintro e w1 ⟨rfl, hb1⟩; have B1 := Lib.hid ((below_alloc (Below.refl _ W) _).trans (hb1.mono (by simp))); have CY := Lib.hid (show w1.cell? ⟨W.heap.size, 0, none⟩ = some (.func (.yield l) #[] #[]) from (hb1.cell (p := ⟨W.heap.size, 0, none⟩) (by simp)).trans (by simp)); have S1 := Lib.hid (show W.heap.size + 1 ≤ w1.heap.size by have := hb1.size; simpa using this); clear hb1)
    | (gi_at_call 106; refine (callsIn_wide.2 (rounds_any _ _)).mono ?_; rintro e w2 ⟨rfl, rfl⟩))
  obtain ⟨bn, hbn⟩ : ∃ bn, bn = w1.heap.size := ⟨_, rfl⟩
  obtain ⟨W0, hW0⟩ : ∃ W0, W0 = w1.alloc (.cells #[.int .i64 n] 3) := ⟨_, rfl⟩
  rw [← hW0, ← hbn]
  have hs := S1.out
  have hB0 : Below W.heap.size W W0 := by rw [hW0]; exact below_alloc B1.out _
  have hB1 : Below w1.heap.size w1 W0 := by rw [hW0]; exact below_alloc (Below.refl _ w1) _
  have hs0 : W0.heap.size = bn + 1 := by rw [hW0, hbn]; simp
  have CY0 := Lib.hid (show W0.cell? ⟨W.heap.size, 0, none⟩ = some (.func (.yield l) #[] #[]) from (hB1.cell (p := ⟨W.heap.size, 0, none⟩) (show W.heap.size < w1.heap.size by omega)).trans CY.out)
  have CR0 := Lib.hid (show W0.cell? ⟨bn, 0, none⟩ = some (.int .i64 n) by rw [hW0, hbn]; have := World.cell?_alloc_new w1 #[.int .i64 n] 3 0; simp)
  have hbW : W.heap.size < bn := by omega
  have HB0 := Lib.hid hB0
  have S0 := Lib.hid hs0
  clear hW0 hB0 hB1 hs hbn hs0 CY B1 S1
  refine wp_seq (gf := 136) (lb := #[.pointer (some ⟨bn, 0, none⟩)]) (tI := 3) rfl (enters_of Tryd.func136 (by kernel_rfl) rfl) rfl (R := fun k => k = bn) (LL := roundsTo n n)
    (seq_rounds n bn W0 hn2 hn5 CR0.out) (fun k => V k ∨ k ≤ W.heap.size) ?hR
    (fun Vi pre Wx => ∃ V1, Vi = (fun k => V1 k ∨ k ≤ W.heap.size) ∧ (¬ V1 W.heap.size ∧ ¬ V1 Bt) ∧ J V1 (gainL n F pre) Wx ∧ Wx.cell? ⟨W.heap.size, 0, none⟩ = some (.func (.yield l) #[] #[]) ∧ ArrAt Wx Bt 52 25 F)
    (fun c Vi pre Wx => c = .ret ∧ ∃ V1, Vi = (fun k => V1 k ∨ k ≤ W.heap.size) ∧ (¬ V1 W.heap.size ∧ ¬ V1 Bt) ∧ Jx V1 (gainL n F pre) Wx ∧ Wx.cell? ⟨W.heap.size, 0, none⟩ = some (.func (.yield l) #[] #[]))
    ?cI ?cIx ?start
    (fun v a' _ => a' = { tmps := #[.func (.yield l) #[] #[], .pointer (some ⟨Bt, 0, none⟩), .pointer (some ⟨W.heap.size, 0, none⟩), v, .agg (cellsV 25 F), .int .i64 n, .func (.func 136) #[] #[.pointer (some ⟨bn, 0, none⟩)], v, undef, undef, undef, undef, undef, undef, undef, undef, undef], defers := [] })
    (fun v a' W l r o h _ => h) ?assign ?body ?done ?stop
  case hR =>
    intro k hk
    subst hk
    refine ⟨fun h => ?_, by have := S0.out; omega⟩
    rcases h with h | h
    · have := hJ.lies _ _ _ H0.out _ h; omega
    · omega
  case cI =>
    constructor
    · rintro Vi pre Wx ⟨V1, rfl, h1, h3, h4, h6⟩ k (hk | hk)
      · exact hJ.lies _ _ _ h3 k hk
      · have := World.block_lt_of_cell? _ _ h4
        exact Nat.lt_of_le_of_lt hk this
    · rintro Vi pre A B ⟨V1, rfl, h1, h3, h4, h6⟩ hin
      exact ⟨V1, rfl, h1, hJ.steady _ _ _ _ h3 (hin.mono fun k hk => .inl hk), hin.cell (p := ⟨W.heap.size, 0, none⟩) (.inr (Nat.le_refl _)) h4, h6.of_block (hin.block Bt (.inr (Nat.le_of_lt hBt)))⟩
  case cIx =>
    intro c
    constructor
    · rintro Vi pre Wx ⟨rfl, V1, rfl, h1, h3, h4⟩ k (hk | hk)
      · exact hJx.lies _ _ _ h3 k hk
      · have := World.block_lt_of_cell? _ _ h4
        exact Nat.lt_of_le_of_lt hk this
    · rintro Vi pre A B ⟨rfl, V1, rfl, h1, h3, h4⟩ hin
      exact ⟨rfl, V1, rfl, h1, hJx.steady _ _ _ _ h3 (hin.mono fun k hk => .inl hk), hin.cell (p := ⟨W.heap.size, 0, none⟩) (.inr (Nat.le_refl _)) h4⟩
  case start =>
    refine ⟨V, rfl, ⟨fun h => ?_, HB.out⟩, hJ.steady _ _ _ _ H0.out (Inside.of_below HB0.out (hJ.lies _ _ _ H0.out)), CY0.out, hAW.below hBt HB0.out⟩
    have := hJ.lies _ _ _ H0.out _ h; omega
  case assign =>
    intro l' v Wx K hK
    gi_wp2
    exact hK _ _ (Outside.refl _ _) rfl
  case done =>
    rintro D Vi Wx hD hVi hnD ⟨V1, rfl, h1, h3, h4, h6⟩ hKD
    gi_wp2
    refine ⟨by simp, .inl ⟨_, _, rfl, run_takeDeferred hKD, ?_⟩⟩
    exact ⟨_, results_none rfl _ _ _, ⟨_, rfl⟩, .inl ⟨V1, hJ.steady _ _ _ _ h3 (Inside.putObj (fun h => hnD (.inl h)) _)⟩⟩
  case stop =>
    rintro D c Vi pre Wx hD hVi hnD hpre ⟨rfl, V1, rfl, h1, h3, h4⟩ hKD
    gi_wp2
    refine ⟨by simp, .inl ⟨_, _, rfl, run_takeDeferred hKD, ?_⟩⟩
    exact ⟨_, results_none rfl _ _ _, ⟨_, rfl⟩, .inr ⟨V1, _, gainL_front hpre, hJx.steady _ _ _ _ h3 (Inside.putObj (fun h => hnD (.inl h)) _)⟩⟩
  case body =>
    rintro l' Vi pre D gb cap a' Wx ⟨V1, rfl, h1, h3, h4, h6⟩ hpre hown hgb hVi rfl
    have hway := rounds_ways (n := n) (D := D) (by obtain ⟨z, hz⟩ := hpre; rw [← hz]; simp)
    have hgl := (owns_cap hown).2.2
    have hgs := (owns_cap hown).2.1
    have HO := Lib.hid hown
    have HJ := Lib.hid h3
    have HA := Lib.hid h6
    have N1 := Lib.hid h1
    have NG := Lib.hid hgb
    have PRE := Lib.hid hpre
    have C4 := Lib.hid h4
    have GB := Lib.hid (gainsBy_any n D.length cap F _ (nth D) Wx HF.out hn2 hway (owns_rd hown))
    have JL := Lib.hid (fun (w5 : World) (h : Below Wx.heap.size Wx w5) => hJ.steady _ _ _ _ HJ.out (Inside.of_below h (hJ.lies _ _ _ HJ.out)))
    clear h1 h3 h6 hpre hown hgb hVi hway h4
    by_cases hg : p12 n < roundV n (atF F) D.length (nth D)
    · have T1 := Lib.hid (tt_of hg)
      have GY := Lib.hid (gainL_yes (n := n) (F := F) (A := pre) (D := D) hg)
      clear hg
      gi_wp2_with (first
        | ((with_reducible refine arrI_load 25 _ _ _ _ _ _ F ?_ HA.out Tryd.underlying52 Tryd.sizeRates ?_); exact rfl)
        | (gi_at_call 108; refine (callsIn_wide.2 GB.out).mono ?_; rintro e w5 ⟨rfl, hb5⟩; rw [T1.out]; have B5 := Lib.hid hb5; have hcy := (hb5.cell (p := ⟨W.heap.size, 0, none⟩) (World.block_lt_of_cell? _ _ C4.out)).trans C4.out; obtain ⟨fn, tmps, assign, body, hy, hR⟩ := HY.out V1 (gainL n F pre) D gb cap w5 (JL.out w5 hb5) (by rw [← GY.out]; exact gainL_front PRE.out) (owns_base (owns_at HO.out (hb5.block gb hgl)) (by have := HB0.out.size; omega)) (fun h => NG.out (.inl h)); have HR := Lib.hid hR; clear hR hb5))
      refine (roundIn_wide HR.out).mono ?_
      have hcy5 := hcy
      have FIN := Lib.hid (show ∀ (W2 : World) (V2 : Nat → Prop), Outside V1 w5 W2 → (∀ k, V2 k → V1 k ∨ k = gb ∨ w5.heap.size ≤ k) →
          Outside (fun k => V1 k ∨ k ≤ W.heap.size) Wx W2 ∧ (∀ k, (V2 k ∨ k ≤ W.heap.size) → (V1 k ∨ k ≤ W.heap.size) ∨ k = gb ∨ Wx.heap.size ≤ k) ∧ (¬ V2 W.heap.size ∧ ¬ V2 Bt) ∧
          W2.cell? ⟨W.heap.size, 0, none⟩ = some (.func (.yield l) #[] #[]) ∧ ArrAt W2 Bt 52 25 F from fun W2 V2 ho hv => by
        have hrs := B5.out.size
        have hWx : W.heap.size < Wx.heap.size := World.block_lt_of_cell? _ _ C4.out
        have hA2 := HA.out.below HA.out.lt B5.out
        refine ⟨((Outside.of_below (V := fun k => V1 k ∨ k ≤ W.heap.size) B5.out).trans' ho (fun _ _ h => .inl h)), fun k hk => ?_, ⟨fun h => ?_, fun h => ?_⟩, ho.cell (p := ⟨W.heap.size, 0, none⟩) N1.out.1 hcy5, hA2.of_block (ho.block Bt hA2.lt N1.out.2)⟩
        · rcases hk with hk | hk
          · rcases hv k hk with h | h | h
            · exact .inl (.inl h)
            · exact .inr (.inl h)
            · exact .inr (.inr (by omega))
          · exact .inl (.inr hk)
        · rcases hv _ h with h | h | h
          · exact N1.out.1 h
          · exact NG.out (.inr (by omega))
          · omega
        · rcases hv _ h with h | h | h
          · exact N1.out.2 h
          · exact NG.out (.inr (by omega))
          · omega)
      rintro e W2 ⟨ho, V2, hv, (⟨rfl, hj⟩ | ⟨rfl, hj⟩)⟩
      · obtain ⟨f1, f2, f3, f5, f7⟩ := FIN.out W2 V2 ho hv
        have J2 := Lib.hid hj
        have F1 := Lib.hid f1
        have F2 := Lib.hid f2
        have F7 := Lib.hid f7
        clear hj ho hv hy HR FIN f1 f2 f7 hcy hcy5
        gi_wp2
        exact ⟨F1.out, _, F2.out, V2, rfl, f3, by rw [GY.out]; exact J2.out, f5, F7.out⟩
      · obtain ⟨f1, f2, f3, f5, f7⟩ := FIN.out W2 V2 ho hv
        have J2 := Lib.hid hj
        have F1 := Lib.hid f1
        have F2 := Lib.hid f2
        clear hj ho hv hy HR FIN f1 f2 f7 hcy hcy5
        gi_wp2
        exact ⟨F1.out, _, F2.out, rfl, V2, rfl, f3, by rw [GY.out]; exact J2.out, f5⟩
    · have T1 := Lib.hid (tt_no hg)
      have GY := Lib.hid (gainL_no (n := n) (F := F) (A := pre) (D := D) hg)
      clear hg
      gi_wp2_with (first
        | ((with_reducible refine arrI_load 25 _ _ _ _ _ _ F ?_ HA.out Tryd.underlying52 Tryd.sizeRates ?_); exact rfl)
        | (gi_at_call 108; refine (callsIn_wide.2 GB.out).mono ?_; rintro e w5 ⟨rfl, hb5⟩; rw [T1.out]; have B5 := Lib.hid hb5; clear hb5))
      exact ⟨Outside.of_below B5.out, _, fun k hk => .inl hk, V1, rfl, N1.out, by rw [GY.out]; exact JL.out _ B5.out, (B5.out.cell (p := ⟨W.heap.size, 0, none⟩) (World.block_lt_of_cell? _ _ C4.out)).trans C4.out, HA.out.below HA.out.lt B5.out⟩
end

section
open Go.RowKit
theorem flatMap_same {α β : Type} {f g : α → List β} : ∀ {l : List α}, (∀ x, x ∈ l → f x = g x) → l.flatMap f = l.flatMap g
  | [], _ => rfl
  | x :: l, h => by
    rw [List.flatMap_cons, List.flatMap_cons, h x (by simp), flatMap_same (fun y hy => h y (by simp [hy]))]
theorem longer_behind {n f : Nat} {B D : List Int} (h : D ∈ longer n f B) : B <+: D := by
  rw [← later_zero] at h
  exact later_behind f B D h
theorem nth_front {B D : List Int} (h : B <+: D) {i : Nat} (hi : i < B.length) : nth D i = nth B i := by
  obtain ⟨z, rfl⟩ := h
  unfold nth
  rw [List.getD_eq_getElem?_getD, List.getD_eq_getElem?_getD, List.getElem?_append_left hi]

/-- Behind a front that is greater than its first one, the rounds are those that go on with greater ones. -/
theorem later_rings {n a : Nat} : ∀ (f : Nat) (B : List Int), Diff n B → 1 ≤ B.length → nth B 0 = a → (∀ i, 1 ≤ i → i < B.length → (a : Int) < nth B i) →
    (longer n f B).filter (fun D => tt (IsRing n D.length (nth D))) = later n (a + 1) f B := by
  intro f
  induction f with
  | zero =>
    intro B hd h1 ha hgt
    unfold longer later
    by_cases e : 2 ≤ B.length
    · rw [if_pos e]
      have : IsRing n B.length (nth B) := ⟨⟨hd, e, diff_le hd⟩, fun i h1 h2 => by rw [ha]; exact hgt i h1 h2⟩
      simp [tt_of this]
    · rw [if_neg e]; rfl
  | succ f ih =>
    intro B hd h1 ha hgt
    unfold longer later
    rw [List.filter_append, List.filter_flatMap]
    congr 1
    · by_cases e : 2 ≤ B.length
      · rw [if_pos e]
        have : IsRing n B.length (nth B) := ⟨⟨hd, e, diff_le hd⟩, fun i h1 h2 => by rw [ha]; exact hgt i h1 h2⟩
        simp [tt_of this]
      · rw [if_neg e]; rfl
    · refine flatMap_same fun x hx => ?_
      rw [List.mem_range] at hx
      by_cases hin : (x : Int) ∈ B
      · rw [if_pos hin, if_neg (fun h => h.2 hin)]; rfl
      · rw [if_neg hin]
        by_cases hle : a + 1 ≤ x
        · rw [if_pos ⟨hle, hin⟩]
          refine ih (B ++ [(x : Int)]) ((hd.snoc_iff hx).2 hin) (by simp) (by rw [nth_snoc_lt (by omega), ha]) (fun i h1 h2 => ?_)
          rw [List.length_append] at h2
          simp only [List.length_cons, List.length_nil] at h2
          by_cases e : i < B.length
          · rw [nth_snoc_lt e]; exact hgt i h1 e
          · have : i = B.length := by omega
            rw [this, nth_snoc]; omega
        · rw [if_neg (fun h => hle h.1), List.filter_eq_nil_iff]
          intro D hD
          have hp := longer_behind hD
          have hne : ¬ IsRing n D.length (nth D) := fun hr => by
            have hl := hp.length_le
            rw [List.length_append] at hl
            simp only [List.length_cons, List.length_nil] at hl
            have h3 := hr.2 B.length h1 (by omega)
            rw [nth_front hp (show 0 < (B ++ [(x : Int)]).length by simp), nth_front hp (show B.length < (B ++ [(x : Int)]).length by simp), nth_snoc, nth_snoc_lt (by omega), ha] at h3
            omega
          rw [tt_no hne]; simp
theorem rounds_rings {n : Nat} (hn : 1 ≤ n) : (longer n n []).filter (fun D => tt (IsRing n D.length (nth D))) = roundsTo n n := by
  obtain ⟨f, rfl⟩ : ∃ f, n = f + 1 := ⟨n - 1, by omega⟩
  unfold longer roundsTo
  rw [if_neg (by simp), List.nil_append, List.filter_flatMap]
  refine flatMap_same fun x hx => ?_
  rw [List.mem_range] at hx
  rw [if_neg (by simp), List.nil_append]
  exact later_rings f [(x : Int)] (diff_one hx) (by simp) rfl (fun i h1 h2 => by simp at h2; omega)

theorem tt_and {p q : Prop} : tt (p ∧ q) = (tt p && tt q) := by
  by_cases h1 : p
  · by_cases h2 : q
    · rw [tt_of h1, tt_of h2, tt_of ⟨h1, h2⟩]; rfl
    · rw [tt_no h2, tt_no (fun h => h2 h.2)]; simp
  · rw [tt_no h1, tt_no (fun h => h1 h.1)]; rfl
theorem gainL_gaining {n : Nat} {L : Nat → Nat} {Z : Nat → Nat → Int} (h : IsRates n L Z) : gainL n (rateF n L Z) (roundsTo n n) = gaining n Z := by
  have hn : 1 ≤ n := by have := h.1.1; omega
  unfold gainL gaining
  rw [← rounds_rings hn, List.filter_filter]
  refine List.filter_congr fun D hD => ?_
  by_cases hr : IsRing n D.length (nth D)
  · have e : roundV n (atF (rateF n L Z)) D.length (nth D) = roundV n Z D.length (nth D) := valF_congr _ (fun j hj => by
      have h1 := closeF_in hr.1 j
      have h2 := closeF_in hr.1 (j + 1)
      exact atF_rate h (by omega) (by omega))
    rw [e, show Gains n Z D = (IsRing n D.length (nth D) ∧ p12 n < roundV n Z D.length (nth D)) from rfl, tt_and, Bool.and_comm]
  · rw [tt_no hr, tt_no (show ¬ Gains n Z D from fun h => hr h.1)]; simp
end

end Go.Proofs.YtabdbgnkiebcdaaDoor
