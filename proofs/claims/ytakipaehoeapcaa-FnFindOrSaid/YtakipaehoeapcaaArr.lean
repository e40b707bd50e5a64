/- Arrays of integers as whole blocks: laws for the walk in which the cells stay one word. -/
import Derived.Test.YtakipaehoeapcaaMem
import Derived.Deep.WholeRow
import Derived.Deep.MidRow
namespace Go.Proofs.Ytakipaehoeapcaa
set_option linter.unusedVariables false
open Go.RowKit

/-- n cells of integers. -/
def cellsV (n : Nat) (F : Nat → Int) : Array Value := ((List.range n).map fun j => Value.int .i64 (F j)).toArray

theorem cellsV_size (n : Nat) (F : Nat → Int) : (cellsV n F).size = n := by simp [cellsV]
theorem cellsV_get {n j : Nat} (F : Nat → Int) (h : j < n) : (cellsV n F)[j]? = some (.int .i64 (F j)) := by simp [cellsV, h]
theorem cellsV_one (n : Nat) (F : Nat → Int) : (cellsV n F).all (·.oneCell') = true := by
  rw [Array.all_eq_true_iff_forall_mem]
  intro x hx
  simp only [cellsV, List.mem_toArray, List.mem_map] at hx
  obtain ⟨j, _, rfl⟩ := hx
  rfl
theorem cellsV_congr {n : Nat} {F G : Nat → Int} (h : ∀ j, j < n → F j = G j) : cellsV n F = cellsV n G := by
  unfold cellsV
  congr 1
  exact List.map_congr_left fun j hj => by rw [h j (List.mem_range.1 hj)]
theorem cellsV_set (n k : Nat) (F : Nat → Int) (x : Int) : (cellsV n F).setIfInBounds k (.int .i64 x) = cellsV n (fun j => if j = k then x else F j) := by
  apply Array.ext_getElem?
  intro j
  rw [Array.getElem?_setIfInBounds]
  by_cases hj : j < n
  · rw [cellsV_get F hj, cellsV_get _ hj]
    by_cases e : k = j
    · subst e; rw [if_pos rfl, if_pos (by rw [cellsV_size]; exact hj), if_pos rfl]
    · rw [if_neg e, if_neg (fun h => e h.symm)]
  · have e1 : (cellsV n F)[j]? = none := by simp [cellsV_size]; omega
    have e2 : (cellsV n (fun j => if j = k then x else F j))[j]? = none := by simp [cellsV_size]; omega
    rw [e2]
    by_cases e : k = j
    · subst e; simp [cellsV_size, hj]
    · rw [if_neg e, e1]

/-- Block g is n cells F 0, F 1, .. of type t. -/
def ArrAt (w : World) (g t n : Nat) (F : Nat → Int) : Prop := w.heap[g]? = some (.cells (cellsV n F) t (0, 0))

namespace ArrAt
variable {w w' : World} {g t n : Nat} {F G : Nat → Int}
theorem cell (h : ArrAt w g t n F) {j : Nat} (hj : j < n) : w.cell? ⟨g, j, none⟩ = some (.int .i64 (F j)) := by rw [cell_of_row w g j _ t (0, 0) h]; exact cellsV_get F hj
theorem frozen (h : ArrAt w g t n F) (j : Nat) : w.frozen? ⟨g, j, none⟩ = false := frozen_of_row w g j _ t h
theorem lt (h : ArrAt w g t n F) : g < w.heap.size := (Array.getElem?_eq_some_iff.1 h).1
theorem of_block (h : ArrAt w g t n F) (e : w'.heap[g]? = w.heap[g]?) : ArrAt w' g t n F := e.trans h
theorem below {B : Nat} (h : ArrAt w g t n F) (hB : g < B) (hb : Below B w w') : ArrAt w' g t n F := h.of_block (hb.block g hB)
theorem congr (h : ArrAt w g t n F) (e : ∀ j, j < n → F j = G j) : ArrAt w g t n G := by unfold ArrAt; rw [← cellsV_congr e]; exact h
theorem alloc (h : ArrAt w g t n F) (o : Obj) : ArrAt (w.alloc o) g t n F := h.of_block (Below.heap_alloc w o g h.lt)
theorem new (w : World) (t n : Nat) (F : Nat → Int) : ArrAt (w.alloc (.cells (cellsV n F) t)) w.heap.size t n F := heap_alloc_last w _
theorem drewN (h : ArrAt w g t n F) (q : Nat) : ArrAt (w.drewN q) g t n F := by
  unfold ArrAt at *
  rw [show (w.drewN q).heap = w.heap from rfl]; exact h
theorem set (h : ArrAt w g t n F) (k : Nat) (x : Int) : ArrAt (w.setCell ⟨g, k, none⟩ (.int .i64 x)) g t n (fun j => if j = k then x else F j) := by
  have := heap_setCell_same w g k (cellsV n F) t (.int .i64 x) h
  rw [cellsV_set] at this
  exact this
theorem setOther (h : ArrAt w g t n F) {a : Addr} (ha : g ≠ a.block) (v : Value) : ArrAt (w.setCell a v) g t n F := h.of_block (Below.heap_setCell w a v g ha)
theorem row (h : ArrAt w g t n F) : w.rowIs g t n (fun i => .int .i64 (F i)) := ⟨_, h, cellsV_size n F, fun _ hi => cellsV_get F hi⟩
end ArrAt

theorem below_setRow {B g : Nat} (w : World) (cs : Array Value) (h : B ≤ g) : Below B w (w.setRow g cs) :=
  ⟨rfl, rfl, rfl, by simp, fun k hk => setRow_other w g k cs (by omega)⟩

section
variable {P : Program} {ops : Array Oper} {rest : List Oper} {a : Act} {w : World} {Q : Exit → Act → World → Prop} {d : Option Nat} {ot : TypeId} {pos : String} {aft : Array Edge}

/-- 'var x [n]int': a new block of zeros. -/
theorem arr_alloc (n ty : Nat) (hz : (zeroValue ty).run P w = .ok (.agg (cellsV n fun _ => 0)) w)
    (h : ∀ w1, ArrAt w1 w.heap.size ty n (fun _ => 0) → w1.heap.size = w.heap.size + 1 → Below w.heap.size w w1 → wpList P ops Q rest (a.put d (.pointer (some ⟨w.heap.size, 0, none⟩))) w1) :
    wpList P ops Q (⟨d, Op.alloc ty, ot, pos, aft, none⟩ :: rest) a w := by
  refine wpList_plain rfl fun K hK' => ?_
  have := h (w.alloc (.cells (cellsV n fun _ => 0) ty)) (ArrAt.new w ty n _) (by simp) ((Below.refl _ _).alloc (Nat.le_refl _) _)
  unfold Oper.wp execOp
  simp [Instr.alloc, hz, newVar, newRow, newObj, Value.cells]
  exact hK' _ _ this

/-- A parameter that is an array: a new block of its cells. -/
theorem arr_box (n ty : Nat) (x : Operand) (F : Nat → Int) (hx : a.eval x = .agg (cellsV n F))
    (h : ∀ w1, ArrAt w1 w.heap.size ty n F → w1.heap.size = w.heap.size + 1 → Below w.heap.size w w1 → wpList P ops Q rest (a.put d (.pointer (some ⟨w.heap.size, 0, none⟩))) w1) :
    wpList P ops Q (⟨d, Op.box ty x, ot, pos, aft, none⟩ :: rest) a w := by
  refine wpList_plain rfl fun K hK' => ?_
  have := h (w.alloc (.cells (cellsV n F) ty)) (ArrAt.new w ty n _) (by simp) ((Below.refl _ _).alloc (Nat.le_refl _) _)
  unfold Oper.wp execOp
  simp [Instr.box, hx, newVar, newRow, newObj, Value.cells]
  exact hK' _ _ this

/-- A whole array is loaded. -/
theorem arr_load (n ty m e t : Nat) (x : Operand) (g : Nat) (F : Nat → Int) (hx : a.eval x = .pointer (some ⟨g, 0, none⟩)) (hg : ArrAt w g t n F) (hu : P.underlying ty = some (.array m e)) (hi : (P.info? ty).map (·.size) = some n)
    (h : wpList P ops Q rest (a.put d (.agg (cellsV n F))) w) : wpList P ops Q (⟨d, Op.load ty x, ot, pos, aft, none⟩ :: rest) a w :=
  wpList_load_row rfl ty x rfl g hx t (cellsV n F) (0, 0) _ hg hu rfl (by rw [cellsV_size]; exact hi) h

/-- A whole array is loaded, behind a guard that let it. -/
theorem arr_load_g (n ty m e t : Nat) (x : Operand) (gd : Nat × Bool) (g : Nat) (F : Nat → Int) (hw : Region.wanted (⟨d, Op.load ty x, ot, pos, aft, some gd⟩ : Oper) (yielded ops a.tmps) = true) (hx : a.eval x = .pointer (some ⟨g, 0, none⟩)) (hg : ArrAt w g t n F) (hu : P.underlying ty = some (.array m e)) (hi : (P.info? ty).map (·.size) = some n)
    (h : wpList P ops Q rest (a.put d (.agg (cellsV n F))) w) : wpList P ops Q (⟨d, Op.load ty x, ot, pos, aft, some gd⟩ :: rest) a w :=
  wpList_step fun K hK => by
    rw [if_pos hw]
    exact wp_load_row ty x rfl g hx t (cellsV n F) (0, 0) _ hg hu rfl (by rw [cellsV_size]; exact hi) (hK _ _ h)

/-- A whole array is stored. -/
theorem arr_store (n ty t : Nat) (x y : Operand) (g : Nat) (F G : Nat → Int) (hx : a.eval x = .pointer (some ⟨g, 0, none⟩)) (hy : a.eval y = .agg (cellsV n G)) (hg : ArrAt w g t n F) (hi : (P.info? ty).map (·.size) = some n)
    (h : ∀ w1, ArrAt w1 g t n G → w1.heap.size = w.heap.size → (∀ k, k ≠ g → w1.heap[k]? = w.heap[k]?) → Below g w w1 → wpList P ops Q rest (a.put d undef) w1) : wpList P ops Q (⟨d, Op.store ty x y, ot, pos, aft, none⟩ :: rest) a w := by
  refine wpList_plain rfl fun K hK' => ?_
  refine wp_store_row ty x y rfl g (cellsV n G) hx hy t (cellsV n F) hg (by rw [cellsV_size]; exact hi) (by rw [cellsV_size, cellsV_size]) (cellsV_one n G) (hK' _ _ ?_)
  exact h _ (setRow_heap w g (cellsV n F) (cellsV n G) t (0, 0) hg) (by simp) (fun k hk => setRow_other w g k _ hk) (below_setRow w _ (Nat.le_refl _))

/-- A row of an array of rows, or an array's part, is loaded out of its block. -/
theorem arr_load_mid (n m ty l e t o : Nat) (x : Operand) (g : Nat) (F : Nat → Int) (hx : a.eval x = .pointer (some ⟨g, o, none⟩)) (hg : ArrAt w g t n F) (ho : o + m ≤ n) (hu : P.underlying ty = some (.array l e)) (hi : (P.info? ty).map (·.size) = some m)
    (h : wpList P ops Q rest (a.put d (.agg (cellsV m fun k => F (o + k)))) w) : wpList P ops Q (⟨d, Op.load ty x, ot, pos, aft, none⟩ :: rest) a w := by
  refine wpList_plain rfl fun K hK' => ?_
  have hr : w.rangeAt g o ((List.range m).map fun k => Value.int .i64 (F (o + k))) := by
    intro j v hv
    have hj : j < m := by
      rcases Nat.lt_or_ge j m with h' | h'
      · exact h'
      · rw [List.getElem?_eq_none (by simpa using h')] at hv; cases hv
    rw [hg.cell (show o + j < n by omega)]
    simpa [hj] using hv
  exact wp_load_mid ty x rfl g o hx _ _ hr hu rfl (by simpa using hi) (hK' _ _ h)

/-- A number out of an array by value. -/
theorem arr_index (n ty e : Nat) (x y : Operand) (F : Nat → Int) (k : IntKind) (i : Nat) (hx : a.eval x = .agg (cellsV n F)) (hy : a.eval y = .int k (i : Int)) (hin : i < n)
    (hu : P.underlying ty = some (.array n e)) (he : P.underlying e = some (.int .i64)) (hi : (P.info? e).map (·.size) = some 1)
    (h : wpList P ops Q rest (a.put d (.int .i64 (F i))) w) : wpList P ops Q (⟨d, Op.index ty x y, ot, pos, aft, none⟩ :: rest) a w := by
  refine wpList_plain rfl fun K hK' => ?_
  have hrun : (Instr.index ty (.agg (cellsV n F)) (.int k (i : Int))).run P w = .ok (.int .i64 (F i)) w := by
    have h2 : (underlying ty).run P w = .ok (.array n e) w := run_underlying hu w
    have h3 : (underlying e).run P w = .ok (.int .i64) w := run_underlying he w
    cases hq : P.info? e with
    | none => simp [hq] at hi
    | some inf =>
      have hs : inf.size = 1 := by simpa [hq] using hi
      have hc := cellsV_get F hin
      simp [Instr.index, asIntOf, h2, hin, sizeOf, typeInfo, hq, hs, part, isAgg, h3, hc]
  unfold Oper.wp execOp
  simp [hx, hy, hrun, Result.andThen]
  exact hK' _ _ h

/-- A row out of an array of rows by value. -/
theorem arr_index_row (n r m ty e e' : Nat) (x y : Operand) (F : Nat → Int) (k : IntKind) (i : Nat) (hx : a.eval x = .agg (cellsV n F)) (hy : a.eval y = .int k (i : Int)) (hin : i < r) (hn : i * m + m ≤ n)
    (hu : P.underlying ty = some (.array r e)) (he : P.underlying e = some (.array m e')) (hi : (P.info? e).map (·.size) = some m)
    (h : wpList P ops Q rest (a.put d (.agg (cellsV m fun j => F (i * m + j)))) w) : wpList P ops Q (⟨d, Op.index ty x y, ot, pos, aft, none⟩ :: rest) a w := by
  refine wpList_plain rfl fun K hK' => ?_
  have hex : (cellsV n F).extract (i * m) (i * m + m) = cellsV m fun j => F (i * m + j) := by
    apply Array.ext_getElem?
    intro j
    rw [Array.getElem?_extract]
    by_cases hj : j < m
    · rw [cellsV_get _ hj, if_pos (by rw [cellsV_size]; omega), cellsV_get F (by omega)]
    · rw [if_neg (by rw [cellsV_size]; omega)]
      simp [cellsV_size]; omega
  have hrun : (Instr.index ty (.agg (cellsV n F)) (.int k (i : Int))).run P w = .ok (.agg (cellsV m fun j => F (i * m + j))) w := by
    have h2 : (underlying ty).run P w = .ok (.array r e) w := run_underlying hu w
    have h3 : (underlying e).run P w = .ok (.array m e') w := run_underlying he w
    cases hq : P.info? e with
    | none => simp [hq] at hi
    | some inf =>
      have hs : inf.size = m := by simpa [hq] using hi
      simp [Instr.index, asIntOf, h2, hin, sizeOf, typeInfo, hq, hs, part, isAgg, h3, hex]
  unfold Oper.wp execOp
  simp [hx, hy, hrun, Result.andThen]
  exact hK' _ _ h

/-- The zero value of an array type is built. -/
theorem arr_build0 (n ty : Nat) (hb : P.built ty [] = some (cellsV n fun _ => 0)) (h : wpList P ops Q rest (a.put d (.agg (cellsV n fun _ => 0))) w) : wpList P ops Q (⟨d, Op.build ty #[], ot, pos, aft, none⟩ :: rest) a w :=
  wpList_build rfl ty #[] rfl (by simp [hb]) (by simpa [hb] using h)
end

/-- The first n numbers of an array of m that lies at ⟨g, o⟩, as a slice. -/
theorem run_slice_arr {P : Program} (ty e m n g o : Nat) (hu : P.underlying ty = some (.array m e)) (hi : (P.info? e).map (·.size) = some 1) (hm : 0 < m) (hn : n ≤ m) (w : World) :
    (Instr.sliceAt ty (.pointer (some ⟨g, o, none⟩)) none (some (.int .i64 (n : Int))) none).run P w = .ok (.slice (some ⟨g, o, none⟩) n m) w := by
  have h2 : (underlying ty).run P w = .ok (.array m e) w := run_underlying hu w
  have hb : (Instr.sliceBound (.int .i64 (n : Int)) m .sliceAlen).run P w = .ok n w := by
    simp [Instr.sliceBound, asIntOf]; omega
  cases hq : P.info? e with
  | none => simp [hq] at hi
  | some inf =>
    have hs : inf.size = 1 := by simpa [hq] using hi
    have hne : ¬ m = 0 := by omega
    simp [Instr.sliceAt, Instr.sureAddr, h2, Instr.sliceBounds, hb, sizeOf, typeInfo, hq, Addr.add]

/-- The results of a function that hands back an array and a plain value. -/
theorem results_arr_tmp {P : Program} {fn : Func} {p q : Tmp} {ty : TypeId} (h : fn.results = #[.cell p ty, .tmp q]) (tmps : Array Value) (w : World) (g t n m e : Nat) (F : Nat → Int)
    (hp : tmps.getD p undef = .pointer (some ⟨g, 0, none⟩)) (hg : ArrAt w g t n F) (hu : P.underlying ty = some (.array m e)) (hi : (P.info? ty).map (·.size) = some n) :
    (results fn tmps).run P w = .ok (.tuple #[.agg (cellsV n F), tmps.getD q undef]) w := by
  have hp' : tmps[p]?.getD undef = .pointer (some ⟨g, 0, none⟩) := by simpa using hp
  simp [results, h, hp', asAddr, run_loadVar_row w g t ty (cellsV n F) (0, 0) _ hg hu rfl (by rw [cellsV_size]; exact hi)]

/-- .. of one that hands back an array alone. -/
theorem results_arr {P : Program} {fn : Func} {p : Tmp} {ty : TypeId} (h : fn.results = #[.cell p ty]) (tmps : Array Value) (w : World) (g t n m e : Nat) (F : Nat → Int)
    (hp : tmps.getD p undef = .pointer (some ⟨g, 0, none⟩)) (hg : ArrAt w g t n F) (hu : P.underlying ty = some (.array m e)) (hi : (P.info? ty).map (·.size) = some n) :
    (results fn tmps).run P w = .ok (.agg (cellsV n F)) w :=
  results_cell_row h tmps w g t (cellsV n F) (0, 0) _ hp hg hu rfl (by rw [cellsV_size]; exact hi)
end Go.Proofs.Ytakipaehoeapcaa
