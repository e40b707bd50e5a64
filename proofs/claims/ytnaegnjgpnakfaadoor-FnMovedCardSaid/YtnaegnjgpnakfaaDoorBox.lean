/- Results through a cell: a small law. -/
import Derived.Test.YtnaegnjgpnakfaaDoorMem
namespace Go.Proofs.YtnaegnjgpnakfaaDoor
set_option linter.unusedVariables false
open Go.RowKit

/-- The results of a function that hands back a struct in a block of its own and a plain value. -/
theorem results_box_tmp {P : Program} {fn : Func} {p q : Tmp} {ty : TypeId} (h : fn.results = #[.cell p ty, .tmp q]) (tmps : Array Value) (w : World) (g : Nat) (t : TypeId) (cs : Array Value) (fr : Nat × Nat) (d : TypeDesc)
    (hp : tmps.getD p undef = .pointer (some ⟨g, 0, none⟩)) (hg : w.heap[g]? = some (.cells cs t fr)) (hu : P.underlying ty = some d) (hd : (match d with | .struct _ | .array _ _ => true | _ => false) = true) (hi : (P.info? ty).map (·.size) = some cs.size) :
    (results fn tmps).run P w = .ok (.tuple #[.agg cs, tmps.getD q undef]) w := by
  have hp' : tmps[p]?.getD undef = .pointer (some ⟨g, 0, none⟩) := by simpa using hp
  simp [results, h, hp', asAddr, run_loadVar_row w g t ty cs fr d hg hu hd hi]

theorem heap_two (w : World) (A B : Obj) : ((w.alloc A).alloc B).heap[w.heap.size]? = some A := by
  rw [Below.heap_alloc _ _ _ (by simp)]
  exact heap_alloc_last w A

/-- Block g is a struct of one word v, of type t. -/
def BoxAt (w : World) (g t : Nat) (v : Value) : Prop := w.heap[g]? = some (.cells #[v] t (0, 0))

namespace BoxAt
variable {w w' : World} {g t : Nat} {v u : Value}
theorem cell (h : BoxAt w g t v) : w.cell? ⟨g, 0, none⟩ = some v := cell_of_row w g 0 #[v] t (0, 0) h
theorem frozen (h : BoxAt w g t v) (j : Nat) : w.frozen? ⟨g, j, none⟩ = false := frozen_of_row w g j _ t h
theorem lt (h : BoxAt w g t v) : g < w.heap.size := (Array.getElem?_eq_some_iff.1 h).1
theorem of_block (h : BoxAt w g t v) (e : w'.heap[g]? = w.heap[g]?) : BoxAt w' g t v := e.trans h
theorem below {B : Nat} (h : BoxAt w g t v) (hB : g < B) (hb : Below B w w') : BoxAt w' g t v := h.of_block (hb.block g hB)
theorem new (w : World) (t : Nat) (v : Value) : BoxAt (w.alloc (.cells #[v] t)) w.heap.size t v := heap_alloc_last w _
end BoxAt

section
variable {P : Program} {ops : Array Oper} {rest : List Oper} {a : Act} {w : World} {Q : Exit → Act → World → Prop} {d : Option Nat} {ot : TypeId} {pos : String} {aft : Array Edge}

/-- 'var x S', a struct of one word: a new block. -/
theorem box_alloc (ty : Nat) (v : Value) (hz : (zeroValue ty).run P w = .ok (.agg #[v]) w)
    (h : ∀ w1, BoxAt w1 w.heap.size ty v → w1.heap.size = w.heap.size + 1 → Below w.heap.size w w1 → wpList P ops Q rest (a.put d (.pointer (some ⟨w.heap.size, 0, none⟩))) w1) :
    wpList P ops Q (⟨d, Op.alloc ty, ot, pos, aft, none⟩ :: rest) a w := by
  refine wpList_plain rfl fun K hK' => ?_
  have := h (w.alloc (.cells #[v] ty)) (BoxAt.new w ty _) (by simp) ((Below.refl _ _).alloc (Nat.le_refl _) _)
  unfold Oper.wp execOp
  simp [Instr.alloc, hz, newVar, newRow, newObj, Value.cells]
  exact hK' _ _ this

/-- A parameter that is a struct of one word: a new block. -/
theorem box_box (ty : Nat) (x : Operand) (v : Value) (hx : a.eval x = .agg #[v])
    (h : ∀ w1, BoxAt w1 w.heap.size ty v → w1.heap.size = w.heap.size + 1 → Below w.heap.size w w1 → wpList P ops Q rest (a.put d (.pointer (some ⟨w.heap.size, 0, none⟩))) w1) :
    wpList P ops Q (⟨d, Op.box ty x, ot, pos, aft, none⟩ :: rest) a w := by
  refine wpList_plain rfl fun K hK' => ?_
  have := h (w.alloc (.cells #[v] ty)) (BoxAt.new w ty _) (by simp) ((Below.refl _ _).alloc (Nat.le_refl _) _)
  unfold Oper.wp execOp
  simp [Instr.box, hx, newVar, newRow, newObj, Value.cells]
  exact hK' _ _ this

/-- A whole struct is loaded. -/
theorem box_load (ty t : Nat) (x : Operand) (g : Nat) (v : Value) (dd : TypeDesc) (hx : a.eval x = .pointer (some ⟨g, 0, none⟩)) (hg : BoxAt w g t v) (hu : P.underlying ty = some dd) (hd : (match dd with | .struct _ | .array _ _ => true | _ => false) = true) (hi : (P.info? ty).map (·.size) = some 1)
    (h : wpList P ops Q rest (a.put d (.agg #[v])) w) : wpList P ops Q (⟨d, Op.load ty x, ot, pos, aft, none⟩ :: rest) a w :=
  wpList_load_row rfl ty x rfl g hx t #[v] (0, 0) _ hg hu hd hi h

/-- .. behind a guard that let it. -/
theorem box_load_g (ty t : Nat) (x : Operand) (gd : Nat × Bool) (g : Nat) (v : Value) (dd : TypeDesc) (hw : Region.wanted (⟨d, Op.load ty x, ot, pos, aft, some gd⟩ : Oper) (yielded ops a.tmps) = true) (hx : a.eval x = .pointer (some ⟨g, 0, none⟩)) (hg : BoxAt w g t v) (hu : P.underlying ty = some dd) (hd : (match dd with | .struct _ | .array _ _ => true | _ => false) = true) (hi : (P.info? ty).map (·.size) = some 1)
    (h : wpList P ops Q rest (a.put d (.agg #[v])) w) : wpList P ops Q (⟨d, Op.load ty x, ot, pos, aft, some gd⟩ :: rest) a w :=
  wpList_step fun K hK => by
    rw [if_pos hw]
    exact wp_load_row ty x rfl g hx t #[v] (0, 0) _ hg hu hd hi (hK _ _ h)

/-- A whole struct is stored. -/
theorem box_store (ty t : Nat) (x y : Operand) (g : Nat) (v u : Value) (hx : a.eval x = .pointer (some ⟨g, 0, none⟩)) (hy : a.eval y = .agg #[u]) (hg : BoxAt w g t v) (hi : (P.info? ty).map (·.size) = some 1) (hu : u.oneCell' = true)
    (h : ∀ w1, BoxAt w1 g t u → w1.heap.size = w.heap.size → (∀ k, k ≠ g → w1.heap[k]? = w.heap[k]?) → Below g w w1 → wpList P ops Q rest (a.put d undef) w1) : wpList P ops Q (⟨d, Op.store ty x y, ot, pos, aft, none⟩ :: rest) a w := by
  refine wpList_plain rfl fun K hK' => ?_
  refine wp_store_row ty x y rfl g #[u] hx hy t #[v] hg hi rfl (by simp [hu]) (hK' _ _ ?_)
  exact h _ (setRow_heap w g #[v] #[u] t (0, 0) hg) (by simp) (fun k hk => setRow_other w g k _ hk) (below_setRow w _ (Nat.le_refl _))
end

section
variable {P : Program} {ops : Array Oper} {a : Act} {w : World} {K : Act → World → Prop} {Q : Exit → Act → World → Prop} {E : Prop} {d : Option Nat} {ot : TypeId} {pos : String} {aft : Array Edge}
theorem step_arr_load (n ty m e t : Nat) (x : Operand) (g : Nat) (F : Nat → Int) (hx : a.eval x = .pointer (some ⟨g, 0, none⟩)) (hg : ArrAt w g t n F) (hu : P.underlying ty = some (.array m e)) (hi : (P.info? ty).map (·.size) = some n)
    (h : K (a.put d (.agg (cellsV n F))) w) : if Region.wanted (⟨d, Op.load ty x, ot, pos, aft, none⟩ : Oper) (yielded ops a.tmps) = true then Oper.wp P (⟨d, Op.load ty x, ot, pos, aft, none⟩ : Oper) a w K Q else E := by
  rw [if_pos (by simp [Region.wanted])]
  exact wp_load_row ty x rfl g hx t (cellsV n F) (0, 0) _ hg hu rfl (by rw [cellsV_size]; exact hi) h
theorem step_arr_store (n ty t : Nat) (x y : Operand) (g : Nat) (F G : Nat → Int) (hx : a.eval x = .pointer (some ⟨g, 0, none⟩)) (hy : a.eval y = .agg (cellsV n G)) (hg : ArrAt w g t n F) (hi : (P.info? ty).map (·.size) = some n)
    (h : ∀ w1, ArrAt w1 g t n G → w1.heap.size = w.heap.size → (∀ k, k ≠ g → w1.heap[k]? = w.heap[k]?) → Below g w w1 → K (a.put d undef) w1) : if Region.wanted (⟨d, Op.store ty x y, ot, pos, aft, none⟩ : Oper) (yielded ops a.tmps) = true then Oper.wp P (⟨d, Op.store ty x y, ot, pos, aft, none⟩ : Oper) a w K Q else E := by
  rw [if_pos (by simp [Region.wanted])]
  refine wp_store_row ty x y rfl g (cellsV n G) hx hy t (cellsV n F) hg (by rw [cellsV_size]; exact hi) (by rw [cellsV_size, cellsV_size]) (cellsV_one n G) ?_
  exact h _ (setRow_heap w g (cellsV n F) (cellsV n G) t (0, 0) hg) (by simp) (fun k hk => setRow_other w g k _ hk) (below_setRow w _ (Nat.le_refl _))
theorem step_box_load (ty t : Nat) (x : Operand) (g : Nat) (v : Value) (dd : TypeDesc) (hx : a.eval x = .pointer (some ⟨g, 0, none⟩)) (hg : BoxAt w g t v) (hu : P.underlying ty = some dd) (hd : (match dd with | .struct _ | .array _ _ => true | _ => false) = true) (hi : (P.info? ty).map (·.size) = some 1)
    (h : K (a.put d (.agg #[v])) w) : if Region.wanted (⟨d, Op.load ty x, ot, pos, aft, none⟩ : Oper) (yielded ops a.tmps) = true then Oper.wp P (⟨d, Op.load ty x, ot, pos, aft, none⟩ : Oper) a w K Q else E := by
  rw [if_pos (by simp [Region.wanted])]
  exact wp_load_row ty x rfl g hx t #[v] (0, 0) _ hg hu hd hi h
theorem step_box_store (ty t : Nat) (x y : Operand) (g : Nat) (v u : Value) (hx : a.eval x = .pointer (some ⟨g, 0, none⟩)) (hy : a.eval y = .agg #[u]) (hg : BoxAt w g t v) (hi : (P.info? ty).map (·.size) = some 1) (hu : u.oneCell' = true)
    (h : ∀ w1, BoxAt w1 g t u → w1.heap.size = w.heap.size → (∀ k, k ≠ g → w1.heap[k]? = w.heap[k]?) → Below g w w1 → K (a.put d undef) w1) : if Region.wanted (⟨d, Op.store ty x y, ot, pos, aft, none⟩ : Oper) (yielded ops a.tmps) = true then Oper.wp P (⟨d, Op.store ty x y, ot, pos, aft, none⟩ : Oper) a w K Q else E := by
  rw [if_pos (by simp [Region.wanted])]
  refine wp_store_row ty x y rfl g #[u] hx hy t #[v] hg hi rfl (by simp [hu]) ?_
  exact h _ (setRow_heap w g #[v] #[u] t (0, 0) hg) (by simp) (fun k hk => setRow_other w g k _ hk) (below_setRow w _ (Nat.le_refl _))
end

/-- The results of a function that hands back an array, a struct of one word and a plain value. -/
theorem results_arr_box_tmp {P : Program} {fn : Func} {p q r : Tmp} {ty ty' : TypeId} (h : fn.results = #[.cell p ty, .cell q ty', .tmp r]) (tmps : Array Value) (w : World) (g t n m e : Nat) (F : Nat → Int) (g' t' : Nat) (v : Value) (dd : TypeDesc)
    (hp : tmps.getD p undef = .pointer (some ⟨g, 0, none⟩)) (hg : ArrAt w g t n F) (hu : P.underlying ty = some (.array m e)) (hi : (P.info? ty).map (·.size) = some n)
    (hq : tmps.getD q undef = .pointer (some ⟨g', 0, none⟩)) (hg' : BoxAt w g' t' v) (hu' : P.underlying ty' = some dd) (hd : (match dd with | .struct _ | .array _ _ => true | _ => false) = true) (hi' : (P.info? ty').map (·.size) = some 1) :
    (results fn tmps).run P w = .ok (.tuple #[.agg (cellsV n F), .agg #[v], tmps.getD r undef]) w := by
  have hp' : tmps[p]?.getD undef = .pointer (some ⟨g, 0, none⟩) := by simpa using hp
  have hq' : tmps[q]?.getD undef = .pointer (some ⟨g', 0, none⟩) := by simpa using hq
  simp [results, h, hp', hq', asAddr, run_loadVar_row w g t ty (cellsV n F) (0, 0) _ hg hu rfl (by rw [cellsV_size]; exact hi), run_loadVar_row w g' t' ty' #[v] (0, 0) _ hg' hu' hd hi']
end Go.Proofs.YtnaegnjgpnakfaaDoor
