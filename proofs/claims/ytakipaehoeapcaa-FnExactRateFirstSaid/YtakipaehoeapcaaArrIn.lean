/- Arrays as one word in a fenced walk. -/
import Derived.Test.YtakipaehoeapcaaArr
import Derived.CallsIn
import Derived.TacticsIn
namespace Go.Proofs.Ytakipaehoeapcaa
set_option linter.unusedVariables false
open Go.RowKit

section
variable {Fc : Fence} {N : Nat} {P : Program} {ops : Array Oper} {rest : List Oper} {a : Act} {w : World} {Q : Exit → Act → World → Prop} {d : Option Nat} {ot : TypeId} {pos : String} {aft : Array Edge}

theorem wpIn_of_run {o : Oper} {v : Value} {w' : World} {K : Act → World → Prop} (hd : ∀ c, o.op ≠ .defer c) (hab : o.about P w a.eval = none) (h : (execOp a.eval o).run P w = .ok (.value v) w') (hK : K (a.put o.dst v) w') : o.wpIn Fc N P a w K Q := by
  refine ⟨fun f hf => (by rw [hab] at hf; cases hf), ?_⟩
  rw [Oper.semAt_eq _ _ _ hd, h]
  exact hK

theorem arrI_load_g (n ty m e t : Nat) (x : Operand) (gd : Option (Nat × Bool)) (g : Nat) (F : Nat → Int) (hw : Region.wanted (⟨d, Op.load ty x, ot, pos, aft, gd⟩ : Oper) (yielded ops a.tmps) = true) (hx : a.eval x = .pointer (some ⟨g, 0, none⟩)) (hg : ArrAt w g t n F) (hu : P.underlying ty = some (.array m e)) (hi : (P.info? ty).map (·.size) = some n)
    (h : wpListIn Fc N P ops Q rest (a.put d (.agg (cellsV n F))) w) : wpListIn Fc N P ops Q (⟨d, Op.load ty x, ot, pos, aft, gd⟩ :: rest) a w :=
  wpListIn_step fun K hK => by
    rw [if_pos hw]
    refine wpIn_of_run (by intro c hc; cases hc) (by simp [Oper.about]) (v := .agg (cellsV n F)) (w' := w) ?_ (hK _ _ h)
    unfold execOp
    simp only [hx, Instr.loadAt, Instr.sureAddr, Sem.run_bind, Sem.run_pure, Result.andThen_ok, run_loadVar_row w g t ty (cellsV n F) (0, 0) _ hg hu rfl (by rw [cellsV_size]; exact hi)]

theorem arrI_load (n ty m e t : Nat) (x : Operand) (g : Nat) (F : Nat → Int) (hx : a.eval x = .pointer (some ⟨g, 0, none⟩)) (hg : ArrAt w g t n F) (hu : P.underlying ty = some (.array m e)) (hi : (P.info? ty).map (·.size) = some n)
    (h : wpListIn Fc N P ops Q rest (a.put d (.agg (cellsV n F))) w) : wpListIn Fc N P ops Q (⟨d, Op.load ty x, ot, pos, aft, none⟩ :: rest) a w :=
  arrI_load_g n ty m e t x none g F rfl hx hg hu hi h

/-- The same, at a step of a region that draws its order. -/
theorem arrS_load (n ty m e t : Nat) (x : Operand) (gd : Option (Nat × Bool)) (g : Nat) (F : Nat → Int) {K : Act → World → Prop} {E : Prop} (hw : Region.wanted (⟨d, Op.load ty x, ot, pos, aft, gd⟩ : Oper) (yielded ops a.tmps) = true) (hx : a.eval x = .pointer (some ⟨g, 0, none⟩)) (hg : ArrAt w g t n F) (hu : P.underlying ty = some (.array m e)) (hi : (P.info? ty).map (·.size) = some n)
    (h : K (a.put d (.agg (cellsV n F))) w) : if Region.wanted (⟨d, Op.load ty x, ot, pos, aft, gd⟩ : Oper) (yielded ops a.tmps) = true then Oper.wpIn Fc N P (⟨d, Op.load ty x, ot, pos, aft, gd⟩ : Oper) a w K Q else E := by
  rw [if_pos hw]
  refine wpIn_of_run (by intro c hc; cases hc) (by simp [Oper.about]) (v := .agg (cellsV n F)) (w' := w) ?_ h
  unfold execOp
  simp only [hx, Instr.loadAt, Instr.sureAddr, Sem.run_bind, Sem.run_pure, Result.andThen_ok, run_loadVar_row w g t ty (cellsV n F) (0, 0) _ hg hu rfl (by rw [cellsV_size]; exact hi)]

theorem arrI_alloc (n ty : Nat) (hz : (zeroValue ty).run P w = .ok (.agg (cellsV n fun _ => 0)) w)
    (h : ∀ w1, ArrAt w1 w.heap.size ty n (fun _ => 0) → w1.heap.size = w.heap.size + 1 → Below w.heap.size w w1 → wpListIn Fc N P ops Q rest (a.put d (.pointer (some ⟨w.heap.size, 0, none⟩))) w1) :
    wpListIn Fc N P ops Q (⟨d, Op.alloc ty, ot, pos, aft, none⟩ :: rest) a w := by
  refine wpListIn_plain rfl fun K hK' => ?_
  have := h (w.alloc (.cells (cellsV n fun _ => 0) ty)) (ArrAt.new w ty n _) (by simp) ((Below.refl _ _).alloc (Nat.le_refl _) _)
  refine wpIn_of_run (by intro c hc; cases hc) (by simp [Oper.about]) (v := .pointer (some ⟨w.heap.size, 0, none⟩)) (w' := w.alloc (.cells (cellsV n fun _ => 0) ty)) ?_ (hK' _ _ this)
  unfold execOp
  simp [Instr.alloc, hz, newVar, newRow, newObj, Value.cells]
  rfl

theorem arrI_store (n ty t : Nat) (x y : Operand) (g : Nat) (F G : Nat → Int) (hx : a.eval x = .pointer (some ⟨g, 0, none⟩)) (hy : a.eval y = .agg (cellsV n G)) (hg : ArrAt w g t n F) (hi : (P.info? ty).map (·.size) = some n)
    (h : ∀ w1, ArrAt w1 g t n G → w1.heap.size = w.heap.size → (∀ k, k ≠ g → w1.heap[k]? = w.heap[k]?) → Below g w w1 → wpListIn Fc N P ops Q rest (a.put d undef) w1) : wpListIn Fc N P ops Q (⟨d, Op.store ty x y, ot, pos, aft, none⟩ :: rest) a w := by
  refine wpListIn_plain rfl fun K hK' => ?_
  have := h (w.setRow g (cellsV n G)) (setRow_heap w g (cellsV n F) (cellsV n G) t (0, 0) hg) (by simp) (fun k hk => setRow_other w g k _ hk) (below_setRow w _ (Nat.le_refl _))
  refine ⟨fun f hf => by simp [Oper.about] at hf, ?_⟩
  rw [Oper.semAt_eq _ _ _ (by intro c hc; cases hc)]
  have he : (execOp a.eval (⟨d, Op.store ty x y, ot, pos, aft, none⟩ : Oper)).run P w = .ok .skip (w.setRow g (cellsV n G)) := by
    unfold execOp
    simp only [hx, hy, Instr.storeAt, Instr.sureAddr, Sem.run_bind, Sem.run_pure, Result.andThen_ok, run_storeVar_row w g t ty (cellsV n F) (cellsV n G) hg (by rw [cellsV_size]; exact hi) (by rw [cellsV_size, cellsV_size]) (cellsV_one n G)]
  rw [he]
  exact hK' _ _ this
end
end Go.Proofs.Ytakipaehoeapcaa
