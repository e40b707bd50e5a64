/- Guarded operations in a region whose operations read or make memory. -/
import Derived.Test.YtmjbocgoinfamaaLater
import Derived.Test.YtmjbocgoinfamaaArrEq
namespace Go.Proofs.Ytmjbocgoinfamaa
set_option linter.unusedVariables false
open Go.RowKit

section
variable {P : Program} {ops : Array Oper} {C : World → Prop} {Q : Act → Prop} {a : Act} {rest : List Oper} {d : Option Nat} {ot : TypeId} {pos : String} {aft : Array Edge}

/-- A whole array is loaded, behind a guard that let it. -/
theorem quiet_load_arr_g (n ty m e t : Nat) (x : Operand) (gd : Nat × Bool) (g : Nat) (F : Nat → Int) (hw : Region.wanted (⟨d, Op.load ty x, ot, pos, aft, some gd⟩ : Oper) (yielded ops a.tmps) = true) (hx : a.eval x = .pointer (some ⟨g, 0, none⟩)) (hg : ∀ w, C w → ArrAt w g t n F) (hu : P.underlying ty = some (.array m e)) (hi : (P.info? ty).map (·.size) = some n)
    (h : wpQuiet P ops C Q rest (a.put d (.agg (cellsV n F)))) : wpQuiet P ops C Q (⟨d, Op.load ty x, ot, pos, aft, some gd⟩ :: rest) a := by
  unfold wpQuiet
  rw [if_pos hw]
  refine ⟨.agg (cellsV n F), fun w hC => ?_, h⟩
  unfold Oper.quietAt execOp
  simp only [hx, Instr.loadAt, Instr.sureAddr, Sem.run_bind, Sem.run_pure, Result.andThen_ok, run_loadVar_row w g t ty (cellsV n F) (0, 0) _ (hg w hC) hu rfl (by rw [cellsV_size]; exact hi)]
  exact ⟨rfl, rfl⟩

/-- Two structs or arrays are compared, behind a guard that let it. -/
theorem quiet_eql_g (ty ty' : Nat) (x y : Operand) (gd : Nat × Bool) (xs ys : Array Value) (b : Bool)
    (hw : Region.wanted (⟨d, Op.binOp .eql ty x y ty', ot, pos, aft, some gd⟩ : Oper) (yielded ops a.tmps) = true) (hx : a.eval x = .agg xs) (hy : a.eval y = .agg ys) (hm : P.eqGuardType P.depth ty = false) (hrun : ∀ w, (binOp .eql ty (.agg xs) (.agg ys)).run P w = .ok (.bool b) w)
    (h : wpQuiet P ops C Q rest (a.put d (.bool b))) : wpQuiet P ops C Q (⟨d, Op.binOp .eql ty x y ty', ot, pos, aft, some gd⟩ :: rest) a := by
  unfold wpQuiet
  rw [if_pos hw]
  refine ⟨.bool b, fun w hC => ?_, h⟩
  unfold Oper.quietAt execOp
  simp only [hx, hy, Sem.run_bind, run_eqGuard_agg _ _ _ _ _ _ _ hm, hrun, Result.andThen_ok]
  exact ⟨rfl, rfl⟩
end
end Go.Proofs.Ytmjbocgoinfamaa
