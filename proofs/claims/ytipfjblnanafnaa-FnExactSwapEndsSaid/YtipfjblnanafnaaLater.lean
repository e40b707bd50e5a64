/- A region that draws its order and whose operations read, or call what only makes new memory: one walk in the text's order serves. -/
import Derived.Test.YtipfjblnanafnaaMem
import Derived.Deep.QuietTactic
namespace Go.Proofs.Ytipfjblnanafnaa
set_option linter.unusedVariables false
open Go.RowKit

/-- A later world: all that is there in w is there as it was. -/
structure Later (w : World) where
  W : World
  h : Below w.heap.size w W
instance (w : World) : Nonempty (Later w) := ⟨⟨w, Below.refl _ _⟩⟩

theorem wp_region_later {P : Program} {id : Nat} {Q : Exit → Act → World → Prop} {a : Act} {w : World} {l : List Oper} (hm : P.follows .mixedOrders = true) (hB : Region.lexB .any l.toArray = true)
    (h : wpQuiet P l.toArray (fun w' => ∃ r : Later w, w' = r.W) (fun a' => ∀ w', (∃ r : Later w, w' = r.W) → Q .normal a' w') l a) : (Code.region id l.toArray true).wp P Q a w :=
  wp_region_quiet (C := fun w' => ∃ r : Later w, w' = r.W) hm hB ⟨⟨{ w with drawn := w.drawn + 1 }, ⟨rfl, rfl, rfl, Nat.le_refl _, fun _ _ => rfl⟩⟩, rfl⟩ (by simpa using h)

/-- A callee that only makes new memory. -/
theorem calls_later {P : Program} {f : FuncId} {args : Array Value} {w : World} {v : Value} (r : Later w) (h : Calls P f args r.W fun e w' => e = .returned v ∧ Below r.W.heap.size r.W w') :
    Calls P f args r.W fun e w'' => e = .returned v ∧ ∃ r' : Later w, w'' = r'.W :=
  h.mono fun _ _ ⟨he, hb⟩ => ⟨he, ⟨_, r.h.trans (hb.mono r.h.size)⟩, rfl⟩

theorem later_cell {w : World} {a : Addr} {v : Value} (h : w.cell? a = some v) (r : Later w) : r.W.cell? a = some v := (r.h.cell (World.block_lt_of_cell? _ _ h)).trans h
theorem later_arr {w : World} {g t n : Nat} {F : Nat → Int} (h : ArrAt w g t n F) (r : Later w) : ArrAt r.W g t n F := h.below h.lt r.h

section
variable {P : Program} {ops : Array Oper} {C : World → Prop} {Q : Act → Prop} {a : Act} {rest : List Oper} {d : Option Nat} {ot : TypeId} {pos : String} {aft : Array Edge}

/-- A whole array is loaded in such a region. -/
theorem quiet_load_arr (n ty m e t : Nat) (x : Operand) (g : Nat) (F : Nat → Int) (hx : a.eval x = .pointer (some ⟨g, 0, none⟩)) (hg : ∀ w, C w → ArrAt w g t n F) (hu : P.underlying ty = some (.array m e)) (hi : (P.info? ty).map (·.size) = some n)
    (h : wpQuiet P ops C Q rest (a.put d (.agg (cellsV n F)))) : wpQuiet P ops C Q (⟨d, Op.load ty x, ot, pos, aft, none⟩ :: rest) a := by
  have hw : Region.wanted (⟨d, Op.load ty x, ot, pos, aft, none⟩ : Oper) (yielded ops a.tmps) = true := rfl
  unfold wpQuiet
  rw [if_pos hw]
  refine ⟨.agg (cellsV n F), fun w hC => ?_, h⟩
  unfold Oper.quietAt execOp
  simp only [hx, Instr.loadAt, Instr.sureAddr, Sem.run_bind, Sem.run_pure, Result.andThen_ok, run_loadVar_row w g t ty (cellsV n F) (0, 0) _ (hg w hC) hu rfl (by rw [cellsV_size]; exact hi)]
  exact ⟨rfl, rfl⟩
end
end Go.Proofs.Ytipfjblnanafnaa
