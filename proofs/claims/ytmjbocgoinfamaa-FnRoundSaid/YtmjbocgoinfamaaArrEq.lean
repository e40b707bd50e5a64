/- Two arrays of arrays of integers, compared by '=='. -/
import Derived.Test.YtmjbocgoinfamaaProg
import Derived.Test.YtmjbocgoinfamaaMem
import Derived.ChangeKeysEq
import Derived.Laws.StructEq
namespace Go.Proofs.Ytmjbocgoinfamaa
set_option linter.unusedVariables false
open Go.RowKit

theorem eqItems_all {P : Program} (w : World) (d c : Nat) (e : TypeId) (xs ys : Array Value) (f : Nat → Bool) : ∀ is : List Nat,
    (∀ i, i ∈ is → ∃ a b, (part e xs (i * c)).run P w = .ok a w ∧ (part e ys (i * c)).run P w = .ok b w ∧ (Op.equalIn d e a b).run P w = .ok (f i) w) → (Op.eqItems d e c xs ys is).run P w = .ok (is.all f) w
  | [], _ => by simp [Op.eqItems]
  | i :: is, h => by
    obtain ⟨a, b, h1, h2, h3⟩ := h i (by simp)
    have h4 := eqItems_all w d c e xs ys f is (fun j hj => h j (by simp [hj]))
    simp only [Op.eqItems, Sem.run_bind, h1, h2, h3, Result.andThen_ok]
    cases hf : f i
    · simp [hf]
    · simp [hf, h4]

theorem cellsV_extract (n m o : Nat) (F : Nat → Int) (h : o + m ≤ n) : (cellsV n F).extract o (o + m) = cellsV m fun j => F (o + j) := by
  apply Array.ext_getElem?
  intro j
  rw [Array.getElem?_extract]
  by_cases hj : j < m
  · rw [cellsV_get _ hj, if_pos (by rw [cellsV_size]; omega), cellsV_get F (by omega)]
  · rw [if_neg (by rw [cellsV_size]; omega)]
    simp [cellsV_size]; omega

/-- An array of integers. -/
theorem run_eq_arr {P : Program} (w : World) (d t e n : Nat) (F G : Nat → Int) (hu : P.underlying t = some (.array n e)) (hi : (P.info? e).map (·.size) = some 1) (he : P.underlying e = some (.int .i64)) (hp : P.plainKey e = true) (hc : P.cellsOf e = 1) :
    (Op.equalIn (d + 2) t (.agg (cellsV n F)) (.agg (cellsV n G))).run P w = .ok ((List.range n).all fun j => F j == G j) w := by
  cases hq : P.info? e with
  | none => simp [hq] at hi
  | some inf =>
    rw [show d + 2 = (d + 1) + 1 from rfl, run_equalIn_array w (d + 1) _ _ hu hq, hc]
    refine eqItems_all w (d + 1) 1 e _ _ (fun j => F j == G j) _ fun i hi => ?_
    have hin : i < n := List.mem_range.1 hi
    refine ⟨.int .i64 (F i), .int .i64 (G i), ?_, ?_, run_equalIn_int w d e .i64 .i64 _ _ he⟩
    · rw [Nat.mul_one]; exact run_part_plain w hp (cellsV_get F hin)
    · rw [Nat.mul_one]; exact run_part_plain w hp (cellsV_get G hin)

/-- An array of arrays of integers. -/
theorem run_eq_arr2 {P : Program} (w : World) (d t e e' r n : Nat) (F G : Nat → Int) (hu : P.underlying t = some (.array r e)) (hu' : P.underlying e = some (.array n e')) (hi : (P.info? e).map (·.size) = some n) (hc : P.cellsOf e = n) (hi' : (P.info? e').map (·.size) = some 1) (he : P.underlying e' = some (.int .i64)) (hp : P.plainKey e' = true) (hc' : P.cellsOf e' = 1) :
    (Op.equalIn (d + 3) t (.agg (cellsV (r * n) F)) (.agg (cellsV (r * n) G))).run P w = .ok ((List.range r).all fun i => (List.range n).all fun j => F (i * n + j) == G (i * n + j)) w := by
  cases hq : P.info? e with
  | none => simp [hq] at hi
  | some inf =>
    have hs : inf.size = n := by simpa [hq] using hi
    rw [show d + 3 = (d + 2) + 1 from rfl, run_equalIn_array w (d + 2) _ _ hu hq, hc]
    refine eqItems_all w (d + 2) n e _ _ _ _ fun i hi => ?_
    have hin : i < r := List.mem_range.1 hi
    have hle : i * n + n ≤ r * n := by
      have : (i + 1) * n ≤ r * n := Nat.mul_le_mul_right n hin
      rwa [Nat.add_mul, Nat.one_mul] at this
    have h2 : (underlying e).run P w = .ok (.array n e') w := run_underlying hu' w
    refine ⟨.agg (cellsV n fun j => F (i * n + j)), .agg (cellsV n fun j => G (i * n + j)), ?_, ?_, run_eq_arr w d e e' n _ _ hu' hi' he hp hc'⟩
    · simp [part, isAgg, h2, sizeOf, typeInfo, hq, hs, cellsV_extract _ _ _ F hle]
    · simp [part, isAgg, h2, sizeOf, typeInfo, hq, hs, cellsV_extract _ _ _ G hle]

/-- The same 25 numbers. -/
def SameF (F G : Nat → Int) : Prop := ∀ i, i < 5 → ∀ k, k < 5 → F (i * 5 + k) = G (i * 5 + k)

theorem Try.eqlRates (F G : Nat → Int) (w : World) : (binOp .eql 58 (.agg (cellsV 25 F)) (.agg (cellsV 25 G))).run Try.prog w = .ok (.bool (tt (SameF F G))) w := by
  rw [run_eql_struct, show (10000 : Nat) = 9997 + 3 from rfl, show (25 : Nat) = 5 * 5 from rfl,
    run_eq_arr2 w 9997 58 56 3 5 5 F G Try.underlying58 Try.underlying56 (by kernel_rfl) (by kernel_rfl) (by kernel_rfl) Try.underlying3 (by kernel_rfl) (by kernel_rfl)]
  have e : ((List.range 5).all fun i => (List.range 5).all fun j => F (i * 5 + j) == G (i * 5 + j)) = tt (SameF F G) := tt_eq (by simp [SameF])
  rw [e]
  rfl

theorem wp_eql_g {P : Program} {ops : Array Oper} {rest : List Oper} {a : Act} {w : World} {Q : Exit → Act → World → Prop} {d : Option Nat} {ot : TypeId} {pos : String} {aft : Array Edge} (ty ty' : Nat) (x y : Operand) (gd : Nat × Bool) (xs ys : Array Value) (b : Bool)
    (hw : Region.wanted (⟨d, Op.binOp .eql ty x y ty', ot, pos, aft, some gd⟩ : Oper) (yielded ops a.tmps) = true) (hx : a.eval x = .agg xs) (hy : a.eval y = .agg ys) (hm : P.eqGuardType P.depth ty = false) (hrun : ∀ w, (binOp .eql ty (.agg xs) (.agg ys)).run P w = .ok (.bool b) w)
    (h : wpList P ops Q rest (a.put d (.bool b)) w) : wpList P ops Q (⟨d, Op.binOp .eql ty x y ty', ot, pos, aft, some gd⟩ :: rest) a w :=
  wpList_step fun K hK => by
    rw [if_pos hw]
    unfold Oper.wp execOp
    simp only [hx, hy, Sem.run_bind, run_eqGuard_agg _ _ _ _ _ _ _ hm, hrun, Result.andThen_ok]
    exact hK _ _ h
end Go.Proofs.Ytmjbocgoinfamaa
