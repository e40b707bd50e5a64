/- Givings as structs: a number of people and five houses, as one block of six cells. -/
import Derived.Test.YtgjegpponchdaaaDoorWishes
import Derived.Test.YtgjegpponchdaaaDoorInfoInts
import Derived.Test.YtgjegpponchdaaaDoorProg
import Derived.Laws.CopyOwn
namespace Go.Proofs.YtgjegpponchdaaaDoor
set_option linter.unusedVariables false
set_option linter.unusedSimpArgs false
open Go.RowKit

section
variable {P : Program} {ops : Array Oper} {rest : List Oper} {a : Act} {w : World} {Q : Exit → Act → World → Prop} {d : Option Nat} {ot : TypeId} {pos : String} {aft : Array Edge}
/-- A whole struct is loaded. -/
theorem st_load (n ty t : Nat) (dd : TypeDesc) (x : Operand) (g : Nat) (F : Nat → Int) (hx : a.eval x = .pointer (some ⟨g, 0, none⟩)) (hg : ArrAt w g t n F) (hu : P.underlying ty = some dd) (hd : (match dd with | .struct _ | .array _ _ => true | _ => false) = true) (hi : (P.info? ty).map (·.size) = some n)
    (h : wpList P ops Q rest (a.put d (.agg (cellsV n F))) w) : wpList P ops Q (⟨d, Op.load ty x, ot, pos, aft, none⟩ :: rest) a w :=
  wpList_load_row rfl ty x rfl g hx t (cellsV n F) (0, 0) _ hg hu hd (by rw [cellsV_size]; exact hi) h
theorem st_load_g (n ty t : Nat) (dd : TypeDesc) (x : Operand) (gd : Nat × Bool) (g : Nat) (F : Nat → Int) (hw : Region.wanted (⟨d, Op.load ty x, ot, pos, aft, some gd⟩ : Oper) (yielded ops a.tmps) = true) (hx : a.eval x = .pointer (some ⟨g, 0, none⟩)) (hg : ArrAt w g t n F) (hu : P.underlying ty = some dd) (hd : (match dd with | .struct _ | .array _ _ => true | _ => false) = true) (hi : (P.info? ty).map (·.size) = some n)
    (h : wpList P ops Q rest (a.put d (.agg (cellsV n F))) w) : wpList P ops Q (⟨d, Op.load ty x, ot, pos, aft, some gd⟩ :: rest) a w :=
  wpList_step fun K hK => by
    rw [if_pos hw]
    exact wp_load_row ty x rfl g hx t (cellsV n F) (0, 0) _ hg hu hd (by rw [cellsV_size]; exact hi) (hK _ _ h)
end
theorem results_st {P : Program} {fn : Func} {p : Tmp} {ty : TypeId} (h : fn.results = #[.cell p ty]) (tmps : Array Value) (w : World) (g t n : Nat) (dd : TypeDesc) (F : Nat → Int)
    (hp : tmps.getD p undef = .pointer (some ⟨g, 0, none⟩)) (hg : ArrAt w g t n F) (hu : P.underlying ty = some dd) (hd : (match dd with | .struct _ | .array _ _ => true | _ => false) = true) (hi : (P.info? ty).map (·.size) = some n) :
    (results fn tmps).run P w = .ok (.agg (cellsV n F)) w :=
  results_cell_row h tmps w g t (cellsV n F) (0, 0) _ hp hg hu hd (by rw [cellsV_size]; exact hi)
theorem results_held {P : Program} {fn : Func} {p q r : Tmp} {ty : TypeId} (h : fn.results = #[.tmp q, .cell p ty, .tmp r]) (tmps : Array Value) (w : World) (g t n : Nat) (dd : TypeDesc) (F : Nat → Int)
    (hp : tmps.getD p undef = .pointer (some ⟨g, 0, none⟩)) (hg : ArrAt w g t n F) (hu : P.underlying ty = some dd) (hd : (match dd with | .struct _ | .array _ _ => true | _ => false) = true) (hi : (P.info? ty).map (·.size) = some n) :
    (results fn tmps).run P w = .ok (.tuple #[tmps.getD q undef, .agg (cellsV n F), tmps.getD r undef]) w := by
  have hp' : tmps[p]?.getD undef = .pointer (some ⟨g, 0, none⟩) := by simpa using hp
  simp [results, h, hp', asAddr, run_loadVar_row w g t ty (cellsV n F) (0, 0) _ hg hu hd (by rw [cellsV_size]; exact hi)]

theorem Tryd.zeroHeld (w : World) : (zeroValue 60).run Tryd.prog w = .ok (.agg (cellsV 6 fun _ => 0)) w := by kernel_rfl
theorem Tryd.sizeInt1 : (Tryd.prog.info? 3).map (·.size) = some 1 := by kernel_rfl
theorem Tryd.sizeHeld : (Tryd.prog.info? 60).map (·.size) = some 6 := by kernel_rfl

/-- The giving X of n people as a struct. -/
def heldF (n : Nat) (X : Nat → Int) (j : Nat) : Int := if j = 0 then (n : Int) else if j - 1 < n then X (j - 1) else 0
theorem heldF_zero (n : Nat) (X : Nat → Int) : heldF n X 0 = n := rfl
theorem heldF_at {n : Nat} (X : Nat → Int) {i : Nat} (h : i < n) : heldF n X (1 + i) = X i := by
  unfold heldF
  rw [if_neg (by omega), show 1 + i - 1 = i by omega, if_pos h]
theorem heldF_congr {n : Nat} {X Y : Nat → Int} (h : ∀ k, k < n → X k = Y k) (j : Nat) : heldF n X j = heldF n Y j := by
  unfold heldF
  by_cases e : j = 0
  · rw [if_pos e, if_pos e]
  · rw [if_neg e, if_neg e]
    by_cases e2 : j - 1 < n
    · rw [if_pos e2, if_pos e2, h _ e2]
    · rw [if_neg e2, if_neg e2]

/-- Of n people alone. -/
def onlyN (n : Int) (j : Nat) : Int := if j = 0 then n else 0
theorem Tryd.builtHeld (n : Int) : Tryd.prog.built 60 [(0, .int .i64 n)] = some (cellsV 6 (onlyN n)) := by kernel_rfl
section
variable {P : Program} {ops : Array Oper} {rest : List Oper} {a : Act} {w : World} {Q : Exit → Act → World → Prop} {d : Option Nat} {ot : TypeId} {pos : String} {aft : Array Edge}
theorem st_build1 (ty : TypeId) (x : Operand) (n : Int) (cs : Array Value) (hx : a.eval x = .int .i64 n) (hb : P.built ty [(0, .int .i64 n)] = some cs) (h : wpList P ops Q rest (a.put d (.agg cs)) w) : wpList P ops Q (⟨d, Op.build ty #[(0, x)], ot, pos, aft, none⟩ :: rest) a w :=
  wpList_build rfl ty #[(0, x)] rfl (by simp [hx, hb]) (by simpa [hx, hb] using h)
end
/-- What copying the houses leaves. -/
theorem held_copy {n : Nat} (X : Nat → Int) (hn : n ≤ 5) : ((cellsV 6 (onlyN n)).toList.take 1 ++ (cellsL n X ++ (cellsV 6 (onlyN n)).toList.drop (1 + (cellsL n X).length))).toArray = cellsV 6 (heldF n X) := by
  rw [cellsL_length]
  apply Array.ext_getElem?
  intro j
  by_cases hj : j < 6
  · rw [cellsV_get _ hj]
    have hl : (cellsV 6 (onlyN n)).toList = cellsL 6 (onlyN n) := rfl
    rw [List.getElem?_toArray, hl]
    unfold heldF
    by_cases e : j = 0
    · subst e
      rw [if_pos rfl]
      rfl
    · rw [if_neg e, List.getElem?_append_right (by simp [cellsL]; omega)]
      rw [show (List.take 1 (cellsL 6 (onlyN n))).length = 1 from rfl]
      by_cases e2 : j - 1 < n
      · rw [if_pos e2, List.getElem?_append_left (by rw [cellsL_length]; exact e2), cellsL_get X e2]
      · rw [if_neg e2, List.getElem?_append_right (by rw [cellsL_length]; omega), cellsL_length, List.getElem?_drop, show 1 + n + (j - 1 - n) = j by omega, cellsL_get _ hj]
        unfold onlyN; rw [if_neg e]
  · have e1 : (cellsV 6 (heldF n X))[j]? = none := Array.getElem?_eq_none (by rw [cellsV_size]; omega)
    rw [e1, Array.getElem?_eq_none]
    simp [cellsL, cellsV]; omega

section
variable {P : Program} {ops : Array Oper} {rest : List Oper} {a : Act} {w : World} {Q : Exit → Act → World → Prop} {d : Option Nat} {ot : TypeId} {pos : String} {aft : Array Edge}
/-- A giving's houses are copied into a struct that has the number of people alone. -/
theorem held_fill (n c g t dT sT e : Nat) (x y : Operand) (ad : Addr) (X : Nat → Int) (hu : P.underlying dT = some (.slice e)) (hsz : (P.info? e).map (·.size) = some 1) (hn : n ≤ 5)
    (hx : a.eval x = .slice (some ⟨g, 1, none⟩) 5 5) (hy : a.eval y = .slice (some ad) n c) (hg : ArrAt w g t 6 (onlyN n)) (hsrc : ∀ j v, (cellsL n X)[j]? = some v → w.cell? (ad.add j) = some v)
    (h : ∀ w1, ArrAt w1 g t 6 (heldF n X) → w1.heap.size = w.heap.size → (∀ k, k ≠ g → w1.heap[k]? = w.heap[k]?) → Below g w w1 → wpList P ops Q rest (a.put d (goInt (cellsL n X).length)) w1) :
    wpList P ops Q (⟨d, Op.call { callee := Callee.builtin Builtin.copy, args := #[x, y], argTypes := #[dT, sT] }, ot, pos, aft, none⟩ :: rest) a w := by
  refine wpList_copy_own rfl x y dT sT rfl e hu hsz g 1 5 5 ad n c hx hy (cellsV 6 (onlyN n)) t hg (cellsL n X) (by rw [cellsL_length]; exact (Nat.min_eq_left hn).symm) hsrc (by rw [cellsL_length, cellsV_size]; omega) (cellsL_one n X) ?_
  rw [held_copy X hn]
  exact h _ (setRow_heap w g _ _ t (0, 0) hg) (by simp) (fun k hk => setRow_other w g k _ hk) (below_setRow w _ (Nat.le_refl _))
end
theorem run_slice_all {P : Program} (ty e m g o : Nat) (hu : P.underlying ty = some (.array m e)) (hi : (P.info? e).map (·.size) = some 1) (hm : 0 < m) (w : World) :
    (Instr.sliceAt ty (.pointer (some ⟨g, o, none⟩)) none none none).run P w = .ok (.slice (some ⟨g, o, none⟩) m m) w := by
  have h2 : (underlying ty).run P w = .ok (.array m e) w := run_underlying hu w
  cases hq : P.info? e with
  | none => simp [hq] at hi
  | some inf =>
    have hs : inf.size = 1 := by simpa [hq] using hi
    have hne : ¬ m = 0 := by omega
    simp [Instr.sliceAt, Instr.sureAddr, h2, Instr.sliceBounds, sizeOf, typeInfo, hq, Addr.add]

set_option maxRecDepth 100000 in
set_option maxHeartbeats 800000 in
theorem hold_any (n c : Nat) (a : Option Addr) (X : Nat → Int) (w : World) (hn1 : 1 ≤ n) (hn : n ≤ 5) (ha : Rd w a n X) :
    Calls Tryd.prog 48 #[.slice a n c] w fun e w' => e = .returned (.agg (cellsV 6 (heldF n X))) ∧ Below w.heap.size w w' := by
  obtain ⟨ba, oa, rfl, hc0⟩ := ha 0 (by omega)
  have HA := Lib.hid ha
  have t1 : True := trivial
  have t2 : True := trivial
  have hsl := fun g o w => run_slice_all (P := Tryd.prog) 58 3 5 g o Tryd.underlying58 (by kernel_rfl) (by decide) w
  clear ha hc0
  go_enter Tryd.func48, Tryd.ntmps48
  go_wp2_with (first
    | (have _t := t1; (with_reducible refine arr_alloc 6 _ (Tryd.zeroHeld _) ?_); clear t1; intro w1 hA1 hs1 hb1; have S1 := Lib.hid hs1; clear hs1)
    | ((with_reducible refine st_build1 _ _ (n : Nat) _ ?_ (Tryd.builtHeld _) ?_); exact rfl)
    | ((with_reducible refine arr_alloc 6 _ (Tryd.zeroHeld _) ?_); intro w2 hA2 hs2 hb2; have S2 := Lib.hid hs2; clear hs2)
    | (have _t := t2; (with_reducible refine arr_store 6 _ _ _ _ _ _ (onlyN n) ?_ ?_ hA2 Tryd.sizeHeld ?_); exact rfl; exact rfl; clear t2; intro w3 hA3 hs3 ho3 hb3; have S3 := Lib.hid hs3; have O3 := Lib.hid ho3; clear hA2 hs3 ho3)
    | ((with_reducible refine held_fill n c _ _ _ _ _ _ _ ⟨ba, oa, none⟩ X Tryd.underlying23 Tryd.sizeInt1 hn ?_ ?_ hA3 ?_ ?_); exact rfl; exact rfl; exact HA.out.news ((below_chain hb1 hb2).trans (hb3.mono hb1.size)); intro w4 hA4 hs4 ho4 hb4; have hA0 := hA1.below hA1.lt ((hb2.trans hb3).trans hb4); have hB4 := ((below_chain hb1 hb2).trans (hb3.mono hb1.size)).trans (hb4.mono hb1.size); clear hA3 hs4 ho4)
    | ((with_reducible refine st_load 6 _ _ _ _ _ _ ?_ hA4 Tryd.underlying60 rfl Tryd.sizeHeld ?_); exact rfl)
    | ((with_reducible refine arr_store 6 _ _ _ _ _ _ (heldF n X) ?_ ?_ hA0 Tryd.sizeHeld ?_); exact rfl; exact rfl; intro w5 hA5 hs5 ho5 hb5))
  exact bodyPost_ret (results_st rfl _ _ _ _ 6 _ _ rfl hA5 Tryd.underlying60 rfl Tryd.sizeHeld) rfl ⟨rfl, hB4.trans (hb5.mono (Nat.le_refl _))⟩
end Go.Proofs.YtgjegpponchdaaaDoor
