/- Rows of one-cell values that are cut down: words and small laws. -/
import Derived.Test.YtimkgplabbcklaaMem
namespace Go.Proofs.Ytimkgplabbcklaa
set_option linter.unusedVariables false
set_option linter.unusedSimpArgs false
open Go.RowKit

/-- A row that holds the values of a list and may be written. -/
def CellsW (w : World) (b : Nat) (enc : Nat → Value) (l : List Nat) : Prop := ∀ k, k < l.length → w.cell? ⟨b, k, none⟩ = some (enc (l.getD k 0)) ∧ w.frozen? ⟨b, k, none⟩ = false
theorem CellsW.drewN {w : World} {b : Nat} {enc : Nat → Value} {l : List Nat} (h : CellsW w b enc l) (q : Nat) : CellsW (w.drewN q) b enc l := fun k hk => by simpa using h k hk
theorem CellsW.of_block {w w' : World} {b : Nat} {enc : Nat → Value} {l : List Nat} (h : CellsW w b enc l) (e : w'.heap[b]? = w.heap[b]?) : CellsW w' b enc l :=
  fun k hk => ⟨(World.cell?_of_block (w := w) (a := ⟨b, k, none⟩) e).trans (h k hk).1, (World.frozen?_of_block (w := w) (a := ⟨b, k, none⟩) e).trans (h k hk).2⟩
/-- The first place at which a predicate holds. -/
def FirstHit (l : List Nat) (p : Nat → Bool) (x : Int) : Prop := (x = -1 ∧ ∀ j, j < l.length → p (l.getD j 0) = false) ∨ ∃ k : Nat, x = k ∧ k < l.length ∧ p (l.getD k 0) = true ∧ ∀ j, j < k → p (l.getD j 0) = false
theorem keeps_drewN (b : Nat) (w : World) (q : Nat) : Keeps b (b + 1) w (w.drewN q) := ⟨rfl, rfl, rfl, rfl, fun _ _ => rfl⟩
theorem drewN_two (w : World) (p q : Nat) : (w.drewN p).drewN q = w.drewN (p + q) := by simp [World.drewN, Nat.add_assoc]
theorem keeps_setCellsD (b : Nat) : ∀ (vs : List Value) (o : Nat) (w : World), Keeps b (b + 1) w (w.setCells b o vs)
  | [], _, w => Keeps.refl _ _ _
  | v :: r, o, w => ((Keeps.refl b (b + 1) w).setCell (p := ⟨b, o, none⟩) (Nat.le_refl _) (Nat.lt_succ_self _) v).trans (keeps_setCellsD b r (o + 1) _)
/-- A row of a call's own has room for what is in it. -/
theorem owns_fits {w : World} {base e n g cap : Nat} {xs : List Value} (h : w.ownsRow base e 1 (.slice (some ⟨g, 0, none⟩) n cap) n xs) : n ≤ cap ∧ cap ≤ 9223372036854775807 := by
  obtain ⟨_, (⟨h0, _⟩ | ⟨g', cap', cur, h1, _, _, h4, h5, _⟩)⟩ := h
  · cases h0
  · simp only [Value.slice.injEq] at h1
    obtain ⟨_, _, rfl⟩ := h1
    unfold maxLen at h5
    exact ⟨h4, by omega⟩
/-- One word is stored. -/
theorem store_one {P : Program} {w : World} {b i : Nat} {v u : Value} (hv : v.oneCell' = true) (hc : w.cell? ⟨b, i, none⟩ = some u) (hf : w.frozen? ⟨b, i, none⟩ = false) : Sem.run P (storeCells ⟨b, i, none⟩ [v]) w = .ok () (w.setCell ⟨b, i, none⟩ v) := by
  have h := run_store P w ⟨b, i, none⟩ v .plain hv
  rw [hc, hf] at h
  have e : (⟨b, i, none⟩ : Addr).add 0 = ⟨b, i, none⟩ := by simp [Addr.add]
  unfold storeCells
  rw [e]
  simp only [Sem.run_bind, h, Result.andThen_ok]
  rfl
section
variable {P : Program} {ops : Array Oper} {rest : List Oper} {a : Act} {w : World} {Q : Exit → Act → World → Prop} {d : Option Nat} {ot : TypeId} {pos : String} {aft : Array Edge}
/-- A value of one word, whatever it is, is stored. -/
theorem wpList_store1 (ty : Nat) (x y : Operand) (b i : Nat) (v u : Value) (hx : a.eval x = .pointer (some ⟨b, i, none⟩)) (hy : a.eval y = v) (hv : v.oneCell' = true) (hi : (P.info? ty).map (·.size) = some 1) (hc : w.cell? ⟨b, i, none⟩ = some u) (hf : w.frozen? ⟨b, i, none⟩ = false)
    (h : wpList P ops Q rest (a.put d undef) (w.setCell ⟨b, i, none⟩ v)) : wpList P ops Q (⟨d, Op.store ty x y, ot, pos, aft, none⟩ :: rest) a w := by
  refine wpList_plain rfl fun K hK' => ?_
  have hs : Sem.run P (storeVar ty ⟨b, i, none⟩ v) w = .ok () (w.setCell ⟨b, i, none⟩ v) := by
    have hcl : v.cells = #[v] := by cases v <;> simp_all [Value.oneCell', Value.cells]
    cases hq : P.info? ty with
    | none => simp [hq] at hi
    | some inf =>
      have hs : inf.size = 1 := by simpa [hq] using hi
      unfold storeVar
      simp [sizeOf, typeInfo, hq, hcl, hs, store_one hv hc hf]
  unfold Oper.wp execOp
  simp only [hx, hy, Instr.storeAt, Instr.sureAddr, Sem.run_bind, Sem.run_pure, Result.andThen_ok, hs]
  exact hK' _ _ h
end
section
variable {l D : List Nat} {k x : Nat} {P : Nat → Bool}
theorem takeD (h : k < l.length) : l.take (k + 1) = l.take k ++ [l.getD k 0] := by
  rw [List.take_add_one, List.getElem?_eq_getElem h, List.getD_eq_getElem?_getD, List.getElem?_eq_getElem h]; rfl
theorem getD_in (h : k < l.length) : l.getD k 0 ∈ l := by
  rw [List.getD_eq_getElem?_getD, List.getElem?_eq_getElem h]; exact List.getElem_mem h
theorem fil_yes (h : k < l.length) (hp : P (l.getD k 0) = true) : (l.take (k + 1)).filter P = (l.take k).filter P ++ [l.getD k 0] := by
  rw [takeD h, List.filter_append, List.filter_cons_of_pos hp, List.filter_nil]
theorem fil_no (h : k < l.length) (hp : P (l.getD k 0) = false) : (l.take (k + 1)).filter P = (l.take k).filter P := by
  rw [takeD h, List.filter_append, List.filter_cons_of_neg (by rw [hp]; simp), List.filter_nil, List.append_nil]
theorem fil_keep (h : ∀ j, j < k → P (l.getD j 0) = true) (hk : k ≤ l.length) : (l.take k).filter P = l.take k := by
  induction k with
  | zero => simp
  | succ k ih => rw [fil_yes (by omega) (h k (by omega)), ih (fun j hj => h j (by omega)) (by omega), takeD (by omega)]
theorem getD_takeD {j : Nat} (h : j < k) : (l.take k).getD j 0 = l.getD j 0 := by
  rw [List.getD_eq_getElem?_getD, List.getD_eq_getElem?_getD, List.getElem?_take, if_pos h]
theorem getD_frontD (h : k < D.length) : (D ++ [x]).getD k 0 = D.getD k 0 := by
  rw [List.getD_eq_getElem?_getD, List.getD_eq_getElem?_getD, List.getElem?_append_left h]
theorem getD_lastD : (D ++ [x]).getD D.length 0 = x := by
  rw [List.getD_eq_getElem?_getD, List.getElem?_append_right (Nat.le_refl _)]; simp
end
end Go.Proofs.Ytimkgplabbcklaa
