/- All circles of wants that begin so, in plain mathematics, as the model finds them; append of rows, where nothing is appended too. -/
import Derived.Test.YtamglhpgdaoaoaaWantModel
import Derived.Test.YtamglhpgdaoaoaaLists
import Derived.Deep.AppendLies
namespace Go.Proofs.Ytamglhpgdaoaoaa
set_option linter.unusedVariables false
set_option linter.unusedSimpArgs false
open Go.RowKit

/-- append(x, y...) of any rows, also where nothing is appended. -/
theorem step_append_rows {P : Program} (w : World) {ops : Array Oper} {o : Oper} {a : Act} {K : Act → World → Prop} {Q : Exit → Act → World → Prop} {E : Prop} (hgd : o.guard = none) (s x : Operand) (t : TypeId)
    (ho : o.op = .call { callee := .builtin .append, args := #[s, x], argTypes := #[t, t] })
    (base : Nat) (e : TypeId) (i : TypeInfo) (z : Value) (bytes : Nat) (ht : P.underlying t = some (.slice e)) (hi : P.info? e = some i) (hz : i.zero = some z) (hsize : i.size = 1) (hby : i.bytes = bytes) (hzs : z.cells.size = 1)
    (g n cap : Nat) (xs : List Value) (hs : a.eval s = .slice (some ⟨g, 0, none⟩) n cap) (hown : w.ownsRow base e 1 (.slice (some ⟨g, 0, none⟩) n cap) n xs)
    (ad : Addr) (m c : Nat) (news : List Value) (hx : a.eval x = .slice (some ad) m c) (hl : news.length = m) (hnews : ∀ j u, news[j]? = some u → w.cell? (ad.add j) = some u) (h1 : ∀ u ∈ news, u.oneCell' = true)
    (hn : n + m ≤ maxLen) (hbytes : (n + m) * bytes ≤ 140737488355328) (hbase : base ≤ w.heap.size) (H : Nat) (hH : w.heap.size = H)
    (h : ∀ g' cap' w', w'.ownsRow base e 1 (.slice (some ⟨g', 0, none⟩) (n + m) cap') (n + m) (xs ++ news) → w.grownBy w' (some g) → (g = g' ∨ g' = H) → K (a.put o.dst (.slice (some ⟨g', 0, none⟩) (n + m) cap')) w') :
    if Region.wanted o (yielded ops a.tmps) = true then Oper.wp P o a w K Q else E := by
  have hw : Region.wanted o (yielded ops a.tmps) = true := by simp [Region.wanted, hgd]
  rw [if_pos hw]
  obtain ⟨v', w', hr, h2, h3, h4, h5'⟩ := run_append_own_at (P := P) w base t o.type e i z 1 bytes ht hi hz hsize hby hzs (by decide) (.slice (some ⟨g, 0, none⟩) n cap) n xs hown ad m c news (by omega) hnews h1 hn hbytes hbase
  have hne : v' ≠ .slice none 0 0 := fun e => by have := (h4.1 e).1; cases this
  obtain ⟨g', cap', rfl⟩ : ∃ g' cap', v' = .slice (some ⟨g', 0, none⟩) (n + m) cap' := by
    obtain ⟨_, (⟨h5, _⟩ | ⟨g', cap', _, h5, _⟩)⟩ := h2
    · exact absurd h5 hne
    · exact ⟨g', cap', h5⟩
  unfold Oper.wp execOp
  simp only [ho, resolve, invoke, builtin, Sem.run_bind, Sem.run_pure, Result.andThen_ok, List.map_toArray, List.map_cons, List.map_nil, hs, hx, hr]
  exact h g' cap' w' h2 h3 (by
    rcases h5' with h6 | h6
    · simp only [Value.ownBlock, Option.some.injEq] at h6; exact .inl h6.symm
    · simp only [Value.ownBlock, Option.some.injEq] at h6; exact .inr (h6.trans hH))
theorem wpList_append_rows {P : Program} (w : World) {ops : Array Oper} {rest : List Oper} {o : Oper} {a : Act} {Q : Exit → Act → World → Prop} (hgd : o.guard = none) (s x : Operand) (t : TypeId)
    (ho : o.op = .call { callee := .builtin .append, args := #[s, x], argTypes := #[t, t] })
    (base : Nat) (e : TypeId) (i : TypeInfo) (z : Value) (bytes : Nat) (ht : P.underlying t = some (.slice e)) (hi : P.info? e = some i) (hz : i.zero = some z) (hsize : i.size = 1) (hby : i.bytes = bytes) (hzs : z.cells.size = 1)
    (g n cap : Nat) (xs : List Value) (hs : a.eval s = .slice (some ⟨g, 0, none⟩) n cap) (hown : w.ownsRow base e 1 (.slice (some ⟨g, 0, none⟩) n cap) n xs)
    (ad : Addr) (m c : Nat) (news : List Value) (hx : a.eval x = .slice (some ad) m c) (hl : news.length = m) (hnews : ∀ j u, news[j]? = some u → w.cell? (ad.add j) = some u) (h1 : ∀ u ∈ news, u.oneCell' = true)
    (hn : n + m ≤ maxLen) (hbytes : (n + m) * bytes ≤ 140737488355328) (hbase : base ≤ w.heap.size) (H : Nat) (hH : w.heap.size = H)
    (h : ∀ g' cap' w', w'.ownsRow base e 1 (.slice (some ⟨g', 0, none⟩) (n + m) cap') (n + m) (xs ++ news) → w.grownBy w' (some g) → (g = g' ∨ g' = H) → wpList P ops Q rest (a.put o.dst (.slice (some ⟨g', 0, none⟩) (n + m) cap')) w') :
    wpList P ops Q (o :: rest) a w :=
  wpList_step fun K hK => step_append_rows w hgd s x t ho base e i z bytes ht hi hz hsize hby hzs g n cap xs hs hown ad m c news hx hl hnews h1 hn hbytes hbase H hH fun g' cap' w' a b d => hK _ _ (h g' cap' w' a b d)

/-- x may come next. -/
def GoesOn (W : Nat → Int) (B : List Int) (x : Nat) : Prop := (∀ i, i < B.length → nth B i ≠ x ∧ nth B 0 < x) ∧ (B.length = 0 ∨ WantsB W (nth B (B.length - 1)).toNat x = true)
noncomputable def circ1 (n : Nat) (W : Nat → Int) (B : List Int) : List (List Int) := if tt (IsCirc n W B.length (nth B)) = true then [B] else []
/-- The circles that begin so, with at most f people more. -/
noncomputable def circs (n : Nat) (W : Nat → Int) : Nat → List Int → List (List Int)
  | 0, B => circ1 n W B
  | f + 1, B => circ1 n W B ++ (List.range n).flatMap fun (x : Nat) => if tt (GoesOn W B x) = true then circs n W f (B ++ [(x : Int)]) else []
/-- Those whose next one is below k. -/
noncomputable def circsTo (n : Nat) (W : Nat → Int) (f : Nat) (B : List Int) (k : Nat) : List (List Int) := circ1 n W B ++ (List.range k).flatMap fun (x : Nat) => if tt (GoesOn W B x) = true then circs n W f (B ++ [(x : Int)]) else []
section
variable {n f k : Nat} {W : Nat → Int} {B : List Int}
theorem circs_succ : circs n W (f + 1) B = circsTo n W f B n := rfl
theorem circsTo_zero : circsTo n W f B 0 = circ1 n W B := by unfold circsTo; simp
theorem circsTo_no (h : ¬ GoesOn W B k) : circsTo n W f B (k + 1) = circsTo n W f B k := by
  unfold circsTo
  rw [List.range_succ, List.flatMap_append]
  simp [tt_no h]
theorem circsTo_yes (h : GoesOn W B k) : circsTo n W f B (k + 1) = circsTo n W f B k ++ circs n W f (B ++ [(k : Int)]) := by
  unfold circsTo
  rw [List.range_succ, List.flatMap_append, List.append_assoc]
  simp [tt_of h]
theorem circ1_le : (circ1 n W B).length ≤ 1 := by
  unfold circ1
  by_cases h : tt (IsCirc n W B.length (nth B)) = true
  · rw [if_pos h]; simp
  · rw [if_neg h]; simp
theorem flatR_le {g : Nat → List (List Int)} {q : Nat} : ∀ {l : List Nat}, (∀ x, x ∈ l → (g x).length ≤ q) → (l.flatMap g).length ≤ l.length * q
  | [], _ => by simp
  | x :: l, h => by
    rw [List.flatMap_cons, List.length_append, List.length_cons, Nat.add_mul]
    have h1 := h x (by simp)
    have h2 := flatR_le (g := g) (q := q) (l := l) fun y hy => h y (by simp [hy])
    omega
theorem circs_le (hn : n ≤ 6) : ∀ (f : Nat) (B : List Int), (circs n W f B).length ≤ 7 ^ f
  | 0, B => circ1_le
  | f + 1, B => by
    have h1 := circ1_le (n := n) (W := W) (B := B)
    have h2 := flatR_le (g := fun (x : Nat) => if tt (GoesOn W B x) = true then circs n W f (B ++ [(x : Int)]) else []) (q := 7 ^ f) (l := List.range n) (fun x _ => by
      by_cases h : tt (GoesOn W B x) = true
      · simp only [h, if_true]; exact circs_le hn f _
      · simp [h])
    rw [List.length_range] at h2
    have h3 : n * 7 ^ f ≤ 6 * 7 ^ f := Nat.mul_le_mul_right _ hn
    have h4 := Nat.pow_pos (a := 7) (n := f) (by omega)
    show (circ1 n W B ++ _).length ≤ 7 ^ (f + 1)
    rw [List.length_append, Nat.pow_succ]
    omega
theorem circsTo_le (hn : n ≤ 6) (hk : k ≤ n) : (circsTo n W f B k).length ≤ 7 ^ (f + 1) := by
  have h1 := circ1_le (n := n) (W := W) (B := B)
  have h2 := flatR_le (g := fun (x : Nat) => if tt (GoesOn W B x) = true then circs n W f (B ++ [(x : Int)]) else []) (q := 7 ^ f) (l := List.range k) (fun x _ => by
    by_cases h : tt (GoesOn W B x) = true
    · simp only [h, if_true]; exact circs_le hn f _
    · simp [h])
  rw [List.length_range] at h2
  have h3 : k * 7 ^ f ≤ 6 * 7 ^ f := Nat.mul_le_mul_right _ (by omega)
  have h4 := Nat.pow_pos (a := 7) (n := f) (by omega)
  unfold circsTo
  rw [List.length_append, Nat.pow_succ]
  omega
theorem goes_new (h : GoesOn W B k) : ¬ (k : Int) ∈ B := fun hm => by
  obtain ⟨j, hj, e⟩ := mem_nth.1 hm
  exact (h.1 j hj).1 e
end
/-- A table of the call's own, its top row in a block. -/
def RetLS (tS : Nat) (LL : List (List Int)) (w : World) (e : Ending) (w' : World) : Prop :=
  ∃ g cap G Cp, e = .returned (.slice (some ⟨g, 0, none⟩) LL.length cap) ∧ Making tS w.heap.size w' (.slice (some ⟨g, 0, none⟩) LL.length cap) LL.length G Cp (lenL LL) (nthL LL) ∧ Below w.heap.size w w'
end Go.Proofs.Ytamglhpgdaoaoaa
