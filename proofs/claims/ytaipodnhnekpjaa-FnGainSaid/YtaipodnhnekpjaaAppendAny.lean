/- append in a drawn region and in a plain one, and what the draws of rows hand back. -/
import Derived.Test.YtaipodnhnekpjaaDrawKit
import Derived.Deep.AppendLies
import Derived.Deep.RegionLaw
namespace Go.Proofs.Ytaipodnhnekpjaa
set_option linter.unusedVariables false
open Go.RowKit

/-- append(x, y...) at a step of a region that draws: the old row or a new one, also where nothing is appended. -/
theorem step_append_any {P : Program} (w : World) {ops : Array Oper} {o : Oper} {a : Act} {K : Act → World → Prop} {Q : Exit → Act → World → Prop} {E : Prop} (hgd : o.guard = none) (s x : Operand) (t : TypeId)
    (ho : o.op = .call { callee := .builtin .append, args := #[s, x], argTypes := #[t, t] })
    (base : Nat) (e : TypeId) (i : TypeInfo) (ht : P.underlying t = some (.slice e)) (hi : P.info? e = some i) (hz : i.zero = some (.int .i64 0)) (hsize : i.size = 1) (hby : i.bytes = 8)
    (g n cap : Nat) (xs : List Value) (hs : a.eval s = .slice (some ⟨g, 0, none⟩) n cap) (hown : w.ownsRow base e 1 (.slice (some ⟨g, 0, none⟩) n cap) n xs)
    (ad : Addr) (m c : Nat) (news : List Value) (hx : a.eval x = .slice (some ad) m c) (hl : news.length = m) (hnews : ∀ j u, news[j]? = some u → w.cell? (ad.add j) = some u) (h1 : ∀ u ∈ news, u.oneCell' = true)
    (hn : n + m ≤ 1048576) (hbase : base ≤ w.heap.size)
    (h : ∀ g' cap' w', w'.ownsRow base e 1 (.slice (some ⟨g', 0, none⟩) (n + m) cap') (n + m) (xs ++ news) → w.grownBy w' (some g) → K (a.put o.dst (.slice (some ⟨g', 0, none⟩) (n + m) cap')) w') :
    if Region.wanted o (yielded ops a.tmps) = true then Oper.wp P o a w K Q else E := by
  have hw : Region.wanted o (yielded ops a.tmps) = true := by simp [Region.wanted, hgd]
  rw [if_pos hw]
  obtain ⟨v', w', hr, h2, h3, h4, _⟩ := run_append_own_at (P := P) w base t o.type e i (.int .i64 0) 1 8 ht hi hz hsize hby rfl (by decide) (.slice (some ⟨g, 0, none⟩) n cap) n xs hown ad m c news (by omega) hnews h1 (by unfold maxLen; omega) (by omega) hbase
  have hne : v' ≠ .slice none 0 0 := fun e => by have := (h4.1 e).1; cases this
  obtain ⟨g', cap', rfl⟩ : ∃ g' cap', v' = .slice (some ⟨g', 0, none⟩) (n + m) cap' := by
    obtain ⟨_, (⟨h5, _⟩ | ⟨g', cap', _, h5, _⟩)⟩ := h2
    · exact absurd h5 hne
    · exact ⟨g', cap', h5⟩
  unfold Oper.wp execOp
  simp only [ho, resolve, invoke, builtin, Sem.run_bind, Sem.run_pure, Result.andThen_ok, List.map_toArray, List.map_cons, List.map_nil, hs, hx, hr]
  exact h g' cap' w' h2 h3

theorem owns_empty {W : World} {g base e : Nat} (hh : W.heap[g]? = some (.cells #[] e (0, 0))) (hb : base ≤ g) : W.ownsRow base e 1 (.slice (some ⟨g, 0, none⟩) 0 0) 0 [] :=
  ⟨by simp, .inr ⟨g, 0, #[], rfl, hb, hh, Nat.le_refl _, Nat.zero_le _, by simp, by simp⟩⟩
/-- A list of numbers as cells. -/
theorem list_cells (xs : List Value) (h : ∀ u, u ∈ xs → ∃ z : Int, u = .int .i64 z) : ∃ Y : Nat → Int, xs = cellsL xs.length Y := by
  induction xs with
  | nil => exact ⟨fun _ => 0, rfl⟩
  | cons u xs ih =>
    obtain ⟨z, rfl⟩ := h u (by simp)
    obtain ⟨Y, e⟩ := ih (fun v hv => h v (by simp [hv]))
    refine ⟨fun k => match k with | 0 => z | k + 1 => Y k, ?_⟩
    unfold cellsL at e ⊢
    rw [List.length_cons, List.range_succ_eq_map, List.map_cons, List.map_map]
    congr 1

theorem owns_cells {w : World} {base e N : Nat} {v : Value} {xs : List Value} (h : w.ownsRow base e 1 v N xs) (hall : ∀ u, u ∈ xs → ∃ z : Int, u = .int .i64 z) : ∃ Y : Nat → Int, w.ownsRow base e 1 v N (cellsL N Y) := by
  obtain ⟨Y, e'⟩ := list_cells xs hall
  have hl := h.1
  rw [Nat.mul_one] at hl
  rw [hl] at e'
  exact ⟨Y, e' ▸ h⟩

/-- What it hands back: some row of n + 1 numbers at most, the reader gone on. -/
def DrewAny (r : Nat) (a : Option Addr) (n c p m : Nat) (w : World) (e : Ending) (w' : World) : Prop :=
  ∃ g k cap X p', e = .returned (.slice (some ⟨g, 0, none⟩) k cap) ∧ (w.heap.size ≤ g ∧ g < w'.heap.size ∧ k ≤ cap ∧ k ≤ m + 1) ∧ Rd w' (some ⟨g, 0, none⟩) k X ∧ RdrAt w' r a n c p' ∧ p' ≤ p + m + 2 ∧ ButR r w.heap.size w w'

/-- append(x, y...) in a plain region. -/
theorem wpList_append_any {P : Program} (w : World) {ops : Array Oper} {rest : List Oper} {o : Oper} {a : Act} {Q : Exit → Act → World → Prop} (hgd : o.guard = none) (s x : Operand) (t : TypeId)
    (ho : o.op = .call { callee := .builtin .append, args := #[s, x], argTypes := #[t, t] })
    (base : Nat) (e : TypeId) (i : TypeInfo) (ht : P.underlying t = some (.slice e)) (hi : P.info? e = some i) (hz : i.zero = some (.int .i64 0)) (hsize : i.size = 1) (hby : i.bytes = 8)
    (g n cap : Nat) (xs : List Value) (hs : a.eval s = .slice (some ⟨g, 0, none⟩) n cap) (hown : w.ownsRow base e 1 (.slice (some ⟨g, 0, none⟩) n cap) n xs)
    (ad : Addr) (m c : Nat) (news : List Value) (hx : a.eval x = .slice (some ad) m c) (hl : news.length = m) (hnews : ∀ j u, news[j]? = some u → w.cell? (ad.add j) = some u) (h1 : ∀ u ∈ news, u.oneCell' = true)
    (hn : n + m ≤ 1048576) (hbase : base ≤ w.heap.size)
    (h : ∀ g' cap' w', w'.ownsRow base e 1 (.slice (some ⟨g', 0, none⟩) (n + m) cap') (n + m) (xs ++ news) → w.grownBy w' (some g) → wpList P ops Q rest (a.put o.dst (.slice (some ⟨g', 0, none⟩) (n + m) cap')) w') :
    wpList P ops Q (o :: rest) a w :=
  wpList_step fun K hK => step_append_any w hgd s x t ho base e i ht hi hz hsize hby g n cap xs hs hown ad m c news hx hl hnews h1 hn hbase fun g' cap' w' a b => hK _ _ (h g' cap' w' a b)
/-- What it hands back: a table of one to five rows, of five numbers at most, and a row of six numbers at most. -/
def DrewWay (w : World) (e : Ending) (w' : World) : Prop :=
  ∃ ga N gc A L C Z g m cap X, e = .returned (.tuple #[.slice ga N gc, .slice (some ⟨g, 0, none⟩) m cap]) ∧ (1 ≤ N ∧ N ≤ 5 ∧ m ≤ cap ∧ m ≤ 6) ∧ (∀ s, s < N → L s ≤ 5) ∧ Tab w' ga N A L C Z ∧ Rd w' (some ⟨g, 0, none⟩) m X ∧ Below w.heap.size w w'
end Go.Proofs.Ytaipodnhnekpjaa
