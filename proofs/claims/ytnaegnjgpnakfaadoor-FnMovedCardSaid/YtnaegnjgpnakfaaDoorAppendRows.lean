/- append of rows, where nothing is appended too. -/
/- A table in the making: its base lowered; one row more, its top row nil or not. -/
import Derived.Test.YtnaegnjgpnakfaaDoorLists
import Derived.Deep.AppendLies
namespace Go.Proofs.YtnaegnjgpnakfaaDoor
set_option linter.unusedVariables false
set_option linter.unusedSimpArgs false
open Go.RowKit

/-- append(x, y...) of any rows, also where nothing is appended. -/
theorem step_append_rows {P : Program} (w : World) {ops : Array Oper} {o : Oper} {a : Act} {K : Act → World → Prop} {Q : Exit → Act → World → Prop} {E : Prop} (hgd : o.guard = none) (s x : Operand) (t : TypeId)
    (ho : o.op = .call { callee := .builtin .append, args := #[s, x], argTypes := #[t, t] })
    (base : Nat) (e : TypeId) (i : TypeInfo) (z : Value) (bytes : Nat) (ht : P.underlying t = some (.slice e)) (hi : P.info? e = some i) (hz : i.zero = some z) (hsize : i.size = 1) (hby : i.bytes = bytes) (hzs : z.cells.size = 1)
    (g n cap : Nat) (xs : List Value) (hs : a.eval s = .slice (some ⟨g, 0, none⟩) n cap) (hown : w.ownsRow base e 1 (.slice (some ⟨g, 0, none⟩) n cap) n xs)
    (ad : Addr) (m c : Nat) (news : List Value) (hx : a.eval x = .slice (some ad) m c) (hl : news.length = m) (hnews : ∀ j u, news[j]? = some u → w.cell? (ad.add j) = some u) (h1 : ∀ u ∈ news, u.oneCell' = true)
    (hn : n + m ≤ maxLen) (hbytes : (n + m) * bytes ≤ 140737488355328) (hbase : base ≤ w.heap.size) (H : Nat) (hH : w.heap.size = H)
    (h : ∀ g' cap' w', w'.ownsRow base e 1 (.slice (some ⟨g', 0, none⟩) (n + m) cap') (n + m) (xs ++ news) → w.grownBy w' (some g) → (g = g' ∨ g' = H) → K (a.put o.dst (.slice (some ⟨g', 0, none⟩) (n + m) cap')) w') :
    if Region.wanted o (yielded ops a.tmps) = true then Oper.wp P o a w K Q else E := by
  have hw : Region.wanted o (yielded ops a.tmps) = true := by simp [Region.wanted, hgd]
  rw [if_pos hw]
  obtain ⟨v', w', hr, h2, h3, h4, h5'⟩ := run_append_own_at (P := P) w base t o.type e i z 1 bytes ht hi hz hsize hby hzs (by decide) (.slice (some ⟨g, 0, none⟩) n cap) n xs hown ad m c news (by omega) hnews h1 hn hbytes hbase
  have hne : v' ≠ .slice none 0 0 := fun e => by have := (h4.1 e).1; cases this
  obtain ⟨g', cap', rfl⟩ : ∃ g' cap', v' = .slice (some ⟨g', 0, none⟩) (n + m) cap' := by
    obtain ⟨_, (⟨h5, _⟩ | ⟨g', cap', _, h5, _⟩)⟩ := h2
    · exact absurd h5 hne
    · exact ⟨g', cap', h5⟩
  unfold Oper.wp execOp
  simp only [ho, resolve, invoke, builtin, Sem.run_bind, Sem.run_pure, Result.andThen_ok, List.map_toArray, List.map_cons, List.map_nil, hs, hx, hr]
  exact h g' cap' w' h2 h3 (by
    rcases h5' with h6 | h6
    · simp only [Value.ownBlock, Option.some.injEq] at h6; exact .inl h6.symm
    · simp only [Value.ownBlock, Option.some.injEq] at h6; exact .inr (h6.trans hH))
theorem wpList_append_rows {P : Program} (w : World) {ops : Array Oper} {rest : List Oper} {o : Oper} {a : Act} {Q : Exit → Act → World → Prop} (hgd : o.guard = none) (s x : Operand) (t : TypeId)
    (ho : o.op = .call { callee := .builtin .append, args := #[s, x], argTypes := #[t, t] })
    (base : Nat) (e : TypeId) (i : TypeInfo) (z : Value) (bytes : Nat) (ht : P.underlying t = some (.slice e)) (hi : P.info? e = some i) (hz : i.zero = some z) (hsize : i.size = 1) (hby : i.bytes = bytes) (hzs : z.cells.size = 1)
    (g n cap : Nat) (xs : List Value) (hs : a.eval s = .slice (some ⟨g, 0, none⟩) n cap) (hown : w.ownsRow base e 1 (.slice (some ⟨g, 0, none⟩) n cap) n xs)
    (ad : Addr) (m c : Nat) (news : List Value) (hx : a.eval x = .slice (some ad) m c) (hl : news.length = m) (hnews : ∀ j u, news[j]? = some u → w.cell? (ad.add j) = some u) (h1 : ∀ u ∈ news, u.oneCell' = true)
    (hn : n + m ≤ maxLen) (hbytes : (n + m) * bytes ≤ 140737488355328) (hbase : base ≤ w.heap.size) (H : Nat) (hH : w.heap.size = H)
    (h : ∀ g' cap' w', w'.ownsRow base e 1 (.slice (some ⟨g', 0, none⟩) (n + m) cap') (n + m) (xs ++ news) → w.grownBy w' (some g) → (g = g' ∨ g' = H) → wpList P ops Q rest (a.put o.dst (.slice (some ⟨g', 0, none⟩) (n + m) cap')) w') :
    wpList P ops Q (o :: rest) a w :=
  wpList_step fun K hK => step_append_rows w hgd s x t ho base e i z bytes ht hi hz hsize hby hzs g n cap xs hs hown ad m c news hx hl hnews h1 hn hbytes hbase H hH fun g' cap' w' a b d => hK _ _ (h g' cap' w' a b d)

/-- append(v, y...) at any row of a call's own, nil too. -/
theorem wpList_append_gen {P : Program} (w : World) {ops : Array Oper} {rest : List Oper} {o : Oper} {a : Act} {Q : Exit → Act → World → Prop} (hgd : o.guard = none) (s x : Operand) (t : TypeId)
    (ho : o.op = .call { callee := .builtin .append, args := #[s, x], argTypes := #[t, t] })
    (base : Nat) (e : TypeId) (i : TypeInfo) (z : Value) (bytes : Nat) (ht : P.underlying t = some (.slice e)) (hi : P.info? e = some i) (hz : i.zero = some z) (hsize : i.size = 1) (hby : i.bytes = bytes) (hzs : z.cells.size = 1)
    (v : Value) (n : Nat) (xs : List Value) (hs : a.eval s = v) (hown : w.ownsRow base e 1 v n xs)
    (ad : Addr) (m c : Nat) (news : List Value) (hx : a.eval x = .slice (some ad) m c) (hl : news.length = m) (hnews : ∀ j u, news[j]? = some u → w.cell? (ad.add j) = some u) (h1 : ∀ u ∈ news, u.oneCell' = true)
    (hn : n + m ≤ maxLen) (hbytes : (n + m) * bytes ≤ 140737488355328) (hbase : base ≤ w.heap.size)
    (h : ∀ v' w', w'.ownsRow base e 1 v' (n + m) (xs ++ news) → w.grownBy w' v.ownBlock → (v'.ownBlock = v.ownBlock ∨ v'.ownBlock = some w.heap.size) → wpList P ops Q rest (a.put o.dst v') w') :
    wpList P ops Q (o :: rest) a w := by
  refine wpList_step fun K hK => ?_
  have hw : Region.wanted o (yielded ops a.tmps) = true := by simp [Region.wanted, hgd]
  rw [if_pos hw]
  obtain ⟨v', w', hr, h2, h3, h4, h5'⟩ := run_append_own_at (P := P) w base t o.type e i z 1 bytes ht hi hz hsize hby hzs (by decide) v n xs hown ad m c news (by omega) hnews h1 hn hbytes hbase
  unfold Oper.wp execOp
  simp only [ho, resolve, invoke, builtin, Sem.run_bind, Sem.run_pure, Result.andThen_ok, List.map_toArray, List.map_cons, List.map_nil, hs, hx, hr]
  exact hK _ _ (h v' w' h2 h3 h5')

/-- A table of the call's own, its top row in a block. -/
def RetLS (tS : Nat) (LL : List (List Int)) (w : World) (e : Ending) (w' : World) : Prop :=
  ∃ g cap G Cp, e = .returned (.slice (some ⟨g, 0, none⟩) LL.length cap) ∧ Making tS w.heap.size w' (.slice (some ⟨g, 0, none⟩) LL.length cap) LL.length G Cp (lenL LL) (nthL LL) ∧ Below w.heap.size w w'
end Go.Proofs.YtnaegnjgpnakfaaDoor

namespace Go.Proofs.YtnaegnjgpnakfaaDoor
set_option linter.unusedVariables false
set_option linter.unusedSimpArgs false
open Go.RowKit

theorem Making.lower {tS B B' i : Nat} {w : World} {v : Value} {G Cp L : Nat → Nat} {X : Nat → Nat → Int} (h : Making tS B w v i G Cp L X) (hB : B' ≤ B) : Making tS B' w v i G Cp L X := by
  obtain ⟨⟨k0, k1⟩, h2, h3⟩ := h
  refine ⟨⟨k0, ?_⟩, fun r hr => ⟨Nat.le_trans hB (h2 r hr).1, (h2 r hr).2⟩, h3⟩
  rcases k1 with k1 | ⟨g, cap, cur, e1, e2, e3⟩
  · exact .inl k1
  · exact .inr ⟨g, cap, cur, e1, Nat.le_trans hB e2, e3⟩
/-- One row more, appended. -/
theorem Making.push {tS B gr cr : Nat} {w w2 : World} {v v2 : Value} {LL : List (List Int)} {x : List Int} {G Cp : Nat → Nat} (hM : Making tS B w v LL.length G Cp (lenL LL) (nthL LL)) (hr : OwnR w gr (some ⟨gr, 0, none⟩) x.length (nth x)) (h1 : B ≤ gr) (h2 : gr < w.heap.size) (h3 : v.ownBlock ≠ some gr) (h4 : ∀ r, r < LL.length → G r ≠ gr)
    (hown : w2.ownsRow B tS 1 v2 (LL.length + 1) (((List.range LL.length).map fun r => Value.slice (some ⟨G r, 0, none⟩) (lenL LL r) (Cp r)) ++ [.slice (some ⟨gr, 0, none⟩) x.length cr])) (hg : w.grownBy w2 v.ownBlock) (hat : v2.ownBlock = v.ownBlock ∨ v2.ownBlock = some w.heap.size) :
    Making tS B w2 v2 (LL ++ [x]).length (fun r => if r < LL.length then G r else gr) (fun r => if r < LL.length then Cp r else cr) (lenL (LL ++ [x])) (nthL (LL ++ [x])) := by
  obtain ⟨g2, cap2, rfl⟩ := owns_form hown (Nat.succ_pos _)
  have hM1 := hM.snoc x
  rw [List.length_append, List.length_singleton]
  refine hM1.next (gr := gr) (cr := cr) (H := w.heap.size) (by rw [lists_snoc.1, lists_snoc.2]; exact hr) h1 h2 h3 h4 ?_ hg ?_ (Nat.le_refl _)
  · have e : ((List.range LL.length).map fun r => Value.slice (some ⟨G r, 0, none⟩) (lenL (LL ++ [x]) r) (Cp r)) = (List.range LL.length).map fun r => Value.slice (some ⟨G r, 0, none⟩) (lenL LL r) (Cp r) := List.map_congr_left fun r hr => by rw [(lists_left (List.mem_range.1 hr)).1]
    rw [e, lists_snoc.1]
    exact hown
  · rcases hat with h | h
    · exact .inl h.symm
    · exact .inr (Option.some.inj h)

end Go.Proofs.YtnaegnjgpnakfaaDoor
