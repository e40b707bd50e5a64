/- Texts joined: WordsRead, KeepP, AppendAny, Seq. -/
import Derived.Test.YtabdbgnkiebcdaaGreatDoorPartS2
import Derived.Test.YtabdbgnkiebcdaaGreatDoorPartS1
import Derived.Deep.AppendLies
import Derived.Deep.RegionLaw
import Derived.Deep.QuietTactic
import Derived.RangeFuncNested
import Derived.RangeFuncBound
import Derived.RangeFuncCalls
import Derived.RangeFuncLeaves
import Derived.ArgAppend
import Derived.OwnWalkIn
import Derived.CallsIn
import Derived.TacticsIn
import Derived.Sort.QuietThIn
namespace Go.Proofs.YtabdbgnkiebcdaaGreatDoor
set_option linter.unusedVariables false
open Go.Lib

/-- Ahead of the place k stand the word and the numbers A, and so it is with each reading of the text. -/
def Reads (W l : List UInt8) (A : List Int) (k : Nat) : Prop :=
  k ≤ l.length ∧ l.take k = wordsB W A ∧ FewAll A ∧ ∀ L, FewAll L → l = wordsB W L → ∃ M, L = A ++ M ∧ l.drop k = flatN M

/-- No numbers behind the word make the text. -/
def NoWords (W l : List UInt8) : Prop := ∀ L, FewAll L → l ≠ wordsB W L

theorem reads_zero (W l : List UInt8) (h : W.length ≤ l.length) (hW : l.take W.length = W) : Reads W l [] W.length := by
  refine ⟨h, by rw [hW]; exact (List.append_nil W).symm, (fun x hx => by cases hx), ?_⟩
  intro L _ hl
  refine ⟨L, rfl, ?_⟩
  rw [hl]
  unfold wordsB
  exact List.drop_left

theorem no_prefix (W l : List UInt8) (h : l.length < W.length ∨ l.take W.length ≠ W) : NoWords W l := by
  intro L _ hl
  rcases h with h | h
  · rw [hl] at h; unfold wordsB at h; rw [List.length_append] at h; omega
  · apply h; rw [hl]; unfold wordsB; exact List.take_left

theorem reads_end (W l : List UInt8) (A : List Int) (h : Reads W l A l.length) : l = wordsB W A ∧ FewAll A := by
  obtain ⟨_, h1, h2, _⟩ := h
  rw [List.take_length] at h1
  exact ⟨h1, h2⟩

/-- Digits that go on as far as they can, but not beyond eleven, are those of a number of at most eleven digits that stands there. -/
theorem digs_eleven (a b r t : List UInt8) (ha : ∀ c ∈ a, DigB c) (hb : ∀ c ∈ b, DigB c) (hr : ∀ c t', r = c :: t' → ¬ DigB c) (hlen : a.length ≤ 11) (h : a ++ r = b ++ t) (ht : b.length = 11 ∨ ∀ c t', t = c :: t' → ¬ DigB c) : a = b ∧ r = t := by
  rcases ht with hb11 | ht
  · have key : ∀ (a b r t : List UInt8), (∀ c ∈ b, DigB c) → (∀ c t', r = c :: t' → ¬ DigB c) → a.length ≤ b.length → a ++ r = b ++ t → a = b ∧ r = t := by
      intro a
      induction a with
      | nil =>
        intro b r t hb hr _ h
        cases b with
        | nil => exact ⟨rfl, h⟩
        | cons c b' => exact absurd (hb c (List.mem_cons_self ..)) (hr c (b' ++ t) h)
      | cons c a' ih =>
        intro b r t hb hr hl h
        cases b with
        | nil => simp at hl
        | cons d b' =>
          simp only [List.cons_append, List.cons.injEq] at h
          obtain ⟨rfl, h⟩ := h
          obtain ⟨rfl, rfl⟩ := ih b' r t (fun x hx => hb x (List.mem_cons_of_mem _ hx)) hr (by simpa using hl) h
          exact ⟨rfl, rfl⟩
    exact key a b r t hb hr (by omega) h
  · exact digs_part a b r t ha hb hr ht h

theorem reads_step (W l : List UInt8) (A : List Int) (k e : Nat) (c : UInt8) (D : List UInt8) (h : Reads W l A k) (hk : l[k]? = some c) (he : k + 1 ≤ e) (hel : e ≤ l.length) (he11 : e - (k + 1) ≤ 11)
    (hD : D = (l.drop (k + 1)).take (e - (k + 1))) (hdig : ∀ b ∈ D, DigB b) (hstop : e - (k + 1) = 11 ∨ ∀ b, l[e]? = some b → ¬ DigB b) :
    ((c = 32 ∧ D ≠ [] ∧ D = decDigits (numV 0 D)) → Reads W l (A ++ [(numV 0 D : Int)]) e) ∧
    (¬ (c = 32 ∧ D ≠ [] ∧ D = decDigits (numV 0 D)) → NoWords W l) := by
  obtain ⟨h0, h1, h2, h3⟩ := h
  have hdl : D.length = e - (k + 1) := by rw [hD, List.length_take, List.length_drop]; omega
  have hkl : k < l.length := by omega
  have hcons : l.drop k = c :: l.drop (k + 1) := by
    rw [List.drop_eq_getElem_cons hkl]
    congr 1
    rw [List.getElem?_eq_getElem hkl] at hk
    injection hk
  have hsplit : l.drop (k + 1) = D ++ l.drop e := by
    have h4 := List.take_append_drop (e - (k + 1)) (l.drop (k + 1))
    rw [← hD, List.drop_drop, show k + 1 + (e - (k + 1)) = e by omega] at h4
    exact h4.symm
  have hrest : ∀ b t', l.drop e = b :: t' → l[e]? = some b := by
    intro b t' hb
    have h4 : (l.drop e)[0]? = some b := by rw [hb]; rfl
    rw [List.getElem?_drop] at h4
    simpa using h4
  have hst : D.length = 11 ∨ ∀ b t', l.drop e = b :: t' → ¬ DigB b := by
    rcases hstop with h5 | h5
    · left; omega
    · right; intro b t' hb; exact h5 b (hrest b t' hb)
  have hlt : numV 0 D < 100000000000 := by
    have h6 := numV_lt D 0 D.length rfl hdig
    have h7 : (10 : Nat) ^ D.length ≤ 10 ^ 11 := Nat.pow_le_pow_right (by omega) (by omega)
    omega
  -- each reading goes on so
  have hgo : ∀ L, FewAll L → l = wordsB W L → ∃ x M, L = A ++ x :: M ∧ c = 32 ∧ D = decDigits x.toNat ∧ l.drop e = flatN M := by
    intro L hL hl
    obtain ⟨M, hM, hf⟩ := h3 L hL hl
    rw [hcons] at hf
    rcases flatN_head M with ⟨h8, _⟩ | ⟨x, r, rfl, h8⟩
    · rw [h8] at hf; cases hf
    · rw [h8] at hf
      injection hf with hc hf
      have hx : FewDig x := hL x (by rw [hM]; exact List.mem_append_right _ (List.mem_cons_self ..))
      rw [hsplit, itoa_few hx] at hf
      have hx11 : (decDigits x.toNat).length ≤ 11 := dec_len 11 _ (by omega) (by have := hx.1; have := hx.2; omega)
      obtain ⟨h9, h10⟩ := digs_eleven _ _ _ _ (dec_dig _) hdig (flatN_nodig r) hx11 hf.symm hst
      exact ⟨x, r, hM, hc, h9.symm, h10.symm⟩
  constructor
  · rintro ⟨hc, hne, hv⟩
    refine ⟨hel, ?_, ?_, ?_⟩
    · have h4 : l.take e = l.take k ++ c :: D := by
        have h5 : e = k + (1 + D.length) := by omega
        rw [h5, List.take_add, hcons, hsplit]
        congr 1
        rw [Nat.add_comm 1 D.length, List.take_succ_cons, List.take_left]
      rw [h4, h1, hc]
      unfold wordsB
      rw [flatN_snoc, ← List.append_assoc]
      rw [itoa_nonneg]
      exact congrArg (fun z => W ++ flatN A ++ 32 :: z) hv
    · intro x hx
      rcases List.mem_append.1 hx with hx | hx
      · exact h2 x hx
      · rw [List.mem_singleton] at hx
        subst hx
        exact ⟨by omega, by omega⟩
    · intro L hL hl
      obtain ⟨x, M, hM, _, hDx, hf⟩ := hgo L hL hl
      refine ⟨M, ?_, hf⟩
      have hx : FewDig x := hL x (by rw [hM]; exact List.mem_append_right _ (List.mem_cons_self ..))
      have h4 : numV 0 D = x.toNat := by rw [hDx, dec_val]
      have h5 : (numV 0 D : Int) = x := by have := hx.1; omega
      rw [h5, hM]; simp
  · intro hno L hL hl
    obtain ⟨x, M, hM, hc, hDx, hf⟩ := hgo L hL hl
    apply hno
    refine ⟨hc, ?_, ?_⟩
    · rw [hDx]; exact dec_ne _
    · rw [hDx, dec_val]
end Go.Proofs.YtabdbgnkiebcdaaGreatDoor

namespace Go.Proofs.YtabdbgnkiebcdaaGreatDoor
set_option linter.unusedVariables false
set_option linter.unusedSimpArgs false
open Go.RowKit

/-- append(x, y...) at a step of a region that draws: the old row or a new one, also where nothing is appended. -/
theorem step_append_any {P : Program} (w : World) {ops : Array Oper} {o : Oper} {a : Act} {K : Act → World → Prop} {Q : Exit → Act → World → Prop} {E : Prop} (hgd : o.guard = none) (s x : Operand) (t : TypeId)
    (ho : o.op = .call { callee := .builtin .append, args := #[s, x], argTypes := #[t, t] })
    (base : Nat) (e : TypeId) (i : TypeInfo) (ht : P.underlying t = some (.slice e)) (hi : P.info? e = some i) (hz : i.zero = some (.int .i64 0)) (hsize : i.size = 1) (hby : i.bytes = 8)
    (g n cap : Nat) (xs : List Value) (hs : a.eval s = .slice (some ⟨g, 0, none⟩) n cap) (hown : w.ownsRow base e 1 (.slice (some ⟨g, 0, none⟩) n cap) n xs)
    (ad : Addr) (m c : Nat) (news : List Value) (hx : a.eval x = .slice (some ad) m c) (hl : news.length = m) (hnews : ∀ j u, news[j]? = some u → w.cell? (ad.add j) = some u) (h1 : ∀ u ∈ news, u.oneCell' = true)
    (hn : n + m ≤ 1048576) (hbase : base ≤ w.heap.size)
    (h : ∀ g' cap' w', w'.ownsRow base e 1 (.slice (some ⟨g', 0, none⟩) (n + m) cap') (n + m) (xs ++ news) → w.grownBy w' (some g) → K (a.put o.dst (.slice (some ⟨g', 0, none⟩) (n + m) cap')) w') :
    if Region.wanted o (yielded ops a.tmps) = true then Oper.wp P o a w K Q else E := by
  have hw : Region.wanted o (yielded ops a.tmps) = true := by simp [Region.wanted, hgd]
  rw [if_pos hw]
  obtain ⟨v', w', hr, h2, h3, h4, _⟩ := run_append_own_at (P := P) w base t o.type e i (.int .i64 0) 1 8 ht hi hz hsize hby rfl (by decide) (.slice (some ⟨g, 0, none⟩) n cap) n xs hown ad m c news (by omega) hnews h1 (by unfold maxLen; omega) (by omega) hbase
  have hne : v' ≠ .slice none 0 0 := fun e => by have := (h4.1 e).1; cases this
  obtain ⟨g', cap', rfl⟩ : ∃ g' cap', v' = .slice (some ⟨g', 0, none⟩) (n + m) cap' := by
    obtain ⟨_, (⟨h5, _⟩ | ⟨g', cap', _, h5, _⟩)⟩ := h2
    · exact absurd h5 hne
    · exact ⟨g', cap', h5⟩
  unfold Oper.wp execOp
  simp only [ho, resolve, invoke, builtin, Sem.run_bind, Sem.run_pure, Result.andThen_ok, List.map_toArray, List.map_cons, List.map_nil, hs, hx, hr]
  exact h g' cap' w' h2 h3

/-- append(x, y...) in a plain region. -/
theorem wpList_append_any {P : Program} (w : World) {ops : Array Oper} {rest : List Oper} {o : Oper} {a : Act} {Q : Exit → Act → World → Prop} (hgd : o.guard = none) (s x : Operand) (t : TypeId)
    (ho : o.op = .call { callee := .builtin .append, args := #[s, x], argTypes := #[t, t] })
    (base : Nat) (e : TypeId) (i : TypeInfo) (ht : P.underlying t = some (.slice e)) (hi : P.info? e = some i) (hz : i.zero = some (.int .i64 0)) (hsize : i.size = 1) (hby : i.bytes = 8)
    (g n cap : Nat) (xs : List Value) (hs : a.eval s = .slice (some ⟨g, 0, none⟩) n cap) (hown : w.ownsRow base e 1 (.slice (some ⟨g, 0, none⟩) n cap) n xs)
    (ad : Addr) (m c : Nat) (news : List Value) (hx : a.eval x = .slice (some ad) m c) (hl : news.length = m) (hnews : ∀ j u, news[j]? = some u → w.cell? (ad.add j) = some u) (h1 : ∀ u ∈ news, u.oneCell' = true)
    (hn : n + m ≤ 1048576) (hbase : base ≤ w.heap.size)
    (h : ∀ g' cap' w', w'.ownsRow base e 1 (.slice (some ⟨g', 0, none⟩) (n + m) cap') (n + m) (xs ++ news) → w.grownBy w' (some g) → wpList P ops Q rest (a.put o.dst (.slice (some ⟨g', 0, none⟩) (n + m) cap')) w') :
    wpList P ops Q (o :: rest) a w :=
  wpList_step fun K hK => step_append_any w hgd s x t ho base e i ht hi hz hsize hby g n cap xs hs hown ad m c news hx hl hnews h1 hn hbase fun g' cap' w' a b => hK _ _ (h g' cap' w' a b)
/-- append(x, y...) at a step of a region that draws: the old row or a new one, also where nothing is appended. -/
theorem step_append_anyw {P : Program} (w : World) {ops : Array Oper} {o : Oper} {a : Act} {K : Act → World → Prop} {Q : Exit → Act → World → Prop} {E : Prop} (hw : Region.wanted o (yielded ops a.tmps) = true) (s x : Operand) (t : TypeId)
    (ho : o.op = .call { callee := .builtin .append, args := #[s, x], argTypes := #[t, t] })
    (base : Nat) (e : TypeId) (i : TypeInfo) (ht : P.underlying t = some (.slice e)) (hi : P.info? e = some i) (hz : i.zero = some (.int .i64 0)) (hsize : i.size = 1) (hby : i.bytes = 8)
    (g n cap : Nat) (xs : List Value) (hs : a.eval s = .slice (some ⟨g, 0, none⟩) n cap) (hown : w.ownsRow base e 1 (.slice (some ⟨g, 0, none⟩) n cap) n xs)
    (ad : Addr) (m c : Nat) (news : List Value) (hx : a.eval x = .slice (some ad) m c) (hl : news.length = m) (hnews : ∀ j u, news[j]? = some u → w.cell? (ad.add j) = some u) (h1 : ∀ u ∈ news, u.oneCell' = true)
    (hn : n + m ≤ 1048576) (hbase : base ≤ w.heap.size)
    (h : ∀ g' cap' w', w'.ownsRow base e 1 (.slice (some ⟨g', 0, none⟩) (n + m) cap') (n + m) (xs ++ news) → w.grownBy w' (some g) → K (a.put o.dst (.slice (some ⟨g', 0, none⟩) (n + m) cap')) w') :
    if Region.wanted o (yielded ops a.tmps) = true then Oper.wp P o a w K Q else E := by
  rw [if_pos hw]
  obtain ⟨v', w', hr, h2, h3, h4, _⟩ := run_append_own_at (P := P) w base t o.type e i (.int .i64 0) 1 8 ht hi hz hsize hby rfl (by decide) (.slice (some ⟨g, 0, none⟩) n cap) n xs hown ad m c news (by omega) hnews h1 (by unfold maxLen; omega) (by omega) hbase
  have hne : v' ≠ .slice none 0 0 := fun e => by have := (h4.1 e).1; cases this
  obtain ⟨g', cap', rfl⟩ : ∃ g' cap', v' = .slice (some ⟨g', 0, none⟩) (n + m) cap' := by
    obtain ⟨_, (⟨h5, _⟩ | ⟨g', cap', _, h5, _⟩)⟩ := h2
    · exact absurd h5 hne
    · exact ⟨g', cap', h5⟩
  unfold Oper.wp execOp
  simp only [ho, resolve, invoke, builtin, Sem.run_bind, Sem.run_pure, Result.andThen_ok, List.map_toArray, List.map_cons, List.map_nil, hs, hx, hr]
  exact h g' cap' w' h2 h3

/-- append(x, y...) in a plain region, behind a guard that holds. -/
theorem wpList_append_anyw {P : Program} (w : World) {ops : Array Oper} {rest : List Oper} {o : Oper} {a : Act} {Q : Exit → Act → World → Prop} (hw : Region.wanted o (yielded ops a.tmps) = true) (s x : Operand) (t : TypeId)
    (ho : o.op = .call { callee := .builtin .append, args := #[s, x], argTypes := #[t, t] })
    (base : Nat) (e : TypeId) (i : TypeInfo) (ht : P.underlying t = some (.slice e)) (hi : P.info? e = some i) (hz : i.zero = some (.int .i64 0)) (hsize : i.size = 1) (hby : i.bytes = 8)
    (g n cap : Nat) (xs : List Value) (hs : a.eval s = .slice (some ⟨g, 0, none⟩) n cap) (hown : w.ownsRow base e 1 (.slice (some ⟨g, 0, none⟩) n cap) n xs)
    (ad : Addr) (m c : Nat) (news : List Value) (hx : a.eval x = .slice (some ad) m c) (hl : news.length = m) (hnews : ∀ j u, news[j]? = some u → w.cell? (ad.add j) = some u) (h1 : ∀ u ∈ news, u.oneCell' = true)
    (hn : n + m ≤ 1048576) (hbase : base ≤ w.heap.size)
    (h : ∀ g' cap' w', w'.ownsRow base e 1 (.slice (some ⟨g', 0, none⟩) (n + m) cap') (n + m) (xs ++ news) → w.grownBy w' (some g) → wpList P ops Q rest (a.put o.dst (.slice (some ⟨g', 0, none⟩) (n + m) cap')) w') :
    wpList P ops Q (o :: rest) a w :=
  wpList_step fun K hK => step_append_anyw w hw s x t ho base e i ht hi hz hsize hby g n cap xs hs hown ad m c news hx hl hnews h1 hn hbase fun g' cap' w' a b => hK _ _ (h g' cap' w' a b)
theorem keepP_drew {a b : Addr} {v u : Value} {W : World} (h : W.cell? a = some v ∧ W.cell? b = some u) : W.drew.cell? a = some v ∧ W.drew.cell? b = some u := ⟨by simpa using h.1, by simpa using h.2⟩
theorem keepP_alloc {a b : Addr} {v u : Value} {W : World} (h : W.cell? a = some v ∧ W.cell? b = some u) (o : Obj) : (W.alloc o).cell? a = some v ∧ (W.alloc o).cell? b = some u :=
  ⟨(World.cell?_of_block (w := W) (a := a) (Below.heap_alloc W o _ (World.block_lt_of_cell? _ _ h.1))).trans h.1, (World.cell?_of_block (w := W) (a := b) (Below.heap_alloc W o _ (World.block_lt_of_cell? _ _ h.2))).trans h.2⟩
theorem keepP_grown {a b : Addr} {v u : Value} {W W' : World} {row : Option Nat} (h : W.cell? a = some v ∧ W.cell? b = some u) (hg : W.grownBy W' row) (hr : ∀ k, row = some k → a.block ≠ k ∧ b.block ≠ k) : W'.cell? a = some v ∧ W'.cell? b = some u :=
  ⟨hg.cell h.1 (fun e => (hr _ e.symm).1 rfl), hg.cell h.2 (fun e => (hr _ e.symm).2 rfl)⟩
theorem keepP_keeps {a b : Addr} {v u : Value} {W W' : World} {r : Nat} (h : W.cell? a = some v ∧ W.cell? b = some u) (ha : a.block ≠ r) (hb : b.block ≠ r) (hk : Keeps r (r + 1) W W') : W'.cell? a = some v ∧ W'.cell? b = some u :=
  ⟨(hk.cell (by omega)).trans h.1, (hk.cell (by omega)).trans h.2⟩

end Go.Proofs.YtabdbgnkiebcdaaGreatDoor

namespace Go.Proofs.YtabdbgnkiebcdaaGreatDoor
set_option linter.unusedVariables false
open Go.RowKit

theorem owns_empty {W : World} {g base e : Nat} (hh : W.heap[g]? = some (.cells #[] e (0, 0))) (hb : base ≤ g) : W.ownsRow base e 1 (.slice (some ⟨g, 0, none⟩) 0 0) 0 [] :=
  ⟨by simp, .inr ⟨g, 0, #[], rfl, hb, hh, Nat.le_refl _, Nat.zero_le _, by simp, by simp⟩⟩
/-- A list of numbers as cells. -/
theorem list_cells (xs : List Value) (h : ∀ u, u ∈ xs → ∃ z : Int, u = .int .i64 z) : ∃ Y : Nat → Int, xs = cellsL xs.length Y := by
  induction xs with
  | nil => exact ⟨fun _ => 0, rfl⟩
  | cons u xs ih =>
    obtain ⟨z, rfl⟩ := h u (by simp)
    obtain ⟨Y, e⟩ := ih (fun v hv => h v (by simp [hv]))
    refine ⟨fun k => match k with | 0 => z | k + 1 => Y k, ?_⟩
    unfold cellsL at e ⊢
    rw [List.length_cons, List.range_succ_eq_map, List.map_cons, List.map_map]
    congr 1

theorem owns_cells {w : World} {base e N : Nat} {v : Value} {xs : List Value} (h : w.ownsRow base e 1 v N xs) (hall : ∀ u, u ∈ xs → ∃ z : Int, u = .int .i64 z) : ∃ Y : Nat → Int, w.ownsRow base e 1 v N (cellsL N Y) := by
  obtain ⟨Y, e'⟩ := list_cells xs hall
  have hl := h.1
  rw [Nat.mul_one] at hl
  rw [hl] at e'
  exact ⟨Y, e' ▸ h⟩

/-- What it hands back: some row of n + 1 numbers at most, the reader gone on. -/
def DrewAny (r : Nat) (a : Option Addr) (n c p m : Nat) (w : World) (e : Ending) (w' : World) : Prop :=
  ∃ g k cap X p', e = .returned (.slice (some ⟨g, 0, none⟩) k cap) ∧ (w.heap.size ≤ g ∧ g < w'.heap.size ∧ k ≤ cap ∧ k ≤ m + 1) ∧ Rd w' (some ⟨g, 0, none⟩) k X ∧ RdrAt w' r a n c p' ∧ p' ≤ p + m + 2 ∧ ButR r w.heap.size w w'

/-- What it hands back: a table of one to five rows, of five numbers at most, and a row of six numbers at most. -/
def DrewWay (w : World) (e : Ending) (w' : World) : Prop :=
  ∃ ga N gc A L C Z g m cap X, e = .returned (.tuple #[.slice ga N gc, .slice (some ⟨g, 0, none⟩) m cap]) ∧ (1 ≤ N ∧ N ≤ 5 ∧ m ≤ cap ∧ m ≤ 6) ∧ (∀ s, s < N → L s ≤ 5) ∧ Tab w' ga N A L C Z ∧ Rd w' (some ⟨g, 0, none⟩) m X ∧ Below w.heap.size w w'
end Go.Proofs.YtabdbgnkiebcdaaGreatDoor

namespace Go.Proofs.YtabdbgnkiebcdaaGreatDoor
set_option linter.unusedVariables false
set_option linter.unusedSimpArgs false
open Go.RowKit

/-- But for what lies in V, all that was there is as it was. -/
structure Outside (V : Nat → Prop) (w w' : World) : Prop where
  os : w'.os = w.os
  tape : w'.tape = w.tape
  output : w'.output = w.output
  size : w.heap.size ≤ w'.heap.size
  block : ∀ k, k < w.heap.size → ¬ V k → w'.heap[k]? = w.heap[k]?

/-- What lies in V is as it was. -/
structure Inside (V : Nat → Prop) (w w' : World) : Prop where
  os : w'.os = w.os
  tape : w'.tape = w.tape
  output : w'.output = w.output
  size : w.heap.size ≤ w'.heap.size
  block : ∀ k, V k → w'.heap[k]? = w.heap[k]?

namespace Outside
variable {V U : Nat → Prop} {a b c : World}
theorem refl (V : Nat → Prop) (a : World) : Outside V a a := ⟨rfl, rfl, rfl, Nat.le_refl _, fun _ _ _ => rfl⟩
theorem trans' (h : Outside V a b) (k : Outside U b c) (hu : ∀ k, k < a.heap.size → U k → V k) : Outside V a c :=
  ⟨k.os.trans h.os, k.tape.trans h.tape, k.output.trans h.output, Nat.le_trans h.size k.size, fun i hi hv => (k.block i (Nat.lt_of_lt_of_le hi h.size) (fun hU => hv (hu i hi hU))).trans (h.block i hi hv)⟩
theorem mono (h : Outside V a b) (hu : ∀ k, k < a.heap.size → V k → U k) : Outside U a b := ⟨h.os, h.tape, h.output, h.size, fun i hi hv => h.block i hi (fun h' => hv (hu i hi h'))⟩
theorem of_below (h : Below a.heap.size a b) : Outside V a b := ⟨h.os, h.tape, h.output, h.size, fun k hk _ => h.block k hk⟩
theorem below {n : Nat} (h : Outside V a b) (hn : n ≤ a.heap.size) (hv : ∀ k, V k → n ≤ k) : Below n a b := ⟨h.os, h.tape, h.output, h.size, fun k hk => h.block k (by omega) (fun h' => by have := hv k h'; omega)⟩
theorem inside (h : Outside U a b) (hl : ∀ k, V k → k < a.heap.size) (hd : ∀ k, V k → ¬ U k) : Inside V a b := ⟨h.os, h.tape, h.output, h.size, fun k hk => h.block k (hl k hk) (hd k hk)⟩
theorem of_grown {row : Option Nat} (hg : a.grownBy b row) (hr : ∀ k, row = some k → V k) : Outside V a b := ⟨hg.os, hg.tape, hg.output, hg.size, fun k hk hv => hg.block k hk (fun e => hv (hr k e.symm))⟩
theorem cell (h : Outside V a b) {p : Addr} {v : Value} (hp : ¬ V p.block) (hc : a.cell? p = some v) : b.cell? p = some v := by
  rw [World.cell?_of_block (w := a) (h.block p.block (World.block_lt_of_cell? _ _ hc) hp)]; exact hc
end Outside

namespace Inside
variable {V U : Nat → Prop} {a b c : World}
theorem refl (V : Nat → Prop) (a : World) : Inside V a a := ⟨rfl, rfl, rfl, Nat.le_refl _, fun _ _ => rfl⟩
theorem trans (h : Inside V a b) (k : Inside V b c) : Inside V a c := ⟨k.os.trans h.os, k.tape.trans h.tape, k.output.trans h.output, Nat.le_trans h.size k.size, fun i hi => (k.block i hi).trans (h.block i hi)⟩
theorem mono (h : Inside V a b) (hu : ∀ k, U k → V k) : Inside U a b := ⟨h.os, h.tape, h.output, h.size, fun k hk => h.block k (hu k hk)⟩
theorem cell (h : Inside V a b) {p : Addr} {v : Value} (hp : V p.block) (hc : a.cell? p = some v) : b.cell? p = some v := by
  rw [World.cell?_of_block (w := a) (h.block p.block hp)]; exact hc
theorem of_below (h : Below a.heap.size a b) (hv : ∀ k, V k → k < a.heap.size) : Inside V a b := ⟨h.os, h.tape, h.output, h.size, fun k hk => h.block k (hv k hk)⟩
end Inside

theorem Outside.setCell {V : Nat → Prop} {a b : World} (h : Outside V a b) {p : Addr} (hp : V p.block) (v : Value) : Outside V a (b.setCell p v) :=
  ⟨h.os, h.tape, h.output, by simp [World.setCell]; exact h.size, fun k hk hv => (Below.heap_setCell _ _ _ _ (fun e => hv (by rw [e]; exact hp))).trans (h.block k hk hv)⟩
theorem Outside.then_below {V : Nat → Prop} {a b c : World} (h : Outside V a b) (k : Below a.heap.size b c) : Outside V a c :=
  ⟨k.os.trans h.os, k.tape.trans h.tape, k.output.trans h.output, Nat.le_trans h.size k.size, fun i hi hv => (k.block i hi).trans (h.block i hi hv)⟩
theorem Outside.drewN {V : Nat → Prop} {a b : World} (h : Outside V a b) (q : Nat) : Outside V a (b.drewN q) := ⟨h.os, h.tape, h.output, h.size, h.block⟩

/-- A row that a call owns is so wherever its block is as it was. -/
theorem owns_at {w w' : World} {base e size n cap g : Nat} {xs : List Value} (h : w.ownsRow base e size (.slice (some ⟨g, 0, none⟩) n cap) n xs) (hb : w'.heap[g]? = w.heap[g]?) : w'.ownsRow base e size (.slice (some ⟨g, 0, none⟩) n cap) n xs := by
  obtain ⟨h1, (⟨he, _⟩ | ⟨g', cap', cur, hv, hbase, hh, hr⟩)⟩ := h
  · cases he
  · cases hv
    exact ⟨h1, .inr ⟨g, cap, cur, rfl, hbase, hb.trans hh, hr⟩⟩
/-- The same, nil too. -/
theorem owns_any {w w' : World} {base e n : Nat} {v : Value} {xs : List Value} (h : w.ownsRow base e 1 v n xs) (hb : ∀ g, v.ownBlock = some g → w'.heap[g]? = w.heap[g]?) : w'.ownsRow base e 1 v n xs := by
  obtain ⟨h1, (h2 | ⟨g, cap, cur, hv, hbase, hh, hr⟩)⟩ := h
  · exact ⟨h1, .inl h2⟩
  · subst hv
    exact ⟨h1, .inr ⟨g, cap, cur, rfl, hbase, (hb g rfl).trans hh, hr⟩⟩
end Go.Proofs.YtabdbgnkiebcdaaGreatDoor

namespace Go.Proofs.YtabdbgnkiebcdaaGreatDoor
set_option linter.unusedVariables false
open Go.RowKit

/-- A later world: all that is there in w is there as it was. -/
structure Later (w : World) where
  W : World
  h : Below w.heap.size w W
instance (w : World) : Nonempty (Later w) := ⟨⟨w, Below.refl _ _⟩⟩

theorem wp_region_later {P : Program} {id : Nat} {Q : Exit → Act → World → Prop} {a : Act} {w : World} {l : List Oper} (hm : P.follows .mixedOrders = true) (hB : Region.lexB .any l.toArray = true)
    (h : wpQuiet P l.toArray (fun w' => ∃ r : Later w, w' = r.W) (fun a' => ∀ w', (∃ r : Later w, w' = r.W) → Q .normal a' w') l a) : (Code.region id l.toArray true).wp P Q a w :=
  wp_region_quiet (C := fun w' => ∃ r : Later w, w' = r.W) hm hB ⟨⟨{ w with drawn := w.drawn + 1 }, ⟨rfl, rfl, rfl, Nat.le_refl _, fun _ _ => rfl⟩⟩, rfl⟩ (by simpa using h)

/-- A callee that only makes new memory. -/
theorem calls_later {P : Program} {f : FuncId} {args : Array Value} {w : World} {v : Value} (r : Later w) (h : Calls P f args r.W fun e w' => e = .returned v ∧ Below r.W.heap.size r.W w') :
    Calls P f args r.W fun e w'' => e = .returned v ∧ ∃ r' : Later w, w'' = r'.W :=
  h.mono fun _ _ ⟨he, hb⟩ => ⟨he, ⟨_, r.h.trans (hb.mono r.h.size)⟩, rfl⟩

theorem later_cell {w : World} {a : Addr} {v : Value} (h : w.cell? a = some v) (r : Later w) : r.W.cell? a = some v := (r.h.cell (World.block_lt_of_cell? _ _ h)).trans h
theorem later_arr {w : World} {g t n : Nat} {F : Nat → Int} (h : ArrAt w g t n F) (r : Later w) : ArrAt r.W g t n F := h.below h.lt r.h

section
variable {P : Program} {ops : Array Oper} {C : World → Prop} {Q : Act → Prop} {a : Act} {rest : List Oper} {d : Option Nat} {ot : TypeId} {pos : String} {aft : Array Edge}

/-- A whole array is loaded in such a region. -/
theorem quiet_load_arr (n ty m e t : Nat) (x : Operand) (g : Nat) (F : Nat → Int) (hx : a.eval x = .pointer (some ⟨g, 0, none⟩)) (hg : ∀ w, C w → ArrAt w g t n F) (hu : P.underlying ty = some (.array m e)) (hi : (P.info? ty).map (·.size) = some n)
    (h : wpQuiet P ops C Q rest (a.put d (.agg (cellsV n F)))) : wpQuiet P ops C Q (⟨d, Op.load ty x, ot, pos, aft, none⟩ :: rest) a := by
  have hw : Region.wanted (⟨d, Op.load ty x, ot, pos, aft, none⟩ : Oper) (yielded ops a.tmps) = true := rfl
  unfold wpQuiet
  rw [if_pos hw]
  refine ⟨.agg (cellsV n F), fun w hC => ?_, h⟩
  unfold Oper.quietAt execOp
  simp only [hx, Instr.loadAt, Instr.sureAddr, Sem.run_bind, Sem.run_pure, Result.andThen_ok, run_loadVar_row w g t ty (cellsV n F) (0, 0) _ (hg w hC) hu rfl (by rw [cellsV_size]; exact hi)]
  exact ⟨rfl, rfl⟩
end
end Go.Proofs.YtabdbgnkiebcdaaGreatDoor

namespace Go.Proofs.YtabdbgnkiebcdaaGreatDoor
set_option linter.unusedVariables false
set_option linter.unusedSimpArgs false

section
open Go.RowKit
/-- May x come behind B, least being the least that may? -/
def Next (least : Nat) (B : List Int) (x : Nat) : Prop := least ≤ x ∧ ¬ (x : Int) ∈ B
open Classical in
/-- The list that begins so, if of two at least, and all that go on behind it with at most f numbers from least on below n. -/
noncomputable def later (n least : Nat) : Nat → List Int → List (List Int)
  | 0, B => if 2 ≤ B.length then [B] else []
  | f + 1, B => (if 2 ≤ B.length then [B] else []) ++ (List.range n).flatMap fun (x : Nat) => if Next least B x then later n least f (B ++ [(x : Int)]) else []
open Classical in
/-- Those of them whose next number is below k. -/
noncomputable def laterTo (n least f : Nat) (B : List Int) (k : Nat) : List (List Int) := (if 2 ≤ B.length then [B] else []) ++ (List.range k).flatMap fun (x : Nat) => if Next least B x then later n least f (B ++ [(x : Int)]) else []
theorem laterTo_no {n least f k : Nat} {B : List Int} (h : ¬ Next least B k) : laterTo n least f B (k + 1) = laterTo n least f B k := by
  unfold laterTo
  rw [List.range_succ, List.flatMap_append]
  simp [h]
theorem laterTo_yes {n least f k : Nat} {B : List Int} (h : Next least B k) : laterTo n least f B (k + 1) = laterTo n least f B k ++ later n least f (B ++ [(k : Int)]) := by
  unfold laterTo
  rw [List.range_succ, List.flatMap_append]
  simp [h]
theorem laterTo_least {n least f : Nat} {B : List Int} : laterTo n least f B least = if 2 ≤ B.length then [B] else [] := by
  have : ∀ k, k ≤ least → laterTo n least f B k = if 2 ≤ B.length then [B] else [] := by
    intro k
    induction k with
    | zero => intro _; simp [laterTo]
    | succ k ih => intro hk; rw [laterTo_no (fun h => by have := h.1; omega), ih (by omega)]
  exact this least (Nat.le_refl _)
theorem laterTo_past {n least f k : Nat} {B : List Int} (h : n ≤ least) (hk : k ≤ n) : laterTo n least f B k = if 2 ≤ B.length then [B] else [] := by
  induction k with
  | zero => simp [laterTo]
  | succ k ih => rw [laterTo_no (fun h' => by have := h'.1; omega), ih (by omega)]
theorem later_eq {n least f : Nat} {B : List Int} (h : Diff n B) (hf : B.length + f = n) : later n least f B = laterTo n least (f - 1) B n := by
  cases f with
  | succ f => rfl
  | zero =>
    have : ∀ k, k ≤ n → laterTo n least 0 B k = laterTo n least 0 B 0 := by
      intro k
      induction k with
      | zero => intro _; rfl
      | succ k ih => intro hk; rw [laterTo_no (fun h' => h'.2 (h.full (by omega) (by omega))), ih (by omega)]
    show later n least 0 B = laterTo n least 0 B n
    rw [this n (Nat.le_refl _)]
    simp [laterTo, later]
/-- What has come when the next number is k is the front of what will have come. -/
theorem laterTo_front {n least f : Nat} {B : List Int} {k m : Nat} (h : k ≤ m) : laterTo n least f B k <+: laterTo n least f B m := by
  induction m with
  | zero => have : k = 0 := by omega
            subst this; exact List.prefix_refl _
  | succ m ih =>
    by_cases e : k = m + 1
    · subst e; exact List.prefix_refl _
    · have h1 := ih (by omega)
      by_cases hn : Next least B m
      · rw [laterTo_yes hn]; exact h1.trans (List.prefix_append _ _)
      · rw [laterTo_no hn]; exact h1
/-- All of them go on behind B. -/
theorem later_behind {n least : Nat} : ∀ (f : Nat) (B : List Int) (D : List Int), D ∈ later n least f B → B <+: D
  | 0, B, D, h => by
    unfold later at h
    by_cases e : 2 ≤ B.length
    · rw [if_pos e] at h; simp at h; subst h; exact List.prefix_refl _
    · rw [if_neg e] at h; simp at h
  | f + 1, B, D, h => by
    unfold later at h
    rw [List.mem_append] at h
    rcases h with h | h
    · by_cases e : 2 ≤ B.length
      · rw [if_pos e] at h; simp at h; subst h; exact List.prefix_refl _
      · rw [if_neg e] at h; simp at h
    · rw [List.mem_flatMap] at h
      obtain ⟨x, hx, h⟩ := h
      by_cases e : Next least B x
      · rw [if_pos e] at h
        exact (List.prefix_append _ _).trans (later_behind f _ D h)
      · rw [if_neg e] at h; simp at h
/-- From 0 on there is nothing to leave out. -/
theorem later_zero {n : Nat} : ∀ (f : Nat) (B : List Int), later n 0 f B = longer n f B
  | 0, B => rfl
  | f + 1, B => by
    unfold later longer
    congr 1
    refine congrArg (fun F => (List.range n).flatMap F) (funext fun x => ?_)
    by_cases e : (x : Int) ∈ B
    · rw [if_neg (fun h => h.2 e), if_pos e]
    · rw [if_pos ⟨Nat.zero_le _, e⟩, if_neg e, later_zero f]
/-- All the rounds of n moneys, in order: the first ones below k. -/
noncomputable def roundsTo (n k : Nat) : List (List Int) := (List.range k).flatMap fun (x : Nat) => later n (x + 1) (n - 1) [(x : Int)]
theorem roundsTo_succ (n k : Nat) : roundsTo n (k + 1) = roundsTo n k ++ later n (k + 1) (n - 1) [(k : Int)] := by
  unfold roundsTo
  rw [List.range_succ, List.flatMap_append]
  simp
theorem roundsTo_front {n k m : Nat} (h : k ≤ m) : roundsTo n k <+: roundsTo n m := by
  induction m with
  | zero => have : k = 0 := by omega
            subst this; exact List.prefix_refl _
  | succ m ih =>
    by_cases e : k = m + 1
    · subst e; exact List.prefix_refl _
    · rw [roundsTo_succ]; exact (ih (by omega)).trans (List.prefix_append _ _)
end

section
open Go.RowKit
theorem Outside.putObj {a : World} (V : Nat → Prop) {r : Nat} (hr : V r) (o : Obj) : Outside V a (a.putObj r o) := ⟨rfl, rfl, rfl, by simp, fun k _ hk => World.putObj_heap_other (fun e => hk (by rw [e]; exact hr))⟩
theorem Inside.putObj {V : Nat → Prop} {a : World} {r : Nat} (hr : ¬ V r) (o : Obj) : Inside V a (a.putObj r o) := ⟨rfl, rfl, rfl, by simp, fun k hk => World.putObj_heap_other (fun e => hr (by rw [← e]; exact hk))⟩
theorem owns_obj {w : World} {base e size n cap g : Nat} {xs : List Value} (h : w.ownsRow base e size (.slice (some ⟨g, 0, none⟩) n cap) n xs) : ∃ cur, w.heap[g]? = some (.cells cur e (0, 0)) := by
  obtain ⟨h1, (⟨he, _⟩ | ⟨g', cap', cur, hv, hbase, hh, hr⟩)⟩ := h
  · cases he
  · cases hv
    exact ⟨cur, hh⟩
/-- What lies ahead of the last one. -/
theorem owns_front {w : World} {base e n cap g : Nat} {xs : List Value} {x : Value} (h : w.ownsRow base e 1 (.slice (some ⟨g, 0, none⟩) (n + 1) cap) (n + 1) (xs ++ [x])) (hx : xs.length = n) : w.ownsRow base e 1 (.slice (some ⟨g, 0, none⟩) n cap) n xs := by
  obtain ⟨h1, (⟨he, _⟩ | ⟨g', cap', cur, hv, hbase, hh, h2, h3, h4, h5⟩)⟩ := h
  · cases he
  · cases hv
    refine ⟨by omega, .inr ⟨g, cap, cur, rfl, hbase, hh, by omega, h3, h4, ?_⟩⟩
    have h6 := congrArg (List.take n) h5
    rw [List.take_take, List.take_left' hx, show min n ((n + 1) * 1) = n * 1 from by omega] at h6
    exact h6
/-- And ahead of what has been appended in place. -/
theorem owns_room {w w' : World} {base e n cap g : Nat} {xs : List Value} {x : Value} {v : Value} (h : w.ownsRow base e 1 (.slice (some ⟨g, 0, none⟩) n cap) n xs) (hn : xs.length = n)
    {g' cap' : Nat} (h' : w'.ownsRow base e 1 (.slice (some ⟨g', 0, none⟩) (n + 1) cap') (n + 1) (xs ++ [x])) (hs : w.heap.size ≤ w'.heap.size) (hk : g' ≠ g → w'.heap[g]? = w.heap[g]?) (hcap : g' = g → cap' = cap) :
    w'.ownsRow base e 1 (.slice (some ⟨g, 0, none⟩) n cap) n xs := by
  by_cases he : g' = g
  · obtain rfl := hcap he
    subst he
    exact owns_front h' hn
  · exact owns_at h (hk he)

/-- What a caller says between two rounds: it speaks of the blocks V alone. -/
structure Caller (J : (Nat → Prop) → List (List Int) → World → Prop) : Prop where
  lies : ∀ V pre W, J V pre W → ∀ k, V k → k < W.heap.size
  steady : ∀ V pre A B, J V pre A → Inside V A B → J V pre B

/-- The list D as cells. -/
def cellsD (D : List Int) : List Value := cellsL D.length (nth D)

/-- What a round promises: handed a list of its own that comes next, it turns V alone. -/
def Yields (P : Program) (tI s l : Nat) (J Jx : (Nat → Prop) → List (List Int) → World → Prop) (LL : List (List Int)) : Prop :=
  ∀ V pre D g cap W1, J V pre W1 → (pre ++ [D]) <+: LL → W1.ownsRow s tI 1 (.slice (some ⟨g, 0, none⟩) D.length cap) D.length (cellsD D) → ¬ V g →
    YieldAt Fence.wide 9 P l #[.slice (some ⟨g, 0, none⟩) D.length cap] W1 fun e W2 => Outside V W1 W2 ∧ ∃ V', (∀ k, V' k → V k ∨ k = g ∨ W1.heap.size ≤ k) ∧
      (e = .returned (.bool true) ∧ J V' (pre ++ [D]) W2 ∨ e = .returned (.bool false) ∧ Jx V' (pre ++ [D]) W2)

/-- What an iterator promises: the lists LL, one behind the other, each in a new block; it reads the blocks R. -/
def SeqL (P : Program) (tI gf : Nat) (lb : Array Value) (R : Nat → Prop) (LL : List (List Int)) (w : World) : Prop :=
  ∀ l V J Jx W, Inside R w W → (∀ k, R k → ¬ V k) → Caller J → Caller Jx → Yields P tI W.heap.size l J Jx LL → J V [] W →
    CallsIn Fence.wide 9 P gf (#[.func (.yield l) #[] #[]] ++ lb) W fun e W' => (∃ v, e = .returned v) ∧ ((∃ V', J V' LL W') ∨ ∃ V' pre, pre <+: LL ∧ Jx V' pre W')

/-- How a round's body may be left. -/
def seqPost (I : (Nat → Prop) → List (List Int) → World → Prop) (Ix : Code → (Nat → Prop) → List (List Int) → World → Prop) (xs : List (List Int)) (V : Nat → Prop) (g : Nat) (W : World) : Exit → Act → World → Prop
  | .normal, _, W' => Outside V W W' ∧ ∃ V', (∀ k, V' k → V k ∨ k = g ∨ W.heap.size ≤ k) ∧ I V' xs W'
  | .ret, _, W' => Outside V W W' ∧ ∃ V', (∀ k, V' k → V k ∨ k = g ∨ W.heap.size ≤ k) ∧ Ix .ret V' xs W'
  | .exit id, _, W' => Outside V W W' ∧ ∃ V', (∀ k, V' k → V k ∨ k = g ∨ W.heap.size ≤ k) ∧ Ix (.exit id) V' xs W'
  | .goto t, _, W' => False
  | .panic _, _, _ => False
  | .outgrown, _, _ => False

variable {P : Program}

theorem wide_fn (f : FuncId) : Fence.wide.fn f = True := rfl
theorem wide_round_fn (l : Nat) (f : FuncId) : (Fence.wide.inRound l).fn f = True := rfl
theorem wide_none (f : FuncId) : (none = some f → True) = True := by simp

theorem roundIn_wide {n m l f : Nat} {tmps : Array Value} {assign body : Code} {w : World} {R : Ending → World → Prop} (h : RoundIn Fence.wide n P l f tmps assign body w R) : RoundIn Fence.wide m P l f tmps assign body w R :=
  ⟨h.1, fun c cs hr => h.2 c cs (room_wide _)⟩

/-- **The statement.** -/
theorem wp_seq {g : Operand} {ps : Array Tmp} {assign body : Code} {Q : Exit → Act → World → Prop} {a : Act} {w : World} {tI gf : Nat} {lb : Array Value}
    (hg : a.eval g = .func (.func gf) #[] lb) (eg : ∀ args w, (callFunc gf args).run P w = .ok (.enter gf args) w) (hps : ps.size = 1)
    {R : Nat → Prop} {LL : List (List Int)} (hseq : SeqL P tI gf lb R LL w) (V0 : Nat → Prop) (hR : ∀ k, R k → ¬ V0 k ∧ k < w.heap.size)
    (I : (Nat → Prop) → List (List Int) → World → Prop) (Ix : Code → (Nat → Prop) → List (List Int) → World → Prop) (hI : Caller I) (hIx : ∀ c, Caller (Ix c)) (h0 : I V0 [] w)
    (Ax : Value → Act → World → Prop) (hAx : ∀ v a' W l r o, Ax v a' W → W.heap[l]? = some (.loop r) → Ax v a' (W.putObj l o))
    (hassign : ∀ l v W K, (∀ a' W', Outside (fun _ => False) W W' → Ax v a' W' → K a' W') →
      assign.wpIn (Fence.wide.inRound l) 9 P (Exit.then K (fun _ _ _ => False)) { tmps := (ps.zip #[v]).foldl (fun t (p, v) => t.setIfInBounds p v) a.tmps, defers := [] } W)
    (hbody : ∀ l V pre D gb cap a' W, I V pre W → (pre ++ [D]) <+: LL → W.ownsRow w.heap.size tI 1 (.slice (some ⟨gb, 0, none⟩) D.length cap) D.length (cellsD D) → ¬ V gb → (∀ k, V k → V0 k ∨ w.heap.size ≤ k) →
      Ax (.slice (some ⟨gb, 0, none⟩) D.length cap) a' W → body.wpIn (Fence.wide.inRound l) 9 P (seqPost I Ix (pre ++ [D]) V gb W) a' W)
    (hdone : ∀ D V W, w.heap.size ≤ D → (∀ k, V k → V0 k ∨ w.heap.size ≤ k) → ¬ V D → I V LL W → W.heap[D]? = some (.deferred (some [])) →
      Q .normal { a with defers := { target := .collected D, args := #[] } :: a.defers } W)
    (hstop : ∀ D c V pre W, w.heap.size ≤ D → (∀ k, V k → V0 k ∨ w.heap.size ≤ k) → ¬ V D → pre <+: LL → Ix c V pre W → W.heap[D]? = some (.deferred (some [])) →
      c.wpIn Fence.wide 9 P Q { a with defers := { target := .collected D, args := #[] } :: a.defers } W) :
    (Code.rangeFunc g ps assign body).wpIn Fence.wide 9 P Q a w := by
  refine wpIn_rangeFunc ?_
  intro fn hfn
  obtain ⟨rec, hrec⟩ : ∃ rec : LoopState → Option Code → Loop, rec = fun st pe => { state := st, pending := pe, fn, tmps := a.tmps, params := ps, assign, body, defers := w.heap.size } := ⟨_, rfl⟩
  obtain ⟨W1, hW1⟩ : ∃ W1, (w.alloc (.deferred (some []))).alloc (.loop (rec .ready none)) = W1 := ⟨_, rfl⟩
  have hL1 : W1.heap[w.heap.size + 1]? = some (.loop (rec .ready none)) := by
    rw [← hW1]; have := World.alloc_heap_new (w.alloc (.deferred (some []))) (.loop (rec .ready none)); rwa [World.size_alloc] at this
  have hK1 : W1.heap[w.heap.size]? = some (.deferred (some [])) := by
    rw [← hW1]; exact (Below.heap_alloc _ _ _ (by simp)).trans (World.alloc_heap_new w _)
  have hb1 : Below w.heap.size w W1 := by
    rw [← hW1]; exact ((Below.refl _ w).alloc (Nat.le_refl _) _).alloc (by simp) _
  have hs1 : W1.heap.size = w.heap.size + 2 := by rw [← hW1]; simp
  have hV0 := hI.lies V0 [] w h0
  have hI1 : I V0 [] W1 := hI.steady _ _ _ _ h0 (Inside.of_below hb1 hV0)
  refine ⟨w.heap.size + 1, [{ target := .collected w.heap.size, args := #[] }], W1, { target := .fn (.func gf) lb, args := #[.func (.yield (w.heap.size + 1)) #[] #[]] }, W1, gf,
    #[.func (.yield (w.heap.size + 1)) #[] #[]] ++ lb, W1, ?_, ?_, ?_, ?_, (fun h => by simp [Fence.wide] at h), ?_⟩
  · rw [← hW1, hrec]; exact run_enterLoop_outer _ _ _ _ _
  · simp only [resolve, hg]
    simp [go_sem]
  · intro f' hf'; trivial
  · simp [invoke, go_sem, eg]
  · -- the iterator, at the caller's word with the two blocks of the loop beside it
    have hcell : ∀ {A : World} {l : Nat} {o : Obj}, A.heap[l]? = some o → l < A.heap.size := fun h => (Array.getElem?_eq_some_iff.1 h).1
    refine (callsIn_wide.2 (callsIn_wide.1 ((hseq (w.heap.size + 1) (fun k => V0 k ∨ k = w.heap.size ∨ k = w.heap.size + 1)
      (fun V pre W => ∃ V1, V = (fun k => V1 k ∨ k = w.heap.size ∨ k = w.heap.size + 1) ∧ ¬ V1 w.heap.size ∧ ¬ V1 (w.heap.size + 1) ∧ (∀ k, V1 k → V0 k ∨ w.heap.size ≤ k) ∧ I V1 pre W ∧ W.heap[w.heap.size + 1]? = some (.loop (rec .ready none)) ∧ W.heap[w.heap.size]? = some (.deferred (some [])))
      (fun V pre W => ∃ V1, V = (fun k => V1 k ∨ k = w.heap.size ∨ k = w.heap.size + 1) ∧ ¬ V1 w.heap.size ∧ ¬ V1 (w.heap.size + 1) ∧ (∀ k, V1 k → V0 k ∨ w.heap.size ≤ k) ∧ (∃ c, Ix c V1 pre W ∧ W.heap[w.heap.size + 1]? = some (.loop (rec .done (some c)))) ∧ W.heap[w.heap.size]? = some (.deferred (some [])))
      W1 (Inside.of_below hb1 (fun k hk => (hR k hk).2)) (fun k hk h => by have := hR k hk; rcases h with h | h | h; exact this.1 h; omega; omega) ?_ ?_ ?_ ?_)))).mono ?_
    · constructor
      · rintro V pre W ⟨V1, rfl, h1, h2, h3, h4, h5, h6⟩ k (hk | rfl | rfl)
        · exact hI.lies _ _ _ h4 k hk
        · exact hcell h6
        · exact hcell h5
      · rintro V pre A B ⟨V1, rfl, h1, h2, h3, h4, h5, h6⟩ hin
        exact ⟨V1, rfl, h1, h2, h3, hI.steady _ _ _ _ h4 (hin.mono fun k hk => .inl hk), (hin.block _ (.inr (.inr rfl))).trans h5, (hin.block _ (.inr (.inl rfl))).trans h6⟩
    · constructor
      · rintro V pre W ⟨V1, rfl, h1, h2, h3, ⟨c, h4, h5⟩, h6⟩ k (hk | rfl | rfl)
        · exact (hIx c).lies _ _ _ h4 k hk
        · exact hcell h6
        · exact hcell h5
      · rintro V pre A B ⟨V1, rfl, h1, h2, h3, ⟨c, h4, h5⟩, h6⟩ hin
        exact ⟨V1, rfl, h1, h2, h3, ⟨c, (hIx c).steady _ _ _ _ h4 (hin.mono fun k hk => .inl hk), (hin.block _ (.inr (.inr rfl))).trans h5⟩, (hin.block _ (.inr (.inl rfl))).trans h6⟩
    · -- one round
      rintro V pre D gb cap W ⟨V1, rfl, h1, h2, h3, hi, hl, hk⟩ hpre hown hgb
      have hgb1 : ¬ V1 gb := fun h => hgb (.inl h)
      have hgl : gb ≠ w.heap.size + 1 := fun h => hgb (.inr (.inr h))
      have hgd : gb ≠ w.heap.size := fun h => hgb (.inr (.inl h))
      have hlW := hcell hl
      have hy := run_yield (P := P) (args := #[.slice (some ⟨gb, 0, none⟩) D.length cap]) hl (by rw [hrec]; simp [hps])
      rw [hrec] at hy
      refine ⟨fn, _, assign, body, hy, roundIn_of_wpIn hfn (hassign _ _ W _ ?_)⟩
      intro a' Wa hout hax
      have hla : Wa.heap[w.heap.size + 1]? = some (.loop (rec .ready none)) := (hout.block _ hlW (fun h => h)).trans hl
      have hka : Wa.heap[w.heap.size]? = some (.deferred (some [])) := (hout.block _ (hcell hk) (fun h => h)).trans hk
      obtain ⟨W2, hW2⟩ : ∃ W2, Wa.putObj (w.heap.size + 1) (.loop { rec .ready none with state := .busy }) = W2 := ⟨_, rfl⟩
      have hl2 : W2.heap[w.heap.size + 1]? = some (.loop { rec .ready none with state := .busy }) := by rw [← hW2]; exact World.putObj_heap_same (hcell hla)
      have ho2 : ∀ k, k ≠ w.heap.size + 1 → W2.heap[k]? = Wa.heap[k]? := fun k h => by rw [← hW2]; exact World.putObj_heap_other h
      have hs2 : W2.heap.size = Wa.heap.size := by rw [← hW2]; simp
      have hk2 := (ho2 _ (by omega)).trans hka
      have hin2 : Inside V1 W W2 := (hout.inside (hI.lies _ _ _ hi) (fun _ _ h => h)).trans (by rw [← hW2]; exact Inside.putObj h2 _)
      have hi2 := hI.steady _ _ _ _ hi hin2
      have hown2 : W2.ownsRow w.heap.size tI 1 (.slice (some ⟨gb, 0, none⟩) D.length cap) D.length (cellsD D) :=
        owns_base (owns_at hown ((ho2 gb hgl).trans (hout.block gb (owns_cap hown).2.2 (fun h => h)))) (by omega)
      refine ⟨W2, by have := run_beginRound (P := P) hla (by rw [hrec]); rw [hrec] at this; rw [← hW2, hrec]; exact this, ?_⟩
      refine wpIn_mono (hbody (w.heap.size + 1) V1 pre D gb cap a' W2 hi2 hpre hown2 hgb1 h3 (by rw [← hW2]; exact hAx _ _ _ _ _ _ hax hla)) ?_
      have hgs := (owns_cap hown).2.1
      rw [hs1] at hgs
      have fin : ∀ (jump : Option Code) (W3 : World) (V' : Nat → Prop) (Jz : World → Prop), Outside V1 W2 W3 → (∀ k, V' k → V1 k ∨ k = gb ∨ W2.heap.size ≤ k) → (∀ A B, Jz A → Inside V' A B → Jz B) → Jz W3 →
          ∃ W4, (Instr.endRound (w.heap.size + 1) jump).run P W3 = .ok (.bool jump.isNone) W4 ∧ Outside (fun k => V1 k ∨ k = w.heap.size ∨ k = w.heap.size + 1) W W4 ∧ ¬ V' w.heap.size ∧ ¬ V' (w.heap.size + 1) ∧ (∀ k, V' k → V0 k ∨ w.heap.size ≤ k) ∧ (∀ k, V' k → V1 k ∨ k = gb ∨ W.heap.size ≤ k) ∧ Jz W4 ∧
            W4.heap[w.heap.size + 1]? = some (.loop (rec (if jump.isNone then .ready else .done) jump)) ∧ W4.heap[w.heap.size]? = some (.deferred (some [])) := by
        intro jump W3 V' Jz hout3 hV' hst hz
        have hl3 := (hout3.block _ (hcell hl2) h2).trans hl2
        have hk3 := (hout3.block _ (hcell hk2) h1).trans hk2
        have hr := run_endRound (P := P) jump hl3
        rw [hrec] at hr
        have e1 := hcell hl2
        have e2 := hcell hk2
        have e3 := hout.size
        have d1 : ¬ V' w.heap.size := fun h => by rcases hV' _ h with h | h | h; exact h1 h; omega; omega
        have d2 : ¬ V' (w.heap.size + 1) := fun h => by rcases hV' _ h with h | h | h; exact h2 h; omega; omega
        refine ⟨_, hr, ?_, d1, d2, ?_, ?_, hst _ _ hz (Inside.putObj d2 _), ?_, ?_⟩
        · have o1 : Outside (fun k => V1 k ∨ k = w.heap.size ∨ k = w.heap.size + 1) W Wa := hout.mono (fun k _ h => h.elim)
          have o2 : Outside (fun k => V1 k ∨ k = w.heap.size ∨ k = w.heap.size + 1) Wa W2 := by rw [← hW2]; exact Outside.putObj _ (.inr (.inr rfl)) _
          have o3 : Outside (fun k => V1 k ∨ k = w.heap.size ∨ k = w.heap.size + 1) W2 W3 := hout3.mono (fun k _ h => .inl h)
          exact ((o1.trans' o2 (fun _ _ h => h)).trans' o3 (fun _ _ h => h)).trans' (Outside.putObj _ (.inr (.inr rfl)) _) (fun _ _ h => h)
        · intro k hk'
          rcases hV' k hk' with h | h | h
          · exact h3 k h
          · right; omega
          · right; omega
        · intro k hk'
          rcases hV' k hk' with h | h | h
          · exact .inl h
          · exact .inr (.inl h)
          · right; right; omega
        · rw [hrec]; exact World.putObj_heap_same (hcell hl3)
        · exact (World.putObj_heap_other (by omega)).trans hk3
      have hV2 : ∀ V' : Nat → Prop, (∀ k, V' k → V1 k ∨ k = gb ∨ W.heap.size ≤ k) → ∀ k, (V' k ∨ k = w.heap.size ∨ k = w.heap.size + 1) → (V1 k ∨ k = w.heap.size ∨ k = w.heap.size + 1) ∨ k = gb ∨ W.heap.size ≤ k := by
        intro V' h k hk'
        rcases hk' with hk' | hk' | hk'
        · rcases h k hk' with h | h | h
          · exact .inl (.inl h)
          · exact .inr (.inl h)
          · exact .inr (.inr h)
        · exact .inl (.inr (.inl hk'))
        · exact .inl (.inr (.inr hk'))
      rintro e a3 W3 hp
      cases e with
      | normal =>
        obtain ⟨ho3, V', hV', hi3⟩ := hp
        obtain ⟨W4, hr, q1, q2, q3, q4, q5, q6, q7, q8⟩ := fin none W3 V' (fun W => I V' (pre ++ [D]) W) ho3 hV' (fun A B => hI.steady _ _ A B) hi3
        exact ⟨_, W4, hr, q1, (fun k => V' k ∨ k = w.heap.size ∨ k = w.heap.size + 1), hV2 V' q5, .inl ⟨rfl, V', rfl, q2, q3, q4, q6, q7, q8⟩⟩
      | ret =>
        obtain ⟨ho3, V', hV', hi3⟩ := hp
        obtain ⟨W4, hr, q1, q2, q3, q4, q5, q6, q7, q8⟩ := fin (some .ret) W3 V' (fun W => Ix .ret V' (pre ++ [D]) W) ho3 hV' (fun A B => (hIx .ret).steady _ _ A B) hi3
        exact ⟨_, W4, hr, q1, (fun k => V' k ∨ k = w.heap.size ∨ k = w.heap.size + 1), hV2 V' q5, .inr ⟨rfl, V', rfl, q2, q3, q4, ⟨.ret, q6, q7⟩, q8⟩⟩
      | exit id =>
        obtain ⟨ho3, V', hV', hi3⟩ := hp
        obtain ⟨W4, hr, q1, q2, q3, q4, q5, q6, q7, q8⟩ := fin (some (.exit id)) W3 V' (fun W => Ix (.exit id) V' (pre ++ [D]) W) ho3 hV' (fun A B => (hIx (.exit id)).steady _ _ A B) hi3
        exact ⟨_, W4, hr, q1, (fun k => V' k ∨ k = w.heap.size ∨ k = w.heap.size + 1), hV2 V' q5, .inr ⟨rfl, V', rfl, q2, q3, q4, ⟨.exit id, q6, q7⟩, q8⟩⟩
      | goto t => exact hp.elim
      | panic ch => exact hp.elim
      | outgrown => exact hp.elim
    · exact ⟨V0, rfl, fun h => by have := hV0 _ h; omega, fun h => by have := hV0 _ h; omega, fun k h => .inl h, hI1, hL1, hK1⟩
    · -- behind the iterator
      rintro e W2 ⟨⟨v, rfl⟩, (⟨V', V1, rfl, h1, h2, h3, hi, hl, hk⟩ | ⟨V', pre, hpre, V1, rfl, h1, h2, h3, ⟨c, hi, hl⟩, hk⟩)⟩
      · exact ⟨none, _, by have := run_endLoop (P := P) hl (by rw [hrec]; simp); rw [hrec] at this; exact this, hdone _ V1 _ (Nat.le_refl _) h3 h1 (hI.steady _ _ _ _ hi (Inside.putObj h2 _)) ((World.putObj_heap_other (by omega)).trans hk)⟩
      · exact ⟨some c, _, by have := run_endLoop (P := P) hl (by rw [hrec]; simp); rw [hrec] at this; exact this, hstop _ c V1 pre _ (Nat.le_refl _) h3 h1 hpre ((hIx c).steady _ _ _ _ hi (Inside.putObj h2 _)) ((World.putObj_heap_other (by omega)).trans hk)⟩
end

section
open Go.RowKit
section
variable {P : Program} (w : World)

theorem run_append1 (tT tI : TypeId) (i : TypeInfo) (ht : P.underlying tT = some (.slice tI)) (hi : P.info? tI = some i) (hz : i.zero = some (.int .i64 0)) (hs : i.size = 1) (hb : i.bytes = 8)
    (base g n cap : Nat) (xs : List Value) (hown : w.ownsRow base tI 1 (.slice (some ⟨g, 0, none⟩) n cap) n xs) (ad : Addr) (c : Nat) (x : Value) (hx : w.cell? ad = some x) (h1 : x.oneCell' = true) (hn : n ≤ 1048576) :
    ∃ g' cap' w', (Builtin.append_ #[tT, tT] tT #[.slice (some ⟨g, 0, none⟩) n cap, .slice (some ad) 1 c]).run P w = .ok (.slice (some ⟨g', 0, none⟩) (n + 1) cap') w' ∧
      w'.ownsRow base tI 1 (.slice (some ⟨g', 0, none⟩) (n + 1) cap') (n + 1) (xs ++ [x]) ∧ w'.ownsRow base tI 1 (.slice (some ⟨g, 0, none⟩) n cap) n xs ∧ w.grownBy w' (some g) ∧ (g' = g ∧ cap' = cap ∨ w.heap.size ≤ g') := by
  have hnews : ∀ j u, [x][j]? = some u → w.cell? (ad.add j) = some u := by
    intro j u hu
    cases j with
    | zero =>
      simp only [List.getElem?_cons_zero, Option.some.injEq] at hu
      subst hu
      have : ad.add 0 = ad := by unfold Addr.add; cases ad with | mk b o k => cases k <;> simp
      rw [this]; exact hx
    | succ j => simp at hu
  have hlt := (owns_cap hown).2.2
  have hbase := (owns_cap hown).2.1
  have hcells := hown.cells (g := g) rfl
  obtain ⟨hl, (⟨he, _⟩ | ⟨g0, cap0, cur, hv, hbg, hg, hnc, hcm, hcs, htake⟩)⟩ := id hown
  · cases he
  · cases hv
    by_cases hroom : n + 1 ≤ cap
    · have hr := run_append_room (P := P) w tT tT tI i ht hi g n cap cur hg ad 1 c [x] (by simp [hs]) hnews (by simp [h1]) hroom (by rw [hs]; simp; omega)
      rw [hs] at hr
      simp only [Nat.mul_one, List.length_singleton] at hr
      simp only [Nat.mul_one] at htake
      have hh := setRow_heap w g cur (cur.toList.take n ++ [x] ++ cur.toList.drop (n + 1)).toArray tI (0, 0) hg
      have hsz : (cur.toList.take n ++ [x] ++ cur.toList.drop (n + 1)).toArray.size = cap * 1 := by
        simp only [List.size_toArray, List.length_append, List.length_take, List.length_drop, Array.length_toList, List.length_singleton]
        omega
      refine ⟨g, cap, _, hr, ⟨by simp at hl ⊢; omega, .inr ⟨g, cap, _, rfl, hbg, hh, hroom, hcm, hsz, ?_⟩⟩, ⟨hl, .inr ⟨g, cap, _, rfl, hbg, hh, hnc, hcm, hsz, ?_⟩⟩,
        ⟨rfl, rfl, rfl, by simp, fun k _ hk => setRow_other w g k _ (fun e => hk (by rw [e]))⟩, .inl ⟨rfl, rfl⟩⟩
      · rw [htake, Nat.mul_one]
        have e : (xs ++ [x]).length = n + 1 := by simp at hl ⊢; omega
        rw [← e]; exact List.take_left
      · rw [htake, Nat.mul_one, List.append_assoc]
        have e : xs.length = n := by omega
        rw [← e]; exact List.take_left
    · obtain ⟨v', w', hr, h2, h3⟩ := run_append_arg_grows (P := P) w tT tT tI i (.int .i64 0) 1 8 ht hi hz hs hb rfl (by decide) ⟨g, 0, none⟩ n cap xs hl hcells ad 1 c [x] rfl hnews (by omega) (by unfold maxLen; omega) (by omega)
      obtain ⟨g', cap', rfl⟩ := owns_form h2 (by omega)
      exact ⟨g', cap', w', hr, owns_base h2 (by omega), owns_at hown (h3.block g hlt (by simp)), ⟨h3.os, h3.tape, h3.output, h3.size, fun k hk _ => h3.block k hk (by simp)⟩, .inr (owns_cap h2).2.1⟩
end

variable {F : Fence} {m : Nat} {P : Program}
theorem wpListIn_append1_g (w : World) {ops : Array Oper} {rest : List Oper} {a : Act} {Q : Exit → Act → World → Prop} {d : Option Tmp} {tT : TypeId} {pos : String} {aft : Array Edge} (gd : Nat × Bool) (s x : Operand)
    (hw : Region.wanted (⟨d, Op.call { callee := Callee.builtin Builtin.append, args := #[s, x], argTypes := #[tT, tT] }, tT, pos, aft, some gd⟩ : Oper) (yielded ops a.tmps) = true)
    (tI : TypeId) (i : TypeInfo) (ht : P.underlying tT = some (.slice tI)) (hi : P.info? tI = some i) (hz : i.zero = some (.int .i64 0)) (hs : i.size = 1) (hb : i.bytes = 8)
    (base g n cap : Nat) (xs : List Value) (hsv : a.eval s = .slice (some ⟨g, 0, none⟩) n cap) (hown : w.ownsRow base tI 1 (.slice (some ⟨g, 0, none⟩) n cap) n xs) (ad : Addr) (c : Nat) (u : Value) (hxv : a.eval x = .slice (some ad) 1 c) (hx : w.cell? ad = some u) (h1 : u.oneCell' = true) (hn : n ≤ 1048576)
    (hK : ∀ g' cap' w', w'.ownsRow base tI 1 (.slice (some ⟨g', 0, none⟩) (n + 1) cap') (n + 1) (xs ++ [u]) → w'.ownsRow base tI 1 (.slice (some ⟨g, 0, none⟩) n cap) n xs → w.grownBy w' (some g) → (g' = g ∧ cap' = cap ∨ w.heap.size ≤ g') →
      wpListIn F m P ops Q rest (a.put d (.slice (some ⟨g', 0, none⟩) (n + 1) cap')) w') :
    wpListIn F m P ops Q (⟨d, Op.call { callee := Callee.builtin Builtin.append, args := #[s, x], argTypes := #[tT, tT] }, tT, pos, aft, some gd⟩ :: rest) a w := by
  refine wpListIn_step fun K hK' => ?_
  rw [if_pos hw]
  obtain ⟨g', cap', w', hr, h2, h3, h4, h5⟩ := run_append1 (P := P) w tT tI i ht hi hz hs hb base g n cap xs hown ad c u hx h1 hn
  unfold Oper.wpIn
  refine ⟨?_, ?_⟩
  · simp [Oper.about, resolve, Target.leads, Sem.run_pure]
  · rw [Oper.semAt_plain F _ _ (by intro c hc'; cases hc')]
    simp [execOp, resolve, invoke, builtin, hsv, hxv, hr, Result.andThen]
    exact hK' _ _ (hK g' cap' w' h2 h3 h4 h5)
end

section
open Go.RowKit
section
variable {Fc : Fence} {N : Nat} {P : Program} {ops : Array Oper} {rest : List Oper} {a : Act} {w : World} {Q : Exit → Act → World → Prop} {d : Option Nat} {ot : TypeId} {pos : String} {aft : Array Edge}

theorem wpIn_of_run {o : Oper} {v : Value} {w' : World} {K : Act → World → Prop} (hd : ∀ c, o.op ≠ .defer c) (hab : o.about P w a.eval = none) (h : (execOp a.eval o).run P w = .ok (.value v) w') (hK : K (a.put o.dst v) w') : o.wpIn Fc N P a w K Q := by
  refine ⟨fun f hf => (by rw [hab] at hf; cases hf), ?_⟩
  rw [Oper.semAt_eq _ _ _ hd, h]
  exact hK

theorem arrI_load_g (n ty m e t : Nat) (x : Operand) (gd : Option (Nat × Bool)) (g : Nat) (F : Nat → Int) (hw : Region.wanted (⟨d, Op.load ty x, ot, pos, aft, gd⟩ : Oper) (yielded ops a.tmps) = true) (hx : a.eval x = .pointer (some ⟨g, 0, none⟩)) (hg : ArrAt w g t n F) (hu : P.underlying ty = some (.array m e)) (hi : (P.info? ty).map (·.size) = some n)
    (h : wpListIn Fc N P ops Q rest (a.put d (.agg (cellsV n F))) w) : wpListIn Fc N P ops Q (⟨d, Op.load ty x, ot, pos, aft, gd⟩ :: rest) a w :=
  wpListIn_step fun K hK => by
    rw [if_pos hw]
    refine wpIn_of_run (by intro c hc; cases hc) (by simp [Oper.about]) (v := .agg (cellsV n F)) (w' := w) ?_ (hK _ _ h)
    unfold execOp
    simp only [hx, Instr.loadAt, Instr.sureAddr, Sem.run_bind, Sem.run_pure, Result.andThen_ok, run_loadVar_row w g t ty (cellsV n F) (0, 0) _ hg hu rfl (by rw [cellsV_size]; exact hi)]

theorem arrI_load (n ty m e t : Nat) (x : Operand) (g : Nat) (F : Nat → Int) (hx : a.eval x = .pointer (some ⟨g, 0, none⟩)) (hg : ArrAt w g t n F) (hu : P.underlying ty = some (.array m e)) (hi : (P.info? ty).map (·.size) = some n)
    (h : wpListIn Fc N P ops Q rest (a.put d (.agg (cellsV n F))) w) : wpListIn Fc N P ops Q (⟨d, Op.load ty x, ot, pos, aft, none⟩ :: rest) a w :=
  arrI_load_g n ty m e t x none g F rfl hx hg hu hi h

/-- The same, at a step of a region that draws its order. -/
theorem arrS_load (n ty m e t : Nat) (x : Operand) (gd : Option (Nat × Bool)) (g : Nat) (F : Nat → Int) {K : Act → World → Prop} {E : Prop} (hw : Region.wanted (⟨d, Op.load ty x, ot, pos, aft, gd⟩ : Oper) (yielded ops a.tmps) = true) (hx : a.eval x = .pointer (some ⟨g, 0, none⟩)) (hg : ArrAt w g t n F) (hu : P.underlying ty = some (.array m e)) (hi : (P.info? ty).map (·.size) = some n)
    (h : K (a.put d (.agg (cellsV n F))) w) : if Region.wanted (⟨d, Op.load ty x, ot, pos, aft, gd⟩ : Oper) (yielded ops a.tmps) = true then Oper.wpIn Fc N P (⟨d, Op.load ty x, ot, pos, aft, gd⟩ : Oper) a w K Q else E := by
  rw [if_pos hw]
  refine wpIn_of_run (by intro c hc; cases hc) (by simp [Oper.about]) (v := .agg (cellsV n F)) (w' := w) ?_ h
  unfold execOp
  simp only [hx, Instr.loadAt, Instr.sureAddr, Sem.run_bind, Sem.run_pure, Result.andThen_ok, run_loadVar_row w g t ty (cellsV n F) (0, 0) _ hg hu rfl (by rw [cellsV_size]; exact hi)]

theorem arrI_alloc (n ty : Nat) (hz : (zeroValue ty).run P w = .ok (.agg (cellsV n fun _ => 0)) w)
    (h : ∀ w1, ArrAt w1 w.heap.size ty n (fun _ => 0) → w1.heap.size = w.heap.size + 1 → Below w.heap.size w w1 → wpListIn Fc N P ops Q rest (a.put d (.pointer (some ⟨w.heap.size, 0, none⟩))) w1) :
    wpListIn Fc N P ops Q (⟨d, Op.alloc ty, ot, pos, aft, none⟩ :: rest) a w := by
  refine wpListIn_plain rfl fun K hK' => ?_
  have := h (w.alloc (.cells (cellsV n fun _ => 0) ty)) (ArrAt.new w ty n _) (by simp) ((Below.refl _ _).alloc (Nat.le_refl _) _)
  refine wpIn_of_run (by intro c hc; cases hc) (by simp [Oper.about]) (v := .pointer (some ⟨w.heap.size, 0, none⟩)) (w' := w.alloc (.cells (cellsV n fun _ => 0) ty)) ?_ (hK' _ _ this)
  unfold execOp
  simp [Instr.alloc, hz, newVar, newRow, newObj, Value.cells]
  rfl

theorem arrI_store (n ty t : Nat) (x y : Operand) (g : Nat) (F G : Nat → Int) (hx : a.eval x = .pointer (some ⟨g, 0, none⟩)) (hy : a.eval y = .agg (cellsV n G)) (hg : ArrAt w g t n F) (hi : (P.info? ty).map (·.size) = some n)
    (h : ∀ w1, ArrAt w1 g t n G → w1.heap.size = w.heap.size → (∀ k, k ≠ g → w1.heap[k]? = w.heap[k]?) → Below g w w1 → wpListIn Fc N P ops Q rest (a.put d undef) w1) : wpListIn Fc N P ops Q (⟨d, Op.store ty x y, ot, pos, aft, none⟩ :: rest) a w := by
  refine wpListIn_plain rfl fun K hK' => ?_
  have := h (w.setRow g (cellsV n G)) (setRow_heap w g (cellsV n F) (cellsV n G) t (0, 0) hg) (by simp) (fun k hk => setRow_other w g k _ hk) (below_setRow w _ (Nat.le_refl _))
  refine ⟨fun f hf => by simp [Oper.about] at hf, ?_⟩
  rw [Oper.semAt_eq _ _ _ (by intro c hc; cases hc)]
  have he : (execOp a.eval (⟨d, Op.store ty x y, ot, pos, aft, none⟩ : Oper)).run P w = .ok .skip (w.setRow g (cellsV n G)) := by
    unfold execOp
    simp only [hx, hy, Instr.storeAt, Instr.sureAddr, Sem.run_bind, Sem.run_pure, Result.andThen_ok, run_storeVar_row w g t ty (cellsV n F) (cellsV n G) hg (by rw [cellsV_size]; exact hi) (by rw [cellsV_size, cellsV_size]) (cellsV_one n G)]
  rw [he]
  exact hK' _ _ this
end
end

section
open Go.RowKit
set_option linter.unusedSimpArgs false

section
variable {F : Fence} {n : Nat} {P : Program} {ops : Array Oper} {md : Region.Mode} {C : World → Prop}

def isDefer : Op → Bool
  | .defer _ => true
  | _ => false
theorem isDefer_no {o : Op} (h : isDefer o = false) : ∀ c, o ≠ .defer c := fun c e => by rw [e] at h; cases h
def noDefer (ops : Array Oper) : Bool := ops.all fun o => !isDefer o.op
theorem noDefer_at (h : noDefer ops = true) {i : Nat} {o : Oper} (hi : ops[i]? = some o) : ∀ c, o.op ≠ .defer c := by
  unfold noDefer at h
  rw [Array.all_eq_true] at h
  obtain ⟨hlt, rfl⟩ := Array.getElem?_eq_some_iff.1 hi
  have := h i hlt
  exact isDefer_no (by simpa using this)

theorem oper_round {l : Nat} {o : Oper} {a : Act} {w : World} {K : Act → World → Prop} {Q : Exit → Act → World → Prop} (hro : F.round = none) (hd : ∀ c, o.op ≠ .defer c) (h : o.wpIn F n P a w K Q) : o.wpIn (F.inRound l) n P a w K Q := by
  unfold Oper.wpIn at *
  refine ⟨h.1, ?_⟩
  have h2 := h.2
  rw [Oper.semAt_eq _ _ _ hd] at h2 ⊢
  generalize (execOp a.eval o).run P w = r at *
  cases r with
  | ok x w' => cases x <;> exact h2
  | halt x w' => cases x <;> exact h2

theorem any_round {l : Nat} {Q : Exit → Act → World → Prop} (hro : F.round = none) (hd : noDefer ops = true) : ∀ (fuel : Nat) (listed : Array Bool) (a : Act) (w : World), wpAnyIn F n P md ops Q fuel listed a w → wpAnyIn (F.inRound l) n P md ops Q fuel listed a w
  | 0, _, _, _, h => h
  | fuel + 1, listed, a, w, h => ⟨h.1, fun i hi => by
      have h2 := wpOpIn_mono (fun a' w' h' => any_round (l := l) hro hd fuel _ a' w' h') (h.2 i hi)
      unfold wpOpIn at h2 ⊢
      split
      · simp only [*] at h2; exact h2
      · rename_i o ho
        simp only [ho] at h2
        split
        · rename_i hw; simp only [hw, if_true] at h2; exact oper_round hro (noDefer_at hd ho) h2
        · rename_i hw; simp only [hw] at h2; exact h2⟩

/-- Whatever comes up in whatever order, the tail waits. -/
def tailB (md : Region.Mode) (ops : Array Oper) (fin : Array Bool) : Nat → Array Bool → Array Bool → Bool
  | 0, listed, listed' => listed == fin
  | fuel + 1, listed, listed' => Region.ready md ops listed == Region.ready md ops listed' && !(Region.ready md ops listed).isEmpty &&
      (Region.ready md ops listed).all fun i => tailB md ops fin fuel (listed.setIfInBounds i true) (listed'.setIfInBounds i true)

theorem any_tail {Q : Act → Prop} {Q' : Exit → Act → World → Prop} {fin : Array Bool} {fuel2 : Nat} (hro : F.round = none) (hT : ∀ a w, C w → Q a → wpAnyIn F n P md ops Q' fuel2 fin a w) :
    ∀ (fuel : Nat) (listed listed' : Array Bool) (a : Act) (w : World), C w → tailB md ops fin fuel listed listed' = true → wpAnyQIn F n P md ops C Q fuel listed' a → wpAnyIn F n P md ops Q' (fuel + fuel2) listed a w
  | 0, listed, listed', a, w, hC, ht, h => by
    unfold tailB at ht
    have e : listed = fin := by simpa using ht
    subst e
    rw [Nat.zero_add]
    exact hT a w hC h.2
  | fuel + 1, listed, listed', a, w, hC, ht, h => by
    unfold tailB at ht
    simp only [Bool.and_eq_true, beq_iff_eq, Bool.not_eq_true', List.all_eq_true] at ht
    obtain ⟨⟨h1, h2⟩, h3⟩ := ht
    rw [show fuel + 1 + fuel2 = (fuel + fuel2) + 1 by omega]
    refine ⟨fun h0 => (by rw [h0] at h2; simp at h2), fun i hi => ?_⟩
    exact wpOpIn_of_qOpIn hro hC (fun a' w' hw' h' => any_tail hro hT fuel _ _ a' w' hw' (h3 i hi) h') (h.2 i (h1 ▸ hi))

theorem any_lex {Q : Act → Prop} (hs : Region.noSelect ops = true) : ∀ (l : List Oper) (k : Nat) (listed : Array Bool) (a : Act), (∀ j o, l[j]? = some o → ops[k + j]? = some o) →
    Region.lexFrom md ops l.length k listed = true → wpQuietIn F n P ops C Q l a → wpAnyQIn F n P md ops C Q l.length listed a
  | [], _, _, _, _, hB, h => ⟨by simpa [Region.lexFrom] using hB, h⟩
  | o :: l, k, listed, a, hl, hB, h => by
    have h0 : ops[k]? = some o := by simpa using hl 0 o rfl
    simp only [List.length_cons, Region.lexFrom, Bool.and_eq_true] at hB
    obtain ⟨⟨hr, hf⟩, hB'⟩ := hB
    have hst : qOpIn F n P ops C k (wpQuietIn F n P ops C Q l) a := by unfold qOpIn; simp only [h0]; exact h
    obtain ⟨v, hy, hK⟩ := yieldsQuiet_of_qOpIn h0 hst
    exact wpAnyQIn_first h0 (Region.noSelect_spec hs) l.length listed a (Region.free_spec h0 hf) (by simpa using hr) hy
      (any_lex hs l (k + 1) _ _ (fun j o' hj => by have := hl (j + 1) o' (by simpa using hj); simpa [Nat.add_assoc, Nat.add_comm 1 j] using this) hB' hK)

/-- The quiet front in the text's order; then the tail. -/
theorem region_tail (m f2 : Nat) (fin st : Array Bool) {id : Nat} {l : List Oper} {Q : Exit → Act → World → Prop} {a : Act} {w : World} (hm : P.follows .mixedOrders = true) (hro : F.round = none) (hle : l.length = m + f2) (hC : C { w with drawn := w.drawn + 1 })
    (hs : Region.noSelect l.toArray = true) (hd : noDefer l.toArray = true) (hB : Region.lexFrom .any l.toArray m 0 st = true) (hf : tailB .any l.toArray fin m (Array.replicate l.length false) st = true)
    (h : wpQuietIn F n P l.toArray C (fun a' => ∀ w', C w' → wpAnyIn F n P .any l.toArray Q f2 fin a' w') (l.take m) a) :
    (Code.region id l.toArray true).wpIn F n P Q a w ∧ ∀ k, (Code.region id l.toArray true).wpIn (F.inRound k) n P Q a w := by
  have hlen : (l.take m).length = m := by rw [List.length_take]; omega
  have h1 := any_lex (F := F) (n := n) (P := P) (C := C) (md := .any) hs (l.take m) 0 st a (fun j o hj => by
    rw [List.getElem?_take] at hj
    by_cases e : j < m
    · rw [if_pos e] at hj; simpa using hj
    · rw [if_neg e] at hj; cases hj) (by rw [hlen]; exact hB) h
  rw [hlen] at h1
  have h2 := any_tail (F := F) (n := n) (P := P) (C := C) (md := .any) (Q' := Q) (fuel2 := f2) hro (fun a' w' hw' h' => h' w' hw') m _ _ a _ hC hf h1
  rw [← hle] at h2
  exact ⟨wpIn_region_any hm (by simpa using h2), fun k => wpIn_region_any hm (any_round hro hd _ _ _ _ (by simpa using h2))⟩
end

section
variable {P : Program} {ops : Array Oper} {C : World → Prop} {Q : Act → Prop} {a : Act} {rest : List Oper} {d : Option Nat} {ot : TypeId} {pos : String} {aft : Array Edge}

/-- What is quiet is so within the wide fence. -/
theorem quietIn_of {l : List Oper} : ∀ {a : Act}, wpQuiet P ops C Q l a → wpQuietIn Fence.wide 9 P ops C Q l a := by
  induction l with
  | nil => intro a h; exact h
  | cons o rest ih =>
    intro a h
    refine ⟨fun _ _ _ _ => trivial, ?_⟩
    unfold wpQuiet at h
    split
    · rename_i hw
      rw [if_pos hw] at h
      obtain ⟨v, h1, h2⟩ := h
      refine ⟨v, fun w hw' => ?_, ih h2⟩
      have h3 := h1 w hw'
      unfold Oper.quietAt at h3
      unfold Oper.quietAtIn
      generalize (execOp a.eval o).run P w = r at *
      cases r with
      | ok x w' =>
        cases x with
        | enter f args => exact ⟨h3.1, (fun h => by simp [Fence.wide] at h), callsIn_wide.2 h3.2⟩
        | _ => exact h3
      | halt x w' => exact h3
    · rename_i hw
      rw [if_neg hw] at h
      exact ih h
end

/-- In a round of the wide fence: a front that makes only later worlds; then the tail. -/
theorem region_later_tail (m f2 : Nat) (fin st : Array Bool) {P : Program} {k id : Nat} {l : List Oper} {Q : Exit → Act → World → Prop} {a : Act} {w : World} (hm : P.follows .mixedOrders = true) (hle : l.length = m + f2)
    (hs : Region.noSelect l.toArray = true) (hd : noDefer l.toArray = true) (hB : Region.lexFrom .any l.toArray m 0 st = true) (hf : tailB .any l.toArray fin m (Array.replicate l.length false) st = true)
    (h : wpQuiet P l.toArray (fun w' => ∃ r : Later w, w' = r.W) (fun a' => ∀ w', (∃ r : Later w, w' = r.W) → wpAnyIn Fence.wide 9 P .any l.toArray Q f2 fin a' w') (l.take m) a) :
    (Code.region id l.toArray true).wpIn (Fence.wide.inRound k) 9 P Q a w :=
  (region_tail (C := fun w' => ∃ r : Later w, w' = r.W) m f2 fin st hm rfl hle ⟨⟨{ w with drawn := w.drawn + 1 }, ⟨rfl, rfl, rfl, Nat.le_refl _, fun _ _ => rfl⟩⟩, rfl⟩ hs hd hB hf (quietIn_of h)).2 k

/-- A call of yield, one step of such a tail. -/
theorem step_yield {P : Program} {ops : Array Oper} {a : Act} {w : World} {K : Act → World → Prop} {Q : Exit → Act → World → Prop} {E : Prop} {d : Option Nat} {ot t : TypeId} {pos : String} {aft : Array Edge} {gd : Option (Nat × Bool)} (g x : Operand) (l : Nat) (v : Value) (R : Ending → World → Prop)
    (hw : Region.wanted (⟨d, Op.call { callee := .value g, args := #[x], argTypes := #[t] }, ot, pos, aft, gd⟩ : Oper) (yielded ops a.tmps) = true) (hg : a.eval g = .func (.yield l) #[] #[]) (hx : a.eval x = v)
    (hy : YieldAt Fence.wide 9 P l #[v] w R) (hK : ∀ e w', R e w' → ∃ u, e = .returned u ∧ K (a.put d u) w') :
    if Region.wanted (⟨d, Op.call { callee := .value g, args := #[x], argTypes := #[t] }, ot, pos, aft, gd⟩ : Oper) (yielded ops a.tmps) = true then Oper.wpIn Fence.wide 9 P (⟨d, Op.call { callee := .value g, args := #[x], argTypes := #[t] }, ot, pos, aft, gd⟩ : Oper) a w K Q else E := by
  rw [if_pos hw]
  obtain ⟨fn, tmps, assign, body, hy, hR⟩ := hy
  refine ⟨fun _ _ => trivial, ?_⟩
  rw [Oper.semAt_eq _ _ _ (by intro c hc; cases hc)]
  have he : ∀ ρ : Operand → Value, ρ g = .func (.yield l) #[] #[] → ρ x = v → (execOp ρ (⟨d, Op.call { callee := .value g, args := #[x], argTypes := #[t] }, ot, pos, aft, gd⟩ : Oper)).run P w = .ok (.round l fn tmps assign body) w := by
    intro ρ h1 h2
    simp [execOp, resolve, invoke, go_sem, h1, h2, hy, Result.andThen]
  rw [he _ hg hx]
  refine ⟨fun h => by simp [Fence.wide] at h, roundIn_wide (hR.mono fun e w' hr => ?_)⟩
  obtain ⟨u, rfl, hk⟩ := hK e w' hr
  exact hk
end

end Go.Proofs.YtabdbgnkiebcdaaGreatDoor

namespace Go.Proofs.YtabdbgnkiebcdaaGreatDoor
set_option linter.unusedVariables false
set_option linter.unusedSimpArgs false
open Go.RowKit

/-- What a caller says between two rounds: it speaks of the blocks V, which its rounds may write, and of the blocks O, which nobody writes. -/
structure CallerV {α : Type} (O : Nat → Prop) (J : (Nat → Prop) → List α → World → Prop) : Prop where
  lies : ∀ V pre W, J V pre W → ∀ k, V k → k < W.heap.size
  steady : ∀ V pre A B, J V pre A → Inside (fun k => V k ∨ O k) A B → J V pre B

/-- What a round promises: handed a list of its own that comes next, it turns V alone. -/
def YieldsV {α : Type} (P : Program) (av : α → Array Value) (l : Nat) (J Jx : (Nat → Prop) → List α → World → Prop) (LL : List α) : Prop :=
  ∀ V pre D W1, J V pre W1 → (pre ++ [D]) <+: LL →
    YieldAt Fence.wide 9 P l (av D) W1 fun e W2 => Outside V W1 W2 ∧ ∃ V', (∀ k, V' k → V k ∨ W1.heap.size ≤ k) ∧
      (e = .returned (.bool true) ∧ J V' (pre ++ [D]) W2 ∨ e = .returned (.bool false) ∧ Jx V' (pre ++ [D]) W2)

/-- What an iterator promises: the lists LL, one behind the other, each in a new block; it reads the blocks R. -/
def SeqV {α : Type} (P : Program) (av : α → Array Value) (gf : Nat) (lb : Array Value) (R : Nat → Prop) (LL : List α) (w : World) : Prop :=
  ∀ l O V J Jx W, Inside R w W → (∀ k, R k → ¬ V k) → (∀ k, O k → k < W.heap.size) → CallerV O J → CallerV O Jx → YieldsV P av l J Jx LL → J V [] W →
    CallsIn Fence.wide 9 P gf (#[.func (.yield l) #[] #[]] ++ lb) W fun e W' => (∃ v, e = .returned v) ∧ ((∃ V', J V' LL W') ∨ ∃ V' pre, pre <+: LL ∧ Jx V' pre W')

/-- How a round's body may be left. -/
def seqPostV {α : Type} (I : (Nat → Prop) → List α → World → Prop) (Ix : Code → (Nat → Prop) → List α → World → Prop) (xs : List α) (V : Nat → Prop) (W : World) : Exit → Act → World → Prop
  | .normal, _, W' => Outside V W W' ∧ ∃ V', (∀ k, V' k → V k ∨ W.heap.size ≤ k) ∧ I V' xs W'
  | .ret, _, W' => Outside V W W' ∧ ∃ V', (∀ k, V' k → V k ∨ W.heap.size ≤ k) ∧ Ix .ret V' xs W'
  | .exit id, _, W' => Outside V W W' ∧ ∃ V', (∀ k, V' k → V k ∨ W.heap.size ≤ k) ∧ Ix (.exit id) V' xs W'
  | .goto t, _, W' => False
  | .panic _, _, _ => False
  | .outgrown, _, _ => False

variable {P : Program} {α : Type}

/-- **The statement.** -/
theorem wp_seqV {g : Operand} {ps : Array Tmp} {assign body : Code} {Q : Exit → Act → World → Prop} {a : Act} {w : World} {av : α → Array Value} {gf : Nat} {lb : Array Value}
    (hg : a.eval g = .func (.func gf) #[] lb) (eg : ∀ args w, (callFunc gf args).run P w = .ok (.enter gf args) w) (hps : ∀ D, (av D).size = ps.size)
    {R : Nat → Prop} {LL : List α} (hseq : SeqV P av gf lb R LL w) (V0 : Nat → Prop) (hR : ∀ k, R k → ¬ V0 k ∧ k < w.heap.size)
    (I : (Nat → Prop) → List α → World → Prop) (Ix : Code → (Nat → Prop) → List α → World → Prop) (O : Nat → Prop) (hO : ∀ k, O k → k < w.heap.size) (hI : CallerV O I) (hIx : ∀ c, CallerV O (Ix c)) (h0 : I V0 [] w)
    (Ax : α → Act → World → Prop) (hAx : ∀ v a' W l r o, Ax v a' W → W.heap[l]? = some (.loop r) → Ax v a' (W.putObj l o))
    (hassign : ∀ l v W K, (∀ a' W', Outside (fun _ => False) W W' → Ax v a' W' → K a' W') →
      assign.wpIn (Fence.wide.inRound l) 9 P (Exit.then K (fun _ _ _ => False)) { tmps := (ps.zip (av v)).foldl (fun t (p, v) => t.setIfInBounds p v) a.tmps, defers := [] } W)
    (hbody : ∀ l V pre D a' W, I V pre W → (pre ++ [D]) <+: LL → (∀ k, V k → V0 k ∨ w.heap.size ≤ k) →
      Ax D a' W → body.wpIn (Fence.wide.inRound l) 9 P (seqPostV I Ix (pre ++ [D]) V W) a' W)
    (hdone : ∀ D V W, w.heap.size ≤ D → (∀ k, V k → V0 k ∨ w.heap.size ≤ k) → ¬ V D → I V LL W → W.heap[D]? = some (.deferred (some [])) →
      Q .normal { a with defers := { target := .collected D, args := #[] } :: a.defers } W)
    (hstop : ∀ D c V pre W, w.heap.size ≤ D → (∀ k, V k → V0 k ∨ w.heap.size ≤ k) → ¬ V D → pre <+: LL → Ix c V pre W → W.heap[D]? = some (.deferred (some [])) →
      c.wpIn Fence.wide 9 P Q { a with defers := { target := .collected D, args := #[] } :: a.defers } W) :
    (Code.rangeFunc g ps assign body).wpIn Fence.wide 9 P Q a w := by
  refine wpIn_rangeFunc ?_
  intro fn hfn
  obtain ⟨rec, hrec⟩ : ∃ rec : LoopState → Option Code → Loop, rec = fun st pe => { state := st, pending := pe, fn, tmps := a.tmps, params := ps, assign, body, defers := w.heap.size } := ⟨_, rfl⟩
  obtain ⟨W1, hW1⟩ : ∃ W1, (w.alloc (.deferred (some []))).alloc (.loop (rec .ready none)) = W1 := ⟨_, rfl⟩
  have hL1 : W1.heap[w.heap.size + 1]? = some (.loop (rec .ready none)) := by
    rw [← hW1]; have := World.alloc_heap_new (w.alloc (.deferred (some []))) (.loop (rec .ready none)); rwa [World.size_alloc] at this
  have hK1 : W1.heap[w.heap.size]? = some (.deferred (some [])) := by
    rw [← hW1]; exact (Below.heap_alloc _ _ _ (by simp)).trans (World.alloc_heap_new w _)
  have hb1 : Below w.heap.size w W1 := by
    rw [← hW1]; exact ((Below.refl _ w).alloc (Nat.le_refl _) _).alloc (by simp) _
  have hs1 : W1.heap.size = w.heap.size + 2 := by rw [← hW1]; simp
  have hV0 := hI.lies V0 [] w h0
  have hI1 : I V0 [] W1 := hI.steady _ _ _ _ h0 (Inside.of_below hb1 (fun k h => h.elim (hV0 k) (hO k)))
  refine ⟨w.heap.size + 1, [{ target := .collected w.heap.size, args := #[] }], W1, { target := .fn (.func gf) lb, args := #[.func (.yield (w.heap.size + 1)) #[] #[]] }, W1, gf,
    #[.func (.yield (w.heap.size + 1)) #[] #[]] ++ lb, W1, ?_, ?_, ?_, ?_, (fun h => by simp [Fence.wide] at h), ?_⟩
  · rw [← hW1, hrec]; exact run_enterLoop_outer _ _ _ _ _
  · simp only [resolve, hg]
    simp [go_sem]
  · intro f' hf'; trivial
  · simp [invoke, go_sem, eg]
  · -- the iterator, at the caller's word with the two blocks of the loop beside it
    have hcell : ∀ {A : World} {l : Nat} {o : Obj}, A.heap[l]? = some o → l < A.heap.size := fun h => (Array.getElem?_eq_some_iff.1 h).1
    refine (callsIn_wide.2 (callsIn_wide.1 ((hseq (w.heap.size + 1) O (fun k => V0 k ∨ k = w.heap.size ∨ k = w.heap.size + 1)
      (fun V pre W => ∃ V1, V = (fun k => V1 k ∨ k = w.heap.size ∨ k = w.heap.size + 1) ∧ ¬ V1 w.heap.size ∧ ¬ V1 (w.heap.size + 1) ∧ (∀ k, V1 k → V0 k ∨ w.heap.size ≤ k) ∧ I V1 pre W ∧ W.heap[w.heap.size + 1]? = some (.loop (rec .ready none)) ∧ W.heap[w.heap.size]? = some (.deferred (some [])))
      (fun V pre W => ∃ V1, V = (fun k => V1 k ∨ k = w.heap.size ∨ k = w.heap.size + 1) ∧ ¬ V1 w.heap.size ∧ ¬ V1 (w.heap.size + 1) ∧ (∀ k, V1 k → V0 k ∨ w.heap.size ≤ k) ∧ (∃ c, Ix c V1 pre W ∧ W.heap[w.heap.size + 1]? = some (.loop (rec .done (some c)))) ∧ W.heap[w.heap.size]? = some (.deferred (some [])))
      W1 (Inside.of_below hb1 (fun k hk => (hR k hk).2)) (fun k hk h => by have := hR k hk; rcases h with h | h | h; exact this.1 h; omega; omega) (fun k hk => by have := hO k hk; omega) ?_ ?_ ?_ ?_)))).mono ?_
    · constructor
      · rintro V pre W ⟨V1, rfl, h1, h2, h3, h4, h5, h6⟩ k (hk | rfl | rfl)
        · exact hI.lies _ _ _ h4 k hk
        · exact hcell h6
        · exact hcell h5
      · rintro V pre A B ⟨V1, rfl, h1, h2, h3, h4, h5, h6⟩ hin
        exact ⟨V1, rfl, h1, h2, h3, hI.steady _ _ _ _ h4 (hin.mono fun k hk => hk.imp .inl id), (hin.block _ (.inl (.inr (.inr rfl)))).trans h5, (hin.block _ (.inl (.inr (.inl rfl)))).trans h6⟩
    · constructor
      · rintro V pre W ⟨V1, rfl, h1, h2, h3, ⟨c, h4, h5⟩, h6⟩ k (hk | rfl | rfl)
        · exact (hIx c).lies _ _ _ h4 k hk
        · exact hcell h6
        · exact hcell h5
      · rintro V pre A B ⟨V1, rfl, h1, h2, h3, ⟨c, h4, h5⟩, h6⟩ hin
        exact ⟨V1, rfl, h1, h2, h3, ⟨c, (hIx c).steady _ _ _ _ h4 (hin.mono fun k hk => hk.imp .inl id), (hin.block _ (.inl (.inr (.inr rfl)))).trans h5⟩, (hin.block _ (.inl (.inr (.inl rfl)))).trans h6⟩
    · -- one round
      rintro V pre D W ⟨V1, rfl, h1, h2, h3, hi, hl, hk⟩ hpre
      have hlW := hcell hl
      have hy := run_yield (P := P) (args := av D) hl (by rw [hrec]; simp [hps])
      rw [hrec] at hy
      refine ⟨fn, _, assign, body, hy, roundIn_of_wpIn hfn (hassign _ _ W _ ?_)⟩
      intro a' Wa hout hax
      have hla : Wa.heap[w.heap.size + 1]? = some (.loop (rec .ready none)) := (hout.block _ hlW (fun h => h)).trans hl
      have hka : Wa.heap[w.heap.size]? = some (.deferred (some [])) := (hout.block _ (hcell hk) (fun h => h)).trans hk
      obtain ⟨W2, hW2⟩ : ∃ W2, Wa.putObj (w.heap.size + 1) (.loop { rec .ready none with state := .busy }) = W2 := ⟨_, rfl⟩
      have hl2 : W2.heap[w.heap.size + 1]? = some (.loop { rec .ready none with state := .busy }) := by rw [← hW2]; exact World.putObj_heap_same (hcell hla)
      have ho2 : ∀ k, k ≠ w.heap.size + 1 → W2.heap[k]? = Wa.heap[k]? := fun k h => by rw [← hW2]; exact World.putObj_heap_other h
      have hs2 : W2.heap.size = Wa.heap.size := by rw [← hW2]; simp
      have hk2 := (ho2 _ (by omega)).trans hka
      have hgw : w.heap.size + 2 ≤ W.heap.size := by omega
      have hnO : ¬ O (w.heap.size + 1) := fun h => by have := hO _ h; omega
      have hin2 : Inside (fun k => V1 k ∨ O k) W W2 := (hout.inside (fun k h => h.elim (hI.lies _ _ _ hi k) (fun h => by have := hO k h; omega)) (fun _ _ h => h)).trans (by rw [← hW2]; exact Inside.putObj (fun h => h.elim h2 hnO) _)
      have hi2 := hI.steady _ _ _ _ hi hin2
      refine ⟨W2, by have := run_beginRound (P := P) hla (by rw [hrec]); rw [hrec] at this; rw [← hW2, hrec]; exact this, ?_⟩
      refine wpIn_mono (hbody (w.heap.size + 1) V1 pre D a' W2 hi2 hpre h3 (by rw [← hW2]; exact hAx _ _ _ _ _ _ hax hla)) ?_
      have fin : ∀ (jump : Option Code) (W3 : World) (V' : Nat → Prop) (Jz : World → Prop), Outside V1 W2 W3 → (∀ k, V' k → V1 k ∨ W2.heap.size ≤ k) → (∀ A B, Jz A → Inside (fun k => V' k ∨ O k) A B → Jz B) → Jz W3 →
          ∃ W4, (Instr.endRound (w.heap.size + 1) jump).run P W3 = .ok (.bool jump.isNone) W4 ∧ Outside (fun k => V1 k ∨ k = w.heap.size ∨ k = w.heap.size + 1) W W4 ∧ ¬ V' w.heap.size ∧ ¬ V' (w.heap.size + 1) ∧ (∀ k, V' k → V0 k ∨ w.heap.size ≤ k) ∧ (∀ k, V' k → V1 k ∨ W.heap.size ≤ k) ∧ Jz W4 ∧
            W4.heap[w.heap.size + 1]? = some (.loop (rec (if jump.isNone then .ready else .done) jump)) ∧ W4.heap[w.heap.size]? = some (.deferred (some [])) := by
        intro jump W3 V' Jz hout3 hV' hst hz
        have hl3 := (hout3.block _ (hcell hl2) h2).trans hl2
        have hk3 := (hout3.block _ (hcell hk2) h1).trans hk2
        have hr := run_endRound (P := P) jump hl3
        rw [hrec] at hr
        have e1 := hcell hl2
        have e2 := hcell hk2
        have e3 := hout.size
        have d1 : ¬ V' w.heap.size := fun h => by rcases hV' _ h with h | h; exact h1 h; omega
        have d2 : ¬ V' (w.heap.size + 1) := fun h => by rcases hV' _ h with h | h; exact h2 h; omega
        refine ⟨_, hr, ?_, d1, d2, ?_, ?_, hst _ _ hz (Inside.putObj (fun h => h.elim d2 hnO) _), ?_, ?_⟩
        · have o1 : Outside (fun k => V1 k ∨ k = w.heap.size ∨ k = w.heap.size + 1) W Wa := hout.mono (fun k _ h => h.elim)
          have o2 : Outside (fun k => V1 k ∨ k = w.heap.size ∨ k = w.heap.size + 1) Wa W2 := by rw [← hW2]; exact Outside.putObj _ (.inr (.inr rfl)) _
          have o3 : Outside (fun k => V1 k ∨ k = w.heap.size ∨ k = w.heap.size + 1) W2 W3 := hout3.mono (fun k _ h => .inl h)
          exact ((o1.trans' o2 (fun _ _ h => h)).trans' o3 (fun _ _ h => h)).trans' (Outside.putObj _ (.inr (.inr rfl)) _) (fun _ _ h => h)
        · intro k hk'
          rcases hV' k hk' with h | h
          · exact h3 k h
          · right; omega
        · intro k hk'
          rcases hV' k hk' with h | h
          · exact .inl h
          · right; omega
        · rw [hrec]; exact World.putObj_heap_same (hcell hl3)
        · exact (World.putObj_heap_other (by omega)).trans hk3
      have hV2 : ∀ V' : Nat → Prop, (∀ k, V' k → V1 k ∨ W.heap.size ≤ k) → ∀ k, (V' k ∨ k = w.heap.size ∨ k = w.heap.size + 1) → (V1 k ∨ k = w.heap.size ∨ k = w.heap.size + 1) ∨ W.heap.size ≤ k := by
        intro V' h k hk'
        rcases hk' with hk' | hk' | hk'
        · rcases h k hk' with h | h
          · exact .inl (.inl h)
          · exact .inr h
        · exact .inl (.inr (.inl hk'))
        · exact .inl (.inr (.inr hk'))
      rintro e a3 W3 hp
      cases e with
      | normal =>
        obtain ⟨ho3, V', hV', hi3⟩ := hp
        obtain ⟨W4, hr, q1, q2, q3, q4, q5, q6, q7, q8⟩ := fin none W3 V' (fun W => I V' (pre ++ [D]) W) ho3 hV' (fun A B => hI.steady _ _ A B) hi3
        exact ⟨_, W4, hr, q1, (fun k => V' k ∨ k = w.heap.size ∨ k = w.heap.size + 1), hV2 V' q5, .inl ⟨rfl, V', rfl, q2, q3, q4, q6, q7, q8⟩⟩
      | ret =>
        obtain ⟨ho3, V', hV', hi3⟩ := hp
        obtain ⟨W4, hr, q1, q2, q3, q4, q5, q6, q7, q8⟩ := fin (some .ret) W3 V' (fun W => Ix .ret V' (pre ++ [D]) W) ho3 hV' (fun A B => (hIx .ret).steady _ _ A B) hi3
        exact ⟨_, W4, hr, q1, (fun k => V' k ∨ k = w.heap.size ∨ k = w.heap.size + 1), hV2 V' q5, .inr ⟨rfl, V', rfl, q2, q3, q4, ⟨.ret, q6, q7⟩, q8⟩⟩
      | exit id =>
        obtain ⟨ho3, V', hV', hi3⟩ := hp
        obtain ⟨W4, hr, q1, q2, q3, q4, q5, q6, q7, q8⟩ := fin (some (.exit id)) W3 V' (fun W => Ix (.exit id) V' (pre ++ [D]) W) ho3 hV' (fun A B => (hIx (.exit id)).steady _ _ A B) hi3
        exact ⟨_, W4, hr, q1, (fun k => V' k ∨ k = w.heap.size ∨ k = w.heap.size + 1), hV2 V' q5, .inr ⟨rfl, V', rfl, q2, q3, q4, ⟨.exit id, q6, q7⟩, q8⟩⟩
      | goto t => exact hp.elim
      | panic ch => exact hp.elim
      | outgrown => exact hp.elim
    · exact ⟨V0, rfl, fun h => by have := hV0 _ h; omega, fun h => by have := hV0 _ h; omega, fun k h => .inl h, hI1, hL1, hK1⟩
    · -- behind the iterator
      rintro e W2 ⟨⟨v, rfl⟩, (⟨V', V1, rfl, h1, h2, h3, hi, hl, hk⟩ | ⟨V', pre, hpre, V1, rfl, h1, h2, h3, ⟨c, hi, hl⟩, hk⟩)⟩
      · exact ⟨none, _, by have := run_endLoop (P := P) hl (by rw [hrec]; simp); rw [hrec] at this; exact this, hdone _ V1 _ (Nat.le_refl _) h3 h1 (hI.steady _ _ _ _ hi (Inside.putObj (fun h => h.elim h2 (fun h => by have := hO _ h; omega)) _)) ((World.putObj_heap_other (by omega)).trans hk)⟩
      · exact ⟨some c, _, by have := run_endLoop (P := P) hl (by rw [hrec]; simp); rw [hrec] at this; exact this, hstop _ c V1 pre _ (Nat.le_refl _) h3 h1 hpre ((hIx c).steady _ _ _ _ hi (Inside.putObj (fun h => h.elim h2 (fun h => by have := hO _ h; omega)) _)) ((World.putObj_heap_other (by omega)).trans hk)⟩
end Go.Proofs.YtabdbgnkiebcdaaGreatDoor
