/- A range over a function whose loop variable is a slice of integers: what an iterator promises, and the statement's law. A set of blocks stands for what a caller's word speaks of and what its rounds may write. -/
import Derived.RangeFuncNested
import Derived.RangeFuncBound
import Derived.RangeFuncCalls
import Derived.RangeFuncLeaves
import Derived.Test.YtakipaehoeapcaaOwn
import Derived.Test.YtakipaehoeapcaaLongerModel
namespace Go.Proofs.Ytakipaehoeapcaa
set_option linter.unusedVariables false
open Go.RowKit

/-- But for what lies in V, all that was there is as it was. -/
structure Outside (V : Nat → Prop) (w w' : World) : Prop where
  os : w'.os = w.os
  tape : w'.tape = w.tape
  output : w'.output = w.output
  size : w.heap.size ≤ w'.heap.size
  block : ∀ k, k < w.heap.size → ¬ V k → w'.heap[k]? = w.heap[k]?

/-- What lies in V is as it was. -/
structure Inside (V : Nat → Prop) (w w' : World) : Prop where
  os : w'.os = w.os
  tape : w'.tape = w.tape
  output : w'.output = w.output
  size : w.heap.size ≤ w'.heap.size
  block : ∀ k, V k → w'.heap[k]? = w.heap[k]?

namespace Outside
variable {V U : Nat → Prop} {a b c : World}
theorem refl (V : Nat → Prop) (a : World) : Outside V a a := ⟨rfl, rfl, rfl, Nat.le_refl _, fun _ _ _ => rfl⟩
theorem trans' (h : Outside V a b) (k : Outside U b c) (hu : ∀ k, k < a.heap.size → U k → V k) : Outside V a c :=
  ⟨k.os.trans h.os, k.tape.trans h.tape, k.output.trans h.output, Nat.le_trans h.size k.size, fun i hi hv => (k.block i (Nat.lt_of_lt_of_le hi h.size) (fun hU => hv (hu i hi hU))).trans (h.block i hi hv)⟩
theorem mono (h : Outside V a b) (hu : ∀ k, k < a.heap.size → V k → U k) : Outside U a b := ⟨h.os, h.tape, h.output, h.size, fun i hi hv => h.block i hi (fun h' => hv (hu i hi h'))⟩
theorem of_below (h : Below a.heap.size a b) : Outside V a b := ⟨h.os, h.tape, h.output, h.size, fun k hk _ => h.block k hk⟩
theorem below {n : Nat} (h : Outside V a b) (hn : n ≤ a.heap.size) (hv : ∀ k, V k → n ≤ k) : Below n a b := ⟨h.os, h.tape, h.output, h.size, fun k hk => h.block k (by omega) (fun h' => by have := hv k h'; omega)⟩
theorem inside (h : Outside U a b) (hl : ∀ k, V k → k < a.heap.size) (hd : ∀ k, V k → ¬ U k) : Inside V a b := ⟨h.os, h.tape, h.output, h.size, fun k hk => h.block k (hl k hk) (hd k hk)⟩
theorem putObj (V : Nat → Prop) {r : Nat} (hr : V r) (o : Obj) : Outside V a (a.putObj r o) := ⟨rfl, rfl, rfl, by simp, fun k _ hk => World.putObj_heap_other (fun e => hk (by rw [e]; exact hr))⟩
theorem of_grown {row : Option Nat} (hg : a.grownBy b row) (hr : ∀ k, row = some k → V k) : Outside V a b := ⟨hg.os, hg.tape, hg.output, hg.size, fun k hk hv => hg.block k hk (fun e => hv (hr k e.symm))⟩
theorem cell (h : Outside V a b) {p : Addr} {v : Value} (hp : ¬ V p.block) (hc : a.cell? p = some v) : b.cell? p = some v := by
  rw [World.cell?_of_block (w := a) (h.block p.block (World.block_lt_of_cell? _ _ hc) hp)]; exact hc
end Outside

namespace Inside
variable {V U : Nat → Prop} {a b c : World}
theorem refl (V : Nat → Prop) (a : World) : Inside V a a := ⟨rfl, rfl, rfl, Nat.le_refl _, fun _ _ => rfl⟩
theorem trans (h : Inside V a b) (k : Inside V b c) : Inside V a c := ⟨k.os.trans h.os, k.tape.trans h.tape, k.output.trans h.output, Nat.le_trans h.size k.size, fun i hi => (k.block i hi).trans (h.block i hi)⟩
theorem mono (h : Inside V a b) (hu : ∀ k, U k → V k) : Inside U a b := ⟨h.os, h.tape, h.output, h.size, fun k hk => h.block k (hu k hk)⟩
theorem cell (h : Inside V a b) {p : Addr} {v : Value} (hp : V p.block) (hc : a.cell? p = some v) : b.cell? p = some v := by
  rw [World.cell?_of_block (w := a) (h.block p.block hp)]; exact hc
theorem of_below (h : Below a.heap.size a b) (hv : ∀ k, V k → k < a.heap.size) : Inside V a b := ⟨h.os, h.tape, h.output, h.size, fun k hk => h.block k (hv k hk)⟩
theorem putObj {r : Nat} (hr : ¬ V r) (o : Obj) : Inside V a (a.putObj r o) := ⟨rfl, rfl, rfl, by simp, fun k hk => World.putObj_heap_other (fun e => hr (by rw [← e]; exact hk))⟩
end Inside

/-- A row that a call owns is so wherever its block is as it was. -/
theorem owns_at {w w' : World} {base e size n cap g : Nat} {xs : List Value} (h : w.ownsRow base e size (.slice (some ⟨g, 0, none⟩) n cap) n xs) (hb : w'.heap[g]? = w.heap[g]?) : w'.ownsRow base e size (.slice (some ⟨g, 0, none⟩) n cap) n xs := by
  obtain ⟨h1, (⟨he, _⟩ | ⟨g', cap', cur, hv, hbase, hh, hr⟩)⟩ := h
  · cases he
  · cases hv
    exact ⟨h1, .inr ⟨g, cap, cur, rfl, hbase, hb.trans hh, hr⟩⟩
theorem owns_obj {w : World} {base e size n cap g : Nat} {xs : List Value} (h : w.ownsRow base e size (.slice (some ⟨g, 0, none⟩) n cap) n xs) : ∃ cur, w.heap[g]? = some (.cells cur e (0, 0)) := by
  obtain ⟨h1, (⟨he, _⟩ | ⟨g', cap', cur, hv, hbase, hh, hr⟩)⟩ := h
  · cases he
  · cases hv
    exact ⟨cur, hh⟩
/-- What lies ahead of the last one. -/
theorem owns_front {w : World} {base e n cap g : Nat} {xs : List Value} {x : Value} (h : w.ownsRow base e 1 (.slice (some ⟨g, 0, none⟩) (n + 1) cap) (n + 1) (xs ++ [x])) (hx : xs.length = n) : w.ownsRow base e 1 (.slice (some ⟨g, 0, none⟩) n cap) n xs := by
  obtain ⟨h1, (⟨he, _⟩ | ⟨g', cap', cur, hv, hbase, hh, h2, h3, h4, h5⟩)⟩ := h
  · cases he
  · cases hv
    refine ⟨by omega, .inr ⟨g, cap, cur, rfl, hbase, hh, by omega, h3, h4, ?_⟩⟩
    have h6 := congrArg (List.take n) h5
    rw [List.take_take, List.take_left' hx, show min n ((n + 1) * 1) = n * 1 from by omega] at h6
    exact h6
/-- And ahead of what has been appended in place. -/
theorem owns_room {w w' : World} {base e n cap g : Nat} {xs : List Value} {x : Value} {v : Value} (h : w.ownsRow base e 1 (.slice (some ⟨g, 0, none⟩) n cap) n xs) (hn : xs.length = n)
    {g' cap' : Nat} (h' : w'.ownsRow base e 1 (.slice (some ⟨g', 0, none⟩) (n + 1) cap') (n + 1) (xs ++ [x])) (hs : w.heap.size ≤ w'.heap.size) (hk : g' ≠ g → w'.heap[g]? = w.heap[g]?) (hcap : g' = g → cap' = cap) :
    w'.ownsRow base e 1 (.slice (some ⟨g, 0, none⟩) n cap) n xs := by
  by_cases he : g' = g
  · obtain rfl := hcap he
    subst he
    exact owns_front h' hn
  · exact owns_at h (hk he)

/-- What a caller says between two rounds: it speaks of the blocks V alone. -/
structure Caller (J : (Nat → Prop) → List (List Int) → World → Prop) : Prop where
  lies : ∀ V pre W, J V pre W → ∀ k, V k → k < W.heap.size
  steady : ∀ V pre A B, J V pre A → Inside V A B → J V pre B

/-- The list D as cells. -/
def cellsD (D : List Int) : List Value := cellsL D.length (nth D)

/-- What a round promises: handed a list of its own that comes next, it turns V alone. -/
def Yields (P : Program) (tI s l : Nat) (J Jx : (Nat → Prop) → List (List Int) → World → Prop) (LL : List (List Int)) : Prop :=
  ∀ V pre D g cap W1, J V pre W1 → (pre ++ [D]) <+: LL → W1.ownsRow s tI 1 (.slice (some ⟨g, 0, none⟩) D.length cap) D.length (cellsD D) → ¬ V g →
    YieldAt Fence.wide 9 P l #[.slice (some ⟨g, 0, none⟩) D.length cap] W1 fun e W2 => Outside V W1 W2 ∧ ∃ V', (∀ k, V' k → V k ∨ k = g ∨ W1.heap.size ≤ k) ∧
      (e = .returned (.bool true) ∧ J V' (pre ++ [D]) W2 ∨ e = .returned (.bool false) ∧ Jx V' (pre ++ [D]) W2)

/-- What an iterator promises: the lists LL, one behind the other, each in a new block; it reads the blocks R. -/
def SeqL (P : Program) (tI gf : Nat) (lb : Array Value) (R : Nat → Prop) (LL : List (List Int)) (w : World) : Prop :=
  ∀ l V J Jx W, Inside R w W → (∀ k, R k → ¬ V k) → Caller J → Caller Jx → Yields P tI W.heap.size l J Jx LL → J V [] W →
    CallsIn Fence.wide 9 P gf (#[.func (.yield l) #[] #[]] ++ lb) W fun e W' => (∃ v, e = .returned v) ∧ ((∃ V', J V' LL W') ∨ ∃ V' pre, pre <+: LL ∧ Jx V' pre W')

/-- How a round's body may be left. -/
def seqPost (I : (Nat → Prop) → List (List Int) → World → Prop) (Ix : Code → (Nat → Prop) → List (List Int) → World → Prop) (xs : List (List Int)) (V : Nat → Prop) (g : Nat) (W : World) : Exit → Act → World → Prop
  | .normal, _, W' => Outside V W W' ∧ ∃ V', (∀ k, V' k → V k ∨ k = g ∨ W.heap.size ≤ k) ∧ I V' xs W'
  | .ret, _, W' => Outside V W W' ∧ ∃ V', (∀ k, V' k → V k ∨ k = g ∨ W.heap.size ≤ k) ∧ Ix .ret V' xs W'
  | .exit id, _, W' => Outside V W W' ∧ ∃ V', (∀ k, V' k → V k ∨ k = g ∨ W.heap.size ≤ k) ∧ Ix (.exit id) V' xs W'
  | .goto t, _, W' => False
  | .panic _, _, _ => False
  | .outgrown, _, _ => False

variable {P : Program}

theorem wide_fn (f : FuncId) : Fence.wide.fn f = True := rfl
theorem wide_round_fn (l : Nat) (f : FuncId) : (Fence.wide.inRound l).fn f = True := rfl
theorem wide_none (f : FuncId) : (none = some f → True) = True := by simp

theorem roundIn_wide {n m l f : Nat} {tmps : Array Value} {assign body : Code} {w : World} {R : Ending → World → Prop} (h : RoundIn Fence.wide n P l f tmps assign body w R) : RoundIn Fence.wide m P l f tmps assign body w R :=
  ⟨h.1, fun c cs hr => h.2 c cs (room_wide _)⟩

/-- **The statement.** -/
theorem wp_seq {g : Operand} {ps : Array Tmp} {assign body : Code} {Q : Exit → Act → World → Prop} {a : Act} {w : World} {tI gf : Nat} {lb : Array Value}
    (hg : a.eval g = .func (.func gf) #[] lb) (eg : ∀ args w, (callFunc gf args).run P w = .ok (.enter gf args) w) (hps : ps.size = 1)
    {R : Nat → Prop} {LL : List (List Int)} (hseq : SeqL P tI gf lb R LL w) (V0 : Nat → Prop) (hR : ∀ k, R k → ¬ V0 k ∧ k < w.heap.size)
    (I : (Nat → Prop) → List (List Int) → World → Prop) (Ix : Code → (Nat → Prop) → List (List Int) → World → Prop) (hI : Caller I) (hIx : ∀ c, Caller (Ix c)) (h0 : I V0 [] w)
    (Ax : Value → Act → World → Prop) (hAx : ∀ v a' W l r o, Ax v a' W → W.heap[l]? = some (.loop r) → Ax v a' (W.putObj l o))
    (hassign : ∀ l v W K, (∀ a' W', Outside (fun _ => False) W W' → Ax v a' W' → K a' W') →
      assign.wpIn (Fence.wide.inRound l) 9 P (Exit.then K (fun _ _ _ => False)) { tmps := (ps.zip #[v]).foldl (fun t (p, v) => t.setIfInBounds p v) a.tmps, defers := [] } W)
    (hbody : ∀ l V pre D gb cap a' W, I V pre W → (pre ++ [D]) <+: LL → W.ownsRow w.heap.size tI 1 (.slice (some ⟨gb, 0, none⟩) D.length cap) D.length (cellsD D) → ¬ V gb → (∀ k, V k → V0 k ∨ w.heap.size ≤ k) →
      Ax (.slice (some ⟨gb, 0, none⟩) D.length cap) a' W → body.wpIn (Fence.wide.inRound l) 9 P (seqPost I Ix (pre ++ [D]) V gb W) a' W)
    (hdone : ∀ D V W, w.heap.size ≤ D → (∀ k, V k → V0 k ∨ w.heap.size ≤ k) → ¬ V D → I V LL W → W.heap[D]? = some (.deferred (some [])) →
      Q .normal { a with defers := { target := .collected D, args := #[] } :: a.defers } W)
    (hstop : ∀ D c V pre W, w.heap.size ≤ D → (∀ k, V k → V0 k ∨ w.heap.size ≤ k) → ¬ V D → pre <+: LL → Ix c V pre W → W.heap[D]? = some (.deferred (some [])) →
      c.wpIn Fence.wide 9 P Q { a with defers := { target := .collected D, args := #[] } :: a.defers } W) :
    (Code.rangeFunc g ps assign body).wpIn Fence.wide 9 P Q a w := by
  refine wpIn_rangeFunc ?_
  intro fn hfn
  obtain ⟨rec, hrec⟩ : ∃ rec : LoopState → Option Code → Loop, rec = fun st pe => { state := st, pending := pe, fn, tmps := a.tmps, params := ps, assign, body, defers := w.heap.size } := ⟨_, rfl⟩
  obtain ⟨W1, hW1⟩ : ∃ W1, (w.alloc (.deferred (some []))).alloc (.loop (rec .ready none)) = W1 := ⟨_, rfl⟩
  have hL1 : W1.heap[w.heap.size + 1]? = some (.loop (rec .ready none)) := by
    rw [← hW1]; have := World.alloc_heap_new (w.alloc (.deferred (some []))) (.loop (rec .ready none)); rwa [World.size_alloc] at this
  have hK1 : W1.heap[w.heap.size]? = some (.deferred (some [])) := by
    rw [← hW1]; exact (Below.heap_alloc _ _ _ (by simp)).trans (World.alloc_heap_new w _)
  have hb1 : Below w.heap.size w W1 := by
    rw [← hW1]; exact ((Below.refl _ w).alloc (Nat.le_refl _) _).alloc (by simp) _
  have hs1 : W1.heap.size = w.heap.size + 2 := by rw [← hW1]; simp
  have hV0 := hI.lies V0 [] w h0
  have hI1 : I V0 [] W1 := hI.steady _ _ _ _ h0 (Inside.of_below hb1 hV0)
  refine ⟨w.heap.size + 1, [{ target := .collected w.heap.size, args := #[] }], W1, { target := .fn (.func gf) lb, args := #[.func (.yield (w.heap.size + 1)) #[] #[]] }, W1, gf,
    #[.func (.yield (w.heap.size + 1)) #[] #[]] ++ lb, W1, ?_, ?_, ?_, ?_, (fun h => by simp [Fence.wide] at h), ?_⟩
  · rw [← hW1, hrec]; exact run_enterLoop_outer _ _ _ _ _
  · simp only [resolve, hg]
    simp [go_sem]
  · intro f' hf'; trivial
  · simp [invoke, go_sem, eg]
  · -- the iterator, at the caller's word with the two blocks of the loop beside it
    have hcell : ∀ {A : World} {l : Nat} {o : Obj}, A.heap[l]? = some o → l < A.heap.size := fun h => (Array.getElem?_eq_some_iff.1 h).1
    refine (callsIn_wide.2 (callsIn_wide.1 ((hseq (w.heap.size + 1) (fun k => V0 k ∨ k = w.heap.size ∨ k = w.heap.size + 1)
      (fun V pre W => ∃ V1, V = (fun k => V1 k ∨ k = w.heap.size ∨ k = w.heap.size + 1) ∧ ¬ V1 w.heap.size ∧ ¬ V1 (w.heap.size + 1) ∧ (∀ k, V1 k → V0 k ∨ w.heap.size ≤ k) ∧ I V1 pre W ∧ W.heap[w.heap.size + 1]? = some (.loop (rec .ready none)) ∧ W.heap[w.heap.size]? = some (.deferred (some [])))
      (fun V pre W => ∃ V1, V = (fun k => V1 k ∨ k = w.heap.size ∨ k = w.heap.size + 1) ∧ ¬ V1 w.heap.size ∧ ¬ V1 (w.heap.size + 1) ∧ (∀ k, V1 k → V0 k ∨ w.heap.size ≤ k) ∧ (∃ c, Ix c V1 pre W ∧ W.heap[w.heap.size + 1]? = some (.loop (rec .done (some c)))) ∧ W.heap[w.heap.size]? = some (.deferred (some [])))
      W1 (Inside.of_below hb1 (fun k hk => (hR k hk).2)) (fun k hk h => by have := hR k hk; rcases h with h | h | h; exact this.1 h; omega; omega) ?_ ?_ ?_ ?_)))).mono ?_
    · constructor
      · rintro V pre W ⟨V1, rfl, h1, h2, h3, h4, h5, h6⟩ k (hk | rfl | rfl)
        · exact hI.lies _ _ _ h4 k hk
        · exact hcell h6
        · exact hcell h5
      · rintro V pre A B ⟨V1, rfl, h1, h2, h3, h4, h5, h6⟩ hin
        exact ⟨V1, rfl, h1, h2, h3, hI.steady _ _ _ _ h4 (hin.mono fun k hk => .inl hk), (hin.block _ (.inr (.inr rfl))).trans h5, (hin.block _ (.inr (.inl rfl))).trans h6⟩
    · constructor
      · rintro V pre W ⟨V1, rfl, h1, h2, h3, ⟨c, h4, h5⟩, h6⟩ k (hk | rfl | rfl)
        · exact (hIx c).lies _ _ _ h4 k hk
        · exact hcell h6
        · exact hcell h5
      · rintro V pre A B ⟨V1, rfl, h1, h2, h3, ⟨c, h4, h5⟩, h6⟩ hin
        exact ⟨V1, rfl, h1, h2, h3, ⟨c, (hIx c).steady _ _ _ _ h4 (hin.mono fun k hk => .inl hk), (hin.block _ (.inr (.inr rfl))).trans h5⟩, (hin.block _ (.inr (.inl rfl))).trans h6⟩
    · -- one round
      rintro V pre D gb cap W ⟨V1, rfl, h1, h2, h3, hi, hl, hk⟩ hpre hown hgb
      have hgb1 : ¬ V1 gb := fun h => hgb (.inl h)
      have hgl : gb ≠ w.heap.size + 1 := fun h => hgb (.inr (.inr h))
      have hgd : gb ≠ w.heap.size := fun h => hgb (.inr (.inl h))
      have hlW := hcell hl
      have hy := run_yield (P := P) (args := #[.slice (some ⟨gb, 0, none⟩) D.length cap]) hl (by rw [hrec]; simp [hps])
      rw [hrec] at hy
      refine ⟨fn, _, assign, body, hy, roundIn_of_wpIn hfn (hassign _ _ W _ ?_)⟩
      intro a' Wa hout hax
      have hla : Wa.heap[w.heap.size + 1]? = some (.loop (rec .ready none)) := (hout.block _ hlW (fun h => h)).trans hl
      have hka : Wa.heap[w.heap.size]? = some (.deferred (some [])) := (hout.block _ (hcell hk) (fun h => h)).trans hk
      obtain ⟨W2, hW2⟩ : ∃ W2, Wa.putObj (w.heap.size + 1) (.loop { rec .ready none with state := .busy }) = W2 := ⟨_, rfl⟩
      have hl2 : W2.heap[w.heap.size + 1]? = some (.loop { rec .ready none with state := .busy }) := by rw [← hW2]; exact World.putObj_heap_same (hcell hla)
      have ho2 : ∀ k, k ≠ w.heap.size + 1 → W2.heap[k]? = Wa.heap[k]? := fun k h => by rw [← hW2]; exact World.putObj_heap_other h
      have hs2 : W2.heap.size = Wa.heap.size := by rw [← hW2]; simp
      have hk2 := (ho2 _ (by omega)).trans hka
      have hin2 : Inside V1 W W2 := (hout.inside (hI.lies _ _ _ hi) (fun _ _ h => h)).trans (by rw [← hW2]; exact Inside.putObj h2 _)
      have hi2 := hI.steady _ _ _ _ hi hin2
      have hown2 : W2.ownsRow w.heap.size tI 1 (.slice (some ⟨gb, 0, none⟩) D.length cap) D.length (cellsD D) :=
        owns_base (owns_at hown ((ho2 gb hgl).trans (hout.block gb (owns_cap hown).2.2 (fun h => h)))) (by omega)
      refine ⟨W2, by have := run_beginRound (P := P) hla (by rw [hrec]); rw [hrec] at this; rw [← hW2, hrec]; exact this, ?_⟩
      refine wpIn_mono (hbody (w.heap.size + 1) V1 pre D gb cap a' W2 hi2 hpre hown2 hgb1 h3 (by rw [← hW2]; exact hAx _ _ _ _ _ _ hax hla)) ?_
      have hgs := (owns_cap hown).2.1
      rw [hs1] at hgs
      have fin : ∀ (jump : Option Code) (W3 : World) (V' : Nat → Prop) (Jz : World → Prop), Outside V1 W2 W3 → (∀ k, V' k → V1 k ∨ k = gb ∨ W2.heap.size ≤ k) → (∀ A B, Jz A → Inside V' A B → Jz B) → Jz W3 →
          ∃ W4, (Instr.endRound (w.heap.size + 1) jump).run P W3 = .ok (.bool jump.isNone) W4 ∧ Outside (fun k => V1 k ∨ k = w.heap.size ∨ k = w.heap.size + 1) W W4 ∧ ¬ V' w.heap.size ∧ ¬ V' (w.heap.size + 1) ∧ (∀ k, V' k → V0 k ∨ w.heap.size ≤ k) ∧ (∀ k, V' k → V1 k ∨ k = gb ∨ W.heap.size ≤ k) ∧ Jz W4 ∧
            W4.heap[w.heap.size + 1]? = some (.loop (rec (if jump.isNone then .ready else .done) jump)) ∧ W4.heap[w.heap.size]? = some (.deferred (some [])) := by
        intro jump W3 V' Jz hout3 hV' hst hz
        have hl3 := (hout3.block _ (hcell hl2) h2).trans hl2
        have hk3 := (hout3.block _ (hcell hk2) h1).trans hk2
        have hr := run_endRound (P := P) jump hl3
        rw [hrec] at hr
        have e1 := hcell hl2
        have e2 := hcell hk2
        have e3 := hout.size
        have d1 : ¬ V' w.heap.size := fun h => by rcases hV' _ h with h | h | h; exact h1 h; omega; omega
        have d2 : ¬ V' (w.heap.size + 1) := fun h => by rcases hV' _ h with h | h | h; exact h2 h; omega; omega
        refine ⟨_, hr, ?_, d1, d2, ?_, ?_, hst _ _ hz (Inside.putObj d2 _), ?_, ?_⟩
        · have o1 : Outside (fun k => V1 k ∨ k = w.heap.size ∨ k = w.heap.size + 1) W Wa := hout.mono (fun k _ h => h.elim)
          have o2 : Outside (fun k => V1 k ∨ k = w.heap.size ∨ k = w.heap.size + 1) Wa W2 := by rw [← hW2]; exact Outside.putObj _ (.inr (.inr rfl)) _
          have o3 : Outside (fun k => V1 k ∨ k = w.heap.size ∨ k = w.heap.size + 1) W2 W3 := hout3.mono (fun k _ h => .inl h)
          exact ((o1.trans' o2 (fun _ _ h => h)).trans' o3 (fun _ _ h => h)).trans' (Outside.putObj _ (.inr (.inr rfl)) _) (fun _ _ h => h)
        · intro k hk'
          rcases hV' k hk' with h | h | h
          · exact h3 k h
          · right; omega
          · right; omega
        · intro k hk'
          rcases hV' k hk' with h | h | h
          · exact .inl h
          · exact .inr (.inl h)
          · right; right; omega
        · rw [hrec]; exact World.putObj_heap_same (hcell hl3)
        · exact (World.putObj_heap_other (by omega)).trans hk3
      have hV2 : ∀ V' : Nat → Prop, (∀ k, V' k → V1 k ∨ k = gb ∨ W.heap.size ≤ k) → ∀ k, (V' k ∨ k = w.heap.size ∨ k = w.heap.size + 1) → (V1 k ∨ k = w.heap.size ∨ k = w.heap.size + 1) ∨ k = gb ∨ W.heap.size ≤ k := by
        intro V' h k hk'
        rcases hk' with hk' | hk' | hk'
        · rcases h k hk' with h | h | h
          · exact .inl (.inl h)
          · exact .inr (.inl h)
          · exact .inr (.inr h)
        · exact .inl (.inr (.inl hk'))
        · exact .inl (.inr (.inr hk'))
      rintro e a3 W3 hp
      cases e with
      | normal =>
        obtain ⟨ho3, V', hV', hi3⟩ := hp
        obtain ⟨W4, hr, q1, q2, q3, q4, q5, q6, q7, q8⟩ := fin none W3 V' (fun W => I V' (pre ++ [D]) W) ho3 hV' (fun A B => hI.steady _ _ A B) hi3
        exact ⟨_, W4, hr, q1, (fun k => V' k ∨ k = w.heap.size ∨ k = w.heap.size + 1), hV2 V' q5, .inl ⟨rfl, V', rfl, q2, q3, q4, q6, q7, q8⟩⟩
      | ret =>
        obtain ⟨ho3, V', hV', hi3⟩ := hp
        obtain ⟨W4, hr, q1, q2, q3, q4, q5, q6, q7, q8⟩ := fin (some .ret) W3 V' (fun W => Ix .ret V' (pre ++ [D]) W) ho3 hV' (fun A B => (hIx .ret).steady _ _ A B) hi3
        exact ⟨_, W4, hr, q1, (fun k => V' k ∨ k = w.heap.size ∨ k = w.heap.size + 1), hV2 V' q5, .inr ⟨rfl, V', rfl, q2, q3, q4, ⟨.ret, q6, q7⟩, q8⟩⟩
      | exit id =>
        obtain ⟨ho3, V', hV', hi3⟩ := hp
        obtain ⟨W4, hr, q1, q2, q3, q4, q5, q6, q7, q8⟩ := fin (some (.exit id)) W3 V' (fun W => Ix (.exit id) V' (pre ++ [D]) W) ho3 hV' (fun A B => (hIx (.exit id)).steady _ _ A B) hi3
        exact ⟨_, W4, hr, q1, (fun k => V' k ∨ k = w.heap.size ∨ k = w.heap.size + 1), hV2 V' q5, .inr ⟨rfl, V', rfl, q2, q3, q4, ⟨.exit id, q6, q7⟩, q8⟩⟩
      | goto t => exact hp.elim
      | panic ch => exact hp.elim
      | outgrown => exact hp.elim
    · exact ⟨V0, rfl, fun h => by have := hV0 _ h; omega, fun h => by have := hV0 _ h; omega, fun k h => .inl h, hI1, hL1, hK1⟩
    · -- behind the iterator
      rintro e W2 ⟨⟨v, rfl⟩, (⟨V', V1, rfl, h1, h2, h3, hi, hl, hk⟩ | ⟨V', pre, hpre, V1, rfl, h1, h2, h3, ⟨c, hi, hl⟩, hk⟩)⟩
      · exact ⟨none, _, by have := run_endLoop (P := P) hl (by rw [hrec]; simp); rw [hrec] at this; exact this, hdone _ V1 _ (Nat.le_refl _) h3 h1 (hI.steady _ _ _ _ hi (Inside.putObj h2 _)) ((World.putObj_heap_other (by omega)).trans hk)⟩
      · exact ⟨some c, _, by have := run_endLoop (P := P) hl (by rw [hrec]; simp); rw [hrec] at this; exact this, hstop _ c V1 pre _ (Nat.le_refl _) h3 h1 hpre ((hIx c).steady _ _ _ _ hi (Inside.putObj h2 _)) ((World.putObj_heap_other (by omega)).trans hk)⟩
end Go.Proofs.Ytakipaehoeapcaa
