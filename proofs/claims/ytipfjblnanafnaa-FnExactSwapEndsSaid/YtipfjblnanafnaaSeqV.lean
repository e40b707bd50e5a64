/- A range over a function that yields plain values (numbers, structs): what an iterator promises, and the statement's law. -/
import Derived.Test.YtipfjblnanafnaaSeq
namespace Go.Proofs.Ytipfjblnanafnaa
set_option linter.unusedVariables false
set_option linter.unusedSimpArgs false
open Go.RowKit

/-- What a caller says between two rounds: it speaks of the blocks V, which its rounds may write, and of the blocks O, which nobody writes. -/
structure CallerV {α : Type} (O : Nat → Prop) (J : (Nat → Prop) → List α → World → Prop) : Prop where
  lies : ∀ V pre W, J V pre W → ∀ k, V k → k < W.heap.size
  steady : ∀ V pre A B, J V pre A → Inside (fun k => V k ∨ O k) A B → J V pre B

/-- What a round promises: handed a list of its own that comes next, it turns V alone. -/
def YieldsV {α : Type} (P : Program) (av : α → Array Value) (l : Nat) (J Jx : (Nat → Prop) → List α → World → Prop) (LL : List α) : Prop :=
  ∀ V pre D W1, J V pre W1 → (pre ++ [D]) <+: LL →
    YieldAt Fence.wide 9 P l (av D) W1 fun e W2 => Outside V W1 W2 ∧ ∃ V', (∀ k, V' k → V k ∨ W1.heap.size ≤ k) ∧
      (e = .returned (.bool true) ∧ J V' (pre ++ [D]) W2 ∨ e = .returned (.bool false) ∧ Jx V' (pre ++ [D]) W2)

/-- What an iterator promises: the lists LL, one behind the other, each in a new block; it reads the blocks R. -/
def SeqV {α : Type} (P : Program) (av : α → Array Value) (gf : Nat) (lb : Array Value) (R : Nat → Prop) (LL : List α) (w : World) : Prop :=
  ∀ l O V J Jx W, Inside R w W → (∀ k, R k → ¬ V k) → (∀ k, O k → k < W.heap.size) → CallerV O J → CallerV O Jx → YieldsV P av l J Jx LL → J V [] W →
    CallsIn Fence.wide 9 P gf (#[.func (.yield l) #[] #[]] ++ lb) W fun e W' => (∃ v, e = .returned v) ∧ ((∃ V', J V' LL W') ∨ ∃ V' pre, pre <+: LL ∧ Jx V' pre W')

/-- How a round's body may be left. -/
def seqPostV {α : Type} (I : (Nat → Prop) → List α → World → Prop) (Ix : Code → (Nat → Prop) → List α → World → Prop) (xs : List α) (V : Nat → Prop) (W : World) : Exit → Act → World → Prop
  | .normal, _, W' => Outside V W W' ∧ ∃ V', (∀ k, V' k → V k ∨ W.heap.size ≤ k) ∧ I V' xs W'
  | .ret, _, W' => Outside V W W' ∧ ∃ V', (∀ k, V' k → V k ∨ W.heap.size ≤ k) ∧ Ix .ret V' xs W'
  | .exit id, _, W' => Outside V W W' ∧ ∃ V', (∀ k, V' k → V k ∨ W.heap.size ≤ k) ∧ Ix (.exit id) V' xs W'
  | .goto t, _, W' => False
  | .panic _, _, _ => False
  | .outgrown, _, _ => False

variable {P : Program} {α : Type}

/-- **The statement.** -/
theorem wp_seqV {g : Operand} {ps : Array Tmp} {assign body : Code} {Q : Exit → Act → World → Prop} {a : Act} {w : World} {av : α → Array Value} {gf : Nat} {lb : Array Value}
    (hg : a.eval g = .func (.func gf) #[] lb) (eg : ∀ args w, (callFunc gf args).run P w = .ok (.enter gf args) w) (hps : ∀ D, (av D).size = ps.size)
    {R : Nat → Prop} {LL : List α} (hseq : SeqV P av gf lb R LL w) (V0 : Nat → Prop) (hR : ∀ k, R k → ¬ V0 k ∧ k < w.heap.size)
    (I : (Nat → Prop) → List α → World → Prop) (Ix : Code → (Nat → Prop) → List α → World → Prop) (O : Nat → Prop) (hO : ∀ k, O k → k < w.heap.size) (hI : CallerV O I) (hIx : ∀ c, CallerV O (Ix c)) (h0 : I V0 [] w)
    (Ax : α → Act → World → Prop) (hAx : ∀ v a' W l r o, Ax v a' W → W.heap[l]? = some (.loop r) → Ax v a' (W.putObj l o))
    (hassign : ∀ l v W K, (∀ a' W', Outside (fun _ => False) W W' → Ax v a' W' → K a' W') →
      assign.wpIn (Fence.wide.inRound l) 9 P (Exit.then K (fun _ _ _ => False)) { tmps := (ps.zip (av v)).foldl (fun t (p, v) => t.setIfInBounds p v) a.tmps, defers := [] } W)
    (hbody : ∀ l V pre D a' W, I V pre W → (pre ++ [D]) <+: LL → (∀ k, V k → V0 k ∨ w.heap.size ≤ k) →
      Ax D a' W → body.wpIn (Fence.wide.inRound l) 9 P (seqPostV I Ix (pre ++ [D]) V W) a' W)
    (hdone : ∀ D V W, w.heap.size ≤ D → (∀ k, V k → V0 k ∨ w.heap.size ≤ k) → ¬ V D → I V LL W → W.heap[D]? = some (.deferred (some [])) →
      Q .normal { a with defers := { target := .collected D, args := #[] } :: a.defers } W)
    (hstop : ∀ D c V pre W, w.heap.size ≤ D → (∀ k, V k → V0 k ∨ w.heap.size ≤ k) → ¬ V D → pre <+: LL → Ix c V pre W → W.heap[D]? = some (.deferred (some [])) →
      c.wpIn Fence.wide 9 P Q { a with defers := { target := .collected D, args := #[] } :: a.defers } W) :
    (Code.rangeFunc g ps assign body).wpIn Fence.wide 9 P Q a w := by
  refine wpIn_rangeFunc ?_
  intro fn hfn
  obtain ⟨rec, hrec⟩ : ∃ rec : LoopState → Option Code → Loop, rec = fun st pe => { state := st, pending := pe, fn, tmps := a.tmps, params := ps, assign, body, defers := w.heap.size } := ⟨_, rfl⟩
  obtain ⟨W1, hW1⟩ : ∃ W1, (w.alloc (.deferred (some []))).alloc (.loop (rec .ready none)) = W1 := ⟨_, rfl⟩
  have hL1 : W1.heap[w.heap.size + 1]? = some (.loop (rec .ready none)) := by
    rw [← hW1]; have := World.alloc_heap_new (w.alloc (.deferred (some []))) (.loop (rec .ready none)); rwa [World.size_alloc] at this
  have hK1 : W1.heap[w.heap.size]? = some (.deferred (some [])) := by
    rw [← hW1]; exact (Below.heap_alloc _ _ _ (by simp)).trans (World.alloc_heap_new w _)
  have hb1 : Below w.heap.size w W1 := by
    rw [← hW1]; exact ((Below.refl _ w).alloc (Nat.le_refl _) _).alloc (by simp) _
  have hs1 : W1.heap.size = w.heap.size + 2 := by rw [← hW1]; simp
  have hV0 := hI.lies V0 [] w h0
  have hI1 : I V0 [] W1 := hI.steady _ _ _ _ h0 (Inside.of_below hb1 (fun k h => h.elim (hV0 k) (hO k)))
  refine ⟨w.heap.size + 1, [{ target := .collected w.heap.size, args := #[] }], W1, { target := .fn (.func gf) lb, args := #[.func (.yield (w.heap.size + 1)) #[] #[]] }, W1, gf,
    #[.func (.yield (w.heap.size + 1)) #[] #[]] ++ lb, W1, ?_, ?_, ?_, ?_, (fun h => by simp [Fence.wide] at h), ?_⟩
  · rw [← hW1, hrec]; exact run_enterLoop_outer _ _ _ _ _
  · simp only [resolve, hg]
    simp [go_sem]
  · intro f' hf'; trivial
  · simp [invoke, go_sem, eg]
  · -- the iterator, at the caller's word with the two blocks of the loop beside it
    have hcell : ∀ {A : World} {l : Nat} {o : Obj}, A.heap[l]? = some o → l < A.heap.size := fun h => (Array.getElem?_eq_some_iff.1 h).1
    refine (callsIn_wide.2 (callsIn_wide.1 ((hseq (w.heap.size + 1) O (fun k => V0 k ∨ k = w.heap.size ∨ k = w.heap.size + 1)
      (fun V pre W => ∃ V1, V = (fun k => V1 k ∨ k = w.heap.size ∨ k = w.heap.size + 1) ∧ ¬ V1 w.heap.size ∧ ¬ V1 (w.heap.size + 1) ∧ (∀ k, V1 k → V0 k ∨ w.heap.size ≤ k) ∧ I V1 pre W ∧ W.heap[w.heap.size + 1]? = some (.loop (rec .ready none)) ∧ W.heap[w.heap.size]? = some (.deferred (some [])))
      (fun V pre W => ∃ V1, V = (fun k => V1 k ∨ k = w.heap.size ∨ k = w.heap.size + 1) ∧ ¬ V1 w.heap.size ∧ ¬ V1 (w.heap.size + 1) ∧ (∀ k, V1 k → V0 k ∨ w.heap.size ≤ k) ∧ (∃ c, Ix c V1 pre W ∧ W.heap[w.heap.size + 1]? = some (.loop (rec .done (some c)))) ∧ W.heap[w.heap.size]? = some (.deferred (some [])))
      W1 (Inside.of_below hb1 (fun k hk => (hR k hk).2)) (fun k hk h => by have := hR k hk; rcases h with h | h | h; exact this.1 h; omega; omega) (fun k hk => by have := hO k hk; omega) ?_ ?_ ?_ ?_)))).mono ?_
    · constructor
      · rintro V pre W ⟨V1, rfl, h1, h2, h3, h4, h5, h6⟩ k (hk | rfl | rfl)
        · exact hI.lies _ _ _ h4 k hk
        · exact hcell h6
        · exact hcell h5
      · rintro V pre A B ⟨V1, rfl, h1, h2, h3, h4, h5, h6⟩ hin
        exact ⟨V1, rfl, h1, h2, h3, hI.steady _ _ _ _ h4 (hin.mono fun k hk => hk.imp .inl id), (hin.block _ (.inl (.inr (.inr rfl)))).trans h5, (hin.block _ (.inl (.inr (.inl rfl)))).trans h6⟩
    · constructor
      · rintro V pre W ⟨V1, rfl, h1, h2, h3, ⟨c, h4, h5⟩, h6⟩ k (hk | rfl | rfl)
        · exact (hIx c).lies _ _ _ h4 k hk
        · exact hcell h6
        · exact hcell h5
      · rintro V pre A B ⟨V1, rfl, h1, h2, h3, ⟨c, h4, h5⟩, h6⟩ hin
        exact ⟨V1, rfl, h1, h2, h3, ⟨c, (hIx c).steady _ _ _ _ h4 (hin.mono fun k hk => hk.imp .inl id), (hin.block _ (.inl (.inr (.inr rfl)))).trans h5⟩, (hin.block _ (.inl (.inr (.inl rfl)))).trans h6⟩
    · -- one round
      rintro V pre D W ⟨V1, rfl, h1, h2, h3, hi, hl, hk⟩ hpre
      have hlW := hcell hl
      have hy := run_yield (P := P) (args := av D) hl (by rw [hrec]; simp [hps])
      rw [hrec] at hy
      refine ⟨fn, _, assign, body, hy, roundIn_of_wpIn hfn (hassign _ _ W _ ?_)⟩
      intro a' Wa hout hax
      have hla : Wa.heap[w.heap.size + 1]? = some (.loop (rec .ready none)) := (hout.block _ hlW (fun h => h)).trans hl
      have hka : Wa.heap[w.heap.size]? = some (.deferred (some [])) := (hout.block _ (hcell hk) (fun h => h)).trans hk
      obtain ⟨W2, hW2⟩ : ∃ W2, Wa.putObj (w.heap.size + 1) (.loop { rec .ready none with state := .busy }) = W2 := ⟨_, rfl⟩
      have hl2 : W2.heap[w.heap.size + 1]? = some (.loop { rec .ready none with state := .busy }) := by rw [← hW2]; exact World.putObj_heap_same (hcell hla)
      have ho2 : ∀ k, k ≠ w.heap.size + 1 → W2.heap[k]? = Wa.heap[k]? := fun k h => by rw [← hW2]; exact World.putObj_heap_other h
      have hs2 : W2.heap.size = Wa.heap.size := by rw [← hW2]; simp
      have hk2 := (ho2 _ (by omega)).trans hka
      have hgw : w.heap.size + 2 ≤ W.heap.size := by omega
      have hnO : ¬ O (w.heap.size + 1) := fun h => by have := hO _ h; omega
      have hin2 : Inside (fun k => V1 k ∨ O k) W W2 := (hout.inside (fun k h => h.elim (hI.lies _ _ _ hi k) (fun h => by have := hO k h; omega)) (fun _ _ h => h)).trans (by rw [← hW2]; exact Inside.putObj (fun h => h.elim h2 hnO) _)
      have hi2 := hI.steady _ _ _ _ hi hin2
      refine ⟨W2, by have := run_beginRound (P := P) hla (by rw [hrec]); rw [hrec] at this; rw [← hW2, hrec]; exact this, ?_⟩
      refine wpIn_mono (hbody (w.heap.size + 1) V1 pre D a' W2 hi2 hpre h3 (by rw [← hW2]; exact hAx _ _ _ _ _ _ hax hla)) ?_
      have fin : ∀ (jump : Option Code) (W3 : World) (V' : Nat → Prop) (Jz : World → Prop), Outside V1 W2 W3 → (∀ k, V' k → V1 k ∨ W2.heap.size ≤ k) → (∀ A B, Jz A → Inside (fun k => V' k ∨ O k) A B → Jz B) → Jz W3 →
          ∃ W4, (Instr.endRound (w.heap.size + 1) jump).run P W3 = .ok (.bool jump.isNone) W4 ∧ Outside (fun k => V1 k ∨ k = w.heap.size ∨ k = w.heap.size + 1) W W4 ∧ ¬ V' w.heap.size ∧ ¬ V' (w.heap.size + 1) ∧ (∀ k, V' k → V0 k ∨ w.heap.size ≤ k) ∧ (∀ k, V' k → V1 k ∨ W.heap.size ≤ k) ∧ Jz W4 ∧
            W4.heap[w.heap.size + 1]? = some (.loop (rec (if jump.isNone then .ready else .done) jump)) ∧ W4.heap[w.heap.size]? = some (.deferred (some [])) := by
        intro jump W3 V' Jz hout3 hV' hst hz
        have hl3 := (hout3.block _ (hcell hl2) h2).trans hl2
        have hk3 := (hout3.block _ (hcell hk2) h1).trans hk2
        have hr := run_endRound (P := P) jump hl3
        rw [hrec] at hr
        have e1 := hcell hl2
        have e2 := hcell hk2
        have e3 := hout.size
        have d1 : ¬ V' w.heap.size := fun h => by rcases hV' _ h with h | h; exact h1 h; omega
        have d2 : ¬ V' (w.heap.size + 1) := fun h => by rcases hV' _ h with h | h; exact h2 h; omega
        refine ⟨_, hr, ?_, d1, d2, ?_, ?_, hst _ _ hz (Inside.putObj (fun h => h.elim d2 hnO) _), ?_, ?_⟩
        · have o1 : Outside (fun k => V1 k ∨ k = w.heap.size ∨ k = w.heap.size + 1) W Wa := hout.mono (fun k _ h => h.elim)
          have o2 : Outside (fun k => V1 k ∨ k = w.heap.size ∨ k = w.heap.size + 1) Wa W2 := by rw [← hW2]; exact Outside.putObj _ (.inr (.inr rfl)) _
          have o3 : Outside (fun k => V1 k ∨ k = w.heap.size ∨ k = w.heap.size + 1) W2 W3 := hout3.mono (fun k _ h => .inl h)
          exact ((o1.trans' o2 (fun _ _ h => h)).trans' o3 (fun _ _ h => h)).trans' (Outside.putObj _ (.inr (.inr rfl)) _) (fun _ _ h => h)
        · intro k hk'
          rcases hV' k hk' with h | h
          · exact h3 k h
          · right; omega
        · intro k hk'
          rcases hV' k hk' with h | h
          · exact .inl h
          · right; omega
        · rw [hrec]; exact World.putObj_heap_same (hcell hl3)
        · exact (World.putObj_heap_other (by omega)).trans hk3
      have hV2 : ∀ V' : Nat → Prop, (∀ k, V' k → V1 k ∨ W.heap.size ≤ k) → ∀ k, (V' k ∨ k = w.heap.size ∨ k = w.heap.size + 1) → (V1 k ∨ k = w.heap.size ∨ k = w.heap.size + 1) ∨ W.heap.size ≤ k := by
        intro V' h k hk'
        rcases hk' with hk' | hk' | hk'
        · rcases h k hk' with h | h
          · exact .inl (.inl h)
          · exact .inr h
        · exact .inl (.inr (.inl hk'))
        · exact .inl (.inr (.inr hk'))
      rintro e a3 W3 hp
      cases e with
      | normal =>
        obtain ⟨ho3, V', hV', hi3⟩ := hp
        obtain ⟨W4, hr, q1, q2, q3, q4, q5, q6, q7, q8⟩ := fin none W3 V' (fun W => I V' (pre ++ [D]) W) ho3 hV' (fun A B => hI.steady _ _ A B) hi3
        exact ⟨_, W4, hr, q1, (fun k => V' k ∨ k = w.heap.size ∨ k = w.heap.size + 1), hV2 V' q5, .inl ⟨rfl, V', rfl, q2, q3, q4, q6, q7, q8⟩⟩
      | ret =>
        obtain ⟨ho3, V', hV', hi3⟩ := hp
        obtain ⟨W4, hr, q1, q2, q3, q4, q5, q6, q7, q8⟩ := fin (some .ret) W3 V' (fun W => Ix .ret V' (pre ++ [D]) W) ho3 hV' (fun A B => (hIx .ret).steady _ _ A B) hi3
        exact ⟨_, W4, hr, q1, (fun k => V' k ∨ k = w.heap.size ∨ k = w.heap.size + 1), hV2 V' q5, .inr ⟨rfl, V', rfl, q2, q3, q4, ⟨.ret, q6, q7⟩, q8⟩⟩
      | exit id =>
        obtain ⟨ho3, V', hV', hi3⟩ := hp
        obtain ⟨W4, hr, q1, q2, q3, q4, q5, q6, q7, q8⟩ := fin (some (.exit id)) W3 V' (fun W => Ix (.exit id) V' (pre ++ [D]) W) ho3 hV' (fun A B => (hIx (.exit id)).steady _ _ A B) hi3
        exact ⟨_, W4, hr, q1, (fun k => V' k ∨ k = w.heap.size ∨ k = w.heap.size + 1), hV2 V' q5, .inr ⟨rfl, V', rfl, q2, q3, q4, ⟨.exit id, q6, q7⟩, q8⟩⟩
      | goto t => exact hp.elim
      | panic ch => exact hp.elim
      | outgrown => exact hp.elim
    · exact ⟨V0, rfl, fun h => by have := hV0 _ h; omega, fun h => by have := hV0 _ h; omega, fun k h => .inl h, hI1, hL1, hK1⟩
    · -- behind the iterator
      rintro e W2 ⟨⟨v, rfl⟩, (⟨V', V1, rfl, h1, h2, h3, hi, hl, hk⟩ | ⟨V', pre, hpre, V1, rfl, h1, h2, h3, ⟨c, hi, hl⟩, hk⟩)⟩
      · exact ⟨none, _, by have := run_endLoop (P := P) hl (by rw [hrec]; simp); rw [hrec] at this; exact this, hdone _ V1 _ (Nat.le_refl _) h3 h1 (hI.steady _ _ _ _ hi (Inside.putObj (fun h => h.elim h2 (fun h => by have := hO _ h; omega)) _)) ((World.putObj_heap_other (by omega)).trans hk)⟩
      · exact ⟨some c, _, by have := run_endLoop (P := P) hl (by rw [hrec]; simp); rw [hrec] at this; exact this, hstop _ c V1 pre _ (Nat.le_refl _) h3 h1 hpre ((hIx c).steady _ _ _ _ hi (Inside.putObj (fun h => h.elim h2 (fun h => by have := hO _ h; omega)) _)) ((World.putObj_heap_other (by omega)).trans hk)⟩
end Go.Proofs.Ytipfjblnanafnaa
