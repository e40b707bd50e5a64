/- A region that draws its order, in a round too: what is quiet (it reads, or calls what makes memory) comes up in whatever order, and what waits for all of it comes up behind. -/
import Derived.Test.YtakipaehoeapcaaLater
import Derived.Test.YtakipaehoeapcaaSeq
import Derived.Sort.QuietThIn
namespace Go.Proofs.Ytakipaehoeapcaa
set_option linter.unusedVariables false
set_option linter.unusedSimpArgs false
open Go.RowKit

section
variable {F : Fence} {n : Nat} {P : Program} {ops : Array Oper} {md : Region.Mode} {C : World → Prop}

def isDefer : Op → Bool
  | .defer _ => true
  | _ => false
theorem isDefer_no {o : Op} (h : isDefer o = false) : ∀ c, o ≠ .defer c := fun c e => by rw [e] at h; cases h
def noDefer (ops : Array Oper) : Bool := ops.all fun o => !isDefer o.op
theorem noDefer_at (h : noDefer ops = true) {i : Nat} {o : Oper} (hi : ops[i]? = some o) : ∀ c, o.op ≠ .defer c := by
  unfold noDefer at h
  rw [Array.all_eq_true] at h
  obtain ⟨hlt, rfl⟩ := Array.getElem?_eq_some_iff.1 hi
  have := h i hlt
  exact isDefer_no (by simpa using this)

theorem oper_round {l : Nat} {o : Oper} {a : Act} {w : World} {K : Act → World → Prop} {Q : Exit → Act → World → Prop} (hro : F.round = none) (hd : ∀ c, o.op ≠ .defer c) (h : o.wpIn F n P a w K Q) : o.wpIn (F.inRound l) n P a w K Q := by
  unfold Oper.wpIn at *
  refine ⟨h.1, ?_⟩
  have h2 := h.2
  rw [Oper.semAt_eq _ _ _ hd] at h2 ⊢
  generalize (execOp a.eval o).run P w = r at *
  cases r with
  | ok x w' => cases x <;> exact h2
  | halt x w' => cases x <;> exact h2

theorem any_round {l : Nat} {Q : Exit → Act → World → Prop} (hro : F.round = none) (hd : noDefer ops = true) : ∀ (fuel : Nat) (listed : Array Bool) (a : Act) (w : World), wpAnyIn F n P md ops Q fuel listed a w → wpAnyIn (F.inRound l) n P md ops Q fuel listed a w
  | 0, _, _, _, h => h
  | fuel + 1, listed, a, w, h => ⟨h.1, fun i hi => by
      have h2 := wpOpIn_mono (fun a' w' h' => any_round (l := l) hro hd fuel _ a' w' h') (h.2 i hi)
      unfold wpOpIn at h2 ⊢
      split
      · simp only [*] at h2; exact h2
      · rename_i o ho
        simp only [ho] at h2
        split
        · rename_i hw; simp only [hw, if_true] at h2; exact oper_round hro (noDefer_at hd ho) h2
        · rename_i hw; simp only [hw] at h2; exact h2⟩

/-- Whatever comes up in whatever order, the tail waits. -/
def tailB (md : Region.Mode) (ops : Array Oper) (fin : Array Bool) : Nat → Array Bool → Array Bool → Bool
  | 0, listed, listed' => listed == fin
  | fuel + 1, listed, listed' => Region.ready md ops listed == Region.ready md ops listed' && !(Region.ready md ops listed).isEmpty &&
      (Region.ready md ops listed).all fun i => tailB md ops fin fuel (listed.setIfInBounds i true) (listed'.setIfInBounds i true)

theorem any_tail {Q : Act → Prop} {Q' : Exit → Act → World → Prop} {fin : Array Bool} {fuel2 : Nat} (hro : F.round = none) (hT : ∀ a w, C w → Q a → wpAnyIn F n P md ops Q' fuel2 fin a w) :
    ∀ (fuel : Nat) (listed listed' : Array Bool) (a : Act) (w : World), C w → tailB md ops fin fuel listed listed' = true → wpAnyQIn F n P md ops C Q fuel listed' a → wpAnyIn F n P md ops Q' (fuel + fuel2) listed a w
  | 0, listed, listed', a, w, hC, ht, h => by
    unfold tailB at ht
    have e : listed = fin := by simpa using ht
    subst e
    rw [Nat.zero_add]
    exact hT a w hC h.2
  | fuel + 1, listed, listed', a, w, hC, ht, h => by
    unfold tailB at ht
    simp only [Bool.and_eq_true, beq_iff_eq, Bool.not_eq_true', List.all_eq_true] at ht
    obtain ⟨⟨h1, h2⟩, h3⟩ := ht
    rw [show fuel + 1 + fuel2 = (fuel + fuel2) + 1 by omega]
    refine ⟨fun h0 => (by rw [h0] at h2; simp at h2), fun i hi => ?_⟩
    exact wpOpIn_of_qOpIn hro hC (fun a' w' hw' h' => any_tail hro hT fuel _ _ a' w' hw' (h3 i hi) h') (h.2 i (h1 ▸ hi))

theorem any_lex {Q : Act → Prop} (hs : Region.noSelect ops = true) : ∀ (l : List Oper) (k : Nat) (listed : Array Bool) (a : Act), (∀ j o, l[j]? = some o → ops[k + j]? = some o) →
    Region.lexFrom md ops l.length k listed = true → wpQuietIn F n P ops C Q l a → wpAnyQIn F n P md ops C Q l.length listed a
  | [], _, _, _, _, hB, h => ⟨by simpa [Region.lexFrom] using hB, h⟩
  | o :: l, k, listed, a, hl, hB, h => by
    have h0 : ops[k]? = some o := by simpa using hl 0 o rfl
    simp only [List.length_cons, Region.lexFrom, Bool.and_eq_true] at hB
    obtain ⟨⟨hr, hf⟩, hB'⟩ := hB
    have hst : qOpIn F n P ops C k (wpQuietIn F n P ops C Q l) a := by unfold qOpIn; simp only [h0]; exact h
    obtain ⟨v, hy, hK⟩ := yieldsQuiet_of_qOpIn h0 hst
    exact wpAnyQIn_first h0 (Region.noSelect_spec hs) l.length listed a (Region.free_spec h0 hf) (by simpa using hr) hy
      (any_lex hs l (k + 1) _ _ (fun j o' hj => by have := hl (j + 1) o' (by simpa using hj); simpa [Nat.add_assoc, Nat.add_comm 1 j] using this) hB' hK)

/-- The quiet front in the text's order; then the tail. -/
theorem region_tail (m f2 : Nat) (fin st : Array Bool) {id : Nat} {l : List Oper} {Q : Exit → Act → World → Prop} {a : Act} {w : World} (hm : P.follows .mixedOrders = true) (hro : F.round = none) (hle : l.length = m + f2) (hC : C { w with drawn := w.drawn + 1 })
    (hs : Region.noSelect l.toArray = true) (hd : noDefer l.toArray = true) (hB : Region.lexFrom .any l.toArray m 0 st = true) (hf : tailB .any l.toArray fin m (Array.replicate l.length false) st = true)
    (h : wpQuietIn F n P l.toArray C (fun a' => ∀ w', C w' → wpAnyIn F n P .any l.toArray Q f2 fin a' w') (l.take m) a) :
    (Code.region id l.toArray true).wpIn F n P Q a w ∧ ∀ k, (Code.region id l.toArray true).wpIn (F.inRound k) n P Q a w := by
  have hlen : (l.take m).length = m := by rw [List.length_take]; omega
  have h1 := any_lex (F := F) (n := n) (P := P) (C := C) (md := .any) hs (l.take m) 0 st a (fun j o hj => by
    rw [List.getElem?_take] at hj
    by_cases e : j < m
    · rw [if_pos e] at hj; simpa using hj
    · rw [if_neg e] at hj; cases hj) (by rw [hlen]; exact hB) h
  rw [hlen] at h1
  have h2 := any_tail (F := F) (n := n) (P := P) (C := C) (md := .any) (Q' := Q) (fuel2 := f2) hro (fun a' w' hw' h' => h' w' hw') m _ _ a _ hC hf h1
  rw [← hle] at h2
  exact ⟨wpIn_region_any hm (by simpa using h2), fun k => wpIn_region_any hm (any_round hro hd _ _ _ _ (by simpa using h2))⟩
end

section
variable {P : Program} {ops : Array Oper} {C : World → Prop} {Q : Act → Prop} {a : Act} {rest : List Oper} {d : Option Nat} {ot : TypeId} {pos : String} {aft : Array Edge}

/-- What is quiet is so within the wide fence. -/
theorem quietIn_of {l : List Oper} : ∀ {a : Act}, wpQuiet P ops C Q l a → wpQuietIn Fence.wide 9 P ops C Q l a := by
  induction l with
  | nil => intro a h; exact h
  | cons o rest ih =>
    intro a h
    refine ⟨fun _ _ _ _ => trivial, ?_⟩
    unfold wpQuiet at h
    split
    · rename_i hw
      rw [if_pos hw] at h
      obtain ⟨v, h1, h2⟩ := h
      refine ⟨v, fun w hw' => ?_, ih h2⟩
      have h3 := h1 w hw'
      unfold Oper.quietAt at h3
      unfold Oper.quietAtIn
      generalize (execOp a.eval o).run P w = r at *
      cases r with
      | ok x w' =>
        cases x with
        | enter f args => exact ⟨h3.1, (fun h => by simp [Fence.wide] at h), callsIn_wide.2 h3.2⟩
        | _ => exact h3
      | halt x w' => exact h3
    · rename_i hw
      rw [if_neg hw] at h
      exact ih h
end

/-- In a round of the wide fence: a front that makes only later worlds; then the tail. -/
theorem region_later_tail (m f2 : Nat) (fin st : Array Bool) {P : Program} {k id : Nat} {l : List Oper} {Q : Exit → Act → World → Prop} {a : Act} {w : World} (hm : P.follows .mixedOrders = true) (hle : l.length = m + f2)
    (hs : Region.noSelect l.toArray = true) (hd : noDefer l.toArray = true) (hB : Region.lexFrom .any l.toArray m 0 st = true) (hf : tailB .any l.toArray fin m (Array.replicate l.length false) st = true)
    (h : wpQuiet P l.toArray (fun w' => ∃ r : Later w, w' = r.W) (fun a' => ∀ w', (∃ r : Later w, w' = r.W) → wpAnyIn Fence.wide 9 P .any l.toArray Q f2 fin a' w') (l.take m) a) :
    (Code.region id l.toArray true).wpIn (Fence.wide.inRound k) 9 P Q a w :=
  (region_tail (C := fun w' => ∃ r : Later w, w' = r.W) m f2 fin st hm rfl hle ⟨⟨{ w with drawn := w.drawn + 1 }, ⟨rfl, rfl, rfl, Nat.le_refl _, fun _ _ => rfl⟩⟩, rfl⟩ hs hd hB hf (quietIn_of h)).2 k

/-- A call of yield, one step of such a tail. -/
theorem step_yield {P : Program} {ops : Array Oper} {a : Act} {w : World} {K : Act → World → Prop} {Q : Exit → Act → World → Prop} {E : Prop} {d : Option Nat} {ot t : TypeId} {pos : String} {aft : Array Edge} {gd : Option (Nat × Bool)} (g x : Operand) (l : Nat) (v : Value) (R : Ending → World → Prop)
    (hw : Region.wanted (⟨d, Op.call { callee := .value g, args := #[x], argTypes := #[t] }, ot, pos, aft, gd⟩ : Oper) (yielded ops a.tmps) = true) (hg : a.eval g = .func (.yield l) #[] #[]) (hx : a.eval x = v)
    (hy : YieldAt Fence.wide 9 P l #[v] w R) (hK : ∀ e w', R e w' → ∃ u, e = .returned u ∧ K (a.put d u) w') :
    if Region.wanted (⟨d, Op.call { callee := .value g, args := #[x], argTypes := #[t] }, ot, pos, aft, gd⟩ : Oper) (yielded ops a.tmps) = true then Oper.wpIn Fence.wide 9 P (⟨d, Op.call { callee := .value g, args := #[x], argTypes := #[t] }, ot, pos, aft, gd⟩ : Oper) a w K Q else E := by
  rw [if_pos hw]
  obtain ⟨fn, tmps, assign, body, hy, hR⟩ := hy
  refine ⟨fun _ _ => trivial, ?_⟩
  rw [Oper.semAt_eq _ _ _ (by intro c hc; cases hc)]
  have he : ∀ ρ : Operand → Value, ρ g = .func (.yield l) #[] #[] → ρ x = v → (execOp ρ (⟨d, Op.call { callee := .value g, args := #[x], argTypes := #[t] }, ot, pos, aft, gd⟩ : Oper)).run P w = .ok (.round l fn tmps assign body) w := by
    intro ρ h1 h2
    simp [execOp, resolve, invoke, go_sem, h1, h2, hy, Result.andThen]
  rw [he _ hg hx]
  refine ⟨fun h => by simp [Fence.wide] at h, roundIn_wide (hR.mono fun e w' hr => ?_)⟩
  obtain ⟨u, rfl, hk⟩ := hK e w' hr
  exact hk
end Go.Proofs.Ytakipaehoeapcaa
