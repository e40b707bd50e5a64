/- Texts joined: Seq, L11Read, L6In. -/
import Derived.Test.YtabdbgnkiebcdaaDoorPartR1
import Derived.Deep.QuietTactic
import Derived.RangeFuncNested
import Derived.RangeFuncBound
import Derived.RangeFuncCalls
import Derived.RangeFuncLeaves
import Derived.ArgAppend
import Derived.OwnWalkIn
import Derived.CallsIn
import Derived.TacticsIn
import Derived.Sort.QuietThIn
import Derived.Test.YtabdbgnkiebcdaaDoorPartR2
import Derived.Deep.AppendLies
import Derived.Test.YtabdbgnkiebcdaaDoorProg
namespace Go.Proofs.YtabdbgnkiebcdaaDoor
set_option linter.unusedVariables false
set_option linter.unusedSimpArgs false
open Go.RowKit

/-- But for what lies in V, all that was there is as it was. -/
structure Outside (V : Nat → Prop) (w w' : World) : Prop where
  os : w'.os = w.os
  tape : w'.tape = w.tape
  output : w'.output = w.output
  size : w.heap.size ≤ w'.heap.size
  block : ∀ k, k < w.heap.size → ¬ V k → w'.heap[k]? = w.heap[k]?

/-- What lies in V is as it was. -/
structure Inside (V : Nat → Prop) (w w' : World) : Prop where
  os : w'.os = w.os
  tape : w'.tape = w.tape
  output : w'.output = w.output
  size : w.heap.size ≤ w'.heap.size
  block : ∀ k, V k → w'.heap[k]? = w.heap[k]?

namespace Outside
variable {V U : Nat → Prop} {a b c : World}
theorem refl (V : Nat → Prop) (a : World) : Outside V a a := ⟨rfl, rfl, rfl, Nat.le_refl _, fun _ _ _ => rfl⟩
theorem trans' (h : Outside V a b) (k : Outside U b c) (hu : ∀ k, k < a.heap.size → U k → V k) : Outside V a c :=
  ⟨k.os.trans h.os, k.tape.trans h.tape, k.output.trans h.output, Nat.le_trans h.size k.size, fun i hi hv => (k.block i (Nat.lt_of_lt_of_le hi h.size) (fun hU => hv (hu i hi hU))).trans (h.block i hi hv)⟩
theorem mono (h : Outside V a b) (hu : ∀ k, k < a.heap.size → V k → U k) : Outside U a b := ⟨h.os, h.tape, h.output, h.size, fun i hi hv => h.block i hi (fun h' => hv (hu i hi h'))⟩
theorem of_below (h : Below a.heap.size a b) : Outside V a b := ⟨h.os, h.tape, h.output, h.size, fun k hk _ => h.block k hk⟩
theorem below {n : Nat} (h : Outside V a b) (hn : n ≤ a.heap.size) (hv : ∀ k, V k → n ≤ k) : Below n a b := ⟨h.os, h.tape, h.output, h.size, fun k hk => h.block k (by omega) (fun h' => by have := hv k h'; omega)⟩
theorem inside (h : Outside U a b) (hl : ∀ k, V k → k < a.heap.size) (hd : ∀ k, V k → ¬ U k) : Inside V a b := ⟨h.os, h.tape, h.output, h.size, fun k hk => h.block k (hl k hk) (hd k hk)⟩
theorem of_grown {row : Option Nat} (hg : a.grownBy b row) (hr : ∀ k, row = some k → V k) : Outside V a b := ⟨hg.os, hg.tape, hg.output, hg.size, fun k hk hv => hg.block k hk (fun e => hv (hr k e.symm))⟩
theorem cell (h : Outside V a b) {p : Addr} {v : Value} (hp : ¬ V p.block) (hc : a.cell? p = some v) : b.cell? p = some v := by
  rw [World.cell?_of_block (w := a) (h.block p.block (World.block_lt_of_cell? _ _ hc) hp)]; exact hc
end Outside

namespace Inside
variable {V U : Nat → Prop} {a b c : World}
theorem refl (V : Nat → Prop) (a : World) : Inside V a a := ⟨rfl, rfl, rfl, Nat.le_refl _, fun _ _ => rfl⟩
theorem trans (h : Inside V a b) (k : Inside V b c) : Inside V a c := ⟨k.os.trans h.os, k.tape.trans h.tape, k.output.trans h.output, Nat.le_trans h.size k.size, fun i hi => (k.block i hi).trans (h.block i hi)⟩
theorem mono (h : Inside V a b) (hu : ∀ k, U k → V k) : Inside U a b := ⟨h.os, h.tape, h.output, h.size, fun k hk => h.block k (hu k hk)⟩
theorem cell (h : Inside V a b) {p : Addr} {v : Value} (hp : V p.block) (hc : a.cell? p = some v) : b.cell? p = some v := by
  rw [World.cell?_of_block (w := a) (h.block p.block hp)]; exact hc
theorem of_below (h : Below a.heap.size a b) (hv : ∀ k, V k → k < a.heap.size) : Inside V a b := ⟨h.os, h.tape, h.output, h.size, fun k hk => h.block k (hv k hk)⟩
end Inside

theorem Outside.setCell {V : Nat → Prop} {a b : World} (h : Outside V a b) {p : Addr} (hp : V p.block) (v : Value) : Outside V a (b.setCell p v) :=
  ⟨h.os, h.tape, h.output, by simp [World.setCell]; exact h.size, fun k hk hv => (Below.heap_setCell _ _ _ _ (fun e => hv (by rw [e]; exact hp))).trans (h.block k hk hv)⟩
theorem Outside.then_below {V : Nat → Prop} {a b c : World} (h : Outside V a b) (k : Below a.heap.size b c) : Outside V a c :=
  ⟨k.os.trans h.os, k.tape.trans h.tape, k.output.trans h.output, Nat.le_trans h.size k.size, fun i hi hv => (k.block i hi).trans (h.block i hi hv)⟩
theorem Outside.drewN {V : Nat → Prop} {a b : World} (h : Outside V a b) (q : Nat) : Outside V a (b.drewN q) := ⟨h.os, h.tape, h.output, h.size, h.block⟩

/-- A row that a call owns is so wherever its block is as it was. -/
theorem owns_at {w w' : World} {base e size n cap g : Nat} {xs : List Value} (h : w.ownsRow base e size (.slice (some ⟨g, 0, none⟩) n cap) n xs) (hb : w'.heap[g]? = w.heap[g]?) : w'.ownsRow base e size (.slice (some ⟨g, 0, none⟩) n cap) n xs := by
  obtain ⟨h1, (⟨he, _⟩ | ⟨g', cap', cur, hv, hbase, hh, hr⟩)⟩ := h
  · cases he
  · cases hv
    exact ⟨h1, .inr ⟨g, cap, cur, rfl, hbase, hb.trans hh, hr⟩⟩
/-- The same, nil too. -/
theorem owns_any {w w' : World} {base e n : Nat} {v : Value} {xs : List Value} (h : w.ownsRow base e 1 v n xs) (hb : ∀ g, v.ownBlock = some g → w'.heap[g]? = w.heap[g]?) : w'.ownsRow base e 1 v n xs := by
  obtain ⟨h1, (h2 | ⟨g, cap, cur, hv, hbase, hh, hr⟩)⟩ := h
  · exact ⟨h1, .inl h2⟩
  · subst hv
    exact ⟨h1, .inr ⟨g, cap, cur, rfl, hbase, (hb g rfl).trans hh, hr⟩⟩
end Go.Proofs.YtabdbgnkiebcdaaDoor

namespace Go.Proofs.YtabdbgnkiebcdaaDoor
set_option linter.unusedVariables false
open Go.RowKit

/-- A later world: all that is there in w is there as it was. -/
structure Later (w : World) where
  W : World
  h : Below w.heap.size w W
instance (w : World) : Nonempty (Later w) := ⟨⟨w, Below.refl _ _⟩⟩

theorem wp_region_later {P : Program} {id : Nat} {Q : Exit → Act → World → Prop} {a : Act} {w : World} {l : List Oper} (hm : P.follows .mixedOrders = true) (hB : Region.lexB .any l.toArray = true)
    (h : wpQuiet P l.toArray (fun w' => ∃ r : Later w, w' = r.W) (fun a' => ∀ w', (∃ r : Later w, w' = r.W) → Q .normal a' w') l a) : (Code.region id l.toArray true).wp P Q a w :=
  wp_region_quiet (C := fun w' => ∃ r : Later w, w' = r.W) hm hB ⟨⟨{ w with drawn := w.drawn + 1 }, ⟨rfl, rfl, rfl, Nat.le_refl _, fun _ _ => rfl⟩⟩, rfl⟩ (by simpa using h)

/-- A callee that only makes new memory. -/
theorem calls_later {P : Program} {f : FuncId} {args : Array Value} {w : World} {v : Value} (r : Later w) (h : Calls P f args r.W fun e w' => e = .returned v ∧ Below r.W.heap.size r.W w') :
    Calls P f args r.W fun e w'' => e = .returned v ∧ ∃ r' : Later w, w'' = r'.W :=
  h.mono fun _ _ ⟨he, hb⟩ => ⟨he, ⟨_, r.h.trans (hb.mono r.h.size)⟩, rfl⟩

theorem later_cell {w : World} {a : Addr} {v : Value} (h : w.cell? a = some v) (r : Later w) : r.W.cell? a = some v := (r.h.cell (World.block_lt_of_cell? _ _ h)).trans h
theorem later_arr {w : World} {g t n : Nat} {F : Nat → Int} (h : ArrAt w g t n F) (r : Later w) : ArrAt r.W g t n F := h.below h.lt r.h

section
variable {P : Program} {ops : Array Oper} {C : World → Prop} {Q : Act → Prop} {a : Act} {rest : List Oper} {d : Option Nat} {ot : TypeId} {pos : String} {aft : Array Edge}

/-- A whole array is loaded in such a region. -/
theorem quiet_load_arr (n ty m e t : Nat) (x : Operand) (g : Nat) (F : Nat → Int) (hx : a.eval x = .pointer (some ⟨g, 0, none⟩)) (hg : ∀ w, C w → ArrAt w g t n F) (hu : P.underlying ty = some (.array m e)) (hi : (P.info? ty).map (·.size) = some n)
    (h : wpQuiet P ops C Q rest (a.put d (.agg (cellsV n F)))) : wpQuiet P ops C Q (⟨d, Op.load ty x, ot, pos, aft, none⟩ :: rest) a := by
  have hw : Region.wanted (⟨d, Op.load ty x, ot, pos, aft, none⟩ : Oper) (yielded ops a.tmps) = true := rfl
  unfold wpQuiet
  rw [if_pos hw]
  refine ⟨.agg (cellsV n F), fun w hC => ?_, h⟩
  unfold Oper.quietAt execOp
  simp only [hx, Instr.loadAt, Instr.sureAddr, Sem.run_bind, Sem.run_pure, Result.andThen_ok, run_loadVar_row w g t ty (cellsV n F) (0, 0) _ (hg w hC) hu rfl (by rw [cellsV_size]; exact hi)]
  exact ⟨rfl, rfl⟩
end
end Go.Proofs.YtabdbgnkiebcdaaDoor

namespace Go.Proofs.YtabdbgnkiebcdaaDoor
set_option linter.unusedVariables false
set_option linter.unusedSimpArgs false

section
open Go.RowKit
/-- May x come behind B, least being the least that may? -/
def Next (least : Nat) (B : List Int) (x : Nat) : Prop := least ≤ x ∧ ¬ (x : Int) ∈ B
open Classical in
/-- The list that begins so, if of two at least, and all that go on behind it with at most f numbers from least on below n. -/
noncomputable def later (n least : Nat) : Nat → List Int → List (List Int)
  | 0, B => if 2 ≤ B.length then [B] else []
  | f + 1, B => (if 2 ≤ B.length then [B] else []) ++ (List.range n).flatMap fun (x : Nat) => if Next least B x then later n least f (B ++ [(x : Int)]) else []
open Classical in
/-- Those of them whose next number is below k. -/
noncomputable def laterTo (n least f : Nat) (B : List Int) (k : Nat) : List (List Int) := (if 2 ≤ B.length then [B] else []) ++ (List.range k).flatMap fun (x : Nat) => if Next least B x then later n least f (B ++ [(x : Int)]) else []
theorem laterTo_no {n least f k : Nat} {B : List Int} (h : ¬ Next least B k) : laterTo n least f B (k + 1) = laterTo n least f B k := by
  unfold laterTo
  rw [List.range_succ, List.flatMap_append]
  simp [h]
theorem laterTo_yes {n least f k : Nat} {B : List Int} (h : Next least B k) : laterTo n least f B (k + 1) = laterTo n least f B k ++ later n least f (B ++ [(k : Int)]) := by
  unfold laterTo
  rw [List.range_succ, List.flatMap_append]
  simp [h]
theorem laterTo_least {n least f : Nat} {B : List Int} : laterTo n least f B least = if 2 ≤ B.length then [B] else [] := by
  have : ∀ k, k ≤ least → laterTo n least f B k = if 2 ≤ B.length then [B] else [] := by
    intro k
    induction k with
    | zero => intro _; simp [laterTo]
    | succ k ih => intro hk; rw [laterTo_no (fun h => by have := h.1; omega), ih (by omega)]
  exact this least (Nat.le_refl _)
theorem laterTo_past {n least f k : Nat} {B : List Int} (h : n ≤ least) (hk : k ≤ n) : laterTo n least f B k = if 2 ≤ B.length then [B] else [] := by
  induction k with
  | zero => simp [laterTo]
  | succ k ih => rw [laterTo_no (fun h' => by have := h'.1; omega), ih (by omega)]
theorem later_eq {n least f : Nat} {B : List Int} (h : Diff n B) (hf : B.length + f = n) : later n least f B = laterTo n least (f - 1) B n := by
  cases f with
  | succ f => rfl
  | zero =>
    have : ∀ k, k ≤ n → laterTo n least 0 B k = laterTo n least 0 B 0 := by
      intro k
      induction k with
      | zero => intro _; rfl
      | succ k ih => intro hk; rw [laterTo_no (fun h' => h'.2 (h.full (by omega) (by omega))), ih (by omega)]
    show later n least 0 B = laterTo n least 0 B n
    rw [this n (Nat.le_refl _)]
    simp [laterTo, later]
/-- What has come when the next number is k is the front of what will have come. -/
theorem laterTo_front {n least f : Nat} {B : List Int} {k m : Nat} (h : k ≤ m) : laterTo n least f B k <+: laterTo n least f B m := by
  induction m with
  | zero => have : k = 0 := by omega
            subst this; exact List.prefix_refl _
  | succ m ih =>
    by_cases e : k = m + 1
    · subst e; exact List.prefix_refl _
    · have h1 := ih (by omega)
      by_cases hn : Next least B m
      · rw [laterTo_yes hn]; exact h1.trans (List.prefix_append _ _)
      · rw [laterTo_no hn]; exact h1
/-- All of them go on behind B. -/
theorem later_behind {n least : Nat} : ∀ (f : Nat) (B : List Int) (D : List Int), D ∈ later n least f B → B <+: D
  | 0, B, D, h => by
    unfold later at h
    by_cases e : 2 ≤ B.length
    · rw [if_pos e] at h; simp at h; subst h; exact List.prefix_refl _
    · rw [if_neg e] at h; simp at h
  | f + 1, B, D, h => by
    unfold later at h
    rw [List.mem_append] at h
    rcases h with h | h
    · by_cases e : 2 ≤ B.length
      · rw [if_pos e] at h; simp at h; subst h; exact List.prefix_refl _
      · rw [if_neg e] at h; simp at h
    · rw [List.mem_flatMap] at h
      obtain ⟨x, hx, h⟩ := h
      by_cases e : Next least B x
      · rw [if_pos e] at h
        exact (List.prefix_append _ _).trans (later_behind f _ D h)
      · rw [if_neg e] at h; simp at h
/-- From 0 on there is nothing to leave out. -/
theorem later_zero {n : Nat} : ∀ (f : Nat) (B : List Int), later n 0 f B = longer n f B
  | 0, B => rfl
  | f + 1, B => by
    unfold later longer
    congr 1
    refine congrArg (fun F => (List.range n).flatMap F) (funext fun x => ?_)
    by_cases e : (x : Int) ∈ B
    · rw [if_neg (fun h => h.2 e), if_pos e]
    · rw [if_pos ⟨Nat.zero_le _, e⟩, if_neg e, later_zero f]
/-- All the rounds of n moneys, in order: the first ones below k. -/
noncomputable def roundsTo (n k : Nat) : List (List Int) := (List.range k).flatMap fun (x : Nat) => later n (x + 1) (n - 1) [(x : Int)]
theorem roundsTo_succ (n k : Nat) : roundsTo n (k + 1) = roundsTo n k ++ later n (k + 1) (n - 1) [(k : Int)] := by
  unfold roundsTo
  rw [List.range_succ, List.flatMap_append]
  simp
theorem roundsTo_front {n k m : Nat} (h : k ≤ m) : roundsTo n k <+: roundsTo n m := by
  induction m with
  | zero => have : k = 0 := by omega
            subst this; exact List.prefix_refl _
  | succ m ih =>
    by_cases e : k = m + 1
    · subst e; exact List.prefix_refl _
    · rw [roundsTo_succ]; exact (ih (by omega)).trans (List.prefix_append _ _)
end

section
open Go.RowKit
theorem Outside.putObj {a : World} (V : Nat → Prop) {r : Nat} (hr : V r) (o : Obj) : Outside V a (a.putObj r o) := ⟨rfl, rfl, rfl, by simp, fun k _ hk => World.putObj_heap_other (fun e => hk (by rw [e]; exact hr))⟩
theorem Inside.putObj {V : Nat → Prop} {a : World} {r : Nat} (hr : ¬ V r) (o : Obj) : Inside V a (a.putObj r o) := ⟨rfl, rfl, rfl, by simp, fun k hk => World.putObj_heap_other (fun e => hr (by rw [← e]; exact hk))⟩
theorem owns_obj {w : World} {base e size n cap g : Nat} {xs : List Value} (h : w.ownsRow base e size (.slice (some ⟨g, 0, none⟩) n cap) n xs) : ∃ cur, w.heap[g]? = some (.cells cur e (0, 0)) := by
  obtain ⟨h1, (⟨he, _⟩ | ⟨g', cap', cur, hv, hbase, hh, hr⟩)⟩ := h
  · cases he
  · cases hv
    exact ⟨cur, hh⟩
/-- What lies ahead of the last one. -/
theorem owns_front {w : World} {base e n cap g : Nat} {xs : List Value} {x : Value} (h : w.ownsRow base e 1 (.slice (some ⟨g, 0, none⟩) (n + 1) cap) (n + 1) (xs ++ [x])) (hx : xs.length = n) : w.ownsRow base e 1 (.slice (some ⟨g, 0, none⟩) n cap) n xs := by
  obtain ⟨h1, (⟨he, _⟩ | ⟨g', cap', cur, hv, hbase, hh, h2, h3, h4, h5⟩)⟩ := h
  · cases he
  · cases hv
    refine ⟨by omega, .inr ⟨g, cap, cur, rfl, hbase, hh, by omega, h3, h4, ?_⟩⟩
    have h6 := congrArg (List.take n) h5
    rw [List.take_take, List.take_left' hx, show min n ((n + 1) * 1) = n * 1 from by omega] at h6
    exact h6
/-- And ahead of what has been appended in place. -/
theorem owns_room {w w' : World} {base e n cap g : Nat} {xs : List Value} {x : Value} {v : Value} (h : w.ownsRow base e 1 (.slice (some ⟨g, 0, none⟩) n cap) n xs) (hn : xs.length = n)
    {g' cap' : Nat} (h' : w'.ownsRow base e 1 (.slice (some ⟨g', 0, none⟩) (n + 1) cap') (n + 1) (xs ++ [x])) (hs : w.heap.size ≤ w'.heap.size) (hk : g' ≠ g → w'.heap[g]? = w.heap[g]?) (hcap : g' = g → cap' = cap) :
    w'.ownsRow base e 1 (.slice (some ⟨g, 0, none⟩) n cap) n xs := by
  by_cases he : g' = g
  · obtain rfl := hcap he
    subst he
    exact owns_front h' hn
  · exact owns_at h (hk he)

/-- What a caller says between two rounds: it speaks of the blocks V alone. -/
structure Caller (J : (Nat → Prop) → List (List Int) → World → Prop) : Prop where
  lies : ∀ V pre W, J V pre W → ∀ k, V k → k < W.heap.size
  steady : ∀ V pre A B, J V pre A → Inside V A B → J V pre B

/-- The list D as cells. -/
def cellsD (D : List Int) : List Value := cellsL D.length (nth D)

/-- What a round promises: handed a list of its own that comes next, it turns V alone. -/
def Yields (P : Program) (tI s l : Nat) (J Jx : (Nat → Prop) → List (List Int) → World → Prop) (LL : List (List Int)) : Prop :=
  ∀ V pre D g cap W1, J V pre W1 → (pre ++ [D]) <+: LL → W1.ownsRow s tI 1 (.slice (some ⟨g, 0, none⟩) D.length cap) D.length (cellsD D) → ¬ V g →
    YieldAt Fence.wide 9 P l #[.slice (some ⟨g, 0, none⟩) D.length cap] W1 fun e W2 => Outside V W1 W2 ∧ ∃ V', (∀ k, V' k → V k ∨ k = g ∨ W1.heap.size ≤ k) ∧
      (e = .returned (.bool true) ∧ J V' (pre ++ [D]) W2 ∨ e = .returned (.bool false) ∧ Jx V' (pre ++ [D]) W2)

/-- What an iterator promises: the lists LL, one behind the other, each in a new block; it reads the blocks R. -/
def SeqL (P : Program) (tI gf : Nat) (lb : Array Value) (R : Nat → Prop) (LL : List (List Int)) (w : World) : Prop :=
  ∀ l V J Jx W, Inside R w W → (∀ k, R k → ¬ V k) → Caller J → Caller Jx → Yields P tI W.heap.size l J Jx LL → J V [] W →
    CallsIn Fence.wide 9 P gf (#[.func (.yield l) #[] #[]] ++ lb) W fun e W' => (∃ v, e = .returned v) ∧ ((∃ V', J V' LL W') ∨ ∃ V' pre, pre <+: LL ∧ Jx V' pre W')

/-- How a round's body may be left. -/
def seqPost (I : (Nat → Prop) → List (List Int) → World → Prop) (Ix : Code → (Nat → Prop) → List (List Int) → World → Prop) (xs : List (List Int)) (V : Nat → Prop) (g : Nat) (W : World) : Exit → Act → World → Prop
  | .normal, _, W' => Outside V W W' ∧ ∃ V', (∀ k, V' k → V k ∨ k = g ∨ W.heap.size ≤ k) ∧ I V' xs W'
  | .ret, _, W' => Outside V W W' ∧ ∃ V', (∀ k, V' k → V k ∨ k = g ∨ W.heap.size ≤ k) ∧ Ix .ret V' xs W'
  | .exit id, _, W' => Outside V W W' ∧ ∃ V', (∀ k, V' k → V k ∨ k = g ∨ W.heap.size ≤ k) ∧ Ix (.exit id) V' xs W'
  | .goto t, _, W' => False
  | .panic _, _, _ => False
  | .outgrown, _, _ => False

variable {P : Program}

theorem wide_fn (f : FuncId) : Fence.wide.fn f = True := rfl
theorem wide_round_fn (l : Nat) (f : FuncId) : (Fence.wide.inRound l).fn f = True := rfl
theorem wide_none (f : FuncId) : (none = some f → True) = True := by simp

theorem roundIn_wide {n m l f : Nat} {tmps : Array Value} {assign body : Code} {w : World} {R : Ending → World → Prop} (h : RoundIn Fence.wide n P l f tmps assign body w R) : RoundIn Fence.wide m P l f tmps assign body w R :=
  ⟨h.1, fun c cs hr => h.2 c cs (room_wide _)⟩

/-- **The statement.** -/
theorem wp_seq {g : Operand} {ps : Array Tmp} {assign body : Code} {Q : Exit → Act → World → Prop} {a : Act} {w : World} {tI gf : Nat} {lb : Array Value}
    (hg : a.eval g = .func (.func gf) #[] lb) (eg : ∀ args w, (callFunc gf args).run P w = .ok (.enter gf args) w) (hps : ps.size = 1)
    {R : Nat → Prop} {LL : List (List Int)} (hseq : SeqL P tI gf lb R LL w) (V0 : Nat → Prop) (hR : ∀ k, R k → ¬ V0 k ∧ k < w.heap.size)
    (I : (Nat → Prop) → List (List Int) → World → Prop) (Ix : Code → (Nat → Prop) → List (List Int) → World → Prop) (hI : Caller I) (hIx : ∀ c, Caller (Ix c)) (h0 : I V0 [] w)
    (Ax : Value → Act → World → Prop) (hAx : ∀ v a' W l r o, Ax v a' W → W.heap[l]? = some (.loop r) → Ax v a' (W.putObj l o))
    (hassign : ∀ l v W K, (∀ a' W', Outside (fun _ => False) W W' → Ax v a' W' → K a' W') →
      assign.wpIn (Fence.wide.inRound l) 9 P (Exit.then K (fun _ _ _ => False)) { tmps := (ps.zip #[v]).foldl (fun t (p, v) => t.setIfInBounds p v) a.tmps, defers := [] } W)
    (hbody : ∀ l V pre D gb cap a' W, I V pre W → (pre ++ [D]) <+: LL → W.ownsRow w.heap.size tI 1 (.slice (some ⟨gb, 0, none⟩) D.length cap) D.length (cellsD D) → ¬ V gb → (∀ k, V k → V0 k ∨ w.heap.size ≤ k) →
      Ax (.slice (some ⟨gb, 0, none⟩) D.length cap) a' W → body.wpIn (Fence.wide.inRound l) 9 P (seqPost I Ix (pre ++ [D]) V gb W) a' W)
    (hdone : ∀ D V W, w.heap.size ≤ D → (∀ k, V k → V0 k ∨ w.heap.size ≤ k) → ¬ V D → I V LL W → W.heap[D]? = some (.deferred (some [])) →
      Q .normal { a with defers := { target := .collected D, args := #[] } :: a.defers } W)
    (hstop : ∀ D c V pre W, w.heap.size ≤ D → (∀ k, V k → V0 k ∨ w.heap.size ≤ k) → ¬ V D → pre <+: LL → Ix c V pre W → W.heap[D]? = some (.deferred (some [])) →
      c.wpIn Fence.wide 9 P Q { a with defers := { target := .collected D, args := #[] } :: a.defers } W) :
    (Code.rangeFunc g ps assign body).wpIn Fence.wide 9 P Q a w := by
  refine wpIn_rangeFunc ?_
  intro fn hfn
  obtain ⟨rec, hrec⟩ : ∃ rec : LoopState → Option Code → Loop, rec = fun st pe => { state := st, pending := pe, fn, tmps := a.tmps, params := ps, assign, body, defers := w.heap.size } := ⟨_, rfl⟩
  obtain ⟨W1, hW1⟩ : ∃ W1, (w.alloc (.deferred (some []))).alloc (.loop (rec .ready none)) = W1 := ⟨_, rfl⟩
  have hL1 : W1.heap[w.heap.size + 1]? = some (.loop (rec .ready none)) := by
    rw [← hW1]; have := World.alloc_heap_new (w.alloc (.deferred (some []))) (.loop (rec .ready none)); rwa [World.size_alloc] at this
  have hK1 : W1.heap[w.heap.size]? = some (.deferred (some [])) := by
    rw [← hW1]; exact (Below.heap_alloc _ _ _ (by simp)).trans (World.alloc_heap_new w _)
  have hb1 : Below w.heap.size w W1 := by
    rw [← hW1]; exact ((Below.refl _ w).alloc (Nat.le_refl _) _).alloc (by simp) _
  have hs1 : W1.heap.size = w.heap.size + 2 := by rw [← hW1]; simp
  have hV0 := hI.lies V0 [] w h0
  have hI1 : I V0 [] W1 := hI.steady _ _ _ _ h0 (Inside.of_below hb1 hV0)
  refine ⟨w.heap.size + 1, [{ target := .collected w.heap.size, args := #[] }], W1, { target := .fn (.func gf) lb, args := #[.func (.yield (w.heap.size + 1)) #[] #[]] }, W1, gf,
    #[.func (.yield (w.heap.size + 1)) #[] #[]] ++ lb, W1, ?_, ?_, ?_, ?_, (fun h => by simp [Fence.wide] at h), ?_⟩
  · rw [← hW1, hrec]; exact run_enterLoop_outer _ _ _ _ _
  · simp only [resolve, hg]
    simp [go_sem]
  · intro f' hf'; trivial
  · simp [invoke, go_sem, eg]
  · -- the iterator, at the caller's word with the two blocks of the loop beside it
    have hcell : ∀ {A : World} {l : Nat} {o : Obj}, A.heap[l]? = some o → l < A.heap.size := fun h => (Array.getElem?_eq_some_iff.1 h).1
    refine (callsIn_wide.2 (callsIn_wide.1 ((hseq (w.heap.size + 1) (fun k => V0 k ∨ k = w.heap.size ∨ k = w.heap.size + 1)
      (fun V pre W => ∃ V1, V = (fun k => V1 k ∨ k = w.heap.size ∨ k = w.heap.size + 1) ∧ ¬ V1 w.heap.size ∧ ¬ V1 (w.heap.size + 1) ∧ (∀ k, V1 k → V0 k ∨ w.heap.size ≤ k) ∧ I V1 pre W ∧ W.heap[w.heap.size + 1]? = some (.loop (rec .ready none)) ∧ W.heap[w.heap.size]? = some (.deferred (some [])))
      (fun V pre W => ∃ V1, V = (fun k => V1 k ∨ k = w.heap.size ∨ k = w.heap.size + 1) ∧ ¬ V1 w.heap.size ∧ ¬ V1 (w.heap.size + 1) ∧ (∀ k, V1 k → V0 k ∨ w.heap.size ≤ k) ∧ (∃ c, Ix c V1 pre W ∧ W.heap[w.heap.size + 1]? = some (.loop (rec .done (some c)))) ∧ W.heap[w.heap.size]? = some (.deferred (some [])))
      W1 (Inside.of_below hb1 (fun k hk => (hR k hk).2)) (fun k hk h => by have := hR k hk; rcases h with h | h | h; exact this.1 h; omega; omega) ?_ ?_ ?_ ?_)))).mono ?_
    · constructor
      · rintro V pre W ⟨V1, rfl, h1, h2, h3, h4, h5, h6⟩ k (hk | rfl | rfl)
        · exact hI.lies _ _ _ h4 k hk
        · exact hcell h6
        · exact hcell h5
      · rintro V pre A B ⟨V1, rfl, h1, h2, h3, h4, h5, h6⟩ hin
        exact ⟨V1, rfl, h1, h2, h3, hI.steady _ _ _ _ h4 (hin.mono fun k hk => .inl hk), (hin.block _ (.inr (.inr rfl))).trans h5, (hin.block _ (.inr (.inl rfl))).trans h6⟩
    · constructor
      · rintro V pre W ⟨V1, rfl, h1, h2, h3, ⟨c, h4, h5⟩, h6⟩ k (hk | rfl | rfl)
        · exact (hIx c).lies _ _ _ h4 k hk
        · exact hcell h6
        · exact hcell h5
      · rintro V pre A B ⟨V1, rfl, h1, h2, h3, ⟨c, h4, h5⟩, h6⟩ hin
        exact ⟨V1, rfl, h1, h2, h3, ⟨c, (hIx c).steady _ _ _ _ h4 (hin.mono fun k hk => .inl hk), (hin.block _ (.inr (.inr rfl))).trans h5⟩, (hin.block _ (.inr (.inl rfl))).trans h6⟩
    · -- one round
      rintro V pre D gb cap W ⟨V1, rfl, h1, h2, h3, hi, hl, hk⟩ hpre hown hgb
      have hgb1 : ¬ V1 gb := fun h => hgb (.inl h)
      have hgl : gb ≠ w.heap.size + 1 := fun h => hgb (.inr (.inr h))
      have hgd : gb ≠ w.heap.size := fun h => hgb (.inr (.inl h))
      have hlW := hcell hl
      have hy := run_yield (P := P) (args := #[.slice (some ⟨gb, 0, none⟩) D.length cap]) hl (by rw [hrec]; simp [hps])
      rw [hrec] at hy
      refine ⟨fn, _, assign, body, hy, roundIn_of_wpIn hfn (hassign _ _ W _ ?_)⟩
      intro a' Wa hout hax
      have hla : Wa.heap[w.heap.size + 1]? = some (.loop (rec .ready none)) := (hout.block _ hlW (fun h => h)).trans hl
      have hka : Wa.heap[w.heap.size]? = some (.deferred (some [])) := (hout.block _ (hcell hk) (fun h => h)).trans hk
      obtain ⟨W2, hW2⟩ : ∃ W2, Wa.putObj (w.heap.size + 1) (.loop { rec .ready none with state := .busy }) = W2 := ⟨_, rfl⟩
      have hl2 : W2.heap[w.heap.size + 1]? = some (.loop { rec .ready none with state := .busy }) := by rw [← hW2]; exact World.putObj_heap_same (hcell hla)
      have ho2 : ∀ k, k ≠ w.heap.size + 1 → W2.heap[k]? = Wa.heap[k]? := fun k h => by rw [← hW2]; exact World.putObj_heap_other h
      have hs2 : W2.heap.size = Wa.heap.size := by rw [← hW2]; simp
      have hk2 := (ho2 _ (by omega)).trans hka
      have hin2 : Inside V1 W W2 := (hout.inside (hI.lies _ _ _ hi) (fun _ _ h => h)).trans (by rw [← hW2]; exact Inside.putObj h2 _)
      have hi2 := hI.steady _ _ _ _ hi hin2
      have hown2 : W2.ownsRow w.heap.size tI 1 (.slice (some ⟨gb, 0, none⟩) D.length cap) D.length (cellsD D) :=
        owns_base (owns_at hown ((ho2 gb hgl).trans (hout.block gb (owns_cap hown).2.2 (fun h => h)))) (by omega)
      refine ⟨W2, by have := run_beginRound (P := P) hla (by rw [hrec]); rw [hrec] at this; rw [← hW2, hrec]; exact this, ?_⟩
      refine wpIn_mono (hbody (w.heap.size + 1) V1 pre D gb cap a' W2 hi2 hpre hown2 hgb1 h3 (by rw [← hW2]; exact hAx _ _ _ _ _ _ hax hla)) ?_
      have hgs := (owns_cap hown).2.1
      rw [hs1] at hgs
      have fin : ∀ (jump : Option Code) (W3 : World) (V' : Nat → Prop) (Jz : World → Prop), Outside V1 W2 W3 → (∀ k, V' k → V1 k ∨ k = gb ∨ W2.heap.size ≤ k) → (∀ A B, Jz A → Inside V' A B → Jz B) → Jz W3 →
          ∃ W4, (Instr.endRound (w.heap.size + 1) jump).run P W3 = .ok (.bool jump.isNone) W4 ∧ Outside (fun k => V1 k ∨ k = w.heap.size ∨ k = w.heap.size + 1) W W4 ∧ ¬ V' w.heap.size ∧ ¬ V' (w.heap.size + 1) ∧ (∀ k, V' k → V0 k ∨ w.heap.size ≤ k) ∧ (∀ k, V' k → V1 k ∨ k = gb ∨ W.heap.size ≤ k) ∧ Jz W4 ∧
            W4.heap[w.heap.size + 1]? = some (.loop (rec (if jump.isNone then .ready else .done) jump)) ∧ W4.heap[w.heap.size]? = some (.deferred (some [])) := by
        intro jump W3 V' Jz hout3 hV' hst hz
        have hl3 := (hout3.block _ (hcell hl2) h2).trans hl2
        have hk3 := (hout3.block _ (hcell hk2) h1).trans hk2
        have hr := run_endRound (P := P) jump hl3
        rw [hrec] at hr
        have e1 := hcell hl2
        have e2 := hcell hk2
        have e3 := hout.size
        have d1 : ¬ V' w.heap.size := fun h => by rcases hV' _ h with h | h | h; exact h1 h; omega; omega
        have d2 : ¬ V' (w.heap.size + 1) := fun h => by rcases hV' _ h with h | h | h; exact h2 h; omega; omega
        refine ⟨_, hr, ?_, d1, d2, ?_, ?_, hst _ _ hz (Inside.putObj d2 _), ?_, ?_⟩
        · have o1 : Outside (fun k => V1 k ∨ k = w.heap.size ∨ k = w.heap.size + 1) W Wa := hout.mono (fun k _ h => h.elim)
          have o2 : Outside (fun k => V1 k ∨ k = w.heap.size ∨ k = w.heap.size + 1) Wa W2 := by rw [← hW2]; exact Outside.putObj _ (.inr (.inr rfl)) _
          have o3 : Outside (fun k => V1 k ∨ k = w.heap.size ∨ k = w.heap.size + 1) W2 W3 := hout3.mono (fun k _ h => .inl h)
          exact ((o1.trans' o2 (fun _ _ h => h)).trans' o3 (fun _ _ h => h)).trans' (Outside.putObj _ (.inr (.inr rfl)) _) (fun _ _ h => h)
        · intro k hk'
          rcases hV' k hk' with h | h | h
          · exact h3 k h
          · right; omega
          · right; omega
        · intro k hk'
          rcases hV' k hk' with h | h | h
          · exact .inl h
          · exact .inr (.inl h)
          · right; right; omega
        · rw [hrec]; exact World.putObj_heap_same (hcell hl3)
        · exact (World.putObj_heap_other (by omega)).trans hk3
      have hV2 : ∀ V' : Nat → Prop, (∀ k, V' k → V1 k ∨ k = gb ∨ W.heap.size ≤ k) → ∀ k, (V' k ∨ k = w.heap.size ∨ k = w.heap.size + 1) → (V1 k ∨ k = w.heap.size ∨ k = w.heap.size + 1) ∨ k = gb ∨ W.heap.size ≤ k := by
        intro V' h k hk'
        rcases hk' with hk' | hk' | hk'
        · rcases h k hk' with h | h | h
          · exact .inl (.inl h)
          · exact .inr (.inl h)
          · exact .inr (.inr h)
        · exact .inl (.inr (.inl hk'))
        · exact .inl (.inr (.inr hk'))
      rintro e a3 W3 hp
      cases e with
      | normal =>
        obtain ⟨ho3, V', hV', hi3⟩ := hp
        obtain ⟨W4, hr, q1, q2, q3, q4, q5, q6, q7, q8⟩ := fin none W3 V' (fun W => I V' (pre ++ [D]) W) ho3 hV' (fun A B => hI.steady _ _ A B) hi3
        exact ⟨_, W4, hr, q1, (fun k => V' k ∨ k = w.heap.size ∨ k = w.heap.size + 1), hV2 V' q5, .inl ⟨rfl, V', rfl, q2, q3, q4, q6, q7, q8⟩⟩
      | ret =>
        obtain ⟨ho3, V', hV', hi3⟩ := hp
        obtain ⟨W4, hr, q1, q2, q3, q4, q5, q6, q7, q8⟩ := fin (some .ret) W3 V' (fun W => Ix .ret V' (pre ++ [D]) W) ho3 hV' (fun A B => (hIx .ret).steady _ _ A B) hi3
        exact ⟨_, W4, hr, q1, (fun k => V' k ∨ k = w.heap.size ∨ k = w.heap.size + 1), hV2 V' q5, .inr ⟨rfl, V', rfl, q2, q3, q4, ⟨.ret, q6, q7⟩, q8⟩⟩
      | exit id =>
        obtain ⟨ho3, V', hV', hi3⟩ := hp
        obtain ⟨W4, hr, q1, q2, q3, q4, q5, q6, q7, q8⟩ := fin (some (.exit id)) W3 V' (fun W => Ix (.exit id) V' (pre ++ [D]) W) ho3 hV' (fun A B => (hIx (.exit id)).steady _ _ A B) hi3
        exact ⟨_, W4, hr, q1, (fun k => V' k ∨ k = w.heap.size ∨ k = w.heap.size + 1), hV2 V' q5, .inr ⟨rfl, V', rfl, q2, q3, q4, ⟨.exit id, q6, q7⟩, q8⟩⟩
      | goto t => exact hp.elim
      | panic ch => exact hp.elim
      | outgrown => exact hp.elim
    · exact ⟨V0, rfl, fun h => by have := hV0 _ h; omega, fun h => by have := hV0 _ h; omega, fun k h => .inl h, hI1, hL1, hK1⟩
    · -- behind the iterator
      rintro e W2 ⟨⟨v, rfl⟩, (⟨V', V1, rfl, h1, h2, h3, hi, hl, hk⟩ | ⟨V', pre, hpre, V1, rfl, h1, h2, h3, ⟨c, hi, hl⟩, hk⟩)⟩
      · exact ⟨none, _, by have := run_endLoop (P := P) hl (by rw [hrec]; simp); rw [hrec] at this; exact this, hdone _ V1 _ (Nat.le_refl _) h3 h1 (hI.steady _ _ _ _ hi (Inside.putObj h2 _)) ((World.putObj_heap_other (by omega)).trans hk)⟩
      · exact ⟨some c, _, by have := run_endLoop (P := P) hl (by rw [hrec]; simp); rw [hrec] at this; exact this, hstop _ c V1 pre _ (Nat.le_refl _) h3 h1 hpre ((hIx c).steady _ _ _ _ hi (Inside.putObj h2 _)) ((World.putObj_heap_other (by omega)).trans hk)⟩
end

section
open Go.RowKit
section
variable {P : Program} (w : World)

theorem run_append1 (tT tI : TypeId) (i : TypeInfo) (ht : P.underlying tT = some (.slice tI)) (hi : P.info? tI = some i) (hz : i.zero = some (.int .i64 0)) (hs : i.size = 1) (hb : i.bytes = 8)
    (base g n cap : Nat) (xs : List Value) (hown : w.ownsRow base tI 1 (.slice (some ⟨g, 0, none⟩) n cap) n xs) (ad : Addr) (c : Nat) (x : Value) (hx : w.cell? ad = some x) (h1 : x.oneCell' = true) (hn : n ≤ 1048576) :
    ∃ g' cap' w', (Builtin.append_ #[tT, tT] tT #[.slice (some ⟨g, 0, none⟩) n cap, .slice (some ad) 1 c]).run P w = .ok (.slice (some ⟨g', 0, none⟩) (n + 1) cap') w' ∧
      w'.ownsRow base tI 1 (.slice (some ⟨g', 0, none⟩) (n + 1) cap') (n + 1) (xs ++ [x]) ∧ w'.ownsRow base tI 1 (.slice (some ⟨g, 0, none⟩) n cap) n xs ∧ w.grownBy w' (some g) ∧ (g' = g ∧ cap' = cap ∨ w.heap.size ≤ g') := by
  have hnews : ∀ j u, [x][j]? = some u → w.cell? (ad.add j) = some u := by
    intro j u hu
    cases j with
    | zero =>
      simp only [List.getElem?_cons_zero, Option.some.injEq] at hu
      subst hu
      have : ad.add 0 = ad := by unfold Addr.add; cases ad with | mk b o k => cases k <;> simp
      rw [this]; exact hx
    | succ j => simp at hu
  have hlt := (owns_cap hown).2.2
  have hbase := (owns_cap hown).2.1
  have hcells := hown.cells (g := g) rfl
  obtain ⟨hl, (⟨he, _⟩ | ⟨g0, cap0, cur, hv, hbg, hg, hnc, hcm, hcs, htake⟩)⟩ := id hown
  · cases he
  · cases hv
    by_cases hroom : n + 1 ≤ cap
    · have hr := run_append_room (P := P) w tT tT tI i ht hi g n cap cur hg ad 1 c [x] (by simp [hs]) hnews (by simp [h1]) hroom (by rw [hs]; simp; omega)
      rw [hs] at hr
      simp only [Nat.mul_one, List.length_singleton] at hr
      simp only [Nat.mul_one] at htake
      have hh := setRow_heap w g cur (cur.toList.take n ++ [x] ++ cur.toList.drop (n + 1)).toArray tI (0, 0) hg
      have hsz : (cur.toList.take n ++ [x] ++ cur.toList.drop (n + 1)).toArray.size = cap * 1 := by
        simp only [List.size_toArray, List.length_append, List.length_take, List.length_drop, Array.length_toList, List.length_singleton]
        omega
      refine ⟨g, cap, _, hr, ⟨by simp at hl ⊢; omega, .inr ⟨g, cap, _, rfl, hbg, hh, hroom, hcm, hsz, ?_⟩⟩, ⟨hl, .inr ⟨g, cap, _, rfl, hbg, hh, hnc, hcm, hsz, ?_⟩⟩,
        ⟨rfl, rfl, rfl, by simp, fun k _ hk => setRow_other w g k _ (fun e => hk (by rw [e]))⟩, .inl ⟨rfl, rfl⟩⟩
      · rw [htake, Nat.mul_one]
        have e : (xs ++ [x]).length = n + 1 := by simp at hl ⊢; omega
        rw [← e]; exact List.take_left
      · rw [htake, Nat.mul_one, List.append_assoc]
        have e : xs.length = n := by omega
        rw [← e]; exact List.take_left
    · obtain ⟨v', w', hr, h2, h3⟩ := run_append_arg_grows (P := P) w tT tT tI i (.int .i64 0) 1 8 ht hi hz hs hb rfl (by decide) ⟨g, 0, none⟩ n cap xs hl hcells ad 1 c [x] rfl hnews (by omega) (by unfold maxLen; omega) (by omega)
      obtain ⟨g', cap', rfl⟩ := owns_form h2 (by omega)
      exact ⟨g', cap', w', hr, owns_base h2 (by omega), owns_at hown (h3.block g hlt (by simp)), ⟨h3.os, h3.tape, h3.output, h3.size, fun k hk _ => h3.block k hk (by simp)⟩, .inr (owns_cap h2).2.1⟩
end

variable {F : Fence} {m : Nat} {P : Program}
theorem wpListIn_append1_g (w : World) {ops : Array Oper} {rest : List Oper} {a : Act} {Q : Exit → Act → World → Prop} {d : Option Tmp} {tT : TypeId} {pos : String} {aft : Array Edge} (gd : Nat × Bool) (s x : Operand)
    (hw : Region.wanted (⟨d, Op.call { callee := Callee.builtin Builtin.append, args := #[s, x], argTypes := #[tT, tT] }, tT, pos, aft, some gd⟩ : Oper) (yielded ops a.tmps) = true)
    (tI : TypeId) (i : TypeInfo) (ht : P.underlying tT = some (.slice tI)) (hi : P.info? tI = some i) (hz : i.zero = some (.int .i64 0)) (hs : i.size = 1) (hb : i.bytes = 8)
    (base g n cap : Nat) (xs : List Value) (hsv : a.eval s = .slice (some ⟨g, 0, none⟩) n cap) (hown : w.ownsRow base tI 1 (.slice (some ⟨g, 0, none⟩) n cap) n xs) (ad : Addr) (c : Nat) (u : Value) (hxv : a.eval x = .slice (some ad) 1 c) (hx : w.cell? ad = some u) (h1 : u.oneCell' = true) (hn : n ≤ 1048576)
    (hK : ∀ g' cap' w', w'.ownsRow base tI 1 (.slice (some ⟨g', 0, none⟩) (n + 1) cap') (n + 1) (xs ++ [u]) → w'.ownsRow base tI 1 (.slice (some ⟨g, 0, none⟩) n cap) n xs → w.grownBy w' (some g) → (g' = g ∧ cap' = cap ∨ w.heap.size ≤ g') →
      wpListIn F m P ops Q rest (a.put d (.slice (some ⟨g', 0, none⟩) (n + 1) cap')) w') :
    wpListIn F m P ops Q (⟨d, Op.call { callee := Callee.builtin Builtin.append, args := #[s, x], argTypes := #[tT, tT] }, tT, pos, aft, some gd⟩ :: rest) a w := by
  refine wpListIn_step fun K hK' => ?_
  rw [if_pos hw]
  obtain ⟨g', cap', w', hr, h2, h3, h4, h5⟩ := run_append1 (P := P) w tT tI i ht hi hz hs hb base g n cap xs hown ad c u hx h1 hn
  unfold Oper.wpIn
  refine ⟨?_, ?_⟩
  · simp [Oper.about, resolve, Target.leads, Sem.run_pure]
  · rw [Oper.semAt_plain F _ _ (by intro c hc'; cases hc')]
    simp [execOp, resolve, invoke, builtin, hsv, hxv, hr, Result.andThen]
    exact hK' _ _ (hK g' cap' w' h2 h3 h4 h5)
end

section
open Go.RowKit
section
variable {Fc : Fence} {N : Nat} {P : Program} {ops : Array Oper} {rest : List Oper} {a : Act} {w : World} {Q : Exit → Act → World → Prop} {d : Option Nat} {ot : TypeId} {pos : String} {aft : Array Edge}

theorem wpIn_of_run {o : Oper} {v : Value} {w' : World} {K : Act → World → Prop} (hd : ∀ c, o.op ≠ .defer c) (hab : o.about P w a.eval = none) (h : (execOp a.eval o).run P w = .ok (.value v) w') (hK : K (a.put o.dst v) w') : o.wpIn Fc N P a w K Q := by
  refine ⟨fun f hf => (by rw [hab] at hf; cases hf), ?_⟩
  rw [Oper.semAt_eq _ _ _ hd, h]
  exact hK

theorem arrI_load_g (n ty m e t : Nat) (x : Operand) (gd : Option (Nat × Bool)) (g : Nat) (F : Nat → Int) (hw : Region.wanted (⟨d, Op.load ty x, ot, pos, aft, gd⟩ : Oper) (yielded ops a.tmps) = true) (hx : a.eval x = .pointer (some ⟨g, 0, none⟩)) (hg : ArrAt w g t n F) (hu : P.underlying ty = some (.array m e)) (hi : (P.info? ty).map (·.size) = some n)
    (h : wpListIn Fc N P ops Q rest (a.put d (.agg (cellsV n F))) w) : wpListIn Fc N P ops Q (⟨d, Op.load ty x, ot, pos, aft, gd⟩ :: rest) a w :=
  wpListIn_step fun K hK => by
    rw [if_pos hw]
    refine wpIn_of_run (by intro c hc; cases hc) (by simp [Oper.about]) (v := .agg (cellsV n F)) (w' := w) ?_ (hK _ _ h)
    unfold execOp
    simp only [hx, Instr.loadAt, Instr.sureAddr, Sem.run_bind, Sem.run_pure, Result.andThen_ok, run_loadVar_row w g t ty (cellsV n F) (0, 0) _ hg hu rfl (by rw [cellsV_size]; exact hi)]

theorem arrI_load (n ty m e t : Nat) (x : Operand) (g : Nat) (F : Nat → Int) (hx : a.eval x = .pointer (some ⟨g, 0, none⟩)) (hg : ArrAt w g t n F) (hu : P.underlying ty = some (.array m e)) (hi : (P.info? ty).map (·.size) = some n)
    (h : wpListIn Fc N P ops Q rest (a.put d (.agg (cellsV n F))) w) : wpListIn Fc N P ops Q (⟨d, Op.load ty x, ot, pos, aft, none⟩ :: rest) a w :=
  arrI_load_g n ty m e t x none g F rfl hx hg hu hi h

/-- The same, at a step of a region that draws its order. -/
theorem arrS_load (n ty m e t : Nat) (x : Operand) (gd : Option (Nat × Bool)) (g : Nat) (F : Nat → Int) {K : Act → World → Prop} {E : Prop} (hw : Region.wanted (⟨d, Op.load ty x, ot, pos, aft, gd⟩ : Oper) (yielded ops a.tmps) = true) (hx : a.eval x = .pointer (some ⟨g, 0, none⟩)) (hg : ArrAt w g t n F) (hu : P.underlying ty = some (.array m e)) (hi : (P.info? ty).map (·.size) = some n)
    (h : K (a.put d (.agg (cellsV n F))) w) : if Region.wanted (⟨d, Op.load ty x, ot, pos, aft, gd⟩ : Oper) (yielded ops a.tmps) = true then Oper.wpIn Fc N P (⟨d, Op.load ty x, ot, pos, aft, gd⟩ : Oper) a w K Q else E := by
  rw [if_pos hw]
  refine wpIn_of_run (by intro c hc; cases hc) (by simp [Oper.about]) (v := .agg (cellsV n F)) (w' := w) ?_ h
  unfold execOp
  simp only [hx, Instr.loadAt, Instr.sureAddr, Sem.run_bind, Sem.run_pure, Result.andThen_ok, run_loadVar_row w g t ty (cellsV n F) (0, 0) _ hg hu rfl (by rw [cellsV_size]; exact hi)]

theorem arrI_alloc (n ty : Nat) (hz : (zeroValue ty).run P w = .ok (.agg (cellsV n fun _ => 0)) w)
    (h : ∀ w1, ArrAt w1 w.heap.size ty n (fun _ => 0) → w1.heap.size = w.heap.size + 1 → Below w.heap.size w w1 → wpListIn Fc N P ops Q rest (a.put d (.pointer (some ⟨w.heap.size, 0, none⟩))) w1) :
    wpListIn Fc N P ops Q (⟨d, Op.alloc ty, ot, pos, aft, none⟩ :: rest) a w := by
  refine wpListIn_plain rfl fun K hK' => ?_
  have := h (w.alloc (.cells (cellsV n fun _ => 0) ty)) (ArrAt.new w ty n _) (by simp) ((Below.refl _ _).alloc (Nat.le_refl _) _)
  refine wpIn_of_run (by intro c hc; cases hc) (by simp [Oper.about]) (v := .pointer (some ⟨w.heap.size, 0, none⟩)) (w' := w.alloc (.cells (cellsV n fun _ => 0) ty)) ?_ (hK' _ _ this)
  unfold execOp
  simp [Instr.alloc, hz, newVar, newRow, newObj, Value.cells]
  rfl

theorem arrI_store (n ty t : Nat) (x y : Operand) (g : Nat) (F G : Nat → Int) (hx : a.eval x = .pointer (some ⟨g, 0, none⟩)) (hy : a.eval y = .agg (cellsV n G)) (hg : ArrAt w g t n F) (hi : (P.info? ty).map (·.size) = some n)
    (h : ∀ w1, ArrAt w1 g t n G → w1.heap.size = w.heap.size → (∀ k, k ≠ g → w1.heap[k]? = w.heap[k]?) → Below g w w1 → wpListIn Fc N P ops Q rest (a.put d undef) w1) : wpListIn Fc N P ops Q (⟨d, Op.store ty x y, ot, pos, aft, none⟩ :: rest) a w := by
  refine wpListIn_plain rfl fun K hK' => ?_
  have := h (w.setRow g (cellsV n G)) (setRow_heap w g (cellsV n F) (cellsV n G) t (0, 0) hg) (by simp) (fun k hk => setRow_other w g k _ hk) (below_setRow w _ (Nat.le_refl _))
  refine ⟨fun f hf => by simp [Oper.about] at hf, ?_⟩
  rw [Oper.semAt_eq _ _ _ (by intro c hc; cases hc)]
  have he : (execOp a.eval (⟨d, Op.store ty x y, ot, pos, aft, none⟩ : Oper)).run P w = .ok .skip (w.setRow g (cellsV n G)) := by
    unfold execOp
    simp only [hx, hy, Instr.storeAt, Instr.sureAddr, Sem.run_bind, Sem.run_pure, Result.andThen_ok, run_storeVar_row w g t ty (cellsV n F) (cellsV n G) hg (by rw [cellsV_size]; exact hi) (by rw [cellsV_size, cellsV_size]) (cellsV_one n G)]
  rw [he]
  exact hK' _ _ this
end
end

section
open Go.RowKit
set_option linter.unusedSimpArgs false

section
variable {F : Fence} {n : Nat} {P : Program} {ops : Array Oper} {md : Region.Mode} {C : World → Prop}

def isDefer : Op → Bool
  | .defer _ => true
  | _ => false
theorem isDefer_no {o : Op} (h : isDefer o = false) : ∀ c, o ≠ .defer c := fun c e => by rw [e] at h; cases h
def noDefer (ops : Array Oper) : Bool := ops.all fun o => !isDefer o.op
theorem noDefer_at (h : noDefer ops = true) {i : Nat} {o : Oper} (hi : ops[i]? = some o) : ∀ c, o.op ≠ .defer c := by
  unfold noDefer at h
  rw [Array.all_eq_true] at h
  obtain ⟨hlt, rfl⟩ := Array.getElem?_eq_some_iff.1 hi
  have := h i hlt
  exact isDefer_no (by simpa using this)

theorem oper_round {l : Nat} {o : Oper} {a : Act} {w : World} {K : Act → World → Prop} {Q : Exit → Act → World → Prop} (hro : F.round = none) (hd : ∀ c, o.op ≠ .defer c) (h : o.wpIn F n P a w K Q) : o.wpIn (F.inRound l) n P a w K Q := by
  unfold Oper.wpIn at *
  refine ⟨h.1, ?_⟩
  have h2 := h.2
  rw [Oper.semAt_eq _ _ _ hd] at h2 ⊢
  generalize (execOp a.eval o).run P w = r at *
  cases r with
  | ok x w' => cases x <;> exact h2
  | halt x w' => cases x <;> exact h2

theorem any_round {l : Nat} {Q : Exit → Act → World → Prop} (hro : F.round = none) (hd : noDefer ops = true) : ∀ (fuel : Nat) (listed : Array Bool) (a : Act) (w : World), wpAnyIn F n P md ops Q fuel listed a w → wpAnyIn (F.inRound l) n P md ops Q fuel listed a w
  | 0, _, _, _, h => h
  | fuel + 1, listed, a, w, h => ⟨h.1, fun i hi => by
      have h2 := wpOpIn_mono (fun a' w' h' => any_round (l := l) hro hd fuel _ a' w' h') (h.2 i hi)
      unfold wpOpIn at h2 ⊢
      split
      · simp only [*] at h2; exact h2
      · rename_i o ho
        simp only [ho] at h2
        split
        · rename_i hw; simp only [hw, if_true] at h2; exact oper_round hro (noDefer_at hd ho) h2
        · rename_i hw; simp only [hw] at h2; exact h2⟩

/-- Whatever comes up in whatever order, the tail waits. -/
def tailB (md : Region.Mode) (ops : Array Oper) (fin : Array Bool) : Nat → Array Bool → Array Bool → Bool
  | 0, listed, listed' => listed == fin
  | fuel + 1, listed, listed' => Region.ready md ops listed == Region.ready md ops listed' && !(Region.ready md ops listed).isEmpty &&
      (Region.ready md ops listed).all fun i => tailB md ops fin fuel (listed.setIfInBounds i true) (listed'.setIfInBounds i true)

theorem any_tail {Q : Act → Prop} {Q' : Exit → Act → World → Prop} {fin : Array Bool} {fuel2 : Nat} (hro : F.round = none) (hT : ∀ a w, C w → Q a → wpAnyIn F n P md ops Q' fuel2 fin a w) :
    ∀ (fuel : Nat) (listed listed' : Array Bool) (a : Act) (w : World), C w → tailB md ops fin fuel listed listed' = true → wpAnyQIn F n P md ops C Q fuel listed' a → wpAnyIn F n P md ops Q' (fuel + fuel2) listed a w
  | 0, listed, listed', a, w, hC, ht, h => by
    unfold tailB at ht
    have e : listed = fin := by simpa using ht
    subst e
    rw [Nat.zero_add]
    exact hT a w hC h.2
  | fuel + 1, listed, listed', a, w, hC, ht, h => by
    unfold tailB at ht
    simp only [Bool.and_eq_true, beq_iff_eq, Bool.not_eq_true', List.all_eq_true] at ht
    obtain ⟨⟨h1, h2⟩, h3⟩ := ht
    rw [show fuel + 1 + fuel2 = (fuel + fuel2) + 1 by omega]
    refine ⟨fun h0 => (by rw [h0] at h2; simp at h2), fun i hi => ?_⟩
    exact wpOpIn_of_qOpIn hro hC (fun a' w' hw' h' => any_tail hro hT fuel _ _ a' w' hw' (h3 i hi) h') (h.2 i (h1 ▸ hi))

theorem any_lex {Q : Act → Prop} (hs : Region.noSelect ops = true) : ∀ (l : List Oper) (k : Nat) (listed : Array Bool) (a : Act), (∀ j o, l[j]? = some o → ops[k + j]? = some o) →
    Region.lexFrom md ops l.length k listed = true → wpQuietIn F n P ops C Q l a → wpAnyQIn F n P md ops C Q l.length listed a
  | [], _, _, _, _, hB, h => ⟨by simpa [Region.lexFrom] using hB, h⟩
  | o :: l, k, listed, a, hl, hB, h => by
    have h0 : ops[k]? = some o := by simpa using hl 0 o rfl
    simp only [List.length_cons, Region.lexFrom, Bool.and_eq_true] at hB
    obtain ⟨⟨hr, hf⟩, hB'⟩ := hB
    have hst : qOpIn F n P ops C k (wpQuietIn F n P ops C Q l) a := by unfold qOpIn; simp only [h0]; exact h
    obtain ⟨v, hy, hK⟩ := yieldsQuiet_of_qOpIn h0 hst
    exact wpAnyQIn_first h0 (Region.noSelect_spec hs) l.length listed a (Region.free_spec h0 hf) (by simpa using hr) hy
      (any_lex hs l (k + 1) _ _ (fun j o' hj => by have := hl (j + 1) o' (by simpa using hj); simpa [Nat.add_assoc, Nat.add_comm 1 j] using this) hB' hK)

/-- The quiet front in the text's order; then the tail. -/
theorem region_tail (m f2 : Nat) (fin st : Array Bool) {id : Nat} {l : List Oper} {Q : Exit → Act → World → Prop} {a : Act} {w : World} (hm : P.follows .mixedOrders = true) (hro : F.round = none) (hle : l.length = m + f2) (hC : C { w with drawn := w.drawn + 1 })
    (hs : Region.noSelect l.toArray = true) (hd : noDefer l.toArray = true) (hB : Region.lexFrom .any l.toArray m 0 st = true) (hf : tailB .any l.toArray fin m (Array.replicate l.length false) st = true)
    (h : wpQuietIn F n P l.toArray C (fun a' => ∀ w', C w' → wpAnyIn F n P .any l.toArray Q f2 fin a' w') (l.take m) a) :
    (Code.region id l.toArray true).wpIn F n P Q a w ∧ ∀ k, (Code.region id l.toArray true).wpIn (F.inRound k) n P Q a w := by
  have hlen : (l.take m).length = m := by rw [List.length_take]; omega
  have h1 := any_lex (F := F) (n := n) (P := P) (C := C) (md := .any) hs (l.take m) 0 st a (fun j o hj => by
    rw [List.getElem?_take] at hj
    by_cases e : j < m
    · rw [if_pos e] at hj; simpa using hj
    · rw [if_neg e] at hj; cases hj) (by rw [hlen]; exact hB) h
  rw [hlen] at h1
  have h2 := any_tail (F := F) (n := n) (P := P) (C := C) (md := .any) (Q' := Q) (fuel2 := f2) hro (fun a' w' hw' h' => h' w' hw') m _ _ a _ hC hf h1
  rw [← hle] at h2
  exact ⟨wpIn_region_any hm (by simpa using h2), fun k => wpIn_region_any hm (any_round hro hd _ _ _ _ (by simpa using h2))⟩
end

section
variable {P : Program} {ops : Array Oper} {C : World → Prop} {Q : Act → Prop} {a : Act} {rest : List Oper} {d : Option Nat} {ot : TypeId} {pos : String} {aft : Array Edge}

/-- What is quiet is so within the wide fence. -/
theorem quietIn_of {l : List Oper} : ∀ {a : Act}, wpQuiet P ops C Q l a → wpQuietIn Fence.wide 9 P ops C Q l a := by
  induction l with
  | nil => intro a h; exact h
  | cons o rest ih =>
    intro a h
    refine ⟨fun _ _ _ _ => trivial, ?_⟩
    unfold wpQuiet at h
    split
    · rename_i hw
      rw [if_pos hw] at h
      obtain ⟨v, h1, h2⟩ := h
      refine ⟨v, fun w hw' => ?_, ih h2⟩
      have h3 := h1 w hw'
      unfold Oper.quietAt at h3
      unfold Oper.quietAtIn
      generalize (execOp a.eval o).run P w = r at *
      cases r with
      | ok x w' =>
        cases x with
        | enter f args => exact ⟨h3.1, (fun h => by simp [Fence.wide] at h), callsIn_wide.2 h3.2⟩
        | _ => exact h3
      | halt x w' => exact h3
    · rename_i hw
      rw [if_neg hw] at h
      exact ih h
end

/-- In a round of the wide fence: a front that makes only later worlds; then the tail. -/
theorem region_later_tail (m f2 : Nat) (fin st : Array Bool) {P : Program} {k id : Nat} {l : List Oper} {Q : Exit → Act → World → Prop} {a : Act} {w : World} (hm : P.follows .mixedOrders = true) (hle : l.length = m + f2)
    (hs : Region.noSelect l.toArray = true) (hd : noDefer l.toArray = true) (hB : Region.lexFrom .any l.toArray m 0 st = true) (hf : tailB .any l.toArray fin m (Array.replicate l.length false) st = true)
    (h : wpQuiet P l.toArray (fun w' => ∃ r : Later w, w' = r.W) (fun a' => ∀ w', (∃ r : Later w, w' = r.W) → wpAnyIn Fence.wide 9 P .any l.toArray Q f2 fin a' w') (l.take m) a) :
    (Code.region id l.toArray true).wpIn (Fence.wide.inRound k) 9 P Q a w :=
  (region_tail (C := fun w' => ∃ r : Later w, w' = r.W) m f2 fin st hm rfl hle ⟨⟨{ w with drawn := w.drawn + 1 }, ⟨rfl, rfl, rfl, Nat.le_refl _, fun _ _ => rfl⟩⟩, rfl⟩ hs hd hB hf (quietIn_of h)).2 k

/-- A call of yield, one step of such a tail. -/
theorem step_yield {P : Program} {ops : Array Oper} {a : Act} {w : World} {K : Act → World → Prop} {Q : Exit → Act → World → Prop} {E : Prop} {d : Option Nat} {ot t : TypeId} {pos : String} {aft : Array Edge} {gd : Option (Nat × Bool)} (g x : Operand) (l : Nat) (v : Value) (R : Ending → World → Prop)
    (hw : Region.wanted (⟨d, Op.call { callee := .value g, args := #[x], argTypes := #[t] }, ot, pos, aft, gd⟩ : Oper) (yielded ops a.tmps) = true) (hg : a.eval g = .func (.yield l) #[] #[]) (hx : a.eval x = v)
    (hy : YieldAt Fence.wide 9 P l #[v] w R) (hK : ∀ e w', R e w' → ∃ u, e = .returned u ∧ K (a.put d u) w') :
    if Region.wanted (⟨d, Op.call { callee := .value g, args := #[x], argTypes := #[t] }, ot, pos, aft, gd⟩ : Oper) (yielded ops a.tmps) = true then Oper.wpIn Fence.wide 9 P (⟨d, Op.call { callee := .value g, args := #[x], argTypes := #[t] }, ot, pos, aft, gd⟩ : Oper) a w K Q else E := by
  rw [if_pos hw]
  obtain ⟨fn, tmps, assign, body, hy, hR⟩ := hy
  refine ⟨fun _ _ => trivial, ?_⟩
  rw [Oper.semAt_eq _ _ _ (by intro c hc; cases hc)]
  have he : ∀ ρ : Operand → Value, ρ g = .func (.yield l) #[] #[] → ρ x = v → (execOp ρ (⟨d, Op.call { callee := .value g, args := #[x], argTypes := #[t] }, ot, pos, aft, gd⟩ : Oper)).run P w = .ok (.round l fn tmps assign body) w := by
    intro ρ h1 h2
    simp [execOp, resolve, invoke, go_sem, h1, h2, hy, Result.andThen]
  rw [he _ hg hx]
  refine ⟨fun h => by simp [Fence.wide] at h, roundIn_wide (hR.mono fun e w' hr => ?_)⟩
  obtain ⟨u, rfl, hk⟩ := hK e w' hr
  exact hk
end

end Go.Proofs.YtabdbgnkiebcdaaDoor

namespace Go.Proofs.YtabdbgnkiebcdaaDoor
set_option linter.unusedVariables false
set_option linter.unusedSimpArgs false
open Go.RowKit

/-- What a caller says between two rounds: it speaks of the blocks V, which its rounds may write, and of the blocks O, which nobody writes. -/
structure CallerV {α : Type} (O : Nat → Prop) (J : (Nat → Prop) → List α → World → Prop) : Prop where
  lies : ∀ V pre W, J V pre W → ∀ k, V k → k < W.heap.size
  steady : ∀ V pre A B, J V pre A → Inside (fun k => V k ∨ O k) A B → J V pre B

/-- What a round promises: handed a list of its own that comes next, it turns V alone. -/
def YieldsV {α : Type} (P : Program) (av : α → Array Value) (l : Nat) (J Jx : (Nat → Prop) → List α → World → Prop) (LL : List α) : Prop :=
  ∀ V pre D W1, J V pre W1 → (pre ++ [D]) <+: LL →
    YieldAt Fence.wide 9 P l (av D) W1 fun e W2 => Outside V W1 W2 ∧ ∃ V', (∀ k, V' k → V k ∨ W1.heap.size ≤ k) ∧
      (e = .returned (.bool true) ∧ J V' (pre ++ [D]) W2 ∨ e = .returned (.bool false) ∧ Jx V' (pre ++ [D]) W2)

/-- What an iterator promises: the lists LL, one behind the other, each in a new block; it reads the blocks R. -/
def SeqV {α : Type} (P : Program) (av : α → Array Value) (gf : Nat) (lb : Array Value) (R : Nat → Prop) (LL : List α) (w : World) : Prop :=
  ∀ l O V J Jx W, Inside R w W → (∀ k, R k → ¬ V k) → (∀ k, O k → k < W.heap.size) → CallerV O J → CallerV O Jx → YieldsV P av l J Jx LL → J V [] W →
    CallsIn Fence.wide 9 P gf (#[.func (.yield l) #[] #[]] ++ lb) W fun e W' => (∃ v, e = .returned v) ∧ ((∃ V', J V' LL W') ∨ ∃ V' pre, pre <+: LL ∧ Jx V' pre W')

/-- How a round's body may be left. -/
def seqPostV {α : Type} (I : (Nat → Prop) → List α → World → Prop) (Ix : Code → (Nat → Prop) → List α → World → Prop) (xs : List α) (V : Nat → Prop) (W : World) : Exit → Act → World → Prop
  | .normal, _, W' => Outside V W W' ∧ ∃ V', (∀ k, V' k → V k ∨ W.heap.size ≤ k) ∧ I V' xs W'
  | .ret, _, W' => Outside V W W' ∧ ∃ V', (∀ k, V' k → V k ∨ W.heap.size ≤ k) ∧ Ix .ret V' xs W'
  | .exit id, _, W' => Outside V W W' ∧ ∃ V', (∀ k, V' k → V k ∨ W.heap.size ≤ k) ∧ Ix (.exit id) V' xs W'
  | .goto t, _, W' => False
  | .panic _, _, _ => False
  | .outgrown, _, _ => False

variable {P : Program} {α : Type}

/-- **The statement.** -/
theorem wp_seqV {g : Operand} {ps : Array Tmp} {assign body : Code} {Q : Exit → Act → World → Prop} {a : Act} {w : World} {av : α → Array Value} {gf : Nat} {lb : Array Value}
    (hg : a.eval g = .func (.func gf) #[] lb) (eg : ∀ args w, (callFunc gf args).run P w = .ok (.enter gf args) w) (hps : ∀ D, (av D).size = ps.size)
    {R : Nat → Prop} {LL : List α} (hseq : SeqV P av gf lb R LL w) (V0 : Nat → Prop) (hR : ∀ k, R k → ¬ V0 k ∧ k < w.heap.size)
    (I : (Nat → Prop) → List α → World → Prop) (Ix : Code → (Nat → Prop) → List α → World → Prop) (O : Nat → Prop) (hO : ∀ k, O k → k < w.heap.size) (hI : CallerV O I) (hIx : ∀ c, CallerV O (Ix c)) (h0 : I V0 [] w)
    (Ax : α → Act → World → Prop) (hAx : ∀ v a' W l r o, Ax v a' W → W.heap[l]? = some (.loop r) → Ax v a' (W.putObj l o))
    (hassign : ∀ l v W K, (∀ a' W', Outside (fun _ => False) W W' → Ax v a' W' → K a' W') →
      assign.wpIn (Fence.wide.inRound l) 9 P (Exit.then K (fun _ _ _ => False)) { tmps := (ps.zip (av v)).foldl (fun t (p, v) => t.setIfInBounds p v) a.tmps, defers := [] } W)
    (hbody : ∀ l V pre D a' W, I V pre W → (pre ++ [D]) <+: LL → (∀ k, V k → V0 k ∨ w.heap.size ≤ k) →
      Ax D a' W → body.wpIn (Fence.wide.inRound l) 9 P (seqPostV I Ix (pre ++ [D]) V W) a' W)
    (hdone : ∀ D V W, w.heap.size ≤ D → (∀ k, V k → V0 k ∨ w.heap.size ≤ k) → ¬ V D → I V LL W → W.heap[D]? = some (.deferred (some [])) →
      Q .normal { a with defers := { target := .collected D, args := #[] } :: a.defers } W)
    (hstop : ∀ D c V pre W, w.heap.size ≤ D → (∀ k, V k → V0 k ∨ w.heap.size ≤ k) → ¬ V D → pre <+: LL → Ix c V pre W → W.heap[D]? = some (.deferred (some [])) →
      c.wpIn Fence.wide 9 P Q { a with defers := { target := .collected D, args := #[] } :: a.defers } W) :
    (Code.rangeFunc g ps assign body).wpIn Fence.wide 9 P Q a w := by
  refine wpIn_rangeFunc ?_
  intro fn hfn
  obtain ⟨rec, hrec⟩ : ∃ rec : LoopState → Option Code → Loop, rec = fun st pe => { state := st, pending := pe, fn, tmps := a.tmps, params := ps, assign, body, defers := w.heap.size } := ⟨_, rfl⟩
  obtain ⟨W1, hW1⟩ : ∃ W1, (w.alloc (.deferred (some []))).alloc (.loop (rec .ready none)) = W1 := ⟨_, rfl⟩
  have hL1 : W1.heap[w.heap.size + 1]? = some (.loop (rec .ready none)) := by
    rw [← hW1]; have := World.alloc_heap_new (w.alloc (.deferred (some []))) (.loop (rec .ready none)); rwa [World.size_alloc] at this
  have hK1 : W1.heap[w.heap.size]? = some (.deferred (some [])) := by
    rw [← hW1]; exact (Below.heap_alloc _ _ _ (by simp)).trans (World.alloc_heap_new w _)
  have hb1 : Below w.heap.size w W1 := by
    rw [← hW1]; exact ((Below.refl _ w).alloc (Nat.le_refl _) _).alloc (by simp) _
  have hs1 : W1.heap.size = w.heap.size + 2 := by rw [← hW1]; simp
  have hV0 := hI.lies V0 [] w h0
  have hI1 : I V0 [] W1 := hI.steady _ _ _ _ h0 (Inside.of_below hb1 (fun k h => h.elim (hV0 k) (hO k)))
  refine ⟨w.heap.size + 1, [{ target := .collected w.heap.size, args := #[] }], W1, { target := .fn (.func gf) lb, args := #[.func (.yield (w.heap.size + 1)) #[] #[]] }, W1, gf,
    #[.func (.yield (w.heap.size + 1)) #[] #[]] ++ lb, W1, ?_, ?_, ?_, ?_, (fun h => by simp [Fence.wide] at h), ?_⟩
  · rw [← hW1, hrec]; exact run_enterLoop_outer _ _ _ _ _
  · simp only [resolve, hg]
    simp [go_sem]
  · intro f' hf'; trivial
  · simp [invoke, go_sem, eg]
  · -- the iterator, at the caller's word with the two blocks of the loop beside it
    have hcell : ∀ {A : World} {l : Nat} {o : Obj}, A.heap[l]? = some o → l < A.heap.size := fun h => (Array.getElem?_eq_some_iff.1 h).1
    refine (callsIn_wide.2 (callsIn_wide.1 ((hseq (w.heap.size + 1) O (fun k => V0 k ∨ k = w.heap.size ∨ k = w.heap.size + 1)
      (fun V pre W => ∃ V1, V = (fun k => V1 k ∨ k = w.heap.size ∨ k = w.heap.size + 1) ∧ ¬ V1 w.heap.size ∧ ¬ V1 (w.heap.size + 1) ∧ (∀ k, V1 k → V0 k ∨ w.heap.size ≤ k) ∧ I V1 pre W ∧ W.heap[w.heap.size + 1]? = some (.loop (rec .ready none)) ∧ W.heap[w.heap.size]? = some (.deferred (some [])))
      (fun V pre W => ∃ V1, V = (fun k => V1 k ∨ k = w.heap.size ∨ k = w.heap.size + 1) ∧ ¬ V1 w.heap.size ∧ ¬ V1 (w.heap.size + 1) ∧ (∀ k, V1 k → V0 k ∨ w.heap.size ≤ k) ∧ (∃ c, Ix c V1 pre W ∧ W.heap[w.heap.size + 1]? = some (.loop (rec .done (some c)))) ∧ W.heap[w.heap.size]? = some (.deferred (some [])))
      W1 (Inside.of_below hb1 (fun k hk => (hR k hk).2)) (fun k hk h => by have := hR k hk; rcases h with h | h | h; exact this.1 h; omega; omega) (fun k hk => by have := hO k hk; omega) ?_ ?_ ?_ ?_)))).mono ?_
    · constructor
      · rintro V pre W ⟨V1, rfl, h1, h2, h3, h4, h5, h6⟩ k (hk | rfl | rfl)
        · exact hI.lies _ _ _ h4 k hk
        · exact hcell h6
        · exact hcell h5
      · rintro V pre A B ⟨V1, rfl, h1, h2, h3, h4, h5, h6⟩ hin
        exact ⟨V1, rfl, h1, h2, h3, hI.steady _ _ _ _ h4 (hin.mono fun k hk => hk.imp .inl id), (hin.block _ (.inl (.inr (.inr rfl)))).trans h5, (hin.block _ (.inl (.inr (.inl rfl)))).trans h6⟩
    · constructor
      · rintro V pre W ⟨V1, rfl, h1, h2, h3, ⟨c, h4, h5⟩, h6⟩ k (hk | rfl | rfl)
        · exact (hIx c).lies _ _ _ h4 k hk
        · exact hcell h6
        · exact hcell h5
      · rintro V pre A B ⟨V1, rfl, h1, h2, h3, ⟨c, h4, h5⟩, h6⟩ hin
        exact ⟨V1, rfl, h1, h2, h3, ⟨c, (hIx c).steady _ _ _ _ h4 (hin.mono fun k hk => hk.imp .inl id), (hin.block _ (.inl (.inr (.inr rfl)))).trans h5⟩, (hin.block _ (.inl (.inr (.inl rfl)))).trans h6⟩
    · -- one round
      rintro V pre D W ⟨V1, rfl, h1, h2, h3, hi, hl, hk⟩ hpre
      have hlW := hcell hl
      have hy := run_yield (P := P) (args := av D) hl (by rw [hrec]; simp [hps])
      rw [hrec] at hy
      refine ⟨fn, _, assign, body, hy, roundIn_of_wpIn hfn (hassign _ _ W _ ?_)⟩
      intro a' Wa hout hax
      have hla : Wa.heap[w.heap.size + 1]? = some (.loop (rec .ready none)) := (hout.block _ hlW (fun h => h)).trans hl
      have hka : Wa.heap[w.heap.size]? = some (.deferred (some [])) := (hout.block _ (hcell hk) (fun h => h)).trans hk
      obtain ⟨W2, hW2⟩ : ∃ W2, Wa.putObj (w.heap.size + 1) (.loop { rec .ready none with state := .busy }) = W2 := ⟨_, rfl⟩
      have hl2 : W2.heap[w.heap.size + 1]? = some (.loop { rec .ready none with state := .busy }) := by rw [← hW2]; exact World.putObj_heap_same (hcell hla)
      have ho2 : ∀ k, k ≠ w.heap.size + 1 → W2.heap[k]? = Wa.heap[k]? := fun k h => by rw [← hW2]; exact World.putObj_heap_other h
      have hs2 : W2.heap.size = Wa.heap.size := by rw [← hW2]; simp
      have hk2 := (ho2 _ (by omega)).trans hka
      have hgw : w.heap.size + 2 ≤ W.heap.size := by omega
      have hnO : ¬ O (w.heap.size + 1) := fun h => by have := hO _ h; omega
      have hin2 : Inside (fun k => V1 k ∨ O k) W W2 := (hout.inside (fun k h => h.elim (hI.lies _ _ _ hi k) (fun h => by have := hO k h; omega)) (fun _ _ h => h)).trans (by rw [← hW2]; exact Inside.putObj (fun h => h.elim h2 hnO) _)
      have hi2 := hI.steady _ _ _ _ hi hin2
      refine ⟨W2, by have := run_beginRound (P := P) hla (by rw [hrec]); rw [hrec] at this; rw [← hW2, hrec]; exact this, ?_⟩
      refine wpIn_mono (hbody (w.heap.size + 1) V1 pre D a' W2 hi2 hpre h3 (by rw [← hW2]; exact hAx _ _ _ _ _ _ hax hla)) ?_
      have fin : ∀ (jump : Option Code) (W3 : World) (V' : Nat → Prop) (Jz : World → Prop), Outside V1 W2 W3 → (∀ k, V' k → V1 k ∨ W2.heap.size ≤ k) → (∀ A B, Jz A → Inside (fun k => V' k ∨ O k) A B → Jz B) → Jz W3 →
          ∃ W4, (Instr.endRound (w.heap.size + 1) jump).run P W3 = .ok (.bool jump.isNone) W4 ∧ Outside (fun k => V1 k ∨ k = w.heap.size ∨ k = w.heap.size + 1) W W4 ∧ ¬ V' w.heap.size ∧ ¬ V' (w.heap.size + 1) ∧ (∀ k, V' k → V0 k ∨ w.heap.size ≤ k) ∧ (∀ k, V' k → V1 k ∨ W.heap.size ≤ k) ∧ Jz W4 ∧
            W4.heap[w.heap.size + 1]? = some (.loop (rec (if jump.isNone then .ready else .done) jump)) ∧ W4.heap[w.heap.size]? = some (.deferred (some [])) := by
        intro jump W3 V' Jz hout3 hV' hst hz
        have hl3 := (hout3.block _ (hcell hl2) h2).trans hl2
        have hk3 := (hout3.block _ (hcell hk2) h1).trans hk2
        have hr := run_endRound (P := P) jump hl3
        rw [hrec] at hr
        have e1 := hcell hl2
        have e2 := hcell hk2
        have e3 := hout.size
        have d1 : ¬ V' w.heap.size := fun h => by rcases hV' _ h with h | h; exact h1 h; omega
        have d2 : ¬ V' (w.heap.size + 1) := fun h => by rcases hV' _ h with h | h; exact h2 h; omega
        refine ⟨_, hr, ?_, d1, d2, ?_, ?_, hst _ _ hz (Inside.putObj (fun h => h.elim d2 hnO) _), ?_, ?_⟩
        · have o1 : Outside (fun k => V1 k ∨ k = w.heap.size ∨ k = w.heap.size + 1) W Wa := hout.mono (fun k _ h => h.elim)
          have o2 : Outside (fun k => V1 k ∨ k = w.heap.size ∨ k = w.heap.size + 1) Wa W2 := by rw [← hW2]; exact Outside.putObj _ (.inr (.inr rfl)) _
          have o3 : Outside (fun k => V1 k ∨ k = w.heap.size ∨ k = w.heap.size + 1) W2 W3 := hout3.mono (fun k _ h => .inl h)
          exact ((o1.trans' o2 (fun _ _ h => h)).trans' o3 (fun _ _ h => h)).trans' (Outside.putObj _ (.inr (.inr rfl)) _) (fun _ _ h => h)
        · intro k hk'
          rcases hV' k hk' with h | h
          · exact h3 k h
          · right; omega
        · intro k hk'
          rcases hV' k hk' with h | h
          · exact .inl h
          · right; omega
        · rw [hrec]; exact World.putObj_heap_same (hcell hl3)
        · exact (World.putObj_heap_other (by omega)).trans hk3
      have hV2 : ∀ V' : Nat → Prop, (∀ k, V' k → V1 k ∨ W.heap.size ≤ k) → ∀ k, (V' k ∨ k = w.heap.size ∨ k = w.heap.size + 1) → (V1 k ∨ k = w.heap.size ∨ k = w.heap.size + 1) ∨ W.heap.size ≤ k := by
        intro V' h k hk'
        rcases hk' with hk' | hk' | hk'
        · rcases h k hk' with h | h
          · exact .inl (.inl h)
          · exact .inr h
        · exact .inl (.inr (.inl hk'))
        · exact .inl (.inr (.inr hk'))
      rintro e a3 W3 hp
      cases e with
      | normal =>
        obtain ⟨ho3, V', hV', hi3⟩ := hp
        obtain ⟨W4, hr, q1, q2, q3, q4, q5, q6, q7, q8⟩ := fin none W3 V' (fun W => I V' (pre ++ [D]) W) ho3 hV' (fun A B => hI.steady _ _ A B) hi3
        exact ⟨_, W4, hr, q1, (fun k => V' k ∨ k = w.heap.size ∨ k = w.heap.size + 1), hV2 V' q5, .inl ⟨rfl, V', rfl, q2, q3, q4, q6, q7, q8⟩⟩
      | ret =>
        obtain ⟨ho3, V', hV', hi3⟩ := hp
        obtain ⟨W4, hr, q1, q2, q3, q4, q5, q6, q7, q8⟩ := fin (some .ret) W3 V' (fun W => Ix .ret V' (pre ++ [D]) W) ho3 hV' (fun A B => (hIx .ret).steady _ _ A B) hi3
        exact ⟨_, W4, hr, q1, (fun k => V' k ∨ k = w.heap.size ∨ k = w.heap.size + 1), hV2 V' q5, .inr ⟨rfl, V', rfl, q2, q3, q4, ⟨.ret, q6, q7⟩, q8⟩⟩
      | exit id =>
        obtain ⟨ho3, V', hV', hi3⟩ := hp
        obtain ⟨W4, hr, q1, q2, q3, q4, q5, q6, q7, q8⟩ := fin (some (.exit id)) W3 V' (fun W => Ix (.exit id) V' (pre ++ [D]) W) ho3 hV' (fun A B => (hIx (.exit id)).steady _ _ A B) hi3
        exact ⟨_, W4, hr, q1, (fun k => V' k ∨ k = w.heap.size ∨ k = w.heap.size + 1), hV2 V' q5, .inr ⟨rfl, V', rfl, q2, q3, q4, ⟨.exit id, q6, q7⟩, q8⟩⟩
      | goto t => exact hp.elim
      | panic ch => exact hp.elim
      | outgrown => exact hp.elim
    · exact ⟨V0, rfl, fun h => by have := hV0 _ h; omega, fun h => by have := hV0 _ h; omega, fun k h => .inl h, hI1, hL1, hK1⟩
    · -- behind the iterator
      rintro e W2 ⟨⟨v, rfl⟩, (⟨V', V1, rfl, h1, h2, h3, hi, hl, hk⟩ | ⟨V', pre, hpre, V1, rfl, h1, h2, h3, ⟨c, hi, hl⟩, hk⟩)⟩
      · exact ⟨none, _, by have := run_endLoop (P := P) hl (by rw [hrec]; simp); rw [hrec] at this; exact this, hdone _ V1 _ (Nat.le_refl _) h3 h1 (hI.steady _ _ _ _ hi (Inside.putObj (fun h => h.elim h2 (fun h => by have := hO _ h; omega)) _)) ((World.putObj_heap_other (by omega)).trans hk)⟩
      · exact ⟨some c, _, by have := run_endLoop (P := P) hl (by rw [hrec]; simp); rw [hrec] at this; exact this, hstop _ c V1 pre _ (Nat.le_refl _) h3 h1 hpre ((hIx c).steady _ _ _ _ hi (Inside.putObj (fun h => h.elim h2 (fun h => by have := hO _ h; omega)) _)) ((World.putObj_heap_other (by omega)).trans hk)⟩
end Go.Proofs.YtabdbgnkiebcdaaDoor

namespace Go.Proofs.YtabdbgnkiebcdaaDoor
set_option linter.unusedVariables false
set_option linter.unusedSimpArgs false
open Go.RowKit

/-- The byte at a place, 0 where there is none. -/
def byt (s : ByteArray) (i : Nat) : Nat := if h : i < s.size then (s[i]'h).toNat else 0
theorem byt_in {s : ByteArray} {i : Nat} (h : i < s.size) : byt s i = (s[i]'h).toNat := by unfold byt; rw [dif_pos h]
theorem byt_lt (s : ByteArray) (i : Nat) : byt s i < 256 := by
  unfold byt
  split
  · exact UInt8.toNat_lt _
  · omega
/-- What l11Read hands back. -/
def RetRead (W : List UInt8) (s : ByteArray) (w : World) (e : Ending) (w' : World) : Prop :=
  ∃ (a : Option Addr) (m c : Nat) (X : Nat → Int) (b : Bool), e = .returned (.tuple #[.slice a m c, .bool b]) ∧ m ≤ s.size ∧ Rd w' a m X ∧ Below w.heap.size w w' ∧
    ((b = true ∧ s = strU (wordsB W (numsL m X)) ∧ ∀ k, k < m → FewDig (X k)) ∨ (b = false ∧ NoWords W s.data.toList))

theorem owns_below {w w' : World} {base e n : Nat} {v : Value} {xs : List Value} (h : w.ownsRow base e 1 v n xs) (hb : Below w.heap.size w w') : w'.ownsRow base e 1 v n xs := by
  obtain ⟨k1, (k2 | ⟨g, cap, cur, k3, k4, k5, k6⟩)⟩ := h
  · exact ⟨k1, .inl k2⟩
  · exact ⟨k1, .inr ⟨g, cap, cur, k3, k4, (hb.block g (Array.getElem?_eq_some_iff.1 k5).1).trans k5, k6⟩⟩
theorem idx_byte {P : Program} (w : World) (t : TypeId) (s : ByteArray) (k : IntKind) (i : Nat) (h : P.underlying t = some .string) (hi : i < s.size) :
    (Instr.index t (.string s) (.int k (i : Nat))).run P w = .ok (.int .u8 (byt s i : Nat)) w := by
  rw [run_index_string w t s k i h, dif_pos (by omega), byt_in hi]; rfl
theorem bt_list {s : ByteArray} {i : Nat} (h : i < s.size) : s.data.toList[i]? = some (UInt8.ofNat (byt s i)) := by
  have h1 : i < s.data.toList.length := by rw [Array.length_toList]; exact h
  rw [List.getElem?_eq_getElem h1, byt_in h]
  congr 1
  show _ = UInt8.ofNat (s.data[i]'h).toNat
  rw [UInt8.ofNat_toNat, Array.getElem_toList]
theorem size_list (s : ByteArray) : s.data.toList.length = s.size := by rw [Array.length_toList]; rfl
theorem dig_bt {b : Nat} (h : b < 256) : DigB (UInt8.ofNat b) ↔ 48 ≤ b ∧ b ≤ 57 := by
  unfold DigB
  rw [UInt8.toNat_ofNat', show b % 2 ^ 8 = b by omega]
/-- The bytes from f up to e. -/
def cutL (s : ByteArray) (f e : Nat) : List UInt8 := (s.data.toList.drop f).take (e - f)
theorem cutL_nil (s : ByteArray) (f : Nat) : cutL s f f = [] := by unfold cutL; rw [Nat.sub_self]; rfl
theorem cutL_len {s : ByteArray} {f e : Nat} (h : f ≤ e) (he : e ≤ s.size) : (cutL s f e).length = e - f := by
  unfold cutL; rw [List.length_take, List.length_drop, size_list]; omega
theorem cutL_succ {s : ByteArray} {f e : Nat} (h : f ≤ e) (he : e < s.size) : cutL s f (e + 1) = cutL s f e ++ [UInt8.ofNat (byt s e)] := by
  have h1 := bt_list he
  unfold cutL
  rw [show e + 1 - f = (e - f) + 1 by omega, List.take_add_one, List.getElem?_drop, show f + (e - f) = e by omega, h1]
  rfl
theorem cutL_ext {s : ByteArray} {f e : Nat} : s.extract f e = strU (cutL s f e) := by
  apply ByteArray.ext
  rw [ByteArray.data_extract]
  apply Array.toList_inj.1
  show _ = (cutL s f e).toArray.toList
  simp [cutL]

/-- The digits from f on have been read as far as e. -/
def Digs (s : ByteArray) (f e v : Nat) : Prop := f ≤ e ∧ e ≤ s.size ∧ e - f ≤ 11 ∧ (∀ b ∈ cutL s f e, DigB b) ∧ v = numV 0 (cutL s f e)
theorem digs_zero {s : ByteArray} {f : Nat} (h : f ≤ s.size) : Digs s f f 0 := ⟨Nat.le_refl _, h, by omega, (by rw [cutL_nil]; intro b hb; cases hb), by rw [cutL_nil]; rfl⟩
theorem digs_lt {s : ByteArray} {f e v : Nat} (h : Digs s f e v) : v < 100000000000 := by
  have h1 := numV_lt (cutL s f e) 0 _ rfl h.2.2.2.1
  have h2 : (10 : Nat) ^ (cutL s f e).length ≤ 10 ^ 11 := Nat.pow_le_pow_right (by omega) (by rw [cutL_len h.1 h.2.1]; exact h.2.2.1)
  have h3 := h.2.2.2.2
  omega
theorem digs_succ {s : ByteArray} {f e v : Nat} (h : Digs s f e v) (he : e < s.size) (h11 : e - f < 11) (hb : 48 ≤ byt s e ∧ byt s e ≤ 57) : Digs s f (e + 1) (10 * v + (byt s e - 48)) := by
  obtain ⟨h1, h2, h3, h4, h5⟩ := h
  refine ⟨by omega, by omega, by omega, ?_, ?_⟩
  · rw [cutL_succ h1 he]
    intro c hc
    rcases List.mem_append.1 hc with hc | hc
    · exact h4 c hc
    · rw [List.mem_singleton] at hc
      subst hc
      exact (dig_bt (byt_lt s e)).2 hb
  · rw [cutL_succ h1 he, numV_append, ← h5]
    show _ = 10 * v + ((UInt8.ofNat (byt s e)).toNat - 48)
    rw [UInt8.toNat_ofNat', show byt s e % 2 ^ 8 = byt s e by have := byt_lt s e; omega]
/-- They go on no further. -/
def DigsEnd (s : ByteArray) (f e : Nat) : Prop := e - f = 11 ∨ ∀ b, s.data.toList[e]? = some b → ¬ DigB b
theorem end_size {s : ByteArray} {f e : Nat} (h : s.size ≤ e) : DigsEnd s f e := .inr fun b hb => by
  rw [List.getElem?_eq_none (by rw [size_list]; exact h)] at hb; cases hb
theorem end_byte {s : ByteArray} {f e : Nat} (h : e < s.size) (hb : ¬ (48 ≤ byt s e ∧ byt s e ≤ 57)) : DigsEnd s f e := .inr fun b h1 hd => by
  rw [bt_list h] at h1
  injection h1 with h1
  subst h1
  exact hb ((dig_bt (byt_lt s e)).1 hd)

theorem reads_digs {W : List UInt8} {s : ByteArray} {A : List Int} {k e v : Nat} (h : Reads W s.data.toList A k) (hk : k < s.size) (hd : Digs s (k + 1) e v) (he : DigsEnd s (k + 1) e) :
    ((byt s k = 32 ∧ e ≠ k + 1 ∧ s.extract (k + 1) e = strU (Lib.decDigits v)) → Reads W s.data.toList (A ++ [(v : Int)]) e) ∧
    (¬ (byt s k = 32 ∧ e ≠ k + 1 ∧ s.extract (k + 1) e = strU (Lib.decDigits v)) → NoWords W s.data.toList) := by
  obtain ⟨h1, h2, h3, h4, h5⟩ := hd
  have hc := bt_list hk
  have hlt := byt_lt s k
  obtain ⟨r1, r2⟩ := reads_step W s.data.toList A k e _ (cutL s (k + 1) e) h hc h1 (by rw [size_list]; exact h2) h3 rfl h4 he
  have e1 : UInt8.ofNat (byt s k) = 32 ↔ byt s k = 32 := by
    constructor
    · intro h
      have h6 := congrArg UInt8.toNat h
      rw [UInt8.toNat_ofNat', show byt s k % 2 ^ 8 = byt s k by omega] at h6
      exact h6
    · intro h; rw [h]; rfl
  have e2 : cutL s (k + 1) e ≠ [] ↔ e ≠ k + 1 := by
    have hl := cutL_len h1 h2
    constructor
    · intro h h'; subst h'; exact h (cutL_nil s _)
    · intro h h'; rw [h'] at hl; simp at hl; omega
  have e3 : cutL s (k + 1) e = Lib.decDigits (numV 0 (cutL s (k + 1) e)) ↔ s.extract (k + 1) e = strU (Lib.decDigits v) := by
    rw [cutL_ext, ← h5]
    constructor
    · intro h; exact congrArg strU h
    · intro h
      have := congrArg (fun z => z.data.toList) h
      simpa only [strU_list] using this
  rw [e1, e2, e3, ← h5] at r1
  rw [e1, e2, e3] at r2
  exact ⟨r1, r2⟩

set_option maxRecDepth 100000 in
set_option maxHeartbeats 6400000 in
theorem l11Read_any (W : List UInt8) (s : ByteArray) (w : World) (hW : W.length ≤ 100) (hs : s.size ≤ 1048576) :
    Calls Tryd.prog 45 #[.string s, .string (strU W)] w (RetRead W s w) := by
  obtain ⟨i0, hi, hz0, hz1, hz2⟩ := info_parts Tryd.infoInt
  have zW : (strU W).size = W.length := strU_size W
  have hl := size_list s
  by_cases h1 : s.size < W.length
  · have d1 : decide ((s.size : Int) < (W.length : Int)) = true := decide_eq_true (by omega)
    have d1n : decide (s.size < W.length) = true := decide_eq_true h1
    have NW := Lib.hid (no_prefix W s.data.toList (.inl (by rw [hl]; exact h1)))
    clear hl h1
    go_enter Tryd.func45, Tryd.ntmps45
    go_wp2_with fail
    go_ret2
    exact ⟨_, 0, _, fun _ => 0, _, rfl, Nat.zero_le _, (fun k h => absurd h (Nat.not_lt_zero _)), below_alloc (Below.refl _ _) _, .inr ⟨rfl, NW.out⟩⟩
  · have d1 : decide ((s.size : Int) < (W.length : Int)) = false := decide_eq_false (by omega)
    have d1n : decide (s.size < W.length) = false := decide_eq_false h1
    have i1 : (0 : Int) ≤ (W.length : Int) := by omega
    have i2 : (W.length : Int) ≤ (s.size : Int) := by omega
    have hx : (s.extract 0 W.length).toList = s.data.toList.take W.length := by
      rw [ByteArray.toList_eq]
      rw [show s.extract 0 W.length = strU (cutL s 0 W.length) from cutL_ext, strU_list]
      unfold cutL
      rw [List.drop_zero, Nat.sub_zero]
    have hy : (strU W).toList = W := by rw [ByteArray.toList_eq]; exact strU_list W
    by_cases h2 : s.data.toList.take W.length = W
    · have d2 : ((s.extract 0 W.length).toList == (strU W).toList) = true := by rw [hx, hy, h2]; simp
      have R0 := Lib.hid (reads_zero W s.data.toList (by omega) h2)
      have HS := Lib.hid hs
      have hWs : W.length ≤ s.size := by omega
      clear hx hy h1 h2 hl
      go_enter Tryd.func45, Tryd.ntmps45
      go_wp2_with fail
      have O0 := Lib.hid (owns_empty (W := w.alloc (.cells #[] 3)) (base := w.heap.size) (heap_alloc_new w _) (Nat.le_refl _))
      have B0 := Lib.hid (below_alloc (Below.refl w.heap.size w) (.cells #[] 3))
      go_loopw [6, 7, 8, 9, 10] (fun ot at_ _ _ _ wr => ∃ (A : List Int) (k : Nat), at_ = .int .i64 (k : Nat) ∧ Reads W s.data.toList A k ∧ A.length ≤ k ∧ k ≤ s.size ∧ ∃ rv, rv = ot ∧ wr.ownsRow w.heap.size 3 1 rv A.length (A.map (Value.int .i64)) ∧ Below w.heap.size w wr) (fun _ at_ _ _ _ _ => s.size - (intOf at_).toNat)
      case atStart => exact ⟨[], W.length, rfl, R0.out, Nat.zero_le _, hWs, _, rfl, O0.out, B0.out⟩
      case round =>
        obtain ⟨A, k, rfl, hR, hAk, hks, rv, rfl, hown, hB⟩ := hrel
        clear R0 O0 B0 d2
        rename World => wo
        have RD := Lib.hid hR
        have OW := Lib.hid hown
        have BW := Lib.hid hB
        have HK := Lib.hid hks
        have HAK := Lib.hid hAk
        have hs1 := HS.out
        clear hR hown hB hWs hAk
        by_cases hlt : k < s.size
        · have e1 : decide ((k : Int) < (s.size : Int)) = true := decide_eq_true (by omega)
          have e1n : decide (k < s.size) = true := decide_eq_true hlt
          obtain ⟨f, hf⟩ : ∃ f, f = k + 1 := ⟨_, rfl⟩
          have hwf : IntKind.i64.wrap ((k : Int) + 1) = (f : Int) := by rw [IntWalk.i64_in _ (by omega)]; omega
          have HF := Lib.hid hf
          have hfs : f ≤ s.size := by omega
          have HL := Lib.hid hlt
          have D0 := Lib.hid (digs_zero (s := s) (f := f) hfs)
          clear hlt hf hks
          go_wp2_with fail
          go_loop [9, 10] (fun en vv => ∃ e v : Nat, en = .int .i64 (e : Nat) ∧ vv = .int .i64 (v : Nat) ∧ Digs s f e v) (fun en _ => s.size - (intOf en).toNat)
          case atStart => exact ⟨f, 0, rfl, rfl, D0.out⟩
          case round =>
            obtain ⟨e, v, rfl, rfl, hD⟩ := hrel
            have DG := Lib.hid hD
            have hv := digs_lt hD
            have h1 := hD.1
            have h2 := hD.2.1
            have h3 := hD.2.2.1
            have RDG := Lib.hid (fun (he : DigsEnd s f e) => reads_digs RD.out HL.out (by rw [← HF.out]; exact hD) (by rw [← HF.out]; exact he))
            have hsub : wrap64 ((e : Int) - (f : Int)) = (e : Int) - (f : Int) := IntWalk.wrap64_in _ (by omega)
            have hsub2 : IntKind.i64.wrap ((e : Int) - (f : Int)) = (e : Int) - (f : Int) := by rw [IntWalk.i64_in _ (by omega)]
            obtain ⟨b, hb⟩ : ∃ b, b = byt s e := ⟨_, rfl⟩
            have HBB := Lib.hid hb
            have hb256 : b < 256 := by rw [hb]; exact byt_lt s e
            clear hD D0 d1 d1n
            by_cases hgo : e < s.size ∧ (48 ≤ b ∧ b ≤ 57) ∧ e - f < 11
            · obtain ⟨g1, ⟨g2, g3⟩, g4⟩ := hgo
              have k1 : decide ((e : Int) < (s.size : Int)) = true := decide_eq_true (by omega)
              have k1n : decide (e < s.size) = true := decide_eq_true g1
              have k2 : decide ((48 : Int) ≤ (b : Int)) = true := decide_eq_true (by omega)
              have k2n : decide (48 ≤ b) = true := decide_eq_true g2
              have k3 : decide ((b : Int) ≤ 57) = true := decide_eq_true (by omega)
              have k3n : decide (b ≤ 57) = true := decide_eq_true g3
              have k4 : decide ((e : Int) - (f : Int) < 11) = true := decide_eq_true (by omega)
              have hix : ∀ w : World, (Instr.index 9 (.string s) (.int .i64 (e : Nat))).run Tryd.prog w = .ok (.int .u8 (b : Nat)) w := fun w => by rw [hb]; exact idx_byte w _ s _ e Tryd.underlying9 g1
              obtain ⟨d, hd⟩ : ∃ d, d = b - 48 := ⟨_, rfl⟩
              have hw8 : IntKind.u8.wrap ((b : Int) - 48) = (d : Int) := by rw [IntKind.wrap_u8]; omega
              have hw8b : ((b : Int) - 48) % 256 = (d : Int) := by omega
              have hwd : IntKind.i64.wrap (d : Int) = (d : Int) := by rw [IntWalk.i64_in _ (by omega)]
              obtain ⟨v10, hv10⟩ : ∃ v10, v10 = 10 * v := ⟨_, rfl⟩
              have hw10 : IntKind.i64.wrap (10 * (v : Int)) = (v10 : Int) := by rw [IntWalk.i64_in _ (by omega)]; omega
              obtain ⟨v', hv'⟩ : ∃ v', v' = v10 + d := ⟨_, rfl⟩
              have hwv : IntKind.i64.wrap ((v10 : Int) + (d : Int)) = (v' : Int) := by rw [IntWalk.i64_in _ (by omega)]; omega
              have ND := Lib.hid (show Digs s f (e + 1) v' by rw [hv', hv10, hd, hb]; exact digs_succ DG.out g1 g4 (by rw [← hb]; exact ⟨g2, g3⟩))
              clear hv' hv10 hd hb g2 g3 g4 hsub2
              go_wp2_with fail
              go_round
              case rel => exact ⟨e + 1, v', by go_num, rfl, ND.out⟩
              case measure => simp [intOf]; omega
            · have stp : DigsEnd s f e := by
                by_cases g1 : e < s.size
                · by_cases g2 : 48 ≤ b ∧ b ≤ 57
                  · exact .inl (by have : ¬ e - f < 11 := fun h => hgo ⟨g1, g2, h⟩; omega)
                  · exact end_byte g1 (by rw [← hb]; exact g2)
                · exact end_size (by omega)
              have RS := Lib.hid (RDG.out stp)
              clear RDG stp
              obtain ⟨c, hc⟩ : ∃ c, c = byt s k := ⟨_, rfl⟩
              have HC := Lib.hid hc
              have hixk : ∀ w : World, (Instr.index 9 (.string s) (.int .i64 (k : Nat))).run Tryd.prog w = .ok (.int .u8 (c : Nat)) w := fun w => by rw [hc]; exact idx_byte w _ s _ k Tryd.underlying9 HL.out
              have hv62 : v < 4611686018427387904 := by omega
              have DEC := Lib.hid (fun (r : Later wo) => l6Dec_any v r.W hv62)
              have i1 : (0 : Int) ≤ (f : Int) := by omega
              have i2 : (f : Int) ≤ (e : Int) := by omega
              have i3 : (e : Int) ≤ (s.size : Int) := by omega
              have GOON := Lib.hid hgo
              rw [← hc] at RS
              clear hc
              by_cases c1 : c = 32
              · have q1 : ((c : Int) != 32) = false := by rw [c1]; rfl
                by_cases c2 : e = f
                · have NW := Lib.hid (RS.out.2 (fun h => h.2.1 (by rw [c2]; exact HF.out)))
                  clear RS
                  subst c2
                  have q2 : ((e : Int) == (e : Int)) = true := by simp
                  have q2n : (e == e) = true := by simp
                  by_cases g1 : e < s.size
                  · have hix : ∀ w : World, (Instr.index 9 (.string s) (.int .i64 (e : Nat))).run Tryd.prog w = .ok (.int .u8 (b : Nat)) w := fun w => by rw [hb]; exact idx_byte w _ s _ e Tryd.underlying9 g1
                    have k1 : decide ((e : Int) < (s.size : Int)) = true := decide_eq_true (by omega)
                    have k1n : decide (e < s.size) = true := decide_eq_true g1
                    by_cases g2 : 48 ≤ b
                    · have k2 : decide ((48 : Int) ≤ (b : Int)) = true := decide_eq_true (by omega)
                      have k2n : decide (48 ≤ b) = true := decide_eq_true g2
                      by_cases g3 : b ≤ 57
                      · have k3 : decide ((b : Int) ≤ 57) = true := decide_eq_true (by omega)
                        have k3n : decide (b ≤ 57) = true := decide_eq_true g3
                        exact absurd ⟨g1, ⟨g2, g3⟩, by omega⟩ GOON.out
                      · have k3 : decide ((b : Int) ≤ 57) = false := decide_eq_false (by omega)
                        have k3n : decide (b ≤ 57) = false := decide_eq_false g3
                        clear hb g2 g3 hsub2
                        go_wp2_with fail
                        go_quiet (fail)
                        go_wp2_with fail
                        go_ret2
                        exact ⟨_, 0, _, fun _ => 0, _, rfl, Nat.zero_le _, (fun k h => absurd h (Nat.not_lt_zero _)), below_alloc (below_drewN BW.out _) _, .inr ⟨rfl, NW.out⟩⟩
                    · have k2 : decide ((48 : Int) ≤ (b : Int)) = false := decide_eq_false (by omega)
                      have k2n : decide (48 ≤ b) = false := decide_eq_false g2
                      clear hb g2 hsub2
                      go_wp2_with fail
                      go_quiet (fail)
                      go_wp2_with fail
                      go_ret2
                      exact ⟨_, 0, _, fun _ => 0, _, rfl, Nat.zero_le _, (fun k h => absurd h (Nat.not_lt_zero _)), below_alloc (below_drewN BW.out _) _, .inr ⟨rfl, NW.out⟩⟩
                  · have k1 : decide ((e : Int) < (s.size : Int)) = false := decide_eq_false (by omega)
                    have k1n : decide (e < s.size) = false := decide_eq_false g1
                    clear hb hsub2
                    go_wp2_with fail
                    go_quiet (fail)
                    go_wp2_with fail
                    go_ret2
                    exact ⟨_, 0, _, fun _ => 0, _, rfl, Nat.zero_le _, (fun k h => absurd h (Nat.not_lt_zero _)), below_alloc (below_drewN BW.out _) _, .inr ⟨rfl, NW.out⟩⟩
                · have q2 : ((e : Int) == (f : Int)) = false := by simp; omega
                  have q2n : (e == f) = false := by simpa using c2
                  by_cases c3 : s.extract f e = strU (Lib.decDigits v)
                  · have q3 : ((s.extract f e).toList == (strU (Lib.decDigits v)).toList) = true := by rw [c3]; simp
                    have NR := Lib.hid (RS.out.1 ⟨c1, by rw [← HF.out]; exact c2, by rw [← HF.out]; exact c3⟩)
                    clear RS
                    by_cases g1 : e < s.size
                    · have hix : ∀ w : World, (Instr.index 9 (.string s) (.int .i64 (e : Nat))).run Tryd.prog w = .ok (.int .u8 (b : Nat)) w := fun w => by rw [hb]; exact idx_byte w _ s _ e Tryd.underlying9 g1
                      have k1 : decide ((e : Int) < (s.size : Int)) = true := decide_eq_true (by omega)
                      have k1n : decide (e < s.size) = true := decide_eq_true g1
                      by_cases g2 : 48 ≤ b
                      · have k2 : decide ((48 : Int) ≤ (b : Int)) = true := decide_eq_true (by omega)
                        have k2n : decide (48 ≤ b) = true := decide_eq_true g2
                        by_cases g3 : b ≤ 57
                        · have k3 : decide ((b : Int) ≤ 57) = true := decide_eq_true (by omega)
                          have k3n : decide (b ≤ 57) = true := decide_eq_true g3
                          have k4 : decide ((e : Int) - (f : Int) < 11) = false := decide_eq_false (by have : ¬ e - f < 11 := fun h => GOON.out ⟨g1, ⟨g2, g3⟩, h⟩; omega)
                          clear hb g2 g3 hsub2
                          go_wp2_with fail
                          refine wp_region_later (by kernel_rfl) (by kernel_rfl) ?_
                          repeat go_big_quiet_step ((go_at_call 77; exact calls_later _ (DEC.out _)))
                          refine wpQuiet_nil ?_
                          rintro _ ⟨r, rfl⟩
                          have OR := Lib.hid (owns_below OW.out r.h)
                          have BR := Lib.hid (BW.out.trans (r.h.mono BW.out.size))
                          have hAs : A.length ≤ 1048576 := by have h8 := HAK.out; have h9 := HK.out; omega
                          have hbz := BR.out.size
                          clear DEC
                          go_wp2_with (at_builtin; refine wpList_append_lies _ (by rfl) (.tmp 86) (.tmp 88) 32 (by rfl) w.heap.size 3 i0 (.int .i64 0) 1 8 Tryd.underlying32 hi hz0 hz1 hz2 (by rfl) (by decide) rv A.length (A.map (Value.int .i64)) (by rfl) (OR.out.alloc _) ⟨_, 0, none⟩ 1 1 [.int .i64 (v : Nat)] (by rfl) (by rfl) (news_one (by simp)) (by simp [Value.oneCell']) (by omega) (by unfold maxLen; omega) (by omega) (by simp; omega) _ rfl ?_; intro g2 cap2 w2 hown2 hgrow2 hat2 hlt2; have N2 := Lib.hid hown2; have G2 := Lib.hid hgrow2; clear hown2 hgrow2 hat2)
                          go_roundw
                          case rel =>
                            have hcl : ∀ g, rv.ownBlock = some g → w.heap.size ≤ g := fun g h => (OW.out.lt g h).1
                            have h5 := N2.out
                            refine ⟨A ++ [(v : Int)], e, rfl, NR.out, by have := HAK.out; have := HF.out; simp; omega, by omega, _, rfl, ?_, (below_alloc BR.out _).grown G2.out (by simp; omega) hcl⟩
                            rw [List.length_append, List.map_append]
                            exact h5
                          case measure => have := HF.out; simp [intOf]; omega
                        · have k3 : decide ((b : Int) ≤ 57) = false := decide_eq_false (by omega)
                          have k3n : decide (b ≤ 57) = false := decide_eq_false g3
                          clear hb g2 g3 hsub2
                          go_wp2_with fail
                          refine wp_region_later (by kernel_rfl) (by kernel_rfl) ?_
                          repeat go_big_quiet_step ((go_at_call 77; exact calls_later _ (DEC.out _)))
                          refine wpQuiet_nil ?_
                          rintro _ ⟨r, rfl⟩
                          have OR := Lib.hid (owns_below OW.out r.h)
                          have BR := Lib.hid (BW.out.trans (r.h.mono BW.out.size))
                          have hAs : A.length ≤ 1048576 := by have h8 := HAK.out; have h9 := HK.out; omega
                          have hbz := BR.out.size
                          clear DEC
                          go_wp2_with (at_builtin; refine wpList_append_lies _ (by rfl) (.tmp 86) (.tmp 88) 32 (by rfl) w.heap.size 3 i0 (.int .i64 0) 1 8 Tryd.underlying32 hi hz0 hz1 hz2 (by rfl) (by decide) rv A.length (A.map (Value.int .i64)) (by rfl) (OR.out.alloc _) ⟨_, 0, none⟩ 1 1 [.int .i64 (v : Nat)] (by rfl) (by rfl) (news_one (by simp)) (by simp [Value.oneCell']) (by omega) (by unfold maxLen; omega) (by omega) (by simp; omega) _ rfl ?_; intro g2 cap2 w2 hown2 hgrow2 hat2 hlt2; have N2 := Lib.hid hown2; have G2 := Lib.hid hgrow2; clear hown2 hgrow2 hat2)
                          go_roundw
                          case rel =>
                            have hcl : ∀ g, rv.ownBlock = some g → w.heap.size ≤ g := fun g h => (OW.out.lt g h).1
                            have h5 := N2.out
                            refine ⟨A ++ [(v : Int)], e, rfl, NR.out, by have := HAK.out; have := HF.out; simp; omega, by omega, _, rfl, ?_, (below_alloc BR.out _).grown G2.out (by simp; omega) hcl⟩
                            rw [List.length_append, List.map_append]
                            exact h5
                          case measure => have := HF.out; simp [intOf]; omega
                      · have k2 : decide ((48 : Int) ≤ (b : Int)) = false := decide_eq_false (by omega)
                        have k2n : decide (48 ≤ b) = false := decide_eq_false g2
                        clear hb g2 hsub2
                        go_wp2_with fail
                        refine wp_region_later (by kernel_rfl) (by kernel_rfl) ?_
                        repeat go_big_quiet_step ((go_at_call 77; exact calls_later _ (DEC.out _)))
                        refine wpQuiet_nil ?_
                        rintro _ ⟨r, rfl⟩
                        have OR := Lib.hid (owns_below OW.out r.h)
                        have BR := Lib.hid (BW.out.trans (r.h.mono BW.out.size))
                        have hAs : A.length ≤ 1048576 := by have h8 := HAK.out; have h9 := HK.out; omega
                        have hbz := BR.out.size
                        clear DEC
                        go_wp2_with (at_builtin; refine wpList_append_lies _ (by rfl) (.tmp 86) (.tmp 88) 32 (by rfl) w.heap.size 3 i0 (.int .i64 0) 1 8 Tryd.underlying32 hi hz0 hz1 hz2 (by rfl) (by decide) rv A.length (A.map (Value.int .i64)) (by rfl) (OR.out.alloc _) ⟨_, 0, none⟩ 1 1 [.int .i64 (v : Nat)] (by rfl) (by rfl) (news_one (by simp)) (by simp [Value.oneCell']) (by omega) (by unfold maxLen; omega) (by omega) (by simp; omega) _ rfl ?_; intro g2 cap2 w2 hown2 hgrow2 hat2 hlt2; have N2 := Lib.hid hown2; have G2 := Lib.hid hgrow2; clear hown2 hgrow2 hat2)
                        go_roundw
                        case rel =>
                          have hcl : ∀ g, rv.ownBlock = some g → w.heap.size ≤ g := fun g h => (OW.out.lt g h).1
                          have h5 := N2.out
                          refine ⟨A ++ [(v : Int)], e, rfl, NR.out, by have := HAK.out; have := HF.out; simp; omega, by omega, _, rfl, ?_, (below_alloc BR.out _).grown G2.out (by simp; omega) hcl⟩
                          rw [List.length_append, List.map_append]
                          exact h5
                        case measure => have := HF.out; simp [intOf]; omega
                    · have k1 : decide ((e : Int) < (s.size : Int)) = false := decide_eq_false (by omega)
                      have k1n : decide (e < s.size) = false := decide_eq_false g1
                      clear hb hsub2
                      go_wp2_with fail
                      refine wp_region_later (by kernel_rfl) (by kernel_rfl) ?_
                      repeat go_big_quiet_step ((go_at_call 77; exact calls_later _ (DEC.out _)))
                      refine wpQuiet_nil ?_
                      rintro _ ⟨r, rfl⟩
                      have OR := Lib.hid (owns_below OW.out r.h)
                      have BR := Lib.hid (BW.out.trans (r.h.mono BW.out.size))
                      have hAs : A.length ≤ 1048576 := by have h8 := HAK.out; have h9 := HK.out; omega
                      have hbz := BR.out.size
                      clear DEC
                      go_wp2_with (at_builtin; refine wpList_append_lies _ (by rfl) (.tmp 86) (.tmp 88) 32 (by rfl) w.heap.size 3 i0 (.int .i64 0) 1 8 Tryd.underlying32 hi hz0 hz1 hz2 (by rfl) (by decide) rv A.length (A.map (Value.int .i64)) (by rfl) (OR.out.alloc _) ⟨_, 0, none⟩ 1 1 [.int .i64 (v : Nat)] (by rfl) (by rfl) (news_one (by simp)) (by simp [Value.oneCell']) (by omega) (by unfold maxLen; omega) (by omega) (by simp; omega) _ rfl ?_; intro g2 cap2 w2 hown2 hgrow2 hat2 hlt2; have N2 := Lib.hid hown2; have G2 := Lib.hid hgrow2; clear hown2 hgrow2 hat2)
                      go_roundw
                      case rel =>
                        have hcl : ∀ g, rv.ownBlock = some g → w.heap.size ≤ g := fun g h => (OW.out.lt g h).1
                        have h5 := N2.out
                        refine ⟨A ++ [(v : Int)], e, rfl, NR.out, by have := HAK.out; have := HF.out; simp; omega, by omega, _, rfl, ?_, (below_alloc BR.out _).grown G2.out (by simp; omega) hcl⟩
                        rw [List.length_append, List.map_append]
                        exact h5
                      case measure => have := HF.out; simp [intOf]; omega
                  · have q3 : ((s.extract f e).toList == (strU (Lib.decDigits v)).toList) = false := by
                      rw [beq_eq_false_iff_ne]
                      intro h
                      rw [ByteArray.toList_eq, ByteArray.toList_eq] at h
                      exact c3 (ByteArray.ext (Array.toList_inj.1 h))
                    have NW := Lib.hid (RS.out.2 (fun h => c3 (by rw [HF.out]; exact h.2.2)))
                    clear RS
                    by_cases g1 : e < s.size
                    · have hix : ∀ w : World, (Instr.index 9 (.string s) (.int .i64 (e : Nat))).run Tryd.prog w = .ok (.int .u8 (b : Nat)) w := fun w => by rw [hb]; exact idx_byte w _ s _ e Tryd.underlying9 g1
                      have k1 : decide ((e : Int) < (s.size : Int)) = true := decide_eq_true (by omega)
                      have k1n : decide (e < s.size) = true := decide_eq_true g1
                      by_cases g2 : 48 ≤ b
                      · have k2 : decide ((48 : Int) ≤ (b : Int)) = true := decide_eq_true (by omega)
                        have k2n : decide (48 ≤ b) = true := decide_eq_true g2
                        by_cases g3 : b ≤ 57
                        · have k3 : decide ((b : Int) ≤ 57) = true := decide_eq_true (by omega)
                          have k3n : decide (b ≤ 57) = true := decide_eq_true g3
                          have k4 : decide ((e : Int) - (f : Int) < 11) = false := decide_eq_false (by have : ¬ e - f < 11 := fun h => GOON.out ⟨g1, ⟨g2, g3⟩, h⟩; omega)
                          clear hb g2 g3 hsub2
                          go_wp2_with fail
                          refine wp_region_later (by kernel_rfl) (by kernel_rfl) ?_
                          repeat go_big_quiet_step ((go_at_call 77; exact calls_later _ (DEC.out _)))
                          refine wpQuiet_nil ?_
                          rintro _ ⟨r, rfl⟩
                          go_wp2_with fail
                          go_ret2
                          exact ⟨_, 0, _, fun _ => 0, _, rfl, Nat.zero_le _, (fun k h => absurd h (Nat.not_lt_zero _)), below_alloc (BW.out.trans (r.h.mono BW.out.size)) _, .inr ⟨rfl, NW.out⟩⟩
                        · have k3 : decide ((b : Int) ≤ 57) = false := decide_eq_false (by omega)
                          have k3n : decide (b ≤ 57) = false := decide_eq_false g3
                          clear hb g2 g3 hsub2
                          go_wp2_with fail
                          refine wp_region_later (by kernel_rfl) (by kernel_rfl) ?_
                          repeat go_big_quiet_step ((go_at_call 77; exact calls_later _ (DEC.out _)))
                          refine wpQuiet_nil ?_
                          rintro _ ⟨r, rfl⟩
                          go_wp2_with fail
                          go_ret2
                          exact ⟨_, 0, _, fun _ => 0, _, rfl, Nat.zero_le _, (fun k h => absurd h (Nat.not_lt_zero _)), below_alloc (BW.out.trans (r.h.mono BW.out.size)) _, .inr ⟨rfl, NW.out⟩⟩
                      · have k2 : decide ((48 : Int) ≤ (b : Int)) = false := decide_eq_false (by omega)
                        have k2n : decide (48 ≤ b) = false := decide_eq_false g2
                        clear hb g2 hsub2
                        go_wp2_with fail
                        refine wp_region_later (by kernel_rfl) (by kernel_rfl) ?_
                        repeat go_big_quiet_step ((go_at_call 77; exact calls_later _ (DEC.out _)))
                        refine wpQuiet_nil ?_
                        rintro _ ⟨r, rfl⟩
                        go_wp2_with fail
                        go_ret2
                        exact ⟨_, 0, _, fun _ => 0, _, rfl, Nat.zero_le _, (fun k h => absurd h (Nat.not_lt_zero _)), below_alloc (BW.out.trans (r.h.mono BW.out.size)) _, .inr ⟨rfl, NW.out⟩⟩
                    · have k1 : decide ((e : Int) < (s.size : Int)) = false := decide_eq_false (by omega)
                      have k1n : decide (e < s.size) = false := decide_eq_false g1
                      clear hb hsub2
                      go_wp2_with fail
                      refine wp_region_later (by kernel_rfl) (by kernel_rfl) ?_
                      repeat go_big_quiet_step ((go_at_call 77; exact calls_later _ (DEC.out _)))
                      refine wpQuiet_nil ?_
                      rintro _ ⟨r, rfl⟩
                      go_wp2_with fail
                      go_ret2
                      exact ⟨_, 0, _, fun _ => 0, _, rfl, Nat.zero_le _, (fun k h => absurd h (Nat.not_lt_zero _)), below_alloc (BW.out.trans (r.h.mono BW.out.size)) _, .inr ⟨rfl, NW.out⟩⟩
              · have q1 : ((c : Int) != 32) = true := by simp; omega
                have NW := Lib.hid (RS.out.2 (fun h => c1 h.1))
                clear RS
                by_cases g1 : e < s.size
                · have hix : ∀ w : World, (Instr.index 9 (.string s) (.int .i64 (e : Nat))).run Tryd.prog w = .ok (.int .u8 (b : Nat)) w := fun w => by rw [hb]; exact idx_byte w _ s _ e Tryd.underlying9 g1
                  have k1 : decide ((e : Int) < (s.size : Int)) = true := decide_eq_true (by omega)
                  have k1n : decide (e < s.size) = true := decide_eq_true g1
                  by_cases g2 : 48 ≤ b
                  · have k2 : decide ((48 : Int) ≤ (b : Int)) = true := decide_eq_true (by omega)
                    have k2n : decide (48 ≤ b) = true := decide_eq_true g2
                    by_cases g3 : b ≤ 57
                    · have k3 : decide ((b : Int) ≤ 57) = true := decide_eq_true (by omega)
                      have k3n : decide (b ≤ 57) = true := decide_eq_true g3
                      have k4 : decide ((e : Int) - (f : Int) < 11) = false := decide_eq_false (by have : ¬ e - f < 11 := fun h => GOON.out ⟨g1, ⟨g2, g3⟩, h⟩; omega)
                      clear hb g2 g3 hsub2
                      go_wp2_with fail
                      go_quiet (fail)
                      go_wp2_with fail
                      go_ret2
                      exact ⟨_, 0, _, fun _ => 0, _, rfl, Nat.zero_le _, (fun k h => absurd h (Nat.not_lt_zero _)), below_alloc (below_drewN BW.out _) _, .inr ⟨rfl, NW.out⟩⟩
                    · have k3 : decide ((b : Int) ≤ 57) = false := decide_eq_false (by omega)
                      have k3n : decide (b ≤ 57) = false := decide_eq_false g3
                      clear hb g2 g3 hsub2
                      go_wp2_with fail
                      go_quiet (fail)
                      go_wp2_with fail
                      go_ret2
                      exact ⟨_, 0, _, fun _ => 0, _, rfl, Nat.zero_le _, (fun k h => absurd h (Nat.not_lt_zero _)), below_alloc (below_drewN BW.out _) _, .inr ⟨rfl, NW.out⟩⟩
                  · have k2 : decide ((48 : Int) ≤ (b : Int)) = false := decide_eq_false (by omega)
                    have k2n : decide (48 ≤ b) = false := decide_eq_false g2
                    clear hb g2 hsub2
                    go_wp2_with fail
                    go_quiet (fail)
                    go_wp2_with fail
                    go_ret2
                    exact ⟨_, 0, _, fun _ => 0, _, rfl, Nat.zero_le _, (fun k h => absurd h (Nat.not_lt_zero _)), below_alloc (below_drewN BW.out _) _, .inr ⟨rfl, NW.out⟩⟩
                · have k1 : decide ((e : Int) < (s.size : Int)) = false := decide_eq_false (by omega)
                  have k1n : decide (e < s.size) = false := decide_eq_false g1
                  clear hb hsub2
                  go_wp2_with fail
                  go_quiet (fail)
                  go_wp2_with fail
                  go_ret2
                  exact ⟨_, 0, _, fun _ => 0, _, rfl, Nat.zero_le _, (fun k h => absurd h (Nat.not_lt_zero _)), below_alloc (below_drewN BW.out _) _, .inr ⟨rfl, NW.out⟩⟩
        · obtain rfl : k = s.size := by have := HK.out; omega
          have e1 : decide ((s.size : Int) < (s.size : Int)) = false := decide_eq_false (by omega)
          have e1n : decide (s.size < s.size) = false := decide_eq_false (by omega)
          have RE := Lib.hid (show s = strU (wordsB W A) ∧ FewAll A from by
            have h := RD.out
            rw [← size_list s] at h
            obtain ⟨h1, h2⟩ := reads_end W _ A h
            exact ⟨by rw [← h1, strU_of], h2⟩)
          have hAs : A.length ≤ s.size := HAK.out
          go_wp2_with fail
          go_ret2
          obtain ⟨a9, c9, rfl⟩ : ∃ a c, rv = .slice a A.length c := by
            obtain ⟨_, (⟨h1, h0⟩ | ⟨g, cap, _, hv, _⟩)⟩ := OW.out
            · exact ⟨none, 0, by rw [h1, h0]⟩
            · exact ⟨some ⟨g, 0, none⟩, cap, hv⟩
          have hnL : numsL A.length (nth A) = A := by
            unfold numsL nth
            apply List.ext_getElem
            · simp
            · intro i h1 h2
              simp [List.getD_eq_getElem?_getD, List.getElem?_eq_getElem h2]
          refine ⟨a9, A.length, c9, nth A, true, rfl, hAs, ?_, BW.out, .inl ⟨rfl, by rw [hnL]; exact RE.out.1, fun k hk => RE.out.2 _ (by
            have : nth A k ∈ numsL A.length (nth A) := numsL_mem.2 ⟨k, hk, rfl⟩
            rwa [hnL] at this)⟩⟩
          have h6 := OW.out
          rw [show A.map (Value.int .i64) = cellsL A.length (nth A) from by
            unfold cellsL nth
            apply List.ext_getElem
            · simp
            · intro i h1 h2
              simp at h1
              simp [List.getD_eq_getElem?_getD, List.getElem?_eq_getElem h1]] at h6
          obtain ⟨_, (⟨h1, h0⟩ | ⟨g, cap, _, hv, _⟩)⟩ := id h6
          · exact fun k h => absurd h (by rw [h0]; exact Nat.not_lt_zero _)
          · injection hv with hv1 hv2 hv3
            subst hv1 hv3
            exact owns_rd h6
    · have d2 : ((s.extract 0 W.length).toList == (strU W).toList) = false := by
        rw [hx, hy]; simpa using h2
      have NW := Lib.hid (no_prefix W s.data.toList (.inr h2))
      clear hx hy h1 h2 hl
      go_enter Tryd.func45, Tryd.ntmps45
      go_wp2_with fail
      go_ret2
      exact ⟨_, 0, _, fun _ => 0, _, rfl, Nat.zero_le _, (fun k h => absurd h (Nat.not_lt_zero _)), below_alloc (Below.refl _ _) _, .inr ⟨rfl, NW.out⟩⟩

theorem numsL_nthR (L : List Int) : numsL L.length (nth L) = L := by
  unfold numsL nth
  apply List.ext_getElem
  · simp
  · intro i h1 h2
    simp [List.getD_eq_getElem?_getD, List.getElem?_eq_getElem h2]
theorem read_yes {W : List UInt8} {L : List Int} {t : ByteArray} (w : World) (hW : W.length ≤ 100) (hs : t.size ≤ 1048576) (hL : FewAll L) (ht : t = strU (wordsB W L)) :
    Calls Tryd.prog 45 #[.string t, .string (strU W)] w fun e w' => (∃ a c, e = .returned (.tuple #[.slice a L.length c, .bool true]) ∧ Rd w' a L.length (nth L)) ∧ L.length ≤ 1048576 ∧ Below w.heap.size w w' := by
  refine (l11Read_any W t w hW hs).mono ?_
  rintro e w' ⟨a, m, c, X, b, rfl, hm, hr, hb, (⟨rfl, h1, h2⟩ | ⟨rfl, h1⟩)⟩
  · have h3 : wordsB W (numsL m X) = wordsB W L := by
      have h4 := h1.symm.trans ht
      have := congrArg (fun z => z.data.toList) h4
      simpa only [strU_list] using this
    have h5 := words_inj W _ _ (numsL_few h2) hL h3
    have h6 : m = L.length := by rw [← h5, numsL_len]
    refine ⟨⟨a, c, by rw [h6], fun k hk => ?_⟩, by omega, hb⟩
    obtain ⟨bb, oo, e1, hc⟩ := hr k (by omega)
    refine ⟨bb, oo, e1, ?_⟩
    have h7 : nth L k = X k := by
      rw [← h5]; unfold nth numsL
      have : k < m := by omega
      simp [List.getD_eq_getElem?_getD, this]
    rw [h7]; exact hc
  · exact absurd (by rw [ht, strU_list]) (h1 L hL)
theorem read_no {W : List UInt8} {t : ByteArray} (w : World) (hW : W.length ≤ 100) (hs : t.size ≤ 1048576) (ht : ∀ L, FewAll L → t ≠ strU (wordsB W L)) :
    Calls Tryd.prog 45 #[.string t, .string (strU W)] w fun e w' => (∃ a m c, e = .returned (.tuple #[.slice a m c, .bool false])) ∧ Below w.heap.size w w' := by
  refine (l11Read_any W t w hW hs).mono ?_
  rintro e w' ⟨a, m, c, X, b, rfl, hm, hr, hb, (⟨rfl, h1, h2⟩ | ⟨rfl, h1⟩)⟩
  · exact absurd h1 (ht _ (numsL_few h2))
  · exact ⟨⟨a, m, c, rfl⟩, hb⟩
end Go.Proofs.YtabdbgnkiebcdaaDoor

namespace Go.Proofs.YtabdbgnkiebcdaaDoor
set_option linter.unusedVariables false
open Go.RowKit

theorem l6In_any (x lo hi : Int) (w : World) :
    Calls Tryd.prog 70 #[.int .i64 x, .int .i64 lo, .int .i64 hi] w fun e w' => e = .returned (.bool (tt (InR x lo hi))) ∧ w = w' := by
  by_cases h1 : lo ≤ x
  · by_cases h2 : x ≤ hi
    · have H := Lib.hid (tt_of (show InR x lo hi from ⟨h1, h2⟩))
      go_enter Tryd.func70, Tryd.ntmps70
      go_wp2
      go_ret
      exact ⟨by rw [H.out]; rfl, rfl⟩
    · have H := Lib.hid (tt_no (show ¬ InR x lo hi from fun h => h2 h.2))
      go_enter Tryd.func70, Tryd.ntmps70
      go_wp2
      go_ret
      exact ⟨by rw [H.out]; rfl, rfl⟩
  · have H := Lib.hid (tt_no (show ¬ InR x lo hi from fun h => h1 h.1))
    go_enter Tryd.func70, Tryd.ntmps70
    go_wp2
    go_ret
    exact ⟨by rw [H.out]; rfl, rfl⟩
end Go.Proofs.YtabdbgnkiebcdaaDoor
