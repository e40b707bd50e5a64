/- What a call leaves as it was, a set of blocks aside; and what lies in such a set. -/
import Derived.Test.YtipfjblnanafnaaMem
namespace Go.Proofs.Ytipfjblnanafnaa
set_option linter.unusedVariables false
set_option linter.unusedSimpArgs false
open Go.RowKit

/-- But for what lies in V, all that was there is as it was. -/
structure Outside (V : Nat → Prop) (w w' : World) : Prop where
  os : w'.os = w.os
  tape : w'.tape = w.tape
  output : w'.output = w.output
  size : w.heap.size ≤ w'.heap.size
  block : ∀ k, k < w.heap.size → ¬ V k → w'.heap[k]? = w.heap[k]?

/-- What lies in V is as it was. -/
structure Inside (V : Nat → Prop) (w w' : World) : Prop where
  os : w'.os = w.os
  tape : w'.tape = w.tape
  output : w'.output = w.output
  size : w.heap.size ≤ w'.heap.size
  block : ∀ k, V k → w'.heap[k]? = w.heap[k]?

namespace Outside
variable {V U : Nat → Prop} {a b c : World}
theorem refl (V : Nat → Prop) (a : World) : Outside V a a := ⟨rfl, rfl, rfl, Nat.le_refl _, fun _ _ _ => rfl⟩
theorem trans' (h : Outside V a b) (k : Outside U b c) (hu : ∀ k, k < a.heap.size → U k → V k) : Outside V a c :=
  ⟨k.os.trans h.os, k.tape.trans h.tape, k.output.trans h.output, Nat.le_trans h.size k.size, fun i hi hv => (k.block i (Nat.lt_of_lt_of_le hi h.size) (fun hU => hv (hu i hi hU))).trans (h.block i hi hv)⟩
theorem mono (h : Outside V a b) (hu : ∀ k, k < a.heap.size → V k → U k) : Outside U a b := ⟨h.os, h.tape, h.output, h.size, fun i hi hv => h.block i hi (fun h' => hv (hu i hi h'))⟩
theorem of_below (h : Below a.heap.size a b) : Outside V a b := ⟨h.os, h.tape, h.output, h.size, fun k hk _ => h.block k hk⟩
theorem below {n : Nat} (h : Outside V a b) (hn : n ≤ a.heap.size) (hv : ∀ k, V k → n ≤ k) : Below n a b := ⟨h.os, h.tape, h.output, h.size, fun k hk => h.block k (by omega) (fun h' => by have := hv k h'; omega)⟩
theorem inside (h : Outside U a b) (hl : ∀ k, V k → k < a.heap.size) (hd : ∀ k, V k → ¬ U k) : Inside V a b := ⟨h.os, h.tape, h.output, h.size, fun k hk => h.block k (hl k hk) (hd k hk)⟩
theorem of_grown {row : Option Nat} (hg : a.grownBy b row) (hr : ∀ k, row = some k → V k) : Outside V a b := ⟨hg.os, hg.tape, hg.output, hg.size, fun k hk hv => hg.block k hk (fun e => hv (hr k e.symm))⟩
theorem cell (h : Outside V a b) {p : Addr} {v : Value} (hp : ¬ V p.block) (hc : a.cell? p = some v) : b.cell? p = some v := by
  rw [World.cell?_of_block (w := a) (h.block p.block (World.block_lt_of_cell? _ _ hc) hp)]; exact hc
end Outside

namespace Inside
variable {V U : Nat → Prop} {a b c : World}
theorem refl (V : Nat → Prop) (a : World) : Inside V a a := ⟨rfl, rfl, rfl, Nat.le_refl _, fun _ _ => rfl⟩
theorem trans (h : Inside V a b) (k : Inside V b c) : Inside V a c := ⟨k.os.trans h.os, k.tape.trans h.tape, k.output.trans h.output, Nat.le_trans h.size k.size, fun i hi => (k.block i hi).trans (h.block i hi)⟩
theorem mono (h : Inside V a b) (hu : ∀ k, U k → V k) : Inside U a b := ⟨h.os, h.tape, h.output, h.size, fun k hk => h.block k (hu k hk)⟩
theorem cell (h : Inside V a b) {p : Addr} {v : Value} (hp : V p.block) (hc : a.cell? p = some v) : b.cell? p = some v := by
  rw [World.cell?_of_block (w := a) (h.block p.block hp)]; exact hc
theorem of_below (h : Below a.heap.size a b) (hv : ∀ k, V k → k < a.heap.size) : Inside V a b := ⟨h.os, h.tape, h.output, h.size, fun k hk => h.block k (hv k hk)⟩
end Inside

theorem Outside.setCell {V : Nat → Prop} {a b : World} (h : Outside V a b) {p : Addr} (hp : V p.block) (v : Value) : Outside V a (b.setCell p v) :=
  ⟨h.os, h.tape, h.output, by simp [World.setCell]; exact h.size, fun k hk hv => (Below.heap_setCell _ _ _ _ (fun e => hv (by rw [e]; exact hp))).trans (h.block k hk hv)⟩
theorem Outside.then_below {V : Nat → Prop} {a b c : World} (h : Outside V a b) (k : Below a.heap.size b c) : Outside V a c :=
  ⟨k.os.trans h.os, k.tape.trans h.tape, k.output.trans h.output, Nat.le_trans h.size k.size, fun i hi hv => (k.block i hi).trans (h.block i hi hv)⟩
theorem Outside.drewN {V : Nat → Prop} {a b : World} (h : Outside V a b) (q : Nat) : Outside V a (b.drewN q) := ⟨h.os, h.tape, h.output, h.size, h.block⟩

/-- A row that a call owns is so wherever its block is as it was. -/
theorem owns_at {w w' : World} {base e size n cap g : Nat} {xs : List Value} (h : w.ownsRow base e size (.slice (some ⟨g, 0, none⟩) n cap) n xs) (hb : w'.heap[g]? = w.heap[g]?) : w'.ownsRow base e size (.slice (some ⟨g, 0, none⟩) n cap) n xs := by
  obtain ⟨h1, (⟨he, _⟩ | ⟨g', cap', cur, hv, hbase, hh, hr⟩)⟩ := h
  · cases he
  · cases hv
    exact ⟨h1, .inr ⟨g, cap, cur, rfl, hbase, hb.trans hh, hr⟩⟩
/-- The same, nil too. -/
theorem owns_any {w w' : World} {base e n : Nat} {v : Value} {xs : List Value} (h : w.ownsRow base e 1 v n xs) (hb : ∀ g, v.ownBlock = some g → w'.heap[g]? = w.heap[g]?) : w'.ownsRow base e 1 v n xs := by
  obtain ⟨h1, (h2 | ⟨g, cap, cur, hv, hbase, hh, hr⟩)⟩ := h
  · exact ⟨h1, .inl h2⟩
  · subst hv
    exact ⟨h1, .inr ⟨g, cap, cur, rfl, hbase, (hb g rfl).trans hh, hr⟩⟩
end Go.Proofs.Ytipfjblnanafnaa
