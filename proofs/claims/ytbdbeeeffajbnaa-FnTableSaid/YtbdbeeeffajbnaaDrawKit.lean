/- Worlds of a reader that goes on while rows are made. -/
import Derived.Test.YtbdbeeeffajbnaaPick
import Derived.Test.YtbdbeeeffajbnaaToInts
namespace Go.Proofs.Ytbdbeeeffajbnaa
set_option linter.unusedVariables false
open Go.RowKit

/-- Below B all is as it was, but for block r. -/
structure ButR (r B : Nat) (w w' : World) : Prop where
  os : w'.os = w.os
  tape : w'.tape = w.tape
  output : w'.output = w.output
  size : w.heap.size ≤ w'.heap.size
  block : ∀ k, k < B → k ≠ r → w'.heap[k]? = w.heap[k]?

namespace ButR
variable {r B B' : Nat} {a b c : World}
theorem refl (r B : Nat) (w : World) : ButR r B w w := ⟨rfl, rfl, rfl, Nat.le_refl _, fun _ _ _ => rfl⟩
theorem trans (h : ButR r B a b) (k : ButR r B b c) : ButR r B a c := ⟨k.os.trans h.os, k.tape.trans h.tape, k.output.trans h.output, Nat.le_trans h.size k.size, fun i h1 h2 => (k.block i h1 h2).trans (h.block i h1 h2)⟩
theorem mono (h : ButR r B a b) (hB : B' ≤ B) : ButR r B' a b := ⟨h.os, h.tape, h.output, h.size, fun k h1 h2 => h.block k (by omega) h2⟩
theorem keeps (h : Keeps r (r + 1) a b) : ButR r B a b := ⟨h.os, h.tape, h.output, Nat.le_of_eq h.size.symm, fun k _ h2 => h.block k (by omega)⟩
theorem below (h : Below B a b) : ButR r B a b := ⟨h.os, h.tape, h.output, h.size, fun k h1 _ => h.block k h1⟩
theorem alloc (h : ButR r B a b) (hB : B ≤ b.heap.size) (o : Obj) : ButR r B a (b.alloc o) := h.trans (below ((Below.refl _ _).alloc hB o))
theorem grown {row : Option Nat} (h : ButR r B a b) (hg : b.grownBy c row) (hB : B ≤ b.heap.size) (hr : ∀ k, row = some k → B ≤ k) : ButR r B a c := h.trans (below ((Below.refl B b).grown hg hB hr))
theorem setCell (h : ButR r B a b) {p : Addr} (hp : B ≤ p.block) (v : Value) : ButR r B a (b.setCell p v) := h.trans (below ((Below.refl B b).setCell hp v))
theorem toBelow (h : ButR r B a b) (hB : r ≤ B) : Below r a b := ⟨h.os, h.tape, h.output, h.size, fun k hk => h.block k (by omega) (by omega)⟩
end ButR

theorem RdB.but {w w' : World} {r B : Nat} {a : Option Addr} {n : Nat} {X : Nat → Nat} (h : RdB w a n X) (ha : 0 < n → ∀ b o, a = some ⟨b, o, none⟩ → b < B ∧ b ≠ r) (hk : ButR r B w w') : RdB w' a n X := by
  intro k hkn
  obtain ⟨h1, b, o, e, hc⟩ := h k hkn
  exact ⟨h1, b, o, e, by rw [World.cell?_of_block (w := w) (a := ⟨b, o + k, none⟩) (hk.block b (ha (by omega) b o e).1 (ha (by omega) b o e).2)]; exact hc⟩
theorem owns_but {w w' : World} {r base e n : Nat} {v : Value} {xs : List Value} (h : w.ownsRow base e 1 v n xs) (hr : r < base) (hk : Keeps r (r + 1) w w') : w'.ownsRow base e 1 v n xs := by
  obtain ⟨k1, (k2 | ⟨g, cap, cur, k3, k4, k5, k6⟩)⟩ := h
  · exact ⟨k1, .inl k2⟩
  · exact ⟨k1, .inr ⟨g, cap, cur, k3, k4, (hk.block g (by omega)).trans k5, k6⟩⟩
theorem RdrAt.alloc {w : World} {r : Nat} {a : Option Addr} {n c p : Nat} (h : RdrAt w r a n c p) (o : Obj) : RdrAt (w.alloc o) r a n c p := h.of_block (Below.heap_alloc w o r h.lt)
theorem RdrAt.grown {w w' : World} {r : Nat} {a : Option Addr} {n c p : Nat} {row : Option Nat} (h : RdrAt w r a n c p) (hg : w.grownBy w' row) (hr : row ≠ some r) : RdrAt w' r a n c p := h.of_block (hg.block _ h.lt (fun e => hr e.symm))

/-- One of nine numbers. -/
theorem nine {w : World} {g t : Nat} {x : Nat} {v0 v1 v2 v3 v4 v5 v6 v7 v8 : Int} (h : w.heap[g]? = some (.cells #[.int .i64 v0, .int .i64 v1, .int .i64 v2, .int .i64 v3, .int .i64 v4, .int .i64 v5, .int .i64 v6, .int .i64 v7, .int .i64 v8] t (0, 0))) (hx : x < 9) :
    ∃ v : Int, w.cell? ⟨g, x, none⟩ = some (.int .i64 v) := by
  rw [cell_of_row w g x _ t (0, 0) h]
  have : x = 0 ∨ x = 1 ∨ x = 2 ∨ x = 3 ∨ x = 4 ∨ x = 5 ∨ x = 6 ∨ x = 7 ∨ x = 8 := by omega
  rcases this with rfl | rfl | rfl | rfl | rfl | rfl | rfl | rfl | rfl <;> exact ⟨_, rfl⟩
end Go.Proofs.Ytbdbeeeffajbnaa
