/- Rows and tables of a call's own that are written: words and small laws. -/
import Derived.Test.YtakipaehoeapcaaMem
import Derived.Test.YtakipaehoeapcaaGrow
namespace Go.Proofs.Ytakipaehoeapcaa
set_option linter.unusedVariables false
open Go.RowKit

/-- But for the blocks from lo to hi all is as it was. -/
structure Keeps (lo hi : Nat) (w w' : World) : Prop where
  os : w'.os = w.os
  tape : w'.tape = w.tape
  output : w'.output = w.output
  size : w'.heap.size = w.heap.size
  block : ∀ k, k < lo ∨ hi ≤ k → w'.heap[k]? = w.heap[k]?

namespace Keeps
variable {lo hi lo' hi' : Nat} {a b c : World}
theorem refl (lo hi : Nat) (w : World) : Keeps lo hi w w := ⟨rfl, rfl, rfl, rfl, fun _ _ => rfl⟩
theorem trans (h : Keeps lo hi a b) (k : Keeps lo hi b c) : Keeps lo hi a c :=
  ⟨k.os.trans h.os, k.tape.trans h.tape, k.output.trans h.output, k.size.trans h.size, fun i hi => (k.block i hi).trans (h.block i hi)⟩
theorem mono (h : Keeps lo hi a b) (h1 : lo' ≤ lo) (h2 : hi ≤ hi') : Keeps lo' hi' a b := ⟨h.os, h.tape, h.output, h.size, fun k hk => h.block k (by omega)⟩
theorem below (h : Keeps lo hi a b) : Below lo a b := ⟨h.os, h.tape, h.output, by rw [h.size]; exact Nat.le_refl _, fun k hk => h.block k (.inl hk)⟩
theorem setCell (h : Keeps lo hi a b) {p : Addr} (h1 : lo ≤ p.block) (h2 : p.block < hi) (v : Value) : Keeps lo hi a (b.setCell p v) :=
  h.trans ⟨rfl, rfl, rfl, by simp [World.setCell], fun k hk => Below.heap_setCell _ _ _ _ (by omega)⟩
theorem cell (h : Keeps lo hi a b) {p : Addr} (hp : p.block < lo ∨ hi ≤ p.block) : b.cell? p = a.cell? p := World.cell?_of_block (w := a) (h.block p.block hp)
theorem frozen (h : Keeps lo hi a b) {p : Addr} (hp : p.block < lo ∨ hi ≤ p.block) : b.frozen? p = a.frozen? p := World.frozen?_of_block (w := a) (h.block p.block hp)
end Keeps

/-- n integers X in block b, which may be written; or none at all. -/
def OwnR (w : World) (b : Nat) (a : Option Addr) (n : Nat) (X : Nat → Int) : Prop :=
  n = 0 ∨ ∃ o, a = some ⟨b, o, none⟩ ∧ ∀ k, k < n → w.cell? ⟨b, o + k, none⟩ = some (.int .i64 (X k)) ∧ w.frozen? ⟨b, o + k, none⟩ = false

namespace OwnR
variable {w w' : World} {b n : Nat} {a : Option Addr} {X Y : Nat → Int}
theorem rd (h : OwnR w b a n X) : Rd w a n X := by
  intro k hk
  rcases h with h0 | ⟨o, ha, hc⟩
  · omega
  · exact ⟨b, o, ha, (hc k hk).1⟩
theorem of_block (h : OwnR w b a n X) (e : w'.heap[b]? = w.heap[b]?) : OwnR w' b a n X := by
  rcases h with h0 | ⟨o, ha, hc⟩
  · exact .inl h0
  · refine .inr ⟨o, ha, fun k hk => ⟨?_, ?_⟩⟩
    · rw [World.cell?_of_block (w := w) e]; exact (hc k hk).1
    · rw [World.frozen?_of_block (w := w) e]; exact (hc k hk).2
theorem of_row {tI : Nat} (h : w.rowIs b tI n (fun i => .int .i64 (X i))) : OwnR w b (some ⟨b, 0, none⟩) n X :=
  .inr ⟨0, rfl, fun k hk => by rw [Nat.zero_add]; exact ⟨h.cell hk, h.frozen k⟩⟩
theorem of_owns {base tI cap : Nat} (h : w.ownsRow base tI 1 (.slice (some ⟨b, 0, none⟩) n cap) n (cellsL n X)) : OwnR w b (some ⟨b, 0, none⟩) n X := by
  refine .inr ⟨0, rfl, fun k hk => ?_⟩
  rw [Nat.zero_add]
  have h1 := h.cells (g := b) rfl k (.int .i64 (X k)) (cellsL_get X hk)
  rw [Go.WideShapes.add_plain, Nat.zero_add] at h1
  refine ⟨h1, ?_⟩
  obtain ⟨_, (⟨he, _⟩ | ⟨g', cap', cur, hv, _, hh, _⟩)⟩ := h
  · cases he
  · cases hv
    exact frozen_of_row _ _ _ _ _ hh
end OwnR

/-- A table of a call's own, its blocks from lo to hi, a block a row, none of them twice. -/
def OwnT (w : World) (lo hi : Nat) (a : Option Addr) (n : Nat) (A : Nat → Option Addr) (L C : Nat → Nat) (X : Nat → Nat → Int) : Prop :=
  n = 0 ∨ ∃ (b o : Nat) (K : Nat → Nat), a = some ⟨b, o, none⟩ ∧ lo ≤ b ∧ b < hi ∧ (∀ r, r < n → w.cell? ⟨b, o + r, none⟩ = some (.slice (A r) (L r) (C r))) ∧
    (∀ r, r < n → lo ≤ K r ∧ K r < hi ∧ K r ≠ b ∧ OwnR w (K r) (A r) (L r) (X r)) ∧ ∀ r s, r < n → s < n → r ≠ s → K r ≠ K s

namespace OwnT
variable {w w' : World} {lo hi n : Nat} {a : Option Addr} {A : Nat → Option Addr} {L C : Nat → Nat} {X : Nat → Nat → Int}
theorem tab (h : OwnT w lo hi a n A L C X) : Tab w a n A L C X := by
  intro r hr
  rcases h with h0 | ⟨b, o, K, ha, _, _, hc, hk, _⟩
  · omega
  · exact ⟨b, o, ha, hc r hr, (hk r hr).2.2.2.rd⟩
theorem of_blocks (h : OwnT w lo hi a n A L C X) (e : ∀ k, lo ≤ k → k < hi → w'.heap[k]? = w.heap[k]?) : OwnT w' lo hi a n A L C X := by
  rcases h with h0 | ⟨b, o, K, ha, h1, h2, hc, hk, hi⟩
  · exact .inl h0
  · refine .inr ⟨b, o, K, ha, h1, h2, fun r hr => ?_, fun r hr => ?_, hi⟩
    · rw [World.cell?_of_block (w := w) (a := ⟨b, o + r, none⟩) (e b h1 h2)]; exact hc r hr
    · obtain ⟨k1, k2, k3, k4⟩ := hk r hr
      exact ⟨k1, k2, k3, k4.of_block (e _ k1 k2)⟩
theorem below {B : Nat} (h : OwnT w lo hi a n A L C X) (hB : hi ≤ B) (hb : Below B w w') : OwnT w' lo hi a n A L C X := h.of_blocks fun k _ h2 => hb.block k (by omega)
theorem keeps {lo' hi' : Nat} (h : OwnT w lo hi a n A L C X) (hd : hi ≤ lo' ∨ hi' ≤ lo) (hk : Keeps lo' hi' w w') : OwnT w' lo hi a n A L C X := h.of_blocks fun k h1 h2 => hk.block k (by omega)
theorem of_new {tS tI B : Nat} {L : Nat → Nat} {X : Nat → Nat → Int} (h : NewTab tS tI w B n L X) : OwnT w B (B + 1 + n) (some ⟨B, 0, none⟩) n (fun r => some ⟨B + 1 + r, 0, none⟩) L L X :=
  .inr ⟨B, 0, fun r => B + 1 + r, rfl, Nat.le_refl _, by omega, fun r hr => by rw [Nat.zero_add]; exact h.top.cell hr, fun r hr => ⟨by show B ≤ B + 1 + r; omega, by show B + 1 + r < B + 1 + n; omega, by show B + 1 + r ≠ B; omega, OwnR.of_row (h.rows r hr)⟩,
    fun r s _ _ hrs => by show B + 1 + r ≠ B + 1 + s; omega⟩
end OwnT

/-- A row of a call's own, in some block from lo to hi; or none at all. -/
def OwnI (w : World) (lo hi : Nat) (a : Option Addr) (n : Nat) (X : Nat → Int) : Prop := n = 0 ∨ ∃ b, lo ≤ b ∧ b < hi ∧ OwnR w b a n X

namespace OwnI
variable {w w' : World} {lo hi n : Nat} {a : Option Addr} {X : Nat → Int}
theorem rd (h : OwnI w lo hi a n X) : Rd w a n X := by
  rcases h with h0 | ⟨b, _, _, h⟩
  · intro k hk; omega
  · exact h.rd
theorem of_blocks (h : OwnI w lo hi a n X) (e : ∀ k, lo ≤ k → k < hi → w'.heap[k]? = w.heap[k]?) : OwnI w' lo hi a n X := by
  rcases h with h0 | ⟨b, h1, h2, h⟩
  · exact .inl h0
  · exact .inr ⟨b, h1, h2, h.of_block (e b h1 h2)⟩
theorem below {B : Nat} (h : OwnI w lo hi a n X) (hB : hi ≤ B) (hb : Below B w w') : OwnI w' lo hi a n X := h.of_blocks fun k _ h2 => hb.block k (by omega)
theorem keeps {lo' hi' : Nat} (h : OwnI w lo hi a n X) (hd : hi ≤ lo' ∨ hi' ≤ lo) (hk : Keeps lo' hi' w w') : OwnI w' lo hi a n X := h.of_blocks fun k h1 h2 => hk.block k (by omega)
theorem of_row {tI b : Nat} (h : w.rowIs b tI n (fun i => .int .i64 (X i))) : OwnI w b (b + 1) (some ⟨b, 0, none⟩) n X := .inr ⟨b, Nat.le_refl _, Nat.lt_succ_self _, OwnR.of_row h⟩
end OwnI
theorem OwnT.sub {w : World} {lo hi lo' hi' n : Nat} {a : Option Addr} {A : Nat → Option Addr} {L C : Nat → Nat} {X : Nat → Nat → Int} (h : OwnT w lo hi a n A L C X) (h1 : lo' ≤ lo) (h2 : hi ≤ hi') : OwnT w lo' hi' a n A L C X := by
  rcases h with h0 | ⟨b, o, K, ha, hb1, hb2, hc, hk, hi⟩
  · exact .inl h0
  · exact .inr ⟨b, o, K, ha, by omega, by omega, hc, fun r hr => by obtain ⟨k1, k2, k3, k4⟩ := hk r hr; exact ⟨by omega, by omega, k3, k4⟩, hi⟩
theorem Keeps.none {lo hi : Nat} {w w' : World} (h : Keeps w.heap.size (w.heap.size + 1) w w') : Keeps lo hi w w' :=
  ⟨h.os, h.tape, h.output, h.size, fun k _ => by
    by_cases hk : k < w.heap.size
    · exact h.block k (.inl hk)
    · rw [Array.getElem?_eq_none (xs := w.heap) (by omega), Array.getElem?_eq_none (xs := w'.heap) (by rw [h.size]; omega)]⟩

/-- A table in the making: v is its top row, of i rows, each in a block of its own. -/
def Making (tS : Nat) (B : Nat) (w : World) (v : Value) (i : Nat) (G Cp : Nat → Nat) (L : Nat → Nat) (X : Nat → Nat → Int) : Prop :=
  w.ownsRow B tS 1 v i ((List.range i).map fun r => .slice (some ⟨G r, 0, none⟩) (L r) (Cp r)) ∧
    (∀ r, r < i → B ≤ G r ∧ G r < w.heap.size ∧ v.ownBlock ≠ some (G r) ∧ OwnR w (G r) (some ⟨G r, 0, none⟩) (L r) (X r)) ∧ ∀ r s, r < i → s < i → r ≠ s → G r ≠ G s

theorem Making.ownT {tS B : Nat} {w : World} {g cap i : Nat} {G Cp L : Nat → Nat} {X : Nat → Nat → Int} (h : Making tS B w (.slice (some ⟨g, 0, none⟩) i cap) i G Cp L X) :
    OwnT w B w.heap.size (some ⟨g, 0, none⟩) i (fun r => some ⟨G r, 0, none⟩) L Cp X := by
  obtain ⟨h1, h2, h3⟩ := h
  have hlt := h1.lt g rfl
  refine .inr ⟨g, 0, G, rfl, hlt.1, hlt.2, fun r hr => ?_, fun r hr => ⟨(h2 r hr).1, (h2 r hr).2.1, fun e => (h2 r hr).2.2.1 (by rw [e]; rfl), (h2 r hr).2.2.2⟩, h3⟩
  have := h1.cells (g := g) rfl r (.slice (some ⟨G r, 0, none⟩) (L r) (Cp r)) (by simp [hr])
  rwa [Go.WideShapes.add_plain] at this

theorem Making.start (tS B : Nat) (w : World) (v : Value) (G Cp L : Nat → Nat) (X : Nat → Nat → Int) (h : w.ownsRow B tS 1 v 0 []) : Making tS B w v 0 G Cp L X :=
  ⟨h, fun r hr => absurd hr (Nat.not_lt_zero _), fun r s hr => absurd hr (Nat.not_lt_zero _)⟩

/-- Later, what was made being as it was. -/
theorem Making.below {tS B i : Nat} {w w' : World} {v : Value} {G Cp L : Nat → Nat} {X : Nat → Nat → Int} (h : Making tS B w v i G Cp L X) (hb : Below w.heap.size w w') : Making tS B w' v i G Cp L X := by
  obtain ⟨h1, h2, h3⟩ := h
  refine ⟨?_, fun r hr => ⟨(h2 r hr).1, Nat.lt_of_lt_of_le (h2 r hr).2.1 hb.size, (h2 r hr).2.2.1, (h2 r hr).2.2.2.of_block (hb.block _ (h2 r hr).2.1)⟩, h3⟩
  obtain ⟨k1, (k2 | ⟨g, cap, cur, k3, k4, k5, k6⟩)⟩ := h1
  · exact ⟨k1, .inl k2⟩
  · exact ⟨k1, .inr ⟨g, cap, cur, k3, k4, (hb.block g (Array.getElem?_eq_some_iff.1 k5).1).trans k5, k6⟩⟩

/-- One row more, appended: the top row lies where it lay, or in a block that is new. -/
theorem Making.next {tS B i : Nat} {w w1 : World} {v : Value} {G Cp L : Nat → Nat} {X : Nat → Nat → Int} {g cap gr cr H : Nat} (h : Making tS B w v i G Cp L X)
    (hr : OwnR w gr (some ⟨gr, 0, none⟩) (L i) (X i)) (hr1 : B ≤ gr) (hr2 : gr < w.heap.size) (hr3 : v.ownBlock ≠ some gr) (hr4 : ∀ r, r < i → G r ≠ gr)
    (hown : w1.ownsRow B tS 1 (.slice (some ⟨g, 0, none⟩) (i + 1) cap) (i + 1) ((List.range i).map (fun r => Value.slice (some ⟨G r, 0, none⟩) (L r) (Cp r)) ++ [.slice (some ⟨gr, 0, none⟩) (L i) cr]))
    (hgrow : w.grownBy w1 v.ownBlock) (hat : v.ownBlock = some g ∨ g = H) (hH : w.heap.size ≤ H) :
    Making tS B w1 (.slice (some ⟨g, 0, none⟩) (i + 1) cap) (i + 1) (fun r => if r < i then G r else gr) (fun r => if r < i then Cp r else cr) L X := by
  obtain ⟨h1, h2, h3⟩ := h
  have hgne : ∀ x, x < w.heap.size → v.ownBlock ≠ some x → g ≠ x := by
    intro x hx hne e
    rcases hat with h' | h'
    · exact hne (by rw [h', e])
    · omega
  refine ⟨?_, fun r hri => ?_, fun r s hri hsi hrs => ?_⟩
  · rw [List.range_succ, List.map_append, List.map_cons, List.map_nil]
    have e1 : (List.range i).map (fun r => Value.slice (some ⟨if r < i then G r else gr, 0, none⟩) (L r) (if r < i then Cp r else cr)) = (List.range i).map (fun r => Value.slice (some ⟨G r, 0, none⟩) (L r) (Cp r)) :=
      List.map_congr_left fun r hr => by rw [if_pos (List.mem_range.1 hr), if_pos (List.mem_range.1 hr)]
    have e2 : Value.slice (some ⟨if i < i then G i else gr, 0, none⟩) (L i) (if i < i then Cp i else cr) = .slice (some ⟨gr, 0, none⟩) (L i) cr := by rw [if_neg (Nat.lt_irrefl _), if_neg (Nat.lt_irrefl _)]
    show w1.ownsRow B tS 1 _ (i + 1) (_ ++ [Value.slice (some ⟨if i < i then G i else gr, 0, none⟩) (L i) (if i < i then Cp i else cr)])
    rw [e2]
    rw [← e1] at hown
    exact hown
  · show B ≤ (if r < i then G r else gr) ∧ (if r < i then G r else gr) < w1.heap.size ∧ _ ≠ some (if r < i then G r else gr) ∧ OwnR w1 (if r < i then G r else gr) (some ⟨if r < i then G r else gr, 0, none⟩) (L r) (X r)
    by_cases e : r < i
    · rw [if_pos e]
      obtain ⟨k1, k2, k3, k4⟩ := h2 r e
      exact ⟨k1, Nat.lt_of_lt_of_le k2 hgrow.size, fun h => hgne _ k2 k3 (by simpa [Value.ownBlock] using h), k4.of_block (hgrow.block _ k2 (fun h => k3 h.symm))⟩
    · obtain rfl : r = i := by omega
      rw [if_neg e]
      exact ⟨hr1, Nat.lt_of_lt_of_le hr2 hgrow.size, fun h => hgne _ hr2 hr3 (by simpa [Value.ownBlock] using h), hr.of_block (hgrow.block _ hr2 (fun h => hr3 h.symm))⟩
  · show (if r < i then G r else gr) ≠ (if s < i then G s else gr)
    by_cases e1 : r < i
    · rw [if_pos e1]
      by_cases e2 : s < i
      · rw [if_pos e2]; exact h3 r s e1 e2 hrs
      · rw [if_neg e2]; exact hr4 r e1
    · rw [if_neg e1]
      have e2 : s < i := by omega
      rw [if_pos e2]; exact fun h => hr4 s e2 h.symm

/-- A row of a call's own that has something in it lies in a block. -/
theorem owns_form {w : World} {base e n : Nat} {v : Value} {xs : List Value} (h : w.ownsRow base e 1 v n xs) (hn : 0 < n) : ∃ g cap, v = .slice (some ⟨g, 0, none⟩) n cap := by
  obtain ⟨_, (⟨_, h0⟩ | ⟨g, cap, _, hv, _⟩)⟩ := h
  · omega
  · exact ⟨g, cap, hv⟩

/-- What a call hands back: a table of its own, and whether. -/
def RetTB (ok : Bool) (n : Nat) (L : Nat → Nat) (X : Nat → Nat → Int) (w : World) (e : Ending) (w' : World) : Prop :=
  ∃ a c A C, e = .returned (.tuple #[.slice a n c, .bool ok]) ∧ OwnT w' w.heap.size w'.heap.size a n A L C X ∧ Below w.heap.size w w'
/-- What a call hands back: a row of its own, and whether. -/
def RetIB (ok : Bool) (n : Nat) (X : Nat → Int) (w : World) (e : Ending) (w' : World) : Prop :=
  ∃ a c, e = .returned (.tuple #[.slice a n c, .bool ok]) ∧ OwnI w' w.heap.size w'.heap.size a n X ∧ Below w.heap.size w w'
/-- What a call hands back: a row of its own with its room, and whether. -/
def RetID (ok : Bool) (n : Nat) (X : Nat → Int) (w : World) (e : Ending) (w' : World) : Prop :=
  ∃ a c, e = .returned (.tuple #[.slice a n c, .bool ok]) ∧ n ≤ c ∧ OwnI w' w.heap.size w'.heap.size a n X ∧ Below w.heap.size w w'
end Go.Proofs.Ytakipaehoeapcaa
