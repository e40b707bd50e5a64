/- The model reads terms. -/
import Derived.Test.YtnaegnjgpnakfaaDoorSpecCirc
namespace Go.Proofs.YtnaegnjgpnakfaaDoor
set_option linter.unusedVariables false
set_option linter.unusedSimpArgs false
open Go.RowKit

/-- The world in which l10Read and l10Of begin: the result's block, an empty list, the term that is none. -/
structure Pro (w W : World) (G : Nat) : Prop where
  g : G = w.heap.size
  size : W.heap.size = G + 3
  below : Below w.heap.size w W
  res : W.heap[G]? = some (.cells #[.int .u8 0, .string ⟨#[]⟩, .slice none 0 0] 45 (0, 0))
  none : W.heap[G + 1 + 1]? = some (.cells #[.int .u8 105, .string ⟨#[]⟩, .slice (some ⟨G + 1, 0, none⟩) 0 0] 45 (0, 0))
def proW (w : World) : World := ((w.alloc (.cells #[.int .u8 0, .string ⟨#[]⟩, .slice none 0 0] 45)).alloc (.cells #[] 45)).alloc (.cells #[.int .u8 105, .string ⟨#[]⟩, .slice (some ⟨w.heap.size + 1, 0, none⟩) 0 0] 45)
theorem pro_mk (w : World) : Pro w (proW w) w.heap.size := by
  refine ⟨rfl, by unfold proW; simp, ?_, ?_, ?_⟩
  · exact ((Below.refl _ _).alloc (Nat.le_refl _) _ |>.alloc (by simp) _).alloc (by simp; omega) _
  · unfold proW
    rw [Below.heap_alloc _ _ _ (by simp; omega), Below.heap_alloc _ _ _ (by simp)]; exact heap_alloc_last w _
  · unfold proW
    have h := heap_alloc_last ((w.alloc (.cells #[.int .u8 0, .string ⟨#[]⟩, .slice none 0 0] 45)).alloc (.cells #[] 45)) (.cells #[.int .u8 105, .string ⟨#[]⟩, .slice (some ⟨w.heap.size + 1, 0, none⟩) 0 0] 45)
    rwa [World.size_alloc, World.size_alloc] at h
theorem Pro.ret {w W W1 W9 : World} {G : Nat} (h : Pro w W G) (h1 : Below W.heap.size W W1) (h9 : Below G W1 W9) : Below w.heap.size w W9 :=
  (h.below.trans (h1.mono h.below.size)).trans (h9.mono (by rw [h.g]; exact Nat.le_refl _))
/-- What a reader handed back, in a later world. -/
theorem RetS.carry {w' w9 : World} {B B' : Nat} {o : Option (Tm × Nat)} {c : Nat} {L : ByteArray} {a : Option Addr} {n q : Nat}
    (h : OkS w' B q c L a n o) (hB : B' ≤ B) (hk : ∀ k, B ≤ k → k < w'.heap.size → w9.heap[k]? = w'.heap[k]?) : OkS w9 B' q c L a n o := by
  cases o with
  | none => exact h
  | some r => obtain ⟨t, p⟩ := r; exact ⟨h.1, SV.mono hB (SV.keep hk h.2)⟩
/-- The contract of l10Read, from a place on with so much left. -/
def ReadC (s : ByteArray) (f : Nat) : Prop := ∀ (p : Nat) (w : World), p ≤ s.size → s.size ≤ p + f →
  Calls Tryd.prog 59 #[.string s, .int .i64 (p : Nat)] w (RetS w (readT s f p))

set_option maxRecDepth 100000 in
set_option maxHeartbeats 3200000 in
theorem read_end (s : ByteArray) (f p : Nat) (w : World) (hp : s.size ≤ p) :
    Calls Tryd.prog 59 #[.string s, .int .i64 (p : Nat)] w (RetS w (none)) := by
  have d1 : decide ((s.size : Int) ≤ (p : Int)) = true := decide_eq_true (by omega)
  have d1n : decide (s.size ≤ p) = true := decide_eq_true hp
  clear hp
  go_enter Tryd.func59, Tryd.ntmps59
  go_wp2
  refine bodyPost_ret (results_term Tryd.results59 _ _ w.heap.size _ _ _ rfl (by rw [Below.heap_alloc _ _ _ (by simp; omega), Below.heap_alloc _ _ _ (by simp)]; exact heap_alloc_last w _)) rfl ?_
  refine ⟨((Below.refl _ _).alloc (Nat.le_refl _) _ |>.alloc (by simp) _).alloc (by simp; omega) _, 105, ⟨#[]⟩, _, 0, 0, 0, rfl, rfl⟩
set_option maxRecDepth 100000 in
set_option maxHeartbeats 3200000 in
theorem read_i (s : ByteArray) (f p : Nat) (w : World) (b : Nat) (hb : b = bt s p) (hp : p < s.size) (hs : s.size ≤ 60) (h : b = 105) :
    Calls Tryd.prog 59 #[.string s, .int .i64 (p : Nat)] w (RetS w (some (.keep, p + 1))) := by
  have d1 : decide ((s.size : Int) ≤ (p : Int)) = false := decide_eq_false (by omega)
  have d1n : decide (s.size ≤ p) = false := decide_eq_false (by omega)
  have hix : ∀ w : World, (Instr.index 9 (.string s) (.int .i64 (p : Nat))).run Tryd.prog w = .ok (.int .u8 (b : Nat)) w := fun w => by rw [hb]; exact run_index_bt w _ s _ p Tryd.underlying9 hp
  have e1 : ((b : Int) == 105) = true := by simp [h]
  have hw1 : IntKind.i64.wrap ((p : Int) + 1) = ((p + 1 : Nat) : Int) := by rw [IntWalk.i64_in _ (by omega)]; omega
  clear hb hp hs h
  go_enter Tryd.func59, Tryd.ntmps59
  go_wp2
  refine bodyPost_ret (results_term Tryd.results59 _ _ w.heap.size _ _ _ rfl (by rw [Below.heap_alloc _ _ _ (by simp; omega), Below.heap_alloc _ _ _ (by simp)]; exact heap_alloc_last w _)) rfl ?_
  refine ⟨((Below.refl _ _).alloc (Nat.le_refl _) _ |>.alloc (by simp) _).alloc (by simp; omega) _, 105, ⟨#[]⟩, _, 0, 0, p + 1, rfl, ⟨rfl, rfl, rfl, rfl⟩⟩
set_option maxRecDepth 100000 in
set_option maxHeartbeats 3200000 in
theorem read_none1 (s : ByteArray) (f p : Nat) (w : World) (b : Nat) (hb : b = bt s p) (hp : p < s.size) (hs : s.size ≤ 60) (h1 : b ≠ 105) (h2 : b ≠ 91) (h3 : ¬ SignP b) (h4 : b ≠ 40) (h5 : ¬ 50 ≤ b) :
    Calls Tryd.prog 59 #[.string s, .int .i64 (p : Nat)] w (RetS w (none)) := by
  have d1 : decide ((s.size : Int) ≤ (p : Int)) = false := decide_eq_false (by omega)
  have d1n : decide (s.size ≤ p) = false := decide_eq_false (by omega)
  have hix : ∀ w : World, (Instr.index 9 (.string s) (.int .i64 (p : Nat))).run Tryd.prog w = .ok (.int .u8 (b : Nat)) w := fun w => by rw [hb]; exact run_index_bt w _ s _ p Tryd.underlying9 hp
  have e1 : ((b : Int) == 105) = false := by simp; omega
  have e2 : ((b : Int) == 45) = false := by simp; unfold SignP at h3; omega
  have e3 : decide ((50 : Int) ≤ (b : Int)) = false := decide_eq_false (by omega)
  have e3n : decide (50 ≤ b) = false := decide_eq_false h5
  have e4 : ((b : Int) == 91) = false := by simp; omega
  have e5 : ((b : Int) != 40) = true := by simp; omega
  clear hb hp hs h1 h2 h3 h4 h5
  go_enter Tryd.func59, Tryd.ntmps59
  go_wp2
  refine bodyPost_ret (results_term Tryd.results59 _ _ w.heap.size _ _ _ rfl (by rw [Below.heap_alloc _ _ _ (by simp; omega), Below.heap_alloc _ _ _ (by simp)]; exact heap_alloc_last w _)) rfl ?_
  refine ⟨((Below.refl _ _).alloc (Nat.le_refl _) _ |>.alloc (by simp) _).alloc (by simp; omega) _, 105, ⟨#[]⟩, _, 0, 0, 0, rfl, rfl⟩
set_option maxRecDepth 100000 in
set_option maxHeartbeats 3200000 in
theorem read_none2 (s : ByteArray) (f p : Nat) (w : World) (b : Nat) (hb : b = bt s p) (hp : p < s.size) (hs : s.size ≤ 60) (h1 : b ≠ 105) (h2 : b ≠ 91) (h3 : ¬ SignP b) (h4 : b ≠ 40) (h5 : 50 ≤ b) :
    Calls Tryd.prog 59 #[.string s, .int .i64 (p : Nat)] w (RetS w (none)) := by
  have d1 : decide ((s.size : Int) ≤ (p : Int)) = false := decide_eq_false (by omega)
  have d1n : decide (s.size ≤ p) = false := decide_eq_false (by omega)
  have hix : ∀ w : World, (Instr.index 9 (.string s) (.int .i64 (p : Nat))).run Tryd.prog w = .ok (.int .u8 (b : Nat)) w := fun w => by rw [hb]; exact run_index_bt w _ s _ p Tryd.underlying9 hp
  have e1 : ((b : Int) == 105) = false := by simp; omega
  have e2 : ((b : Int) == 45) = false := by simp; unfold SignP at h3; omega
  have e3 : decide ((50 : Int) ≤ (b : Int)) = true := decide_eq_true (by omega)
  have e3n : decide (50 ≤ b) = true := decide_eq_true h5
  have e6 : decide ((b : Int) ≤ 57) = false := decide_eq_false (by unfold SignP at h3; omega)
  have e6n : decide (b ≤ 57) = false := decide_eq_false (by unfold SignP at h3; omega)
  have e4 : ((b : Int) == 91) = false := by simp; omega
  have e5 : ((b : Int) != 40) = true := by simp; omega
  clear hb hp hs h1 h2 h3 h4 h5
  go_enter Tryd.func59, Tryd.ntmps59
  go_wp2
  refine bodyPost_ret (results_term Tryd.results59 _ _ w.heap.size _ _ _ rfl (by rw [Below.heap_alloc _ _ _ (by simp; omega), Below.heap_alloc _ _ _ (by simp)]; exact heap_alloc_last w _)) rfl ?_
  refine ⟨((Below.refl _ _).alloc (Nat.le_refl _) _ |>.alloc (by simp) _).alloc (by simp; omega) _, 105, ⟨#[]⟩, _, 0, 0, 0, rfl, rfl⟩
end Go.Proofs.YtnaegnjgpnakfaaDoor
