/- The model's reading of terms. -/
import Derived.Test.YtnaegnjgpnakfaaDoorSpecCirc
/- The model reads terms. -/
namespace Go.Proofs.YtnaegnjgpnakfaaDoor
set_option linter.unusedVariables false
set_option linter.unusedSimpArgs false
open Go.RowKit

/-- The world in which l10Read and l10Of begin: the result's block, an empty list, the term that is none. -/
structure Pro (w W : World) (G : Nat) : Prop where
  g : G = w.heap.size
  size : W.heap.size = G + 3
  below : Below w.heap.size w W
  res : W.heap[G]? = some (.cells #[.int .u8 0, .string ⟨#[]⟩, .slice none 0 0] 45 (0, 0))
  none : W.heap[G + 1 + 1]? = some (.cells #[.int .u8 105, .string ⟨#[]⟩, .slice (some ⟨G + 1, 0, none⟩) 0 0] 45 (0, 0))
def proW (w : World) : World := ((w.alloc (.cells #[.int .u8 0, .string ⟨#[]⟩, .slice none 0 0] 45)).alloc (.cells #[] 45)).alloc (.cells #[.int .u8 105, .string ⟨#[]⟩, .slice (some ⟨w.heap.size + 1, 0, none⟩) 0 0] 45)
theorem pro_mk (w : World) : Pro w (proW w) w.heap.size := by
  refine ⟨rfl, by unfold proW; simp, ?_, ?_, ?_⟩
  · exact ((Below.refl _ _).alloc (Nat.le_refl _) _ |>.alloc (by simp) _).alloc (by simp; omega) _
  · unfold proW
    rw [Below.heap_alloc _ _ _ (by simp; omega), Below.heap_alloc _ _ _ (by simp)]; exact heap_alloc_last w _
  · unfold proW
    have h := heap_alloc_last ((w.alloc (.cells #[.int .u8 0, .string ⟨#[]⟩, .slice none 0 0] 45)).alloc (.cells #[] 45)) (.cells #[.int .u8 105, .string ⟨#[]⟩, .slice (some ⟨w.heap.size + 1, 0, none⟩) 0 0] 45)
    rwa [World.size_alloc, World.size_alloc] at h
theorem Pro.ret {w W W1 W9 : World} {G : Nat} (h : Pro w W G) (h1 : Below W.heap.size W W1) (h9 : Below G W1 W9) : Below w.heap.size w W9 :=
  (h.below.trans (h1.mono h.below.size)).trans (h9.mono (by rw [h.g]; exact Nat.le_refl _))
/-- What a reader handed back, in a later world. -/
theorem RetS.carry {w' w9 : World} {B B' : Nat} {o : Option (Tm × Nat)} {c : Nat} {L : ByteArray} {a : Option Addr} {n q : Nat}
    (h : OkS w' B q c L a n o) (hB : B' ≤ B) (hk : ∀ k, B ≤ k → k < w'.heap.size → w9.heap[k]? = w'.heap[k]?) : OkS w9 B' q c L a n o := by
  cases o with
  | none => exact h
  | some r => obtain ⟨t, p⟩ := r; exact ⟨h.1, SV.mono hB (SV.keep hk h.2)⟩
/-- The contract of l10Read, from a place on with so much left. -/
def ReadC (s : ByteArray) (f : Nat) : Prop := ∀ (p : Nat) (w : World), p ≤ s.size → s.size ≤ p + f →
  Calls Tryd.prog 59 #[.string s, .int .i64 (p : Nat)] w (RetS w (readT s f p))

set_option maxRecDepth 100000 in
set_option maxHeartbeats 3200000 in
theorem read_end (s : ByteArray) (f p : Nat) (w : World) (hp : s.size ≤ p) :
    Calls Tryd.prog 59 #[.string s, .int .i64 (p : Nat)] w (RetS w (none)) := by
  have d1 : decide ((s.size : Int) ≤ (p : Int)) = true := decide_eq_true (by omega)
  have d1n : decide (s.size ≤ p) = true := decide_eq_true hp
  clear hp
  go_enter Tryd.func59, Tryd.ntmps59
  go_wp2
  refine bodyPost_ret (results_term Tryd.results59 _ _ w.heap.size _ _ _ rfl (by rw [Below.heap_alloc _ _ _ (by simp; omega), Below.heap_alloc _ _ _ (by simp)]; exact heap_alloc_last w _)) rfl ?_
  refine ⟨((Below.refl _ _).alloc (Nat.le_refl _) _ |>.alloc (by simp) _).alloc (by simp; omega) _, 105, ⟨#[]⟩, _, 0, 0, 0, rfl, rfl⟩
set_option maxRecDepth 100000 in
set_option maxHeartbeats 3200000 in
theorem read_i (s : ByteArray) (f p : Nat) (w : World) (b : Nat) (hb : b = bt s p) (hp : p < s.size) (hs : s.size ≤ 60) (h : b = 105) :
    Calls Tryd.prog 59 #[.string s, .int .i64 (p : Nat)] w (RetS w (some (.keep, p + 1))) := by
  have d1 : decide ((s.size : Int) ≤ (p : Int)) = false := decide_eq_false (by omega)
  have d1n : decide (s.size ≤ p) = false := decide_eq_false (by omega)
  have hix : ∀ w : World, (Instr.index 9 (.string s) (.int .i64 (p : Nat))).run Tryd.prog w = .ok (.int .u8 (b : Nat)) w := fun w => by rw [hb]; exact run_index_bt w _ s _ p Tryd.underlying9 hp
  have e1 : ((b : Int) == 105) = true := by simp [h]
  have hw1 : IntKind.i64.wrap ((p : Int) + 1) = ((p + 1 : Nat) : Int) := by rw [IntWalk.i64_in _ (by omega)]; omega
  clear hb hp hs h
  go_enter Tryd.func59, Tryd.ntmps59
  go_wp2
  refine bodyPost_ret (results_term Tryd.results59 _ _ w.heap.size _ _ _ rfl (by rw [Below.heap_alloc _ _ _ (by simp; omega), Below.heap_alloc _ _ _ (by simp)]; exact heap_alloc_last w _)) rfl ?_
  refine ⟨((Below.refl _ _).alloc (Nat.le_refl _) _ |>.alloc (by simp) _).alloc (by simp; omega) _, 105, ⟨#[]⟩, _, 0, 0, p + 1, rfl, ⟨rfl, rfl, rfl, rfl⟩⟩
set_option maxRecDepth 100000 in
set_option maxHeartbeats 3200000 in
theorem read_none1 (s : ByteArray) (f p : Nat) (w : World) (b : Nat) (hb : b = bt s p) (hp : p < s.size) (hs : s.size ≤ 60) (h1 : b ≠ 105) (h2 : b ≠ 91) (h3 : ¬ SignP b) (h4 : b ≠ 40) (h5 : ¬ 50 ≤ b) :
    Calls Tryd.prog 59 #[.string s, .int .i64 (p : Nat)] w (RetS w (none)) := by
  have d1 : decide ((s.size : Int) ≤ (p : Int)) = false := decide_eq_false (by omega)
  have d1n : decide (s.size ≤ p) = false := decide_eq_false (by omega)
  have hix : ∀ w : World, (Instr.index 9 (.string s) (.int .i64 (p : Nat))).run Tryd.prog w = .ok (.int .u8 (b : Nat)) w := fun w => by rw [hb]; exact run_index_bt w _ s _ p Tryd.underlying9 hp
  have e1 : ((b : Int) == 105) = false := by simp; omega
  have e2 : ((b : Int) == 45) = false := by simp; unfold SignP at h3; omega
  have e3 : decide ((50 : Int) ≤ (b : Int)) = false := decide_eq_false (by omega)
  have e3n : decide (50 ≤ b) = false := decide_eq_false h5
  have e4 : ((b : Int) == 91) = false := by simp; omega
  have e5 : ((b : Int) != 40) = true := by simp; omega
  clear hb hp hs h1 h2 h3 h4 h5
  go_enter Tryd.func59, Tryd.ntmps59
  go_wp2
  refine bodyPost_ret (results_term Tryd.results59 _ _ w.heap.size _ _ _ rfl (by rw [Below.heap_alloc _ _ _ (by simp; omega), Below.heap_alloc _ _ _ (by simp)]; exact heap_alloc_last w _)) rfl ?_
  refine ⟨((Below.refl _ _).alloc (Nat.le_refl _) _ |>.alloc (by simp) _).alloc (by simp; omega) _, 105, ⟨#[]⟩, _, 0, 0, 0, rfl, rfl⟩
set_option maxRecDepth 100000 in
set_option maxHeartbeats 3200000 in
theorem read_none2 (s : ByteArray) (f p : Nat) (w : World) (b : Nat) (hb : b = bt s p) (hp : p < s.size) (hs : s.size ≤ 60) (h1 : b ≠ 105) (h2 : b ≠ 91) (h3 : ¬ SignP b) (h4 : b ≠ 40) (h5 : 50 ≤ b) :
    Calls Tryd.prog 59 #[.string s, .int .i64 (p : Nat)] w (RetS w (none)) := by
  have d1 : decide ((s.size : Int) ≤ (p : Int)) = false := decide_eq_false (by omega)
  have d1n : decide (s.size ≤ p) = false := decide_eq_false (by omega)
  have hix : ∀ w : World, (Instr.index 9 (.string s) (.int .i64 (p : Nat))).run Tryd.prog w = .ok (.int .u8 (b : Nat)) w := fun w => by rw [hb]; exact run_index_bt w _ s _ p Tryd.underlying9 hp
  have e1 : ((b : Int) == 105) = false := by simp; omega
  have e2 : ((b : Int) == 45) = false := by simp; unfold SignP at h3; omega
  have e3 : decide ((50 : Int) ≤ (b : Int)) = true := decide_eq_true (by omega)
  have e3n : decide (50 ≤ b) = true := decide_eq_true h5
  have e6 : decide ((b : Int) ≤ 57) = false := decide_eq_false (by unfold SignP at h3; omega)
  have e6n : decide (b ≤ 57) = false := decide_eq_false (by unfold SignP at h3; omega)
  have e4 : ((b : Int) == 91) = false := by simp; omega
  have e5 : ((b : Int) != 40) = true := by simp; omega
  clear hb hp hs h1 h2 h3 h4 h5
  go_enter Tryd.func59, Tryd.ntmps59
  go_wp2
  refine bodyPost_ret (results_term Tryd.results59 _ _ w.heap.size _ _ _ rfl (by rw [Below.heap_alloc _ _ _ (by simp; omega), Below.heap_alloc _ _ _ (by simp)]; exact heap_alloc_last w _)) rfl ?_
  refine ⟨((Below.refl _ _).alloc (Nat.le_refl _) _ |>.alloc (by simp) _).alloc (by simp; omega) _, 105, ⟨#[]⟩, _, 0, 0, 0, rfl, rfl⟩
end Go.Proofs.YtnaegnjgpnakfaaDoor

/- The model reads terms: circles, signs, pairs. -/
namespace Go.Proofs.YtnaegnjgpnakfaaDoor
set_option linter.unusedVariables false
set_option linter.unusedSimpArgs false
open Go.RowKit


set_option maxRecDepth 100000 in
set_option maxHeartbeats 3200000 in
theorem read_circ (s : ByteArray) (f p : Nat) (w : World) (b : Nat) (hb : b = bt s p) (hp : p < s.size) (hs : s.size ≤ 60) (h : b = 91) :
    Calls Tryd.prog 59 #[.string s, .int .i64 (p : Nat)] w (RetS w (circR s (p + 1))) := by
  have d1 : decide ((s.size : Int) ≤ (p : Int)) = false := decide_eq_false (by omega)
  have d1n : decide (s.size ≤ p) = false := decide_eq_false (by omega)
  have hix : ∀ w : World, (Instr.index 9 (.string s) (.int .i64 (p : Nat))).run Tryd.prog w = .ok (.int .u8 (b : Nat)) w := fun w => by rw [hb]; exact run_index_bt w _ s _ p Tryd.underlying9 hp
  have e1 : ((b : Int) == 105) = false := by simp; omega
  have e2 : ((b : Int) == 45) = false := by simp; omega
  have e3 : decide ((50 : Int) ≤ (b : Int)) = true := decide_eq_true (by omega)
  have e3n : decide (50 ≤ b) = true := decide_eq_true (by omega)
  have e6 : decide ((b : Int) ≤ 57) = false := decide_eq_false (by omega)
  have e6n : decide (b ≤ 57) = false := decide_eq_false (by omega)
  have e4 : ((b : Int) == 91) = true := by simp [h]
  have hw1 : IntKind.i64.wrap ((p : Int) + 1) = ((p + 1 : Nat) : Int) := by rw [IntWalk.i64_in _ (by omega)]; omega
  have H0 := Lib.hid (fun w1 => specCircle_any s (p + 1) w1 hs (by omega))
  clear hb hp hs h
  go_enter Tryd.func59, Tryd.ntmps59
  go_wp2_with fail
  obtain ⟨G, hG⟩ : ∃ G, G = w.heap.size := ⟨_, rfl⟩
  obtain ⟨W0, hW0⟩ : ∃ W0, W0 = proW w := ⟨_, rfl⟩
  have HP := Lib.hid (show Pro w W0 G from by rw [hW0, hG]; exact pro_mk w)
  unfold proW at hW0
  rw [← hW0, ← hG]
  clear hW0 hG
  refine (H0.out W0).mono ?_
  rintro e W1 ⟨hb1, c, L, a, n, k, q, rfl, hr⟩
  have X1 := Lib.hid (And.intro hb1 hr)
  have HR := Lib.hid (show W1.heap[G]? = some (.cells #[.int .u8 0, .string ⟨#[]⟩, .slice none 0 0] 45 (0, 0)) from (hb1.block G (by have := HP.out.size; omega)).trans HP.out.res)
  clear hb1 hr
  go_wp2_with ((with_reducible refine st_next ?_); (refine row3_store 45 45 _ _ G _ _ _ _ _ _ (by rfl) (by rfl) HR.out Tryd.sizeTerm (by rfl) (by rfl) (by rfl) ?_; intro W9 r9 s9 o9 b9; have X9 := Lib.hid (And.intro r9 (And.intro o9 b9)); clear r9 s9 o9 b9))
  refine bodyPost_ret (results_term Tryd.results59 _ _ G _ _ _ rfl X9.out.1) rfl ?_
  refine ⟨HP.out.ret X1.out.1 (X9.out.2.2), c, L, a, n, k, q, rfl, ?_⟩
  exact RetS.carry (B' := w.heap.size) X1.out.2 (by have := HP.out.size; have := HP.out.g; omega) (fun k h1 h2 => X9.out.2.1 k (by have := HP.out.size; omega))
set_option maxRecDepth 100000 in
set_option maxHeartbeats 3200000 in
theorem read_back (s : ByteArray) (f p : Nat) (w : World) (b : Nat) (hb : b = bt s p) (hp : p < s.size) (hs : s.size ≤ 60) (hf : s.size ≤ p + 1 + f) (H : ReadC s f) (h : b = 45) :
    Calls Tryd.prog 59 #[.string s, .int .i64 (p : Nat)] w (RetS w (signR b (readT s f (p + 1)))) := by
  have d1 : decide ((s.size : Int) ≤ (p : Int)) = false := decide_eq_false (by omega)
  have d1n : decide (s.size ≤ p) = false := decide_eq_false (by omega)
  have hix : ∀ w : World, (Instr.index 9 (.string s) (.int .i64 (p : Nat))).run Tryd.prog w = .ok (.int .u8 (b : Nat)) w := fun w => by rw [hb]; exact run_index_bt w _ s _ p Tryd.underlying9 hp
  have e1 : ((b : Int) == 105) = false := by simp; omega
  have e2 : ((b : Int) == 45) = true := by simp [h]
  have h45 := Lib.hid h
  have hw1 : IntKind.i64.wrap ((p : Int) + 1) = ((p + 1 : Nat) : Int) := by rw [IntWalk.i64_in _ (by omega)]; omega
  have H0 := Lib.hid (fun w1 => H (p + 1) w1 (by omega) hf)
  have HV := Lib.hid (fun (t : Tm) (e : Nat) => show signR b (some (t, e)) = some (.back t, e) by show some (if b = 45 then Tm.back t else Tm.times (b - 48) t, e) = _; rw [if_pos h])
  clear hb hp hs h hf H
  go_enter Tryd.func59, Tryd.ntmps59
  go_wp2_with fail
  obtain ⟨G, hG⟩ : ∃ G, G = w.heap.size := ⟨_, rfl⟩
  obtain ⟨W0, hW0⟩ : ∃ W0, W0 = proW w := ⟨_, rfl⟩
  have HP := Lib.hid (show Pro w W0 G from by rw [hW0, hG]; exact pro_mk w)
  unfold proW at hW0
  rw [← hW0, ← hG]
  clear hW0 hG
  refine (H0.out W0).mono ?_
  rintro e W1 ⟨hb1, c, L, a, n, k, q, rfl, hr⟩
  have X1 := Lib.hid (And.intro hb1 hr)
  have HR := Lib.hid (show ∀ o1 o2, ((W1.alloc o1).alloc o2).heap[G]? = some (.cells #[.int .u8 0, .string ⟨#[]⟩, .slice none 0 0] 45 (0, 0)) from fun o1 o2 => by
    rw [Below.heap_alloc _ _ _ (by rw [World.size_alloc]; have := HP.out.size; have := hb1.size; omega), Below.heap_alloc _ _ _ (by have := HP.out.size; have := hb1.size; omega)]
    exact (hb1.block G (by have := HP.out.size; omega)).trans HP.out.res)
  clear hb1 hr
  go_wp2_with ((with_reducible refine st_next ?_); (refine row3_store 45 45 _ _ G _ _ _ _ _ _ (by rfl) (by rfl) (HR.out _ _) Tryd.sizeTerm (by rfl) (by rfl) (by rfl) ?_; intro W9 r9 s9 o9 b9; have X9 := Lib.hid (And.intro r9 (And.intro o9 b9)); clear r9 s9 o9 b9))
  refine bodyPost_ret (results_term Tryd.results59 _ _ G _ _ _ rfl X9.out.1) rfl ?_
  have hz1 := X1.out.1.size
  have hz0 := HP.out.size
  have hzg := HP.out.g
  refine ⟨HP.out.ret (below_alloc (below_alloc X1.out.1 _) _) (X9.out.2.2), b, ⟨#[]⟩, _, 1, _, q, rfl, ?_⟩
  have hc := X1.out.2
  cases ho : readT s f (p + 1) with
  | none => rw [ho] at hc; exact hc
  | some r =>
    obtain ⟨t, e⟩ := r
    rw [ho] at hc
    rw [HV.out]
    have hblk := (X9.out.2.1 (W1.heap.size + 1) (by omega)).trans (show _ = some (Obj.cells #[.int .u8 (c : Nat), .string L, .slice a n k] 45 (0, 0)) from by
      have h := heap_alloc_last (W1.alloc (.cells #[.int .u8 (c : Nat), .string L, .slice a n k] 45)) (.cells #[.int .u8 (c : Nat), .string L, .slice a n k] 45)
      rwa [World.size_alloc] at h)
    refine ⟨hc.1, h45.out, rfl, rfl, W1.heap.size + 1, c, L, a, n, k, rfl, by omega, ⟨cell_of_row _ _ 0 _ _ (0, 0) hblk, cell_of_row _ _ 1 _ _ (0, 0) hblk, cell_of_row _ _ 2 _ _ (0, 0) hblk⟩, ?_⟩
    refine SV.mono (by omega) (SV.keep (fun k h1 h2 => ?_) hc.2)
    rw [X9.out.2.1 k (by omega), Below.heap_alloc _ _ _ (by rw [World.size_alloc]; omega), Below.heap_alloc _ _ _ h2]
set_option maxRecDepth 100000 in
set_option maxHeartbeats 3200000 in
theorem read_times (s : ByteArray) (f p : Nat) (w : World) (b : Nat) (hb : b = bt s p) (hp : p < s.size) (hs : s.size ≤ 60) (hf : s.size ≤ p + 1 + f) (H : ReadC s f) (h : 50 ≤ b ∧ b ≤ 57) :
    Calls Tryd.prog 59 #[.string s, .int .i64 (p : Nat)] w (RetS w (signR b (readT s f (p + 1)))) := by
  have d1 : decide ((s.size : Int) ≤ (p : Int)) = false := decide_eq_false (by omega)
  have d1n : decide (s.size ≤ p) = false := decide_eq_false (by omega)
  have hix : ∀ w : World, (Instr.index 9 (.string s) (.int .i64 (p : Nat))).run Tryd.prog w = .ok (.int .u8 (b : Nat)) w := fun w => by rw [hb]; exact run_index_bt w _ s _ p Tryd.underlying9 hp
  have e1 : ((b : Int) == 105) = false := by simp; omega
  have e2 : ((b : Int) == 45) = false := by simp; omega
  have e3 : decide ((50 : Int) ≤ (b : Int)) = true := decide_eq_true (by omega)
  have e3n : decide (50 ≤ b) = true := decide_eq_true h.1
  have e6 : decide ((b : Int) ≤ 57) = true := decide_eq_true (by omega)
  have e6n : decide (b ≤ 57) = true := decide_eq_true h.2
  have HC := Lib.hid (show b = 48 + (b - 48) by omega)
  have hw1 : IntKind.i64.wrap ((p : Int) + 1) = ((p + 1 : Nat) : Int) := by rw [IntWalk.i64_in _ (by omega)]; omega
  have H0 := Lib.hid (fun w1 => H (p + 1) w1 (by omega) hf)
  have HV := Lib.hid (fun (t : Tm) (e : Nat) => show signR b (some (t, e)) = some (.times (b - 48) t, e) by show some (if b = 45 then Tm.back t else Tm.times (b - 48) t, e) = _; rw [if_neg (by omega)])
  clear hb hp hs h hf H
  go_enter Tryd.func59, Tryd.ntmps59
  go_wp2_with fail
  obtain ⟨G, hG⟩ : ∃ G, G = w.heap.size := ⟨_, rfl⟩
  obtain ⟨W0, hW0⟩ : ∃ W0, W0 = proW w := ⟨_, rfl⟩
  have HP := Lib.hid (show Pro w W0 G from by rw [hW0, hG]; exact pro_mk w)
  unfold proW at hW0
  rw [← hW0, ← hG]
  clear hW0 hG
  refine (H0.out W0).mono ?_
  rintro e W1 ⟨hb1, c, L, a, n, k, q, rfl, hr⟩
  have X1 := Lib.hid (And.intro hb1 hr)
  have HR := Lib.hid (show ∀ o1 o2, ((W1.alloc o1).alloc o2).heap[G]? = some (.cells #[.int .u8 0, .string ⟨#[]⟩, .slice none 0 0] 45 (0, 0)) from fun o1 o2 => by
    rw [Below.heap_alloc _ _ _ (by rw [World.size_alloc]; have := HP.out.size; have := hb1.size; omega), Below.heap_alloc _ _ _ (by have := HP.out.size; have := hb1.size; omega)]
    exact (hb1.block G (by have := HP.out.size; omega)).trans HP.out.res)
  clear hb1 hr
  go_wp2_with ((with_reducible refine st_next ?_); (refine row3_store 45 45 _ _ G _ _ _ _ _ _ (by rfl) (by rfl) (HR.out _ _) Tryd.sizeTerm (by rfl) (by rfl) (by rfl) ?_; intro W9 r9 s9 o9 b9; have X9 := Lib.hid (And.intro r9 (And.intro o9 b9)); clear r9 s9 o9 b9))
  refine bodyPost_ret (results_term Tryd.results59 _ _ G _ _ _ rfl X9.out.1) rfl ?_
  have hz1 := X1.out.1.size
  have hz0 := HP.out.size
  have hzg := HP.out.g
  refine ⟨HP.out.ret (below_alloc (below_alloc X1.out.1 _) _) (X9.out.2.2), b, ⟨#[]⟩, _, 1, _, q, rfl, ?_⟩
  have hc := X1.out.2
  cases ho : readT s f (p + 1) with
  | none => rw [ho] at hc; exact hc
  | some r =>
    obtain ⟨t, e⟩ := r
    rw [ho] at hc
    rw [HV.out]
    have hblk := (X9.out.2.1 (W1.heap.size + 1) (by omega)).trans (show _ = some (Obj.cells #[.int .u8 (c : Nat), .string L, .slice a n k] 45 (0, 0)) from by
      have h := heap_alloc_last (W1.alloc (.cells #[.int .u8 (c : Nat), .string L, .slice a n k] 45)) (.cells #[.int .u8 (c : Nat), .string L, .slice a n k] 45)
      rwa [World.size_alloc] at h)
    refine ⟨hc.1, HC.out, rfl, rfl, W1.heap.size + 1, c, L, a, n, k, rfl, by omega, ⟨cell_of_row _ _ 0 _ _ (0, 0) hblk, cell_of_row _ _ 1 _ _ (0, 0) hblk, cell_of_row _ _ 2 _ _ (0, 0) hblk⟩, ?_⟩
    refine SV.mono (by omega) (SV.keep (fun k h1 h2 => ?_) hc.2)
    rw [X9.out.2.1 k (by omega), Below.heap_alloc _ _ _ (by rw [World.size_alloc]; omega), Below.heap_alloc _ _ _ h2]
end Go.Proofs.YtnaegnjgpnakfaaDoor

/- The model reads terms: pairs, and all. -/
namespace Go.Proofs.YtnaegnjgpnakfaaDoor
set_option linter.unusedVariables false
set_option linter.unusedSimpArgs false
open Go.RowKit

/-- The three tests behind a reader: nothing read, at the end, another sign. -/
def BadQ (s : ByteArray) (q c : Nat) : Prop := (((q : Int) == 0) = true) ∨ (((q : Int) == 0) = false ∧ decide ((s.size : Int) ≤ (q : Int)) = true ∧ decide (s.size ≤ q) = true) ∨
  (((q : Int) == 0) = false ∧ decide ((s.size : Int) ≤ (q : Int)) = false ∧ decide (s.size ≤ q) = false ∧ ∃ b : Nat, (∀ w : World, (Instr.index 9 (.string s) (.int .i64 (q : Nat))).run Tryd.prog w = .ok (.int .u8 (b : Nat)) w) ∧ ((b : Int) != c) = true)
def GoodQ (s : ByteArray) (q c : Nat) : Prop := ((q : Int) == 0) = false ∧ decide ((s.size : Int) ≤ (q : Int)) = false ∧ decide (s.size ≤ q) = false ∧ ∃ b : Nat, (∀ w : World, (Instr.index 9 (.string s) (.int .i64 (q : Nat))).run Tryd.prog w = .ok (.int .u8 (b : Nat)) w) ∧ ((b : Int) != c) = false
/-- What the tests find tells what is ahead. -/
theorem tests {w : World} {s : ByteArray} {B q c k : Nat} {L : ByteArray} {a : Option Addr} {n : Nat} {o : Option (Tm × Nat)} (hc : c ≠ 0) (ho : ∀ t e, o = some (t, e) → 0 < e ∧ e ≤ s.size) (h : OkS w B q k L a n o) :
    (BadQ s q c ∧ aheadR s c o = none) ∨ (GoodQ s q c ∧ q < s.size ∧ ∃ t, o = some (t, q) ∧ aheadR s c o = some (t, q + 1) ∧ SV w B t k L a n) := by
  cases o with
  | none =>
    have h' : q = 0 := h
    exact .inl ⟨.inl (by simp [h']), rfl⟩
  | some r =>
    obtain ⟨t, e⟩ := r
    obtain ⟨rfl, hv⟩ := h
    have hb := ho t q rfl
    have h0 : ((q : Int) == 0) = false := by simp; omega
    by_cases hq : q < s.size
    · have h1 : decide ((s.size : Int) ≤ (q : Int)) = false := decide_eq_false (by omega)
      have h2 : decide (s.size ≤ q) = false := decide_eq_false (by omega)
      have hix : ∀ w : World, (Instr.index 9 (.string s) (.int .i64 (q : Nat))).run Tryd.prog w = .ok (.int .u8 (bt s q : Nat)) w := fun w => run_index_bt w _ s _ q Tryd.underlying9 hq
      by_cases hc2 : bt s q = c
      · exact .inr ⟨⟨h0, h1, h2, _, hix, by simp [hc2]⟩, hq, t, rfl, by show (if bt s q = c then some (t, q + 1) else none) = _; rw [if_pos hc2], hv⟩
      · exact .inl ⟨.inr (.inr ⟨h0, h1, h2, _, hix, by simp; omega⟩), by show (if bt s q = c then some (t, q + 1) else none) = _; rw [if_neg hc2]⟩
    · exact .inl ⟨.inr (.inl ⟨h0, decide_eq_true (by omega), decide_eq_true (by omega)⟩), by show (if bt s q = c then some (t, q + 1) else none) = _; rw [if_neg (by rw [bt_out (by omega)]; omega)]⟩

set_option maxRecDepth 100000 in
set_option maxHeartbeats 3200000 in
theorem read_pair (s : ByteArray) (f p : Nat) (w : World) (b : Nat) (hb : b = bt s p) (hp : p < s.size) (hs : s.size ≤ 60) (hf : s.size ≤ p + 1 + f) (H : ReadC s f) (h : b = 40) :
    Calls Tryd.prog 59 #[.string s, .int .i64 (p : Nat)] w (RetS w (bothR (aheadR s 46 (readT s f (p + 1))) (fun e => aheadR s 41 (readT s f e)))) := by
  have d1 : decide ((s.size : Int) ≤ (p : Int)) = false := decide_eq_false (by omega)
  have d1n : decide (s.size ≤ p) = false := decide_eq_false (by omega)
  have hix : ∀ w : World, (Instr.index 9 (.string s) (.int .i64 (p : Nat))).run Tryd.prog w = .ok (.int .u8 (b : Nat)) w := fun w => by rw [hb]; exact run_index_bt w _ s _ p Tryd.underlying9 hp
  have e1 : ((b : Int) == 105) = false := by simp; omega
  have e2 : ((b : Int) == 45) = false := by simp; omega
  have e3 : decide ((50 : Int) ≤ (b : Int)) = false := decide_eq_false (by omega)
  have e3n : decide (50 ≤ b) = false := decide_eq_false (by omega)
  have e4 : ((b : Int) == 91) = false := by simp; omega
  have e5 : ((b : Int) != 40) = false := by simp [h]
  have hw1 : IntKind.i64.wrap ((p : Int) + 1) = ((p + 1 : Nat) : Int) := by rw [IntWalk.i64_in _ (by omega)]; omega
  have H0 := Lib.hid (fun w1 => H (p + 1) w1 (by omega) hf)
  have H1 := Lib.hid (fun (e : Nat) (w1 : World) (h1 : p < e) (h2 : e ≤ s.size) => H e w1 h2 (by omega))
  have HS := Lib.hid hs
  clear hb hp hs h hf H
  go_enter Tryd.func59, Tryd.ntmps59
  go_wp2_with fail
  obtain ⟨G, hG⟩ : ∃ G, G = w.heap.size := ⟨_, rfl⟩
  obtain ⟨W0, hW0⟩ : ∃ W0, W0 = proW w := ⟨_, rfl⟩
  have HP := Lib.hid (show Pro w W0 G from by rw [hW0, hG]; exact pro_mk w)
  unfold proW at hW0
  rw [← hW0, ← hG]
  clear hW0 hG
  refine (H0.out W0).mono ?_
  rintro e W1 ⟨hb1, c, L, a, n, k, q, rfl, hr⟩
  have X1 := Lib.hid hb1
  have hz0 := HP.out.size
  have hz1 := hb1.size
  have HN := Lib.hid (show W1.heap[G + 1 + 1]? = some (.cells #[.int .u8 105, .string ⟨#[]⟩, .slice (some ⟨G + 1, 0, none⟩) 0 0] 45 (0, 0)) from (hb1.block (G + 1 + 1) (by omega)).trans HP.out.none)
  have HR1 := Lib.hid (show W1.heap[G]? = some (.cells #[.int .u8 0, .string ⟨#[]⟩, .slice none 0 0] 45 (0, 0)) from (hb1.block G (by omega)).trans HP.out.res)
  have HRA := Lib.hid (show ∀ o, (W1.alloc o).heap[G]? = some (.cells #[.int .u8 0, .string ⟨#[]⟩, .slice none 0 0] 45 (0, 0)) from fun o => (Below.heap_alloc _ _ _ (by omega)).trans HR1.out)
  have HNA : ∀ (o : Obj) (j : Nat), (W1.alloc o).cell? ⟨G + 1 + 1, j, none⟩ = W1.cell? ⟨G + 1 + 1, j, none⟩ := fun o j => World.cell?_of_block (w := W1) (Below.heap_alloc _ _ _ (by show G + 1 + 1 < _; omega))
  have hn0 := fun o => (HNA o 0).trans (cell_of_row _ _ 0 _ _ (0, 0) HN.out)
  have hn1 := fun o => (HNA o 1).trans (cell_of_row _ _ 1 _ _ (0, 0) HN.out)
  have hn2 := fun o => (HNA o 2).trans (cell_of_row _ _ 2 _ _ (0, 0) HN.out)
  have HZ := Lib.hid (And.intro hz0 hz1)
  clear HNA hz0 hz1 hb1
  rcases tests (s := s) (c := 46) (by decide) (fun t e ho => by have := readT_bound _ _ _ _ ho; omega) hr with ⟨hbad, hah⟩ | ⟨⟨d1, d2, d2n, bx, hix1, d3⟩, hq, t, ho, hah, hv⟩
  · have E := Lib.hid (show bothR (aheadR s 46 (readT s f (p + 1))) (fun e => aheadR s 41 (readT s f e)) = none by rw [hah]; rfl)
    clear hr hah
    rcases hbad with d1 | ⟨d1, d2, d2n⟩ | ⟨d1, d2, d2n, bx, hix, d3⟩
    all_goals
      go_wp2_with ((with_reducible refine st_next ?_); (refine row3_store 45 45 _ _ G _ _ _ _ _ _ (by rfl) (by rfl) (HRA.out _) Tryd.sizeTerm (by rfl) (by rfl) (by rfl) ?_; intro W9 r9 s9 o9 b9; have X9 := Lib.hid (And.intro r9 (And.intro o9 b9)); clear r9 s9 o9 b9))
      refine bodyPost_ret (results_term Tryd.results59 _ _ G _ _ _ rfl X9.out.1) rfl ?_
      rw [E.out]
      exact ⟨HP.out.ret (below_alloc X1.out _) (X9.out.2.2), 105, ⟨#[]⟩, _, 0, 0, 0, rfl, rfl⟩
  · have HQ := Lib.hid (And.intro hq (readT_bound _ _ _ _ ho).1)
    have HV := Lib.hid hv
    have HA := Lib.hid hah
    have hw2 : IntKind.i64.wrap ((q : Int) + 1) = ((q + 1 : Nat) : Int) := by rw [IntWalk.i64_in _ (by have := HS.out; omega)]; omega
    clear hr hah ho hv hq
    go_wp2_with fail
    obtain ⟨G1, hG1⟩ : ∃ G1, G1 = W1.heap.size := ⟨_, rfl⟩
    obtain ⟨V1, hV1⟩ : ∃ V1, V1 = W1.alloc (.cells #[.int .u8 (c : Nat), .string L, .slice a n k] 45) := ⟨_, rfl⟩
    have hv1 : V1.heap[G1]? = some (.cells #[.int .u8 (c : Nat), .string L, .slice a n k] 45 (0, 0)) := by rw [hV1, hG1]; exact heap_alloc_last W1 _
    have hs1 : V1.heap.size = W1.heap.size + 1 := by rw [hV1]; simp
    have Y1 := Lib.hid (show Below W0.heap.size W0 V1 ∧ V1.heap[G]? = some (.cells #[.int .u8 0, .string ⟨#[]⟩, .slice none 0 0] 45 (0, 0)) ∧ V1.heap[G + 1 + 1]? = some (.cells #[.int .u8 105, .string ⟨#[]⟩, .slice (some ⟨G + 1, 0, none⟩) 0 0] 45 (0, 0)) ∧ SV V1 W0.heap.size t c L a n ∧ V1.heap[G1]? = some (.cells #[.int .u8 (c : Nat), .string L, .slice a n k] 45 (0, 0)) ∧ G1 + 1 = V1.heap.size ∧ W0.heap.size ≤ G1 from by
      refine ⟨by rw [hV1]; exact below_alloc X1.out _, by rw [hV1]; exact HRA.out _, by rw [hV1]; exact (Below.heap_alloc _ _ _ (by have := HZ.out; omega)).trans HN.out, by rw [hV1]; exact HV.out.below (below_alloc (Below.refl _ _) _), hv1, by omega, by rw [hG1]; exact HZ.out.2⟩)
    rw [← hV1, ← hG1]
    clear hn0 hn1 hn2 HV HN HR1 HRA hV1 hG1 hv1 hs1 d1 d2 d2n d3 hix1
    refine (H1.out (q + 1) V1 (by have := HQ.out; omega) (by have := HQ.out; omega)).mono ?_
    rintro e W2 ⟨hb2, c2, L2, a2, n2, k2, q2, rfl, hr⟩
    have hz0 := HP.out.size
    have hz2 := hb2.size
    have hg1 := Y1.out.2.2.2.2.2
    have HRX := Lib.hid (show W2.heap[G]? = some (.cells #[.int .u8 0, .string ⟨#[]⟩, .slice none 0 0] 45 (0, 0)) from (hb2.block G (by omega)).trans Y1.out.2.1)
    have HNX := Lib.hid (show W2.heap[G + 1 + 1]? = some (.cells #[.int .u8 105, .string ⟨#[]⟩, .slice (some ⟨G + 1, 0, none⟩) 0 0] 45 (0, 0)) from (hb2.block (G + 1 + 1) (by omega)).trans Y1.out.2.2.1)
    have HGX := Lib.hid (show W2.heap[G1]? = some (.cells #[.int .u8 (c : Nat), .string L, .slice a n k] 45 (0, 0)) from (hb2.block G1 (by omega)).trans Y1.out.2.2.2.2.1)
    have HRB := Lib.hid (show ∀ o, (W2.alloc o).heap[G]? = some (.cells #[.int .u8 0, .string ⟨#[]⟩, .slice none 0 0] 45 (0, 0)) from fun o => (Below.heap_alloc _ _ _ (by omega)).trans HRX.out)
    have HRC := Lib.hid (show ∀ o1 o2, ((W2.alloc o1).alloc o2).heap[G]? = some (.cells #[.int .u8 0, .string ⟨#[]⟩, .slice none 0 0] 45 (0, 0)) from fun o1 o2 => (Below.heap_alloc _ _ _ (by rw [World.size_alloc]; omega)).trans (HRB.out o1))
    have HNA : ∀ (o : Obj) (j : Nat), (W2.alloc o).cell? ⟨G + 1 + 1, j, none⟩ = W2.cell? ⟨G + 1 + 1, j, none⟩ := fun o j => World.cell?_of_block (w := W2) (Below.heap_alloc _ _ _ (by show G + 1 + 1 < _; omega))
    have hn0 := fun o => (HNA o 0).trans (cell_of_row _ _ 0 _ _ (0, 0) HNX.out)
    have hn1 := fun o => (HNA o 1).trans (cell_of_row _ _ 1 _ _ (0, 0) HNX.out)
    have hn2 := fun o => (HNA o 2).trans (cell_of_row _ _ 2 _ _ (0, 0) HNX.out)
    have HGA : ∀ (o : Obj) (j : Nat), (W2.alloc o).cell? ⟨G1, j, none⟩ = W2.cell? ⟨G1, j, none⟩ := fun o j => World.cell?_of_block (w := W2) (Below.heap_alloc _ _ _ (by show G1 < _; omega))
    have hg0 := fun o => (HGA o 0).trans (cell_of_row _ _ 0 _ _ (0, 0) HGX.out)
    have hg1' := fun o => (HGA o 1).trans (cell_of_row _ _ 1 _ _ (0, 0) HGX.out)
    have hg2 := fun o => (HGA o 2).trans (cell_of_row _ _ 2 _ _ (0, 0) HGX.out)
    have Y2 := Lib.hid hb2
    have HZ2 := Lib.hid (And.intro hz0 (And.intro hz2 hg1))
    clear HNA HGA hz0 hz2 hg1 hb2
    rcases tests (s := s) (c := 41) (by decide) (fun t e ho => by have := readT_bound _ _ _ _ ho; omega) hr with ⟨hbad, hah⟩ | ⟨⟨d1, d2, d2n, bx, hix1, d3⟩, hq, t2, ho, hah, hv⟩
    · have E := Lib.hid (show bothR (aheadR s 46 (readT s f (p + 1))) (fun e => aheadR s 41 (readT s f e)) = none by rw [HA.out]; show (match aheadR s 41 (readT s f (q + 1)) with | none => none | some (b, e') => some (Tm.pair t b, e')) = none; rw [hah])
      clear hr hah
      rcases hbad with d1 | ⟨d1, d2, d2n⟩ | ⟨d1, d2, d2n, bx, hix, d3⟩
      all_goals
        go_wp2_with ((with_reducible refine st_next ?_); (refine row3_store 45 45 _ _ G _ _ _ _ _ _ (by rfl) (by rfl) (HRB.out _) Tryd.sizeTerm (by rfl) (by rfl) (by rfl) ?_; intro W9 r9 s9 o9 b9; have X9 := Lib.hid (And.intro r9 (And.intro o9 b9)); clear r9 s9 o9 b9))
        refine bodyPost_ret (results_term Tryd.results59 _ _ G _ _ _ rfl X9.out.1) rfl ?_
        rw [E.out]
        exact ⟨HP.out.ret (Y1.out.1.trans ((below_alloc Y2.out _).mono Y1.out.1.size)) (X9.out.2.2), 105, ⟨#[]⟩, _, 0, 0, 0, rfl, rfl⟩
    · have E := Lib.hid (show bothR (aheadR s 46 (readT s f (p + 1))) (fun e => aheadR s 41 (readT s f e)) = some (.pair t t2, q2 + 1) by rw [HA.out]; show (match aheadR s 41 (readT s f (q + 1)) with | none => none | some (b, e') => some (Tm.pair t b, e')) = _; rw [hah])
      have HV := Lib.hid hv
      have hw3 : IntKind.i64.wrap ((q2 : Int) + 1) = ((q2 + 1 : Nat) : Int) := by rw [IntWalk.i64_in _ (by have := HS.out; omega)]; omega
      clear hr hah ho hv hq
      go_wp2_with ((with_reducible refine st_next ?_); (refine row3_store 45 45 _ _ G _ _ _ _ _ _ (by rfl) (by rfl) (HRC.out _ _) Tryd.sizeTerm (by rfl) (by rfl) (by rfl) ?_; intro W9 r9 s9 o9 b9; have X9 := Lib.hid (And.intro r9 (And.intro o9 b9)); clear r9 s9 o9 b9))
      refine bodyPost_ret (results_term Tryd.results59 _ _ G _ _ _ rfl X9.out.1) rfl ?_
      rw [E.out]
      obtain ⟨z0, z2, z3, z4⟩ := HZ2.out
      have zg := HP.out.g
      have zy := Y1.out.1.size
      have hblk := (X9.out.2.1 (W2.heap.size + 1) (by omega)).trans (show _ = some (Obj.cells #[.int .u8 (c : Nat), .string L, .slice a n k, .int .u8 (c2 : Nat), .string L2, .slice a2 n2 k2] 45 (0, 0)) from by
        have h := heap_alloc_last (W2.alloc (.cells #[.int .u8 (c2 : Nat), .string L2, .slice a2 n2 k2] 45)) (.cells #[.int .u8 (c : Nat), .string L, .slice a n k, .int .u8 (c2 : Nat), .string L2, .slice a2 n2 k2] 45)
        rwa [World.size_alloc] at h)
      have hkeep : ∀ k, W0.heap.size ≤ k → k < W2.heap.size → W9.heap[k]? = W2.heap[k]? := fun k h1 h2 => by
        rw [X9.out.2.1 k (by omega), Below.heap_alloc _ _ _ (by rw [World.size_alloc]; omega), Below.heap_alloc _ _ _ h2]
      refine ⟨HP.out.ret (Y1.out.1.trans ((below_alloc (below_alloc Y2.out _) _).mono Y1.out.1.size)) (X9.out.2.2), 46, ⟨#[]⟩, _, 2, _, q2 + 1, rfl, rfl, rfl, rfl, rfl, W2.heap.size + 1, c, L, a, n, k, c2, L2, a2, n2, k2, rfl, by omega, ⟨cell_of_row _ _ 0 _ _ (0, 0) hblk, cell_of_row _ _ 1 _ _ (0, 0) hblk, cell_of_row _ _ 2 _ _ (0, 0) hblk⟩, ?_, ⟨cell_of_row _ _ 3 _ _ (0, 0) hblk, cell_of_row _ _ 4 _ _ (0, 0) hblk, cell_of_row _ _ 5 _ _ (0, 0) hblk⟩, ?_⟩
      · exact SV.mono (by omega) (SV.keep hkeep (Y1.out.2.2.2.1.below Y2.out))
      · exact SV.mono (by omega) (SV.keep (fun k h1 h2 => hkeep k (by omega) h2) HV.out)

theorem read_all (s : ByteArray) (hs : s.size ≤ 60) : ∀ f, ReadC s f
  | 0 => fun p w hp hf => by
    have := read_end s 0 p w (by omega)
    exact this
  | f + 1 => fun p w hp hf => by
    by_cases hlt : p < s.size
    · obtain ⟨b, hb⟩ : ∃ b, b = bt s p := ⟨_, rfl⟩
      have H := read_all s hs f
      by_cases h1 : b = 105
      · rw [readT_keep (by omega)]; exact read_i s f p w b hb hlt hs h1
      by_cases h2 : b = 91
      · rw [readT_circ (by omega)]; exact read_circ s f p w b hb hlt hs h2
      by_cases h3 : SignP b
      · rw [readT_sign (by rw [← hb]; exact h3), ← hb]
        by_cases h45 : b = 45
        · exact read_back s f p w b hb hlt hs (by omega) H h45
        · exact read_times s f p w b hb hlt hs (by omega) H (by unfold SignP at h3; omega)
      by_cases h4 : b = 40
      · rw [readT_pair (by omega)]; exact read_pair s f p w b hb hlt hs (by omega) H h4
      · rw [readT_none (by omega) (by omega) (by rw [← hb]; exact h3) (by omega)]
        by_cases h5 : 50 ≤ b
        · exact read_none2 s f p w b hb hlt hs h1 h2 h3 h4 h5
        · exact read_none1 s f p w b hb hlt hs h1 h2 h3 h4 h5
    · rw [readT_out (by omega)]
      exact read_end s f p w (by omega)
end Go.Proofs.YtnaegnjgpnakfaaDoor
