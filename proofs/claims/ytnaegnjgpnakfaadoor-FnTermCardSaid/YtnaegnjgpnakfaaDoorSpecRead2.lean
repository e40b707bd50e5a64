/- The model reads terms: circles, signs, pairs. -/
import Derived.Test.YtnaegnjgpnakfaaDoorSpecRead1
namespace Go.Proofs.YtnaegnjgpnakfaaDoor
set_option linter.unusedVariables false
set_option linter.unusedSimpArgs false
open Go.RowKit


set_option maxRecDepth 100000 in
set_option maxHeartbeats 3200000 in
theorem read_circ (s : ByteArray) (f p : Nat) (w : World) (b : Nat) (hb : b = bt s p) (hp : p < s.size) (hs : s.size ≤ 60) (h : b = 91) :
    Calls Tryd.prog 59 #[.string s, .int .i64 (p : Nat)] w (RetS w (circR s (p + 1))) := by
  have d1 : decide ((s.size : Int) ≤ (p : Int)) = false := decide_eq_false (by omega)
  have d1n : decide (s.size ≤ p) = false := decide_eq_false (by omega)
  have hix : ∀ w : World, (Instr.index 9 (.string s) (.int .i64 (p : Nat))).run Tryd.prog w = .ok (.int .u8 (b : Nat)) w := fun w => by rw [hb]; exact run_index_bt w _ s _ p Tryd.underlying9 hp
  have e1 : ((b : Int) == 105) = false := by simp; omega
  have e2 : ((b : Int) == 45) = false := by simp; omega
  have e3 : decide ((50 : Int) ≤ (b : Int)) = true := decide_eq_true (by omega)
  have e3n : decide (50 ≤ b) = true := decide_eq_true (by omega)
  have e6 : decide ((b : Int) ≤ 57) = false := decide_eq_false (by omega)
  have e6n : decide (b ≤ 57) = false := decide_eq_false (by omega)
  have e4 : ((b : Int) == 91) = true := by simp [h]
  have hw1 : IntKind.i64.wrap ((p : Int) + 1) = ((p + 1 : Nat) : Int) := by rw [IntWalk.i64_in _ (by omega)]; omega
  have H0 := Lib.hid (fun w1 => specCircle_any s (p + 1) w1 hs (by omega))
  clear hb hp hs h
  go_enter Tryd.func59, Tryd.ntmps59
  go_wp2_with fail
  obtain ⟨G, hG⟩ : ∃ G, G = w.heap.size := ⟨_, rfl⟩
  obtain ⟨W0, hW0⟩ : ∃ W0, W0 = proW w := ⟨_, rfl⟩
  have HP := Lib.hid (show Pro w W0 G from by rw [hW0, hG]; exact pro_mk w)
  unfold proW at hW0
  rw [← hW0, ← hG]
  clear hW0 hG
  refine (H0.out W0).mono ?_
  rintro e W1 ⟨hb1, c, L, a, n, k, q, rfl, hr⟩
  have X1 := Lib.hid (And.intro hb1 hr)
  have HR := Lib.hid (show W1.heap[G]? = some (.cells #[.int .u8 0, .string ⟨#[]⟩, .slice none 0 0] 45 (0, 0)) from (hb1.block G (by have := HP.out.size; omega)).trans HP.out.res)
  clear hb1 hr
  go_wp2_with ((with_reducible refine st_next ?_); (refine row3_store 45 45 _ _ G _ _ _ _ _ _ (by rfl) (by rfl) HR.out Tryd.sizeTerm (by rfl) (by rfl) (by rfl) ?_; intro W9 r9 s9 o9 b9; have X9 := Lib.hid (And.intro r9 (And.intro o9 b9)); clear r9 s9 o9 b9))
  refine bodyPost_ret (results_term Tryd.results59 _ _ G _ _ _ rfl X9.out.1) rfl ?_
  refine ⟨HP.out.ret X1.out.1 (X9.out.2.2), c, L, a, n, k, q, rfl, ?_⟩
  exact RetS.carry (B' := w.heap.size) X1.out.2 (by have := HP.out.size; have := HP.out.g; omega) (fun k h1 h2 => X9.out.2.1 k (by have := HP.out.size; omega))
set_option maxRecDepth 100000 in
set_option maxHeartbeats 3200000 in
theorem read_back (s : ByteArray) (f p : Nat) (w : World) (b : Nat) (hb : b = bt s p) (hp : p < s.size) (hs : s.size ≤ 60) (hf : s.size ≤ p + 1 + f) (H : ReadC s f) (h : b = 45) :
    Calls Tryd.prog 59 #[.string s, .int .i64 (p : Nat)] w (RetS w (signR b (readT s f (p + 1)))) := by
  have d1 : decide ((s.size : Int) ≤ (p : Int)) = false := decide_eq_false (by omega)
  have d1n : decide (s.size ≤ p) = false := decide_eq_false (by omega)
  have hix : ∀ w : World, (Instr.index 9 (.string s) (.int .i64 (p : Nat))).run Tryd.prog w = .ok (.int .u8 (b : Nat)) w := fun w => by rw [hb]; exact run_index_bt w _ s _ p Tryd.underlying9 hp
  have e1 : ((b : Int) == 105) = false := by simp; omega
  have e2 : ((b : Int) == 45) = true := by simp [h]
  have h45 := Lib.hid h
  have hw1 : IntKind.i64.wrap ((p : Int) + 1) = ((p + 1 : Nat) : Int) := by rw [IntWalk.i64_in _ (by omega)]; omega
  have H0 := Lib.hid (fun w1 => H (p + 1) w1 (by omega) hf)
  have HV := Lib.hid (fun (t : Tm) (e : Nat) => show signR b (some (t, e)) = some (.back t, e) by show some (if b = 45 then Tm.back t else Tm.times (b - 48) t, e) = _; rw [if_pos h])
  clear hb hp hs h hf H
  go_enter Tryd.func59, Tryd.ntmps59
  go_wp2_with fail
  obtain ⟨G, hG⟩ : ∃ G, G = w.heap.size := ⟨_, rfl⟩
  obtain ⟨W0, hW0⟩ : ∃ W0, W0 = proW w := ⟨_, rfl⟩
  have HP := Lib.hid (show Pro w W0 G from by rw [hW0, hG]; exact pro_mk w)
  unfold proW at hW0
  rw [← hW0, ← hG]
  clear hW0 hG
  refine (H0.out W0).mono ?_
  rintro e W1 ⟨hb1, c, L, a, n, k, q, rfl, hr⟩
  have X1 := Lib.hid (And.intro hb1 hr)
  have HR := Lib.hid (show ∀ o1 o2, ((W1.alloc o1).alloc o2).heap[G]? = some (.cells #[.int .u8 0, .string ⟨#[]⟩, .slice none 0 0] 45 (0, 0)) from fun o1 o2 => by
    rw [Below.heap_alloc _ _ _ (by rw [World.size_alloc]; have := HP.out.size; have := hb1.size; omega), Below.heap_alloc _ _ _ (by have := HP.out.size; have := hb1.size; omega)]
    exact (hb1.block G (by have := HP.out.size; omega)).trans HP.out.res)
  clear hb1 hr
  go_wp2_with ((with_reducible refine st_next ?_); (refine row3_store 45 45 _ _ G _ _ _ _ _ _ (by rfl) (by rfl) (HR.out _ _) Tryd.sizeTerm (by rfl) (by rfl) (by rfl) ?_; intro W9 r9 s9 o9 b9; have X9 := Lib.hid (And.intro r9 (And.intro o9 b9)); clear r9 s9 o9 b9))
  refine bodyPost_ret (results_term Tryd.results59 _ _ G _ _ _ rfl X9.out.1) rfl ?_
  have hz1 := X1.out.1.size
  have hz0 := HP.out.size
  have hzg := HP.out.g
  refine ⟨HP.out.ret (below_alloc (below_alloc X1.out.1 _) _) (X9.out.2.2), b, ⟨#[]⟩, _, 1, _, q, rfl, ?_⟩
  have hc := X1.out.2
  cases ho : readT s f (p + 1) with
  | none => rw [ho] at hc; exact hc
  | some r =>
    obtain ⟨t, e⟩ := r
    rw [ho] at hc
    rw [HV.out]
    have hblk := (X9.out.2.1 (W1.heap.size + 1) (by omega)).trans (show _ = some (Obj.cells #[.int .u8 (c : Nat), .string L, .slice a n k] 45 (0, 0)) from by
      have h := heap_alloc_last (W1.alloc (.cells #[.int .u8 (c : Nat), .string L, .slice a n k] 45)) (.cells #[.int .u8 (c : Nat), .string L, .slice a n k] 45)
      rwa [World.size_alloc] at h)
    refine ⟨hc.1, h45.out, rfl, rfl, W1.heap.size + 1, c, L, a, n, k, rfl, by omega, ⟨cell_of_row _ _ 0 _ _ (0, 0) hblk, cell_of_row _ _ 1 _ _ (0, 0) hblk, cell_of_row _ _ 2 _ _ (0, 0) hblk⟩, ?_⟩
    refine SV.mono (by omega) (SV.keep (fun k h1 h2 => ?_) hc.2)
    rw [X9.out.2.1 k (by omega), Below.heap_alloc _ _ _ (by rw [World.size_alloc]; omega), Below.heap_alloc _ _ _ h2]
set_option maxRecDepth 100000 in
set_option maxHeartbeats 3200000 in
theorem read_times (s : ByteArray) (f p : Nat) (w : World) (b : Nat) (hb : b = bt s p) (hp : p < s.size) (hs : s.size ≤ 60) (hf : s.size ≤ p + 1 + f) (H : ReadC s f) (h : 50 ≤ b ∧ b ≤ 57) :
    Calls Tryd.prog 59 #[.string s, .int .i64 (p : Nat)] w (RetS w (signR b (readT s f (p + 1)))) := by
  have d1 : decide ((s.size : Int) ≤ (p : Int)) = false := decide_eq_false (by omega)
  have d1n : decide (s.size ≤ p) = false := decide_eq_false (by omega)
  have hix : ∀ w : World, (Instr.index 9 (.string s) (.int .i64 (p : Nat))).run Tryd.prog w = .ok (.int .u8 (b : Nat)) w := fun w => by rw [hb]; exact run_index_bt w _ s _ p Tryd.underlying9 hp
  have e1 : ((b : Int) == 105) = false := by simp; omega
  have e2 : ((b : Int) == 45) = false := by simp; omega
  have e3 : decide ((50 : Int) ≤ (b : Int)) = true := decide_eq_true (by omega)
  have e3n : decide (50 ≤ b) = true := decide_eq_true h.1
  have e6 : decide ((b : Int) ≤ 57) = true := decide_eq_true (by omega)
  have e6n : decide (b ≤ 57) = true := decide_eq_true h.2
  have HC := Lib.hid (show b = 48 + (b - 48) by omega)
  have hw1 : IntKind.i64.wrap ((p : Int) + 1) = ((p + 1 : Nat) : Int) := by rw [IntWalk.i64_in _ (by omega)]; omega
  have H0 := Lib.hid (fun w1 => H (p + 1) w1 (by omega) hf)
  have HV := Lib.hid (fun (t : Tm) (e : Nat) => show signR b (some (t, e)) = some (.times (b - 48) t, e) by show some (if b = 45 then Tm.back t else Tm.times (b - 48) t, e) = _; rw [if_neg (by omega)])
  clear hb hp hs h hf H
  go_enter Tryd.func59, Tryd.ntmps59
  go_wp2_with fail
  obtain ⟨G, hG⟩ : ∃ G, G = w.heap.size := ⟨_, rfl⟩
  obtain ⟨W0, hW0⟩ : ∃ W0, W0 = proW w := ⟨_, rfl⟩
  have HP := Lib.hid (show Pro w W0 G from by rw [hW0, hG]; exact pro_mk w)
  unfold proW at hW0
  rw [← hW0, ← hG]
  clear hW0 hG
  refine (H0.out W0).mono ?_
  rintro e W1 ⟨hb1, c, L, a, n, k, q, rfl, hr⟩
  have X1 := Lib.hid (And.intro hb1 hr)
  have HR := Lib.hid (show ∀ o1 o2, ((W1.alloc o1).alloc o2).heap[G]? = some (.cells #[.int .u8 0, .string ⟨#[]⟩, .slice none 0 0] 45 (0, 0)) from fun o1 o2 => by
    rw [Below.heap_alloc _ _ _ (by rw [World.size_alloc]; have := HP.out.size; have := hb1.size; omega), Below.heap_alloc _ _ _ (by have := HP.out.size; have := hb1.size; omega)]
    exact (hb1.block G (by have := HP.out.size; omega)).trans HP.out.res)
  clear hb1 hr
  go_wp2_with ((with_reducible refine st_next ?_); (refine row3_store 45 45 _ _ G _ _ _ _ _ _ (by rfl) (by rfl) (HR.out _ _) Tryd.sizeTerm (by rfl) (by rfl) (by rfl) ?_; intro W9 r9 s9 o9 b9; have X9 := Lib.hid (And.intro r9 (And.intro o9 b9)); clear r9 s9 o9 b9))
  refine bodyPost_ret (results_term Tryd.results59 _ _ G _ _ _ rfl X9.out.1) rfl ?_
  have hz1 := X1.out.1.size
  have hz0 := HP.out.size
  have hzg := HP.out.g
  refine ⟨HP.out.ret (below_alloc (below_alloc X1.out.1 _) _) (X9.out.2.2), b, ⟨#[]⟩, _, 1, _, q, rfl, ?_⟩
  have hc := X1.out.2
  cases ho : readT s f (p + 1) with
  | none => rw [ho] at hc; exact hc
  | some r =>
    obtain ⟨t, e⟩ := r
    rw [ho] at hc
    rw [HV.out]
    have hblk := (X9.out.2.1 (W1.heap.size + 1) (by omega)).trans (show _ = some (Obj.cells #[.int .u8 (c : Nat), .string L, .slice a n k] 45 (0, 0)) from by
      have h := heap_alloc_last (W1.alloc (.cells #[.int .u8 (c : Nat), .string L, .slice a n k] 45)) (.cells #[.int .u8 (c : Nat), .string L, .slice a n k] 45)
      rwa [World.size_alloc] at h)
    refine ⟨hc.1, HC.out, rfl, rfl, W1.heap.size + 1, c, L, a, n, k, rfl, by omega, ⟨cell_of_row _ _ 0 _ _ (0, 0) hblk, cell_of_row _ _ 1 _ _ (0, 0) hblk, cell_of_row _ _ 2 _ _ (0, 0) hblk⟩, ?_⟩
    refine SV.mono (by omega) (SV.keep (fun k h1 h2 => ?_) hc.2)
    rw [X9.out.2.1 k (by omega), Below.heap_alloc _ _ _ (by rw [World.size_alloc]; omega), Below.heap_alloc _ _ _ h2]
end Go.Proofs.YtnaegnjgpnakfaaDoor
