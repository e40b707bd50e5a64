/- The model reads a term for so many people. -/
import Derived.Test.YtnaegnjgpnakfaaDoorSpecFits
import Derived.Test.YtnaegnjgpnakfaaDoorL6In
namespace Go.Proofs.YtnaegnjgpnakfaaDoor
set_option linter.unusedVariables false
set_option linter.unusedSimpArgs false
open Go.RowKit

/-- No term, or a term. -/
abbrev OkT (w : World) (B : Nat) (ok : Bool) (c : Nat) (L : ByteArray) (a : Option Addr) (n : Nat) : Option Tm → Prop
  | none => ok = false
  | some t => ok = true ∧ SV w B t c L a n
/-- What l10Of hands back. -/
def RetOf (w : World) (o : Option Tm) (e : Ending) (w' : World) : Prop :=
  Below w.heap.size w w' ∧ ∃ (c : Nat) (L : ByteArray) (a : Option Addr) (n k : Nat) (ok : Bool), e = .returned (.tuple #[.agg #[.int .u8 (c : Nat), .string L, .slice a n k], .bool ok]) ∧ OkT w' w.heap.size ok c L a n o

set_option maxRecDepth 100000 in
set_option maxHeartbeats 3200000 in
theorem of_long (x : Int) (s : ByteArray) (w : World) (h : 60 < s.size) :
    Calls Tryd.prog 38 #[.int .i64 x, .string s] w (RetOf w (termN x s)) := by
  have d1 : decide ((60 : Int) < (s.size : Int)) = true := decide_eq_true (by omega)
  have d1n : decide (60 < s.size) = true := decide_eq_true h
  have E := Lib.hid (termN_none (n := x) (s := s) (by unfold termOf; rw [if_pos h]))
  clear h
  go_enter Tryd.func38, Tryd.ntmps38
  go_wp2
  refine bodyPost_ret (results_term Tryd.results38 _ _ w.heap.size _ _ _ rfl (by rw [Below.heap_alloc _ _ _ (by simp; omega), Below.heap_alloc _ _ _ (by simp)]; exact heap_alloc_last w _)) rfl ?_
  rw [E.out]
  exact ⟨((Below.refl _ _).alloc (Nat.le_refl _) _ |>.alloc (by simp) _).alloc (by simp; omega) _, 105, ⟨#[]⟩, _, 0, 0, false, rfl, rfl⟩
set_option maxRecDepth 100000 in
set_option maxHeartbeats 3200000 in
theorem of_out (x : Int) (s : ByteArray) (w : World) (hs : s.size ≤ 60) (h : ¬ InR x 2 5) :
    Calls Tryd.prog 38 #[.int .i64 x, .string s] w (RetOf w (termN x s)) := by
  have d1 : decide ((60 : Int) < (s.size : Int)) = false := decide_eq_false (by omega)
  have d1n : decide (60 < s.size) = false := decide_eq_false (by omega)
  have T1 := Lib.hid (tt_no h)
  have E := Lib.hid (termN_out (s := s) h)
  clear h hs
  go_enter Tryd.func38, Tryd.ntmps38
  go_wp2_with (go_at_call 58; refine (l6In_any _ _ _ _).mono ?_; rintro e w' ⟨rfl, rfl⟩; rw [T1.out])
  refine bodyPost_ret (results_term Tryd.results38 _ _ w.heap.size _ _ _ rfl (by rw [Below.heap_alloc _ _ _ (by simp; omega), Below.heap_alloc _ _ _ (by simp)]; exact heap_alloc_last w _)) rfl ?_
  rw [E.out]
  exact ⟨((Below.refl _ _).alloc (Nat.le_refl _) _ |>.alloc (by simp) _).alloc (by simp; omega) _, 105, ⟨#[]⟩, _, 0, 0, false, rfl, rfl⟩
set_option maxRecDepth 100000 in
set_option maxHeartbeats 3200000 in
theorem of_in (x : Int) (s : ByteArray) (w : World) (hs : s.size ≤ 60) (h : InR x 2 5) :
    Calls Tryd.prog 38 #[.int .i64 x, .string s] w (RetOf w (termN x s)) := by
  have d1 : decide ((60 : Int) < (s.size : Int)) = false := decide_eq_false (by omega)
  have d1n : decide (60 < s.size) = false := decide_eq_false (by omega)
  have T1 := Lib.hid (tt_of h)
  have HI := Lib.hid h
  have HS := Lib.hid hs
  have H0 := Lib.hid (fun w1 => read_all s hs s.size 0 w1 (Nat.zero_le _) (by omega))
  clear h hs
  go_enter Tryd.func38, Tryd.ntmps38
  go_wp2_with (first | (go_at_call 58; refine (l6In_any _ _ _ _).mono ?_; rintro e w' ⟨rfl, rfl⟩; rw [T1.out]) | fail)
  obtain ⟨G, hG⟩ : ∃ G, G = w.heap.size := ⟨_, rfl⟩
  obtain ⟨W0, hW0⟩ : ∃ W0, W0 = proW w := ⟨_, rfl⟩
  have HP := Lib.hid (show Pro w W0 G from by rw [hW0, hG]; exact pro_mk w)
  unfold proW at hW0
  rw [← hW0, ← hG]
  clear hW0 hG
  refine (H0.out W0).mono ?_
  rintro e W1 ⟨hb1, c, L, a, n, k, q, rfl, hr⟩
  have X1 := Lib.hid hb1
  have hz0 := HP.out.size
  have hz1 := hb1.size
  have HN := Lib.hid (show W1.heap[G + 1 + 1]? = some (.cells #[.int .u8 105, .string ⟨#[]⟩, .slice (some ⟨G + 1, 0, none⟩) 0 0] 45 (0, 0)) from (hb1.block (G + 1 + 1) (by omega)).trans HP.out.none)
  have HR1 := Lib.hid (show W1.heap[G]? = some (.cells #[.int .u8 0, .string ⟨#[]⟩, .slice none 0 0] 45 (0, 0)) from (hb1.block G (by omega)).trans HP.out.res)
  have HRA := Lib.hid (show ∀ o, (W1.alloc o).heap[G]? = some (.cells #[.int .u8 0, .string ⟨#[]⟩, .slice none 0 0] 45 (0, 0)) from fun o => (Below.heap_alloc _ _ _ (by omega)).trans HR1.out)
  have HNA : ∀ (o : Obj) (j : Nat), (W1.alloc o).cell? ⟨G + 1 + 1, j, none⟩ = W1.cell? ⟨G + 1 + 1, j, none⟩ := fun o j => World.cell?_of_block (w := W1) (Below.heap_alloc _ _ _ (by show G + 1 + 1 < _; omega))
  have hn0 := fun o => (HNA o 0).trans (cell_of_row _ _ 0 _ _ (0, 0) HN.out)
  have hn1 := fun o => (HNA o 1).trans (cell_of_row _ _ 1 _ _ (0, 0) HN.out)
  have hn2 := fun o => (HNA o 2).trans (cell_of_row _ _ 2 _ _ (0, 0) HN.out)
  have HZ := Lib.hid (And.intro hz0 hz1)
  clear HNA hz0 hz1 hb1
  obtain ⟨N, hN⟩ := Int.eq_ofNat_of_zero_le (show 0 ≤ x by have := HI.out.1; omega)
  subst hN
  cases ho : readT s s.size 0 with
  | none =>
    rw [ho] at hr
    have hq0 : q = 0 := hr
    have d1 : ((q : Int) == 0) = true := by simp [hq0]
    have E := Lib.hid (termN_none (n := (N : Int)) (s := s) (by unfold termOf; rw [if_neg (by have := HS.out; omega), ho]))
    clear hr ho hq0
    go_wp2_with ((with_reducible refine st_next ?_); (refine row3_store 45 45 _ _ G _ _ _ _ _ _ (by rfl) (by rfl) (HRA.out _) Tryd.sizeTerm (by rfl) (by rfl) (by rfl) ?_; intro W9 r9 s9 o9 b9; have X9 := Lib.hid (And.intro r9 (And.intro o9 b9)); clear r9 s9 o9 b9))
    refine bodyPost_ret (results_term Tryd.results38 _ _ G _ _ _ rfl X9.out.1) rfl ?_
    rw [E.out]
    exact ⟨HP.out.ret (below_alloc X1.out _) (X9.out.2.2), 105, ⟨#[]⟩, _, 0, 0, false, rfl, rfl⟩
  | some r =>
    obtain ⟨t, p⟩ := r
    rw [ho] at hr
    obtain ⟨rfl, hv⟩ := hr
    have hbd := readT_bound _ _ _ _ ho
    have d1 : ((q : Int) == 0) = false := by simp; omega
    by_cases hqs : q = s.size
    · have d2 : ((q : Int) != (s.size : Int)) = false := by simp [hqs]
      have hto : termOf s = some t := by unfold termOf; rw [if_neg (by have := HS.out; omega), ho]; show (if q = s.size then some t else none) = _; rw [if_pos hqs]
      have hwf := readT_wf _ _ _ _ ho
      have HV := Lib.hid hv
      have HF := Lib.hid (fun w1 (h : SV w1 W0.heap.size t c L a n) => fits_all N (by have := HI.out.2; omega) W0.heap.size t c L a n k w1 hwf h)
      have HTO := Lib.hid hto
      clear hqs hv ho hbd hto hwf
      go_wp2_with fail
      refine (HF.out _ (HV.out.below (below_alloc (Below.refl _ _) _))).mono ?_
      rintro e W2 ⟨rfl, hb2⟩
      have X2 := Lib.hid hb2
      have hz0 := HZ.out
      have hz2 := hb2.size
      rw [World.size_alloc] at hz2
      have HRX := Lib.hid (show W2.heap[G]? = some (.cells #[.int .u8 0, .string ⟨#[]⟩, .slice none 0 0] 45 (0, 0)) from (hb2.block G (by rw [World.size_alloc]; omega)).trans (HRA.out _))
      have HNX := Lib.hid (show W2.heap[G + 1 + 1]? = some (.cells #[.int .u8 105, .string ⟨#[]⟩, .slice (some ⟨G + 1, 0, none⟩) 0 0] 45 (0, 0)) from (hb2.block (G + 1 + 1) (by rw [World.size_alloc]; omega)).trans ((Below.heap_alloc _ _ _ (by omega)).trans HN.out))
      have HTX := Lib.hid (show W2.heap[W1.heap.size]? = some (.cells #[.int .u8 (c : Nat), .string L, .slice a n k] 45 (0, 0)) from (hb2.block W1.heap.size (by rw [World.size_alloc]; omega)).trans (heap_alloc_last W1 _))
      clear hn0 hn1 hn2
      have hn0 := cell_of_row _ _ 0 _ _ (0, 0) HNX.out
      have hn1 := cell_of_row _ _ 1 _ _ (0, 0) HNX.out
      have hn2 := cell_of_row _ _ 2 _ _ (0, 0) HNX.out
      have ht0 := cell_of_row _ _ 0 _ _ (0, 0) HTX.out
      have ht1 := cell_of_row _ _ 1 _ _ (0, 0) HTX.out
      have ht2 := cell_of_row _ _ 2 _ _ (0, 0) HTX.out
      have HB2 := Lib.hid (show Below W0.heap.size W0 W2 from X1.out.trans (((Below.refl _ _).alloc (Nat.le_refl _) _ |>.trans (hb2.mono (by simp))).mono X1.out.size))
      clear hb2 hz0 hz2
      by_cases hle : ppl t ≤ N
      · have T2 := Lib.hid (tt_of hle)
        have E := Lib.hid (termN_fits HI.out HTO.out (show ppl t ≤ ((N : Nat) : Int).toNat by omega))
        clear hle
        rw [T2.out]
        go_wp2_with ((with_reducible refine st_next ?_); (refine row3_store 45 45 _ _ G _ _ _ _ _ _ (by rfl) (by rfl) HRX.out Tryd.sizeTerm (by rfl) (by rfl) (by rfl) ?_; intro W9 r9 s9 o9 b9; have X9 := Lib.hid (And.intro r9 (And.intro o9 b9)); clear r9 s9 o9 b9))
        refine bodyPost_ret (results_term Tryd.results38 _ _ G _ _ _ rfl X9.out.1) rfl ?_
        rw [E.out]
        refine ⟨HP.out.ret HB2.out (X9.out.2.2), c, L, a, n, k, true, rfl, rfl, ?_⟩
        have hz := HP.out.size
        have hg := HP.out.g
        refine SV.mono (B := W0.heap.size) (by omega) (SV.keep (w := W2) (fun j h1 h2 => X9.out.2.1 j (by omega)) ?_)
        exact (HV.out.below (below_alloc (Below.refl _ _) _)).below X2.out
      · have T2 := Lib.hid (tt_no hle)
        have E := Lib.hid (termN_more (n := (N : Int)) HTO.out (show ¬ ppl t ≤ ((N : Nat) : Int).toNat by omega))
        clear hle
        rw [T2.out]
        go_wp2_with ((with_reducible refine st_next ?_); (refine row3_store 45 45 _ _ G _ _ _ _ _ _ (by rfl) (by rfl) HRX.out Tryd.sizeTerm (by rfl) (by rfl) (by rfl) ?_; intro W9 r9 s9 o9 b9; have X9 := Lib.hid (And.intro r9 (And.intro o9 b9)); clear r9 s9 o9 b9))
        refine bodyPost_ret (results_term Tryd.results38 _ _ G _ _ _ rfl X9.out.1) rfl ?_
        rw [E.out]
        exact ⟨HP.out.ret HB2.out (X9.out.2.2), 105, ⟨#[]⟩, _, 0, 0, false, rfl, rfl⟩
    · have d2 : ((q : Int) != (s.size : Int)) = true := by simp; omega
      have E := Lib.hid (termN_none (n := (N : Int)) (s := s) (by unfold termOf; rw [if_neg (by have := HS.out; omega), ho]; show (if q = s.size then some t else none) = _; rw [if_neg hqs]))
      clear hqs hv ho hbd
      go_wp2_with ((with_reducible refine st_next ?_); (refine row3_store 45 45 _ _ G _ _ _ _ _ _ (by rfl) (by rfl) (HRA.out _) Tryd.sizeTerm (by rfl) (by rfl) (by rfl) ?_; intro W9 r9 s9 o9 b9; have X9 := Lib.hid (And.intro r9 (And.intro o9 b9)); clear r9 s9 o9 b9))
      refine bodyPost_ret (results_term Tryd.results38 _ _ G _ _ _ rfl X9.out.1) rfl ?_
      rw [E.out]
      exact ⟨HP.out.ret (below_alloc X1.out _) (X9.out.2.2), 105, ⟨#[]⟩, _, 0, 0, false, rfl, rfl⟩

theorem l10Of_any (x : Int) (s : ByteArray) (w : World) (hx : I64 x) : Calls Tryd.prog 38 #[.int .i64 x, .string s] w (RetOf w (termN x s)) := by
  by_cases h : 60 < s.size
  · exact of_long x s w h
  · by_cases h2 : InR x 2 5
    · exact of_in x s w (by omega) h2
    · exact of_out x s w (by omega) h2
end Go.Proofs.YtnaegnjgpnakfaaDoor
