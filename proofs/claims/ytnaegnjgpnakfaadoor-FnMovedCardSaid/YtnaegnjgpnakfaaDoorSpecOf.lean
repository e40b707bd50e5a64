/- The model's l10Fits and l10Of. -/
import Derived.Test.YtnaegnjgpnakfaaDoorSpecRead3
import Derived.Test.YtnaegnjgpnakfaaDoorL6In
/- The model asks if a term fits so many people. -/
namespace Go.Proofs.YtnaegnjgpnakfaaDoor
set_option linter.unusedVariables false
set_option linter.unusedSimpArgs false
open Go.RowKit

/-- What the call of l10Fits at a part gives. -/
def FitC (w : World) (N : Nat) (a : Option Addr) (j : Nat) (p : Prop) : Prop :=
  ∃ (b c : Nat) (L : ByteArray) (a' : Option Addr) (n k : Nat), a = some ⟨b, 0, none⟩ ∧ Elem3 w b (j * 3) c L a' n k ∧
    ∀ w', Below w.heap.size w w' → Calls Tryd.prog 60 #[.int .i64 (N : Nat), .agg #[.int .u8 (c : Nat), .string L, .slice a' n k]] w' fun e w2 => e = .returned (.bool (tt p)) ∧ Below w'.heap.size w' w2

set_option maxRecDepth 100000 in
set_option maxHeartbeats 3200000 in
theorem fits_gen (N c : Nat) (L : ByteArray) (a : Option Addr) (n k : Nat) (P : Nat → Prop) (w : World) (hN : N ≤ 5) (hLs : L.size ≤ 1048576) (hL : ∀ j, j < L.size → 97 ≤ bt L j) (hn : n ≤ 2) (hK : ∀ j, j < n → FitC w N a j (P j)) :
    Calls Tryd.prog 60 #[.int .i64 (N : Nat), .agg #[.int .u8 (c : Nat), .string L, .slice a n k]] w fun e w' => e = .returned (.bool (tt ((∀ j, j < L.size → bt L j < N + 97) ∧ ∀ j, j < n → P j))) ∧ Below w.heap.size w w' := by
  have HL := Lib.hid hL
  have HK := Lib.hid hK
  clear hL hK
  go_enter Tryd.func60, Tryd.ntmps60
  go_wp2_with fail
  obtain ⟨G, hG⟩ : ∃ G, G = w.heap.size := ⟨_, rfl⟩
  obtain ⟨W0, hW0⟩ : ∃ W0, W0 = w.alloc (.cells #[.int .u8 (c : Nat), .string L, .slice a n k] 45) := ⟨_, rfl⟩
  have hR : W0.heap[G]? = some (.cells #[.int .u8 (c : Nat), .string L, .slice a n k] 45 (0, 0)) := by rw [hW0, hG]; exact heap_alloc_last w _
  have HB := Lib.hid (show Below w.heap.size w W0 ∧ W0.heap.size = G + 1 from ⟨by rw [hW0]; exact below_alloc (Below.refl _ _) _, by rw [hW0]; simp [hG]⟩)
  have HR := Lib.hid hR
  have c1 : W0.cell? ⟨G, 1, none⟩ = some (.string L) := cell_of_row _ _ 1 _ _ (0, 0) hR
  rw [← hW0, ← hG]
  have HG := Lib.hid hG
  clear hW0 hG hR
  go_loop [5] (fun i => ∃ k : Nat, k ≤ L.size ∧ i = .int .i64 (k : Nat) ∧ ∀ j, j < k → bt L j < N + 97) (fun i => L.size - (intOf i).toNat)
  case atStart => exact ⟨0, Nat.zero_le _, rfl, fun j hj => absurd hj (Nat.not_lt_zero _)⟩
  case round =>
    obtain ⟨i, hi, rfl, hall⟩ := hrel
    have HA := Lib.hid hall
    clear hall
    by_cases hlt : i < L.size
    · obtain ⟨b, hb⟩ : ∃ b, b = bt L i := ⟨_, rfl⟩
      have hix : ∀ w : World, (Instr.index 9 (.string L) (.int .i64 (i : Nat))).run Tryd.prog w = .ok (.int .u8 (b : Nat)) w := fun w => by rw [hb]; exact run_index_bt w _ L _ i Tryd.underlying9 hlt
      have h97 := HL.out i hlt
      have h256 := bt_lt L i
      rw [← hb] at h97 h256
      obtain ⟨x, hx⟩ : ∃ x, b = x + 97 := ⟨b - 97, by omega⟩
      have hw1 : wrap64 (b : Int) = (b : Int) := IntWalk.wrap64_in _ (by omega)
      have hw2 : IntKind.i64.wrap ((b : Int) - 97) = (x : Int) := by rw [IntWalk.i64_in _ (by omega)]; omega
      have HX := Lib.hid (show bt L i = x + 97 by omega)
      clear h97 h256 hb hx
      by_cases hxN : N ≤ x
      · have d1 : decide ((N : Int) ≤ (x : Int)) = true := decide_eq_true (by omega)
        have d1n : decide (N ≤ x) = true := decide_eq_true hxN
        have TF := Lib.hid (tt_no (show ¬ ((∀ j, j < L.size → bt L j < N + 97) ∧ ∀ j, j < n → P j) from fun h => by have := h.1 i hlt; have := HX.out; omega))
        clear hxN
        go_wp2
        go_ret
        exact ⟨by rw [TF.out]; rfl, HB.out.1⟩
      · have d1 : decide ((N : Int) ≤ (x : Int)) = false := decide_eq_false (by omega)
        have d1n : decide (N ≤ x) = false := decide_eq_false hxN
        have HN := Lib.hid (show x < N by omega)
        clear hxN
        go_wp2
        go_round
        case rel => exact ⟨i + 1, by omega, by go_num, fun j hj => by
          by_cases e : j = i
          · rw [e, HX.out]; have := HN.out; omega
          · exact HA.out j (by omega)⟩
        case measure => simp [intOf]; omega
    · obtain rfl : i = L.size := by omega
      clear hlt hi
      go_wp2_with fail
      go_loopw [6] (fun i wi => ∃ q : Nat, q ≤ n ∧ i = .int .i64 (q : Nat) ∧ Below W0.heap.size W0 wi ∧ ∀ j, j < q → P j) (fun i _ => n - (intOf i).toNat)
      case atStart => exact ⟨0, Nat.zero_le _, rfl, Below.refl _ _, fun j hj => absurd hj (Nat.not_lt_zero _)⟩
      case round =>
        obtain ⟨q, hq, rfl, hbw, hall⟩ := hrel
        rename World => wi
        have HQ := Lib.hid hall
        have HW := Lib.hid hbw
        have c2 : wi.cell? ⟨G, 2, none⟩ = some (.slice a n k) := by
          rw [World.cell?_of_block (w := W0) (a := ⟨G, 2, none⟩) (hbw.block G (by have := HB.out.2; omega))]; exact cell_of_row _ _ 2 _ _ (0, 0) HR.out
        clear hall hbw
        by_cases hqn : q < n
        · obtain ⟨b, c', L', a', n', k', rfl, hE, hC⟩ := HK.out q hqn
          have hE' := (hE.below HB.out.1).below HW.out
          have HC := Lib.hid (hC wi (HB.out.1.trans (HW.out.mono HB.out.1.size)))
          obtain ⟨x0, x1, x2⟩ := hE'
          clear hE hC
          go_wp2_with fail
          refine HC.out.mono ?_
          rintro e w3 ⟨rfl, hb3⟩
          have B3 := Lib.hid hb3
          have HQN := Lib.hid hqn
          clear hb3 hqn
          by_cases hp : P q
          · have T1 := Lib.hid (tt_of hp)
            have HPP := Lib.hid hp
            clear hp
            rw [T1.out]
            go_wp2_with fail
            go_roundw
            case rel => exact ⟨q + 1, HQN.out, by go_num, HW.out.trans (B3.out.mono HW.out.size), fun j hj => by
              by_cases e : j = q
              · rw [e]; exact HPP.out
              · exact HQ.out j (by omega)⟩
            case measure => have := HQN.out; simp [intOf]; omega
          · have T1 := Lib.hid (tt_no hp)
            have TF := Lib.hid (tt_no (show ¬ ((∀ j, j < L.size → bt L j < N + 97) ∧ ∀ j, j < n → P j) from fun h => hp (h.2 q HQN.out)))
            clear hp
            rw [T1.out]
            go_wp2_with fail
            go_ret
            exact ⟨by rw [TF.out]; rfl, HB.out.1.trans ((HW.out.trans (B3.out.mono HW.out.size)).mono HB.out.1.size)⟩
        · obtain rfl : q = n := by omega
          have TT := Lib.hid (tt_of (show ((∀ j, j < L.size → bt L j < N + 97) ∧ ∀ j, j < q → P j) from ⟨HA.out, HQ.out⟩))
          clear hqn hq
          go_wp2_with fail
          go_ret
          exact ⟨by rw [TT.out]; rfl, HB.out.1.trans (HW.out.mono HB.out.1.size)⟩

theorem fits_circ {M : List Nat} {L : ByteArray} {N : Nat} (h : L.size = M.length ∧ ∀ j, j < M.length → bt L j = M.getD j 0 + 97) : (∀ j, j < L.size → bt L j < N + 97) ↔ maxL M ≤ N := by
  constructor
  · intro h1
    exact maxL_le fun j hj => by have := h1 j (by omega); rw [h.2 j hj] at this; omega
  · intro h1 j hj
    have := maxL_lt h1 (show j < M.length by omega)
    rw [h.2 j (by omega)]; omega
theorem fits_all (N : Nat) (hN : N ≤ 5) (B : Nat) : ∀ (t : Tm) (c : Nat) (L : ByteArray) (a : Option Addr) (n k : Nat) (w : World), WF t → SV w B t c L a n →
    Calls Tryd.prog 60 #[.int .i64 (N : Nat), .agg #[.int .u8 (c : Nat), .string L, .slice a n k]] w fun e w' => e = .returned (.bool (tt (ppl t ≤ N))) ∧ Below w.heap.size w w'
  | .keep, c, L, a, n, k, w, hw, ⟨h1, h2, h3⟩ => by
    refine (fits_gen N c L a n k (fun _ => True) w hN (by omega) (fun j hj => by omega) (by omega) (fun j hj => by omega)).mono ?_
    rintro e w' ⟨rfl, hb⟩
    exact ⟨by rw [tt_congr (show _ ↔ ppl .keep ≤ N from ⟨fun _ => Nat.zero_le _, fun _ => ⟨fun j hj => by omega, fun j hj => by omega⟩⟩)], hb⟩
  | .circ M, c, L, a, n, k, w, hw, ⟨h1, h2, h3⟩ => by
    have h5 := diff_le hw.2
    refine (fits_gen N c L a n k (fun _ => True) w hN (by omega) (fun j hj => by rw [h2.2 j (by omega)]; omega) (by omega) (fun j hj => by omega)).mono ?_
    rintro e w' ⟨rfl, hb⟩
    exact ⟨by rw [tt_congr (show _ ↔ ppl (.circ M) ≤ N from ⟨fun h => (fits_circ h2).1 h.1, fun h => ⟨(fits_circ h2).2 h, fun j hj => by omega⟩⟩)], hb⟩
  | .back t, c, L, a, n, k, w, hw, ⟨h1, h2, h3, b, c', L', a', n', k', h4, h0, h5, h6⟩ => by
    refine (fits_gen N c L a n k (fun _ => ppl t ≤ N) w hN (by omega) (fun j hj => by omega) (by omega) (fun j hj => ?_)).mono ?_
    · obtain rfl : j = 0 := by omega
      exact ⟨b, c', L', a', n', k', h4, h5, fun w' hb => fits_all N hN B t c' L' a' n' k' w' hw (h6.below hb)⟩
    rintro e w' ⟨rfl, hb⟩
    exact ⟨by rw [tt_congr (show _ ↔ ppl (.back t) ≤ N from ⟨fun h => h.2 0 (by omega), fun h => ⟨fun j hj => by omega, fun j hj => h⟩⟩)], hb⟩
  | .times q t, c, L, a, n, k, w, hw, ⟨h1, h2, h3, b, c', L', a', n', k', h4, h0, h5, h6⟩ => by
    refine (fits_gen N c L a n k (fun _ => ppl t ≤ N) w hN (by omega) (fun j hj => by omega) (by omega) (fun j hj => ?_)).mono ?_
    · obtain rfl : j = 0 := by omega
      exact ⟨b, c', L', a', n', k', h4, h5, fun w' hb => fits_all N hN B t c' L' a' n' k' w' hw.2 (h6.below hb)⟩
    rintro e w' ⟨rfl, hb⟩
    exact ⟨by rw [tt_congr (show _ ↔ ppl (.times q t) ≤ N from ⟨fun h => h.2 0 (by omega), fun h => ⟨fun j hj => by omega, fun j hj => h⟩⟩)], hb⟩
  | .pair x y, c, L, a, n, k, w, hw, ⟨h1, h2, h3, b, c', L', a', n', k', c2, L2, a2, n2, k2, h4, h0, h5, h6, h7, h8⟩ => by
    refine (fits_gen N c L a n k (fun j => if j = 0 then ppl x ≤ N else ppl y ≤ N) w hN (by omega) (fun j hj => by omega) (by omega) (fun j hj => ?_)).mono ?_
    · rcases (by omega : j = 0 ∨ j = 1) with rfl | rfl
      · exact ⟨b, c', L', a', n', k', h4, h5, fun w' hb => fits_all N hN B x c' L' a' n' k' w' hw.1 (h6.below hb)⟩
      · exact ⟨b, c2, L2, a2, n2, k2, h4, h7, fun w' hb => fits_all N hN B y c2 L2 a2 n2 k2 w' hw.2 (h8.below hb)⟩
    rintro e w' ⟨rfl, hb⟩
    have hc : ((∀ j, j < L.size → bt L j < N + 97) ∧ ∀ j, j < n → if j = 0 then ppl x ≤ N else ppl y ≤ N) ↔ ppl (.pair x y) ≤ N := by
      constructor
      · intro h
        have e0 := h.2 0 (by omega)
        have e1 := h.2 1 (by omega)
        rw [if_pos rfl] at e0
        rw [if_neg (by decide)] at e1
        show max (ppl x) (ppl y) ≤ N
        omega
      · intro h
        have h' : max (ppl x) (ppl y) ≤ N := h
        refine ⟨fun j hj => by omega, fun j hj => ?_⟩
        by_cases e : j = 0
        · rw [if_pos e]; omega
        · rw [if_neg e]; omega
    exact ⟨by rw [tt_congr hc], hb⟩
end Go.Proofs.YtnaegnjgpnakfaaDoor

/- The model reads a term for so many people. -/
namespace Go.Proofs.YtnaegnjgpnakfaaDoor
set_option linter.unusedVariables false
set_option linter.unusedSimpArgs false
open Go.RowKit

/-- No term, or a term. -/
abbrev OkT (w : World) (B : Nat) (ok : Bool) (c : Nat) (L : ByteArray) (a : Option Addr) (n : Nat) : Option Tm → Prop
  | none => ok = false
  | some t => ok = true ∧ SV w B t c L a n
/-- What l10Of hands back. -/
def RetOf (w : World) (o : Option Tm) (e : Ending) (w' : World) : Prop :=
  Below w.heap.size w w' ∧ ∃ (c : Nat) (L : ByteArray) (a : Option Addr) (n k : Nat) (ok : Bool), e = .returned (.tuple #[.agg #[.int .u8 (c : Nat), .string L, .slice a n k], .bool ok]) ∧ OkT w' w.heap.size ok c L a n o

set_option maxRecDepth 100000 in
set_option maxHeartbeats 3200000 in
theorem of_long (x : Int) (s : ByteArray) (w : World) (h : 60 < s.size) :
    Calls Tryd.prog 38 #[.int .i64 x, .string s] w (RetOf w (termN x s)) := by
  have d1 : decide ((60 : Int) < (s.size : Int)) = true := decide_eq_true (by omega)
  have d1n : decide (60 < s.size) = true := decide_eq_true h
  have E := Lib.hid (termN_none (n := x) (s := s) (by unfold termOf; rw [if_pos h]))
  clear h
  go_enter Tryd.func38, Tryd.ntmps38
  go_wp2
  refine bodyPost_ret (results_term Tryd.results38 _ _ w.heap.size _ _ _ rfl (by rw [Below.heap_alloc _ _ _ (by simp; omega), Below.heap_alloc _ _ _ (by simp)]; exact heap_alloc_last w _)) rfl ?_
  rw [E.out]
  exact ⟨((Below.refl _ _).alloc (Nat.le_refl _) _ |>.alloc (by simp) _).alloc (by simp; omega) _, 105, ⟨#[]⟩, _, 0, 0, false, rfl, rfl⟩
set_option maxRecDepth 100000 in
set_option maxHeartbeats 3200000 in
theorem of_out (x : Int) (s : ByteArray) (w : World) (hs : s.size ≤ 60) (h : ¬ InR x 2 5) :
    Calls Tryd.prog 38 #[.int .i64 x, .string s] w (RetOf w (termN x s)) := by
  have d1 : decide ((60 : Int) < (s.size : Int)) = false := decide_eq_false (by omega)
  have d1n : decide (60 < s.size) = false := decide_eq_false (by omega)
  have T1 := Lib.hid (tt_no h)
  have E := Lib.hid (termN_out (s := s) h)
  clear h hs
  go_enter Tryd.func38, Tryd.ntmps38
  go_wp2_with (go_at_call 58; refine (l6In_any _ _ _ _).mono ?_; rintro e w' ⟨rfl, rfl⟩; rw [T1.out])
  refine bodyPost_ret (results_term Tryd.results38 _ _ w.heap.size _ _ _ rfl (by rw [Below.heap_alloc _ _ _ (by simp; omega), Below.heap_alloc _ _ _ (by simp)]; exact heap_alloc_last w _)) rfl ?_
  rw [E.out]
  exact ⟨((Below.refl _ _).alloc (Nat.le_refl _) _ |>.alloc (by simp) _).alloc (by simp; omega) _, 105, ⟨#[]⟩, _, 0, 0, false, rfl, rfl⟩
set_option maxRecDepth 100000 in
set_option maxHeartbeats 3200000 in
theorem of_in (x : Int) (s : ByteArray) (w : World) (hs : s.size ≤ 60) (h : InR x 2 5) :
    Calls Tryd.prog 38 #[.int .i64 x, .string s] w (RetOf w (termN x s)) := by
  have d1 : decide ((60 : Int) < (s.size : Int)) = false := decide_eq_false (by omega)
  have d1n : decide (60 < s.size) = false := decide_eq_false (by omega)
  have T1 := Lib.hid (tt_of h)
  have HI := Lib.hid h
  have HS := Lib.hid hs
  have H0 := Lib.hid (fun w1 => read_all s hs s.size 0 w1 (Nat.zero_le _) (by omega))
  clear h hs
  go_enter Tryd.func38, Tryd.ntmps38
  go_wp2_with (first | (go_at_call 58; refine (l6In_any _ _ _ _).mono ?_; rintro e w' ⟨rfl, rfl⟩; rw [T1.out]) | fail)
  obtain ⟨G, hG⟩ : ∃ G, G = w.heap.size := ⟨_, rfl⟩
  obtain ⟨W0, hW0⟩ : ∃ W0, W0 = proW w := ⟨_, rfl⟩
  have HP := Lib.hid (show Pro w W0 G from by rw [hW0, hG]; exact pro_mk w)
  unfold proW at hW0
  rw [← hW0, ← hG]
  clear hW0 hG
  refine (H0.out W0).mono ?_
  rintro e W1 ⟨hb1, c, L, a, n, k, q, rfl, hr⟩
  have X1 := Lib.hid hb1
  have hz0 := HP.out.size
  have hz1 := hb1.size
  have HN := Lib.hid (show W1.heap[G + 1 + 1]? = some (.cells #[.int .u8 105, .string ⟨#[]⟩, .slice (some ⟨G + 1, 0, none⟩) 0 0] 45 (0, 0)) from (hb1.block (G + 1 + 1) (by omega)).trans HP.out.none)
  have HR1 := Lib.hid (show W1.heap[G]? = some (.cells #[.int .u8 0, .string ⟨#[]⟩, .slice none 0 0] 45 (0, 0)) from (hb1.block G (by omega)).trans HP.out.res)
  have HRA := Lib.hid (show ∀ o, (W1.alloc o).heap[G]? = some (.cells #[.int .u8 0, .string ⟨#[]⟩, .slice none 0 0] 45 (0, 0)) from fun o => (Below.heap_alloc _ _ _ (by omega)).trans HR1.out)
  have HNA : ∀ (o : Obj) (j : Nat), (W1.alloc o).cell? ⟨G + 1 + 1, j, none⟩ = W1.cell? ⟨G + 1 + 1, j, none⟩ := fun o j => World.cell?_of_block (w := W1) (Below.heap_alloc _ _ _ (by show G + 1 + 1 < _; omega))
  have hn0 := fun o => (HNA o 0).trans (cell_of_row _ _ 0 _ _ (0, 0) HN.out)
  have hn1 := fun o => (HNA o 1).trans (cell_of_row _ _ 1 _ _ (0, 0) HN.out)
  have hn2 := fun o => (HNA o 2).trans (cell_of_row _ _ 2 _ _ (0, 0) HN.out)
  have HZ := Lib.hid (And.intro hz0 hz1)
  clear HNA hz0 hz1 hb1
  obtain ⟨N, hN⟩ := Int.eq_ofNat_of_zero_le (show 0 ≤ x by have := HI.out.1; omega)
  subst hN
  cases ho : readT s s.size 0 with
  | none =>
    rw [ho] at hr
    have hq0 : q = 0 := hr
    have d1 : ((q : Int) == 0) = true := by simp [hq0]
    have E := Lib.hid (termN_none (n := (N : Int)) (s := s) (by unfold termOf; rw [if_neg (by have := HS.out; omega), ho]))
    clear hr ho hq0
    go_wp2_with ((with_reducible refine st_next ?_); (refine row3_store 45 45 _ _ G _ _ _ _ _ _ (by rfl) (by rfl) (HRA.out _) Tryd.sizeTerm (by rfl) (by rfl) (by rfl) ?_; intro W9 r9 s9 o9 b9; have X9 := Lib.hid (And.intro r9 (And.intro o9 b9)); clear r9 s9 o9 b9))
    refine bodyPost_ret (results_term Tryd.results38 _ _ G _ _ _ rfl X9.out.1) rfl ?_
    rw [E.out]
    exact ⟨HP.out.ret (below_alloc X1.out _) (X9.out.2.2), 105, ⟨#[]⟩, _, 0, 0, false, rfl, rfl⟩
  | some r =>
    obtain ⟨t, p⟩ := r
    rw [ho] at hr
    obtain ⟨rfl, hv⟩ := hr
    have hbd := readT_bound _ _ _ _ ho
    have d1 : ((q : Int) == 0) = false := by simp; omega
    by_cases hqs : q = s.size
    · have d2 : ((q : Int) != (s.size : Int)) = false := by simp [hqs]
      have hto : termOf s = some t := by unfold termOf; rw [if_neg (by have := HS.out; omega), ho]; show (if q = s.size then some t else none) = _; rw [if_pos hqs]
      have hwf := readT_wf _ _ _ _ ho
      have HV := Lib.hid hv
      have HF := Lib.hid (fun w1 (h : SV w1 W0.heap.size t c L a n) => fits_all N (by have := HI.out.2; omega) W0.heap.size t c L a n k w1 hwf h)
      have HTO := Lib.hid hto
      clear hqs hv ho hbd hto hwf
      go_wp2_with fail
      refine (HF.out _ (HV.out.below (below_alloc (Below.refl _ _) _))).mono ?_
      rintro e W2 ⟨rfl, hb2⟩
      have X2 := Lib.hid hb2
      have hz0 := HZ.out
      have hz2 := hb2.size
      rw [World.size_alloc] at hz2
      have HRX := Lib.hid (show W2.heap[G]? = some (.cells #[.int .u8 0, .string ⟨#[]⟩, .slice none 0 0] 45 (0, 0)) from (hb2.block G (by rw [World.size_alloc]; omega)).trans (HRA.out _))
      have HNX := Lib.hid (show W2.heap[G + 1 + 1]? = some (.cells #[.int .u8 105, .string ⟨#[]⟩, .slice (some ⟨G + 1, 0, none⟩) 0 0] 45 (0, 0)) from (hb2.block (G + 1 + 1) (by rw [World.size_alloc]; omega)).trans ((Below.heap_alloc _ _ _ (by omega)).trans HN.out))
      have HTX := Lib.hid (show W2.heap[W1.heap.size]? = some (.cells #[.int .u8 (c : Nat), .string L, .slice a n k] 45 (0, 0)) from (hb2.block W1.heap.size (by rw [World.size_alloc]; omega)).trans (heap_alloc_last W1 _))
      clear hn0 hn1 hn2
      have hn0 := cell_of_row _ _ 0 _ _ (0, 0) HNX.out
      have hn1 := cell_of_row _ _ 1 _ _ (0, 0) HNX.out
      have hn2 := cell_of_row _ _ 2 _ _ (0, 0) HNX.out
      have ht0 := cell_of_row _ _ 0 _ _ (0, 0) HTX.out
      have ht1 := cell_of_row _ _ 1 _ _ (0, 0) HTX.out
      have ht2 := cell_of_row _ _ 2 _ _ (0, 0) HTX.out
      have HB2 := Lib.hid (show Below W0.heap.size W0 W2 from X1.out.trans (((Below.refl _ _).alloc (Nat.le_refl _) _ |>.trans (hb2.mono (by simp))).mono X1.out.size))
      clear hb2 hz0 hz2
      by_cases hle : ppl t ≤ N
      · have T2 := Lib.hid (tt_of hle)
        have E := Lib.hid (termN_fits HI.out HTO.out (show ppl t ≤ ((N : Nat) : Int).toNat by omega))
        clear hle
        rw [T2.out]
        go_wp2_with ((with_reducible refine st_next ?_); (refine row3_store 45 45 _ _ G _ _ _ _ _ _ (by rfl) (by rfl) HRX.out Tryd.sizeTerm (by rfl) (by rfl) (by rfl) ?_; intro W9 r9 s9 o9 b9; have X9 := Lib.hid (And.intro r9 (And.intro o9 b9)); clear r9 s9 o9 b9))
        refine bodyPost_ret (results_term Tryd.results38 _ _ G _ _ _ rfl X9.out.1) rfl ?_
        rw [E.out]
        refine ⟨HP.out.ret HB2.out (X9.out.2.2), c, L, a, n, k, true, rfl, rfl, ?_⟩
        have hz := HP.out.size
        have hg := HP.out.g
        refine SV.mono (B := W0.heap.size) (by omega) (SV.keep (w := W2) (fun j h1 h2 => X9.out.2.1 j (by omega)) ?_)
        exact (HV.out.below (below_alloc (Below.refl _ _) _)).below X2.out
      · have T2 := Lib.hid (tt_no hle)
        have E := Lib.hid (termN_more (n := (N : Int)) HTO.out (show ¬ ppl t ≤ ((N : Nat) : Int).toNat by omega))
        clear hle
        rw [T2.out]
        go_wp2_with ((with_reducible refine st_next ?_); (refine row3_store 45 45 _ _ G _ _ _ _ _ _ (by rfl) (by rfl) HRX.out Tryd.sizeTerm (by rfl) (by rfl) (by rfl) ?_; intro W9 r9 s9 o9 b9; have X9 := Lib.hid (And.intro r9 (And.intro o9 b9)); clear r9 s9 o9 b9))
        refine bodyPost_ret (results_term Tryd.results38 _ _ G _ _ _ rfl X9.out.1) rfl ?_
        rw [E.out]
        exact ⟨HP.out.ret HB2.out (X9.out.2.2), 105, ⟨#[]⟩, _, 0, 0, false, rfl, rfl⟩
    · have d2 : ((q : Int) != (s.size : Int)) = true := by simp; omega
      have E := Lib.hid (termN_none (n := (N : Int)) (s := s) (by unfold termOf; rw [if_neg (by have := HS.out; omega), ho]; show (if q = s.size then some t else none) = _; rw [if_neg hqs]))
      clear hqs hv ho hbd
      go_wp2_with ((with_reducible refine st_next ?_); (refine row3_store 45 45 _ _ G _ _ _ _ _ _ (by rfl) (by rfl) (HRA.out _) Tryd.sizeTerm (by rfl) (by rfl) (by rfl) ?_; intro W9 r9 s9 o9 b9; have X9 := Lib.hid (And.intro r9 (And.intro o9 b9)); clear r9 s9 o9 b9))
      refine bodyPost_ret (results_term Tryd.results38 _ _ G _ _ _ rfl X9.out.1) rfl ?_
      rw [E.out]
      exact ⟨HP.out.ret (below_alloc X1.out _) (X9.out.2.2), 105, ⟨#[]⟩, _, 0, 0, false, rfl, rfl⟩

theorem l10Of_any (x : Int) (s : ByteArray) (w : World) (hx : I64 x) : Calls Tryd.prog 38 #[.int .i64 x, .string s] w (RetOf w (termN x s)) := by
  by_cases h : 60 < s.size
  · exact of_long x s w h
  · by_cases h2 : InR x 2 5
    · exact of_in x s w (by omega) h2
    · exact of_out x s w (by omega) h2
end Go.Proofs.YtnaegnjgpnakfaaDoor
