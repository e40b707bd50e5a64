/- The model asks if a term fits so many people. -/
import Derived.Test.YtnaegnjgpnakfaaDoorSpecRead3
namespace Go.Proofs.YtnaegnjgpnakfaaDoor
set_option linter.unusedVariables false
set_option linter.unusedSimpArgs false
open Go.RowKit

/-- What the call of l10Fits at a part gives. -/
def FitC (w : World) (N : Nat) (a : Option Addr) (j : Nat) (p : Prop) : Prop :=
  ∃ (b c : Nat) (L : ByteArray) (a' : Option Addr) (n k : Nat), a = some ⟨b, 0, none⟩ ∧ Elem3 w b (j * 3) c L a' n k ∧
    ∀ w', Below w.heap.size w w' → Calls Tryd.prog 60 #[.int .i64 (N : Nat), .agg #[.int .u8 (c : Nat), .string L, .slice a' n k]] w' fun e w2 => e = .returned (.bool (tt p)) ∧ Below w'.heap.size w' w2

set_option maxRecDepth 100000 in
set_option maxHeartbeats 3200000 in
theorem fits_gen (N c : Nat) (L : ByteArray) (a : Option Addr) (n k : Nat) (P : Nat → Prop) (w : World) (hN : N ≤ 5) (hLs : L.size ≤ 1048576) (hL : ∀ j, j < L.size → 97 ≤ bt L j) (hn : n ≤ 2) (hK : ∀ j, j < n → FitC w N a j (P j)) :
    Calls Tryd.prog 60 #[.int .i64 (N : Nat), .agg #[.int .u8 (c : Nat), .string L, .slice a n k]] w fun e w' => e = .returned (.bool (tt ((∀ j, j < L.size → bt L j < N + 97) ∧ ∀ j, j < n → P j))) ∧ Below w.heap.size w w' := by
  have HL := Lib.hid hL
  have HK := Lib.hid hK
  clear hL hK
  go_enter Tryd.func60, Tryd.ntmps60
  go_wp2_with fail
  obtain ⟨G, hG⟩ : ∃ G, G = w.heap.size := ⟨_, rfl⟩
  obtain ⟨W0, hW0⟩ : ∃ W0, W0 = w.alloc (.cells #[.int .u8 (c : Nat), .string L, .slice a n k] 45) := ⟨_, rfl⟩
  have hR : W0.heap[G]? = some (.cells #[.int .u8 (c : Nat), .string L, .slice a n k] 45 (0, 0)) := by rw [hW0, hG]; exact heap_alloc_last w _
  have HB := Lib.hid (show Below w.heap.size w W0 ∧ W0.heap.size = G + 1 from ⟨by rw [hW0]; exact below_alloc (Below.refl _ _) _, by rw [hW0]; simp [hG]⟩)
  have HR := Lib.hid hR
  have c1 : W0.cell? ⟨G, 1, none⟩ = some (.string L) := cell_of_row _ _ 1 _ _ (0, 0) hR
  rw [← hW0, ← hG]
  have HG := Lib.hid hG
  clear hW0 hG hR
  go_loop [5] (fun i => ∃ k : Nat, k ≤ L.size ∧ i = .int .i64 (k : Nat) ∧ ∀ j, j < k → bt L j < N + 97) (fun i => L.size - (intOf i).toNat)
  case atStart => exact ⟨0, Nat.zero_le _, rfl, fun j hj => absurd hj (Nat.not_lt_zero _)⟩
  case round =>
    obtain ⟨i, hi, rfl, hall⟩ := hrel
    have HA := Lib.hid hall
    clear hall
    by_cases hlt : i < L.size
    · obtain ⟨b, hb⟩ : ∃ b, b = bt L i := ⟨_, rfl⟩
      have hix : ∀ w : World, (Instr.index 9 (.string L) (.int .i64 (i : Nat))).run Tryd.prog w = .ok (.int .u8 (b : Nat)) w := fun w => by rw [hb]; exact run_index_bt w _ L _ i Tryd.underlying9 hlt
      have h97 := HL.out i hlt
      have h256 := bt_lt L i
      rw [← hb] at h97 h256
      obtain ⟨x, hx⟩ : ∃ x, b = x + 97 := ⟨b - 97, by omega⟩
      have hw1 : wrap64 (b : Int) = (b : Int) := IntWalk.wrap64_in _ (by omega)
      have hw2 : IntKind.i64.wrap ((b : Int) - 97) = (x : Int) := by rw [IntWalk.i64_in _ (by omega)]; omega
      have HX := Lib.hid (show bt L i = x + 97 by omega)
      clear h97 h256 hb hx
      by_cases hxN : N ≤ x
      · have d1 : decide ((N : Int) ≤ (x : Int)) = true := decide_eq_true (by omega)
        have d1n : decide (N ≤ x) = true := decide_eq_true hxN
        have TF := Lib.hid (tt_no (show ¬ ((∀ j, j < L.size → bt L j < N + 97) ∧ ∀ j, j < n → P j) from fun h => by have := h.1 i hlt; have := HX.out; omega))
        clear hxN
        go_wp2
        go_ret
        exact ⟨by rw [TF.out]; rfl, HB.out.1⟩
      · have d1 : decide ((N : Int) ≤ (x : Int)) = false := decide_eq_false (by omega)
        have d1n : decide (N ≤ x) = false := decide_eq_false hxN
        have HN := Lib.hid (show x < N by omega)
        clear hxN
        go_wp2
        go_round
        case rel => exact ⟨i + 1, by omega, by go_num, fun j hj => by
          by_cases e : j = i
          · rw [e, HX.out]; have := HN.out; omega
          · exact HA.out j (by omega)⟩
        case measure => simp [intOf]; omega
    · obtain rfl : i = L.size := by omega
      clear hlt hi
      go_wp2_with fail
      go_loopw [6] (fun i wi => ∃ q : Nat, q ≤ n ∧ i = .int .i64 (q : Nat) ∧ Below W0.heap.size W0 wi ∧ ∀ j, j < q → P j) (fun i _ => n - (intOf i).toNat)
      case atStart => exact ⟨0, Nat.zero_le _, rfl, Below.refl _ _, fun j hj => absurd hj (Nat.not_lt_zero _)⟩
      case round =>
        obtain ⟨q, hq, rfl, hbw, hall⟩ := hrel
        rename World => wi
        have HQ := Lib.hid hall
        have HW := Lib.hid hbw
        have c2 : wi.cell? ⟨G, 2, none⟩ = some (.slice a n k) := by
          rw [World.cell?_of_block (w := W0) (a := ⟨G, 2, none⟩) (hbw.block G (by have := HB.out.2; omega))]; exact cell_of_row _ _ 2 _ _ (0, 0) HR.out
        clear hall hbw
        by_cases hqn : q < n
        · obtain ⟨b, c', L', a', n', k', rfl, hE, hC⟩ := HK.out q hqn
          have hE' := (hE.below HB.out.1).below HW.out
          have HC := Lib.hid (hC wi (HB.out.1.trans (HW.out.mono HB.out.1.size)))
          obtain ⟨x0, x1, x2⟩ := hE'
          clear hE hC
          go_wp2_with fail
          refine HC.out.mono ?_
          rintro e w3 ⟨rfl, hb3⟩
          have B3 := Lib.hid hb3
          have HQN := Lib.hid hqn
          clear hb3 hqn
          by_cases hp : P q
          · have T1 := Lib.hid (tt_of hp)
            have HPP := Lib.hid hp
            clear hp
            rw [T1.out]
            go_wp2_with fail
            go_roundw
            case rel => exact ⟨q + 1, HQN.out, by go_num, HW.out.trans (B3.out.mono HW.out.size), fun j hj => by
              by_cases e : j = q
              · rw [e]; exact HPP.out
              · exact HQ.out j (by omega)⟩
            case measure => have := HQN.out; simp [intOf]; omega
          · have T1 := Lib.hid (tt_no hp)
            have TF := Lib.hid (tt_no (show ¬ ((∀ j, j < L.size → bt L j < N + 97) ∧ ∀ j, j < n → P j) from fun h => hp (h.2 q HQN.out)))
            clear hp
            rw [T1.out]
            go_wp2_with fail
            go_ret
            exact ⟨by rw [TF.out]; rfl, HB.out.1.trans ((HW.out.trans (B3.out.mono HW.out.size)).mono HB.out.1.size)⟩
        · obtain rfl : q = n := by omega
          have TT := Lib.hid (tt_of (show ((∀ j, j < L.size → bt L j < N + 97) ∧ ∀ j, j < q → P j) from ⟨HA.out, HQ.out⟩))
          clear hqn hq
          go_wp2_with fail
          go_ret
          exact ⟨by rw [TT.out]; rfl, HB.out.1.trans (HW.out.mono HB.out.1.size)⟩

theorem fits_circ {M : List Nat} {L : ByteArray} {N : Nat} (h : L.size = M.length ∧ ∀ j, j < M.length → bt L j = M.getD j 0 + 97) : (∀ j, j < L.size → bt L j < N + 97) ↔ maxL M ≤ N := by
  constructor
  · intro h1
    exact maxL_le fun j hj => by have := h1 j (by omega); rw [h.2 j hj] at this; omega
  · intro h1 j hj
    have := maxL_lt h1 (show j < M.length by omega)
    rw [h.2 j (by omega)]; omega
theorem fits_all (N : Nat) (hN : N ≤ 5) (B : Nat) : ∀ (t : Tm) (c : Nat) (L : ByteArray) (a : Option Addr) (n k : Nat) (w : World), WF t → SV w B t c L a n →
    Calls Tryd.prog 60 #[.int .i64 (N : Nat), .agg #[.int .u8 (c : Nat), .string L, .slice a n k]] w fun e w' => e = .returned (.bool (tt (ppl t ≤ N))) ∧ Below w.heap.size w w'
  | .keep, c, L, a, n, k, w, hw, ⟨h1, h2, h3⟩ => by
    refine (fits_gen N c L a n k (fun _ => True) w hN (by omega) (fun j hj => by omega) (by omega) (fun j hj => by omega)).mono ?_
    rintro e w' ⟨rfl, hb⟩
    exact ⟨by rw [tt_congr (show _ ↔ ppl .keep ≤ N from ⟨fun _ => Nat.zero_le _, fun _ => ⟨fun j hj => by omega, fun j hj => by omega⟩⟩)], hb⟩
  | .circ M, c, L, a, n, k, w, hw, ⟨h1, h2, h3⟩ => by
    have h5 := diff_le hw.2
    refine (fits_gen N c L a n k (fun _ => True) w hN (by omega) (fun j hj => by rw [h2.2 j (by omega)]; omega) (by omega) (fun j hj => by omega)).mono ?_
    rintro e w' ⟨rfl, hb⟩
    exact ⟨by rw [tt_congr (show _ ↔ ppl (.circ M) ≤ N from ⟨fun h => (fits_circ h2).1 h.1, fun h => ⟨(fits_circ h2).2 h, fun j hj => by omega⟩⟩)], hb⟩
  | .back t, c, L, a, n, k, w, hw, ⟨h1, h2, h3, b, c', L', a', n', k', h4, h0, h5, h6⟩ => by
    refine (fits_gen N c L a n k (fun _ => ppl t ≤ N) w hN (by omega) (fun j hj => by omega) (by omega) (fun j hj => ?_)).mono ?_
    · obtain rfl : j = 0 := by omega
      exact ⟨b, c', L', a', n', k', h4, h5, fun w' hb => fits_all N hN B t c' L' a' n' k' w' hw (h6.below hb)⟩
    rintro e w' ⟨rfl, hb⟩
    exact ⟨by rw [tt_congr (show _ ↔ ppl (.back t) ≤ N from ⟨fun h => h.2 0 (by omega), fun h => ⟨fun j hj => by omega, fun j hj => h⟩⟩)], hb⟩
  | .times q t, c, L, a, n, k, w, hw, ⟨h1, h2, h3, b, c', L', a', n', k', h4, h0, h5, h6⟩ => by
    refine (fits_gen N c L a n k (fun _ => ppl t ≤ N) w hN (by omega) (fun j hj => by omega) (by omega) (fun j hj => ?_)).mono ?_
    · obtain rfl : j = 0 := by omega
      exact ⟨b, c', L', a', n', k', h4, h5, fun w' hb => fits_all N hN B t c' L' a' n' k' w' hw.2 (h6.below hb)⟩
    rintro e w' ⟨rfl, hb⟩
    exact ⟨by rw [tt_congr (show _ ↔ ppl (.times q t) ≤ N from ⟨fun h => h.2 0 (by omega), fun h => ⟨fun j hj => by omega, fun j hj => h⟩⟩)], hb⟩
  | .pair x y, c, L, a, n, k, w, hw, ⟨h1, h2, h3, b, c', L', a', n', k', c2, L2, a2, n2, k2, h4, h0, h5, h6, h7, h8⟩ => by
    refine (fits_gen N c L a n k (fun j => if j = 0 then ppl x ≤ N else ppl y ≤ N) w hN (by omega) (fun j hj => by omega) (by omega) (fun j hj => ?_)).mono ?_
    · rcases (by omega : j = 0 ∨ j = 1) with rfl | rfl
      · exact ⟨b, c', L', a', n', k', h4, h5, fun w' hb => fits_all N hN B x c' L' a' n' k' w' hw.1 (h6.below hb)⟩
      · exact ⟨b, c2, L2, a2, n2, k2, h4, h7, fun w' hb => fits_all N hN B y c2 L2 a2 n2 k2 w' hw.2 (h8.below hb)⟩
    rintro e w' ⟨rfl, hb⟩
    have hc : ((∀ j, j < L.size → bt L j < N + 97) ∧ ∀ j, j < n → if j = 0 then ppl x ≤ N else ppl y ≤ N) ↔ ppl (.pair x y) ≤ N := by
      constructor
      · intro h
        have e0 := h.2 0 (by omega)
        have e1 := h.2 1 (by omega)
        rw [if_pos rfl] at e0
        rw [if_neg (by decide)] at e1
        show max (ppl x) (ppl y) ≤ N
        omega
      · intro h
        have h' : max (ppl x) (ppl y) ≤ N := h
        refine ⟨fun j hj => by omega, fun j hj => ?_⟩
        by_cases e : j = 0
        · rw [if_pos e]; omega
        · rw [if_neg e]; omega
    exact ⟨by rw [tt_congr hc], hb⟩
end Go.Proofs.YtnaegnjgpnakfaaDoor
