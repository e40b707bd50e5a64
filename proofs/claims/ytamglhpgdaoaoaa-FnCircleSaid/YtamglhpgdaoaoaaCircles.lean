/- The program's circles: all circles of at most k, in order. -/
import Derived.Test.YtamglhpgdaoaoaaGoOn
import Derived.Test.YtamglhpgdaoaoaaTabJ
namespace Go.Proofs.Ytamglhpgdaoaoaa
set_option linter.unusedVariables false
set_option linter.unusedSimpArgs false
open Go.RowKit

theorem goes_nil {W : Nat → Int} {q : Nat} : GoesOn W [] q := ⟨fun i hi => absurd hi (Nat.not_lt_zero _), .inl rfl⟩
theorem circs_begin {n k : Nat} {W : Nat → Int} (hk : 1 ≤ k) : circs n W k [] = circsTo n W (k - 1) [] n := by
  obtain ⟨f, rfl⟩ : ∃ f, k = f + 1 := ⟨k - 1, by omega⟩
  exact circs_succ
theorem circ1_nil {n : Nat} {W : Nat → Int} : circ1 n W [] = [] := by
  unfold circ1
  rw [tt_no (fun h => by have := h.2.2.2; simp at this), if_neg (by simp)]

theorem World.rowIs_single (w : World) (q : Nat) : (w.alloc (.cells #[.int .i64 (q : Nat)] 3)).rowIs w.heap.size 3 1 (fun j => .int .i64 (nth [(q : Int)] j)) :=
  ⟨_, heap_alloc_last w _, rfl, fun j hj => by obtain rfl : j = 0 := by omega
                                               rfl⟩
/-- What is handed back: a table of the call's own, with its room. -/
def RetTC (LL : List (List Int)) (w : World) (e : Ending) (w' : World) : Prop :=
  ∃ a1 c1 A1 C1, e = .returned (.slice a1 LL.length c1) ∧ LL.length ≤ c1 ∧ OwnT w' w.heap.size w'.heap.size a1 LL.length A1 (lenL LL) C1 (nthL LL) ∧ Below w.heap.size w w'
theorem owns_room1 {w : World} {B tI n m cap : Nat} {a : Option Addr} {xs : List Value} (h : w.ownsRow B tI 1 (.slice a n cap) m xs) (e : n = m) : n ≤ cap := by
  obtain ⟨_, (⟨h1, h2⟩ | ⟨g', cap', cur, h1, h2, h3, h4, _⟩)⟩ := h
  · omega
  · cases h1; omega
set_option maxRecDepth 100000 in
set_option maxHeartbeats 3200000 in
theorem circlesC_any (n g k : Nat) (W : Nat → Int) (w : World) (hW : IsWants n W) (hk2 : 2 ≤ k) (hkn : k ≤ n) (ha : Rd w (some ⟨g, 0, none⟩) n W) :
    Calls Try.prog 59 #[.slice (some ⟨g, 0, none⟩) n n, .int .i64 (k : Nat)] w (RetTC (circs n W k []) w) := by
  have hn2 := hW.1.1
  have hn6 := hW.1.2
  have HW := Lib.hid hW
  have HA := Lib.hid ha
  clear hW ha
  obtain ⟨w3, hw3⟩ : ∃ w3, w3 = ((w.alloc (.cells #[.slice (some ⟨g, 0, none⟩) n n] 44)).alloc (.cells #[.int .i64 k] 3)).alloc (.cells #[.slice none 0 0] 35) := ⟨_, rfl⟩
  have hlast := heap_alloc_last w3 (.cells #[.nilFunc] 69)
  have hs3 : w3.heap.size = w.heap.size + 1 + 1 + 1 := by rw [hw3]; simp
  rw [hs3] at hlast
  have hcg : (w3.alloc (.cells #[.nilFunc] 69)).cell? ⟨w.heap.size + 1 + 1 + 1, 0, none⟩ = some .nilFunc := cell_of_row _ _ 0 _ _ _ hlast
  have hfg : (w3.alloc (.cells #[.nilFunc] 69)).frozen? ⟨w.heap.size + 1 + 1 + 1, 0, none⟩ = false := frozen_of_row _ _ 0 _ _ hlast
  have hst : (store ⟨w.heap.size + 1 + 1 + 1, 0, none⟩ (goOnV w.heap.size (w.heap.size + 1 + 1) (w.heap.size + 1) (w.heap.size + 1 + 1 + 1))).run Try.prog (w3.alloc (.cells #[.nilFunc] 69)) = .ok () ((w3.alloc (.cells #[.nilFunc] 69)).setCell ⟨w.heap.size + 1 + 1 + 1, 0, none⟩ (goOnV w.heap.size (w.heap.size + 1 + 1) (w.heap.size + 1) (w.heap.size + 1 + 1 + 1))) := by
    rw [run_store _ _ _ _ _ (by rfl), hcg]
    simp [hfg]
  rw [hw3] at hst
  unfold goOnV at hst
  have HW3 := Lib.hid hw3
  have HS3 := Lib.hid hs3
  clear hlast hw3 hs3 hcg hfg
  go_enter Try.func59, Try.ntmps59
  go_wp2_with fail
  clear hst
  obtain ⟨s, hs⟩ : ∃ s, s = w.heap.size := ⟨_, rfl⟩
  obtain ⟨w0, hw0⟩ : ∃ w0, w0 = (w.alloc (.cells #[.slice (some ⟨g, 0, none⟩) n n] 44)).alloc (.cells #[.int .i64 k] 3) := ⟨_, rfl⟩
  rw [← hw0, ← hs]
  obtain ⟨w4, hw4⟩ : ∃ w4, w4 = (w0.alloc (.cells #[.slice none 0 0] 35)).alloc (.cells #[goOnV s (s + 1 + 1) (s + 1) (s + 1 + 1 + 1)] 69) := ⟨_, rfl⟩
  have e4 := hw4
  unfold goOnV at e4
  rw [← e4]
  clear e4
  have hs0 : w0.heap.size = s + 1 + 1 := by rw [hw0, hs]; simp
  have B00 := Lib.hid (show Below w.heap.size w w0 by rw [hw0]; exact below_alloc (below_alloc (Below.refl _ w) _) _)
  have C0 := Lib.hid (show w0.cell? ⟨s, 0, none⟩ = some (.slice (some ⟨g, 0, none⟩) n n) by
    rw [hw0, World.cell?_of_block (w := w.alloc _) (Below.heap_alloc _ _ _ (show s < _ by simp; omega)), hs]; simp)
  have C1 := Lib.hid (show w0.cell? ⟨s + 1, 0, none⟩ = some (.int .i64 k) by
    have h := heap_alloc_last (w.alloc (.cells #[.slice (some ⟨g, 0, none⟩) n n] 44)) (.cells #[.int .i64 k] 3)
    rw [World.size_alloc, ← hs, ← hw0] at h
    exact cell_of_row _ _ 0 _ _ _ h)
  have hb4 : Below w0.heap.size w0 w4 := by rw [hw4]; exact below_alloc (below_alloc (Below.refl _ w0) _) _
  have h2 : w4.heap[s + 1 + 1]? = some (.cells #[.slice none 0 0] 35 (0, 0)) := by
    have h := heap_alloc_last w0 (.cells #[.slice none 0 0] 35)
    rw [hs0] at h
    rw [hw4, Below.heap_alloc _ _ _ (by simp; omega)]
    exact h
  have h3 : w4.heap[s + 1 + 1 + 1]? = some (.cells #[goOnV s (s + 1 + 1) (s + 1) (s + 1 + 1 + 1)] 69 (0, 0)) := by
    have h := heap_alloc_last (w0.alloc (.cells #[.slice none 0 0] 35)) (.cells #[goOnV s (s + 1 + 1) (s + 1) (s + 1 + 1 + 1)] 69)
    rw [World.size_alloc, hs0, ← hw4] at h
    exact h
  have T0 := Lib.hid (show TabK 23 (s + 1 + 1) w0 (circsTo n W (k - 1) [] 0) (.slice none 0 0) (fun _ => False) w4 by
    rw [circsTo_zero, circ1_nil]
    exact ⟨fun _ => 0, fun _ => 0, hb4, by omega, cell_of_row _ _ 0 _ _ _ h2, frozen_of_row _ _ 0 _ _ h2, Making.start _ _ _ _ _ _ _ _ ⟨rfl, .inl ⟨rfl, rfl⟩⟩, fun x => ⟨fun h => h.elim, fun ⟨r, hr, _⟩ => absurd hr (Nat.not_lt_zero _)⟩⟩)
  have CG := Lib.hid (show w4.cell? ⟨s + 1 + 1 + 1, 0, none⟩ = some (goOnV s (s + 1 + 1) (s + 1) (s + 1 + 1 + 1)) from cell_of_row _ _ 0 _ _ _ h3)
  have HR0 := Lib.hid (HA.out.below (Nat.le_refl _) B00.out)
  have HS := Lib.hid hs
  have HS0 := Lib.hid hs0
  have HGO := Lib.hid (fun B m b cap v R LL w' => goOn_any n g k s (s + 1 + 1) (s + 1) (s + 1 + 1 + 1) W w0 HW.out hkn (by omega) C0.out C1.out HR0.out (k - 1) B m b cap v R LL w')
  clear hw0 hw4 hs hs0 hb4 h2 h3
  go_loopw [7, 11] (fun _ i wr => ∃ (q : Nat) (v1 : Value) (R1 : Nat → Prop), q ≤ n ∧ i = .int .i64 q ∧ wr.cell? ⟨s + 1 + 1 + 1, 0, none⟩ = some (goOnV s (s + 1 + 1) (s + 1) (s + 1 + 1 + 1)) ∧ (¬ R1 (s + 1 + 1 + 1) ∧ v1.ownBlock ≠ some (s + 1 + 1 + 1)) ∧ TabK 23 (s + 1 + 1) w0 (circsTo n W (k - 1) [] q) v1 R1 wr) (fun _ i _ => n - (intOf i).toNat)
  case atStart => exact ⟨0, _, _, Nat.zero_le _, rfl, CG.out, ⟨fun h => h, fun h => by cases h⟩, T0.out⟩
  case round =>
    obtain ⟨q, v1, R1, hq, rfl, hcg, hnb, ht⟩ := hrel
    have NB := Lib.hid hnb
    have TB := Lib.hid ht
    have CGR := Lib.hid hcg
    obtain ⟨d1, d2, d3, d4⟩ := ht.base
    have BR := Lib.hid d1
    have hgl : s + 1 + 1 + 1 < wr.heap.size := World.block_lt_of_cell? _ _ hcg
    clear T0 CG hnb ht d1 d2 d4
    by_cases hlt : q < n
    · have hcg2 := hcg
      unfold goOnV at hcg2
      have hfit := Lib.hid (show (circsTo n W (k - 1) [] q).length + 7 ^ (k - 1 + 1) ≤ 5764801 by
        have h1 := circsTo_le (n := n) (W := W) (B := []) (f := k - 1) hn6 hq
        have h2 : 7 ^ (k - 1 + 1) ≤ 7 ^ 6 := Nat.pow_le_pow_right (by omega) (by omega)
        omega)
      clear hcg d3
      go_wp2_with (go_at_call 70; refine (HGO.out [(q : Int)] 0 wr.heap.size 1 v1 R1 (circsTo n W (k - 1) [] q) _ (path_one hlt) rfl (by omega) (TB.out.below (below_alloc (Below.refl _ _) _)) (OwnR.of_row (World.rowIs_single wr q)) (by omega) (by simp) (Nat.le_refl _) (fun h => by have := (TB.out.rows _ h).2.1; omega) (fun h => by have := (TB.out.top _ h).2; omega) (by omega) ((Below.cell (below_alloc (Below.refl _ _) _) (p := ⟨s + 1 + 1 + 1, 0, none⟩) hgl).trans CGR.out) NB.out.1 NB.out.2 hfit.out).mono ?_; rintro e w9 ⟨⟨u, rfl⟩, ho9, v9, R9, hv9, hR9, ht9⟩; have HO9 := Lib.hid ho9; have HV9 := Lib.hid hv9; have HR9 := Lib.hid hR9; have HT9 := Lib.hid ht9; clear ho9 hv9 hR9 ht9)
      go_roundw
      case rel =>
        refine ⟨q + 1, v9, R9, by omega, by go_num, ?_, ⟨fun h => ?_, fun h => ?_⟩, ?_⟩
        · exact HO9.out.cell (p := ⟨s + 1 + 1 + 1, 0, none⟩) (fun h => by
            rcases h with h | h
            · have h' : s + 1 + 1 + 1 = s + 1 + 1 := h
              omega
            · exact NB.out.2 h) ((Below.cell (below_alloc (Below.refl _ _) _) (p := ⟨s + 1 + 1 + 1, 0, none⟩) hgl).trans CGR.out)
        · rcases HR9.out _ h with h | h | h
          · exact NB.out.1 h
          · omega
          · simp at h; omega
        · rcases HV9.out _ h with h | h
          · exact NB.out.2 h
          · simp at h; omega
        · rw [circsTo_yes goes_nil]; exact HT9.out
      case measure => simp [intOf]; omega
    · obtain rfl : q = n := by omega
      obtain ⟨G, Cp, _, _, _, _, hM, _⟩ := TB.out
      obtain ⟨a1, c1, rfl, hOT⟩ := hM.slice
      have HRM := Lib.hid (owns_room1 hM.1 rfl)
      have HOT := Lib.hid hOT
      clear hM hOT hcg
      go_wp2_with fail
      go_ret
      have E := circs_begin (n := q) (k := k) (W := W) (by omega)
      have h0 := HS0.out
      have h1 := HS.out
      exact ⟨a1, c1, _, _, by rw [E]; rfl, by rw [E]; exact HRM.out, by rw [E]; exact HOT.out.sub (by omega) (Nat.le_refl _), B00.out.trans (BR.out.mono B00.out.size)⟩
theorem circles_any (n g k : Nat) (W : Nat → Int) (w : World) (hW : IsWants n W) (hk2 : 2 ≤ k) (hkn : k ≤ n) (ha : Rd w (some ⟨g, 0, none⟩) n W) :
    Calls Try.prog 59 #[.slice (some ⟨g, 0, none⟩) n n, .int .i64 (k : Nat)] w (RetTT (circs n W k []) w) :=
  (circlesC_any n g k W w hW hk2 hkn ha).mono fun e w' ⟨a1, c1, A1, C1, h1, _, h2, h3⟩ => ⟨a1, c1, A1, C1, h1, h2, h3⟩
end Go.Proofs.Ytamglhpgdaoaoaa
