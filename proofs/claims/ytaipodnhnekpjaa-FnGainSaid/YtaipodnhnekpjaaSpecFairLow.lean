/- The model's FairLow and FairHigh. -/
import Derived.Test.YtaipodnhnekpjaaFairAns
import Derived.Test.YtaipodnhnekpjaaSpecBidIn
import Derived.Test.YtaipodnhnekpjaaL7Most
import Derived.Test.YtaipodnhnekpjaaL7First
import Derived.Test.YtaipodnhnekpjaaFnBidModel
/- The model's FairLow. -/
namespace Go.Proofs.Ytaipodnhnekpjaa
set_option linter.unusedVariables false
set_option linter.unusedSimpArgs false
open Go.RowKit

set_option maxRecDepth 100000 in
set_option maxHeartbeats 1600000 in
theorem specFairLow_any (n c : Nat) (a : Option Addr) (A : Nat → Option Addr) (L C : Nat → Nat) (Z : Nat → Nat → Int) (w : World) (hn0 : n ≤ 1048576) (hL0 : ∀ r, r < n → L r ≤ 1048576) (ha0 : Tab w a n A L C Z) :
    Calls Try.prog 24 #[.slice a n c] w (RetIB (tt (IsBids n L Z)) (itemsN n L Z) (lowP n (L 0) Z) w) := by
  obtain ⟨i0, hi, hz0, hz1, hz2⟩ := info_parts Try.infoInt
  have H := Lib.hid (fun w' (hb : Below w.heap.size w w') => specBidIn_any n c a A L C Z w' hn0 hL0 (ha0.below (Nat.le_refl _) hb))
  have O0 := Lib.hid (show (w.alloc (.cells #[] 3)).ownsRow w.heap.size 3 1 (.slice (some ⟨w.heap.size, 0, none⟩) 0 0) 0 (cellsL 0 (lowP n (L 0) Z)) from World.ownsRow_made w #[] 0 (Nat.le_refl _) (Nat.zero_le _) (by simp))
  by_cases h1 : IsBids n L Z
  · have T1 := Lib.hid (tt_of h1)
    have T2 := Lib.hid (itemsN_yes h1)
    have hn4 := h1.1.1.2
    have HI := Lib.hid (fun w' k (hk : k < L 0) (hb : Below w.heap.size w w') => l7Items_any n c (L 0) k a A L C Z 2 w' h1.1.1.1 rfl h1.1.2.1 h1.1.2.2 (by have := h1.1.2.2; omega) (ha0.below (Nat.le_refl _) hb))
    have HM := Lib.hid (fun w' k g cap (hk : k < L 0) (hb : Below w.heap.size w w') (hr : Rd w' (some ⟨g, 0, none⟩) (L 0) (itemsX k 2)) => show Calls Try.prog 55 #[.slice a n c, .slice (some ⟨g, 0, none⟩) (L 0) cap, .int .i64 (-1)] w' fun e w2 => e = .returned (.int .i64 (twiceV n (L 0) Z k)) ∧ Below w'.heap.size w' w2 from by
      have h := l7Most_any n c (L 0) cap a (some ⟨g, 0, none⟩) A L C Z (itemsX k 2) (-1) w' h1.1.1.2 h1.1.2.1 h1.1.2.2 (.inl rfl) h1.rows h1.cells (items_range (by omega)) (ha0.below (Nat.le_refl _) hb) hr
      rw [keepW_all (n := n) (Z := Z)] at h
      exact h)
    have HB := Lib.hid (fun w' (hb : Below w.heap.size w w') => l7Best_any n c a A L C Z w' h1 (ha0.below (Nat.le_refl _) hb))
    have HR := Lib.hid (fun k (hk : k < L 0) => (show (0 ≤ twiceV n (L 0) Z k ∧ twiceV n (L 0) Z k ≤ 80) ∧ 0 ≤ bestV n (L 0) Z ∧ bestV n (L 0) Z ≤ 80 from ⟨twice_range h1 hk, best_range h1⟩))
    have HE := Lib.hid (fun k => show lowP n (L 0) Z k = twiceV n (L 0) Z k - bestV n (L 0) Z from rfl)
    obtain ⟨ba, oa, rfl, hc0, _⟩ := ha0 0 h1.1.1.1
    rw [Nat.add_zero] at hc0
    have HC0 := Lib.hid hc0
    have hm4 := h1.1.2.2
    have hm1 := h1.1.2.1
    have hn1 := h1.1.1.1
    obtain ⟨m, hm⟩ : ∃ m, m = L 0 := ⟨_, rfl⟩
    rw [← hm] at HI HM HB HR HE HC0 T2 O0 hm4 hm1 ⊢
    obtain ⟨b, hb⟩ : ∃ b, b = bestV n m Z := ⟨_, rfl⟩
    rw [← hb] at HB HR
    have HE2 := Lib.hid (fun k => show lowP n m Z k = twiceV n (m) Z k - b from by rw [hb]; exact HE.out k)
    have hn0' : (0 : Int) < (n : Int) := by omega
    clear h1 ha0 hc0 hm hb HE
    go_enter Try.func24, Try.ntmps24
    go_wp2_with (go_at_call 45; refine (H.out _ (below_alloc (Below.refl _ _) _)).mono ?_; rintro e' w1 ⟨rfl, hb⟩; rw [T1.out]; have O1 := Lib.hid (O0.out.below_row hb); have B1 := Lib.hid ((below_alloc (Below.refl w.heap.size w) (.cells #[] 3)).trans (hb.mono (by simp))); clear hb)
    go_loopw [4, 5] (fun o x wr => ∃ (k : Nat) (v : Value), k ≤ m ∧ x = .int .i64 k ∧ v = o ∧ wr.ownsRow w.heap.size 3 1 v k (cellsL k (lowP n m Z)) ∧ Below w.heap.size w wr) (fun _ x _ => m - (intOf x).toNat)
    case atStart => exact ⟨0, _, Nat.zero_le _, rfl, rfl, O1.out, B1.out⟩
    case round =>
      obtain ⟨k, v, hk, rfl, rfl, hO, hB⟩ := hrel
      have HO := Lib.hid hO
      have HBw := Lib.hid hB
      have hc0 := (hB.cell (p := ⟨ba, oa, none⟩) (World.block_lt_of_cell? _ _ HC0.out)).trans HC0.out
      have hsz := hB.size
      clear hO hB O0 O1
      by_cases hlt : k < m
      · obtain ⟨hr1, hr2⟩ := HR.out k hlt
        obtain ⟨y, hy⟩ : ∃ y, y = twiceV n m Z k := ⟨_, rfl⟩
        rw [← hy] at hr1
        have HMk := Lib.hid (fun w' g cap (hb : Below w.heap.size w w') (hr : Rd w' (some ⟨g, 0, none⟩) m (itemsX k 2)) => HM.out w' k g cap hlt hb hr)
        rw [← hy] at HMk
        have hw1 : IntKind.i64.wrap (y - b) = y - b := by rw [IntKind.wrap_i64]; omega
        have EX := Lib.hid (cellsL_next (X := lowP n m Z) k (x := y - b) (by rw [HE2.out, ← hy]))
        clear hy
        go_wp2_with (first
          | (go_at_call 56; refine (HI.out _ k hlt HBw.out).mono ?_; rintro e' w2 ⟨gi, ci, rfl, hg, hO2, hb⟩; have RI := Lib.hid hO2.rd; have HO2 := Lib.hid (HO.out.below_row hb); have B2 := Lib.hid (HBw.out.trans (hb.mono HBw.out.size)); clear hg hO2 hb)
          | (go_at_call 55; refine (HMk.out _ _ _ B2.out RI.out).mono ?_; rintro e' w3 ⟨rfl, hb⟩; have HO3 := Lib.hid (HO2.out.below_row hb); have B3 := Lib.hid (B2.out.trans (hb.mono B2.out.size)); clear hb)
          | (go_at_call 57; refine (HB.out _ B3.out).mono ?_; rintro e' w4 ⟨rfl, hb⟩; have HO4 := Lib.hid (HO3.out.below_row hb); have B4 := Lib.hid (B3.out.trans (hb.mono B3.out.size)); clear hb)
          | (at_builtin; refine wpList_append_gen _ (by rfl) (.tmp 19) (.tmp 28) 23 (by rfl) w.heap.size 3 i0 (.int .i64 0) 8 Try.underlying23 hi hz0 hz1 hz2 (by rfl) v k _ (by rfl) (HO4.out.alloc _) ⟨_, 0, none⟩ 1 1 [.int .i64 (y - b)] (by rfl) (by rfl) (news_one (by simp)) (by simp [Value.oneCell']) (by unfold maxLen; omega) (by omega) (by have := B4.out.size; simp; omega) ?_; intro v2 w5 hown2 hgrow2 hat2; have O5 := Lib.hid hown2; have B5 := Lib.hid ((below_alloc B4.out _).grown hgrow2 (by have := B4.out.size; simp; omega) (fun x hx => (HO.out.lt x hx).1)); clear hown2 hgrow2 hat2))
        go_roundw
        case rel => exact ⟨k + 1, v2, by omega, by go_num, rfl, by rw [← EX.out]; exact O5.out, B5.out⟩
        case measure => simp [intOf]; omega
      · obtain rfl : k = m := by omega
        clear hk
        go_wp2
        go_ret2
        rw [T1.out, T2.out]
        by_cases hk0 : 0 < k
        · obtain ⟨g, cap, rfl⟩ := owns_form HO.out hk0
          have hlt := HO.out.lt g rfl
          exact ⟨_, _, rfl, .inr ⟨g, hlt.1, hlt.2, OwnR.of_owns HO.out⟩, HBw.out⟩
        · obtain rfl : k = 0 := by omega
          omega
  · have T1 := Lib.hid (tt_no h1)
    have T2 := Lib.hid (itemsN_no h1)
    clear h1 ha0
    go_enter Try.func24, Try.ntmps24
    go_wp2_with (go_at_call 45; refine (H.out _ (below_alloc (Below.refl _ _) _)).mono ?_; rintro e' w1 ⟨rfl, hb⟩; rw [T1.out]; have O1 := Lib.hid (O0.out.below_row hb); have B1 := Lib.hid ((below_alloc (Below.refl w.heap.size w) (.cells #[] 3)).trans (hb.mono (by simp))); clear hb)
    go_ret2
    rw [T1.out, T2.out]
    exact ⟨_, _, rfl, .inl rfl, B1.out⟩
end Go.Proofs.Ytaipodnhnekpjaa

/- The model's FairHigh. -/
namespace Go.Proofs.Ytaipodnhnekpjaa
set_option linter.unusedVariables false
set_option linter.unusedSimpArgs false
open Go.RowKit

set_option maxRecDepth 100000 in
set_option maxHeartbeats 1600000 in
theorem specFairHigh_any (n c : Nat) (a : Option Addr) (A : Nat → Option Addr) (L C : Nat → Nat) (Z : Nat → Nat → Int) (w : World) (hn0 : n ≤ 1048576) (hL0 : ∀ r, r < n → L r ≤ 1048576) (ha0 : Tab w a n A L C Z) :
    Calls Try.prog 29 #[.slice a n c] w (RetIB (tt (IsBids n L Z)) (itemsN n L Z) (highP n (L 0) Z) w) := by
  obtain ⟨i0, hi, hz0, hz1, hz2⟩ := info_parts Try.infoInt
  have H := Lib.hid (fun w' (hb : Below w.heap.size w w') => specBidIn_any n c a A L C Z w' hn0 hL0 (ha0.below (Nat.le_refl _) hb))
  have O0 := Lib.hid (show (w.alloc (.cells #[] 3)).ownsRow w.heap.size 3 1 (.slice (some ⟨w.heap.size, 0, none⟩) 0 0) 0 (cellsL 0 (highP n (L 0) Z)) from World.ownsRow_made w #[] 0 (Nat.le_refl _) (Nat.zero_le _) (by simp))
  by_cases h1 : IsBids n L Z
  · have T1 := Lib.hid (tt_of h1)
    have T2 := Lib.hid (itemsN_yes h1)
    have hn4 := h1.1.1.2
    have HI := Lib.hid (fun w' k (hk : k < L 0) (hb : Below w.heap.size w w') => l7Items_any n c (L 0) k a A L C Z 0 w' h1.1.1.1 rfl h1.1.2.1 h1.1.2.2 (by have := h1.1.2.2; omega) (ha0.below (Nat.le_refl _) hb))
    have HM := Lib.hid (fun w' k g cap (hk : k < L 0) (hb : Below w.heap.size w w') (hr : Rd w' (some ⟨g, 0, none⟩) (L 0) (itemsX k 0)) => show Calls Try.prog 55 #[.slice a n c, .slice (some ⟨g, 0, none⟩) (L 0) cap, .int .i64 (-1)] w' fun e w2 => e = .returned (.int .i64 (lessV n (L 0) Z k)) ∧ Below w'.heap.size w' w2 from by
      have h := l7Most_any n c (L 0) cap a (some ⟨g, 0, none⟩) A L C Z (itemsX k 0) (-1) w' h1.1.1.2 h1.1.2.1 h1.1.2.2 (.inl rfl) h1.rows h1.cells (items_range (by omega)) (ha0.below (Nat.le_refl _) hb) hr
      rw [keepW_all (n := n) (Z := Z)] at h
      exact h)
    have HB := Lib.hid (fun w' (hb : Below w.heap.size w w') => l7Best_any n c a A L C Z w' h1 (ha0.below (Nat.le_refl _) hb))
    have HR := Lib.hid (fun k (hk : k < L 0) => (show (0 ≤ lessV n (L 0) Z k ∧ lessV n (L 0) Z k ≤ 80) ∧ 0 ≤ bestV n (L 0) Z ∧ bestV n (L 0) Z ≤ 80 from ⟨⟨(less_range0 h1 hk).1, by have := less_range0 h1 hk; have := best_range h1; omega⟩, best_range h1⟩))
    have HE := Lib.hid (fun k => show highP n (L 0) Z k = bestV n (L 0) Z - lessV n (L 0) Z k from rfl)
    obtain ⟨ba, oa, rfl, hc0, _⟩ := ha0 0 h1.1.1.1
    rw [Nat.add_zero] at hc0
    have HC0 := Lib.hid hc0
    have hm4 := h1.1.2.2
    have hm1 := h1.1.2.1
    have hn1 := h1.1.1.1
    obtain ⟨m, hm⟩ : ∃ m, m = L 0 := ⟨_, rfl⟩
    rw [← hm] at HI HM HB HR HE HC0 T2 O0 hm4 hm1 ⊢
    obtain ⟨b, hb⟩ : ∃ b, b = bestV n m Z := ⟨_, rfl⟩
    rw [← hb] at HB HR
    have HE2 := Lib.hid (fun k => show highP n m Z k = b - lessV n (m) Z k from by rw [hb]; exact HE.out k)
    have hn0' : (0 : Int) < (n : Int) := by omega
    clear h1 ha0 hc0 hm hb HE
    go_enter Try.func29, Try.ntmps29
    go_wp2_with (go_at_call 45; refine (H.out _ (below_alloc (Below.refl _ _) _)).mono ?_; rintro e' w1 ⟨rfl, hb⟩; rw [T1.out]; have O1 := Lib.hid (O0.out.below_row hb); have B1 := Lib.hid ((below_alloc (Below.refl w.heap.size w) (.cells #[] 3)).trans (hb.mono (by simp))); clear hb)
    go_loopw [4, 5] (fun o x wr => ∃ (k : Nat) (v : Value), k ≤ m ∧ x = .int .i64 k ∧ v = o ∧ wr.ownsRow w.heap.size 3 1 v k (cellsL k (highP n m Z)) ∧ Below w.heap.size w wr) (fun _ x _ => m - (intOf x).toNat)
    case atStart => exact ⟨0, _, Nat.zero_le _, rfl, rfl, O1.out, B1.out⟩
    case round =>
      obtain ⟨k, v, hk, rfl, rfl, hO, hB⟩ := hrel
      have HO := Lib.hid hO
      have HBw := Lib.hid hB
      have hc0 := (hB.cell (p := ⟨ba, oa, none⟩) (World.block_lt_of_cell? _ _ HC0.out)).trans HC0.out
      have hsz := hB.size
      clear hO hB O0 O1
      by_cases hlt : k < m
      · obtain ⟨hr1, hr2⟩ := HR.out k hlt
        obtain ⟨y, hy⟩ : ∃ y, y = lessV n m Z k := ⟨_, rfl⟩
        rw [← hy] at hr1
        have HMk := Lib.hid (fun w' g cap (hb : Below w.heap.size w w') (hr : Rd w' (some ⟨g, 0, none⟩) m (itemsX k 0)) => HM.out w' k g cap hlt hb hr)
        rw [← hy] at HMk
        have hw1 : IntKind.i64.wrap (b - y) = b - y := by rw [IntKind.wrap_i64]; omega
        have EX := Lib.hid (cellsL_next (X := highP n m Z) k (x := b - y) (by rw [HE2.out, ← hy]))
        clear hy
        go_wp2_with (first
          | (go_at_call 56; refine (HI.out _ k hlt B4.out).mono ?_; rintro e' w2 ⟨gi, ci, rfl, hg, hO2, hb⟩; have RI := Lib.hid hO2.rd; have HO2 := Lib.hid (HO4.out.below_row hb); have B2 := Lib.hid (B4.out.trans (hb.mono B4.out.size)); clear hg hO2 hb)
          | (go_at_call 55; refine (HMk.out _ _ _ B2.out RI.out).mono ?_; rintro e' w3 ⟨rfl, hb⟩; have HO3 := Lib.hid (HO2.out.below_row hb); have B3 := Lib.hid (B2.out.trans (hb.mono B2.out.size)); clear hb)
          | (go_at_call 57; refine (HB.out _ HBw.out).mono ?_; rintro e' w4 ⟨rfl, hb⟩; have HO4 := Lib.hid (HO.out.below_row hb); have B4 := Lib.hid (HBw.out.trans (hb.mono HBw.out.size)); clear hb)
          | (at_builtin; refine wpList_append_gen _ (by rfl) (.tmp 19) (.tmp 28) 23 (by rfl) w.heap.size 3 i0 (.int .i64 0) 8 Try.underlying23 hi hz0 hz1 hz2 (by rfl) v k _ (by rfl) (HO3.out.alloc _) ⟨_, 0, none⟩ 1 1 [.int .i64 (b - y)] (by rfl) (by rfl) (news_one (by simp)) (by simp [Value.oneCell']) (by unfold maxLen; omega) (by omega) (by have := B3.out.size; simp; omega) ?_; intro v2 w5 hown2 hgrow2 hat2; have O5 := Lib.hid hown2; have B5 := Lib.hid ((below_alloc B3.out _).grown hgrow2 (by have := B3.out.size; simp; omega) (fun x hx => (HO.out.lt x hx).1)); clear hown2 hgrow2 hat2))
        go_roundw
        case rel => exact ⟨k + 1, v2, by omega, by go_num, rfl, by rw [← EX.out]; exact O5.out, B5.out⟩
        case measure => simp [intOf]; omega
      · obtain rfl : k = m := by omega
        clear hk
        go_wp2
        go_ret2
        rw [T1.out, T2.out]
        by_cases hk0 : 0 < k
        · obtain ⟨g, cap, rfl⟩ := owns_form HO.out hk0
          have hlt := HO.out.lt g rfl
          exact ⟨_, _, rfl, .inr ⟨g, hlt.1, hlt.2, OwnR.of_owns HO.out⟩, HBw.out⟩
        · obtain rfl : k = 0 := by omega
          omega
  · have T1 := Lib.hid (tt_no h1)
    have T2 := Lib.hid (itemsN_no h1)
    clear h1 ha0
    go_enter Try.func29, Try.ntmps29
    go_wp2_with (go_at_call 45; refine (H.out _ (below_alloc (Below.refl _ _) _)).mono ?_; rintro e' w1 ⟨rfl, hb⟩; rw [T1.out]; have O1 := Lib.hid (O0.out.below_row hb); have B1 := Lib.hid ((below_alloc (Below.refl w.heap.size w) (.cells #[] 3)).trans (hb.mono (by simp))); clear hb)
    go_ret2
    rw [T1.out, T2.out]
    exact ⟨_, _, rfl, .inl rfl, B1.out⟩
end Go.Proofs.Ytaipodnhnekpjaa
