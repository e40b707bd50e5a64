/- The walk of the law FnBidBest: it answers true at every code that can be read. -/
import Derived.Test.YtopoeeahociohaaDrawBidBest
import Derived.Test.YtopoeeahociohaaBidBestF
import Derived.Test.YtopoeeahociohaaSpecBidBest
import Derived.Test.YtopoeeahociohaaFnBidModel
import Derived.Test.YtopoeeahociohaaGrid
import Derived.Test.YtopoeeahociohaaInfoInts
namespace Go.Proofs.Ytopoeeahociohaa
set_option linter.unusedVariables false
open Go.RowKit

set_option maxHeartbeats 3200000 in
theorem fnBidBest_walk (n c : Nat) (a : Option Addr) (B : Nat → Nat) (w : World) (hc : n ≤ c) (hb : RdB w a n B) (hab : 0 < n → ∀ b o, a = some ⟨b, o, none⟩ → b < w.heap.size) :
    Calls Try.prog 12 #[.slice a n c] w fun e w' => e = .returned (.bool true) ∧ Below w.heap.size w w' := by
  by_cases hfit : n ≤ 1048576
  · have hd : ¬ (1048576 < n) := by omega
    have HD := Lib.hid (drawBidBest_any n c a B w hfit hc hb hab)
    clear hb hab
    go_enter Try.func12, Try.ntmps12
    go_wp2_with fail
    refine HD.out.mono ?_
    rintro e w1 ⟨ga, N, gc, A, L, C, Z, rfl, ⟨hN1, hN4, hgc⟩, hL, hT, hb1⟩
    have V1 := Lib.hid hT
    have B1 := Lib.hid hb1
    have hn0 : N ≤ 1048576 := by omega
    have HL := Lib.hid (show ∀ r, r < N → L r ≤ 1048576 from fun r hr => by have := hL r hr; omega)
    clear hL hT hb1 HD
    go_wp2_with fail
    refine (bidBest_any N gc ga A L C Z _ hn0 HL.out V1.out).mono ?_
    rintro e w2 ⟨rfl, hb2⟩
    have V2 := Lib.hid (V1.out.below (Nat.le_refl _) hb2)
    have B2 := Lib.hid (below_chain B1.out hb2)
    clear hb2 B1 V1
    go_wp2_with fail
    refine (specBidBest_any N gc ga A L C Z _ hn0 HL.out V2.out).mono ?_
    rintro e w3 ⟨rfl, hb3⟩
    have V3 := Lib.hid (V2.out.below (Nat.le_refl _) hb3)
    have B3 := Lib.hid (below_chain B2.out hb3)
    clear hb3 B2 V2
    by_cases h : IsBids N L Z
    · have K1 := Lib.hid (tt_of h)
      obtain ⟨l, hl⟩ : ∃ l, l = L 0 := ⟨_, rfl⟩
      have hm1 : 1 ≤ l := by rw [hl]; exact h.1.2.1
      have hm4 : l ≤ 4 := by rw [hl]; exact h.1.2.2
      obtain ⟨x, hx⟩ : ∃ x, x = bestV N (L 0) Z := ⟨_, rfl⟩
      have K2 := Lib.hid (show ifT (IsBids N L Z) (bestV N (L 0) Z) = x by rw [hx]; exact ifT_yes h)
      have hT := turn_bids h
      rw [← hl] at hT
      have K3 := Lib.hid (show ifT (IsBids l (fun _ => N) (fun x i => Z i x)) (bestV l ((fun _ => N) 0) (fun x i => Z i x)) = x by rw [hx, ← hl, ← best_swap]; exact ifT_yes hT)
      have K4 := Lib.hid (tt_of hT)
      have HCell := Lib.hid (show ∀ r, r < N → ∀ k, k < l → Z r k ≤ x from fun r hr k hk => by rw [hx, ← hl]; exact best_cell hr hk)
      obtain ⟨b0, o0, rfl, hc0, _⟩ := V3.out 0 hN1
      rw [Nat.add_zero, ← hl] at hc0
      have HC0 := Lib.hid hc0
      have HV := Lib.hid (fun W (hb : Below w3.heap.size w3 W) r (hr : r < N) k (hk : k < l) => show ∃ br or' cr, W.cell? ⟨b0, o0 + r, none⟩ = some (.slice (some ⟨br, or', none⟩) l cr) ∧ W.cell? ⟨br, or' + k, none⟩ = some (.int .i64 (Z r k)) from by
        obtain ⟨b1, o1, e1, hca, hra⟩ := V3.out.below (Nat.le_refl _) hb r hr
        cases e1
        rw [show L r = l from by rw [hl]; exact h.rows r hr] at hca hra
        obtain ⟨br, or', e2, hcx⟩ := hra k hk
        rw [e2] at hca
        exact ⟨br, or', _, hca, hcx⟩)
      obtain ⟨i0, hi, hz0, hz1, hz2⟩ := info_parts Try.infoInt
      obtain ⟨i1, hj, hy0, hy1, hy2⟩ := info_parts Try.infoInts
      have hN0 : (0 : Int) < (N : Int) := by omega
      have G0 := Lib.hid (show Grid 27 3 w3.heap.size 0 N (w3.alloc (.cells #[] 27)) (.slice (some ⟨w3.heap.size, 0, none⟩) 0 0) (fun _ => 0) (fun _ => 0) (fun x i => Z i x) from Grid.start (World.ownsRow_made w3 #[] 0 (Nat.le_refl _) (Nat.zero_le _) (by simp)))
      rw [K1.out, K2.out]
      clear h hl hx hT hc0
      go_wp2
      go_loopw [8, 9] (fun o s wr => ∃ (k : Nat) (v : Value) (G Cp : Nat → Nat), k ≤ l ∧ s = .int .i64 k ∧ v = o ∧ Grid 27 3 w3.heap.size k N wr v G Cp (fun x i => Z i x) ∧ Below w3.heap.size w3 wr) (fun _ s _ => l - (intOf s).toNat)
      case atStart => exact ⟨0, _, _, _, Nat.zero_le _, rfl, rfl, G0.out, below_alloc (Below.refl _ _) _⟩
      case round =>
        obtain ⟨k, v, G, Cp, hk, rfl, rfl, hG, hBw⟩ := hrel
        have HG := Lib.hid hG
        have BW := Lib.hid hBw
        have hc0 := (hBw.cell (p := ⟨b0, o0, none⟩) (World.block_lt_of_cell? _ _ HC0.out)).trans HC0.out
        have hwo := hBw.size
        clear hG hBw G0
        by_cases hkl : k < l
        · have hklz : (k : Int) < (l : Int) := by omega
          obtain ⟨wo, rfl⟩ : ∃ wo : World, wo = wr := ⟨_, rfl⟩
          have R0 := Lib.hid (show (wo.alloc (.cells #[] 3)).ownsRow wo.heap.size 3 1 (.slice (some ⟨wo.heap.size, 0, none⟩) 0 0) 0 (cellsL 0 (fun i => Z i k)) from World.ownsRow_made wo #[] 0 (Nat.le_refl _) (Nat.zero_le _) (by simp))
          go_wp2
          go_loopw [2, 10, 11] (fun _ row s wi => ∃ (i : Nat) (v2 : Value), i ≤ N ∧ s = .int .i64 i ∧ v2 = row ∧ wi.ownsRow wo.heap.size 3 1 v2 i (cellsL i (fun i => Z i k)) ∧ Below wo.heap.size wo wi) (fun _ _ s _ => N - (intOf s).toNat)
          case atStart => exact ⟨0, _, Nat.zero_le _, rfl, rfl, R0.out, below_alloc (Below.refl _ _) _⟩
          case round =>
            obtain ⟨i, v2, hiN, rfl, rfl, hO, hBi⟩ := hrel
            have HO := Lib.hid hO
            have BI := Lib.hid hBi
            have B3i := Lib.hid (BW.out.trans (hBi.mono hwo))
            have hszi := hBi.size
            clear hO hBi R0
            by_cases hil : i < N
            · obtain ⟨br, or', cr, hca, hcx⟩ := HV.out wr B3i.out i hil k hkl
              obtain ⟨u, hu⟩ : ∃ u, u = Z i k := ⟨_, rfl⟩
              have hux := HCell.out i hil k hkl
              rw [← hu] at hcx hux
              have EX := Lib.hid (cellsL_next (X := fun i => Z i k) i (x := u) hu.symm)
              have hiNz : (i : Int) < (N : Int) := by omega
              have HCA := Lib.hid (And.intro hca hcx)
              have d1 : decide (u > x) = false := by simp; omega
              clear hu hux
              go_wp2_with (at_builtin; refine wpList_append_gen _ (by rfl) (.tmp 65) (.tmp 73) 27 (by rfl) wo.heap.size 3 i0 (.int .i64 0) 8 Try.underlying27 hi hz0 hz1 hz2 (by rfl) v2 i _ (by rfl) (HO.out.alloc _) ⟨_, 0, none⟩ 1 1 [.int .i64 u] (by rfl) (by rfl) (news_one (by simp)) (by simp [Value.oneCell']) (by unfold maxLen; omega) (by omega) (by simp; omega) ?_; intro v3 w6 hown6 hgrow6 hat6; have O6 := Lib.hid hown6; have B6 := Lib.hid ((below_alloc BI.out (.cells #[.int .i64 u] 3)).grown hgrow6 (by simp; omega) (fun y hy => (HO.out.lt y hy).1)); have hca6 := (((below_alloc (Below.refl wr.heap.size wr) (.cells #[.int .i64 u] 3)).cell (p := ⟨b0, o0 + i, none⟩) (World.block_lt_of_cell? _ _ HCA.out.1)).trans HCA.out.1); have hq1 := hgrow6.cell hca6 (fun e => by have := (HO.out.lt b0 e.symm).1; have := World.block_lt_of_cell? _ _ HC0.out; simp at this; omega); have hq2 := hgrow6.cell (((below_alloc (Below.refl wr.heap.size wr) (.cells #[.int .i64 u] 3)).cell (p := ⟨br, or' + k, none⟩) (World.block_lt_of_cell? _ _ HCA.out.2)).trans HCA.out.2) (fun e => by have := (HO.out.lt br e.symm).1; obtain ⟨br', or'', cr', h1, h2⟩ := HV.out w3 (Below.refl _ _) i hil k hkl; have h3 := (B3i.out.cell (p := ⟨b0, o0 + i, none⟩) (World.block_lt_of_cell? _ _ h1)).trans h1; rw [HCA.out.1] at h3; cases h3; have := World.block_lt_of_cell? _ _ h2; simp at this; omega); clear hown6 hgrow6 hat6 hca6 hca hcx)
              go_roundw
              case rel => exact ⟨i + 1, v3, by omega, by go_num, rfl, by rw [← EX.out]; exact O6.out, B6.out⟩
              case measure => simp [intOf]; omega
            · obtain rfl : i = N := by omega
              obtain ⟨g, cap, rfl⟩ := owns_form HO.out (by omega)
              have hgl := HO.out.lt g rfl
              have HGw := Lib.hid (HG.out.below BI.out)
              have HOl := Lib.hid (owns_base HO.out hwo)
              have HVv := Lib.hid (fun y hy => HG.out.top.lt y hy)
              have HVr := Lib.hid (fun s (hs : s < k) => (HG.out.row s hs).lt (G s) rfl)
              go_wp2_with (at_builtin; refine wpList_append_gen _ (by rfl) (.tmp 84) (.tmp 86) 22 (by rfl) w3.heap.size 27 i1 (.slice none 0 0) 24 Try.underlying22 hj hy0 hy1 hy2 (by rfl) v k _ (by rfl) (HGw.out.below (below_alloc (Below.refl _ _) _)).top ⟨_, 0, none⟩ 1 1 [.slice (some ⟨g, 0, none⟩) i cap] (by rfl) (by rfl) (news_one (by simp)) (by simp [Value.oneCell']) (by unfold maxLen; omega) (by omega) (by simp; omega) ?_; intro v3 w6 hown6 hgrow6 hat6; have O6 := Lib.hid hown6; have G6 := Lib.hid hgrow6; have A6 := Lib.hid hat6; clear hown6 hgrow6 hat6)
              go_roundw
              case rel =>
                have PP := (HGw.out.below (below_alloc (Below.refl wr.heap.size wr) (.cells #[.slice (some ⟨g, 0, none⟩) i cap] 27))).next (owns_blocks HOl.out fun y hy => by
                  have : g = y := Option.some.inj hy
                  subst this
                  exact Below.heap_alloc _ _ _ hgl.2) (fun h => by have := (HVv.out g h).2; omega) (fun s hs h => by have := (HVr.out s hs).2; omega) O6.out G6.out A6.out
                refine ⟨k + 1, v3, _, _, by omega, by go_num, rfl, ⟨PP.top, fun r hr => ?_, PP.far, PP.inj⟩, (below_alloc B3i.out _).grown G6.out (by simp; omega) (fun y hy => (HVv.out y hy).1)⟩
                have hr1 := PP.row r hr
                by_cases e : r < k
                · simp only [if_pos e] at hr1 ⊢; exact hr1
                · obtain rfl : r = k := by omega
                  simp only [if_neg e] at hr1 ⊢; exact hr1
              case measure => simp [intOf]; omega
        · obtain rfl : l = k := by omega
          obtain ⟨g, cap, rfl⟩ := owns_form HG.out.top (by omega)
          have HT := Lib.hid (HG.out.tab rfl)
          go_wp2_with (go_at_call 25; refine (bidBest_any l cap (some ⟨g, 0, none⟩) _ (fun _ => N) Cp (fun x i => Z i x) wr (by omega) (fun r hr => by show N ≤ _; omega) HT.out).mono ?_; rintro e w7 ⟨rfl, hb7⟩; rw [K3.out, K4.out]; have B7 := Lib.hid (below_chain B3.out (below_chain BW.out hb7)); clear hb7)
          go_ret
          exact ⟨rfl, B7.out⟩
    · have K1 := Lib.hid (tt_no h)
      rw [K1.out, ifT_no h]
      clear h
      go_wp2_with fail
      go_ret
      exact ⟨rfl, B3.out⟩
  · have hd : 1048576 < n := by omega
    clear hb hab
    go_enter Try.func12, Try.ntmps12
    go_wp2
    go_ret
    exact ⟨rfl, Below.refl _ _⟩
end Go.Proofs.Ytopoeeahociohaa
