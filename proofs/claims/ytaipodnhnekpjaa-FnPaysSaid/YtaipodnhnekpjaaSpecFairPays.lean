/- The model's FairPays. -/
import Derived.Test.YtaipodnhnekpjaaFairAns
import Derived.Test.YtaipodnhnekpjaaSpecBidIn
import Derived.Test.YtaipodnhnekpjaaL7Most
import Derived.Test.YtaipodnhnekpjaaL7First
import Derived.Test.YtaipodnhnekpjaaFnBidModel
namespace Go.Proofs.Ytaipodnhnekpjaa
set_option linter.unusedVariables false
set_option linter.unusedSimpArgs false
open Go.RowKit

theorem ownsRow_drewN {w : World} {base e n : Nat} {v : Value} {xs : List Value} (h : w.ownsRow base e 1 v n xs) (q : Nat) : (w.drewN q).ownsRow base e 1 v n xs := h.below_row (below_drewN (Below.refl _ _) q)

set_option maxRecDepth 100000 in
set_option maxHeartbeats 3200000 in
theorem specFairPays_any (n c : Nat) (a : Option Addr) (A : Nat → Option Addr) (L C : Nat → Nat) (Z : Nat → Nat → Int) (w : World) (hn0 : n ≤ 1048576) (hL0 : ∀ r, r < n → L r ≤ 1048576) (ha0 : Tab w a n A L C Z) :
    Calls Try.prog 31 #[.slice a n c] w (RetIB (tt (IsBids n L Z)) (firstN n L Z) (payB n (L 0) Z (nth (firstD n (L 0) Z))) w) := by
  obtain ⟨i0, hi, hz0, hz1, hz2⟩ := info_parts Try.infoInt
  have H := Lib.hid (fun w' (hb : Below w.heap.size w w') => specBidIn_any n c a A L C Z w' hn0 hL0 (ha0.below (Nat.le_refl _) hb))
  have O0 := Lib.hid (show (w.alloc (.cells #[] 3)).ownsRow w.heap.size 3 1 (.slice (some ⟨w.heap.size, 0, none⟩) 0 0) 0 (cellsL 0 (payB n (L 0) Z (nth (firstD n (L 0) Z)))) from World.ownsRow_made w #[] 0 (Nat.le_refl _) (Nat.zero_le _) (by simp))
  by_cases h1 : IsBids n L Z
  · have T1 := Lib.hid (tt_of h1)
    have T2 := Lib.hid (firstN_yes h1)
    have hn4 := h1.1.1.2
    have hn1 := h1.1.1.1
    have hm4 := h1.1.2.2
    have HI := Lib.hid (fun w' (hb : Below w.heap.size w w') => l7Items_any n c (L 0) 0 a A L C Z 1 w' h1.1.1.1 rfl h1.1.2.1 h1.1.2.2 (by omega) (ha0.below (Nat.le_refl _) hb))
    have HM := Lib.hid (fun w' k g cap (hk : k < n) (hb : Below w.heap.size w w') (hr : Rd w' (some ⟨g, 0, none⟩) (L 0) (itemsX 0 1)) => show Calls Try.prog 55 #[.slice a n c, .slice (some ⟨g, 0, none⟩) (L 0) cap, .int .i64 (k : Nat)] w' fun e w2 => e = .returned (.int .i64 (withoutV n (L 0) Z k)) ∧ Below w'.heap.size w' w2 from by
      have h := l7Most_any n c (L 0) cap a (some ⟨g, 0, none⟩) A L C Z (itemsX 0 1) (k : Nat) w' h1.1.1.2 h1.1.2.1 h1.1.2.2 (.inr ⟨by omega, by omega⟩) h1.rows h1.cells (items_range (by omega)) (ha0.below (Nat.le_refl _) hb) hr
      rw [keepW_at] at h
      exact h)
    have HB := Lib.hid (fun w' (hb : Below w.heap.size w w') => l7Best_any n c a A L C Z w' h1 (ha0.below (Nat.le_refl _) hb))
    have HF := Lib.hid (fun w' (hb : Below w.heap.size w w') => l7First_any n c a A L C Z w' h1 (ha0.below (Nat.le_refl _) hb))
    have HR := Lib.hid (fun k (hk : k < n) => (show (0 ≤ withoutV n (L 0) Z k ∧ withoutV n (L 0) Z k ≤ 80) ∧ 0 ≤ bestV n (L 0) Z ∧ bestV n (L 0) Z ≤ 80 from ⟨⟨mostT_nonneg _, by have := without_le (m := L 0) (Z := Z) hk; have := best_range h1; omega⟩, best_range h1⟩))
    have HD := Lib.hid ((firstD_is h1).1.1)
    have HL := Lib.hid h1.rows
    have HZ := Lib.hid h1.cells
    have HA := Lib.hid ha0
    obtain ⟨m, hm⟩ : ∃ m, m = L 0 := ⟨_, rfl⟩
    rw [← hm] at HI HM HB HF HR HD HL HZ O0 hm4 ⊢
    have HPB := Lib.hid (fun k => show payB n m Z (nth (firstD n m Z)) k = withoutV n m Z k - (bestV n m Z - if nth (firstD n m Z) k = -1 then 0 else Z k (nth (firstD n m Z) k).toNat) from rfl)
    obtain ⟨D, hD⟩ : ∃ D, D = nth (firstD n m Z) := ⟨_, rfl⟩
    obtain ⟨b, hb⟩ : ∃ b, b = bestV n m Z := ⟨_, rfl⟩
    rw [← hb] at HB HR HPB
    rw [← hD] at HD HPB O0 ⊢
    have QD := Lib.hid hD
    clear h1 ha0 hm hb hD
    go_enter Try.func31, Try.ntmps31
    go_wp2_with (go_at_call 45; refine (H.out _ (below_alloc (Below.refl _ _) _)).mono ?_; rintro e' w1 ⟨rfl, hb⟩; rw [T1.out]; have O1 := Lib.hid (O0.out.below_row hb); have B1 := Lib.hid ((below_alloc (Below.refl w.heap.size w) (.cells #[] 3)).trans (hb.mono (by simp))); have S1 := Lib.hid (show w.heap.size < w1.heap.size by have := hb.size; simp at this; omega); clear hb)
    refine (HF.out _ B1.out).mono ?_
    rintro e w2 ⟨v, l, G, Cp, rfl, hown, hrow, hl, hb⟩
    have hp : 0 < l.length := by
      have := bests_pos (Z := Z) (dealsP_none (m := m) n)
      rw [← hl, List.length_map] at this
      exact this
    obtain ⟨g, cap, rfl⟩ := owns_form hown hp
    have hin : l.getD 0 0 ∈ l := getD_in hp
    have hck := hown.cells (g := g) rfl 0 (encB n G Cp (l.getD 0 0)) (by simp [List.getD_eq_getElem?_getD, hp])
    rw [Go.WideShapes.add_plain, Nat.zero_add] at hck
    unfold encB at hck
    obtain ⟨k1, k2, k3⟩ := hrow _ hin
    have e0 : firstD n m Z = rowD m n (l.getD 0 0) := by
      unfold firstD
      rw [← hl]
      simp [List.getD_eq_getElem?_getD, hp]
    rw [← e0, ← QD.out] at k3
    obtain ⟨gd, hgd⟩ : ∃ gd, gd = G (l.getD 0 0) := ⟨_, rfl⟩
    obtain ⟨cd, hcd⟩ : ∃ cd, cd = Cp (l.getD 0 0) := ⟨_, rfl⟩
    rw [← hgd] at k1 k2 k3 hck
    rw [← hcd] at hck
    have HDR := Lib.hid (And.intro k1 (And.intro k2 k3))
    have O2 := Lib.hid (O1.out.below_row hb)
    have B2 := Lib.hid (B1.out.trans (hb.mono B1.out.size))
    have S2 := Lib.hid hb.size
    obtain ⟨M, hM⟩ : ∃ M, M = l.length := ⟨_, rfl⟩
    rw [← hM] at hp ⊢
    have hz : (0 : Int) < (M : Int) := by omega
    clear hown hrow hl hb hin k1 k2 k3 e0 hM HF hgd hcd O0 O1
    go_wp2
    go_loopw [4, 6, 7] (fun o x _ wr => ∃ (k : Nat) (v : Value), k ≤ n ∧ x = .int .i64 k ∧ v = o ∧ wr.ownsRow w.heap.size 3 1 v k (cellsL k (payB n m Z D)) ∧ (∀ x, v.ownBlock = some x → x = w.heap.size ∨ w2.heap.size ≤ x) ∧ (∀ x, w1.heap.size ≤ x → x < w2.heap.size → wr.heap[x]? = w2.heap[x]?) ∧ w2.heap.size ≤ wr.heap.size ∧ Below w.heap.size w wr) (fun _ x _ _ => n - (intOf x).toNat)
    case atStart => exact ⟨0, _, Nat.zero_le _, rfl, rfl, O2.out, fun x hx => .inl (Option.some.inj hx).symm, fun _ _ _ => rfl, Nat.le_refl _, B2.out⟩
    case round =>
      obtain ⟨k, v, hk, rfl, rfl, hO, hv, hsame, hsz, hB⟩ := hrel
      have HO := Lib.hid hO
      have HV := Lib.hid hv
      have HSame := Lib.hid hsame
      have HBw := Lib.hid hB
      have HSz := Lib.hid hsz
      clear hO hv hsame hB O2 hsz hck
      by_cases hlt : k < n
      · obtain ⟨hr1, hr2⟩ := HR.out k hlt
        have hdr := HD.out k hlt
        have HMk := Lib.hid (fun w' g cap (hb : Below w.heap.size w w') (hr : Rd w' (some ⟨g, 0, none⟩) m (itemsX 0 1)) => HM.out w' k g cap hlt hb hr)
        obtain ⟨k1, k2, k3⟩ := HDR.out
        have hsw := HSz.out
        have hgdl : gd < wr.heap.size := by omega
        have hcd := ((k3.of_block (HSame.out gd k1 k2)).at hlt).1
        have hPB := HPB.out k
        obtain ⟨y, hy⟩ : ∃ y, y = withoutV n m Z k := ⟨_, rfl⟩
        rw [← hy] at hr1 HMk hPB
        have hkn : (k : Int) < (n : Int) := by omega
        clear hy k3 k1 k2
        by_cases he : D k = -1
        · rw [if_pos he] at hPB
          rw [he] at hcd
          have hw1 : IntKind.i64.wrap (y - b) = y - b := by rw [IntKind.wrap_i64]; omega
          have EX := Lib.hid (cellsL_next (X := payB n m Z D) k (x := y - b) (by rw [hPB]; omega))
          clear he hPB hdr
          go_wp2_with (first
            | (go_at_call 57; refine (HB.out _ HBw.out).mono ?_; rintro e' w3 ⟨rfl, hb⟩; have hcd3 := (hb.cell (p := ⟨gd, k, none⟩) hgdl).trans hcd; have HO3 := Lib.hid (HO.out.below_row hb); have B3 := Lib.hid hb; clear hb)
            | (go_at_call 56; refine (HI.out _ (HBw.out.trans (B3.out.mono HBw.out.size))).mono ?_; rintro e' w4 ⟨gi, ci, rfl, hg, hO2, hb⟩; have RI := Lib.hid hO2.rd; have HO4 := Lib.hid (HO3.out.below_row hb); have B4 := Lib.hid (B3.out.trans (hb.mono B3.out.size)); clear hg hO2 hb)
            | (go_at_call 55; refine (HMk.out _ _ _ (HBw.out.trans (B4.out.mono HBw.out.size)) RI.out).mono ?_; rintro e' w5 ⟨rfl, hb⟩; have HO5 := Lib.hid (HO4.out.below_row hb); have B5 := Lib.hid (B4.out.trans (hb.mono B4.out.size)); clear hb)
            | (at_builtin; refine wpList_append_gen _ (by rfl) (.tmp 42) (.tmp 50) 23 (by rfl) w.heap.size 3 i0 (.int .i64 0) 8 Try.underlying23 hi hz0 hz1 hz2 (by rfl) v k _ (by rfl) (HO5.out.alloc _) ⟨_, 0, none⟩ 1 1 [.int .i64 (y - b)] (by rfl) (by rfl) (news_one (by simp)) (by simp [Value.oneCell']) (by unfold maxLen; omega) (by omega) (by have := B5.out.size; have := HBw.out.size; simp; omega) ?_; intro v2 w6 hown2 hgrow2 hat2; have O6 := Lib.hid hown2; have G2 := Lib.hid hgrow2; have A2 := Lib.hid hat2; clear hown2 hgrow2 hat2))
          go_roundw
          case rel =>
            have h5 := B5.out.size
            have hs := HSz.out
            have hsw := HBw.out.size
            have hs1 := S1.out
            have hs2 := S2.out
            refine ⟨k + 1, v2, by omega, by go_num, rfl, by rw [← EX.out]; exact O6.out, fun y hy => ?_, fun y hy1 hy2 => ?_, ?_, ?_⟩
            · rcases A2.out with e | e
              · rw [e] at hy; exact HV.out y hy
              · rw [e] at hy
                have := Option.some.inj hy
                right
                rw [← this]
                simp
                omega
            · rw [G2.out.block y (by simp; omega) (fun e => by have := HV.out y e.symm; omega), Below.heap_alloc _ _ _ (by omega), B5.out.block y (by omega)]
              exact HSame.out y hy1 hy2
            · have := G2.out.size
              simp at this
              omega
            · exact (HBw.out.trans ((below_alloc B5.out _).mono hsw)).grown G2.out (by simp; omega) (fun y hy => (HO.out.lt y hy).1)
          case measure => simp [intOf]; omega
        · obtain ⟨x, hx⟩ := Int.eq_ofNat_of_zero_le (show 0 ≤ D k by omega)
          have hxm : x < m := by omega
          rw [if_neg he, hx, Int.toNat_natCast] at hPB
          rw [hx] at hcd
          obtain ⟨ba, oa, rfl, hca, hra⟩ := (HA.out.below (Nat.le_refl _) HBw.out) k hlt
          rw [HL.out k hlt] at hca hra
          obtain ⟨br, or', har, hcx⟩ := hra x hxm
          rw [har] at hca
          have hzr := HZ.out k hlt x hxm
          obtain ⟨z, hz'⟩ : ∃ z, z = Z k x := ⟨_, rfl⟩
          rw [← hz'] at hcx hzr hPB
          have i3 : (0 : Int) ≤ (x : Int) := by omega
          have i4 : (x : Int) < (m : Int) := by omega
          have d0 : decide ((x : Int) ≥ 0) = true := by simp
          have hw0 : IntKind.i64.wrap (b - z) = b - z := by rw [IntKind.wrap_i64]; omega
          have hw1 : IntKind.i64.wrap (y - (b - z)) = y - (b - z) := by rw [IntKind.wrap_i64]; omega
          have EX := Lib.hid (cellsL_next (X := payB n m Z D) k (x := y - (b - z)) hPB)
          clear he hPB hdr hra har hx hz'
          go_wp2_with (go_at_call 57; refine (HB.out _ HBw.out).mono ?_; rintro e' w3 ⟨rfl, hb⟩; have hcd3 := (hb.cell (p := ⟨gd, k, none⟩) hgdl).trans hcd; have hca3 := (hb.cell (p := ⟨ba, oa + k, none⟩) (World.block_lt_of_cell? _ _ hca)).trans hca; have hcx3 := (hb.cell (p := ⟨br, or' + x, none⟩) (World.block_lt_of_cell? _ _ hcx)).trans hcx; have HO3 := Lib.hid (HO.out.below_row hb); have B3 := Lib.hid hb; clear hb)
          go_quiet (fail)
          go_wp2_with (first
            | (go_at_call 56; refine (HI.out _ (below_drewN (HBw.out.trans (B3.out.mono HBw.out.size)) _)).mono ?_; rintro e' w4 ⟨gi, ci, rfl, hg, hO2, hb⟩; have RI := Lib.hid hO2.rd; have HO4 := Lib.hid ((ownsRow_drewN HO3.out _).below_row hb); have B4 := Lib.hid ((below_drewN B3.out _).trans (hb.mono B3.out.size)); clear hg hO2 hb)
            | (go_at_call 55; refine (HMk.out _ _ _ (HBw.out.trans (B4.out.mono HBw.out.size)) RI.out).mono ?_; rintro e' w5 ⟨rfl, hb⟩; have HO5 := Lib.hid (HO4.out.below_row hb); have B5 := Lib.hid (B4.out.trans (hb.mono B4.out.size)); clear hb)
            | (at_builtin; refine wpList_append_gen _ (by rfl) (.tmp 42) (.tmp 50) 23 (by rfl) w.heap.size 3 i0 (.int .i64 0) 8 Try.underlying23 hi hz0 hz1 hz2 (by rfl) v k _ (by rfl) (HO5.out.alloc _) ⟨_, 0, none⟩ 1 1 [.int .i64 (y - (b - z))] (by rfl) (by rfl) (news_one (by simp)) (by simp [Value.oneCell']) (by unfold maxLen; omega) (by omega) (by have := B5.out.size; have := HBw.out.size; simp; omega) ?_; intro v2 w6 hown2 hgrow2 hat2; have O6 := Lib.hid hown2; have G2 := Lib.hid hgrow2; have A2 := Lib.hid hat2; clear hown2 hgrow2 hat2))
          go_roundw
          case rel =>
            have h5 := B5.out.size
            have hs := HSz.out
            have hsw := HBw.out.size
            have hs1 := S1.out
            have hs2 := S2.out
            refine ⟨k + 1, v2, by omega, by go_num, rfl, by rw [← EX.out]; exact O6.out, fun y hy => ?_, fun y hy1 hy2 => ?_, ?_, ?_⟩
            · rcases A2.out with e | e
              · rw [e] at hy; exact HV.out y hy
              · rw [e] at hy
                have := Option.some.inj hy
                right
                rw [← this]
                simp
                omega
            · rw [G2.out.block y (by simp; omega) (fun e => by have := HV.out y e.symm; omega), Below.heap_alloc _ _ _ (by omega), B5.out.block y (by omega)]
              exact HSame.out y hy1 hy2
            · have := G2.out.size
              simp at this
              omega
            · exact (HBw.out.trans ((below_alloc B5.out _).mono hsw)).grown G2.out (by simp; omega) (fun y hy => (HO.out.lt y hy).1)
          case measure => simp [intOf]; omega
      · obtain rfl : k = n := by omega
        clear hk
        go_wp2
        go_ret2
        rw [T1.out, T2.out]
        obtain ⟨g, cap, rfl⟩ := owns_form HO.out (by omega)
        have hlt := HO.out.lt g rfl
        exact ⟨_, _, rfl, .inr ⟨g, hlt.1, hlt.2, OwnR.of_owns HO.out⟩, HBw.out⟩
  · have T1 := Lib.hid (tt_no h1)
    have T2 := Lib.hid (firstN_no h1)
    clear h1 ha0
    go_enter Try.func31, Try.ntmps31
    go_wp2_with (go_at_call 45; refine (H.out _ (below_alloc (Below.refl _ _) _)).mono ?_; rintro e' w1 ⟨rfl, hb⟩; rw [T1.out]; have O1 := Lib.hid (O0.out.below_row hb); have B1 := Lib.hid ((below_alloc (Below.refl w.heap.size w) (.cells #[] 3)).trans (hb.mono (by simp))); have S1 := Lib.hid (show w.heap.size < w1.heap.size by have := hb.size; simp at this; omega); clear hb)
    go_ret2
    rw [T1.out, T2.out]
    exact ⟨_, _, rfl, .inl rfl, B1.out⟩
end Go.Proofs.Ytaipodnhnekpjaa
