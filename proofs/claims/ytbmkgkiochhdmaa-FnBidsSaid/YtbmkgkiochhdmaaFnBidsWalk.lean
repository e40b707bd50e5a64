/- The walk of the law FnBids: it answers true at every code that can be read. -/
import Derived.Test.YtbmkgkiochhdmaaDrawBidIn
import Derived.Test.YtbmkgkiochhdmaaBidInF
import Derived.Test.YtbmkgkiochhdmaaSpecBidIn
import Derived.Test.YtbmkgkiochhdmaaBidFirstF
import Derived.Test.YtbmkgkiochhdmaaFnBidModel
import Derived.Test.YtbmkgkiochhdmaaAppendGuard
import Derived.Test.YtbmkgkiochhdmaaInfoInts
namespace Go.Proofs.Ytbmkgkiochhdmaa
set_option linter.unusedVariables false
open Go.RowKit

set_option maxHeartbeats 3200000 in
theorem fnBids_walk (n c : Nat) (a : Option Addr) (B : Nat → Nat) (w : World) (hc : n ≤ c) (hb : RdB w a n B) (hab : 0 < n → ∀ b o, a = some ⟨b, o, none⟩ → b < w.heap.size) :
    Calls Try.prog 3 #[.slice a n c] w fun e w' => e = .returned (.bool true) ∧ Below w.heap.size w w' := by
  by_cases hfit : n ≤ 1048576
  · have hd : ¬ (1048576 < n) := by omega
    have HD := Lib.hid (drawBidIn_any n c a B w hfit hc hb hab)
    clear hb hab
    go_enter Try.func3, Try.ntmps3
    go_wp2_with fail
    refine HD.out.mono ?_
    rintro e w1 ⟨ga, N, gc, A, L, C, Z, rfl, ⟨hN1, hN4, hgc⟩, hL, hT, hb1⟩
    have V1 := Lib.hid hT
    have B1 := Lib.hid hb1
    have hn0 : N ≤ 1048576 := by omega
    have HL := Lib.hid (show ∀ r, r < N → L r ≤ 1048576 from fun r hr => by have := hL r hr; omega)
    clear hL hT hb1 HD
    go_wp2_with fail
    refine (bidIn_any N gc ga A L C Z _ hn0 HL.out V1.out).mono ?_
    rintro e w2 ⟨rfl, hb2⟩
    have V2 := Lib.hid (V1.out.below (Nat.le_refl _) hb2)
    have B2 := Lib.hid (below_chain B1.out hb2)
    clear hb2 B1 V1
    go_wp2_with fail
    refine (specBidIn_any N gc ga A L C Z _ hn0 HL.out V2.out).mono ?_
    rintro e w3 ⟨rfl, hb3⟩
    have V3 := Lib.hid (V2.out.below (Nat.le_refl _) hb3)
    have B3 := Lib.hid (below_chain B2.out hb3)
    clear hb3 B2 V2
    by_cases h : IsBids N L Z
    · have K1 := Lib.hid (tt_of h)
      have K3 := Lib.hid (firstN_yes h)
      rw [K1.out]
      have HH := Lib.hid h
      clear h
      go_wp2_with fail
      refine (bidFirst_any N gc ga A L C Z _ hn0 HL.out V3.out).mono ?_
      rintro e w4 ⟨fa, fc, rfl, hO4, hb4⟩
      rw [K3.out] at hO4 ⊢
      rw [K1.out]
      have F4 := Lib.hid hO4.rd
      have V4 := Lib.hid (V3.out.below (Nat.le_refl _) hb4)
      have B4 := Lib.hid (below_chain B3.out hb4)
      clear hb4 B3 V3
      clear hO4
      clear F4
      by_cases hN : N = 1
      · have d1 : ((N : Int) == 1) = true := by simp [hN]
        clear hN
        go_wp2_with fail
        go_ret
        exact ⟨rfl, B4.out⟩
      · have d1 : ((N : Int) == 1) = false := beq_eq_false_iff_ne.2 (by omega)
        obtain ⟨k, hk⟩ : ∃ k, N = k + 1 := ⟨N - 1, by omega⟩
        have hk1 : 1 ≤ k := by omega
        have hkm : (N : Int) - 1 = (k : Int) := by omega
        have K5 := Lib.hid (tt_of (front_bids (by have := HH.out; rw [hk] at this; exact this) hk1))
        obtain ⟨ba, oa, rfl, _, _⟩ := V4.out 0 (by omega)
        obtain ⟨i1, hj, hy0, hy1, hy2⟩ := info_parts Try.infoInts
        have HK := Lib.hid hk
        have k0 : (0 : Int) ≤ (k : Int) := by omega
        have k2 : (k : Int) ≤ (gc : Int) := by omega
        have k3 : k ≤ gc := by omega
        have HNews := Lib.hid (fun (W : World) (hb : Below w4.heap.size w4 W) j u (hu : ((List.range k).map fun r => Value.slice (A r) (L r) (C r))[j]? = some u) => show W.cell? ((⟨ba, oa, none⟩ : Addr).add j) = some u from by
          have hj : j < k := by
            rcases Nat.lt_or_ge j k with h | h
            · exact h
            · rw [List.getElem?_eq_none (by simpa using h)] at hu; cases hu
          have hu' : Value.slice (A j) (L j) (C j) = u := by simpa [hj] using hu
          subst hu'
          obtain ⟨b', o', e1, hca, _⟩ := V4.out j (by omega)
          cases e1
          rw [Go.WideShapes.add_plain]
          exact (hb.cell (p := ⟨ba, oa + j, none⟩) (World.block_lt_of_cell? _ _ hca)).trans hca)
        clear hk hN
        go_wp2_with (first
          | (at_builtin; refine wpList_append_guard _ (by rfl) (.tmp 38) (.tmp 43) 23 (by rfl) 26 i1 (.slice none 0 0) 1 24 Try.underlying23 hj hy0 hy1 hy2 (by rfl) (by decide) ⟨_, 0, none⟩ 0 0 [] (by rfl) (by rfl) (by simp) ⟨ba, oa, none⟩ k gc ((List.range k).map fun r => Value.slice (A r) (L r) (C r)) (by rfl) (by simp) (HNews.out _ (below_alloc (Below.refl _ _) _)) (by omega) (by unfold maxLen; omega) (by omega) ?_; intro v1 w6 hown6 hgrow6; rw [Nat.zero_add, List.nil_append] at hown6; obtain ⟨g6, c6, rfl⟩ := owns_form hown6 hk1; have B6' := Lib.hid ((below_alloc (Below.refl w4.heap.size w4) (.cells #[] 26)).grown hgrow6 (by simp) (fun k h => by cases h)); have T6 := Lib.hid (show Tab w6 (some ⟨g6, 0, none⟩) k A L C Z from fun r hr => by
              have h1 := hown6.cells (g := g6) rfl r (.slice (A r) (L r) (C r)) (by simp [hr])
              rw [Go.WideShapes.add_plain] at h1
              obtain ⟨_, _, _, _, hrd⟩ := V4.out r (by have := HK.out; omega)
              exact ⟨g6, 0, rfl, h1, hrd.below (Nat.le_refl _) B6'.out⟩)
             clear hown6 hgrow6)
          | (go_at_call 11; refine (bidIn_any k c6 (some ⟨g6, 0, none⟩) A L C Z w6 (by omega) (fun r hr => HL.out r (by have := HK.out; omega)) T6.out).mono ?_; rintro e w7 ⟨rfl, hb7⟩; rw [K5.out]; have B7 := Lib.hid (below_chain B4.out (below_chain B6'.out hb7)); clear hb7))
        go_ret
        exact ⟨rfl, B7.out⟩
    · have K1 := Lib.hid (tt_no h)
      rw [K1.out]
      clear h
      go_wp2_with fail
      go_ret
      exact ⟨rfl, B3.out⟩
  · have hd : 1048576 < n := by omega
    clear hb hab
    go_enter Try.func3, Try.ntmps3
    go_wp2
    go_ret
    exact ⟨rfl, Below.refl _ _⟩
end Go.Proofs.Ytbmkgkiochhdmaa
