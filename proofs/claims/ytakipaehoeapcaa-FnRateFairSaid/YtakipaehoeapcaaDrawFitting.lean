/- The draw of a rate table that prices often fit. -/
import Derived.Test.YtakipaehoeapcaaDrawOne
import Derived.Test.YtakipaehoeapcaaSpecPriceTable
namespace Go.Proofs.Ytakipaehoeapcaa
set_option linter.unusedVariables false
open Go.RowKit

set_option maxHeartbeats 1600000 in
theorem five {w : World} {g t : Nat} {x : Nat} {v0 v1 v2 v3 v4 : Int} (h : w.heap[g]? = some (.cells #[.int .i64 v0, .int .i64 v1, .int .i64 v2, .int .i64 v3, .int .i64 v4] t (0, 0))) (hx : x < 5) :
    ∃ v : Int, w.cell? ⟨g, x, none⟩ = some (.int .i64 v) := by
  rw [cell_of_row w g x _ t (0, 0) h]
  have : x = 0 ∨ x = 1 ∨ x = 2 ∨ x = 3 ∨ x = 4 := by omega
  rcases this with rfl | rfl | rfl | rfl | rfl <;> exact ⟨_, rfl⟩

theorem OwnT.apart {w : World} {lo hi n : Nat} {a : Option Addr} {A : Nat → Option Addr} {L C : Nat → Nat} {X : Nat → Nat → Int} (h : OwnT w lo hi a n A L C X) (hn : 0 < n) (hL : ∀ r, r < n → 0 < L r) : Apart lo n a A := by
  rcases h with h0 | ⟨b, o, K, ha, h1, h2, hc, hk, hi⟩
  · omega
  · refine ⟨fun b' o' e => by rw [ha] at e; cases e; exact h1, fun r hr b' o' e => ?_⟩
    obtain ⟨k1, k2, k3, k4⟩ := hk r hr
    rcases k4 with h0 | ⟨o2, ha2, _⟩
    · have := hL r hr; omega
    · rw [ha2] at e; cases e; exact k1

/-- What l91Fitting hands back: a table of one to five rows, of five numbers at most, the reader gone on. -/
def DrewFit (r : Nat) (a : Option Addr) (n c p : Nat) (w : World) (e : Ending) (w' : World) : Prop :=
  ∃ ga N gc A L C Z p', e = .returned (.slice ga N gc) ∧ (1 ≤ N ∧ N ≤ 5) ∧ ((∀ s, s < N → L s ≤ 5) ∧ Apart w.heap.size N ga A) ∧ Tab w' ga N A L C Z ∧ RdrAt w' r a n c p' ∧ p' ≤ p + 300 ∧ ButR r w.heap.size w w'

set_option maxHeartbeats 3200000 in
theorem l91Fitting_any (r n c p : Nat) (a : Option Addr) (B : Nat → Nat) (w : World) (hR : RdrAt w r a n c p) (hb : RdB w a n B) (hab : 0 < n → ∀ b o, a = some ⟨b, o, none⟩ → b < w.heap.size ∧ b ≠ r) (hn : n ≤ 2000) (hp : p ≤ 100) :
    Calls Try.prog 56 #[.pointer (some ⟨r, 0, none⟩)] w (DrewFit r a n c p w) := by
  obtain ⟨i0, hi, hz0, hz1, hz2⟩ := info_parts Try.infoInt
  have hrl := hR.lt
  have HRd := Lib.hid (hR.alloc (.cells #[] 3))
  have HB := Lib.hid hb
  have HAB := Lib.hid hab
  clear hR hb hab
  have U0 := Lib.hid ((ButR.refl r w.heap.size w).alloc (Nat.le_refl _) (.cells #[] 3))
  have R0 := Lib.hid (show (w.alloc (.cells #[] 3)).ownsRow w.heap.size 3 1 (.slice (some ⟨w.heap.size, 0, none⟩) 0 0) 0 (cellsL 0 (fun _ => 0)) from World.ownsRow_made w #[] 0 (Nat.le_refl _) (Nat.zero_le _) (by simp))
  go_enter Try.func56, Try.ntmps56
  go_wp2_with fail
  refine (pick_any r n c p 4 a B _ HRd.out (HB.out.but HAB.out U0.out) (fun h0 b o e => (HAB.out h0 b o e).2) hn (by omega) (by omega) (by omega)).mono ?_
  rintro e w1 ⟨x, rfl, hx, hR1, hK1⟩
  have HR1 := Lib.hid hR1
  have HU1 := Lib.hid (U0.out.trans (ButR.keeps hK1))
  have R1 := Lib.hid (owns_but R0.out hrl hK1)
  clear hR1 hK1
  obtain ⟨m, hm⟩ : ∃ m, m = 2 + x := ⟨_, rfl⟩
  have hm2 : 2 ≤ m := by omega
  have hm5 : m ≤ 5 := by omega
  have hmx : (2 : Int) + (x : Int) = (m : Int) := by omega
  clear hm
  go_wp2
  clear hmx
  go_loopw [3, 5] (fun row s wi => ∃ k : Nat, k ≤ m ∧ s = .int .i64 k ∧ ∃ rv X p', rv = row ∧ wi.ownsRow w.heap.size 3 1 rv k (cellsL k X) ∧ RdrAt wi r a n c p' ∧ p' ≤ p + 1 + k ∧ ButR r w.heap.size w wi) (fun _ s _ => m - (intOf s).toNat)
  case atStart => exact ⟨0, Nat.zero_le _, rfl, _, fun _ => 0, p + 1, rfl, R1.out, HR1.out, Nat.le_refl _, HU1.out⟩
  case round =>
    obtain ⟨k, hk, rfl, rv, X, p', rfl, hown, hR, hp', hBu⟩ := hrel
    clear R0 R1 HR1 HU1 U0 HRd
    have hsz := hBu.size
    by_cases hlt : k < m
    · have HO := Lib.hid hown
      have HR := Lib.hid hR
      have HU := Lib.hid hBu
      have hne : r ≠ wr.heap.size := by omega
      clear hown hR hBu
      go_wp2_with (first
        | (go_at_call 66; refine (pick_any r n c p' 5 a B _ (HR.out.alloc _) (HB.out.but HAB.out (HU.out.alloc hsz _)) (fun h0 b o e => (HAB.out h0 b o e).2) hn (by omega) (by omega) (by omega)).mono ?_; rintro e w5 ⟨x, rfl, hx, hR5, hK5⟩; obtain ⟨v, hv⟩ := five (w := w5) (g := wr.heap.size) (x := x) ((hK5.block _ (by omega)).trans (heap_alloc_last wr _)) hx; have H5 := Lib.hid hR5; have hs5 : wr.heap.size + 1 ≤ w5.heap.size := (by rw [hK5.size, World.size_alloc]; exact Nat.le_refl _); have O5 := Lib.hid (owns_but (HO.out.alloc _) hrl hK5); have U5 := Lib.hid ((HU.out.alloc hsz (.cells _ 3)).trans (ButR.keeps hK5)); clear hR5 hK5)
        | (at_builtin; refine wpList_append_lies _ (by rfl) (.tmp 17) (.tmp 23) 31 (by rfl) w.heap.size 3 i0 (.int .i64 0) 1 8 Try.underlying31 hi hz0 hz1 hz2 (by rfl) (by decide) rv k (cellsL k X) (by rfl) (O5.out.alloc _) ⟨_, 0, none⟩ 1 1 [.int .i64 v] (by rfl) (by rfl) (news_one (by simp)) (by simp [Value.oneCell']) (by omega) (by unfold maxLen; omega) (by omega) (by first | omega | (simp; omega)) _ rfl ?_; intro g2 cap2 w2 hown2 hgrow2 hat2 hlt2; have N2 := Lib.hid hown2; have G2 := Lib.hid hgrow2; clear hown2 hgrow2 hat2))
      go_roundw
      case rel =>
        refine ⟨k + 1, by omega, by go_num, _, _, p' + 1, rfl, by have := N2.out; rwa [cellsL_snoc] at this, (H5.out.alloc _).grown G2.out (fun e => by have := (O5.out.lt r e).1; omega), by omega, (U5.out.alloc (by omega) _).grown G2.out (by simp; omega) (fun k hk => (O5.out.lt k hk).1)⟩
      case measure => simp [intOf]; omega
    · obtain rfl : k = m := by omega
      obtain ⟨gr, cr, rfl⟩ := owns_form hown (by omega)
      have HX := Lib.hid (owns_rd hown)
      have HR := Lib.hid hR
      have HU := Lib.hid hBu
      clear hown hR hBu
      go_wp2_with fail
      refine (specPriceTable_any k cr _ X _ (by omega) HX.out).mono ?_
      rintro e w2 ⟨ta, tc, tA, tC, rfl, hO, hb2⟩
      have T2 := Lib.hid hO
      have HR2 := Lib.hid (HR.out.of_block (hb2.block r (by omega)))
      have HU2 := Lib.hid (HU.out.trans ((ButR.below hb2).mono hsz))
      have hs2 := hb2.size
      clear hO hb2
      by_cases hok : TableOk k X
      · have K1 := Lib.hid (tt_of hok)
        have K2 := Lib.hid (tableN_yes hok)
        rw [K2.out] at T2 ⊢
        rw [K1.out]
        clear hok
        go_wp2_with fail
        refine (pick_any r n c p' 6 a B _ HR2.out (HB.out.but HAB.out HU2.out) (fun h0 b o e => (HAB.out h0 b o e).2) hn (by omega) (by omega) (by omega)).mono ?_
        rintro e w3 ⟨y, rfl, hy, hR3, hK3⟩
        have HR3 := Lib.hid hR3
        have HU3 := Lib.hid (HU2.out.trans (ButR.keeps hK3))
        have T3 := Lib.hid (T2.out.keeps (.inr (by omega)) hK3)
        have hs3 : w2.heap.size ≤ w3.heap.size := Nat.le_of_eq hK3.size.symm
        clear hR3 hK3
        by_cases hy0 : y = 0
        · subst hy0
          have hd : (((0 : Nat) : Int) == 0) = true := by decide
          go_wp2_with fail
          refine (l91Table_any r n c (p' + 1) a B _ HR3.out (HB.out.but HAB.out HU3.out) (fun h0 b o e => ⟨by have := (HAB.out h0 b o e).1; omega, (HAB.out h0 b o e).2⟩) hn (by omega)).mono ?_
          rintro e w4 ⟨ga, N, gc, A, L, C, Z, p4, rfl, hN, ⟨hL, hAp⟩, hT, hR4, hp4, hU4⟩
          have HQ := Lib.hid (show _ ∧ _ ∧ _ ∧ _ ∧ _ from ⟨hN, And.intro hL (hAp.mono (show w.heap.size ≤ _ by omega)), hT, hR4, HU3.out.trans (hU4.mono (by omega))⟩)
          clear hN hL hAp hT hR4 hU4
          go_wp2
          go_ret
          exact ⟨ga, N, gc, A, L, C, Z, p4, rfl, HQ.out.1, HQ.out.2.1, HQ.out.2.2.1, HQ.out.2.2.2.1, by omega, HQ.out.2.2.2.2⟩
        · have hd : ((y : Int) == 0) = false := by simp; omega
          go_wp2
          go_ret
          exact ⟨ta, k, tc, tA, fun _ => k, tC, _, p' + 1, rfl, ⟨by omega, by omega⟩, ⟨fun _ _ => by show k ≤ 5; omega, (T3.out.apart (by omega) (fun _ _ => by show 0 < k; omega)).mono (by omega)⟩, T3.out.tab, HR3.out, by omega, HU3.out⟩
      · have K1 := Lib.hid (tt_no hok)
        rw [K1.out]
        clear hok T2
        go_wp2_with fail
        refine (l91Table_any r n c p' a B _ HR2.out (HB.out.but HAB.out HU2.out) (fun h0 b o e => ⟨by have := (HAB.out h0 b o e).1; omega, (HAB.out h0 b o e).2⟩) hn (by omega)).mono ?_
        rintro e w4 ⟨ga, N, gc, A, L, C, Z, p4, rfl, hN, ⟨hL, hAp⟩, hT, hR4, hp4, hU4⟩
        have HQ := Lib.hid (show _ ∧ _ ∧ _ ∧ _ ∧ _ from ⟨hN, And.intro hL (hAp.mono (show w.heap.size ≤ _ by omega)), hT, hR4, HU2.out.trans (hU4.mono (by omega))⟩)
        clear hN hL hAp hT hR4 hU4
        go_wp2
        go_ret
        exact ⟨ga, N, gc, A, L, C, Z, p4, rfl, HQ.out.1, HQ.out.2.1, HQ.out.2.2.1, HQ.out.2.2.2.1, by omega, HQ.out.2.2.2.2⟩
end Go.Proofs.Ytakipaehoeapcaa
