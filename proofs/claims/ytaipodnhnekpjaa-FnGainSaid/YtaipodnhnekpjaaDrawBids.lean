/- The draw of bids. -/
import Derived.Test.YtaipodnhnekpjaaGrid
import Derived.Test.YtaipodnhnekpjaaDelKit
import Derived.Test.YtaipodnhnekpjaaTabK
namespace Go.Proofs.Ytaipodnhnekpjaa
set_option linter.unusedVariables false
set_option linter.unusedSimpArgs false
open Go.RowKit

/-- What l92Bids hands back: a table of one to four rows, of one to five numbers, the reader gone on. -/
def DrewBids (r : Nat) (a : Option Addr) (n c p : Nat) (w : World) (e : Ending) (w' : World) : Prop :=
  ∃ (ga : Option Addr) (N gc : Nat) (A : Nat → Option Addr) (L C : Nat → Nat) (Z : Nat → Nat → Int) (p' : Nat), e = .returned (.slice ga N gc) ∧ (1 ≤ N ∧ N ≤ 4) ∧ (N ≤ gc ∧ (∀ s, s < N → 1 ≤ L s ∧ L s ≤ 5) ∧ Apart w.heap.size N ga A) ∧ Tab w' ga N A L C Z ∧ RdrAt w' r a n c p' ∧ p' ≤ p + 100 ∧ ButR r w.heap.size w w'

set_option maxHeartbeats 6400000 in
set_option maxRecDepth 100000 in
theorem l92Bids_any (r n c p q : Nat) (a : Option Addr) (B : Nat → Nat) (w : World) (hR : RdrAt w r a n c p) (hb : RdB w a n B) (hab : 0 < n → ∀ b o, a = some ⟨b, o, none⟩ → b < w.heap.size ∧ b ≠ r) (hn : n ≤ 2000) (hp : p ≤ 1000) (hq1 : 1 ≤ q) (hq4 : q ≤ 4) :
    Calls Try.prog 80 #[.pointer (some ⟨r, 0, none⟩), .int .i64 q] w (DrewBids r a n c p w) := by
  obtain ⟨i0, hi, hz0, hz1, hz2⟩ := info_parts Try.infoInt
  obtain ⟨i1, hj, hy0, hy1, hy2⟩ := info_parts Try.infoInts
  have hrl := hR.lt
  have HR0 := Lib.hid hR
  have HB := Lib.hid hb
  have HAL := Lib.hid hab
  have HAB := Lib.hid (show 0 < n → ∀ b o, a = some ⟨b, o, none⟩ → b ≠ r from fun h0 b o e => (hab h0 b o e).2)
  clear hR hb hab
  go_enter Try.func80, Try.ntmps80
  go_wp2_with fail
  refine (pick_any r n c p 4 a B _ HR0.out HB.out HAB.out hn (by omega) (by omega) (by omega)).mono ?_
  rintro e w1 ⟨x, rfl, hx, hR1, hK1⟩
  have HR1 := Lib.hid hR1
  have HU1 := Lib.hid (ButR.keeps (B := w.heap.size) hK1)
  have hs1 : w1.heap.size = w.heap.size := hK1.size
  obtain ⟨N, hN⟩ : ∃ N, N = 1 + x := ⟨_, rfl⟩
  have hN1 : 1 ≤ N := by omega
  have hN4 : N ≤ 4 := by omega
  have hNx : IntKind.i64.wrap ((1 : Int) + (x : Int)) = (N : Int) := by rw [IntWalk.i64_in _ (by omega)]; omega
  have S1 := Lib.hid hs1
  clear hR1 hK1 hN hs1
  go_wp2_with fail
  clear hNx
  refine (pick_any r n c (p + 1) q a B _ HR1.out (HB.out.but HAL.out HU1.out) HAB.out hn (by omega) (by omega) (by omega)).mono ?_
  rintro e w2 ⟨y, rfl, hy, hR2, hK2⟩
  have HU2 := Lib.hid ((HU1.out.trans (ButR.keeps hK2)).alloc (by have := S1.out; have := hK2.size; omega) (.cells #[] 23))
  have HR2 := Lib.hid (hR2.alloc (.cells #[] 23))
  have S2 := Lib.hid (show w2.heap.size = w.heap.size from hK2.size.trans S1.out)
  obtain ⟨m, hm⟩ : ∃ m, m = 1 + y := ⟨_, rfl⟩
  have hm1 : 1 ≤ m := by omega
  have hm4 : m ≤ 4 := by omega
  have hmy : IntKind.i64.wrap ((1 : Int) + (y : Int)) = (m : Int) := by rw [IntWalk.i64_in _ (by omega)]; omega
  clear hR2 hK2 hm
  have G0 := Lib.hid (show Grid 23 3 w2.heap.size 0 m (w2.alloc (.cells #[] 23)) (.slice (some ⟨w2.heap.size, 0, none⟩) 0 0) (fun _ => 0) (fun _ => 0) (fun _ _ => 0) from Grid.start (World.ownsRow_made w2 #[] 0 (Nat.le_refl _) (Nat.zero_le _) (by simp)))
  go_wp2_with fail
  clear hmy
  refine (pick_any r n c (p + 1 + 1) 2 a B _ HR2.out (HB.out.but HAL.out HU2.out) HAB.out hn (by omega) (by omega) (by omega)).mono ?_
  rintro e w3 ⟨z, rfl, hz, hR3, hK3⟩
  have HR3 := Lib.hid hR3
  have HU3 := Lib.hid (HU2.out.trans (ButR.keeps hK3))
  have S3 := Lib.hid (show w3.heap.size = w2.heap.size + 1 from by rw [hK3.size]; simp)
  have G3 := Lib.hid (G0.out.butR (by have := S2.out; omega) (ButR.keeps hK3))
  obtain ⟨t, ht⟩ : ∃ t, t = 2 + z * 19 := ⟨_, rfl⟩
  have ht1 : 1 ≤ t := by omega
  have ht21 : t ≤ 21 := by omega
  have htw : IntKind.i64.wrap ((z : Int) * 19) = (z : Int) * 19 := IntWalk.i64_in _ (by omega)
  have htz : IntKind.i64.wrap ((2 : Int) + (z : Int) * 19) = (t : Int) := by rw [IntWalk.i64_in _ (by omega)]; omega
  clear hR3 hK3 ht G0 HU2 HU1 HR2 HR1 HR0
  go_wp2
  clear htz htw
  go_loopw [7, 9] (fun out s wr => ∃ (i : Nat) (v : Value) (G Cp : Nat → Nat) (XX : Nat → Nat → Int) (pi : Nat), i ≤ N ∧ s = .int .i64 i ∧ v = out ∧ Grid 23 3 w2.heap.size i m wr v G Cp XX ∧ RdrAt wr r a n c pi ∧ pi ≤ p + 3 + 5 * i ∧ w3.heap.size ≤ wr.heap.size ∧ ButR r w.heap.size w wr) (fun _ s _ => N - (intOf s).toNat)
  case atStart => exact ⟨0, _, _, _, _, p + 1 + 1 + 1, Nat.zero_le _, rfl, rfl, G3.out, HR3.out, by omega, Nat.le_refl _, HU3.out⟩
  case round =>
    obtain ⟨i, v, G, Cp, XX, pi, hik, rfl, rfl, hG, hRi, hpi, hsi, hUi⟩ := hrel
    clear G3 HR3 HU3
    have HG := Lib.hid hG
    have HRi := Lib.hid hRi
    have HUi := Lib.hid hUi
    clear hG hRi hUi
    by_cases hil : i < N
    · go_wp2
      obtain ⟨wo, rfl⟩ : ∃ wo : World, wo = wr := ⟨_, rfl⟩
      have hwo : w.heap.size ≤ wo.heap.size := by have := S2.out; have := S3.out; omega
      have hrwo : r < wo.heap.size := by omega
      have R0 := Lib.hid (show (wo.alloc (.cells #[] 3)).ownsRow wo.heap.size 3 1 (.slice (some ⟨wo.heap.size, 0, none⟩) 0 0) 0 (cellsL 0 (fun _ => 0)) from World.ownsRow_made wo #[] 0 (Nat.le_refl _) (Nat.zero_le _) (by simp))
      have HRr := Lib.hid (HRi.out.alloc (.cells #[] 3))
      have U0 := Lib.hid ((ButR.refl r wo.heap.size wo).alloc (Nat.le_refl _) (.cells #[] 3))
      go_loopw [10, 11] (fun row s wi => ∃ k : Nat, k ≤ m ∧ s = .int .i64 k ∧ ∃ (v2 : Value) (Y : Nat → Int) (pk : Nat), v2 = row ∧ wi.ownsRow wo.heap.size 3 1 v2 k (cellsL k Y) ∧ RdrAt wi r a n c pk ∧ pk ≤ pi + k ∧ ButR r wo.heap.size wo wi) (fun _ s _ => m - (intOf s).toNat)
      case atStart => exact ⟨0, Nat.zero_le _, rfl, _, fun _ => 0, pi, rfl, R0.out, HRr.out, by omega, U0.out⟩
      case round =>
        obtain ⟨k, hk, rfl, v2, Y, pk, rfl, hown, hR, hpk, hU⟩ := hrel
        clear R0 HRr U0
        have HO := Lib.hid hown
        have HR := Lib.hid hR
        have HU := Lib.hid hU
        have hsz := hU.size
        clear hown hR hU
        by_cases hlt : k < m
        · have hxa : ∀ (w5 : World), True := fun _ => trivial
          go_wp2_with (first
            | (go_at_call 81; refine (pick_any r n c pk t a B _ HR.out (HB.out.but HAL.out (HUi.out.trans (HU.out.mono hwo))) HAB.out hn (by omega) (by omega) (by omega)).mono ?_; rintro e w5 ⟨x5, rfl, hx5, hR5, hK5⟩; have HR5 := Lib.hid hR5; have S5 := Lib.hid hK5.size; have HU5 := Lib.hid (HU.out.trans (ButR.keeps hK5)); have O5 := Lib.hid (owns_but HO.out hrwo hK5); clear hR5 hK5)
            | (at_builtin; refine wpList_append_gen _ (by rfl) (.tmp 35) (.tmp 39) 23 (by rfl) wo.heap.size 3 i0 (.int .i64 0) 8 Try.underlying23 hi hz0 hz1 hz2 (by rfl) v2 k _ (by rfl) (O5.out.alloc _) ⟨_, 0, none⟩ 1 1 [.int .i64 x5] (by rfl) (by rfl) (news_one (by simp)) (by simp [Value.oneCell']) (by unfold maxLen; omega) (by omega) (by have := S5.out; simp; omega) ?_; intro v3 w6 hown6 hgrow6 hat6; have O6 := Lib.hid hown6; have G6 := Lib.hid hgrow6; clear hown6 hgrow6 hat6))
          go_roundw
          case rel =>
            have hs5 := S5.out
            have h6 := O6.out
            rw [cellsL_snoc] at h6
            refine ⟨k + 1, by omega, by go_num, v3, _, pk + 1, rfl, h6, (HR5.out.alloc _).grown G6.out (fun e => by have := (O5.out.lt r e).1; omega), by omega, (HU5.out.alloc (by omega) _).grown G6.out (by simp; omega) (fun x hx => (O5.out.lt x hx).1)⟩
          case measure => simp [intOf]; omega
        · obtain rfl : k = m := by omega
          obtain ⟨g, cap, rfl⟩ := owns_form HO.out (by omega)
          have hgl := HO.out.lt g rfl
          have hw2 : w2.heap.size ≤ wo.heap.size := by have := S3.out; omega
          have HGw := Lib.hid (HG.out.butR (by have := S2.out; omega) HU.out)
          have HUw := Lib.hid (HUi.out.trans (HU.out.mono hwo))
          have HOl := Lib.hid (owns_base HO.out hw2)
          have HV := Lib.hid (fun x hx => HG.out.top.lt x hx)
          have HVr := Lib.hid (fun s (hs : s < i) => (HG.out.row s hs).lt (G s) rfl)
          go_wp2_with (at_builtin; refine wpList_append_gen _ (by rfl) (.tmp 41) (.tmp 43) 22 (by rfl) w2.heap.size 23 i1 (.slice none 0 0) 24 Try.underlying22 hj hy0 hy1 hy2 (by rfl) v i _ (by rfl) (HGw.out.below (below_alloc (Below.refl _ _) _)).top ⟨_, 0, none⟩ 1 1 [.slice (some ⟨g, 0, none⟩) k cap] (by rfl) (by rfl) (news_one (by simp)) (by simp [Value.oneCell']) (by unfold maxLen; omega) (by omega) (by simp; omega) ?_; intro v3 w6 hown6 hgrow6 hat6; have O6 := Lib.hid hown6; have G6 := Lib.hid hgrow6; have A6 := Lib.hid hat6; clear hown6 hgrow6 hat6)
          go_roundw
          case rel =>
            have h6 := G6.out.size
            simp at h6
            refine ⟨i + 1, v3, _, _, _, pk, by omega, by go_num, rfl, (HGw.out.below (below_alloc (Below.refl _ _) _)).next (owns_blocks HOl.out fun x hx => by
              have : g = x := Option.some.inj hx
              subst this
              exact Below.heap_alloc _ _ _ hgl.2) (fun h => by have := (HV.out g h).2; omega) (fun s hs h => by have := (HVr.out s hs).2; omega) O6.out G6.out A6.out, (HR.out.alloc _).grown G6.out (fun e => by have := (HV.out r e).1; have := S2.out; omega), by omega, by omega, (HUw.out.alloc (by omega) _).grown G6.out (by simp; omega) (fun x hx => by have := (HV.out x hx).1; have := S2.out; omega)⟩
          case measure => simp [intOf]; omega
    · obtain rfl : i = N := by omega
      obtain ⟨g, cap, rfl⟩ := owns_form HG.out.top (by omega)
      have hc7 := (owns_fits HG.out.top).1
      go_wp2_with fail
      refine (pick_any r n c pi 50 a B _ HRi.out (HB.out.but HAL.out HUi.out) HAB.out hn (by omega) (by omega) (by omega)).mono ?_
      rintro e w7 ⟨x, rfl, hx, hR7, hK7⟩
      have HR7 := Lib.hid hR7
      have HU7 := Lib.hid (HUi.out.trans (ButR.keeps hK7))
      have hs2 := S2.out
      have G7 := Lib.hid (HG.out.butR (by omega) (ButR.keeps hK7))
      have hT7 := G7.out.tab rfl
      have hA7 := G7.out.apart rfl
      have hgl := G7.out.top.lt g rfl
      clear hR7 hK7
      by_cases hx0 : x = 0
      · subst hx0
        obtain ⟨b0, o0, e0, hc0, hr0⟩ := hT7 0 (by omega)
        simp only [Option.some.injEq, Addr.mk.injEq, and_true] at e0
        obtain ⟨rfl, rfl⟩ := e0
        rw [Nat.add_zero] at hc0
        have HO := Lib.hid (OwnR.of_owns (G7.out.row 0 (by omega)))
        obtain ⟨hcx, hfx⟩ := HO.out.at (show 0 < m by omega)
        have HT7 := Lib.hid hT7
        have HA7 := Lib.hid hA7
        have hG0 : w2.heap.size ≤ G 0 ∧ G 0 < w7.heap.size := (G7.out.row 0 (by omega)).lt (G 0) rfl
        clear hT7 hA7 hr0
        go_wp2
        go_ret
        have hne : G 0 ≠ g := fun e => G7.out.far 0 (by omega) (by rw [e]; rfl)
        refine ⟨some ⟨g, 0, none⟩, i, cap, _, (fun _ => m), Cp, (fun s j => if s = 0 then (if j = 0 then 21 else XX 0 j) else XX s j), pi + 1, rfl, ⟨by omega, by omega⟩, ⟨hc7, fun s hs => ⟨hm1, by show m ≤ 5; omega⟩, HA7.out.mono (by omega)⟩, fun s hs => ?_, HR7.out.of_block (Below.heap_setCell _ _ _ _ (by show r ≠ G 0; omega)), by omega, HU7.out.setCell (by show w.heap.size ≤ G 0; omega) _⟩
        obtain ⟨b, o, e, hc, hr⟩ := HT7.out s hs
        refine ⟨b, o, e, ?_, ?_⟩
        · simp only [Option.some.injEq, Addr.mk.injEq, and_true] at e
          obtain ⟨rfl, rfl⟩ := e
          exact (World.cell?_of_block (w := w7) (a := ⟨g, 0 + s, none⟩) (Below.heap_setCell _ _ _ _ (by show g ≠ G 0; exact fun e => hne e.symm))).trans hc
        · dsimp only
          by_cases e1 : s = 0
          · subst e1
            exact ((HO.out.set (show 0 < m by omega) 21).congr fun j _ => by simp).rd
          · have h3 := (OwnR.of_owns (G7.out.row s hs)).of_block (w' := w7.setCell ⟨G 0, 0, none⟩ (.int .i64 21)) (Below.heap_setCell _ _ _ _ (by show G s ≠ G 0; exact G7.out.inj s 0 hs (by omega) e1))
            exact (h3.congr fun j _ => by rw [if_neg e1]).rd
      · have d0 : ((x : Int) == 0) = false := beq_eq_false_iff_ne.2 (by omega)
        by_cases hx1 : x = 1
        · subst hx1
          obtain ⟨j, hj1⟩ : ∃ j, i = j + 1 := ⟨i - 1, by omega⟩
          have hji : j < i := by omega
          obtain ⟨b0, o0, e0, hc0, hr0⟩ := hT7 j hji
          simp only [Option.some.injEq, Addr.mk.injEq, and_true] at e0
          obtain ⟨rfl, rfl⟩ := e0
          rw [Nat.zero_add] at hc0
          have hf0 := G7.out.top.frozenAt (j := j) (g := g)
          have hw1 : IntKind.i64.wrap ((i : Int) - 1) = (j : Int) := by rw [IntWalk.i64_in _ (by omega)]; omega
          have hjz : (j : Int) < (i : Int) := by omega
          have HT7 := Lib.hid hT7
          have HA7 := Lib.hid hA7
          have HJ := Lib.hid hj1
          have HC0 := Lib.hid hc0
          have hne := Lib.hid (show ∀ s, s < i → G s ≠ g from fun s hs e => G7.out.far s hs (by rw [e]; rfl))
          have hGj : w2.heap.size ≤ G j ∧ G j < w7.heap.size := (G7.out.row j hji).lt (G j) rfl
          have R7 := Lib.hid (G7.out.row j hji)
          clear hT7 hA7 hr0 hj1
          go_wp2_with (at_builtin; refine wpList_append_gen _ (by rfl) (.tmp 62) (.tmp 63) 23 (by rfl) w2.heap.size 3 i0 (.int .i64 0) 8 Try.underlying23 hi hz0 hz1 hz2 (by rfl) (.slice (some ⟨G j, 0, none⟩) m (Cp j)) m _ (by rfl) (R7.out.alloc _) ⟨_, 0, none⟩ 1 1 [.int .i64 1] (by rfl) (by rfl) (news_one (by simp)) (by simp [Value.oneCell']) (by unfold maxLen; omega) (by omega) (by simp; omega) ?_; intro v2 w8 hown8 hgrow8 hat8; obtain ⟨g2, cap2, rfl⟩ := owns_form hown8 (by omega); have O8 := Lib.hid hown8; have G8 := Lib.hid hgrow8; have A8 := Lib.hid hat8; have hcg := hgrow8.cell (keepg_alloc HC0.out _) (fun e => hne.out j hji (Option.some.inj e).symm); have hfg : w8.frozen? ⟨g, j, none⟩ = false := (World.frozen?_of_block (w := w7.alloc _) (a := ⟨g, j, none⟩) (hgrow8.block g (by simp; omega) (fun e => hne.out j hji (Option.some.inj e).symm))).trans ((World.frozen?_of_block (w := w7) (a := ⟨g, j, none⟩) (Below.heap_alloc _ _ _ hgl.2)).trans hf0); clear hown8 hgrow8 hat8)
          go_ret
          have hg2 : g2 ≠ g := fun e => by
            rcases A8.out with h | h
            · have : g2 = G j := Option.some.inj h
              exact hne.out j hji (by rw [← this, e])
            · have := Option.some.inj h
              simp at this
              omega
          have hs8 := G8.out.size
          simp at hs8
          refine ⟨some ⟨g, 0, none⟩, i, cap, (fun s => if s = j then some ⟨g2, 0, none⟩ else some ⟨G s, 0, none⟩), (fun s => if s = j then m + 1 else m), (fun s => if s = j then cap2 else Cp s), (fun s k => if s = j then (if k < m then XX j k else 1) else XX s k), pi + 1, rfl, ⟨by omega, by omega⟩, ⟨hc7, fun s hs => ?_, ⟨fun b o e => by have := HA7.out.1 b o e; omega, fun s hs b o e => ?_⟩⟩, fun s hs => ?_, ((HR7.out.alloc _).grown G8.out (fun e => by have e : G j = r := Option.some.inj e; omega)).of_block (Below.heap_setCell _ _ _ _ (by show r ≠ g; omega)), by omega, ((HU7.out.alloc (by omega) _).grown G8.out (by simp; omega) (fun k hk => by have e : G j = k := Option.some.inj hk; omega)).setCell (by show w.heap.size ≤ g; omega) _⟩
          · dsimp only
            by_cases e : s = j
            · rw [if_pos e]; omega
            · rw [if_neg e]; omega
          · dsimp only at e
            by_cases e1 : s = j
            · rw [if_pos e1] at e
              cases e
              have := (O8.out.lt g2 rfl).1
              omega
            · rw [if_neg e1] at e
              cases e
              have := ((G7.out.row s hs).lt (G s) rfl).1
              omega
          · dsimp only
            refine ⟨g, 0, rfl, ?_, ?_⟩
            · rw [Nat.zero_add]
              by_cases e : s = j
              · subst e
                rw [if_pos rfl, if_pos rfl, if_pos rfl]
                exact World.cell?_setCell_same' _ _ _ (by rw [hcg]; rfl)
              · rw [if_neg e, if_neg e, if_neg e, World.cell?_setCell_other (a := ⟨g, j, none⟩) (b := ⟨g, s, none⟩) (h := fun h => e (by simp only [Addr.mk.injEq] at h; omega))]
                obtain ⟨b, o, e1, hc, _⟩ := HT7.out s hs
                simp only [Option.some.injEq, Addr.mk.injEq, and_true] at e1
                obtain ⟨rfl, rfl⟩ := e1
                rw [Nat.zero_add] at hc
                exact G8.out.cell (keepg_alloc hc _) (fun e => hne.out j hji (Option.some.inj e).symm)
            · by_cases e : s = j
              · subst e
                simp only [if_true]
                have h3 := O8.out
                rw [cellsL_snoc] at h3
                exact ((OwnR.of_owns h3).of_block (Below.heap_setCell _ _ _ _ (by show g2 ≠ g; exact hg2))).rd
              · simp only [if_neg e]
                have h3 := OwnR.of_owns (G7.out.row s hs)
                have h4 : G s < w7.heap.size := ((G7.out.row s hs).lt (G s) rfl).2
                exact (((h3.of_block (Below.heap_alloc _ _ _ h4)).of_block (G8.out.block _ (by simp; omega) (fun e2 => G7.out.inj s j hs hji e (Option.some.inj e2)))).of_block (Below.heap_setCell _ _ _ _ (by show G s ≠ g; exact hne.out s hs))).rd
        · have d1 : ((x : Int) == 1) = false := beq_eq_false_iff_ne.2 (by omega)
          have HT7 := Lib.hid hT7
          have HA7 := Lib.hid hA7
          clear hT7 hA7
          go_wp2
          go_ret
          exact ⟨some ⟨g, 0, none⟩, i, cap, _, _, _, _, pi + 1, rfl, ⟨by omega, by omega⟩, ⟨hc7, fun s hs => ⟨by omega, by omega⟩, HA7.out.mono (by omega)⟩, HT7.out, HR7.out, by omega, HU7.out⟩
end Go.Proofs.Ytaipodnhnekpjaa
