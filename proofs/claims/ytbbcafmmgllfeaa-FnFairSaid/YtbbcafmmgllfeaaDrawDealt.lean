/- The draw of deals. -/
import Derived.Test.YtbbcafmmgllfeaaDrawBids
import Derived.Test.YtbbcafmmgllfeaaL7First
import Derived.Test.YtbbcafmmgllfeaaSpecBidIn
/- The model's l92Deal: a drawn deal, or another list. -/
namespace Go.Proofs.Ytbbcafmmgllfeaa
set_option linter.unusedVariables false
set_option linter.unusedSimpArgs false
open Go.RowKit

/-- What l92Deal hands back: a row of N numbers, the reader gone on. -/
def DrewDeal (r N : Nat) (a : Option Addr) (n c p : Nat) (w : World) (e : Ending) (w' : World) : Prop :=
  ∃ (g cap : Nat) (Y : Nat → Int) (p' : Nat), e = .returned (.slice (some ⟨g, 0, none⟩) N cap) ∧ (N ≤ cap ∧ w.heap.size ≤ g ∧ g < w'.heap.size) ∧ Rd w' (some ⟨g, 0, none⟩) N Y ∧ RdrAt w' r a n c p' ∧ p' ≤ p + 20 ∧ ButR r w.heap.size w w'

set_option maxHeartbeats 6400000 in
set_option maxRecDepth 100000 in
theorem l92Deal_any (r n c p lo N gc : Nat) (a ga : Option Addr) (B : Nat → Nat) (A : Nat → Option Addr) (L C : Nat → Nat) (Z : Nat → Nat → Int) (w : World) (hR : RdrAt w r a n c p) (hb : RdB w a n B) (hab : 0 < n → ∀ b o, a = some ⟨b, o, none⟩ → b < w.heap.size ∧ b ≠ r) (hn : n ≤ 2000) (hp : p ≤ 1000)
    (hN1 : 1 ≤ N) (hN4 : N ≤ 4) (hL1 : 1 ≤ L 0) (hL5 : L 0 ≤ 5) (hT : Tab w ga N A L C Z) (hA : Apart lo N ga A) (hrlo : r < lo) :
    Calls Try.prog 64 #[.pointer (some ⟨r, 0, none⟩), .slice ga N gc] w (DrewDeal r N a n c p w) := by
  obtain ⟨i0, hi, hz0, hz1, hz2⟩ := info_parts Try.infoInt
  have hrl := hR.lt
  have HR0 := Lib.hid (hR.alloc (.cells #[] 3))
  have HB := Lib.hid hb
  have HAL := Lib.hid hab
  have HAB := Lib.hid (show 0 < n → ∀ b o, a = some ⟨b, o, none⟩ → b ≠ r from fun h0 b o e => (hab h0 b o e).2)
  obtain ⟨b0, o0, rfl, hc0, _⟩ := hT 0 hN1
  rw [Nat.add_zero] at hc0
  have hb0 := hA.1 b0 o0 rfl
  obtain ⟨m, hm⟩ : ∃ m, m = L 0 := ⟨_, rfl⟩
  rw [← hm] at hc0 hL1 hL5
  have hb0r : b0 ≠ r := by omega
  have hb0l : b0 < w.heap.size := World.block_lt_of_cell? _ _ hc0
  have HC0 := Lib.hid (fun W (hU : ButR r w.heap.size w W) => show W.cell? ⟨b0, o0, none⟩ = some (.slice (A 0) m (C 0)) from (World.cell?_of_block (w := w) (a := ⟨b0, o0, none⟩) (hU.block b0 hb0l hb0r)).trans hc0)
  have U0 := Lib.hid ((ButR.refl r w.heap.size w).alloc (Nat.le_refl _) (.cells #[] 3))
  have O0 := Lib.hid (show (w.alloc (.cells #[] 3)).ownsRow w.heap.size 3 1 (.slice (some ⟨w.heap.size, 0, none⟩) 0 0) 0 (cellsL 0 (fun _ => 0)) from World.ownsRow_made w #[] 0 (Nat.le_refl _) (Nat.zero_le _) (by simp))
  have hNz : (0 : Int) < (N : Int) := by omega
  have hmw : IntKind.i64.wrap ((m : Int) + 1) = ((m + 1 : Nat) : Int) := by rw [IntWalk.i64_in _ (by omega)]; omega
  have HMW := Lib.hid hmw
  clear hR hb hab hT hA hm hc0 hb0 hmw
  go_enter Try.func64, Try.ntmps64
  go_wp2
  go_loopw [5, 6, 7] (fun o u s wr => ∃ (i S : Nat) (v : Value) (Y : Nat → Int) (pi : Nat), i ≤ N ∧ s = .int .i64 i ∧ u = .int .i64 S ∧ S < 2 ^ 5 ∧ v = o ∧ wr.ownsRow w.heap.size 3 1 v i (cellsL i Y) ∧ RdrAt wr r a n c pi ∧ pi ≤ p + 2 * i ∧ ButR r w.heap.size w wr) (fun _ _ s _ => N - (intOf s).toNat)
  case atStart => exact ⟨0, 0, _, _, p, Nat.zero_le _, rfl, rfl, by omega, rfl, O0.out, HR0.out, by omega, U0.out⟩
  case round =>
    obtain ⟨i, S, v, Y, pi, hiN, rfl, rfl, hS, rfl, hO, hRi, hpi, hU⟩ := hrel
    have HO := Lib.hid hO
    have HRi := Lib.hid hRi
    have HU := Lib.hid hU
    have HS := Lib.hid hS
    have hS62 : S < 2 ^ 62 := Nat.lt_of_lt_of_le hS (Nat.pow_le_pow_right (by omega) (by omega))
    have hsz := hU.size
    clear hO hRi hU hS O0 HR0 U0
    by_cases hlt : i < N
    · have hc0 := HC0.out wr HU.out
      have hmw := HMW.out
      go_wp2_with fail
      refine (pick_any r n c pi (m + 1) a B _ HRi.out (HB.out.but HAL.out HU.out) HAB.out hn (by omega) (by omega) (by omega)).mono ?_
      rintro e w5 ⟨y, rfl, hy, hR5, hK5⟩
      have HR5 := Lib.hid hR5
      have HU5 := Lib.hid (HU.out.trans (ButR.keeps hK5))
      have HO5 := Lib.hid (owns_but HO.out hrl hK5)
      have S5 := Lib.hid hK5.size
      clear hR5 hK5 hc0 hmw
      by_cases hy0 : y = 0
      · subst hy0
        clear hS62
        go_wp2_with (at_builtin; refine wpList_append_gen _ (by rfl) (.tmp 44) (.tmp 46) 24 (by rfl) w.heap.size 3 i0 (.int .i64 0) 8 Try.underlying24 hi hz0 hz1 hz2 (by rfl) v i _ (by rfl) (HO5.out.alloc _) ⟨_, 0, none⟩ 1 1 [.int .i64 (-1)] (by rfl) (by rfl) (news_one (by simp)) (by simp [Value.oneCell']) (by unfold maxLen; omega) (by omega) (by have := S5.out; simp; omega) ?_; intro v3 w6 hown6 hgrow6 hat6; have O6 := Lib.hid hown6; have G6 := Lib.hid hgrow6; clear hown6 hgrow6 hat6)
        go_roundw
        case rel =>
          have hs5 := S5.out
          have h6 := O6.out
          rw [cellsL_snoc] at h6
          exact ⟨i + 1, S, v3, _, pi + 1, by omega, by go_num, rfl, HS.out, rfl, h6, (HR5.out.alloc _).grown G6.out (fun e => by have := (HO5.out.lt r e).1; omega), by omega, (HU5.out.alloc (by omega) _).grown G6.out (by simp; omega) (fun x hx => (HO5.out.lt x hx).1)⟩
        case measure => simp [intOf]; omega
      · obtain ⟨x, hx⟩ : ∃ x, y = x + 1 := ⟨y - 1, by omega⟩
        have hx5 : x < 5 := by omega
        have hyw : IntKind.i64.wrap ((y : Int) - 1) = (x : Int) := by rw [IntWalk.i64_in _ (by omega)]; omega
        have hx64 : min x 64 = x := by omega
        have f1 := bit_has S x hS62
        have f2 := bit_put S x hS62 (by omega)
        have hx0 : (0 : Int) ≤ (x : Int) := by omega
        have d1 : decide ((x : Int) ≥ 0) = true := by simp
        have SK := Lib.hid (bit_put_lt HS.out hx5)
        clear hS62 hx hy hy0
        cases hbit : S.testBit x with
        | true =>
          rw [hbit] at f1
          clear hbit
          go_wp2_with fail
          refine (pick_any r n c (pi + 1) 30 a B _ HR5.out (HB.out.but HAL.out HU5.out) HAB.out hn (by omega) (by omega) (by omega)).mono ?_
          rintro e w7 ⟨z, rfl, hz, hR7, hK7⟩
          have HR7 := Lib.hid hR7
          have HU7 := Lib.hid (HU5.out.trans (ButR.keeps hK7))
          have HO7 := Lib.hid (owns_but HO5.out hrl hK7)
          have S7 := Lib.hid (hK7.size.trans S5.out)
          clear hR7 hK7
          by_cases hzz : z = 0
          · subst hzz
            go_wp2_with (at_builtin; refine wpList_append_gen _ (by rfl) (.tmp 44) (.tmp 46) 24 (by rfl) w.heap.size 3 i0 (.int .i64 0) 8 Try.underlying24 hi hz0 hz1 hz2 (by rfl) v i _ (by rfl) (HO7.out.alloc _) ⟨_, 0, none⟩ 1 1 [.int .i64 x] (by rfl) (by rfl) (news_one (by simp)) (by simp [Value.oneCell']) (by unfold maxLen; omega) (by omega) (by have := S7.out; simp; omega) ?_; intro v3 w8 hown8 hgrow8 hat8; have O8 := Lib.hid hown8; have G8 := Lib.hid hgrow8; clear hown8 hgrow8 hat8)
            go_roundw
            case rel =>
              have hs7 := S7.out
              have h8 := O8.out
              rw [cellsL_snoc] at h8
              exact ⟨i + 1, S ||| 2 ^ x, v3, _, pi + 1 + 1, by omega, by go_num, rfl, SK.out, rfl, h8, (HR7.out.alloc _).grown G8.out (fun e => by have := (HO7.out.lt r e).1; omega), by omega, (HU7.out.alloc (by omega) _).grown G8.out (by simp; omega) (fun x hx => (HO7.out.lt x hx).1)⟩
            case measure => simp [intOf]; omega
          · have d2 : decide ((z : Int) > 0) = true := by simp; omega
            have d3 : decide (0 < z) = true := by simp; omega
            have d4 : 0 < z := by omega
            clear hzz
            go_wp2_with (at_builtin; refine wpList_append_gen _ (by rfl) (.tmp 44) (.tmp 46) 24 (by rfl) w.heap.size 3 i0 (.int .i64 0) 8 Try.underlying24 hi hz0 hz1 hz2 (by rfl) v i _ (by rfl) (HO7.out.alloc _) ⟨_, 0, none⟩ 1 1 [.int .i64 (-1)] (by rfl) (by rfl) (news_one (by simp)) (by simp [Value.oneCell']) (by unfold maxLen; omega) (by omega) (by have := S7.out; simp; omega) ?_; intro v3 w8 hown8 hgrow8 hat8; have O8 := Lib.hid hown8; have G8 := Lib.hid hgrow8; clear hown8 hgrow8 hat8)
            go_roundw
            case rel =>
              have hs7 := S7.out
              have h8 := O8.out
              rw [cellsL_snoc] at h8
              exact ⟨i + 1, S, v3, _, pi + 1 + 1, by omega, by go_num, rfl, HS.out, rfl, h8, (HR7.out.alloc _).grown G8.out (fun e => by have := (HO7.out.lt r e).1; omega), by omega, (HU7.out.alloc (by omega) _).grown G8.out (by simp; omega) (fun x hx => (HO7.out.lt x hx).1)⟩
            case measure => simp [intOf]; omega
        | false =>
          rw [hbit] at f1
          clear hbit
          go_wp2_with (at_builtin; refine wpList_append_gen _ (by rfl) (.tmp 44) (.tmp 46) 24 (by rfl) w.heap.size 3 i0 (.int .i64 0) 8 Try.underlying24 hi hz0 hz1 hz2 (by rfl) v i _ (by rfl) (HO5.out.alloc _) ⟨_, 0, none⟩ 1 1 [.int .i64 x] (by rfl) (by rfl) (news_one (by simp)) (by simp [Value.oneCell']) (by unfold maxLen; omega) (by omega) (by have := S5.out; simp; omega) ?_; intro v3 w8 hown8 hgrow8 hat8; have O8 := Lib.hid hown8; have G8 := Lib.hid hgrow8; clear hown8 hgrow8 hat8)
          go_roundw
          case rel =>
            have hs5 := S5.out
            have h8 := O8.out
            rw [cellsL_snoc] at h8
            exact ⟨i + 1, S ||| 2 ^ x, v3, _, pi + 1, by omega, by go_num, rfl, SK.out, rfl, h8, (HR5.out.alloc _).grown G8.out (fun e => by have := (HO5.out.lt r e).1; omega), by omega, (HU5.out.alloc (by omega) _).grown G8.out (by simp; omega) (fun x hx => (HO5.out.lt x hx).1)⟩
          case measure => simp [intOf]; omega
    · obtain rfl : i = N := by omega
      obtain ⟨g, cap, rfl⟩ := owns_form HO.out (by omega)
      clear hS62
      go_wp2
      go_ret
      obtain ⟨k1, k2⟩ := HO.out.lt g rfl
      exact ⟨g, cap, Y, pi, rfl, ⟨(owns_fits HO.out).1, k1, k2⟩, owns_rd HO.out, HRi.out, by omega, HU.out⟩
end Go.Proofs.Ytbbcafmmgllfeaa

/- The model's l92Dealt: drawn bids and a deal that is often best. -/
namespace Go.Proofs.Ytbbcafmmgllfeaa
set_option linter.unusedVariables false
set_option linter.unusedSimpArgs false
open Go.RowKit

/-- Drawn bids and a row of numbers. -/
def DrewDealt (w : World) (e : Ending) (w' : World) : Prop :=
  ∃ (ga : Option Addr) (N gc : Nat) (A : Nat → Option Addr) (L C : Nat → Nat) (Z : Nat → Nat → Int) (b : Option Addr) (q d : Nat) (D : Nat → Int), e = .returned (.tuple #[.slice ga N gc, .slice b q d]) ∧ (1 ≤ N ∧ N ≤ 4 ∧ N ≤ gc) ∧ q ≤ 4 ∧ (∀ s, s < N → 1 ≤ L s ∧ L s ≤ 5) ∧ Tab w' ga N A L C Z ∧ Rd w' b q D ∧ Below w.heap.size w w'

set_option maxRecDepth 100000 in
set_option maxHeartbeats 3200000 in
theorem l92Dealt_any (n c : Nat) (a : Option Addr) (B : Nat → Nat) (w : World) (hn : n ≤ 1048576) (hc : n ≤ c) (hb : RdB w a n B) (hab : 0 < n → ∀ b o, a = some ⟨b, o, none⟩ → b < w.heap.size) :
    Calls Try.prog 26 #[.slice a n c] w (DrewDealt w) := by
  have HB := Lib.hid hb
  have HAL := Lib.hid hab
  clear hb hab
  go_enter Try.func26, Try.ntmps26
  go_wp2_with fail
  refine (l6Open_any n c a _ hn hc).mono ?_
  rintro e w1 ⟨n', c', rfl, hn2, hnn, hR1, hs1, hb1⟩
  have HB1 := Lib.hid ((HB.out.below (Nat.le_refl _) hb1).sub hnn)
  have HR1 := Lib.hid hR1
  have Hb1 := Lib.hid hb1
  have hlt1 : w.heap.size < w1.heap.size := by omega
  have HAL1 := Lib.hid (show 0 < n' → ∀ b o, a = some ⟨b, o, none⟩ → b < w1.heap.size ∧ b ≠ w.heap.size from fun h0 b o e => by have := HAL.out (by omega) b o e; exact ⟨by omega, by omega⟩)
  have HAB := Lib.hid (show 0 < n' → ∀ b o, a = some ⟨b, o, none⟩ → b ≠ w.heap.size from fun h0 b o e => (HAL1.out h0 b o e).2)
  clear hR1 hb1 hs1
  go_wp2_with fail
  refine (l92Bids_any w.heap.size n' c' 0 4 a B _ HR1.out HB1.out HAL1.out hn2 (by omega) (by omega) (by omega)).mono ?_
  rintro e w2 ⟨ga, N, gc, A, L, C, Z, p2, rfl, ⟨hN1, hN4⟩, ⟨hgc, hL, hAp⟩, hT, hR2, hp2, hU2⟩
  have HL := Lib.hid hL
  have HT2 := Lib.hid hT
  have HAp := Lib.hid hAp
  have HR2 := Lib.hid hR2
  have HU2 := Lib.hid hU2
  clear hL hAp hT hR2 hU2
  go_wp2_with fail
  refine (specBidIn_any N gc ga A L C Z w2 (by omega) (fun r hr => by have := HL.out r hr; omega) HT2.out).mono ?_
  rintro e w3 ⟨rfl, hb3⟩
  have hr2 := HR2.out.lt
  have HR3 := Lib.hid (HR2.out.of_block (hb3.block _ hr2))
  have HU3 := Lib.hid (HU2.out.trans (ButR.below (hb3.mono HU2.out.size)))
  have HT3 := Lib.hid (HT2.out.below (Nat.le_refl _) hb3)
  have HS3 := Lib.hid (HU2.out.trans (ButR.below (hb3.mono HU2.out.size))).size
  clear hb3
  by_cases hok : IsBids N L Z
  · have T1 := Lib.hid (tt_of hok)
    rw [T1.out]
    have HOK := Lib.hid hok
    clear hok
    go_wp2_with fail
    refine (pick_any w.heap.size n' c' p2 2 a B _ HR3.out (HB1.out.but HAL1.out HU3.out) HAB.out hn2 (by omega) (by omega) (by omega)).mono ?_
    rintro e w4 ⟨y, rfl, hy, hR4, hK4⟩
    have HR4 := Lib.hid hR4
    have HU4 := Lib.hid (HU3.out.trans (ButR.keeps hK4))
    have HT4 := Lib.hid (tab_but HT3.out HAp.out hlt1 (ButR.keeps hK4))
    clear hR4 hK4
    by_cases hy0 : y = 0
    · subst hy0
      go_wp2_with fail
      refine (l7First_any N gc ga A L C Z w4 HOK.out HT4.out).mono ?_
      rintro e w5 ⟨v, l, G, Cp, rfl, hown, hrow, hl, hb5⟩
      have hp : 0 < l.length := by
        have := bests_pos (Z := Z) (dealsP_none (m := L 0) N)
        rw [← hl, List.length_map] at this
        exact this
      have hM : l.length ≤ 1296 := by
        have h1 : (bestsL N Z (dealsP (L 0) N)).length ≤ (dealsP (L 0) N).length := List.length_filter_le _ _
        rw [← hl, List.length_map] at h1
        exact Nat.le_trans h1 (dealsP_small (by have := HOK.out.1.2.2; omega) hN4)
      obtain ⟨g, cap, rfl⟩ := owns_form hown hp
      have hr4 := HR4.out.lt
      have HR5 := Lib.hid (HR4.out.of_block (hb5.block _ hr4))
      have HU5 := Lib.hid (HU4.out.trans (ButR.below (hb5.mono HU4.out.size)))
      have HT5 := Lib.hid (HT4.out.below (Nat.le_refl _) hb5)
      obtain ⟨M, hMM⟩ : ∃ M, M = l.length := ⟨_, rfl⟩
      have hglt := hown.lt g rfl
      have hU4s := HU4.out.size
      have HO5 := Lib.hid hown
      have HRow := Lib.hid (fun j (hj : j < M) => show ∃ G' C', w5.cell? ⟨g, j, none⟩ = some (.slice (some ⟨G', 0, none⟩) N C') ∧ w4.heap.size ≤ G' ∧ G' < w5.heap.size ∧ ∃ D, Rd w5 (some ⟨G', 0, none⟩) N D from by
        have hjl : j < l.length := by rw [← hMM]; exact hj
        have hck := hown.cells (g := g) rfl j (encB N G Cp (l.getD j 0)) (by simp [List.getD_eq_getElem?_getD, hjl])
        rw [Go.WideShapes.add_plain, Nat.zero_add] at hck
        obtain ⟨k1, k2, k3⟩ := hrow _ (getD_in hjl)
        exact ⟨_, _, hck, k1, k2, _, k3.rd⟩)
      rw [← hMM] at hp hM ⊢
      have hgr : g ≠ w.heap.size := by omega
      have HRd := Lib.hid (show RdrAt w5.drew w.heap.size a n' c' (p2 + 1) from HR5.out)
      have HUd := Lib.hid (show ButR w.heap.size w1.heap.size w1 w5.drew from HU5.out.trans (ButR.below ((Below.refl _ _).drew)))
      have HTd := Lib.hid (show Tab w5.drew ga N A L C Z from HT5.out.drewN 1)
      clear hown hrow hl hb5 hMM HO5
      go_wp2
      go_region_with (go_at_call 63; refine (pick_any w.heap.size n' c' (p2 + 1) M a B _ HRd.out (HB1.out.but HAL1.out HUd.out) HAB.out hn2 (by omega) (by omega) (by omega)).mono ?_; rintro e w6 ⟨z, rfl, hz, hR6, hK6⟩; obtain ⟨G', C', hcz, hG1, hG2, D, hD⟩ := HRow.out z hz; have hc6 : w6.cell? ⟨g, z, none⟩ = some (.slice (some ⟨G', 0, none⟩) N C') := (hK6.cell (p := ⟨g, z, none⟩) (by show g < w.heap.size ∨ w.heap.size + 1 ≤ g; omega)).trans (by simpa using hcz); have HD6 := Lib.hid (rd_but (show Rd w5.drew (some ⟨G', 0, none⟩) N D from hD.drewN 1) (show G' ≠ w.heap.size by omega) hK6); have HU6 := Lib.hid (Hb1.out.trans ((HUd.out.trans (ButR.keeps hK6)).toBelow (Nat.le_of_lt hlt1))); have HT6 := Lib.hid (tab_but HTd.out HAp.out hlt1 (ButR.keeps hK6)); clear hR6 hK6 hcz hG1 hG2 hD)
      all_goals (
        go_wp2
        go_ret2
        exact ⟨ga, N, gc, A, L, C, Z, some ⟨G', 0, none⟩, N, C', D, rfl, ⟨hN1, hN4, hgc⟩, hN4, HL.out, HT6.out, HD6.out, HU6.out⟩)
    · have d0 : ((y : Int) == 0) = false := beq_eq_false_iff_ne.2 (by omega)
      clear hy0
      go_wp2_with fail
      refine (l92Deal_any w.heap.size n' c' (p2 + 1) w1.heap.size N gc a ga B A L C Z w4 HR4.out (HB1.out.but HAL1.out HU4.out) (fun h0 b o e => ⟨by have := HU4.out.size; have := (HAL1.out h0 b o e).1; omega, HAB.out h0 b o e⟩) hn2 (by omega) hN1 hN4 (HL.out 0 hN1).1 (HL.out 0 hN1).2 HT4.out HAp.out hlt1).mono ?_
      rintro e w5 ⟨g, cap, Y, p5, rfl, hg, hY, hR5, hp5, hU5⟩
      have HY := Lib.hid hY
      have HU5 := Lib.hid (Hb1.out.trans ((HU4.out.trans (hU5.mono HU4.out.size)).toBelow (Nat.le_of_lt hlt1)))
      have HT5 := Lib.hid (tab_but HT4.out HAp.out hlt1 hU5)
      clear hY hR5 hU5
      go_wp2
      go_ret2
      exact ⟨ga, N, gc, A, L, C, Z, some ⟨g, 0, none⟩, N, cap, Y, rfl, ⟨hN1, hN4, hgc⟩, hN4, HL.out, HT5.out, HY.out, HU5.out⟩
  · have T1 := Lib.hid (tt_no hok)
    rw [T1.out]
    clear hok
    go_wp2_with fail
    refine (l92Deal_any w.heap.size n' c' p2 w1.heap.size N gc a ga B A L C Z w3 HR3.out (HB1.out.but HAL1.out HU3.out) (fun h0 b o e => ⟨by have := HU3.out.size; have := (HAL1.out h0 b o e).1; omega, HAB.out h0 b o e⟩) hn2 (by omega) hN1 hN4 (HL.out 0 hN1).1 (HL.out 0 hN1).2 HT3.out HAp.out hlt1).mono ?_
    rintro e w5 ⟨g, cap, Y, p5, rfl, hg, hY, hR5, hp5, hU5⟩
    have HY := Lib.hid hY
    have HU5 := Lib.hid (Hb1.out.trans ((HU3.out.trans (hU5.mono HU3.out.size)).toBelow (Nat.le_of_lt hlt1)))
    have HT5 := Lib.hid (tab_but HT3.out HAp.out hlt1 hU5)
    clear hY hR5 hU5
    go_wp2
    go_ret2
    exact ⟨ga, N, gc, A, L, C, Z, some ⟨g, 0, none⟩, N, cap, Y, rfl, ⟨hN1, hN4, hgc⟩, hN4, HL.out, HT5.out, HY.out, HU5.out⟩
end Go.Proofs.Ytbbcafmmgllfeaa
