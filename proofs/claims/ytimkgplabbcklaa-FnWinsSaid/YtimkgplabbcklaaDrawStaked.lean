/- The model's l92Staked. -/
import Derived.Test.YtimkgplabbcklaaDrawOdds
import Derived.Test.YtimkgplabbcklaaSpecOddsStakes
namespace Go.Proofs.Ytimkgplabbcklaa
set_option linter.unusedVariables false
set_option linter.unusedSimpArgs false
open Go.RowKit

set_option maxRecDepth 100000 in
set_option maxHeartbeats 6400000 in
theorem l92Staked_any (n c : Nat) (a : Option Addr) (B : Nat → Nat) (w : World) (hn : n ≤ 1048576) (hc : n ≤ c) (hb : RdB w a n B) (hab : 0 < n → ∀ b o, a = some ⟨b, o, none⟩ → b < w.heap.size) :
    Calls Try.prog 40 #[.slice a n c] w (DrewOO w) := by
  have HB := Lib.hid hb
  have HAL := Lib.hid hab
  clear hb hab
  go_enter Try.func40, Try.ntmps40
  go_wp2_with fail
  refine (l6Open_any n c a _ hn hc).mono ?_
  rintro e w1 ⟨n', c', rfl, hn2, hnn, hR1, hs1, hb1⟩
  have HB1 := Lib.hid ((HB.out.below (Nat.le_refl _) hb1).sub hnn)
  have HR1 := Lib.hid hR1
  have Hb1 := Lib.hid hb1
  have hlt1 : w.heap.size < w1.heap.size := by omega
  have HAL1 := Lib.hid (show 0 < n' → ∀ b o, a = some ⟨b, o, none⟩ → b < w1.heap.size ∧ b ≠ w.heap.size from fun h0 b o e => by have := HAL.out (by omega) b o e; exact ⟨by omega, by omega⟩)
  have HAB1 := Lib.hid (show 0 < n' → ∀ b o, a = some ⟨b, o, none⟩ → b ≠ w.heap.size from fun h0 b o e => (HAL1.out h0 b o e).2)
  have hrl1 := hR1.lt
  clear hR1 hb1 hs1
  go_wp2_with fail
  refine (pick_any w.heap.size n' c' 0 5 a B _ HR1.out HB1.out HAB1.out hn2 (by omega) (by omega) (by omega)).mono ?_
  rintro e w2 ⟨x, rfl, hx, hR2, hK2⟩
  have HR2 := Lib.hid hR2
  have HU2 := Lib.hid (ButR.keeps (B := w1.heap.size) hK2)
  have S2 := Lib.hid (show w2.heap.size = w1.heap.size from hK2.size)
  obtain ⟨q, hq⟩ : ∃ q, q = 2 + x := ⟨_, rfl⟩
  have hq9 : q ≤ 9 := by omega
  have hqw : IntKind.i64.wrap ((2 : Int) + (x : Int)) = (q : Int) := by rw [IntWalk.i64_in _ (by omega)]; omega
  have hqv : wrap64 ((2 : Int) + (x : Int)) = (q : Int) := by rw [IntWalk.wrap64_in _ (by omega)]; omega
  have hqs : IntKind.i64.wrap (q : Int) = (q : Int) := IntWalk.i64_in _ (by omega)
  have hq1 : 2 ≤ q := by omega
  have hq7 : q ≤ 6 := by omega
  clear hR2 hK2 hq
  go_wp2_with fail
  clear hqw hqv hqs
  refine (l92Odds_any w.heap.size n' c' 1 q a B _ HR2.out (HB1.out.but HAL1.out HU2.out) (fun h0 b o e => by have := HAL1.out h0 b o e; have := S2.out; exact ⟨by omega, by omega⟩) hn2 (by omega) (by omega) (by omega)).mono ?_
  rintro e w3 ⟨g, d, X, p3, rfl, ⟨hg1, hg2, hgd⟩, hX, hR3, hp3, hU3⟩
  have HX := Lib.hid hX
  have HR3 := Lib.hid hR3
  have HU3 := Lib.hid (HU2.out.trans (hU3.mono (by have := S2.out; omega)))
  clear hX hR3 hU3
  have hsz3 := HU3.out.size
  have hg1' : w1.heap.size ≤ g := by have := S2.out; omega
  have hrg : w.heap.size ≠ g := by omega
  clear HR2 HU2 S2
  go_wp2_with fail
  refine (specOddsStakes_any q d _ X _ (by omega) HX.out).mono ?_
  rintro e w4 ⟨a4, c4, rfl, hO4, hb4⟩
  have O4 := Lib.hid hO4
  have X4 := Lib.hid (HX.out.below (Nat.le_refl _) hb4)
  have HR4 := Lib.hid (HR3.out.of_block (hb4.block w.heap.size HR3.out.lt))
  have HU4 := Lib.hid (HU3.out.trans (ButR.below (hb4.mono hsz3)))
  have hN7 : stakeN q X ≤ 7 := by
    by_cases h : IsOdds q X
    · rw [stakeN_yes h]; omega
    · rw [stakeN_no h]; omega
  obtain ⟨N, hN⟩ : ∃ N, N = stakeN q X := ⟨_, rfl⟩
  rw [← hN] at O4 hN7 ⊢
  have hs4 := hb4.size
  have hgl4 : g < w4.heap.size := by omega
  clear hO4 hb4 hN HR3 HU3 HX
  cases hT : tt (IsOdds q X) with
  | true =>
    clear hT
    go_wp2_with fail
    refine (pick_any w.heap.size n' c' p3 2 a B _ HR4.out (HB1.out.but HAL1.out HU4.out) HAB1.out hn2 (by omega) (by omega) (by omega)).mono ?_
    rintro e w5 ⟨y, rfl, hy, hR5, hK5⟩
    have HR5 := Lib.hid hR5
    have HU5 := Lib.hid (HU4.out.trans (ButR.keeps hK5))
    have X5 := Lib.hid (rd_but X4.out (Ne.symm hrg) hK5)
    have hgl5 : g < w5.heap.size := by have := hK5.size; omega
    have O5 := Lib.hid (O4.out.keeps (.inr (by omega)) hK5).rd
    clear hR5 hK5 HR4 HU4 X4 O4
    by_cases hy0 : y = 0
    · have d1 : ((y : Int) == 0) = true := by simp [hy0]
      have HY0 := Lib.hid hy0
      clear hy0
      go_wp2
      go_ret2
      exact ⟨g, q, d, X, a4, N, c4, _, rfl, ⟨by omega, by omega, hgd⟩, hN7, X5.out, O5.out, (Hb1.out.trans (HU5.out.toBelow (Nat.le_of_lt hlt1)))⟩
    · have d1 : ((y : Int) == 0) = false := by simp; omega
      have HY0 := Lib.hid hy0
      clear hy0 O5
      go_wp2_with fail
      have hleW : w1.heap.size ≤ w5.heap.size := HU5.out.size
      have HRa := Lib.hid (HR5.out.alloc (.cells #[] 3))
      have HUa := Lib.hid (HU5.out.alloc hleW (.cells #[] 3))
      have HVa := Lib.hid ((ButR.refl w.heap.size w5.heap.size w5).alloc (Nat.le_refl _) (.cells #[] 3))
      have Oa := Lib.hid (show (w5.alloc (.cells #[] 3)).ownsRow w5.heap.size 3 1 (.slice (some ⟨w5.heap.size, 0, none⟩) 0 0) 0 (cellsL 0 (fun _ => 0)) from World.ownsRow_made w5 #[] 0 (Nat.le_refl _) (Nat.zero_le _) (by simp))
      refine (pick_any w.heap.size n' c' (p3 + 1) 24 a B _ HRa.out (HB1.out.but HAL1.out HUa.out) HAB1.out hn2 (by omega) (by omega) (by omega)).mono ?_
      rintro e w6 ⟨z, rfl, hz, hR6, hK6⟩
      have hrW : w.heap.size < w5.heap.size := by omega
      have HR6 := Lib.hid hR6
      have HU6 := Lib.hid (HUa.out.trans (ButR.keeps hK6))
      have HV6 := Lib.hid (HVa.out.trans (ButR.keeps hK6))
      have O6 := Lib.hid (owns_but Oa.out hrW hK6)
      obtain ⟨m, hm⟩ : ∃ m, m = q - z / 23 := ⟨_, rfl⟩
      have hm7' : m ≤ 7 := by omega
      have hzm : IntKind.i64.wrap (m : Int) = (m : Int) := IntWalk.i64_in _ (by omega)
      have hzw : IntKind.i64.wrap ((q : Int) - (z : Int) / 23) = (m : Int) := by rw [IntWalk.i64_in _ (by omega)]; omega
      have hzv : wrap64 ((q : Int) - (z : Int) / 23) = (m : Int) := by rw [IntWalk.wrap64_in _ (by omega)]; omega
      have hm7 : m ≤ 7 := by omega
      clear hR6 hK6 hm Oa HRa HUa HVa
      go_wp2
      clear hzm hzw hzv
      go_loopw [6, 9] (fun o s wr => ∃ (i : Nat) (v : Value) (Y : Nat → Int) (pi : Nat), i ≤ m ∧ s = .int .i64 i ∧ v = o ∧ wr.ownsRow w5.heap.size 3 1 v i (cellsL i Y) ∧ RdrAt wr w.heap.size a n' c' pi ∧ pi ≤ (p3 + 1) + 1 + 2 * i ∧ ButR w.heap.size w5.heap.size w5 wr) (fun _ s _ => m - (intOf s).toNat)
      case atStart => exact ⟨0, _, _, (p3 + 1) + 1, Nat.zero_le _, rfl, rfl, O6.out, HR6.out, by omega, HV6.out⟩
      case round =>
        obtain ⟨i, v, Y, pi, him, rfl, rfl, hO, hRi, hpi, hV⟩ := hrel
        have HO := Lib.hid hO
        have HRi := Lib.hid hRi
        have HV := Lib.hid hV
        have hszv := hV.size
        clear hO hRi hV O6 HR6 HU6 HV6
        by_cases hlt : i < m
        · obtain ⟨i0, hi, hz0, hz1, hz2⟩ := info_parts Try.infoInt
          have tk : True := trivial
          have HUi := Lib.hid (HU5.out.trans (HV.out.mono hleW))
          go_wp2_with (first
            | (have _t := tk; go_at_call 47; refine (pick_any w.heap.size n' c' pi 60 a B _ HRi.out (HB1.out.but HAL1.out HUi.out) HAB1.out hn2 (by omega) (by omega) (by omega)).mono ?_; rintro e w7 ⟨y1, rfl, hy1, hR7, hK7⟩; have HR7 := Lib.hid hR7; have HV7 := Lib.hid (HV.out.trans (ButR.keeps hK7)); have HU7 := Lib.hid (HUi.out.trans (ButR.keeps hK7)); have HO7 := Lib.hid (owns_but HO.out hrW hK7); have S7 := Lib.hid hK7.size; clear hR7 hK7 tk)
            | (go_at_call 47; refine (pick_any w.heap.size n' c' (pi + 1) 60 a B _ HR7.out (HB1.out.but HAL1.out HU7.out) HAB1.out hn2 (by omega) (by omega) (by omega)).mono ?_; rintro e w8 ⟨y2, rfl, hy2, hR8, hK8⟩; have HR8 := Lib.hid hR8; have HV8 := Lib.hid (HV7.out.trans (ButR.keeps hK8)); have HO8 := Lib.hid (owns_but HO7.out hrW hK8); have S8 := Lib.hid (show w8.heap.size = wr.heap.size from hK8.size.trans S7.out); clear hR8 hK8)
            | (at_builtin; refine wpList_append_gen _ (by rfl) (.tmp 42) (.tmp 50) 23 (by rfl) w5.heap.size 3 i0 (.int .i64 0) 8 Try.underlying23 hi hz0 hz1 hz2 (by rfl) v i _ (by rfl) (HO8.out.alloc _) ⟨_, 0, none⟩ 1 1 [.int .i64 ((y1 : Int) - (y2 : Int) / 59 * 60)] (by rfl) (by rfl) (news_one (by simp)) (by simp [Value.oneCell']) (by unfold maxLen; omega) (by omega) (by have := S8.out; simp; omega) ?_; intro v9 w9 hown9 hgrow9 hat9; have O9 := Lib.hid hown9; have G9 := Lib.hid hgrow9; clear hown9 hgrow9 hat9))
          go_roundw
          case rel =>
            have hs8 := S8.out
            have h9 := O9.out
            rw [cellsL_snoc] at h9
            exact ⟨i + 1, v9, _, pi + 1 + 1, by omega, by go_num, rfl, h9, (HR8.out.alloc _).grown G9.out (fun e => by have := (HO8.out.lt _ e).1; omega), by omega, (HV8.out.alloc (by omega) _).grown G9.out (by simp; omega) (fun x hx => (HO8.out.lt x hx).1)⟩
          case measure => simp [intOf]; omega
        · obtain rfl : i = m := by omega
          have HUi := Lib.hid (HU5.out.trans (HV.out.mono hleW))
          have Xi := Lib.hid (show Rd wr (some ⟨g, 0, none⟩) q X from fun k hk => by
            obtain ⟨b', o', he, hcc⟩ := X5.out k hk
            cases he
            exact ⟨g, 0, rfl, (World.cell?_of_block (w := w5) (HV.out.block g hgl5 (by omega))).trans hcc⟩)
          have Yi := Lib.hid (show ∃ ab d', v = .slice ab i d' ∧ Rd wr ab i Y from by
            by_cases hi0 : i = 0
            · subst hi0
              obtain ⟨_, (⟨hv, _⟩ | ⟨g', cap', _, hv, _⟩)⟩ := HO.out
              · exact ⟨none, 0, hv, fun k hk => absurd hk (Nat.not_lt_zero _)⟩
              · exact ⟨_, cap', hv, fun k hk => absurd hk (Nat.not_lt_zero _)⟩
            · obtain ⟨gi, di, rfl⟩ := owns_form HO.out (by omega)
              exact ⟨_, di, rfl, owns_rd HO.out⟩)
          clear HO HV HRi
          obtain ⟨ab, d', rfl, hY⟩ := Yi.out
          have HYi := Lib.hid hY
          clear hY Yi
          go_wp2
          go_ret2
          exact ⟨g, q, d, X, ab, i, d', Y, rfl, ⟨by omega, by omega, hgd⟩, hm7, Xi.out, HYi.out, (Hb1.out.trans (HUi.out.toBelow (Nat.le_of_lt hlt1)))⟩
  | false =>
    clear hT O4
    go_wp2_with fail
    have hleW : w1.heap.size ≤ w4.heap.size := HU4.out.size
    have HRa := Lib.hid (HR4.out.alloc (.cells #[] 3))
    have HUa := Lib.hid (HU4.out.alloc hleW (.cells #[] 3))
    have HVa := Lib.hid ((ButR.refl w.heap.size w4.heap.size w4).alloc (Nat.le_refl _) (.cells #[] 3))
    have Oa := Lib.hid (show (w4.alloc (.cells #[] 3)).ownsRow w4.heap.size 3 1 (.slice (some ⟨w4.heap.size, 0, none⟩) 0 0) 0 (cellsL 0 (fun _ => 0)) from World.ownsRow_made w4 #[] 0 (Nat.le_refl _) (Nat.zero_le _) (by simp))
    refine (pick_any w.heap.size n' c' p3 24 a B _ HRa.out (HB1.out.but HAL1.out HUa.out) HAB1.out hn2 (by omega) (by omega) (by omega)).mono ?_
    rintro e w6 ⟨z, rfl, hz, hR6, hK6⟩
    have hrW : w.heap.size < w4.heap.size := by omega
    have HR6 := Lib.hid hR6
    have HU6 := Lib.hid (HUa.out.trans (ButR.keeps hK6))
    have HV6 := Lib.hid (HVa.out.trans (ButR.keeps hK6))
    have O6 := Lib.hid (owns_but Oa.out hrW hK6)
    obtain ⟨m, hm⟩ : ∃ m, m = q - z / 23 := ⟨_, rfl⟩
    have hm7' : m ≤ 7 := by omega
    have hzm : IntKind.i64.wrap (m : Int) = (m : Int) := IntWalk.i64_in _ (by omega)
    have hzw : IntKind.i64.wrap ((q : Int) - (z : Int) / 23) = (m : Int) := by rw [IntWalk.i64_in _ (by omega)]; omega
    have hzv : wrap64 ((q : Int) - (z : Int) / 23) = (m : Int) := by rw [IntWalk.wrap64_in _ (by omega)]; omega
    have hm7 : m ≤ 7 := by omega
    clear hR6 hK6 hm Oa HRa HUa HVa
    go_wp2
    clear hzm hzw hzv
    go_loopw [6, 9] (fun o s wr => ∃ (i : Nat) (v : Value) (Y : Nat → Int) (pi : Nat), i ≤ m ∧ s = .int .i64 i ∧ v = o ∧ wr.ownsRow w4.heap.size 3 1 v i (cellsL i Y) ∧ RdrAt wr w.heap.size a n' c' pi ∧ pi ≤ p3 + 1 + 2 * i ∧ ButR w.heap.size w4.heap.size w4 wr) (fun _ s _ => m - (intOf s).toNat)
    case atStart => exact ⟨0, _, _, p3 + 1, Nat.zero_le _, rfl, rfl, O6.out, HR6.out, by omega, HV6.out⟩
    case round =>
      obtain ⟨i, v, Y, pi, him, rfl, rfl, hO, hRi, hpi, hV⟩ := hrel
      have HO := Lib.hid hO
      have HRi := Lib.hid hRi
      have HV := Lib.hid hV
      have hszv := hV.size
      clear hO hRi hV O6 HR6 HU6 HV6
      by_cases hlt : i < m
      · obtain ⟨i0, hi, hz0, hz1, hz2⟩ := info_parts Try.infoInt
        have tk : True := trivial
        have HUi := Lib.hid (HU4.out.trans (HV.out.mono hleW))
        go_wp2_with (first
          | (have _t := tk; go_at_call 47; refine (pick_any w.heap.size n' c' pi 60 a B _ HRi.out (HB1.out.but HAL1.out HUi.out) HAB1.out hn2 (by omega) (by omega) (by omega)).mono ?_; rintro e w7 ⟨y1, rfl, hy1, hR7, hK7⟩; have HR7 := Lib.hid hR7; have HV7 := Lib.hid (HV.out.trans (ButR.keeps hK7)); have HU7 := Lib.hid (HUi.out.trans (ButR.keeps hK7)); have HO7 := Lib.hid (owns_but HO.out hrW hK7); have S7 := Lib.hid hK7.size; clear hR7 hK7 tk)
          | (go_at_call 47; refine (pick_any w.heap.size n' c' (pi + 1) 60 a B _ HR7.out (HB1.out.but HAL1.out HU7.out) HAB1.out hn2 (by omega) (by omega) (by omega)).mono ?_; rintro e w8 ⟨y2, rfl, hy2, hR8, hK8⟩; have HR8 := Lib.hid hR8; have HV8 := Lib.hid (HV7.out.trans (ButR.keeps hK8)); have HO8 := Lib.hid (owns_but HO7.out hrW hK8); have S8 := Lib.hid (show w8.heap.size = wr.heap.size from hK8.size.trans S7.out); clear hR8 hK8)
          | (at_builtin; refine wpList_append_gen _ (by rfl) (.tmp 42) (.tmp 50) 23 (by rfl) w4.heap.size 3 i0 (.int .i64 0) 8 Try.underlying23 hi hz0 hz1 hz2 (by rfl) v i _ (by rfl) (HO8.out.alloc _) ⟨_, 0, none⟩ 1 1 [.int .i64 ((y1 : Int) - (y2 : Int) / 59 * 60)] (by rfl) (by rfl) (news_one (by simp)) (by simp [Value.oneCell']) (by unfold maxLen; omega) (by omega) (by have := S8.out; simp; omega) ?_; intro v9 w9 hown9 hgrow9 hat9; have O9 := Lib.hid hown9; have G9 := Lib.hid hgrow9; clear hown9 hgrow9 hat9))
        go_roundw
        case rel =>
          have hs8 := S8.out
          have h9 := O9.out
          rw [cellsL_snoc] at h9
          exact ⟨i + 1, v9, _, pi + 1 + 1, by omega, by go_num, rfl, h9, (HR8.out.alloc _).grown G9.out (fun e => by have := (HO8.out.lt _ e).1; omega), by omega, (HV8.out.alloc (by omega) _).grown G9.out (by simp; omega) (fun x hx => (HO8.out.lt x hx).1)⟩
        case measure => simp [intOf]; omega
      · obtain rfl : i = m := by omega
        have HUi := Lib.hid (HU4.out.trans (HV.out.mono hleW))
        have Xi := Lib.hid (show Rd wr (some ⟨g, 0, none⟩) q X from fun k hk => by
          obtain ⟨b', o', he, hcc⟩ := X4.out k hk
          cases he
          exact ⟨g, 0, rfl, (World.cell?_of_block (w := w4) (HV.out.block g hgl4 (by omega))).trans hcc⟩)
        have Yi := Lib.hid (show ∃ ab d', v = .slice ab i d' ∧ Rd wr ab i Y from by
          by_cases hi0 : i = 0
          · subst hi0
            obtain ⟨_, (⟨hv, _⟩ | ⟨g', cap', _, hv, _⟩)⟩ := HO.out
            · exact ⟨none, 0, hv, fun k hk => absurd hk (Nat.not_lt_zero _)⟩
            · exact ⟨_, cap', hv, fun k hk => absurd hk (Nat.not_lt_zero _)⟩
          · obtain ⟨gi, di, rfl⟩ := owns_form HO.out (by omega)
            exact ⟨_, di, rfl, owns_rd HO.out⟩)
        clear HO HV HRi
        obtain ⟨ab, d', rfl, hY⟩ := Yi.out
        have HYi := Lib.hid hY
        clear hY Yi
        go_wp2
        go_ret2
        exact ⟨g, q, d, X, ab, i, d', Y, rfl, ⟨by omega, by omega, hgd⟩, hm7, Xi.out, HYi.out, (Hb1.out.trans (HUi.out.toBelow (Nat.le_of_lt hlt1)))⟩
end Go.Proofs.Ytimkgplabbcklaa
