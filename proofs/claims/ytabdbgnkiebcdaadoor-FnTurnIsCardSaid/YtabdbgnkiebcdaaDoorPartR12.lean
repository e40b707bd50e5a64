/- Texts joined: L3Point, L3Circle, L3Trade, DrawGiven, DrawHouseBlocks, Blocks, HouseBlocks, L3Blocks, SpecHouseBlocks, Tz, TakeModel, TurnModel, L5Take, SpecProofTurnIs, TakeP, EqualInts, GivenTurns. -/
import Derived.Test.YtabdbgnkiebcdaaDoorPartR10
import Derived.Test.YtabdbgnkiebcdaaDoorPartR1
import Derived.Test.YtabdbgnkiebcdaaDoorPartR11
import Derived.Test.YtabdbgnkiebcdaaDoorProg
import Derived.Shelf.Spec.TrailingZeros
import Derived.Test.YtabdbgnkiebcdaaDoorPartR9
import Derived.Test.YtabdbgnkiebcdaaDoorPartR3
import Derived.Test.YtabdbgnkiebcdaaDoorRows
import Derived.Lib.LaidTab
import Derived.LaidLaws
import Derived.Test.YtabdbgnkiebcdaaDoorPartR4
import Derived.Test.YtabdbgnkiebcdaaDoorPartR7
import Derived.StillTailTactics
namespace Go.Proofs.YtabdbgnkiebcdaaDoor
set_option linter.unusedVariables false
open Go.RowKit

set_option maxHeartbeats 800000 in
theorem l3Point_any (n c m : Nat) (a : Option Addr) (X : Nat → Int) (w : World) (hn : n ≤ 5) (hm : m < 2 ^ 62) (hd : IsDiff n n X) (ha : Rd w a n X) :
    Calls Tryd.prog 102 #[.slice a n c, .int .i64 (m : Nat)] w fun e w' => e = .returned (.int .i64 (ptN X m.testBit n : Nat)) ∧ w = w' := by
  have HD := Lib.hid hd
  have HM := Lib.hid hm
  clear hd hm
  go_enter Tryd.func102, Tryd.ntmps102
  go_wp2
  go_loop [4, 5] (fun _ i => ∃ k : Nat, k ≤ n ∧ i = .int .i64 k ∧ ∀ j, j < k → m.testBit (X j).toNat = false) (fun _ i => n - (intOf i).toNat)
  case atStart => exact ⟨0, Nat.zero_le _, rfl, fun j hj => absurd hj (Nat.not_lt_zero _)⟩
  case round =>
    obtain ⟨k, hk, rfl, hno⟩ := hrel
    have HN := Lib.hid hno
    clear hno
    by_cases hlt : k < n
    · obtain ⟨ba, oa, rfl, hca⟩ := ha k hlt
      clear ha
      obtain ⟨x, hx, hxn⟩ := diff_nat HD.out hlt
      have hhas := bit_has m x HM.out
      rw [hx] at hca
      have HX := Lib.hid hx
      clear hx
      by_cases hb : m.testBit x = true
      · rw [hb] at hhas
        have HP := Lib.hid (show ptN X m.testBit n = x by rw [ptN_first HN.out (by rw [HX.out]; exact hb) hlt, HX.out]; rfl)
        clear hb
        go_wp2
        go_ret
        exact ⟨by rw [HP.out]; rfl, rfl⟩
      · have hb' : m.testBit x = false := by simpa using hb
        rw [hb'] at hhas
        have HB := Lib.hid hb'
        clear hb hb'
        go_wp2
        go_round
        case rel => exact ⟨k + 1, by omega, by go_num, fun j hj => by
          by_cases e : j = k
          · subst e; rw [HX.out]; exact HB.out
          · exact HN.out j (by omega)⟩
        case measure => simp [intOf]; omega
    · obtain rfl : k = n := by omega
      clear ha
      have HP := Lib.hid (ptN_none HN.out)
      go_wp2
      go_ret
      exact ⟨by rw [HP.out]; rfl, rfl⟩
end Go.Proofs.YtabdbgnkiebcdaaDoor

namespace Go.Proofs.YtabdbgnkiebcdaaDoor
set_option linter.unusedVariables false
set_option linter.unusedSimpArgs false
open Go.RowKit

set_option maxHeartbeats 1600000 in
theorem l3Circle_any (n c m : Nat) (a : Option Addr) (A : Nat → Option Addr) (L C : Nat → Nat) (Z : Nat → Nat → Int) (w : World) (hW : IsWishes n L Z) (hm : m < 2 ^ n) (ha0 : Tab w a n A L C Z) :
    Calls Tryd.prog 139 #[.slice a n c, .int .i64 (m : Nat)] w fun e w' => e = .returned (.int .i64 (maskN (circB Z n m.testBit) n : Nat)) ∧ w = w' := by
  have hn5 := hW.1.2
  have HA := Lib.hid ha0
  have HW := Lib.hid hW
  have HM := Lib.hid hm
  have hm62 : m < 2 ^ 62 := Nat.lt_trans hm (two_pow_lt (by omega))
  have HM62 := Lib.hid hm62
  obtain ⟨f, hf⟩ : ∃ f, f = ptS Z n m.testBit := ⟨_, rfl⟩
  have QF := Lib.hid hf
  have R0 := Lib.hid (Reach.zero f hm)
  clear ha0 hW hm hm62 hf
  go_enter Tryd.func139, Tryd.ntmps139
  go_wp2
  go_loop [5, 6, 7, 8] (fun st s _ _ => ∃ k K : Nat, k ≤ n ∧ s = .int .i64 k ∧ st = .int .i64 (K : Nat) ∧ Reach n f m.testBit k K) (fun _ s _ _ => n - (intOf s).toNat)
  case atStart => exact ⟨0, m, Nat.zero_le _, rfl, rfl, R0.out⟩
  case round =>
    obtain ⟨k, K, hk, rfl, rfl, hR⟩ := hrel
    have HR := Lib.hid hR
    clear hR R0
    by_cases hlt : k < n
    · go_wp2
      go_loop [7, 8] (fun nx i => ∃ j N : Nat, j ≤ n ∧ i = .int .i64 j ∧ nx = .int .i64 (N : Nat) ∧ Front n f K j N) (fun _ i => n - (intOf i).toNat)
      case atStart => exact ⟨0, 0, Nat.zero_le _, rfl, rfl, Front.zero _ _ _⟩
      case round =>
        obtain ⟨j, N, hj, rfl, rfl, hF⟩ := hrel
        have HF := Lib.hid hF
        clear hF
        by_cases hjl : j < n
        · have hhas := bit_has K j (Nat.lt_trans HR.out.1 (two_pow_lt (by omega)))
          by_cases hb : K.testBit j = true
          · obtain ⟨ba, oa, rfl, hca, hra⟩ := HA.out j hjl
            rw [(HW.out.2 j hjl).1] at hca hra
            have HRd := Lib.hid hra
            rw [hb] at hhas
            obtain ⟨p, hp⟩ : ∃ p, p = f j := ⟨_, rfl⟩
            have hpn : p < n := by
              obtain ⟨z, h1, h2⟩ := (HR.out.2 j).1 hb
              have h3 := it_in (f := f) (P := fun x => m.testBit x = true) (fun i hi => by rw [QF.out]; exact ptS_in HW.out (mask_ppl HM.out) hi) h1 k
              rw [h2] at h3
              rw [hp, QF.out]
              exact mask_ppl HM.out _ (ptS_in HW.out (mask_ppl HM.out) h3)
            have HP := Lib.hid (show ptN (Z j) m.testBit n = p by rw [hp, QF.out]; rfl)
            have hput := bit_put N p (Nat.lt_trans HF.out.1 (two_pow_lt (by omega))) (by omega)
            obtain ⟨N', hN'⟩ : ∃ N', N' = N ||| 2 ^ p := ⟨_, rfl⟩
            rw [← hN'] at hput
            have HN := Lib.hid (show Front n f K (j + 1) N' by rw [hN', hp]; exact HF.out.yes hb (by rw [← hp]; exact hpn))
            clear hp hN' hb hra
            go_wp2_with (go_at_call 102; refine (l3Point_any n (C j) m (A j) (Z j) _ hn5 HM62.out (HW.out.2 j hjl).2 HRd.out).mono ?_; rintro e w' ⟨rfl, rfl⟩; rw [HP.out])
            go_round
            case rel => exact ⟨j + 1, N', by omega, by go_num, rfl, HN.out⟩
            case measure => simp [intOf]; omega
          · have hb' : K.testBit j = false := by simpa using hb
            rw [hb'] at hhas
            have HN := Lib.hid (HF.out.no hb')
            clear hb hb'
            go_wp2
            go_round
            case rel => exact ⟨j + 1, N, by omega, by go_num, rfl, HN.out⟩
            case measure => simp [intOf]; omega
        · obtain rfl : j = n := by omega
          have HN := Lib.hid (HR.out.next HF.out)
          go_wp2
          go_round
          case rel => exact ⟨k + 1, N, by omega, by go_num, rfl, HN.out⟩
          case measure => simp [intOf]; omega
    · obtain rfl : k = n := by omega
      have HK := Lib.hid (show K = maskN (circB Z k m.testBit) k from Reach.all HW.out HM.out (by have := HR.out; rwa [QF.out] at this))
      go_wp2
      go_ret
      exact ⟨by rw [← HK.out]; rfl, rfl⟩
end Go.Proofs.YtabdbgnkiebcdaaDoor

namespace Go.Proofs.YtabdbgnkiebcdaaDoor
set_option linter.unusedVariables false
set_option linter.unusedSimpArgs false
open Go.RowKit

set_option maxHeartbeats 1600000 in
theorem l3Trade_any (n c : Nat) (a : Option Addr) (A : Nat → Option Addr) (L C : Nat → Nat) (Z : Nat → Nat → Int) (w : World) (hW : IsWishes n L Z) (ha0 : Tab w a n A L C Z) :
    Calls Tryd.prog 110 #[.slice a n c] w (RetIN n (giveF Z n) (turnsN Z n : Nat) w) := by
  have hn5 := hW.1.2
  have hn2 := hW.1.1
  have HA := Lib.hid ha0
  have HW := Lib.hid hW
  have hmk := run_make_row' (P := Tryd.prog) 32 3 (.int .i64 0) 8 Tryd.underlying32 Tryd.infoInt rfl .i64 .i64 n (by omega) (by omega)
  obtain ⟨M0, hM0⟩ : ∃ M0, M0 = 2 ^ n - 1 := ⟨_, rfl⟩
  have hp : 2 ^ n ≤ 2 ^ 5 := Nat.pow_le_pow_right (by omega) hn5
  have hp1 := Nat.two_pow_pos n
  have hfull : wrap64 (wrap64 (2 ^ n) - 1) = (M0 : Int) := by
    rw [wrap_pow (show n < 62 by omega), IntWalk.wrap64_in _ (by omega)]; omega
  have HM0 := Lib.hid (show M0 < 2 ^ n ∧ M0 ≤ 31 ∧ ∀ y, M0.testBit y = tS Z n 0 y from ⟨by omega, by omega, fun y => by rw [hM0, Nat.testBit_two_pow_sub_one]; rfl⟩)
  have HFl := Lib.hid hfull
  clear ha0 hW hM0 hp hp1 hfull
  go_enter Tryd.func110, Tryd.ntmps110
  go_wp2
  clear hmk
  have R0 := Lib.hid ((World.rowIs_made w (.int .i64 0) n 3).congr (g := fun y => .int .i64 (gF Z n 0 y : Nat)) (fun y _ => rfl))
  have B0 := Lib.hid (below_alloc (Below.refl _ w) (.cells (madeCells #[.int .i64 0] n) 3))
  go_loopw [5, 6, 7, 8] (fun lf tn _ _ wr => ∃ t M : Nat, tn = .int .i64 t ∧ lf = .int .i64 M ∧ M < 2 ^ n ∧ t + M ≤ 31 ∧ (∀ y, M.testBit y = tS Z n t y) ∧ (∀ s, s < t → ∃ y, tS Z n s y = true) ∧
      wr.rowIs w.heap.size 3 n (fun y => .int .i64 (gF Z n t y : Nat)) ∧ Below w.heap.size w wr) (fun lf _ _ _ _ => (intOf lf).toNat)
  case atStart => exact ⟨0, M0, rfl, by rw [HFl.out], HM0.out.1, by have := HM0.out.2.1; omega, HM0.out.2.2, fun s hs => absurd hs (Nat.not_lt_zero _), R0.out, B0.out⟩
  case round =>
    obtain ⟨t, M, rfl, rfl, hM, htM, hbit, hsome, hrow, hB⟩ := hrel
    have HM := Lib.hid hM
    have HBit := Lib.hid hbit
    have HSome := Lib.hid hsome
    have HR := Lib.hid hrow
    have HB := Lib.hid hB
    clear hM hbit hsome hrow hB R0 B0 HM0
    by_cases hpos : 0 < M
    · have hS := Lib.hid (show M.testBit = tS Z n t from funext HBit.out)
      obtain ⟨K, hK⟩ : ∃ K, K = maskN (circB Z n M.testBit) n := ⟨_, rfl⟩
      have hKb : ∀ y, K.testBit y = circB Z n (tS Z n t) y := fun y => by rw [hK, hS.out]; exact (maskN_is (circB_ppl Z (tS_ppl Z n t))).2 y
      have hKn : K < 2 ^ n := by rw [hK]; exact maskN_lt _ _
      have HK := Lib.hid hK.symm
      have HKb := Lib.hid hKb
      have HKn := Lib.hid hKn
      have HC := Lib.hid (l3Circle_any n c M a A L C Z wr HW.out HM.out (HA.out.below (Nat.le_refl _) HB.out))
      obtain ⟨wo, rfl⟩ : ∃ wo : World, wo = wr := ⟨_, rfl⟩
      clear hK hKb hKn
      go_wp2_with (go_at_call 139; refine HC.out.mono ?_; rintro e w' ⟨rfl, rfl⟩; rw [HK.out])
      clear HC
      go_loopw [8] (fun i wi => ∃ j : Nat, j ≤ n ∧ i = .int .i64 j ∧ wi.rowIs w.heap.size 3 n (fun y => .int .i64 (midF Z n t j y)) ∧ Below w.heap.size w wi) (fun i _ => n - (intOf i).toNat)
      case atStart => exact ⟨0, Nat.zero_le _, rfl, HR.out.congr (fun y _ => by rw [midF_zero]), HB.out⟩
      case round =>
        obtain ⟨j, hj, rfl, hrow, hB⟩ := hrel
        by_cases hjl : j < n
        · have hhas := bit_has K j (Nat.lt_trans HKn.out (two_pow_lt (by omega)))
          by_cases hb : K.testBit j = true
          · have hcb := HKb.out j
            rw [hb] at hcb
            obtain ⟨ba, oa, rfl, hca, hra⟩ := HA.out.below (Nat.le_refl _) hB j hjl
            rw [(HW.out.2 j hjl).1] at hca hra
            have HRd := Lib.hid hra
            rw [hb] at hhas
            have hMM : M < 2 ^ 62 := Nat.lt_trans HM.out (two_pow_lt (by omega))
            have HP := Lib.hid (l3Point_any n (C j) M (A j) (Z j) _ hn5 hMM (HW.out.2 j hjl).2 HRd.out)
            obtain ⟨p, hpp⟩ : ∃ p, p = ptN (Z j) M.testBit n := ⟨_, rfl⟩
            have hc1 := hrow.cell hjl
            have hf1 := hrow.frozen j
            have HN := Lib.hid ((hrow.set j (.int .i64 (p : Nat))).congr (g := fun y => .int .i64 (midF Z n t (j + 1) y)) (fun y _ => by
              have := midF_yes (Z := Z) (n := n) hcb.symm y
              rw [← this]
              by_cases e : y = j
              · rw [if_pos e, if_pos e, hpp, hS.out]; rfl
              · rw [if_neg e, if_neg e]))
            have HBn := Lib.hid hB
            have QP := Lib.hid hpp.symm
            clear hb hra hrow hB hcb hMM hpp
            go_wp2_with (go_at_call 102; refine HP.out.mono ?_; rintro e w' ⟨rfl, rfl⟩; rw [QP.out])
            go_roundw
            case rel => exact ⟨j + 1, by omega, by go_num, HN.out, HBn.out.setCell (Nat.le_refl _) _⟩
            case measure => simp [intOf]; omega
          · have hb' : K.testBit j = false := by simpa using hb
            have hcb := HKb.out j
            rw [hb'] at hhas hcb
            have HN := Lib.hid (hrow.congr (g := fun y => .int .i64 (midF Z n t (j + 1) y)) (fun y _ => by rw [midF_no hcb.symm]))
            have HBn := Lib.hid hB
            clear hb hb' hrow hB hcb
            go_wp2
            go_roundw
            case rel => exact ⟨j + 1, by omega, by go_num, HN.out, HBn.out⟩
            case measure => simp [intOf]; omega
        · obtain rfl : j = n := by omega
          obtain ⟨M', hand, hle, hbit'⟩ := bits_andNot_i64 M K (Nat.lt_trans HM.out (two_pow_lt (by omega))) (Nat.lt_trans HKn.out (two_pow_lt (by omega)))
          have hnew : ∀ y, M'.testBit y = tS Z j (t + 1) y := fun y => by rw [hbit', HBit.out, HKb.out]; rfl
          obtain ⟨y0, hy0⟩ : ∃ y, tS Z j t y = true := by
            obtain ⟨y, hy⟩ := Nat.exists_testBit_of_ne_zero (show M ≠ 0 by omega)
            exact ⟨y, by rw [← HBit.out]; exact hy⟩
          obtain ⟨z, hz⟩ := circB_some HW.out (tS_ppl Z j t) hy0
          have hlt' : M' < M := by
            rcases Nat.lt_or_eq_of_le hle with h | h
            · exact h
            · have h1 := hnew z
              rw [h, HBit.out, circB_gone hz, circB_in hz] at h1; cases h1
          have HN := Lib.hid (hrow.congr (g := fun y => .int .i64 (gF Z j (t + 1) y : Nat)) (fun y hy => by rw [midF_all hy]))
          have HX := Lib.hid (show M' < 2 ^ j ∧ t + 1 + M' ≤ 31 ∧ (∀ y, M'.testBit y = tS Z j (t + 1) y) ∧ ∀ s, s < t + 1 → ∃ y, tS Z j s y = true from ⟨Nat.lt_trans hlt' HM.out, by omega, hnew, fun s hs => by
            by_cases e : s = t
            · subst e; exact ⟨y0, hy0⟩
            · exact HSome.out s (by omega)⟩)
          have HBn := Lib.hid hB
          clear hnew hbit' hy0 hz hrow hB
          go_wp2
          clear hand
          go_roundw
          case rel => exact ⟨t + 1, M', by go_num, rfl, HX.out.1, HX.out.2.1, HX.out.2.2.1, HX.out.2.2.2, HN.out, HBn.out⟩
          case measure => simp [intOf]; omega
    · obtain rfl : M = 0 := by omega
      have HT := Lib.hid (show turnsN Z n = t from turnsN_of ⟨fun y => by rw [← HBit.out]; simp, HSome.out⟩)
      go_wp2
      go_ret2
      have hlt := HR.out.lt
      refine ⟨_, _, by rw [HT.out]; rfl, Nat.le_refl _, .inr ⟨w.heap.size, Nat.le_refl _, hlt, OwnR.of_row (HR.out.congr fun y _ => ?_)⟩, HB.out⟩
      unfold giveF
      rw [HT.out]
end Go.Proofs.YtabdbgnkiebcdaaDoor

namespace Go.Proofs.YtabdbgnkiebcdaaDoor
set_option linter.unusedVariables false
set_option linter.unusedSimpArgs false
open Go.RowKit

set_option maxHeartbeats 3200000 in
theorem l91Given_any (r n c p q : Nat) (a : Option Addr) (B : Nat → Nat) (w : World) (hR : RdrAt w r a n c p) (hb : RdB w a n B) (hab : 0 < n → ∀ b o, a = some ⟨b, o, none⟩ → b < w.heap.size ∧ b ≠ r) (hn : n ≤ 2000) (hp : p ≤ 500) (hq2 : 2 ≤ q) (hq5 : q ≤ 5) :
    Calls Tryd.prog 65 #[.pointer (some ⟨r, 0, none⟩), .int .i64 q] w (DrewGiven r a n c p w) := by
  have hrl := hR.lt
  have HR := Lib.hid hR
  have HB := Lib.hid hb
  have HAL := Lib.hid hab
  have HAB := Lib.hid (show 0 < n → ∀ b o, a = some ⟨b, o, none⟩ → b ≠ r from fun h0 b o e => (hab h0 b o e).2)
  clear hR hb hab
  go_enter Tryd.func65, Tryd.ntmps65
  go_wp2_with fail
  refine (l91Wishes_any r n c p q a B w HR.out HB.out HAL.out hn (by omega) hq2 hq5).mono ?_
  rintro e w2 ⟨ga, N, gc, A, L, C, Z, p2, rfl, ⟨hN1, hN5⟩, ⟨hL, hAp⟩, hT, hR2, hp2, hU2⟩
  have HL := Lib.hid hL
  have HL2 := Lib.hid (show ∀ s, s < N → L s ≤ 1048576 from fun s hs => by have := hL s hs; omega)
  have HT2 := Lib.hid hT
  have HAp := Lib.hid hAp
  have HR2 := Lib.hid hR2
  have HU2 := Lib.hid hU2
  have HI := Lib.hid (specHouseIn_any N gc ga A L C Z w2 (by omega) HL2.out hT)
  clear hL hAp hT hR2 hU2
  by_cases hW : IsWishes N L Z
  · have T1 := Lib.hid (tt_of hW)
    have HW := Lib.hid hW
    clear hW
    go_wp2_with (go_at_call 94; refine HI.out.mono ?_; rintro e w' ⟨rfl, rfl⟩; rw [T1.out])
    go_wp2_with fail
    refine (pick_any r n c p2 3 a B _ HR2.out (HB.out.but HAL.out HU2.out) HAB.out hn (by omega) (by omega) (by omega)).mono ?_
    rintro e w3 ⟨x, rfl, hx, hR3, hK3⟩
    have HR3 := Lib.hid hR3
    have HU3 := Lib.hid (HU2.out.trans (ButR.keeps hK3))
    have HT3 := Lib.hid (tab_but HT2.out HAp.out hrl (ButR.keeps hK3))
    clear hR3 hK3
    by_cases h0 : x = 0
    · have d1 : ((x : Int) == 0) = true := by subst h0; rfl
      clear h0
      go_wp2_with (go_at_call 110; refine (l3Trade_any N gc ga A L C Z _ HW.out HT3.out).mono ?_; rintro e w4 ⟨b, d, rfl, hbd, hO, hb4⟩; have HO := Lib.hid hO; have HB4 := Lib.hid hb4; clear hO hb4)
      go_ret2
      refine ⟨ga, N, gc, A, L, C, Z, b, N, d, _, p2 + 1, rfl, ⟨⟨hN1, hN5⟩, hbd, by omega⟩, ⟨HL.out, HAp.out, ?_⟩, HT3.out.below (Nat.le_refl _) HB4.out, HO.out.rd, HR3.out.of_block (HB4.out.block _ (by have := HU3.out.size; omega)), by omega, HU3.out.trans (ButR.below (HB4.out.mono (HU3.out.size)))⟩
      intro _ g o hg
      rcases HO.out with h | ⟨g', h1, h2, h3⟩
      · omega
      · rcases h3 with h | ⟨o', h4, _⟩
        · omega
        · rw [h4] at hg
          simp only [Option.some.injEq, Addr.mk.injEq] at hg
          have := HU3.out.size
          omega
    · have d1 : ((x : Int) == 0) = false := by simp; omega
      clear h0
      go_wp2_with (go_at_call 111; refine (l91Order_any r n c (p2 + 1) N a B _ HR3.out (HB.out.but HAL.out HU3.out) (fun h0 b o e => ⟨by have := HU3.out.size; have := (HAL.out h0 b o e).1; omega, HAB.out h0 b o e⟩) hn (by omega) hN5).mono ?_; rintro e w4 ⟨g, m, cap, X, p4, rfl, ⟨hg1, hg2, hg3, hg4⟩, hX, hR4, hp4, hU4⟩; have HX := Lib.hid hX; have HR4 := Lib.hid hR4; have HU4 := Lib.hid (HU3.out.trans (hU4.mono HU3.out.size)); have HT4 := Lib.hid (tab_but HT3.out HAp.out hrl hU4); clear hX hR4 hU4)
      go_ret2
      exact ⟨ga, N, gc, A, L, C, Z, some ⟨g, 0, none⟩, m, cap, X, p4, rfl, ⟨⟨hN1, hN5⟩, hg3, by omega⟩, ⟨HL.out, HAp.out, fun _ g' o hg => by simp only [Option.some.injEq, Addr.mk.injEq] at hg; have := HU3.out.size; omega⟩, HT4.out, HX.out, HR4.out, by omega, HU4.out⟩
  · have T1 := Lib.hid (tt_no hW)
    clear hW
    go_wp2_with (first
      | (go_at_call 94; refine HI.out.mono ?_; rintro e w' ⟨rfl, rfl⟩; rw [T1.out])
      | (go_at_call 111; refine (l91Order_any r n c p2 N a B _ HR2.out (HB.out.but HAL.out HU2.out) (fun h0 b o e => ⟨by have := HU2.out.size; have := (HAL.out h0 b o e).1; omega, HAB.out h0 b o e⟩) hn (by omega) hN5).mono ?_; rintro e w4 ⟨g, m, cap, X, p4, rfl, ⟨hg1, hg2, hg3, hg4⟩, hX, hR4, hp4, hU4⟩; have HX := Lib.hid hX; have HR4 := Lib.hid hR4; have HU4 := Lib.hid (HU2.out.trans (hU4.mono HU2.out.size)); have HT4 := Lib.hid (tab_but HT2.out HAp.out hrl hU4); clear hX hR4 hU4))
    go_ret2
    exact ⟨ga, N, gc, A, L, C, Z, some ⟨g, 0, none⟩, m, cap, X, p4, rfl, ⟨⟨hN1, hN5⟩, hg3, by omega⟩, ⟨HL.out, HAp.out, fun _ g' o hg => by simp only [Option.some.injEq, Addr.mk.injEq] at hg; have := HU2.out.size; omega⟩, HT4.out, HX.out, HR4.out, by omega, HU4.out⟩

end Go.Proofs.YtabdbgnkiebcdaaDoor

namespace Go.Proofs.YtabdbgnkiebcdaaDoor
set_option linter.unusedVariables false
open Go.RowKit

theorem results_three {fn : Func} {t u v : Tmp} (h : fn.results = #[.tmp t, .tmp u, .tmp v]) (tmps : Array Value) (P : Program) (w : World) :
    (results fn tmps).run P w = .ok (.tuple #[tmps.getD t undef, tmps.getD u undef, tmps.getD v undef]) w := by
  simp [results, h]
/-- What it hands back. -/
def DrewSet (w : World) (e : Ending) (w' : World) : Prop :=
  ∃ ga N gc A L C Z b m d X x, e = .returned (.tuple #[.slice ga N gc, .slice b m d, .int .i64 x]) ∧ ((1 ≤ N ∧ N ≤ 5) ∧ m ≤ d ∧ m ≤ 6 ∧ -100 ≤ x ∧ x ≤ 100) ∧ (∀ s, s < N → L s ≤ 5) ∧ Tab w' ga N A L C Z ∧ Rd w' b m X ∧ Below w.heap.size w w'

set_option maxHeartbeats 3200000 in
theorem drawHouseBlocks_any (n c : Nat) (a : Option Addr) (B : Nat → Nat) (w : World) (hn : n ≤ 1048576) (hc : n ≤ c) (hb : RdB w a n B) (hab : 0 < n → ∀ b o, a = some ⟨b, o, none⟩ → b < w.heap.size) :
    Calls Tryd.prog 29 #[.slice a n c] w (DrewSet w) := by
  have HB := Lib.hid hb
  have HAL := Lib.hid hab
  clear hb hab
  go_enter Tryd.func29, Tryd.ntmps29
  go_wp2_with fail
  refine (l6Open_any n c a _ hn hc).mono ?_
  rintro e w1 ⟨n', c', rfl, hn2, hnn, hR1, hs1, hb1⟩
  have HB1 := Lib.hid ((HB.out.below (Nat.le_refl _) hb1).sub hnn)
  have HR1 := Lib.hid hR1
  have Hb1 := Lib.hid hb1
  have hlt1 : w.heap.size < w1.heap.size := by omega
  have HAL1 := Lib.hid (show 0 < n' → ∀ b o, a = some ⟨b, o, none⟩ → b < w1.heap.size ∧ b ≠ w.heap.size from fun h0 b o e => by have := HAL.out (by omega) b o e; exact ⟨by omega, by omega⟩)
  have HAB := Lib.hid (show 0 < n' → ∀ b o, a = some ⟨b, o, none⟩ → b ≠ w.heap.size from fun h0 b o e => (HAL1.out h0 b o e).2)
  clear hR1 hb1 hs1
  go_wp2_with fail
  refine (l91Given_any w.heap.size n' c' 0 4 a B _ HR1.out HB1.out HAL1.out hn2 (by omega) (by omega) (by omega)).mono ?_
  rintro e w2 ⟨ga, N, gc, A, L, C, Z, b, m, d, X, p2, rfl, ⟨⟨hN1, hN5⟩, hmd, hm6⟩, ⟨hL, hAp, hAi⟩, hT, hX, hR2, hp2, hU2⟩
  have HL := Lib.hid hL
  have HT2 := Lib.hid hT
  have HX2 := Lib.hid hX
  have HAp := Lib.hid hAp
  have HAi := Lib.hid hAi
  have HR2 := Lib.hid hR2
  have HU2 := Lib.hid hU2
  clear hL hAp hT hR2 hU2 hX hAi
  have hwp := wrap_pow (show N < 62 by omega)
  have g2 : (2 : Nat) ^ N ≤ 32 := Nat.pow_le_pow_right (show 0 < 2 by omega) hN5
  have g1 : 1 ≤ (2 : Nat) ^ N := Nat.pow_pos (by omega)
  obtain ⟨E, hE⟩ : ∃ E, E = 2 ^ N := ⟨_, rfl⟩
  rw [← hE] at hwp g1 g2
  clear hE
  have g3 : E ≤ 1000000 := Nat.le_trans g2 (by omega)
  have g4 : p2 ≤ 1000000 := by clear hwp; omega
  go_wp2_with fail
  refine (pick_any w.heap.size n' c' p2 E a B _ HR2.out (HB1.out.but HAL1.out HU2.out) HAB.out hn2 g4 g1 g3).mono ?_
  rintro e w3 ⟨x, rfl, hx, hR3, hK3⟩
  clear hwp
  have HR3 := Lib.hid hR3
  have HU3 := Lib.hid (HU2.out.trans (ButR.keeps hK3))
  have HT3 := Lib.hid (tab_but HT2.out HAp.out hlt1 (ButR.keeps hK3))
  have HX3 := Lib.hid (rdA_but HX2.out HAi.out hlt1 (ButR.keeps hK3))
  clear hR3 hK3
  go_wp2_with fail
  refine (pick_any w.heap.size n' c' (p2 + 1) 24 a B _ HR3.out (HB1.out.but HAL1.out HU3.out) HAB.out hn2 (by omega) (by omega) (by omega)).mono ?_
  rintro e w5 ⟨y, rfl, hy, hR5, hK5⟩
  have HU5 := Lib.hid (Hb1.out.trans ((HU3.out.trans (ButR.keeps hK5)).toBelow (Nat.le_of_lt hlt1)))
  have HT5 := Lib.hid (tab_but HT3.out HAp.out hlt1 (ButR.keeps hK5))
  have HX5 := Lib.hid (rdA_but HX3.out HAi.out hlt1 (ButR.keeps hK5))
  have hy1 : 0 ≤ (y : Int) / 23 := by omega
  have hy2 : (y : Int) / 23 ≤ 1 := by omega
  clear hR5 hK5
  go_wp2
  (try simp only [Exit.inBlock, Exit.then])
  refine bodyPost_ret (results_three rfl _ _ _) rfl ?_
  have hx1 : (x : Int) ≤ 31 := by omega
  have hwx : wrap64 ((x : Int) - (y : Int) / 23) = (x : Int) - (y : Int) / 23 := IntWalk.wrap64_in _ ⟨by omega, by omega⟩
  exact ⟨ga, N, gc, A, L, C, Z, b, m, d, X, (x : Int) - (y : Int) / 23, by rw [← hwx]; rfl, ⟨⟨hN1, hN5⟩, hmd, hm6, by omega, by omega⟩, HL.out, HT5.out, HX5.out, HU5.out⟩
end Go.Proofs.YtabdbgnkiebcdaaDoor

namespace Go.Proofs.YtabdbgnkiebcdaaDoor
set_option linter.unusedVariables false
set_option linter.unusedSimpArgs false
open Go.RowKit

/-- The library's table lies in its variable. -/
def TzAt (w : World) : Prop := ∀ j, j < 64 → w.cell? ⟨1, j, none⟩ = some (.int .u8 ((Lib.deBruijn64tab.getD j 0 : Nat) : Int))
theorem TzAt.below {w w' : World} {B : Nat} (h : TzAt w) (hB : w.heap.size ≤ B) (hb : Below B w w') : TzAt w' := fun j hj =>
  (hb.cell (p := ⟨_, j, none⟩) (Nat.lt_of_lt_of_le (World.block_lt_of_cell? _ _ (h j hj)) hB)).trans (h j hj)

set_option maxHeartbeats 800000 in
theorem tz64_any (x k idx : Nat) (w : World) (hx0 : ((x : Int) == 0) = false)
    (key : IntKind.u64.wrap (bits BinOp.and IntKind.u64 (x : Int) (IntKind.u64.wrap (-(x : Int))) * 285870213051353865) / 288230376151711744 = (idx : Int))
    (hi : idx < 64) (hk : k < 64) (hcell : w.cell? ⟨1, idx, none⟩ = some (.int .u8 k)) :
    Calls Tryd.prog 160 #[.int .u64 x] w fun e w' => e = .returned (.int .i64 k) ∧ w = w' := by
  have g1 : Tryd.prog.globals[1]? = Tryd.prog.globals[1]? := rfl
  go_enter Tryd.func160, Tryd.ntmps160
  go_wp2_with (simp only [key])
  go_ret
  exact ⟨rfl, rfl⟩

set_option maxHeartbeats 800000 in
theorem trailing_any (x : Nat) (w : World) (hx0 : x ≠ 0) (hx : x < 2 ^ 62) (hT : TzAt w) :
    Calls Tryd.prog 142 #[.int .u64 x] w fun e w' => e = .returned (.int .i64 (Lib.ctz 64 x : Nat)) ∧ w = w' := by
  obtain ⟨hlow, hk⟩ := Lib.lowest_bit 64 x hx0 (by omega)
  obtain ⟨hi, htab⟩ := Lib.deBruijn64_at _ hk
  have hcell := hT _ hi
  rw [htab] at hcell
  have H := Lib.hid (tz64_any x _ _ w (by simp; omega) (tz64_key x _ (by omega) hx0 hlow) hi hk hcell)
  clear hlow hk hi htab hcell hT
  go_enter Tryd.func142, Tryd.ntmps142
  go_wp2_with (go_at_call 160; refine H.out.mono ?_; rintro e w' ⟨rfl, rfl⟩)
  go_ret
  exact ⟨rfl, rfl⟩
/-- The lowest one of a set. -/
theorem ctz_bit {x : Nat} (hx0 : x ≠ 0) (hx : x < 2 ^ 64) : x.testBit (Lib.ctz 64 x) = true := by
  unfold Lib.ctz
  rw [if_neg hx0]
  obtain ⟨m, hm, _⟩ := Lib.ctzFrom_spec 64 x (by omega) hx
  obtain ⟨k, hk⟩ : ∃ k, k = Lib.ctzFrom 64 x := ⟨_, rfl⟩
  rw [← hk] at hm ⊢
  rw [hm, Nat.mul_comm, Nat.testBit_mul_two_pow]
  simp
end Go.Proofs.YtabdbgnkiebcdaaDoor

namespace Go.Proofs.YtabdbgnkiebcdaaDoor
set_option linter.unusedVariables false
set_option linter.unusedSimpArgs false
open Go.RowKit

/-- What improves promises for a set of people. -/
def ImprovesAt (n c : Nat) (a : Option Addr) (A : Nat → Option Addr) (L C : Nat → Nat) (Z : Nat → Nat → Int) (d : Nat) (g : Option Addr) (G : Nat → Int) (S : Nat) : Prop :=
  ∀ (H : Nat) (b : Bool) (w : World), S < 2 ^ n → H < 2 ^ n → Tab w a n A L C Z → Rd w g n G → TzAt w →
    Calls Tryd.prog 114 #[.slice a n c, .slice g n d, .int .i64 (S : Nat), .int .i64 (H : Nat), .bool b] w fun e w' => e = .returned (.bool (tt (ImpP n Z G S H b))) ∧ Below w.heap.size w w'

set_option maxRecDepth 100000 in
set_option maxHeartbeats 6400000 in
theorem improves_any (n c : Nat) (a : Option Addr) (A : Nat → Option Addr) (L C : Nat → Nat) (Z : Nat → Nat → Int) (d : Nat) (g : Option Addr) (G : Nat → Int) (hg : GivenOk n L Z n G) (S : Nat) : ImprovesAt n c a A L C Z d g G S := by
  induction S using Nat.strongRecOn with
  | ind S ih =>
    intro H b w hS hH ha hb hT
    have hn5 := hg.1.1.2
    have hp5 : (2 : Nat) ^ n ≤ 32 := Nat.pow_le_pow_right (show 0 < 2 by omega) hn5
    by_cases h0 : S = 0
    · subst h0
      have HE := Lib.hid (show tt (ImpP n Z G 0 H b) = b by
        cases b
        · exact tt_no (fun h => by have := impP_zero.1 h; cases this)
        · exact tt_of (impP_zero.2 rfl))
      clear ih ha hb hT hg
      go_enter Tryd.func114, Tryd.ntmps114
      go_wp2
      go_ret
      exact ⟨by rw [HE.out]; rfl, Below.refl _ _⟩
    · have hbit := ctz_bit h0 (show S < 2 ^ 64 by omega)
      have hTR := Lib.hid (trailing_any S w h0 (by omega) hT)
      obtain ⟨p, hp⟩ : ∃ p, p = Lib.ctz 64 S := ⟨_, rfl⟩
      rw [← hp] at hbit
      have QP := Lib.hid hp
      have hpn := bit_lt hS hbit
      obtain ⟨ba, oa, rfl, hcp, hrp⟩ := ha p hpn
      rw [(hg.1.2 p hpn).1] at hcp hrp
      obtain ⟨bg, og, rfl, hcg⟩ := hb p hpn
      obtain ⟨y, hy⟩ : ∃ y, y = G p := ⟨_, rfl⟩
      rw [← hy] at hcg
      have QY := Lib.hid hy
      have HG := Lib.hid hg
      have HD := Lib.hid (hg.1.2 p hpn).2
      have HA := Lib.hid ha
      have HB := Lib.hid hb
      have HT := Lib.hid hT
      have HRp := Lib.hid hrp
      have HBit := Lib.hid hbit
      have IH := Lib.hid ih
      obtain ⟨S1, hand1, hle1, hb1⟩ := bits_andNot_i64 S (2 ^ p) (by omega) (two_pow_lt (by omega))
      rw [← wrap_pow (show p < 62 by omega)] at hand1
      have hS1 : ∀ y, S1.testBit y = (S.testBit y && !decide (y = p)) := fun y => by
        rw [hb1 y, Nat.testBit_two_pow]
        by_cases e : y = p
        · subst e; simp
        · have : ¬ p = y := fun h => e h.symm
          simp [e, this]
      have hlt1 : S1 < S := by
        rcases Nat.lt_or_eq_of_le hle1 with h | h
        · exact h
        · have := hS1 p
          rw [h, hbit] at this
          simp at this
      have HS1 := Lib.hid hS1
      have hwc : IntKind.u64.wrap (S : Int) = (S : Int) := by rw [IntKind.wrap_u64]; omega
      have hz : ((S : Int) == 0) = false := by simp; omega
      have p1 : (0 : Int) ≤ (p : Int) := by omega
      have p2 : (p : Int) < (n : Int) := by omega
      have hwl := World.block_lt_of_cell? _ _ hcp
      clear ih ha hb hT hg hbit hb1 hS1 hle1 hp hy hrp
      go_enter Tryd.func114, Tryd.ntmps114
      go_wp2_with (go_at_call 142; refine hTR.out.mono ?_; rintro e w' ⟨rfl, rfl⟩; rw [← QP.out])
      go_loopw [13, 14, 26] (fun _ _ s wr => ∃ k : Nat, k ≤ n ∧ s = .int .i64 k ∧ Below w.heap.size w wr ∧ ∀ j, j < k → Tried n Z G S H b p (Z p j).toNat ∧ Z p j ≠ y) (fun _ _ s _ => n - (intOf s).toNat)
      case atStart => exact ⟨0, Nat.zero_le _, rfl, Below.refl _ _, fun j hj => absurd hj (Nat.not_lt_zero _)⟩
      case round =>
        obtain ⟨k, hk, rfl, hB, hF⟩ := hrel
        have BR := Lib.hid hB
        have TR := Lib.hid hF
        clear hB hF
        by_cases hlt : k < n
        · obtain ⟨br, or, hrow, hck⟩ := (HRp.out.below (Nat.le_refl _) BR.out) k hlt
          obtain ⟨x, hx, hxn⟩ := diff_nat HD.out hlt
          rw [hx] at hck
          have QX := Lib.hid hx
          have hcg2 := (BR.out.cell (p := ⟨bg, og + p, none⟩) (World.block_lt_of_cell? _ _ hcg)).trans hcg
          rw [hrow]
          have HF2 := Lib.hid (show ∀ j, j < k → Tried n Z G S H b p (Z p j).toNat from fun j hj => (TR.out j hj).1)
          have hIdx := Lib.hid (show idxF (Z p) (x : Nat) n ≤ idxF (Z p) (G p) n by
            have e1 : idxF (Z p) (x : Nat) n = k := by rw [← QX.out]; exact idx_diff HD.out hlt
            obtain ⟨j, hj, ej⟩ := HD.out.all (r := (G p).toNat) (by have := HG.out.at hpn; have h1 := this.1; have h2 := this.2; omega)
            have ej2 : Z p j = G p := by rw [ej]; have := (HG.out.at hpn).1; omega
            have e2 : idxF (Z p) (G p) n = j := by rw [← ej2]; exact idx_diff HD.out hj
            rw [e1, e2]
            have : ¬ j < k := fun h => (TR.out j h).2 (by rw [ej2, QY.out])
            omega)
          have c1 : ∀ r : Later wr, r.W.cell? ⟨br, or + k, none⟩ = some (.int .i64 x) := fun r => later_cell hck r
          have c2 : ∀ r : Later wr, r.W.cell? ⟨bg, og + p, none⟩ = some (.int .i64 y) := fun r => later_cell hcg2 r
          have hhas := bit_has H x (by omega)
          by_cases hbx : H.testBit x = true
          · rw [hbx] at hhas
            have HBX := Lib.hid hbx
            obtain ⟨H1, hand2, hle2, hb2⟩ := bits_andNot_i64 H (2 ^ x) (by omega) (two_pow_lt (by omega))
            rw [← wrap_pow (show x < 62 by omega)] at hand2
            have hH1 : ∀ y, H1.testBit y = (H.testBit y && !decide (y = x)) := fun y => by
              rw [hb2 y, Nat.testBit_two_pow]
              by_cases e : y = x
              · subst e; simp
              · have : ¬ x = y := fun h => e h.symm
                simp [e, this]
            have HH1 := Lib.hid hH1
            have IHC := Lib.hid (fun (bb : Bool) (r : Later wr) => IH.out S1 hlt1 H1 bb r.W (by omega) (by omega) (HA.out.below (Nat.le_refl _) (BR.out.trans (r.h.mono BR.out.size))) (HB.out.below (Nat.le_refl _) (BR.out.trans (r.h.mono BR.out.size))) (HT.out.below (Nat.le_refl _) (BR.out.trans (r.h.mono BR.out.size))))
            clear hH1 hb2 hle2 hbx
            by_cases hi : ImpP n Z G S1 H1 (b || !(decide ((x : Int) = y)))
            · have HE := Lib.hid (tt_of (impP_take HBit.out HBX.out HS1.out HH1.out hIdx.out (by rw [← QY.out]; exact hi)))
              have IHX := Lib.hid (fun r : Later wr => (show Calls Tryd.prog 114 #[.slice (some ⟨ba, oa, none⟩) n c, .slice (some ⟨bg, og, none⟩) n d, .int .i64 (S1 : Nat), .int .i64 (H1 : Nat), .bool (b || !(decide ((x : Int) = y)))] r.W fun e w' => e = .returned (.bool true) ∧ Below r.W.heap.size r.W w' from by
                have := IHC.out (b || !(decide ((x : Int) = y))) r
                rwa [tt_of hi] at this))
              clear hi IHC
              by_cases hs : (x : Int) = y
              · have d1 : ((x : Int) == y) = true := by simp [hs]
                have d3 : decide ((x : Int) = y) = true := decide_eq_true hs
                have QD := Lib.hid d3
                rw [d3] at IHX
                clear hs d3
                cases b
                all_goals (
                  go_wp2
                  refine wp_region_later (by kernel_rfl) (by kernel_rfl) ?_
                  repeat go_big_quiet_step (((go_at_call 114; exact calls_later _ (IHX.out _))))
                  refine wpQuiet_nil ?_
                  rintro _ ⟨r, rfl⟩
                  have BL := Lib.hid (BR.out.trans (r.h.mono BR.out.size))
                  clear IHX c1 c2
                  go_wp2
                  go_ret
                  exact ⟨by rw [HE.out]; rfl, BL.out⟩)
              · have d1 : ((x : Int) == y) = false := by simp [hs]
                have d3 : decide ((x : Int) = y) = false := decide_eq_false hs
                rw [d3] at IHX
                clear hs d3
                cases b
                all_goals (
                  go_wp2
                  refine wp_region_later (by kernel_rfl) (by kernel_rfl) ?_
                  repeat go_big_quiet_step (((go_at_call 114; exact calls_later _ (IHX.out _))))
                  refine wpQuiet_nil ?_
                  rintro _ ⟨r, rfl⟩
                  have BL := Lib.hid (BR.out.trans (r.h.mono BR.out.size))
                  clear IHX c1 c2
                  go_wp2
                  go_ret
                  exact ⟨by rw [HE.out]; rfl, BL.out⟩)
            · have TK := Lib.hid (show Tried n Z G S H b p (Z p k).toNat by rw [QX.out]; exact tried_of HS1.out HH1.out (by rw [← QY.out]; exact hi))
              have IHX := Lib.hid (fun r : Later wr => (show Calls Tryd.prog 114 #[.slice (some ⟨ba, oa, none⟩) n c, .slice (some ⟨bg, og, none⟩) n d, .int .i64 (S1 : Nat), .int .i64 (H1 : Nat), .bool (b || !(decide ((x : Int) = y)))] r.W fun e w' => e = .returned (.bool false) ∧ Below r.W.heap.size r.W w' from by
                have := IHC.out (b || !(decide ((x : Int) = y))) r
                rwa [tt_no hi] at this))
              clear hi IHC
              by_cases hs : (x : Int) = y
              · have d1 : ((x : Int) == y) = true := by simp [hs]
                have HE := Lib.hid (tt_no (no_imp (k := k + 1) HBit.out hH HD.out (by omega) (fun j hj => by
                  by_cases e : j = k
                  · rw [e]; exact TK.out
                  · exact HF2.out j (by omega)) (.inr ⟨k, rfl, by rw [QX.out, hs, QY.out]⟩)))
                have d3 : decide ((x : Int) = y) = true := decide_eq_true hs
                rw [d3] at IHX
                clear hs d3
                cases b
                all_goals (
                  go_wp2
                  refine wp_region_later (by kernel_rfl) (by kernel_rfl) ?_
                  repeat go_big_quiet_step (((go_at_call 114; exact calls_later _ (IHX.out _))))
                  refine wpQuiet_nil ?_
                  rintro _ ⟨r, rfl⟩
                  have BL := Lib.hid (BR.out.trans (r.h.mono BR.out.size))
                  clear IHX c1 c2
                  go_wp2
                  go_ret
                  exact ⟨by rw [HE.out]; rfl, BL.out⟩)
              · have d1 : ((x : Int) == y) = false := by simp [hs]
                have HNE := Lib.hid hs
                have d3 : decide ((x : Int) = y) = false := decide_eq_false hs
                rw [d3] at IHX
                clear hs d3
                cases b
                all_goals (
                  go_wp2
                  refine wp_region_later (by kernel_rfl) (by kernel_rfl) ?_
                  repeat go_big_quiet_step (((go_at_call 114; exact calls_later _ (IHX.out _))))
                  refine wpQuiet_nil ?_
                  rintro _ ⟨r, rfl⟩
                  have BL := Lib.hid (BR.out.trans (r.h.mono BR.out.size))
                  clear IHX c1 c2
                  go_wp2
                  go_roundw
                  case rel => exact ⟨k + 1, by omega, by go_num, BL.out, fun j hj => by
                    by_cases e : j = k
                    · rw [e]; exact ⟨TK.out, by rw [QX.out]; exact HNE.out⟩
                    · exact TR.out j (by omega)⟩
                  case measure => simp [intOf]; omega)
          · have hbx' : H.testBit x = false := by simpa using hbx
            rw [hbx'] at hhas
            have TK := Lib.hid (show Tried n Z G S H b p (Z p k).toNat by rw [QX.out]; exact tried_no hbx')
            clear hbx hbx'
            by_cases hs : (x : Int) = y
            · have d1 : ((x : Int) == y) = true := by simp [hs]
              have HE := Lib.hid (tt_no (no_imp (k := k + 1) HBit.out hH HD.out (by omega) (fun j hj => by
                by_cases e : j = k
                · rw [e]; exact TK.out
                · exact HF2.out j (by omega)) (.inr ⟨k, rfl, by rw [QX.out, hs, QY.out]⟩)))
              clear hs
              go_wp2
              refine wp_region_later (by kernel_rfl) (by kernel_rfl) ?_
              repeat go_big_quiet_step (fail)
              refine wpQuiet_nil ?_
              rintro _ ⟨r, rfl⟩
              have BL := Lib.hid (BR.out.trans (r.h.mono BR.out.size))
              clear c1 c2
              go_wp2
              go_ret
              exact ⟨by rw [HE.out]; rfl, BL.out⟩
            · have d1 : ((x : Int) == y) = false := by simp [hs]
              have HNE := Lib.hid hs
              clear hs
              go_wp2
              refine wp_region_later (by kernel_rfl) (by kernel_rfl) ?_
              repeat go_big_quiet_step (fail)
              refine wpQuiet_nil ?_
              rintro _ ⟨r, rfl⟩
              have BL := Lib.hid (BR.out.trans (r.h.mono BR.out.size))
              clear c1 c2
              go_wp2
              go_roundw
              case rel => exact ⟨k + 1, by omega, by go_num, BL.out, fun j hj => by
                by_cases e : j = k
                · rw [e]; exact ⟨TK.out, by rw [QX.out]; exact HNE.out⟩
                · exact TR.out j (by omega)⟩
              case measure => simp [intOf]; omega
        · obtain rfl : k = n := by omega
          have HE := Lib.hid (tt_no (no_imp HBit.out hH HD.out (Nat.le_refl _) (fun j hj => (TR.out j hj).1) (.inl rfl)))
          go_wp2
          go_ret
          exact ⟨by rw [HE.out]; rfl, BR.out⟩
end Go.Proofs.YtabdbgnkiebcdaaDoor

namespace Go.Proofs.YtabdbgnkiebcdaaDoor
set_option linter.unusedVariables false
set_option linter.unusedSimpArgs false
open Go.RowKit

theorem blocks_any (n c : Nat) (a : Option Addr) (A : Nat → Option Addr) (L C : Nat → Nat) (Z : Nat → Nat → Int) (d : Nat) (g : Option Addr) (G : Nat → Int) (S : Nat) (w : World) (hg : GivenOk n L Z n G) (hS : S < 2 ^ n) (ha : Tab w a n A L C Z) (hb : Rd w g n G) (hT : TzAt w) :
    Calls Tryd.prog 69 #[.slice a n c, .slice g n d, .int .i64 (S : Nat)] w fun e w' => e = .returned (.bool (tt (BlocksP n Z G S))) ∧ Below w.heap.size w w' := by
  have H := Lib.hid (improves_any n c a A L C Z d g G hg S S false w hS hS ha hb hT)
  clear hg ha hb hT
  go_enter Tryd.func69, Tryd.ntmps69
  go_wp2_with (go_at_call 114; refine H.out.mono ?_; rintro e w1 ⟨rfl, hb1⟩; have B1 := Lib.hid hb1; clear hb1)
  go_ret
  exact ⟨rfl, B1.out⟩
end Go.Proofs.YtabdbgnkiebcdaaDoor

namespace Go.Proofs.YtabdbgnkiebcdaaDoor
set_option linter.unusedVariables false
set_option linter.unusedSimpArgs false
open Go.RowKit

theorem blocksOk_iff' {n m S : Nat} {L : Nat → Nat} {Z : Nat → Nat → Int} {G : Nat → Int} (h1 : GivenOk n L Z m G) (hS : S < 2 ^ n) : BlocksP n Z G S ↔ BlocksOk n L Z m G (S : Nat) := by
  constructor
  · intro h
    exact ⟨h1, ⟨by omega, by have : 1 ≤ (2 : Nat) ^ n := Nat.pow_pos (by omega); omega⟩, by simpa using h⟩
  · rintro ⟨_, _, h⟩
    simpa using h

set_option maxHeartbeats 800000 in
theorem houseBlocks_any (n c : Nat) (a : Option Addr) (A : Nat → Option Addr) (L C : Nat → Nat) (Z : Nat → Nat → Int) (m d : Nat) (b : Option Addr) (G : Nat → Int) (x : Int) (w : World) (hT : TzAt w) (hn0 : n ≤ 1048576) (hL0 : ∀ r, r < n → L r ≤ 1048576) (ha0 : Tab w a n A L C Z) (hm1 : m ≤ 1048576) (hb1 : Rd w b m G) (hx2 : I64 x) :
    Calls Tryd.prog 30 #[.slice a n c, .slice b m d, .int .i64 x] w fun e w' => e = .returned (.bool (tt (BlocksOk n L Z m G x))) ∧ Below w.heap.size w w' := by
  have H := Lib.hid (readGiven_any n c a A L C Z m d b G w hn0 hL0 ha0 hm1 hb1)
  by_cases h1 : GivenOk n L Z m G
  · have T1 := Lib.hid (tt_of h1)
    obtain rfl : m = n := h1.2.1
    have hn5 := h1.1.1.2
    have g2 : (2 : Nat) ^ m ≤ 32 := Nat.pow_le_pow_right (show 0 < 2 by omega) hn5
    have g1 : 1 ≤ (2 : Nat) ^ m := Nat.pow_pos (by omega)
    obtain ⟨E, hE⟩ : ∃ E, E = 2 ^ m := ⟨_, rfl⟩
    have QE := Lib.hid hE
    by_cases h2 : 0 ≤ x
    · have d1 : decide (0 ≤ x) = true := decide_eq_true h2
      obtain ⟨S, rfl⟩ := Int.eq_ofNat_of_zero_le h2
      by_cases h3 : (S : Int) ≤ (E : Int) - 1
      · have d2 : decide ((S : Int) ≤ (E : Int) - 1) = true := decide_eq_true h3
        have hS : S < 2 ^ m := by rw [← hE]; omega
        have HM := Lib.hid (blocks_any m c a A L C Z d b G S w h1 hS ha0 hb1 hT)
        have HE := Lib.hid (tt_congr (blocksOk_iff' h1 hS))
        rw [← hE] at g1 g2
        clear h1 h2 h3 hS ha0 hL0 hb1 hx2 hE hT
        go_enter Tryd.func30, Tryd.ntmps30
        go_wp2_with (first
          | (go_at_call 67; refine H.out.mono ?_; rintro e w' ⟨rfl, rfl⟩; rw [T1.out])
          | (go_at_call 68; refine (everybody_any m c a _ hn5).mono ?_; rintro e w' ⟨rfl, rfl⟩; rw [← QE.out])
          | (go_at_call 69; refine HM.out.mono ?_; rintro e w1 ⟨rfl, hb⟩; rw [HE.out]; have HB := Lib.hid hb; clear hb))
        go_ret
        exact ⟨rfl, HB.out⟩
      · have d2 : decide ((S : Int) ≤ (E : Int) - 1) = false := decide_eq_false h3
        have HE := Lib.hid (tt_no (show ¬ BlocksOk m L Z m G (S : Nat) from fun h => h3 (by have := h.2.1.2; rw [← hE] at this; omega)))
        rw [← hE] at g1 g2
        clear h1 h2 h3 ha0 hL0 hb1 hx2 hE hT
        go_enter Tryd.func30, Tryd.ntmps30
        go_wp2_with (first
          | (go_at_call 67; refine H.out.mono ?_; rintro e w' ⟨rfl, rfl⟩; rw [T1.out])
          | (go_at_call 68; refine (everybody_any m c a _ hn5).mono ?_; rintro e w' ⟨rfl, rfl⟩; rw [← QE.out]))
        go_ret
        exact ⟨by rw [HE.out]; rfl, Below.refl _ _⟩
    · have d1 : decide (0 ≤ x) = false := decide_eq_false h2
      have HE := Lib.hid (tt_no (show ¬ BlocksOk m L Z m G x from fun h => h2 h.2.1.1))
      clear h1 h2 ha0 hL0 hb1 hx2 hE hT
      go_enter Tryd.func30, Tryd.ntmps30
      go_wp2_with (first
        | (go_at_call 67; refine H.out.mono ?_; rintro e w' ⟨rfl, rfl⟩; rw [T1.out]))
      go_ret
      exact ⟨by rw [HE.out]; rfl, Below.refl _ _⟩
  · have T1 := Lib.hid (tt_no h1)
    have HE := Lib.hid (tt_no (show ¬ BlocksOk n L Z m G x from fun h => h1 h.1))
    clear h1 ha0 hL0 hb1 hx2 hT
    go_enter Tryd.func30, Tryd.ntmps30
    go_wp2_with (first
      | (go_at_call 67; refine H.out.mono ?_; rintro e w' ⟨rfl, rfl⟩; rw [T1.out]))
    go_ret
    exact ⟨by rw [HE.out]; rfl, Below.refl _ _⟩
end Go.Proofs.YtabdbgnkiebcdaaDoor

namespace Go.Proofs.YtabdbgnkiebcdaaDoor
set_option linter.unusedVariables false
set_option linter.unusedSimpArgs false
open Go.RowKit

/-- This giving shows that the set blocks. -/
def Shows (n : Nat) (Z : Nat → Nat → Int) (G : Nat → Int) (S : Nat) (D : List Int) : Prop := OwnP n S (nth D) ∧ BetterP n Z S G (nth D)
set_option maxHeartbeats 1600000 in
theorem l3Blocks_any (n c : Nat) (a : Option Addr) (A : Nat → Option Addr) (L C : Nat → Nat) (Z : Nat → Nat → Int) (d : Nat) (g : Option Addr) (G : Nat → Int) (S : Nat) (w : World) (hg : GivenOk n L Z n G) (hS : S < 2 ^ n) (ha0 : Tab w a n A L C Z) (hb : Rd w g n G) :
    Calls Tryd.prog 71 #[.slice a n c, .slice g n d, .int .i64 (S : Nat)] w fun e w' => e = .returned (.bool (tt (BlocksP n Z G S))) ∧ Below w.heap.size w w' := by
  have hn2 := hg.1.1.1
  have hn5 := hg.1.1.2
  have HI := Lib.hid (blocks_iff hg hS)
  obtain ⟨LL, hLL⟩ : ∃ LL, LL = givs n n [] := ⟨_, rfl⟩
  have QL := Lib.hid hLL
  have hM := Nat.le_trans (givs_le (n := n) hn5 n []) (Nat.pow_le_pow_right (show 0 < 6 by omega) hn5)
  rw [← hLL] at hM
  obtain ⟨M, hM2⟩ : ∃ M, M = LL.length := ⟨_, rfl⟩
  rw [← hM2] at hM
  have QM := Lib.hid hM2
  have AT := Lib.hid (show ∀ x, x < M → LL.getD x [] ∈ givs n n [] ∧ lenL LL x = n ∧ IsDiff n n (nth (LL.getD x [])) from fun x hx => by
    rw [hM2] at hx
    have hm : LL.getD x [] ∈ LL := by
      rw [List.getD_eq_getElem?_getD, List.getElem?_eq_getElem hx]
      exact List.getElem_mem hx
    rw [hLL] at hm ⊢
    have h3 := (mem_givs n [] (Diff.nil n) (by simp) _).1 hm
    refine ⟨hm, h3.2.1, ?_⟩
    have h4 := h3.1
    unfold Diff at h4
    rwa [h3.2.1] at h4)
  have HA := Lib.hid ha0
  have HG := Lib.hid hg
  have HBB := Lib.hid hb
  have HS := Lib.hid hS
  clear hg ha0 hb hS hLL hM2
  go_enter Tryd.func71, Tryd.ntmps71
  go_wp2_with (go_at_call 53; refine (l3GivingsAll_any n hn2 hn5 _ 0 _ (by simp)).mono ?_; rintro e w1 ⟨v, G', Cp, rfl, hMk, hb⟩; rw [← QL.out, ← QM.out] at hMk; obtain ⟨a1, c1, rfl, hO⟩ := hMk.slice; have HO := Lib.hid hO.tab; have HB := Lib.hid ((below_alloc (Below.refl w.heap.size w) _).trans (hb.mono (by simp))); clear hb hO hMk)
  go_loopw [8] (fun i wr => ∃ x : Nat, x ≤ M ∧ i = .int .i64 x ∧ Below w1.heap.size w1 wr ∧ ∀ j, j < x → ¬ Shows n Z G S (LL.getD j [])) (fun i _ => M - (intOf i).toNat)
  case atStart => exact ⟨0, Nat.zero_le _, rfl, Below.refl _ _, fun j hj => by omega⟩
  case round =>
    obtain ⟨x, hx, rfl, hB, hno⟩ := hrel
    have BR := Lib.hid hB
    have NO := Lib.hid hno
    clear hB hno
    by_cases hlt : x < M
    · obtain ⟨hmem, hlen, hdd⟩ := AT.out x hlt
      obtain ⟨bt, ot, rfl, hct, hrow⟩ := (HO.out.below (Nat.le_refl _) BR.out) x hlt
      rw [hlen] at hct hrow
      have hrow2 : Rd wr _ n (nth (LL.getD x [])) := hrow
      have hBW := HB.out.trans (BR.out.mono HB.out.size)
      have BW := Lib.hid hBW
      have HC1 := Lib.hid (fun e => l3Own_any n e S _ (nth (LL.getD x [])) wr hn5 hdd HS.out hrow2)
      have HC2 := Lib.hid (fun e => l3Better_any (X := nth (LL.getD x [])) c a A L C d e _ g wr HG.out hdd HS.out (HA.out.below (Nat.le_refl _) hBW) (HBB.out.below (Nat.le_refl _) hBW) hrow2)
      have i1 : (0 : Int) ≤ (x : Int) := by omega
      have i2 : (x : Int) < (M : Int) := by omega
      have MEM := Lib.hid hmem
      clear hmem hlen hrow hrow2 hBW hdd
      by_cases ho : OwnP n S (nth (LL.getD x []))
      · have T1 := Lib.hid (tt_of ho)
        by_cases hb : BetterP n Z S G (nth (LL.getD x []))
        · have T2 := Lib.hid (tt_of hb)
          have HF := Lib.hid (tt_of (HI.out.2 ⟨_, MEM.out, ho, hb⟩))
          clear ho hb
          go_wp2_with (first
            | (go_at_call 96; refine (HC1.out _).mono ?_; rintro e w2 ⟨rfl, rfl⟩; rw [T1.out])
            | (go_at_call 97; refine (HC2.out _).mono ?_; rintro e w2 ⟨rfl, hb2⟩; rw [T2.out]; have B2 := Lib.hid (BW.out.trans (hb2.mono BW.out.size)); clear hb2 hct))
          go_ret
          exact ⟨by rw [HF.out]; rfl, B2.out⟩
        · have T2 := Lib.hid (tt_no hb)
          have HN := Lib.hid (show ¬ Shows n Z G S (LL.getD x []) from fun h => hb h.2)
          clear ho hb
          go_wp2_with (first
            | (go_at_call 96; refine (HC1.out _).mono ?_; rintro e w2 ⟨rfl, rfl⟩; rw [T1.out])
            | (go_at_call 97; refine (HC2.out _).mono ?_; rintro e w2 ⟨rfl, hb2⟩; rw [T2.out]; have B2 := Lib.hid (BR.out.trans (hb2.mono BR.out.size)); clear hb2 hct))
          go_roundw
          case rel => exact ⟨x + 1, by omega, by go_num, B2.out, fun j hj => by
            by_cases e : j = x
            · rw [e]; exact HN.out
            · exact NO.out j (by omega)⟩
          case measure => simp [intOf]; omega
      · have T1 := Lib.hid (tt_no ho)
        have HN := Lib.hid (show ¬ Shows n Z G S (LL.getD x []) from fun h => ho h.1)
        clear ho
        go_wp2_with (first
          | (go_at_call 96; refine (HC1.out _).mono ?_; rintro e w2 ⟨rfl, rfl⟩; rw [T1.out]))
        go_roundw
        case rel => exact ⟨x + 1, by omega, by go_num, BR.out, fun j hj => by
          by_cases e : j = x
          · rw [e]; exact HN.out
          · exact NO.out j (by omega)⟩
        case measure => simp [intOf]; omega
    · obtain rfl : x = M := by omega
      have HF := Lib.hid (tt_no (show ¬ BlocksP n Z G S from fun h => by
        obtain ⟨D, hD, h1, h2⟩ := HI.out.1 h
        rw [← QL.out] at hD
        obtain ⟨j, hj, e⟩ := List.getElem_of_mem hD
        refine NO.out j (by rw [QM.out]; exact hj) ?_
        rw [List.getD_eq_getElem?_getD, List.getElem?_eq_getElem hj]
        rw [show (some LL[j]).getD [] = D from e]
        exact ⟨h1, h2⟩))
      go_wp2
      go_ret
      exact ⟨by rw [HF.out]; rfl, HB.out.trans (BR.out.mono HB.out.size)⟩
end Go.Proofs.YtabdbgnkiebcdaaDoor

namespace Go.Proofs.YtabdbgnkiebcdaaDoor
set_option linter.unusedVariables false
set_option linter.unusedSimpArgs false
open Go.RowKit

theorem blocksOk_iff {n m S : Nat} {L : Nat → Nat} {Z : Nat → Nat → Int} {G : Nat → Int} (h1 : GivenOk n L Z m G) (hS : S < 2 ^ n) : BlocksP n Z G S ↔ BlocksOk n L Z m G (S : Nat) := by
  constructor
  · intro h
    exact ⟨h1, ⟨by omega, by have : 1 ≤ (2 : Nat) ^ n := Nat.pow_pos (by omega); omega⟩, by simpa using h⟩
  · rintro ⟨_, _, h⟩
    simpa using h

set_option maxHeartbeats 800000 in
theorem specHouseBlocks_any (n c : Nat) (a : Option Addr) (A : Nat → Option Addr) (L C : Nat → Nat) (Z : Nat → Nat → Int) (m d : Nat) (b : Option Addr) (G : Nat → Int) (x : Int) (w : World) (hn0 : n ≤ 1048576) (hL0 : ∀ r, r < n → L r ≤ 1048576) (ha0 : Tab w a n A L C Z) (hm1 : m ≤ 1048576) (hb1 : Rd w b m G) (hx2 : I64 x) :
    Calls Tryd.prog 31 #[.slice a n c, .slice b m d, .int .i64 x] w fun e w' => e = .returned (.bool (tt (BlocksOk n L Z m G x))) ∧ Below w.heap.size w w' := by
  have H := Lib.hid (l3Both_any n c a A L C Z m d b G w hn0 hL0 ha0 hm1 hb1)
  by_cases h1 : GivenOk n L Z m G
  · have T1 := Lib.hid (tt_of h1)
    obtain rfl : m = n := h1.2.1
    have hn5 := h1.1.1.2
    have g2 : (2 : Nat) ^ m ≤ 32 := Nat.pow_le_pow_right (show 0 < 2 by omega) hn5
    have g1 : 1 ≤ (2 : Nat) ^ m := Nat.pow_pos (by omega)
    have hwp := wrap_pow (show m < 62 by omega)
    obtain ⟨E, hE⟩ : ∃ E, E = 2 ^ m := ⟨_, rfl⟩
    have QE := Lib.hid hE
    by_cases h2 : InR x 1 ((E : Int) - 1)
    · have T2 := Lib.hid (tt_of h2)
      obtain ⟨S, rfl⟩ := Int.eq_ofNat_of_zero_le (show 0 ≤ x by have := h2.1; omega)
      have hS : S < 2 ^ m := by rw [← hE]; have := h2.2; omega
      have HM := Lib.hid (l3Blocks_any m c a A L C Z d b G S w h1 hS ha0 hb1)
      have HE := Lib.hid (tt_congr (blocksOk_iff h1 hS))
      rw [← hE] at g1 g2 hwp
      clear h1 h2 hS ha0 hL0 hb1 hx2 hE
      go_enter Tryd.func31, Tryd.ntmps31
      go_wp2_with (first
        | (go_at_call 52; refine H.out.mono ?_; rintro e w' ⟨rfl, rfl⟩; rw [T1.out])
        | (go_at_call 70; refine (l6In_any _ _ _ _).mono ?_; rintro e w' ⟨rfl, rfl⟩; rw [T2.out])
        | (go_at_call 71; refine HM.out.mono ?_; rintro e w1 ⟨rfl, hb⟩; rw [HE.out]; have HB := Lib.hid hb; clear hb))
      go_ret
      exact ⟨rfl, HB.out⟩
    · have T2 := Lib.hid (tt_no h2)
      have HE := Lib.hid (tt_no (show ¬ BlocksOk m L Z m G x from fun h => h2 (by
        have h3 := h.2.1
        rw [← hE] at h3
        refine ⟨?_, h3.2⟩
        rcases Int.lt_or_le 0 x with h4 | h4
        · omega
        · have h5 := h.2.2
          rw [show x.toNat = 0 by omega] at h5
          exact absurd h5 blocks_pos)))
      rw [← hE] at g1 g2 hwp
      clear h1 h2 ha0 hL0 hb1 hx2 hE
      go_enter Tryd.func31, Tryd.ntmps31
      go_wp2_with (first
        | (go_at_call 52; refine H.out.mono ?_; rintro e w' ⟨rfl, rfl⟩; rw [T1.out])
        | (go_at_call 70; refine (l6In_any _ _ _ _).mono ?_; rintro e w' ⟨rfl, rfl⟩; rw [T2.out]))
      go_ret
      exact ⟨by rw [HE.out]; rfl, Below.refl _ _⟩
  · have T1 := Lib.hid (tt_no h1)
    have HE := Lib.hid (tt_no (show ¬ BlocksOk n L Z m G x from fun h => h1 h.1))
    clear h1 ha0 hL0 hb1 hx2
    go_enter Tryd.func31, Tryd.ntmps31
    go_wp2_with (first
      | (go_at_call 52; refine H.out.mono ?_; rintro e w' ⟨rfl, rfl⟩; rw [T1.out]))
    go_ret
    exact ⟨by rw [HE.out]; rfl, Below.refl _ _⟩
end Go.Proofs.YtabdbgnkiebcdaaDoor

namespace Go.Proofs.YtabdbgnkiebcdaaDoor
open Go.RowKit
set_option linter.unusedVariables false

def tz64L : List Int := Lib.deBruijn64tab.map fun (x : Nat) => (x : Int)
theorem tz64_len : tz64L.length = 64 := by kernel_rfl
theorem tz64_laid : (Rows.laid_math_bits_deBruijn64tab : DataW Unit) = Lib.tabData .u8 tz64L := by kernel_rfl
theorem tz64_at (j : Nat) : tz64L.getD j 0 = ((Lib.deBruijn64tab.getD j 0 : Nat) : Int) := by
  unfold tz64L
  rw [List.getD_eq_getElem?_getD, List.getD_eq_getElem?_getD, List.getElem?_map]
  cases Lib.deBruijn64tab[j]? <;> rfl
theorem tz64_g : Tryd.prog.globalNamed "math/bits.deBruijn64tab" = some 1 := by kernel_rfl
theorem tz64_ty : (Tryd.prog.globals[1]?).map (·.type) = some 166 := by kernel_rfl
theorem tz64_u : Tryd.prog.underlying 166 = some (.array 64 5) := by kernel_rfl
theorem tz64_ue : Tryd.prog.underlying 5 = some (.int .u8) := by kernel_rfl
theorem tz64_c : Tryd.prog.cellsOf 166 = 64 := by kernel_rfl
theorem tz64_ce : Tryd.prog.cellsOf 5 = 1 := by kernel_rfl
abbrev laidL : List (String × DataW Unit) := [("math/bits.deBruijn32tab", Rows.laid_math_bits_deBruijn32tab), ("math/bits.deBruijn64tab", Rows.laid_math_bits_deBruijn64tab)]
/-- What the condition gives a walk: the table's cells. -/
theorem tz_of_laid {W : World} (h : laidMet Tryd.prog laidL W) : TzAt W := by
  obtain ⟨ps, ⟨g1, t1, cs1, f1, p1, q1, a1, a2, a3, a4, h2, _⟩, _⟩ := h
  obtain ⟨g2, t2, cs2, f2, p2, q2, b1, b2, b3, b4, _, _⟩ := h2
  obtain rfl := Option.some.inj (tz64_g.symm.trans b1)
  obtain rfl := Option.some.inj (tz64_ty.symm.trans b2)
  rw [tz64_laid] at b4
  have e := Lib.cells_of_tab tz64_u tz64_ue tz64_ce tz64_c b4
  have ht : Lib.TabIs Tryd.prog W "math/bits.deBruijn64tab" .u8 tz64L := by
    unfold Lib.TabIs
    rw [b3, ← e]
  intro j hj
  rw [← tz64_at]
  exact ht.cell tz64_g j (by rw [tz64_len]; exact hj)

/-- The settled world, both tables laid. -/
noncomputable def laidWorld (os : Os) : World :=
  let w0 := World.holding Tryd.prog os ⟨#[], #[], []⟩
  { w0 with heap := (w0.heap.modify 0 fun
      | .cells _ t frozen => .cells (([0, 1, 28, 2, 29, 14, 24, 3, 30, 22, 20, 15, 25, 17, 4, 8, 31, 27, 13, 23, 21, 19, 16, 7, 26, 12, 18, 6, 11, 5, 10, 9].map fun (x : Int) => Value.int .u8 x).toArray) t frozen
      | o => o).modify 1 fun
      | .cells _ t frozen => .cells ((tz64L.map fun x => Value.int .u8 x).toArray) t frozen
      | o => o }
theorem laidWorld_met (os : Os) (args : Array Value) : laidMet Tryd.prog laidL ((laidWorld os).forCall (fun _ _ => 0) ⟨#[], args, []⟩).memory :=
  laidMet_of_run' 8 (by kernel_rfl) (by kernel_rfl)
end Go.Proofs.YtabdbgnkiebcdaaDoor

namespace Go.Proofs.YtabdbgnkiebcdaaDoor
set_option linter.unusedVariables false
set_option linter.unusedSimpArgs false
open Go.RowKit

/-- Which houses are left behind k turns. -/
def tkS (Z : Nat → Nat → Int) (n : Nat) (O : Nat → Int) : Nat → Nat → Bool
  | 0, y => decide (y < n)
  | k + 1, y => tkS Z n O k y && !decide (y = ptS Z n (tkS Z n O k) (O k).toNat)
/-- What the one takes whose turn it is. -/
def tkX (Z : Nat → Nat → Int) (n : Nat) (O : Nat → Int) (k : Nat) : Nat := ptS Z n (tkS Z n O k) (O k).toNat
/-- What each one has got behind k turns. -/
def tkF (Z : Nat → Nat → Int) (n : Nat) (O : Nat → Int) : Nat → Nat → Int
  | 0, _ => 0
  | k + 1, j => if j = (O k).toNat then (tkX Z n O k : Int) else tkF Z n O k j

section
variable {n : Nat} {L : Nat → Nat} {Z : Nat → Nat → Int} {O : Nat → Int}
theorem tkS_ppl (Z : Nat → Nat → Int) (n : Nat) (O : Nat → Int) (k : Nat) : Ppl n (tkS Z n O k) := by
  induction k with
  | zero => intro y h; simpa [tkS] using h
  | succ k ih => intro y h; refine ih y ?_; unfold tkS at h; simp only [Bool.and_eq_true] at h; exact h.1
theorem tkS_down {k y : Nat} (h : tkS Z n O (k + 1) y = true) : tkS Z n O k y = true := by unfold tkS at h; simp only [Bool.and_eq_true] at h; exact h.1
theorem tkS_mono {s t y : Nat} (hst : s ≤ t) (h : tkS Z n O t y = true) : tkS Z n O s y = true := by
  induction t with
  | zero => have : s = 0 := by omega
            subst this; exact h
  | succ t ih =>
    by_cases e : s = t + 1
    · subst e; exact h
    · exact ih (by omega) (tkS_down h)
theorem tkS_succ (k y : Nat) : tkS Z n O (k + 1) y = (tkS Z n O k y && !decide (y = tkX Z n O k)) := rfl
theorem tkX_gone (k : Nat) : tkS Z n O (k + 1) (tkX Z n O k) = false := by rw [tkS_succ]; simp
theorem pplL_drop (S : Nat → Bool) (x n : Nat) : (pplL n S).length ≤ (pplL n fun y => S y && !decide (y = x)).length + 1 := by
  have e : (pplL n fun y => S y && !decide (y = x)) = (pplL n S).erase x := by
    unfold pplL
    rw [List.Nodup.erase_eq_filter (List.nodup_range.filter _), List.filter_filter]
    refine List.filter_congr fun y _ => ?_
    rw [Bool.and_comm]
    congr 1
  rw [e, List.length_erase]
  split <;> omega
theorem left_len (Z : Nat → Nat → Int) (n : Nat) (O : Nat → Int) (k : Nat) : n ≤ (pplL n (tkS Z n O k)).length + k := by
  induction k with
  | zero =>
    have : pplL n (tkS Z n O 0) = List.range n := by
      unfold pplL
      rw [List.filter_eq_self]
      intro y hy
      simpa [tkS] using hy
    rw [this]; simp
  | succ k ih =>
    have := pplL_drop (tkS Z n O k) (tkX Z n O k) n
    have e : (pplL n fun y => tkS Z n O k y && !decide (y = tkX Z n O k)) = pplL n (tkS Z n O (k + 1)) := rfl
    rw [e] at this
    omega
/-- While somebody is left a house is. -/
theorem tkS_some {k : Nat} (hk : k < n) : ∃ y, tkS Z n O k y = true := by
  have := left_len Z n O k
  obtain ⟨y, hy⟩ := List.exists_mem_of_length_pos (show 0 < (pplL n (tkS Z n O k)).length by omega)
  exact ⟨y, (mem_pplL (tkS_ppl Z n O k)).1 hy⟩
/-- What is taken: the first house left of the list. -/
theorem tkX_spec (hW : IsWishes n L Z) {k : Nat} (hO : (O k).toNat < n) (hk : k < n) :
    ∃ j, j < n ∧ tkS Z n O k (Z (O k).toNat j).toNat = true ∧ (∀ i, i < j → tkS Z n O k (Z (O k).toNat i).toNat = false) ∧ tkX Z n O k = (Z (O k).toNat j).toNat := by
  obtain ⟨y, hy⟩ := tkS_some (Z := Z) (n := n) (O := O) hk
  exact ptS_spec hW (tkS_ppl Z n O k) hO hy
theorem tkX_in (hW : IsWishes n L Z) {k : Nat} (hO : (O k).toNat < n) (hk : k < n) : tkS Z n O k (tkX Z n O k) = true := by
  obtain ⟨j, _, h, _, e⟩ := tkX_spec hW hO hk
  rw [e]; exact h
theorem tkX_lt (hW : IsWishes n L Z) {k : Nat} (hO : (O k).toNat < n) (hk : k < n) : tkX Z n O k < n := tkS_ppl Z n O k _ (tkX_in hW hO hk)
theorem tkX_ne (hW : IsWishes n L Z) {i k : Nat} (hik : i < k) (hO : (O k).toNat < n) (hk : k < n) : tkX Z n O i ≠ tkX Z n O k := fun e => by
  have h := tkS_mono (show i + 1 ≤ k from hik) (tkX_in hW hO hk)
  rw [← e, tkX_gone] at h
  cases h
theorem diff_toNat (hd : IsDiff n n O) {i k : Nat} (hi : i < n) (hk : k < n) (e : (O i).toNat = (O k).toNat) : i = k := by
  have h1 := hd.1 i hi
  have h2 := hd.1 k hk
  rcases Nat.lt_trichotomy i k with h | h | h
  · exact absurd (by omega) (hd.2 i k h hk)
  · exact h
  · exact absurd (by omega) (hd.2 k i h hi)
theorem tkF_at (hd : IsDiff n n O) {k : Nat} : ∀ {m : Nat}, k < m → m ≤ n → tkF Z n O m (O k).toNat = tkX Z n O k
  | 0, h, _ => by omega
  | m + 1, h, hm => by
    unfold tkF
    by_cases e : k = m
    · subst e; rw [if_pos rfl]
    · rw [if_neg (fun h' => e (diff_toNat hd (by omega) (by omega) h')), tkF_at hd (by omega) (by omega)]
/-- By turns comes a giving. -/
theorem take_each (hW : IsWishes n L Z) (hd : IsDiff n n O) : IsEach n n (tkF Z n O n) := by
  have at' : ∀ j, j < n → ∃ k, k < n ∧ (O k).toNat = j ∧ tkF Z n O n j = tkX Z n O k := fun j hj => by
    obtain ⟨k, hk, e⟩ := hd.all hj
    have e' : (O k).toNat = j := by rw [e]; rfl
    exact ⟨k, hk, e', by rw [← e']; exact tkF_at hd hk (Nat.le_refl _)⟩
  have hO : ∀ k, k < n → (O k).toNat < n := fun k hk => by have := hd.1 k hk; omega
  refine ⟨rfl, fun j hj => ?_, fun i j hij hj e => ?_⟩
  · obtain ⟨k, hk, _, e⟩ := at' j hj
    have := tkX_lt hW (hO k hk) hk
    rw [e]; omega
  · obtain ⟨k, hk, e1, f1⟩ := at' i (by omega)
    obtain ⟨m, hm, e2, f2⟩ := at' j hj
    rw [f1, f2] at e
    have e : tkX Z n O k = tkX Z n O m := by omega
    rcases Nat.lt_trichotomy k m with h | h | h
    · exact tkX_ne hW h (hO m hm) hm e
    · subst h; omega
    · exact tkX_ne hW h (hO k hk) hk e.symm
theorem take_given (hW : IsWishes n L Z) (hd : IsDiff n n O) : GivenOk n L Z n (tkF Z n O n) := ⟨hW, take_each hW hd⟩
end
/-- How many numbers TurnTake hands back. -/
noncomputable def takeN (n : Nat) (L : Nat → Nat) (Z : Nat → Nat → Int) (m : Nat) (O : Nat → Int) : Nat := if tt (GivenOk n L Z m O) = true then n else 0
theorem takeN_yes {n m : Nat} {L : Nat → Nat} {Z : Nat → Nat → Int} {O : Nat → Int} (h : GivenOk n L Z m O) : takeN n L Z m O = n := by unfold takeN; rw [tt_of h]; rfl
theorem takeN_no {n m : Nat} {L : Nat → Nat} {Z : Nat → Nat → Int} {O : Nat → Int} (h : ¬ GivenOk n L Z m O) : takeN n L Z m O = 0 := by unfold takeN; rw [tt_no h]; rfl
theorem takeN_le (n : Nat) (L : Nat → Nat) (Z : Nat → Nat → Int) (m : Nat) (O : Nat → Int) : takeN n L Z m O ≤ 1048576 := by
  by_cases h : GivenOk n L Z m O
  · rw [takeN_yes h]; have := h.1.1.2; omega
  · rw [takeN_no h]; omega
end Go.Proofs.YtabdbgnkiebcdaaDoor

namespace Go.Proofs.YtabdbgnkiebcdaaDoor
set_option linter.unusedVariables false
open Go.RowKit

def turnsB : List UInt8 := [116, 117, 114, 110, 115]
theorem turnsB_ok : ∀ c ∈ turnsB, c ≠ 32 := by decide
/-- In this order the giving comes. -/
def TurnQ (n : Nat) (Z : Nat → Nat → Int) (G : Nat → Int) (D : List Int) : Prop := IsEach n D.length (nth D) ∧ ∀ k, k < n → tkF Z n (nth D) n k = G k
theorem turn_few {n : Nat} {Z : Nat → Nat → Int} {G : Nat → Int} {D : List Int} (hn1 : 1 ≤ n) (hn : n ≤ 5) (h : TurnQ n Z G D) : D ≠ [] ∧ D.length ≤ 1000 ∧ FewAll D := each_few hn1 hn h.1
/-- The text is a proof that the giving comes by turns. -/
def PrO (n : Nat) (L : Nat → Nat) (Z : Nat → Nat → Int) (m : Nat) (G : Nat → Int) (t : ByteArray) : Prop := GivenOk n L Z m G ∧ ProofP turnsB (TurnQ n Z G) t
end Go.Proofs.YtabdbgnkiebcdaaDoor

namespace Go.Proofs.YtabdbgnkiebcdaaDoor
set_option linter.unusedVariables false
set_option linter.unusedSimpArgs false
open Go.RowKit

/-- The set of those left without the one that is taken. -/
theorem takes_next {Z : Nat → Nat → Int} {n : Nat} {O : Nat → Int} {k M x : Nat} (hM : M < 2 ^ 62) (hx : x < 62) (hb : ∀ y, M.testBit y = tkS Z n O k y) (e : x = tkX Z n O k) :
    ∃ M' : Nat, bits .andNot .i64 (M : Int) (wrap64 (2 ^ x)) = (M' : Int) ∧ M' ≤ M ∧ ∀ y, M'.testBit y = tkS Z n O (k + 1) y := by
  obtain ⟨M', h1, h2, h3⟩ := bits_andNot_i64 M (2 ^ x) hM (two_pow_lt (by omega))
  rw [← wrap_pow hx] at h1
  refine ⟨M', h1, h2, fun y => ?_⟩
  rw [h3, Nat.testBit_two_pow, tkS_succ, hb, ← e]
  congr 2
  rw [decide_eq_decide]
  exact ⟨Eq.symm, Eq.symm⟩
theorem tkF_next {Z : Nat → Nat → Int} {n : Nat} {O : Nat → Int} {k p x : Nat} (hp : (O k).toNat = p) (e : x = tkX Z n O k) (y : Nat) : (if y = p then (x : Int) else tkF Z n O k y) = tkF Z n O (k + 1) y := by
  show _ = if y = (O k).toNat then (tkX Z n O k : Int) else tkF Z n O k y
  rw [hp, ← e]

set_option maxHeartbeats 1600000 in
theorem l5Take_any (n c d : Nat) (a b : Option Addr) (A : Nat → Option Addr) (L C : Nat → Nat) (Z : Nat → Nat → Int) (O : Nat → Int) (w : World) (hg : GivenOk n L Z n O) (ha0 : Tab w a n A L C Z) (hb0 : Rd w b n O) :
    Calls Tryd.prog 60 #[.slice a n c, .slice b n d] w (RetI n (tkF Z n O n) w) := by
  have hn5 := hg.1.1.2
  have hn2 := hg.1.1.1
  have HA := Lib.hid ha0
  have HBB := Lib.hid hb0
  have HG := Lib.hid hg
  have hmk := run_make_row' (P := Tryd.prog) 32 3 (.int .i64 0) 8 Tryd.underlying32 Tryd.infoInt rfl .i64 .i64 n (by omega) (by omega)
  obtain ⟨M0, hM0⟩ : ∃ M0, M0 = 2 ^ n - 1 := ⟨_, rfl⟩
  have hp : 2 ^ n ≤ 2 ^ 5 := Nat.pow_le_pow_right (by omega) hn5
  have hp1 := Nat.two_pow_pos n
  have hfull : wrap64 (wrap64 (2 ^ n) - 1) = (M0 : Int) := by
    rw [wrap_pow (show n < 62 by omega), IntWalk.wrap64_in _ (by omega)]; omega
  have HM0 := Lib.hid (show M0 ≤ 31 ∧ ∀ y, M0.testBit y = tkS Z n O 0 y from ⟨by omega, fun y => by rw [hM0, Nat.testBit_two_pow_sub_one]; rfl⟩)
  have HFl := Lib.hid hfull
  clear ha0 hb0 hg hM0 hp hp1 hfull
  go_enter Tryd.func60, Tryd.ntmps60
  go_wp2
  clear hmk
  have R0 := Lib.hid ((World.rowIs_made w (.int .i64 0) n 3).congr (g := fun y => .int .i64 (tkF Z n O 0 y)) (fun y _ => rfl))
  have B0 := Lib.hid (below_alloc (Below.refl _ w) (.cells (madeCells #[.int .i64 0] n) 3))
  go_loopw [6, 7, 8] (fun lf s _ wr => ∃ k M : Nat, k ≤ n ∧ s = .int .i64 k ∧ lf = .int .i64 M ∧ M ≤ 31 ∧ (∀ y, M.testBit y = tkS Z n O k y) ∧ wr.rowIs w.heap.size 3 n (fun y => .int .i64 (tkF Z n O k y)) ∧ Below w.heap.size w wr) (fun _ s _ _ => n - (intOf s).toNat)
  case atStart => exact ⟨0, M0, Nat.zero_le _, rfl, by rw [HFl.out], HM0.out.1, HM0.out.2, R0.out, B0.out⟩
  case round =>
    obtain ⟨k, M, hk, rfl, rfl, hM, hbit, hrow, hB⟩ := hrel
    clear R0 B0
    by_cases hlt : k < n
    · obtain ⟨bo, oo, rfl, hco⟩ := HBB.out.below (Nat.le_refl _) hB k hlt
      obtain ⟨p, hOp, hpn⟩ := diff_nat HG.out.2.2 hlt
      rw [hOp] at hco
      have hOn : (O k).toNat = p := by rw [hOp]; rfl
      obtain ⟨ba, oa, rfl, hca, hra⟩ := HA.out.below (Nat.le_refl _) hB p hpn
      rw [(HG.out.1.2 p hpn).1] at hca hra
      obtain ⟨x, hx⟩ : ∃ x, x = tkX Z n O k := ⟨_, rfl⟩
      have hxn : x < n := by rw [hx]; exact tkX_lt HG.out.1 (by omega) hlt
      obtain ⟨M', hand, hle, hbit'⟩ := takes_next (by omega) (show x < 62 by omega) hbit hx
      have HB' := Lib.hid hbit'
      have HP := Lib.hid (show Calls Tryd.prog 102 #[.slice (A p) n (C p), .int .i64 (M : Nat)] wr fun e w' => e = .returned (.int .i64 (x : Nat)) ∧ wr = w' from by
        have h := l3Point_any n (C p) M (A p) (Z p) wr hn5 (by omega) (HG.out.1.2 p hpn).2 hra
        have e : ptN (Z p) M.testBit n = x := by
          rw [hx]; unfold tkX ptS; rw [hOn, show M.testBit = tkS Z n O k from funext hbit]
        rwa [e] at h)
      have hc1 := hrow.cell hpn
      have hf1 := hrow.frozen p
      have HN := Lib.hid ((hrow.set p (.int .i64 (x : Nat))).congr (g := fun y => .int .i64 (tkF Z n O (k + 1) y)) (fun y _ => by
        rw [← tkF_next hOn hx y]
        by_cases e : y = p
        · rw [if_pos e, if_pos e]
        · rw [if_neg e, if_neg e]))
      have HBn := Lib.hid hB
      have i1 : (0 : Int) ≤ (p : Int) := by omega
      have i2 : (p : Int) < (n : Int) := by omega
      clear hbit hbit' hOp hOn hx hrow hB hra
      go_wp2_with (go_at_call 102; refine HP.out.mono ?_; rintro e w' ⟨rfl, rfl⟩)
      clear hand
      go_roundw
      case rel => exact ⟨k + 1, M', by omega, by go_num, rfl, by omega, HB'.out, HN.out, HBn.out.setCell (Nat.le_refl _) _⟩
      case measure => simp [intOf]; omega
    · obtain rfl : k = n := by omega
      have HR := Lib.hid hrow
      have HB := Lib.hid hB
      clear hrow hB
      go_wp2
      go_ret
      exact ⟨_, _, rfl, ⟨Nat.le_refl _, HR.out.lt, Nat.le_refl _⟩, OwnR.of_row HR.out, HB.out⟩
end Go.Proofs.YtabdbgnkiebcdaaDoor

namespace Go.Proofs.YtabdbgnkiebcdaaDoor
set_option linter.unusedVariables false
set_option linter.unusedSimpArgs false
open Go.RowKit

set_option maxRecDepth 100000 in
set_option maxHeartbeats 3200000 in
theorem specProofTurnIs_any (n c : Nat) (a : Option Addr) (A : Nat → Option Addr) (L C : Nat → Nat) (Z : Nat → Nat → Int) (m d : Nat) (b : Option Addr) (G : Nat → Int) (t : ByteArray) (w : World) (hn0 : n ≤ 1048576) (hL0 : ∀ r, r < n → L r ≤ 1048576) (ha0 : Tab w a n A L C Z) (hm1 : m ≤ 1048576) (hb1 : Rd w b m G) (ht : t.size ≤ 1048576) :
    Calls Tryd.prog 24 #[.slice a n c, .slice b m d, .string t] w fun e w' => e = .returned (.bool (tt (PrO n L Z m G t))) ∧ Below w.heap.size w w' := by
  have H1 := Lib.hid (fun (w1 : World) (h : Below w.heap.size w w1) => l3Both_any n c a A L C Z m d b G w1 hn0 hL0 (ha0.below (Nat.le_refl _) h) hm1 (hb1.below (Nat.le_refl _) h))
  by_cases hd : ∃ D, FewAll D ∧ t = strU (wordsB turnsB D)
  · obtain ⟨D, hD, htD⟩ := hd
    have RY := Lib.hid (read_yes w (W := turnsB) (by decide) ht hD htD)
    by_cases hg : GivenOk n L Z m G
    · have T1 := Lib.hid (tt_of hg)
      have hmn := hg.2.1
      subst hmn
      have hn2 := hg.1.1.1
      have hn5 := hg.1.1.2
      have P1 : PrO m L Z m G t ↔ IsEach m D.length (nth D) ∧ ∀ k, k < m → tkF Z m (nth D) m k = G k := by
        constructor
        · rintro ⟨_, M, h1, h2⟩
          have h3 := congrArg (fun z => z.data.toList) (htD.symm.trans h2)
          simp only [strU_list] at h3
          rw [words_inj turnsB D M hD (turn_few (by omega) hn5 h1).2.2 h3]
          exact h1
        · intro h; exact ⟨hg, D, h, htD⟩
      obtain ⟨q, hq⟩ : ∃ q, q = D.length := ⟨_, rfl⟩
      obtain ⟨Y, hY⟩ : ∃ Y, Y = nth D := ⟨_, rfl⟩
      rw [← hq, ← hY] at RY P1
      have HG := Lib.hid (fun (x : Option Addr) (e : Nat) (w1 : World) (hr : Rd w1 x q Y) (hq : q ≤ 1048576) => specHouseGiving_any (m : Int) q e x Y w1 ⟨by omega, by omega⟩ hq hr)
      by_cases he : IsEach m q Y
      · have T2 := Lib.hid (tt_of ((giving_each hn2 hn5).2 he))
        have hqm := he.1
        subst hqm
        have HA := Lib.hid (fun (x : Option Addr) (e : Nat) (w1 : World) (h : Below w.heap.size w w1) (hr : Rd w1 x q Y) => l5Take_any q c e a x A L C Z Y w1 ⟨hg.1, he⟩ (ha0.below (Nat.le_refl _) h) hr)
        have E := Lib.hid (show tt (SameB q q G (tkF Z q Y q)) = tt (PrO q L Z q G t) from tt_congr ⟨fun h => P1.2 ⟨he, fun k hk => (h.2 k hk).symm⟩, fun h => ⟨rfl, fun k hk => ((P1.1 h).2 k hk).symm⟩⟩)
        have HBx := Lib.hid hb1
        obtain ⟨K, hK⟩ : ∃ K, K = tkF Z q Y q := ⟨_, rfl⟩
        rw [← hK] at HA E
        clear hg he P1 hq hY htD hD ha0 hb1 hK
        go_enter Tryd.func24, Tryd.ntmps24
        go_wp2_with (first
          | (go_at_call 45; refine RY.out.mono ?_; rintro e w1 ⟨⟨x, z, rfl, hrd⟩, hml, hb1⟩; have R1 := Lib.hid hrd; have B1 := Lib.hid hb1; have ML := Lib.hid hml; clear hrd hb1 hml)
          | (go_at_call 52; refine (H1.out _ B1.out).mono ?_; rw [T1.out]; rintro e w2 ⟨rfl, rfl⟩)
          | (go_at_call 59; refine (HG.out _ _ _ R1.out ML.out).mono ?_; rw [T2.out]; rintro e w3 ⟨rfl, hb3⟩; have B3 := Lib.hid (below_chain B1.out hb3); have R3 := Lib.hid (R1.out.below (Nat.le_refl _) hb3); clear hb3)
          | (go_at_call 60; refine (HA.out _ _ _ B3.out R3.out).mono ?_; rintro e w4 ⟨k4, c4, rfl, _, hO4, hb4⟩; have O4 := Lib.hid hO4.rd; have B4 := Lib.hid (below_chain B3.out hb4); clear hO4 hb4))
        have hga : Rd w4 b q G := HBx.out.below (Nat.le_refl _) B4.out
        have hka : Rd w4 (some ⟨k4, 0, none⟩) q K := O4.out
        go_loopw [10] (fun i wr => ∃ k : Nat, k ≤ q ∧ i = .int .i64 k ∧ (∀ j, j < k → G j = K j) ∧ ∃ p, wr = w4.drewN p) (fun i _ => q - (intOf i).toNat)
        case atStart => exact ⟨0, Nat.zero_le _, rfl, fun j hj => absurd hj (Nat.not_lt_zero _), 0, rfl⟩
        case round =>
          obtain ⟨k, hk, rfl, hs, p, rfl⟩ := hrel
          by_cases hlt : k < q
          · obtain ⟨ba, oa, rfl, hca⟩ := hga k hlt
            obtain ⟨bb, ob, e4, hcb⟩ := hka k hlt
            cases e4
            simp only [Nat.zero_add] at hcb
            have HS := Lib.hid hs
            clear hs hga hka
            have i1 : (0 : Int) ≤ (k : Int) := by omega
            have i2 : (k : Int) < (q : Int) := by omega
            go_wp2
            go_quiet (fail)
            go_wp2
            · have ht : (G k != K k) = true := by assumption
              have hf : ¬ SameB q q G K := fun h => by have := h.2 k hlt; simp [this] at ht
              have E2 := Lib.hid (E.out.symm.trans (tt_no hf))
              go_ret
              exact ⟨by rw [E2.out]; rfl, below_drewN (below_drewN B4.out _) _⟩
            · have ht : (G k != K k) = false := by assumption
              have he : G k = K k := by simpa using ht
              go_roundw
              case rel =>
                exact ⟨k + 1, by omega, by go_num, fun j hj => by
                  by_cases e : j = k
                  · rw [e]; exact he
                  · exact HS.out j (by omega), _, rfl⟩
              case measure => simp [intOf]; omega
          · have HS := Lib.hid hs
            clear hs hga hka
            have E2 := Lib.hid (E.out.symm.trans (tt_of (show SameB q q G K from ⟨rfl, fun j hj => HS.out j (by omega)⟩)))
            go_wp2
            go_ret
            exact ⟨by rw [E2.out]; rfl, below_drewN B4.out _⟩
      · have T2 := Lib.hid (tt_no (fun h : GivingOk (m : Int) q Y => he ((giving_each hn2 hn5).1 h)))
        have E := Lib.hid (tt_no (show ¬ PrO m L Z m G t from fun h => he (P1.1 h).1))
        clear hg he P1 hq hY htD hD ha0 hb1
        go_enter Tryd.func24, Tryd.ntmps24
        go_wp2_with (first
          | (go_at_call 45; refine RY.out.mono ?_; rintro e w1 ⟨⟨x, z, rfl, hrd⟩, hml, hb1⟩; have R1 := Lib.hid hrd; have B1 := Lib.hid hb1; have ML := Lib.hid hml; clear hrd hb1 hml)
          | (go_at_call 52; refine (H1.out _ B1.out).mono ?_; rw [T1.out]; rintro e w2 ⟨rfl, rfl⟩)
          | (go_at_call 59; refine (HG.out _ _ _ R1.out ML.out).mono ?_; rw [T2.out]; rintro e w3 ⟨rfl, hb3⟩; have B3 := Lib.hid (below_chain B1.out hb3); clear hb3))
        go_ret
        exact ⟨by rw [E.out]; rfl, B3.out⟩
    · have T1 := Lib.hid (tt_no hg)
      have E := Lib.hid (tt_no (show ¬ PrO n L Z m G t from fun h => hg h.1))
      clear hg htD hD ha0 hb1
      go_enter Tryd.func24, Tryd.ntmps24
      go_wp2_with (first
        | (go_at_call 45; refine RY.out.mono ?_; rintro e w1 ⟨⟨x, z, rfl, hrd⟩, hml, hb1⟩; have R1 := Lib.hid hrd; have B1 := Lib.hid hb1; have ML := Lib.hid hml; clear hrd hb1 hml)
        | (go_at_call 52; refine (H1.out _ B1.out).mono ?_; rw [T1.out]; rintro e w2 ⟨rfl, rfl⟩))
      go_ret
      exact ⟨by rw [E.out]; rfl, B1.out⟩
  · have RN := Lib.hid (read_no w (W := turnsB) (by decide) ht (fun D hD e => hd ⟨D, hD, e⟩))
    have E := Lib.hid (tt_no (show ¬ PrO n L Z m G t from fun h => by
      obtain ⟨hg, D, h1, h2⟩ := h
      exact hd ⟨D, (turn_few (by have := hg.1.1.1; omega) hg.1.1.2 h1).2.2, h2⟩))
    clear hd ha0 hb1 H1
    go_enter Tryd.func24, Tryd.ntmps24
    go_wp2_with (go_at_call 45; refine RN.out.mono ?_; rintro e w1 ⟨⟨x, y, z, rfl⟩, hb1⟩; have B1 := Lib.hid hb1; clear hb1)
    go_ret
    exact ⟨by rw [E.out]; rfl, B1.out⟩
end Go.Proofs.YtabdbgnkiebcdaaDoor

namespace Go.Proofs.YtabdbgnkiebcdaaDoor
set_option linter.unusedVariables false
set_option linter.unusedSimpArgs false
open Go.RowKit

section
variable {P : Program} {ops : Array Oper} {rest : List Oper} {a : Act} {w : World} {Q : Exit → Act → World → Prop} {d : Option Nat} {ot : TypeId} {pos : String} {aft : Array Edge}
/-- A whole struct of two words is stored. -/
theorem row2_store (ty t : Nat) (x y : Operand) (g : Nat) (v1 v2 u1 u2 : Value) (hx : a.eval x = .pointer (some ⟨g, 0, none⟩)) (hy : a.eval y = .agg #[u1, u2]) (hg : w.heap[g]? = some (.cells #[v1, v2] t (0, 0))) (hi : (P.info? ty).map (·.size) = some 2) (h1 : u1.oneCell' = true) (h2 : u2.oneCell' = true)
    (h : ∀ w1 : World, w1.heap[g]? = some (.cells #[u1, u2] t (0, 0)) → w1.heap.size = w.heap.size → (∀ k, k ≠ g → w1.heap[k]? = w.heap[k]?) → Below g w w1 → wpList P ops Q rest (a.put d undef) w1) : wpList P ops Q (⟨d, Op.store ty x y, ot, pos, aft, none⟩ :: rest) a w := by
  refine wpList_plain rfl fun K hK' => ?_
  refine wp_store_row ty x y rfl g #[u1, u2] hx hy t #[v1, v2] hg hi rfl (by simp [h1, h2]) (hK' _ _ ?_)
  exact h _ (setRow_heap w g #[v1, v2] #[u1, u2] t (0, 0) hg) (by simp) (fun k hk => setRow_other w g k _ hk) (below_setRow w _ (Nat.le_refl _))
end
/-- The result of a function that hands back a struct of two words. -/
theorem results_row2 {P : Program} {fn : Func} {p : Tmp} {ty : TypeId} (h : fn.results = #[.cell p ty]) (tmps : Array Value) (w : World) (g t : Nat) (v1 v2 : Value) (dd : TypeDesc)
    (hp : tmps.getD p undef = .pointer (some ⟨g, 0, none⟩)) (hg : w.heap[g]? = some (.cells #[v1, v2] t (0, 0))) (hu : P.underlying ty = some dd) (hd : (match dd with | .struct _ | .array _ _ => true | _ => false) = true) (hi : (P.info? ty).map (·.size) = some 2) :
    (results fn tmps).run P w = .ok (.agg #[v1, v2]) w :=
  results_cell_row h tmps w g t #[v1, v2] (0, 0) _ hp hg hu hd hi
theorem Tryd.sizeTaking : (Tryd.prog.info? 134).map (·.size) = some 2 := by kernel_rfl

theorem everybodyP_any (n c : Nat) (a : Option Addr) (w : World) (hn : n ≤ 5) :
    Calls Tryd.prog 68 #[.slice a n c] w fun e w' => e = .returned (.int .i64 ((2 ^ n - 1 : Nat) : Int)) ∧ w = w' := by
  have hw := wrap_pow (show n < 62 by omega)
  have h2 : (2 : Nat) ^ n ≤ 32 := Nat.pow_le_pow_right (show 0 < 2 by omega) hn
  have h1 : 1 ≤ (2 : Nat) ^ n := Nat.pow_pos (by omega)
  have e : ((2 ^ n : Nat) : Int) = (2 : Int) ^ n := by simp
  have hw1 := Lib.hid (show Ending.returned (Value.int .i64 (wrap64 (2 ^ n - 1))) = .returned (.int .i64 ((2 ^ n - 1 : Nat) : Int)) by
    rw [← e, IntWalk.wrap64_in _ ⟨by omega, by omega⟩, show ((2 ^ n - 1 : Nat) : Int) = ((2 ^ n : Nat) : Int) - 1 by omega])
  clear e
  go_enter Tryd.func68, Tryd.ntmps68
  go_wp2
  go_ret
  exact ⟨hw1.out, rfl⟩

/-- Is a house left, as the program asks. -/
theorem leftHas_any (g M x : Nat) (w : World) (hM : M ≤ 31) (hx5 : x ≤ 5) (hc : w.cell? ⟨g, 0, none⟩ = some (.int .i64 (M : Nat))) :
    Calls Tryd.prog 157 #[.int .i64 (x : Nat), .pointer (some ⟨g, 0, none⟩)] w fun e w' => e = .returned (.bool (M.testBit x)) ∧ w = w' := by
  have hhas := bit_has M x (by omega)
  have HE := Lib.hid hhas
  have HX := Lib.hid (show (0 : Int) ≤ (x : Int) by omega)
  clear hhas
  obtain ⟨B, hB⟩ : ∃ B, B = M.testBit x := ⟨_, rfl⟩
  have hhas := HE.out
  rw [← hB] at hhas ⊢
  clear HE hB
  go_enter Tryd.func157, Tryd.ntmps157
  go_wp2
  go_ret
  exact ⟨rfl, rfl⟩

set_option maxHeartbeats 800000 in
/-- The library's IndexFunc at a set: the first place that is in it. -/
theorem indexLeft_any (n c g M j : Nat) (a : Option Addr) (X : Nat → Int) (w : World) (hn5 : n ≤ 5) (hM : M ≤ 31) (hd : IsDiff n n X) (hc : w.cell? ⟨g, 0, none⟩ = some (.int .i64 (M : Nat))) (ha : Rd w a n X) (hj : j < n) (hyes : M.testBit (X j).toNat = true) (hno : ∀ i, i < j → M.testBit (X i).toNat = false) :
    Calls Tryd.prog 156 #[.slice a n c, .func (.func 157) #[] #[.pointer (some ⟨g, 0, none⟩)]] w fun e w' => e = .returned (.int .i64 (j : Nat)) ∧ w = w' := by
  have HA := Lib.hid ha
  have HD := Lib.hid hd
  have HC := Lib.hid (fun x hx => leftHas_any g M x w hM hx hc)
  have HY := Lib.hid hyes
  have HN := Lib.hid hno
  clear ha hd hc hyes hno
  go_enter Tryd.func156, Tryd.ntmps156
  go_wp2
  go_loop [4, 5, 8] (fun _ _ s => ∃ k : Nat, k ≤ j ∧ s = .int .i64 k) (fun _ _ s => n - (intOf s).toNat)
  case atStart => exact ⟨0, Nat.zero_le _, rfl⟩
  case round =>
    obtain ⟨k, hk, rfl⟩ := hrel
    have hkn : k < n := by omega
    obtain ⟨ba, oa, rfl, hca⟩ := HA.out k hkn
    obtain ⟨x, hx, hxn⟩ := diff_nat HD.out hkn
    rw [hx] at hca
    have hXn : (X k).toNat = x := by rw [hx]; rfl
    by_cases hlt : k < j
    · have T1 := Lib.hid (show M.testBit x = false by rw [← hXn]; exact HN.out k hlt)
      clear hx hXn
      go_wp2_with (go_at_call 157; refine (HC.out x (by omega)).mono ?_; rintro e w' ⟨rfl, rfl⟩; rw [T1.out])
      go_round
      case rel => exact ⟨k + 1, by omega, by go_num⟩
      case measure => simp [intOf]; omega
    · obtain rfl : k = j := by omega
      have T1 := Lib.hid (show M.testBit x = true by rw [← hXn]; exact HY.out)
      clear hx hXn
      go_wp2_with (go_at_call 157; refine (HC.out x (by omega)).mono ?_; rintro e w' ⟨rfl, rfl⟩; rw [T1.out])
      go_ret
      exact ⟨rfl, rfl⟩

/-- What take hands back: the order as it came, and a giving of its own. -/
def RetTake (b : Option Addr) (d n : Nat) (X : Nat → Int) (w : World) (e : Ending) (w' : World) : Prop :=
  ∃ g cap, e = .returned (.agg #[.slice b n d, .slice (some ⟨g, 0, none⟩) n cap]) ∧ (w.heap.size ≤ g ∧ g < w'.heap.size ∧ n ≤ cap) ∧ OwnR w' g (some ⟨g, 0, none⟩) n X ∧ Below w.heap.size w w'

set_option maxRecDepth 100000 in
set_option maxHeartbeats 3200000 in
theorem take_any (n c d : Nat) (a b : Option Addr) (A : Nat → Option Addr) (L C : Nat → Nat) (Z : Nat → Nat → Int) (O : Nat → Int) (w : World) (hg : GivenOk n L Z n O) (ha0 : Tab w a n A L C Z) (hb0 : Rd w b n O) :
    Calls Tryd.prog 135 #[.slice a n c, .slice b n d] w (RetTake b d n (tkF Z n O n) w) := by
  have hn5 := hg.1.1.2
  have hn2 := hg.1.1.1
  have HA := Lib.hid ha0
  have HBB := Lib.hid hb0
  have HG := Lib.hid hg
  have hmk := run_make_row' (P := Tryd.prog) 32 3 (.int .i64 0) 8 Tryd.underlying32 Tryd.infoInt rfl .i64 .i64 n (by omega) (by omega)
  obtain ⟨M0, hM0⟩ : ∃ M0, M0 = 2 ^ n - 1 := ⟨_, rfl⟩
  have hp : 2 ^ n ≤ 2 ^ 5 := Nat.pow_le_pow_right (by omega) hn5
  have HM0 := Lib.hid (show M0 ≤ 31 ∧ ∀ y, M0.testBit y = tkS Z n O 0 y from ⟨by omega, fun y => by rw [hM0, Nat.testBit_two_pow_sub_one]; rfl⟩)
  have HE := Lib.hid (fun w1 => show Calls Tryd.prog 68 #[.slice a n c] w1 fun e w' => e = .returned (.int .i64 (M0 : Int)) ∧ w1 = w' from by rw [hM0]; exact everybodyP_any n c a w1 hn5)
  clear ha0 hb0 hg hM0 hp
  go_enter Tryd.func135, Tryd.ntmps135
  go_wp2_with (go_at_call 68; refine (HE.out _).mono ?_; rintro e w' ⟨rfl, rfl⟩)
  clear hmk
  obtain ⟨s, hs⟩ : ∃ s, s = w.heap.size := ⟨_, rfl⟩
  obtain ⟨w0, hw0⟩ : ∃ w0, w0 = ((w.alloc (.cells #[.slice none 0 0, .slice none 0 0] 134)).alloc (.cells (madeCells #[.int .i64 0] n) 3)).alloc (.cells #[.int .i64 M0] 3) := ⟨_, rfl⟩
  rw [← hw0, ← hs]
  have R0 := Lib.hid (show w0.rowIs (s + 1) 3 n (fun y => .int .i64 (tkF Z n O 0 y)) from by
    have h := (World.rowIs_made (w.alloc (.cells #[.slice none 0 0, .slice none 0 0] 134)) (.int .i64 0) n 3).congr (g := fun y => .int .i64 (tkF Z n O 0 y)) (fun y _ => rfl)
    rw [World.size_alloc, ← hs] at h
    rw [hw0]
    exact h.of_block (Below.heap_alloc _ _ _ (by simp; omega)))
  have K0 := Lib.hid (show w0.heap[s]? = some (.cells #[.slice none 0 0, .slice none 0 0] 134 (0, 0)) from by
    rw [hw0, hs, Below.heap_alloc _ _ _ (by simp; omega), Below.heap_alloc _ _ _ (by simp)]
    exact heap_alloc_last w _)
  have C0 := Lib.hid (show w0.cell? ⟨s + 1 + 1, 0, none⟩ = some (.int .i64 M0) ∧ w0.frozen? ⟨s + 1 + 1, 0, none⟩ = false from by
    have h := heap_alloc_last ((w.alloc (.cells #[.slice none 0 0, .slice none 0 0] 134)).alloc (.cells (madeCells #[.int .i64 0] n) 3)) (.cells #[.int .i64 M0] 3)
    rw [World.size_alloc, World.size_alloc, ← hs, ← hw0] at h
    exact ⟨cell_of_row _ _ 0 _ _ _ h, frozen_of_row _ _ 0 _ _ h⟩)
  have B0 := Lib.hid (show Below w.heap.size w w0 from by rw [hw0]; exact below_alloc (below_alloc (below_alloc (Below.refl _ w) _) _) _)
  have S0 := Lib.hid (show w0.heap.size = s + 3 from by rw [hw0, hs]; simp)
  have hsw : w.heap.size ≤ s := by omega
  have hsw2 : s ≤ w.heap.size := by omega
  clear hs hw0
  go_loopw [8, 9, 10, 18] (fun _ _ _ i wr => ∃ k M : Nat, k ≤ n ∧ i = .int .i64 k ∧ M ≤ 31 ∧ (∀ y, M.testBit y = tkS Z n O k y) ∧ wr.rowIs (s + 1) 3 n (fun y => .int .i64 (tkF Z n O k y)) ∧ wr.heap[s]? = some (.cells #[.slice none 0 0, .slice none 0 0] 134 (0, 0)) ∧ (wr.cell? ⟨s + 1 + 1, 0, none⟩ = some (.int .i64 M) ∧ wr.frozen? ⟨s + 1 + 1, 0, none⟩ = false) ∧ Below w.heap.size w wr) (fun _ _ _ i _ => n - (intOf i).toNat)
  case atStart => exact ⟨0, M0, Nat.zero_le _, rfl, HM0.out.1, HM0.out.2, R0.out, K0.out, C0.out, B0.out⟩
  case round =>
    obtain ⟨k, M, hk, rfl, hM, hbit, hrow, hbl, ⟨hcl, hfl⟩, hB⟩ := hrel
    clear R0 B0 K0 C0 S0 HM0 HE
    by_cases hlt : k < n
    · obtain ⟨bo, oo, rfl, hco⟩ := HBB.out.below (Nat.le_refl _) hB k hlt
      obtain ⟨p, hOp, hpn⟩ := diff_nat HG.out.2.2 hlt
      rw [hOp] at hco
      have hOn : (O k).toNat = p := by rw [hOp]; rfl
      obtain ⟨ba, oa, rfl, hca, hra⟩ := HA.out.below (Nat.le_refl _) hB p hpn
      rw [(HG.out.1.2 p hpn).1] at hca hra
      obtain ⟨j, hj, hyes, hno, hxe⟩ := tkX_spec (O := O) (k := k) HG.out.1 (by omega) hlt
      rw [hOn] at hyes hno hxe
      obtain ⟨x, hZx, hxn⟩ := diff_nat (HG.out.1.2 p hpn).2 hj
      have hx : x = tkX Z n O k := by rw [hxe, hZx]; rfl
      obtain ⟨M', hand, hle, hbit'⟩ := takes_next (by omega) (show x < 62 by omega) hbit hx
      have HB' := Lib.hid hbit'
      have HP := Lib.hid (indexLeft_any n (C p) (s + 1 + 1) M j (A p) (Z p) wr hn5 hM (HG.out.1.2 p hpn).2 hcl hra hj (by rw [hbit]; exact hyes) (fun i hi => by rw [hbit]; exact hno i hi))
      obtain ⟨br, or, hrw, hcj⟩ := hra j hj
      rw [hZx] at hcj
      rw [hrw] at hca HP
      have hc1 := hrow.cell hpn
      have hf1 := hrow.frozen p
      have HN := Lib.hid ((hrow.set p (.int .i64 (x : Nat))).congr (g := fun y => .int .i64 (tkF Z n O (k + 1) y)) (fun y _ => by
        rw [← tkF_next hOn hx y]
        by_cases e : y = p
        · rw [if_pos e, if_pos e]
        · rw [if_neg e, if_neg e]))
      have HBn := Lib.hid hB
      have HBL := Lib.hid hbl
      have HBS := Lib.hid hbit
      have i1 : (0 : Int) ≤ (p : Int) := by omega
      have i2 : (p : Int) < (n : Int) := by omega
      have i3 : (0 : Int) ≤ (j : Int) := by omega
      have i4 : (j : Int) < (n : Int) := by omega
      have hcl2 : (wr.setCell ⟨s + 1, p, none⟩ (.int .i64 (x : Nat))).cell? ⟨s + 1 + 1, 0, none⟩ = some (.int .i64 M) := by
        rw [World.cell?_setCell_other (a := ⟨s + 1, p, none⟩) (b := ⟨s + 1 + 1, 0, none⟩) (h := fun h => by simp only [Addr.mk.injEq] at h; omega)]; exact hcl
      have hfl2 : (wr.setCell ⟨s + 1, p, none⟩ (.int .i64 (x : Nat))).frozen? ⟨s + 1 + 1, 0, none⟩ = false := by rw [World.frozen?_setCell]; exact hfl
      clear hbit hbit' hOp hOn hx hrow hB hra hbl hyes hno hxe hZx hrw
      go_wp2_with (go_at_call 156; refine HP.out.mono ?_; rintro e w' ⟨rfl, rfl⟩)
      obtain ⟨w1, hw1⟩ : ∃ w1, w1 = wr.setCell ⟨s + 1, p, none⟩ (.int .i64 (x : Nat)) := ⟨_, rfl⟩
      rw [← hw1]
      rw [← hw1] at hcl2 hfl2
      have HW1 := Lib.hid hw1
      clear hw1 hcl hfl hc1 hf1
      go_still_tail 4, (by kernel_rfl)
      go_wp2
      go_roundw
      case rel =>
        
        have e1 := HW1.out
        refine ⟨k + 1, M', by omega, by go_num, by omega, HB'.out, ?_, ?_, ?_, ?_⟩
        · rw [← e1] at HN
          exact HN.out.of_block (Below.heap_setCell _ _ _ _ (show s + 1 ≠ s + 1 + 1 by omega))
        · show (World.setCell w1 _ _).heap[s]? = _
          rw [Below.heap_setCell _ _ _ _ (show s ≠ s + 1 + 1 by omega), e1, Below.heap_setCell _ _ _ _ (show s ≠ s + 1 by omega)]
          exact HBL.out
        · exact ⟨World.cell?_setCell_same' _ _ _ (by rw [hcl2]; rfl), by show (w1.setCell _ _).frozen? _ = false; rw [World.frozen?_setCell]; exact hfl2⟩
        · have := HBn.out.setCell (p := ⟨s + 1, p, none⟩) (by show w.heap.size ≤ s + 1; omega) (.int .i64 (x : Nat))
          rw [← e1] at this
          exact (this.setCell (p := ⟨s + 1 + 1, 0, none⟩) (by show w.heap.size ≤ s + 1 + 1; omega) _).drew
      case measure => simp [intOf]; omega
    · obtain rfl : k = n := by omega
      have HR := Lib.hid hrow
      have HB := Lib.hid hB
      have HBL := Lib.hid hbl
      clear hrow hB hbl
      have c0 : wr.cell? ⟨s, 0, none⟩ = some (.slice none 0 0) := cell_of_row wr s 0 _ _ (0, 0) HBL.out
      have f0 : wr.frozen? ⟨s, 0, none⟩ = false := frozen_of_row wr s 0 _ _ HBL.out
      have f1 : ∀ v, (wr.setCell ⟨s, 0, none⟩ v).frozen? ⟨s, 1, none⟩ = false := fun v => by rw [World.frozen?_setCell]; exact frozen_of_row wr s 1 _ _ HBL.out
      have c1 : ∀ v, (wr.setCell ⟨s, 0, none⟩ v).cell? ⟨s, 1, none⟩ = some (.slice none 0 0) := fun v => by
        rw [World.cell?_setCell_other (a := ⟨s, 0, none⟩) (b := ⟨s, 1, none⟩) (h := fun h => by simp only [Addr.mk.injEq] at h; omega)]
        exact cell_of_row wr s 1 _ _ (0, 0) HBL.out
      have h5 := fun u1 u2 => heap_setCell_same _ s 1 _ 134 u2 (heap_setCell_same wr s 0 _ 134 u1 HBL.out)
      have H5 := Lib.hid h5
      clear h5
      go_wp2
      refine bodyPost_ret (results_row2 rfl _ _ _ _ _ _ _ rfl (H5.out _ _) Tryd.underlying134 rfl Tryd.sizeTaking) rfl ?_
      have hl := HR.out.lt
      refine ⟨s + 1, k, rfl, ⟨by omega, by simpa [World.setCell] using hl, Nat.le_refl _⟩, (OwnR.of_row HR.out).of_block ?_, (HB.out.setCell hsw _).setCell hsw _⟩
      rw [Below.heap_setCell _ _ _ _ (show s + 1 ≠ s by omega), Below.heap_setCell _ _ _ _ (show s + 1 ≠ s by omega)]

/-- The giving out of what take hands back. -/
theorem field_giving (v u : Value) (w : World) : (Instr.field 134 (.agg #[v, u]) 1).run Tryd.prog w = .ok u w := by kernel_rfl
end Go.Proofs.YtabdbgnkiebcdaaDoor

namespace Go.Proofs.YtabdbgnkiebcdaaDoor
set_option linter.unusedVariables false
open Go.RowKit

set_option maxHeartbeats 400000 in
theorem equalInts_any (n m ca cb : Nat) (a b : Option Addr) (X Y : Nat → Int) (w : World) (hn : n ≤ 9223372036854775807) (hm : m ≤ 9223372036854775807) (ha : Rd w a n X) (hb : Rd w b m Y) :
    Calls Tryd.prog 134 #[.slice a n ca, .slice b m cb] w fun e w' => e = .returned (.bool (tt (SameB n m X Y))) ∧ ∃ q, w' = w.drewN q := by
  by_cases hnm : n = m
  · subst hnm
    go_enter Tryd.func134, Tryd.ntmps134
    go_wp2
    go_loopw [5, 13] (fun _ i wr => ∃ k : Nat, k ≤ n ∧ i = .int .i64 k ∧ (∀ j, j < k → X j = Y j) ∧ ∃ q, wr = w.drewN q) (fun _ i _ => n - (intOf i).toNat)
    case atStart => exact ⟨0, Nat.zero_le _, rfl, fun j hj => absurd hj (Nat.not_lt_zero _), 0, rfl⟩
    case round =>
      obtain ⟨k, hk, rfl, hs, q, rfl⟩ := hrel
      by_cases hlt : k < n
      · obtain ⟨ba, oa, rfl, hca⟩ := ha k hlt
        obtain ⟨bb, ob, rfl, hcb⟩ := hb k hlt
        have H1 := Lib.hid hs
        clear hs ha hb
        go_wp2
        go_quiet (fail)
        go_wp2
        · have ht : (X k != Y k) = true := by assumption
          have hf : ¬ SameB n n X Y := fun h => by have := h.2 k hlt; simp [this] at ht
          go_ret
          exact ⟨by rw [tt_no hf]; rfl, q + nq, by rw [World.drewN_drewN]⟩
        · have ht : (X k != Y k) = false := by assumption
          have he : X k = Y k := by simpa using ht
          go_roundw
          case rel =>
            exact ⟨k + 1, by omega, by go_num, fun j hj => by
              by_cases e : j = k
              · rw [e]; exact he
              · exact H1.out j (by omega), _, rfl⟩
          case measure => simp [intOf]; omega
      · have H1 := Lib.hid hs
        clear hs ha hb
        go_wp2
        go_ret
        exact ⟨by rw [tt_of ⟨rfl, fun j hj => H1.out j (by omega)⟩]; rfl, _, rfl⟩
  · go_enter Tryd.func134, Tryd.ntmps134
    have hne : ((n : Int) != (m : Int)) = true := by simp; omega
    go_wp2
    go_ret
    exact ⟨by rw [tt_no (fun h => hnm h.1)]; rfl, 0, rfl⟩
end Go.Proofs.YtabdbgnkiebcdaaDoor

namespace Go.Proofs.YtabdbgnkiebcdaaDoor
set_option linter.unusedVariables false
set_option linter.unusedSimpArgs false
open Go.RowKit

theorem keepT_drew {w0 W : World} {a b : Addr} {u v : Value} (h : W.cell? a = some u ∧ W.cell? b = some v ∧ Below w0.heap.size w0 W) : W.drew.cell? a = some u ∧ W.drew.cell? b = some v ∧ Below w0.heap.size w0 W.drew := ⟨h.1, h.2.1, h.2.2.drew⟩
theorem keepT_drewN {w0 W : World} {a b : Addr} {u v : Value} (q : Nat) (h : W.cell? a = some u ∧ W.cell? b = some v ∧ Below w0.heap.size w0 W) : (W.drewN q).cell? a = some u ∧ (W.drewN q).cell? b = some v ∧ Below w0.heap.size w0 (W.drewN q) := ⟨h.1, h.2.1, below_drewN h.2.2 q⟩
theorem keepT_below {w0 W W' : World} {a b : Addr} {u v : Value} (h : W.cell? a = some u ∧ W.cell? b = some v ∧ Below w0.heap.size w0 W) (hb : Below W.heap.size W W') : W'.cell? a = some u ∧ W'.cell? b = some v ∧ Below w0.heap.size w0 W' :=
  ⟨(hb.cell (World.block_lt_of_cell? _ _ h.1)).trans h.1, (hb.cell (World.block_lt_of_cell? _ _ h.2.1)).trans h.2.1, below_chain h.2.2 hb⟩

set_option maxHeartbeats 1600000 in
theorem makesTurns (u v : Value) (hu : u.oneCell' = true) (hv : v.oneCell' = true) (w : World) : MakesAt 61 103 (.agg #[u, v]) turnsB w := by
  intro W1 a m c _
  go_enter Tryd.func61, Tryd.ntmps61
  go_wp2
  refine bodyPost_ret (results_box1 Tryd.results61 _ _ (W1.heap.size + 1) 59 #[.string (strU turnsB), .slice a m c, .func (.func 103) #[.agg #[u, v]] #[]] (0, 0) _ rfl ?_ Tryd.underlying59 rfl Tryd.sizeProof) rfl ?_
  · have h := heap_alloc_last (W1.alloc (.cells #[u, v] 71)) (.cells #[.string (strU turnsB), .slice a m c, .func (.func 103) #[.agg #[u, v]] #[]] 59)
    rw [World.size_alloc] at h
    exact h
  · exact ⟨rfl, below_alloc (below_alloc (Below.refl _ W1) _) _⟩

set_option maxRecDepth 100000 in
set_option maxHeartbeats 3200000 in
theorem showsTurn (n c : Nat) (a : Option Addr) (A : Nat → Option Addr) (L C : Nat → Nat) (Z : Nat → Nat → Int) (d : Nat) (g : Option Addr) (G : Nat → Int) (w : World) (hg : GivenOk n L Z n G) (ha : Tab w a n A L C Z) (hb : Rd w g n G) :
    ShowsAt 103 (.agg #[.slice a n c, .slice g n d]) (TurnQ n Z G) w := by
  intro W1 b m e X hB hm hX hx
  have hn5 := hg.1.1.2
  have hW := hg.1
  have hA1 := ha.below (Nat.le_refl _) hB
  have hG1 := hb.below (Nat.le_refl _) hB
  have hY1 := rd_nums hx
  have HQ : TurnQ n Z G (numsL m X) ↔ IsEach n m (nth (numsL m X)) ∧ ∀ k, k < n → tkF Z n (nth (numsL m X)) n k = G k := by unfold TurnQ; rw [numsL_len]
  obtain ⟨Y, hY⟩ : ∃ Y, Y = nth (numsL m X) := ⟨_, rfl⟩
  rw [← hY] at hY1 HQ
  obtain ⟨B, hBd⟩ : ∃ B, B = TurnQ n Z G (numsL m X) := ⟨_, rfl⟩
  rw [← hBd] at HQ ⊢
  clear hBd hY hx hX ha hb hB
  have HE := Lib.hid (fun (w1 : World) (h : Below W1.heap.size W1 w1) => hasEach_any n m e b Y w1 hn5 hm (hY1.below (Nat.le_refl _) h))
  have hc0 : (W1.alloc (.cells #[.slice a n c, .slice g n d] 71)).cell? ⟨W1.heap.size, 0, none⟩ = some (.slice a n c) := (Lib.cell_of_heap (heap_alloc_last W1 _) 0).trans rfl
  have hc1 : (W1.alloc (.cells #[.slice a n c, .slice g n d] 71)).cell? ⟨W1.heap.size, 1, none⟩ = some (.slice g n d) := (Lib.cell_of_heap (heap_alloc_last W1 _) 1).trans rfl
  have hb0 : Below W1.heap.size W1 (W1.alloc (.cells #[.slice a n c, .slice g n d] 71)) := below_alloc (Below.refl _ W1) _
  by_cases he : IsEach n m Y
  · have T0 := Lib.hid (tt_of he)
    have hmn := he.1
    subst hmn
    have HT := Lib.hid (fun (w1 : World) (h : Below W1.heap.size W1 w1) => take_any m c e a b A L C Z Y w1 ⟨hW, he⟩ (hA1.below (Nat.le_refl _) h) (hY1.below (Nat.le_refl _) h))
    have HG := Lib.hid hG1
    have HR := Lib.hid (show tt (SameB m m (tkF Z m Y m) G) = tt B from tt_congr ⟨fun h => HQ.2 ⟨he, h.2⟩, fun h => ⟨rfl, (HQ.1 h).2⟩⟩)
    have hF : ∀ (x y : Value) (W : World), (Instr.field 134 (.agg #[x, y]) 1).run Tryd.prog W = .ok y W := fun x y W => by simp [go_sem, Instr.field, asAgg]
    clear hg hW hA1 hG1 hY1 he HQ
    go_enter Tryd.func103, Tryd.ntmps103
    go_wp2
    go_region_held3 (fun W => W.cell? ⟨W1.heap.size, 0, none⟩ = some (.slice a m c) ∧ W.cell? ⟨W1.heap.size, 1, none⟩ = some (.slice g m d) ∧ Below W1.heap.size W1 W)
      (first | exact keepT_drew ⟨hc0, hc1, hb0⟩ | exact keepT_drew (by assumption) | exact keepT_drewN _ (by assumption) | exact keepT_below (by assumption) hbt | assumption)
      ((first
        | (go_at_call 113; refine (HE.out _ (by first | exact hb0.drew | exact hb0 | exact (show _ ∧ _ ∧ Below W1.heap.size W1 _ from by assumption).2.2)).mono ?_; rw [T0.out]; rintro e w1 ⟨rfl, rfl⟩)
        | (go_at_call 135; refine (HT.out _ (by first | exact hb0.drew | exact hb0 | exact (show _ ∧ _ ∧ Below W1.heap.size W1 _ from by assumption).2.2)).mono ?_; rintro e w2 ⟨gt, ct, rfl, ⟨hgt1, hgt2, hgt3⟩, hOt, hbt⟩)
        | (go_at_call 134; refine (equalInts_any m m ct d _ g (tkF Z m Y m) G _ (by omega) (by omega) hOt.rd (HG.out.below (Nat.le_refl _) (by first | exact (show _ ∧ _ ∧ Below W1.heap.size W1 _ from by assumption).2.2 | exact below_chain (show _ ∧ _ ∧ Below W1.heap.size W1 _ from by assumption).2.2 hbt))).mono ?_; rw [HR.out]; rintro e w3 ⟨rfl, q3, rfl⟩)))
    have BB := Lib.hid (show Below W1.heap.size W1 (w2.drewN q3) from by first | exact (show _ ∧ _ ∧ Below W1.heap.size W1 (w2.drewN q3) from by assumption).2.2 | exact below_drewN (show _ ∧ _ ∧ Below W1.heap.size W1 w2 from by assumption).2.2 q3)
    go_wp2
    go_ret
    exact ⟨rfl, BB.out⟩
  · have T0 := Lib.hid (tt_no he)
    have HF := Lib.hid (tt_no (show ¬ B from fun h => he (HQ.1 h).1))
    clear hg hA1 hG1 hY1 HQ he
    go_enter Tryd.func103, Tryd.ntmps103
    have I1 := Lib.hid (fun (r : Later (W1.alloc (.cells #[.slice a n c, .slice g n d] 71))) => (show Calls Tryd.prog 113 #[.int .i64 n, .slice b m e] r.W fun e w' => e = .returned (.bool false) ∧ Below r.W.heap.size r.W w' from (HE.out r.W (below_chain hb0 r.h)).mono (by rw [T0.out]; rintro e w1 ⟨rfl, rfl⟩; exact ⟨rfl, Below.refl _ _⟩)))
    have e0 : ∀ r : Later (W1.alloc (.cells #[.slice a n c, .slice g n d] 71)), r.W.cell? ⟨W1.heap.size, 0, none⟩ = some (.slice a n c) := fun r => later_cell hc0 r
    go_wp2
    refine wp_region_later (by kernel_rfl) (by kernel_rfl) ?_
    repeat go_big_quiet_step ((go_at_call 113; exact calls_later _ (I1.out _)))
    refine wpQuiet_nil ?_
    rintro _ ⟨r, rfl⟩
    have B2 := Lib.hid (below_chain hb0 r.h)
    clear I1 e0
    go_wp2
    go_ret
    exact ⟨by rw [HF.out]; rfl, B2.out⟩
end Go.Proofs.YtabdbgnkiebcdaaDoor
