/- The model's l3Trade: the giving that comes by trading in circles, and how often all point. -/
import Derived.Test.YtfhkbjheleojmaaDoorL3Circle
import Derived.Test.YtfhkbjheleojmaaDoorInfoInts
namespace Go.Proofs.YtfhkbjheleojmaaDoor
set_option linter.unusedVariables false
set_option linter.unusedSimpArgs false
open Go.RowKit

/-- What is in the first set and not in the second one. -/
theorem bits_andNot_i64 (a b : Nat) (ha : a < 2 ^ 62) (hb : b < 2 ^ 62) : ∃ r : Nat, bits .andNot .i64 (a : Int) (b : Int) = (r : Int) ∧ r ≤ a ∧ ∀ y, r.testBit y = (a.testBit y && !b.testBit y) := by
  have e : bits .andNot .i64 (a : Int) (b : Int) = IntKind.i64.wrap ((BitVec.ofInt 64 (a : Int) &&& ~~~ BitVec.ofInt 64 (b : Int)).toNat : Int) := rfl
  have ea := ofInt64_nat a (by omega)
  have eb := ofInt64_nat b (by omega)
  have hle : (BitVec.ofInt 64 (a : Int) &&& ~~~ BitVec.ofInt 64 (b : Int)).toNat ≤ a := by
    rw [BitVec.toNat_and, ea]; exact Nat.and_le_left
  refine ⟨(BitVec.ofInt 64 (a : Int) &&& ~~~ BitVec.ofInt 64 (b : Int)).toNat, ?_, hle, fun y => ?_⟩
  · rw [e, IntKind.wrap_i64]; omega
  · rw [BitVec.testBit_toNat, BitVec.getLsbD_and, BitVec.getLsbD_not, ← BitVec.testBit_toNat, ← BitVec.testBit_toNat, ea, eb]
    by_cases hy : y < 64
    · simp [hy]
    · rw [Nat.testBit_lt_two_pow (x := a) (Nat.lt_of_lt_of_le ha (Nat.pow_le_pow_right (by omega) (by omega)))]; simp

/-- What a trade hands back: a row of its own, and a number. -/
def RetIN (n : Nat) (X : Nat → Int) (t : Int) (w : World) (e : Ending) (w' : World) : Prop :=
  ∃ a c, e = .returned (.tuple #[.slice a n c, .int .i64 t]) ∧ n ≤ c ∧ OwnI w' w.heap.size w'.heap.size a n X ∧ Below w.heap.size w w'

/-- What has been got when the first i people have been seen in round t. -/
noncomputable def midF (Z : Nat → Nat → Int) (n t i y : Nat) : Int := if y < i then (gF Z n (t + 1) y : Int) else (gF Z n t y : Int)
theorem midF_zero (Z : Nat → Nat → Int) (n t y : Nat) : (gF Z n t y : Int) = midF Z n t 0 y := by unfold midF; rw [if_neg (Nat.not_lt_zero _)]
theorem midF_all {Z : Nat → Nat → Int} {n t y : Nat} (h : y < n) : midF Z n t n y = (gF Z n (t + 1) y : Int) := by unfold midF; rw [if_pos h]
theorem midF_yes {Z : Nat → Nat → Int} {n t i : Nat} (h : circB Z n (tS Z n t) i = true) (y : Nat) : (if y = i then ((ptS Z n (tS Z n t) i : Nat) : Int) else midF Z n t i y) = midF Z n t (i + 1) y := by
  unfold midF
  by_cases e : y = i
  · subst e
    rw [if_pos rfl, if_pos (Nat.lt_succ_self _)]
    show _ = (((if circB Z n (tS Z n t) y = true then ptS Z n (tS Z n t) y else gF Z n t y) : Nat) : Int)
    rw [if_pos h]
  · rw [if_neg e]
    by_cases h' : y < i
    · rw [if_pos h', if_pos (by omega)]
    · rw [if_neg h', if_neg (by omega)]
theorem midF_no {Z : Nat → Nat → Int} {n t i : Nat} (h : circB Z n (tS Z n t) i = false) (y : Nat) : midF Z n t i y = midF Z n t (i + 1) y := by
  unfold midF
  by_cases e : y = i
  · subst e
    rw [if_neg (Nat.lt_irrefl _), if_pos (Nat.lt_succ_self _)]
    show _ = (((if circB Z n (tS Z n t) y = true then ptS Z n (tS Z n t) y else gF Z n t y) : Nat) : Int)
    rw [if_neg (by rw [h]; decide)]
  · by_cases h' : y < i
    · rw [if_pos h', if_pos (by omega)]
    · rw [if_neg h', if_neg (by omega)]

set_option maxHeartbeats 1600000 in
theorem l3Trade_any (n c : Nat) (a : Option Addr) (A : Nat → Option Addr) (L C : Nat → Nat) (Z : Nat → Nat → Int) (w : World) (hW : IsWishes n L Z) (ha0 : Tab w a n A L C Z) :
    Calls Tryd.prog 49 #[.slice a n c] w (RetIN n (giveF Z n) (turnsN Z n : Nat) w) := by
  have hn5 := hW.1.2
  have hn2 := hW.1.1
  have HA := Lib.hid ha0
  have HW := Lib.hid hW
  have hmk := run_make_row' (P := Tryd.prog) 23 3 (.int .i64 0) 8 Tryd.underlying23 Tryd.infoInt rfl .i64 .i64 n (by omega) (by omega)
  obtain ⟨M0, hM0⟩ : ∃ M0, M0 = 2 ^ n - 1 := ⟨_, rfl⟩
  have hp : 2 ^ n ≤ 2 ^ 5 := Nat.pow_le_pow_right (by omega) hn5
  have hp1 := Nat.two_pow_pos n
  have hfull : wrap64 (wrap64 (2 ^ n) - 1) = (M0 : Int) := by
    rw [wrap_pow (show n < 62 by omega), IntWalk.wrap64_in _ (by omega)]; omega
  have HM0 := Lib.hid (show M0 < 2 ^ n ∧ M0 ≤ 31 ∧ ∀ y, M0.testBit y = tS Z n 0 y from ⟨by omega, by omega, fun y => by rw [hM0, Nat.testBit_two_pow_sub_one]; rfl⟩)
  have HFl := Lib.hid hfull
  clear ha0 hW hM0 hp hp1 hfull
  go_enter Tryd.func49, Tryd.ntmps49
  go_wp2
  clear hmk
  have R0 := Lib.hid ((World.rowIs_made w (.int .i64 0) n 3).congr (g := fun y => .int .i64 (gF Z n 0 y : Nat)) (fun y _ => rfl))
  have B0 := Lib.hid (below_alloc (Below.refl _ w) (.cells (madeCells #[.int .i64 0] n) 3))
  go_loopw [5, 6, 7, 8] (fun lf tn _ _ wr => ∃ t M : Nat, tn = .int .i64 t ∧ lf = .int .i64 M ∧ M < 2 ^ n ∧ t + M ≤ 31 ∧ (∀ y, M.testBit y = tS Z n t y) ∧ (∀ s, s < t → ∃ y, tS Z n s y = true) ∧
      wr.rowIs w.heap.size 3 n (fun y => .int .i64 (gF Z n t y : Nat)) ∧ Below w.heap.size w wr) (fun lf _ _ _ _ => (intOf lf).toNat)
  case atStart => exact ⟨0, M0, rfl, by rw [HFl.out], HM0.out.1, by have := HM0.out.2.1; omega, HM0.out.2.2, fun s hs => absurd hs (Nat.not_lt_zero _), R0.out, B0.out⟩
  case round =>
    obtain ⟨t, M, rfl, rfl, hM, htM, hbit, hsome, hrow, hB⟩ := hrel
    have HM := Lib.hid hM
    have HBit := Lib.hid hbit
    have HSome := Lib.hid hsome
    have HR := Lib.hid hrow
    have HB := Lib.hid hB
    clear hM hbit hsome hrow hB R0 B0 HM0
    by_cases hpos : 0 < M
    · have hS := Lib.hid (show M.testBit = tS Z n t from funext HBit.out)
      obtain ⟨K, hK⟩ : ∃ K, K = maskN (circB Z n M.testBit) n := ⟨_, rfl⟩
      have hKb : ∀ y, K.testBit y = circB Z n (tS Z n t) y := fun y => by rw [hK, hS.out]; exact (maskN_is (circB_ppl Z (tS_ppl Z n t))).2 y
      have hKn : K < 2 ^ n := by rw [hK]; exact maskN_lt _ _
      have HK := Lib.hid hK.symm
      have HKb := Lib.hid hKb
      have HKn := Lib.hid hKn
      have HC := Lib.hid (l3Circle_any n c M a A L C Z wr HW.out HM.out (HA.out.below (Nat.le_refl _) HB.out))
      obtain ⟨wo, rfl⟩ : ∃ wo : World, wo = wr := ⟨_, rfl⟩
      clear hK hKb hKn
      go_wp2_with (go_at_call 71; refine HC.out.mono ?_; rintro e w' ⟨rfl, rfl⟩; rw [HK.out])
      clear HC
      go_loopw [8] (fun i wi => ∃ j : Nat, j ≤ n ∧ i = .int .i64 j ∧ wi.rowIs w.heap.size 3 n (fun y => .int .i64 (midF Z n t j y)) ∧ Below w.heap.size w wi) (fun i _ => n - (intOf i).toNat)
      case atStart => exact ⟨0, Nat.zero_le _, rfl, HR.out.congr (fun y _ => by rw [midF_zero]), HB.out⟩
      case round =>
        obtain ⟨j, hj, rfl, hrow, hB⟩ := hrel
        by_cases hjl : j < n
        · have hhas := bit_has K j (Nat.lt_trans HKn.out (two_pow_lt (by omega)))
          by_cases hb : K.testBit j = true
          · have hcb := HKb.out j
            rw [hb] at hcb
            obtain ⟨ba, oa, rfl, hca, hra⟩ := HA.out.below (Nat.le_refl _) hB j hjl
            rw [(HW.out.2 j hjl).1] at hca hra
            have HRd := Lib.hid hra
            rw [hb] at hhas
            have hMM : M < 2 ^ 62 := Nat.lt_trans HM.out (two_pow_lt (by omega))
            have HP := Lib.hid (l3Point_any n (C j) M (A j) (Z j) _ hn5 hMM (HW.out.2 j hjl).2 HRd.out)
            obtain ⟨p, hpp⟩ : ∃ p, p = ptN (Z j) M.testBit n := ⟨_, rfl⟩
            have hc1 := hrow.cell hjl
            have hf1 := hrow.frozen j
            have HN := Lib.hid ((hrow.set j (.int .i64 (p : Nat))).congr (g := fun y => .int .i64 (midF Z n t (j + 1) y)) (fun y _ => by
              have := midF_yes (Z := Z) (n := n) hcb.symm y
              rw [← this]
              by_cases e : y = j
              · rw [if_pos e, if_pos e, hpp, hS.out]; rfl
              · rw [if_neg e, if_neg e]))
            have HBn := Lib.hid hB
            have QP := Lib.hid hpp.symm
            clear hb hra hrow hB hcb hMM hpp
            go_wp2_with (go_at_call 72; refine HP.out.mono ?_; rintro e w' ⟨rfl, rfl⟩; rw [QP.out])
            go_roundw
            case rel => exact ⟨j + 1, by omega, by go_num, HN.out, HBn.out.setCell (Nat.le_refl _) _⟩
            case measure => simp [intOf]; omega
          · have hb' : K.testBit j = false := by simpa using hb
            have hcb := HKb.out j
            rw [hb'] at hhas hcb
            have HN := Lib.hid (hrow.congr (g := fun y => .int .i64 (midF Z n t (j + 1) y)) (fun y _ => by rw [midF_no hcb.symm]))
            have HBn := Lib.hid hB
            clear hb hb' hrow hB hcb
            go_wp2
            go_roundw
            case rel => exact ⟨j + 1, by omega, by go_num, HN.out, HBn.out⟩
            case measure => simp [intOf]; omega
        · obtain rfl : j = n := by omega
          obtain ⟨M', hand, hle, hbit'⟩ := bits_andNot_i64 M K (Nat.lt_trans HM.out (two_pow_lt (by omega))) (Nat.lt_trans HKn.out (two_pow_lt (by omega)))
          have hnew : ∀ y, M'.testBit y = tS Z j (t + 1) y := fun y => by rw [hbit', HBit.out, HKb.out]; rfl
          obtain ⟨y0, hy0⟩ : ∃ y, tS Z j t y = true := by
            obtain ⟨y, hy⟩ := Nat.exists_testBit_of_ne_zero (show M ≠ 0 by omega)
            exact ⟨y, by rw [← HBit.out]; exact hy⟩
          obtain ⟨z, hz⟩ := circB_some HW.out (tS_ppl Z j t) hy0
          have hlt' : M' < M := by
            rcases Nat.lt_or_eq_of_le hle with h | h
            · exact h
            · have h1 := hnew z
              rw [h, HBit.out, circB_gone hz, circB_in hz] at h1; cases h1
          have HN := Lib.hid (hrow.congr (g := fun y => .int .i64 (gF Z j (t + 1) y : Nat)) (fun y hy => by rw [midF_all hy]))
          have HX := Lib.hid (show M' < 2 ^ j ∧ t + 1 + M' ≤ 31 ∧ (∀ y, M'.testBit y = tS Z j (t + 1) y) ∧ ∀ s, s < t + 1 → ∃ y, tS Z j s y = true from ⟨Nat.lt_trans hlt' HM.out, by omega, hnew, fun s hs => by
            by_cases e : s = t
            · subst e; exact ⟨y0, hy0⟩
            · exact HSome.out s (by omega)⟩)
          have HBn := Lib.hid hB
          clear hnew hbit' hy0 hz hrow hB
          go_wp2
          clear hand
          go_roundw
          case rel => exact ⟨t + 1, M', by go_num, rfl, HX.out.1, HX.out.2.1, HX.out.2.2.1, HX.out.2.2.2, HN.out, HBn.out⟩
          case measure => simp [intOf]; omega
    · obtain rfl : M = 0 := by omega
      have HT := Lib.hid (show turnsN Z n = t from turnsN_of ⟨fun y => by rw [← HBit.out]; simp, HSome.out⟩)
      go_wp2
      go_ret2
      have hlt := HR.out.lt
      refine ⟨_, _, by rw [HT.out]; rfl, Nat.le_refl _, .inr ⟨w.heap.size, Nat.le_refl _, hlt, OwnR.of_row (HR.out.congr fun y _ => ?_)⟩, HB.out⟩
      unfold giveF
      rw [HT.out]
end Go.Proofs.YtfhkbjheleojmaaDoor
