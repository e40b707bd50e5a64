/- The program's readWants, readWantsUpTo, wants and WantIn. -/
import Derived.Test.YtamglhpgdaoaoaaWantModel
import Derived.Test.YtamglhpgdaoaoaaL6wGiven
import Derived.Test.YtamglhpgdaoaoaaLists
import Derived.Test.YtamglhpgdaoaoaaInfoInts
import Derived.Test.YtamglhpgdaoaoaaProg
import Derived.Laws.CopyOwn
namespace Go.Proofs.Ytamglhpgdaoaoaa
set_option linter.unusedVariables false
set_option linter.unusedSimpArgs false
open Go.RowKit

theorem run_slice_whole {P : Program} (ty e m g o : Nat) (hu : P.underlying ty = some (.array m e)) (hi : (P.info? e).map (·.size) = some 1) (hm : 0 < m) (w : World) :
    (Instr.sliceAt ty (.pointer (some ⟨g, o, none⟩)) none none none).run P w = .ok (.slice (some ⟨g, o, none⟩) m m) w := by
  have h2 : (underlying ty).run P w = .ok (.array m e) w := run_underlying hu w
  cases hq : P.info? e with
  | none => simp [hq] at hi
  | some inf =>
    have hs : inf.size = 1 := by simpa [hq] using hi
    have hne : ¬ m = 0 := by omega
    simp [Instr.sliceAt, Instr.sureAddr, h2, Instr.sliceBounds, sizeOf, typeInfo, hq, Addr.add]
theorem run_slice_three {P : Program} (ty e m n g o : Nat) (hu : P.underlying ty = some (.array m e)) (hi : (P.info? e).map (·.size) = some 1) (hm : 0 < n) (hn : n ≤ m) (w : World) :
    (Instr.sliceAt ty (.pointer (some ⟨g, o, none⟩)) none (some (.int .i64 (n : Int))) (some (.int .i64 (n : Int)))).run P w = .ok (.slice (some ⟨g, o, none⟩) n n) w := by
  have h2 : (underlying ty).run P w = .ok (.array m e) w := run_underlying hu w
  have hb : (Instr.sliceBound (.int .i64 (n : Int)) m .slice3Alen).run P w = .ok n w := by
    simp [Instr.sliceBound, asIntOf]; omega
  have hb2 : (Instr.sliceBound (.int .i64 (n : Int)) n .slice3B).run P w = .ok n w := by
    simp [Instr.sliceBound, asIntOf]
  cases hq : P.info? e with
  | none => simp [hq] at hi
  | some inf =>
    have hs : inf.size = 1 := by simpa [hq] using hi
    have hne : ¬ m = 0 := by omega
    simp [Instr.sliceAt, Instr.sureAddr, h2, Instr.sliceBounds, hb, hb2, sizeOf, typeInfo, hq, Addr.add]

/-- What an array of m holds behind the copying of n numbers to its front. -/
def frontF (n : Nat) (X : Nat → Int) (j : Nat) : Int := if j < n then X j else 0
theorem front_copy {n m : Nat} (X : Nat → Int) (hn : n ≤ m) : ((cellsV m fun _ => 0).toList.take 0 ++ (cellsL n X ++ (cellsV m fun _ => 0).toList.drop (0 + (cellsL n X).length))).toArray = cellsV m (frontF n X) := by
  rw [cellsL_length, Nat.zero_add, List.take_zero, List.nil_append]
  apply Array.ext_getElem?
  intro j
  have hl : (cellsV m fun _ => 0).toList = cellsL m fun _ => 0 := rfl
  by_cases hj : j < m
  · rw [cellsV_get _ hj, List.getElem?_toArray, hl]
    unfold frontF
    by_cases e2 : j < n
    · rw [if_pos e2, List.getElem?_append_left (by rw [cellsL_length]; exact e2), cellsL_get X e2]
    · rw [if_neg e2, List.getElem?_append_right (by rw [cellsL_length]; omega), cellsL_length, List.getElem?_drop, show n + (j - n) = j by omega, cellsL_get _ hj]
  · have e1 : (cellsV m (frontF n X))[j]? = none := Array.getElem?_eq_none (by rw [cellsV_size]; omega)
    rw [e1, Array.getElem?_eq_none]
    simp [cellsL, cellsV]; omega
section
variable {P : Program} {ops : Array Oper} {rest : List Oper} {a : Act} {w : World} {Q : Exit → Act → World → Prop} {d : Option Nat} {ot : TypeId} {pos : String} {aft : Array Edge}
/-- A list is copied to the front of an array of zeros. -/
theorem arr_fill (n c g t m dT sT e : Nat) (x y : Operand) (ad : Addr) (X : Nat → Int) (hu : P.underlying dT = some (.slice e)) (hsz : (P.info? e).map (·.size) = some 1) (hn : n ≤ m)
    (hx : a.eval x = .slice (some ⟨g, 0, none⟩) m m) (hy : a.eval y = .slice (some ad) n c) (hg : ArrAt w g t m (fun _ => 0)) (hsrc : ∀ j v, (cellsL n X)[j]? = some v → w.cell? (ad.add j) = some v)
    (h : ∀ w1, ArrAt w1 g t m (frontF n X) → w1.heap.size = w.heap.size → (∀ k, k ≠ g → w1.heap[k]? = w.heap[k]?) → Below g w w1 → wpList P ops Q rest (a.put d (goInt (cellsL n X).length)) w1) :
    wpList P ops Q (⟨d, Op.call { callee := Callee.builtin Builtin.copy, args := #[x, y], argTypes := #[dT, sT] }, ot, pos, aft, none⟩ :: rest) a w := by
  refine wpList_copy_own rfl x y dT sT rfl e hu hsz g 0 m m ad n c hx hy (cellsV m fun _ => 0) t hg (cellsL n X) (by rw [cellsL_length]; exact (Nat.min_eq_left hn).symm) hsrc (by rw [cellsL_length, cellsV_size]; omega) (cellsL_one n X) ?_
  rw [front_copy X hn]
  exact h _ (setRow_heap w g _ _ t (0, 0) hg) (by simp) (fun k hk => setRow_other w g k _ hk) (below_setRow w _ (Nat.le_refl _))
end
theorem Try.zeroSix (w : World) : (zeroValue 66).run Try.prog w = .ok (.agg (cellsV 6 fun _ => 0)) w := by kernel_rfl
theorem Try.sizeInt1 : (Try.prog.info? 3).map (·.size) = some 1 := by kernel_rfl

/-- What reading wants hands back: a copy, or nil. -/
def RetWants (n : Nat) (W : Nat → Int) (ok : Prop) (w : World) (e : Ending) (w' : World) : Prop :=
  ∃ v, e = .returned (.tuple #[v, .bool (tt ok)]) ∧ (ok → ∃ g, v = .slice (some ⟨g, 0, none⟩) n n ∧ w.heap.size ≤ g ∧ g < w'.heap.size ∧ Rd w' (some ⟨g, 0, none⟩) n W) ∧ Below w.heap.size w w'
theorem wants_shl {n : Nat} (h : n ≤ 6) : wrap64 (2 ^ min n 64) = ((2 ^ n : Nat) : Int) := by
  rw [show min n 64 = n from by omega, wrap_pow (show n < 62 by omega)]

/-- .. and where it is none, nil. -/
def RetWantsF (n : Nat) (W : Nat → Int) (ok : Prop) (w : World) (e : Ending) (w' : World) : Prop :=
  ∃ v, e = .returned (.tuple #[v, .bool (tt ok)]) ∧ (ok → ∃ g, v = .slice (some ⟨g, 0, none⟩) n n ∧ w.heap.size ≤ g ∧ g < w'.heap.size ∧ Rd w' (some ⟨g, 0, none⟩) n W) ∧ (¬ ok → v = .slice none 0 0) ∧ Below w.heap.size w w'
set_option maxRecDepth 100000 in
set_option maxHeartbeats 1600000 in
theorem readWants_full (n c : Nat) (a : Option Addr) (W : Nat → Int) (w : World) (hm0 : n ≤ 1048576) (ha : Rd w a n W) :
    Calls Try.prog 45 #[.slice a n c] w (RetWantsF n W (IsWants n W) w) := by
  by_cases hn2 : n < 2
  · have T := Lib.hid (tt_no (show ¬ IsWants n W from fun h => by have := h.1.1; omega))
    have HF := Lib.hid (show ¬ IsWants n W from fun h => by have := h.1.1; omega)
    have hd : decide ((n : Int) < 2) = true := by simp; omega
    clear ha
    go_enter Try.func45, Try.ntmps45
    go_wp2_with fail
    go_ret2
    exact ⟨_, by rw [T.out]; rfl, fun h => absurd h HF.out, fun _ => rfl, Below.refl _ _⟩
  · by_cases hn6 : 6 < n
    · have T := Lib.hid (tt_no (show ¬ IsWants n W from fun h => by have := h.1.2; omega))
      have HF := Lib.hid (show ¬ IsWants n W from fun h => by have := h.1.2; omega)
      have hd : decide ((n : Int) < 2) = false := by simp; omega
      have hd2 : decide (6 < (n : Int)) = true := by simp; omega
      clear ha
      go_enter Try.func45, Try.ntmps45
      go_wp2_with fail
      go_ret2
      exact ⟨_, by rw [T.out]; rfl, fun h => absurd h HF.out, fun _ => rfl, Below.refl _ _⟩
    · have hd : decide ((n : Int) < 2) = false := by simp; omega
      have hd2 : decide (6 < (n : Int)) = false := by simp; omega
      obtain ⟨ba, oa, rfl, hc0⟩ := ha 0 (by omega)
      have HA := Lib.hid ha
      have hsl := fun g o w => run_slice_whole (P := Try.prog) 66 3 6 g o Try.underlying66 (by kernel_rfl) (by decide) w
      have hcut := fun g o w => run_slice_three (P := Try.prog) 66 3 6 n g o Try.underlying66 (by kernel_rfl) (by omega) (by omega) w
      obtain ⟨N, hN⟩ : ∃ N, N = 2 ^ n := ⟨_, rfl⟩
      have hsh : wrap64 (2 ^ min n 64) = (N : Int) := by rw [hN]; exact wants_shl (n := n) (by omega)
      have hsh2 : wrap64 (2 ^ n) = (N : Int) := by rw [hN]; exact wrap_pow (show n < 62 by omega)
      have HN := Lib.hid hN
      clear hN
      clear ha hc0
      go_enter Try.func45, Try.ntmps45
      go_wp2_with (first
        | ((with_reducible refine arr_alloc 6 _ (Try.zeroSix _) ?_); intro w1 hA1 hs1 hb1; have S1 := Lib.hid hs1; have B1 := Lib.hid hb1; clear hs1 hb1)
        | ((with_reducible refine arr_fill n c _ _ 6 _ _ _ _ _ ⟨ba, oa, none⟩ W Try.underlying23 Try.sizeInt1 (by omega) ?_ ?_ hA1 ?_ ?_); exact rfl; exact rfl; exact HA.out.news B1.out; intro w2 hA2 hs2 ho2 hb2; have S2 := Lib.hid hs2; have A2 := Lib.hid hA2; have B2 := Lib.hid (B1.out.trans hb2); clear hA1 hs2 ho2 hb2 hA2))
      have hR : Rd w2 (some ⟨w.heap.size, 0, none⟩) n W := fun k hk => by
        obtain ⟨b, o, h1, h2⟩ := Rd.of_row A2.out.row k (by omega)
        exact ⟨b, o, h1, by rw [h2]; unfold frontF; rw [if_pos hk]⟩
      have HR := Lib.hid hR
      clear hR hsl hcut A2
      go_loop [7, 8, 25] (fun _ _ i => ∃ k : Nat, k ≤ n ∧ i = .int .i64 k ∧ ∀ j, j < k → 0 ≤ W j ∧ W j < (2 ^ n : Nat) ∧ WantsB W j j = false) (fun _ _ i => n - (intOf i).toNat)
      case atStart => exact ⟨0, Nat.zero_le _, rfl, fun j hj => absurd hj (Nat.not_lt_zero _)⟩
      case round =>
        obtain ⟨k, hk, rfl, hall⟩ := hrel
        have HAll := Lib.hid hall
        clear hall
        by_cases hlt : k < n
        · obtain ⟨bb, oo, hbo, hca⟩ := HR.out k hlt
          cases hbo
          rw [Nat.zero_add] at hca
          by_cases h0 : W k < 0
          · have hno := Lib.hid (show ¬ IsWants n W from fun h => by have := (h.2 k hlt).1; omega)
            have hdd : decide (W k < 0) = true := by simpa using h0
            clear h0
            go_wp2_with fail
            go_ret2
            exact ⟨_, by rw [tt_no hno.out]; rfl, fun h => absurd h hno.out, fun _ => rfl, B2.out⟩
          · have hdd : decide (W k < 0) = false := by simpa using h0
            obtain ⟨y, hy⟩ := Int.eq_ofNat_of_zero_le (show 0 ≤ W k by omega)
            rw [hy] at hca hdd
            have HY := Lib.hid hy
            clear hy h0
            by_cases h1 : N ≤ y
            · have hno := Lib.hid (show ¬ IsWants n W from fun h => by have := (h.2 k hlt).2.1; have := HY.out; have := HN.out; omega)
              have d1 : decide ((N : Int) ≤ (y : Int)) = true := by simp only [decide_eq_true_eq]; omega
              have d2 : decide (N ≤ y) = true := by simpa using h1
              clear h1
              go_wp2_with fail
              go_ret2
              exact ⟨_, by rw [tt_no hno.out]; rfl, fun h => absurd h hno.out, fun _ => rfl, B2.out⟩
            · have d1 : decide ((N : Int) ≤ (y : Int)) = false := by simp only [decide_eq_false_iff_not]; omega
              have d2 : decide (N ≤ y) = false := by simpa using h1
              have HL := Lib.hid (show y < 2 ^ n by rw [← HN.out]; omega)
              have h63 : y < 2 ^ 62 := by
                have hp6 : 2 ^ n ≤ 2 ^ 6 := Nat.pow_le_pow_right (by omega) (show n ≤ 6 by omega)
                have := HL.out
                omega
              have hb := bit_has y k h63
              have e64 : min k 64 = k := by omega
              clear h1 h63
              cases hbb : y.testBit k with
              | true =>
                rw [hbb] at hb
                have hno := Lib.hid (show ¬ IsWants n W from fun h => by
                  have h2 := (h.2 k hlt).2.2
                  have h3 := HY.out
                  unfold WantsB at h2
                  rw [h3, Int.toNat_natCast, hbb] at h2
                  cases h2)
                clear hbb
                go_wp2_with fail
                go_ret2
                exact ⟨_, by rw [tt_no hno.out]; rfl, fun h => absurd h hno.out, fun _ => rfl, B2.out⟩
              | false =>
                rw [hbb] at hb
                have HB := Lib.hid hbb
                clear hbb
                go_wp2_with fail
                go_round
                case rel => exact ⟨k + 1, by omega, by go_num, fun j hj => by
                  by_cases e : j = k
                  · subst e
                    have h3 := HY.out
                    have h4 := HL.out
                    exact ⟨by omega, by omega, by unfold WantsB; rw [h3, Int.toNat_natCast]; exact HB.out⟩
                  · exact HAll.out j (by omega)⟩
                case measure => simp [intOf]; omega
        · obtain rfl : k = n := by omega
          have T := Lib.hid (show IsWants k W from ⟨⟨by omega, by omega⟩, HAll.out⟩)
          go_wp2_with fail
          go_ret2
          exact ⟨_, by rw [tt_of T.out]; rfl, fun _ => ⟨_, rfl, Nat.le_refl _, by have := S1.out; have := S2.out; omega, HR.out⟩, fun h => absurd T.out h, B2.out⟩

theorem readWants_any (n c : Nat) (a : Option Addr) (W : Nat → Int) (w : World) (hm0 : n ≤ 1048576) (ha : Rd w a n W) :
    Calls Try.prog 45 #[.slice a n c] w (RetWants n W (IsWants n W) w) :=
  (readWants_full n c a W w hm0 ha).mono fun e w' ⟨v, h1, h2, _, h4⟩ => ⟨v, h1, h2, h4⟩
theorem readWants_no (n c : Nat) (a : Option Addr) (W : Nat → Int) (w : World) (hm0 : n ≤ 1048576) (ha : Rd w a n W) (h : ¬ IsWants n W) :
    Calls Try.prog 45 #[.slice a n c] w fun e w' => e = .returned (.tuple #[.slice none 0 0, .bool false]) ∧ Below w.heap.size w w' :=
  (readWants_full n c a W w hm0 ha).mono fun e w' ⟨v, h1, _, h3, h4⟩ => ⟨by rw [h1, h3 h, tt_no h], h4⟩

theorem wants_any (n c : Nat) (a : Option Addr) (W : Nat → Int) (i k : Nat) (w : World) (hW : IsWants n W) (ha : Rd w a n W) (hi : i < n) (hk : k ≤ 61) :
    Calls Try.prog 47 #[.slice a n c, .int .i64 (i : Nat), .int .i64 (k : Nat)] w fun e w' => e = .returned (.bool (WantsB W i k)) ∧ w = w' := by
  have h1 := hW.lt hi
  obtain ⟨y, hy⟩ := Int.eq_ofNat_of_zero_le h1.1
  have hb := bit_has y k (by omega)
  have e64 : min k 64 = k := by omega
  obtain ⟨ba, oa, rfl, hca⟩ := ha i hi
  rw [hy] at hca
  have HY := Lib.hid (show WantsB W i k = y.testBit k by unfold WantsB; rw [hy, Int.toNat_natCast])
  have hd1 : (i : Int) < (n : Int) := by omega
  obtain ⟨B, hB⟩ : ∃ B, B = y.testBit k := ⟨_, rfl⟩
  rw [← hB] at hb HY
  clear hy h1 hW ha hB
  go_enter Try.func47, Try.ntmps47
  go_wp2_with fail
  go_ret
  exact ⟨by rw [HY.out]; rfl, rfl⟩

theorem wantK_no {n : Nat} {W : Nat → Int} {k : Int} (h : ¬ IsWants n W) : ¬ WantK n W k := fun h' => h h'.1
set_option maxHeartbeats 800000 in
theorem readUpTo_any (n c : Nat) (a : Option Addr) (W : Nat → Int) (k : Int) (w : World) (hm0 : n ≤ 1048576) (ha : Rd w a n W) :
    Calls Try.prog 63 #[.slice a n c, .int .i64 k] w (RetWants n W (WantK n W k) w) := by
  have H := Lib.hid (readWants_any n c a W w hm0 ha)
  clear ha
  by_cases h : IsWants n W
  · have T1 := Lib.hid (tt_of h)
    have HH := Lib.hid h
    by_cases h2 : k < 2
    · have d1 : decide (k < 2) = true := by simpa using h2
      have HF := Lib.hid (show ¬ WantK n W k from fun h => by have := h.2.1; omega)
      clear h h2
      go_enter Try.func63, Try.ntmps63
      go_wp2_with (go_at_call 45; refine H.out.mono ?_; rintro e w1 ⟨v, rfl, hv, hb1⟩; rw [T1.out]; obtain ⟨g, rfl, hg1, hg2, hr⟩ := hv HH.out; have B1 := Lib.hid hb1; clear hb1 hr)
      go_ret2
      exact ⟨_, by rw [tt_no HF.out]; rfl, fun h => absurd h HF.out, B1.out⟩
    · have d1 : decide (k < 2) = false := by simpa using h2
      by_cases h3 : (n : Int) < k
      · have d2 : decide ((n : Int) < k) = true := by simpa using h3
        have HF := Lib.hid (show ¬ WantK n W k from fun h => by have := h.2.2; omega)
        clear h h2 h3
        go_enter Try.func63, Try.ntmps63
        go_wp2_with (go_at_call 45; refine H.out.mono ?_; rintro e w1 ⟨v, rfl, hv, hb1⟩; rw [T1.out]; obtain ⟨g, rfl, hg1, hg2, hr⟩ := hv HH.out; have B1 := Lib.hid hb1; clear hb1 hr)
        go_ret2
        exact ⟨_, by rw [tt_no HF.out]; rfl, fun h => absurd h HF.out, B1.out⟩
      · have d2 : decide ((n : Int) < k) = false := by simpa using h3
        have HT := Lib.hid (show WantK n W k from ⟨h, by omega, by omega⟩)
        clear h h2 h3
        go_enter Try.func63, Try.ntmps63
        go_wp2_with (go_at_call 45; refine H.out.mono ?_; rintro e w1 ⟨v, rfl, hv, hb1⟩; rw [T1.out]; obtain ⟨g, rfl, hg1, hg2, hr⟩ := hv HH.out; have B1 := Lib.hid hb1; have HR := Lib.hid hr; clear hb1 hr)
        go_ret2
        exact ⟨_, by rw [tt_of HT.out]; rfl, fun _ => ⟨g, rfl, hg1, hg2, HR.out⟩, B1.out⟩
  · have T1 := Lib.hid (tt_no h)
    have HF := Lib.hid (wantK_no (k := k) h)
    clear h
    go_enter Try.func63, Try.ntmps63
    go_wp2_with (go_at_call 45; refine H.out.mono ?_; rintro e w1 ⟨v, rfl, hv, hb1⟩; rw [T1.out]; have B1 := Lib.hid hb1; clear hb1 hv)
    go_ret2
    exact ⟨_, by rw [tt_no HF.out]; rfl, fun h => absurd h HF.out, B1.out⟩
end Go.Proofs.Ytamglhpgdaoaoaa
