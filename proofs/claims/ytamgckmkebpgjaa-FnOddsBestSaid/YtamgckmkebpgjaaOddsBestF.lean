/- The program's OddsBest. -/
import Derived.Test.YtamgckmkebpgjaaOddsInF
import Derived.Test.YtamgckmkebpgjaaClone
import Derived.Test.YtamgckmkebpgjaaLists
import Derived.Lib.MinMax
namespace Go.Proofs.Ytamgckmkebpgjaa
set_option linter.unusedVariables false
set_option linter.unusedSimpArgs false
open Go.RowKit

set_option maxRecDepth 100000 in
set_option maxHeartbeats 3200000 in
theorem oddsBest_all (m c q d : Nat) (a b : Option Addr) (X Y : Nat → Int) (w : World) (hm0 : m ≤ 1048576) (hb0 : Rd w a m X) (hm1 : q ≤ 1048576) (hb1 : Rd w b q Y) :
    Calls Try.prog 18 #[.slice a m c, .slice b q d] w (RetIB (tt (BestOk m X q Y)) (bestN m X q Y) (bestF X Y) w) := by
  have H := Lib.hid (fun W (hb : Below w.heap.size w W) => oddsIn_all m c a X W hm0 (hb0.below (Nat.le_refl _) hb))
  have H' := Lib.hid (fun W (hb : Below w.heap.size w W) => oddsIn_all q d b Y W hm1 (hb1.below (Nat.le_refl _) hb))
  have HA := Lib.hid hb0
  have HB := Lib.hid hb1
  have tk : True := trivial
  clear hb0 hb1
  by_cases h : IsOdds m X
  · have T1 := Lib.hid (tt_of h)
    by_cases h' : IsOdds q Y
    · have T2 := Lib.hid (tt_of h')
      by_cases he : m = q
      · subst he
        have OK : BestOk m X m Y := ⟨⟨h, h'⟩, rfl⟩
        have HX := Lib.hid h.2
        have HY := Lib.hid h'.2
        have hm6 := h.1.2
        have hm2 := h.1.1
        rw [tt_of OK, bestN_yes OK]
        have d1 : ((m : Int) != (m : Int)) = false := by simp
        have HC := Lib.hid (fun W (hb : Below w.heap.size w W) => clone_any m c a X W (by omega) hm0 (HA.out.below (Nat.le_refl _) hb))
        clear h h' OK
        go_enter Try.func18, Try.ntmps18
        go_wp2_with (first
          | (have _t := tk; go_at_call 16; refine (H.out _ (Below.refl _ _)).mono ?_; rintro e' w1 ⟨rfl, hb⟩; rw [T1.out]; clear tk; have B1 := Lib.hid hb; clear hb)
          | (go_at_call 16; refine (H'.out _ B1.out).mono ?_; rintro e' w2 ⟨rfl, hb⟩; rw [T2.out]; have B2 := Lib.hid (B1.out.trans (hb.mono B1.out.size)); clear hb)
          | (go_at_call 44; refine (HC.out _ B2.out).mono ?_; rintro e' w3 ⟨g, cap, rfl, hown, hb⟩; have hgl := hown.lt g rfl; have O3 := Lib.hid (OwnR.of_owns hown); have B3 := Lib.hid (B2.out.trans (hb.mono B2.out.size)); clear hown hb))
        have hgw : w.heap.size ≤ g := by have := B2.out.size; omega
        have hsz3 : w3.heap.size = w3.heap.size := rfl
        go_loopw [7, 8, 28] (fun _ _ i wr => ∃ (j : Nat) (V : Nat → Int), j ≤ m ∧ i = .int .i64 j ∧ OwnR wr g (some ⟨g, 0, none⟩) m V ∧ (∀ l, l < m → V l = if l < j then bestF X Y l else X l) ∧ wr.heap.size = w3.heap.size ∧ Below w.heap.size w wr) (fun _ _ i _ => m - (intOf i).toNat)
        case atStart => exact ⟨0, _, Nat.zero_le _, rfl, O3.out, fun l hl => by rw [if_neg (Nat.not_lt_zero _)], rfl, B3.out⟩
        case round =>
          obtain ⟨j, V, hj, rfl, hO, hV, hsz, hB⟩ := hrel
          have HO := Lib.hid hO
          have HV := Lib.hid hV
          have HBw := Lib.hid hB
          have HS := Lib.hid hsz
          clear hO hV hB hsz O3 B3
          by_cases hlt : j < m
          · obtain ⟨hck, hfk⟩ := HO.out.at hlt
            rw [HV.out j hlt, if_neg (Nat.lt_irrefl _)] at hck
            obtain ⟨bb, ob, rfl, hcb⟩ := (HB.out.below (Nat.le_refl _) HBw.out) j hlt
            have hx := HX.out j hlt
            have hy := HY.out j hlt
            have EM := Lib.hid (show bestF X Y j = max (X j) (Y j) from rfl)
            obtain ⟨x, hxx⟩ : ∃ x, x = X j := ⟨_, rfl⟩
            obtain ⟨y, hyy⟩ : ∃ y, y = Y j := ⟨_, rfl⟩
            rw [← hxx] at hck hx EM
            rw [← hyy] at hcb hy EM
            have i1 : (0 : Int) ≤ (j : Int) := by omega
            have i2 : (j : Int) < (m : Int) := by omega
            clear hxx hyy
            go_wp2
            go_roundw
            case rel =>
              refine ⟨j + 1, fun l => if l = j then max x y else V l, by omega, by go_num, HO.out.set hlt _, fun l hl => ?_, by rw [← HS.out]; simp [World.setCell], HBw.out.setCell hgw _⟩
              dsimp only
              by_cases e : l = j
              · rw [if_pos e, if_pos (by omega), e, EM.out]
              · rw [if_neg e, HV.out l hl]
                by_cases e2 : l < j
                · rw [if_pos e2, if_pos (by omega)]
                · rw [if_neg e2, if_neg (by omega)]
            case measure => simp [intOf]; omega
          · obtain rfl : j = m := by omega
            go_wp2
            go_ret2
            exact ⟨_, _, rfl, .inr ⟨g, hgw, by rw [HS.out]; exact hgl.2, HO.out.congr fun l hl => by rw [HV.out l hl, if_pos hl]⟩, HBw.out⟩
      · have NO : ¬ BestOk m X q Y := fun hh => he hh.2
        rw [tt_no NO, bestN_no NO]
        have d1 : ((m : Int) != (q : Int)) = true := by simp; omega
        have HE := Lib.hid he
        clear h h' NO he
        go_enter Try.func18, Try.ntmps18
        go_wp2_with (first
          | (have _t := tk; go_at_call 16; refine (H.out _ (Below.refl _ _)).mono ?_; rintro e' w1 ⟨rfl, hb⟩; rw [T1.out]; clear tk; have B1 := Lib.hid hb; clear hb)
          | (go_at_call 16; refine (H'.out _ B1.out).mono ?_; rintro e' w2 ⟨rfl, hb⟩; rw [T2.out]; have B2 := Lib.hid (B1.out.trans (hb.mono B1.out.size)); clear hb))
        go_ret2
        exact ⟨_, _, rfl, .inl rfl, B2.out⟩
    · have NO : ¬ BestOk m X q Y := fun hh => h' hh.1.2
      have T2 := Lib.hid (tt_no h')
      rw [tt_no NO, bestN_no NO]
      clear h h' NO
      go_enter Try.func18, Try.ntmps18
      go_wp2_with (first
        | (have _t := tk; go_at_call 16; refine (H.out _ (Below.refl _ _)).mono ?_; rintro e' w1 ⟨rfl, hb⟩; rw [T1.out]; clear tk; have B1 := Lib.hid hb; clear hb)
        | (go_at_call 16; refine (H'.out _ B1.out).mono ?_; rintro e' w2 ⟨rfl, hb⟩; rw [T2.out]; have B2 := Lib.hid (B1.out.trans (hb.mono B1.out.size)); clear hb))
      go_ret2
      exact ⟨_, _, rfl, .inl rfl, B2.out⟩
  · have NO : ¬ BestOk m X q Y := fun hh => h hh.1.1
    have T1 := Lib.hid (tt_no h)
    rw [tt_no NO, bestN_no NO]
    clear h NO
    go_enter Try.func18, Try.ntmps18
    go_wp2_with (have _t := tk; go_at_call 16; refine (H.out _ (Below.refl _ _)).mono ?_; rintro e' w1 ⟨rfl, hb⟩; rw [T1.out]; clear tk; have B1 := Lib.hid hb; clear hb)
    go_ret2
    exact ⟨_, _, rfl, .inl rfl, B1.out⟩
theorem oddsBest_any (m c q d : Nat) (a b : Option Addr) (X Y : Nat → Int) (w : World) (hm0 : m ≤ 1048576) (hmd0 : m ≤ c) (hb0 : Rd w a m X) (hm1 : q ≤ 1048576) (hmd1 : q ≤ d) (hb1 : Rd w b q Y) :
    Calls Try.prog 18 #[.slice a m c, .slice b q d] w (RetIB (tt (BestOk m X q Y)) (bestN m X q Y) (bestF X Y) w) := oddsBest_all m c q d a b X Y w hm0 hb0 hm1 hb1
end Go.Proofs.Ytamgckmkebpgjaa
