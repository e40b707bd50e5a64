/- The model's OddsBest. -/
import Derived.Test.YtamgckmkebpgjaaL9Odds
import Derived.Test.YtamgckmkebpgjaaKeepP
import Derived.Test.YtamgckmkebpgjaaInfoInts
import Derived.Deep.RegionHeld3
import Derived.Lib.MinMax
namespace Go.Proofs.Ytamgckmkebpgjaa
set_option linter.unusedVariables false
set_option linter.unusedSimpArgs false
open Go.RowKit

set_option maxRecDepth 100000 in
set_option maxHeartbeats 6400000 in
theorem specOddsBest_any (m c q d : Nat) (a b : Option Addr) (X Y : Nat → Int) (w : World) (hm0 : m ≤ 1048576) (hb0 : Rd w a m X) (hm1 : q ≤ 1048576) (hb1 : Rd w b q Y) :
    Calls Try.prog 25 #[.slice a m c, .slice b q d] w (RetIB (tt (BestOk m X q Y)) (bestN m X q Y) (bestF X Y) w) := by
  obtain ⟨i0, hi, hz0, hz1', hz2'⟩ := info_parts Try.infoInt
  have H := Lib.hid (fun W (hb : Below w.heap.size w W) => l9Odds_any m c a X W hm0 (hb0.below (Nat.le_refl _) hb))
  have H' := Lib.hid (fun W (hb : Below w.heap.size w W) => l9Odds_any q d b Y W hm1 (hb1.below (Nat.le_refl _) hb))
  have O0 := Lib.hid (show (w.alloc (.cells #[] 3)).ownsRow w.heap.size 3 1 (.slice (some ⟨w.heap.size, 0, none⟩) 0 0) 0 (cellsL 0 (bestF X Y)) from World.ownsRow_made w #[] 0 (Nat.le_refl _) (Nat.zero_le _) (by simp))
  have HA := Lib.hid hb0
  have HB := Lib.hid hb1
  have tk : True := trivial
  clear hb0 hb1
  by_cases h : IsOdds m X
  · have T1 := Lib.hid (tt_of h)
    by_cases h' : IsOdds q Y
    · have T2 := Lib.hid (tt_of h')
      by_cases he : m = q
      · subst he
        have OK : BestOk m X m Y := ⟨⟨h, h'⟩, rfl⟩
        have HX := Lib.hid h.2
        have HY := Lib.hid h'.2
        have hm6 := h.1.2
        have hm2 := h.1.1
        rw [tt_of OK, bestN_yes OK]
        have d1 : ((m : Int) != (m : Int)) = false := by simp
        clear h h' OK
        go_enter Try.func25, Try.ntmps25
        go_wp2_with (first
          | (have _t := tk; go_at_call 43; refine (H.out _ (below_alloc (Below.refl _ _) _)).mono ?_; rintro e' w1 ⟨rfl, rfl⟩; rw [T1.out]; clear tk)
          | (go_at_call 43; refine (H'.out _ (below_alloc (Below.refl _ _) _)).mono ?_; rintro e' w1 ⟨rfl, rfl⟩; rw [T2.out]))
        have B0 := Lib.hid (below_alloc (Below.refl w.heap.size w) (.cells #[] 3))
        go_loopw [6, 7] (fun o s wr => ∃ (i g cap : Nat), i ≤ m ∧ s = .int .i64 i ∧ o = .slice (some ⟨g, 0, none⟩) i cap ∧ wr.ownsRow w.heap.size 3 1 (.slice (some ⟨g, 0, none⟩) i cap) i (cellsL i (bestF X Y)) ∧ Below w.heap.size w wr) (fun _ s _ => m - (intOf s).toNat)
        case atStart => exact ⟨0, _, _, Nat.zero_le _, rfl, rfl, O0.out, B0.out⟩
        case round =>
          obtain ⟨i, g, cap, hiN, rfl, rfl, hO, hB⟩ := hrel
          have HO := Lib.hid hO
          have HBw := Lib.hid hB
          have hsz := hB.size
          clear hO hB O0 B0
          by_cases hlt : i < m
          · obtain ⟨g1, o1, ha, hlo⟩ := HA.out i hlt
            obtain ⟨g2, o2, hb, hhi⟩ := HB.out i hlt
            have hx := HX.out i hlt
            have hy := HY.out i hlt
            have EX := Lib.hid (cellsL_snocX (X := bestF X Y) i (x := max (X i) (Y i)) rfl)
            obtain ⟨x, hxx⟩ : ∃ x, x = X i := ⟨_, rfl⟩
            obtain ⟨y, hyy⟩ : ∃ y, y = Y i := ⟨_, rfl⟩
            rw [← hxx] at hlo hx EX
            rw [← hyy] at hhi hy EX
            have h1n : g1 < w.heap.size := World.block_lt_of_cell? _ _ hlo
            have h2n : g2 < w.heap.size := World.block_lt_of_cell? _ _ hhi
            have hloW := (HBw.out.cell (p := ⟨g1, o1 + i, none⟩) h1n).trans hlo
            have hhiW := (HBw.out.cell (p := ⟨g2, o2 + i, none⟩) h2n).trans hhi
            have i1 : (0 : Int) ≤ (i : Int) := by omega
            have i2 : (i : Int) < (m : Int) := by omega
            have HOd := Lib.hid (show wr.drew.ownsRow w.heap.size 3 1 (.slice (some ⟨g, 0, none⟩) i cap) i (cellsL i (bestF X Y)) from HO.out)
            have HBd := Lib.hid (show Below w.heap.size w wr.drew from HBw.out.drew)
            subst ha hb
            clear hlo hhi hxx hyy
            go_wp2
            have tk2 : True := trivial
            go_region_held3 (fun W => W.cell? ⟨g1, o1 + i, none⟩ = some (.int .i64 x) ∧ W.cell? ⟨g2, o2 + i, none⟩ = some (.int .i64 y))
              (first | exact keepP_drew ⟨hloW, hhiW⟩ | exact keepP_drew (by assumption) | exact keepP_alloc (by assumption) _ | exact keepP_grown (by assumption) hgrow7 (fun k hk => by cases hk; have := (HOd.out.lt g rfl).1; exact ⟨by show g1 ≠ g; omega, by show g2 ≠ g; omega⟩))
              ((first | (have _t := tk2; refine step_append_any _ (by rfl) (.tmp 31) (.tmp 41) 23 (by rfl) w.heap.size 3 i0 Try.underlying23 hi hz0 hz1' hz2' g i cap (cellsL i (bestF X Y)) (by rfl) (HOd.out.alloc _) ⟨_, 0, none⟩ 1 1 [.int .i64 (max x y)] (by rfl) (by rfl) (news_one (by simp)) (by simp [Value.oneCell']) (by omega) (by simp; omega) ?_; clear tk2; intro g7 cap7 w7 hown7 hgrow7)))
            all_goals (
              have O7 := Lib.hid hown7
              have G7 := Lib.hid hgrow7
              clear hown7 hgrow7
              go_wp2
              go_roundw
              case rel => exact ⟨i + 1, g7, cap7, by omega, by go_num, rfl, by rw [← EX.out]; exact O7.out, (below_alloc HBd.out _).grown G7.out (by simp; omega) (fun x hx => by cases hx; exact (HOd.out.lt g rfl).1)⟩
              case measure => simp [intOf]; omega)
          · obtain rfl : i = m := by omega
            go_wp2
            go_ret2
            have hgl := HO.out.lt g rfl
            exact ⟨_, _, rfl, .inr ⟨g, hgl.1, hgl.2, OwnR.of_owns HO.out⟩, HBw.out⟩
      · have NO : ¬ BestOk m X q Y := fun hh => he hh.2
        rw [tt_no NO, bestN_no NO]
        have d1 : ((m : Int) != (q : Int)) = true := by simp; omega
        have HE := Lib.hid he
        clear h h' NO he
        go_enter Try.func25, Try.ntmps25
        go_wp2_with (first
          | (have _t := tk; go_at_call 43; refine (H.out _ (below_alloc (Below.refl _ _) _)).mono ?_; rintro e' w1 ⟨rfl, rfl⟩; rw [T1.out]; clear tk)
          | (go_at_call 43; refine (H'.out _ (below_alloc (Below.refl _ _) _)).mono ?_; rintro e' w1 ⟨rfl, rfl⟩; rw [T2.out]))
        go_ret2
        exact ⟨_, _, rfl, .inl rfl, below_alloc (Below.refl _ _) _⟩
    · have NO : ¬ BestOk m X q Y := fun hh => h' hh.1.2
      have T2 := Lib.hid (tt_no h')
      rw [tt_no NO, bestN_no NO]
      clear h h' NO
      go_enter Try.func25, Try.ntmps25
      go_wp2_with (first
        | (have _t := tk; go_at_call 43; refine (H.out _ (below_alloc (Below.refl _ _) _)).mono ?_; rintro e' w1 ⟨rfl, rfl⟩; rw [T1.out]; clear tk)
        | (go_at_call 43; refine (H'.out _ (below_alloc (Below.refl _ _) _)).mono ?_; rintro e' w1 ⟨rfl, rfl⟩; rw [T2.out]))
      go_ret2
      exact ⟨_, _, rfl, .inl rfl, below_alloc (Below.refl _ _) _⟩
  · have NO : ¬ BestOk m X q Y := fun hh => h hh.1.1
    have T1 := Lib.hid (tt_no h)
    have T2 := trivial
    rw [tt_no NO, bestN_no NO]
    clear h NO
    go_enter Try.func25, Try.ntmps25
    go_wp2_with (go_at_call 43; refine (H.out _ (below_alloc (Below.refl _ _) _)).mono ?_; rintro e' w1 ⟨rfl, rfl⟩; rw [T1.out])
    go_ret2
    exact ⟨_, _, rfl, .inl rfl, below_alloc (Below.refl _ _) _⟩
end Go.Proofs.Ytamgckmkebpgjaa
