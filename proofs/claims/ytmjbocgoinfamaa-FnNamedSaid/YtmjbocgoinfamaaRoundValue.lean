/- The program's roundValue. -/
import Derived.Test.YtmjbocgoinfamaaSize
import Derived.Test.YtmjbocgoinfamaaLater
import Derived.Test.YtmjbocgoinfamaaClone
namespace Go.Proofs.Ytmjbocgoinfamaa
set_option linter.unusedVariables false
open Go.RowKit

set_option maxHeartbeats 1000000 in
theorem roundValue_any (n m d : Nat) (F : Nat → Int) (b : Option Addr) (X : Nat → Int) (w : World) (h : Kept n F) (hn2 : 2 ≤ n) (hway : IsWay n m X) (hb : Rd w b m X) :
    Calls Try.prog 66 #[.agg (cellsV 25 F), .slice b m d] w fun e w' => e = .returned (.int .i64 (roundV n (atF F) m X)) ∧ Below w.heap.size w w' := by
  have hn5 := h.le
  have hm2 := hway.2.1
  have hmn := hway.2.2
  have hW := Lib.hid (closeF_in hway)
  obtain ⟨ba, oa, rfl, hlt, hc0⟩ := hb.lt (show 0 < m by omega)
  rw [Nat.add_zero] at hc0
  obtain ⟨i0, hi, hz0, hz1, hz2⟩ := info_parts Try.infoInt
  have H := Lib.hid h
  have HB := Lib.hid hb
  have HC := Lib.hid hc0
  have hi1 : 0 < m := by omega
  clear h hb hway hc0
  go_enter Try.func66, Try.ntmps66
  go_wp2_with ((with_reducible refine arr_box 25 _ _ F ?_ ?_); exact rfl; intro w1 hA1 hs1 hb1)
  have hlt1 : ba < w1.heap.size := by rw [hs1]; omega
  have hc1 : w1.cell? ⟨ba, oa, none⟩ = some (.int .i64 (X 0)) := (hb1.cell (p := ⟨ba, oa, none⟩) hlt).trans HC.out
  have HB1 := Lib.hid (HB.out.below (Nat.le_refl _) hb1)
  have A1 := Lib.hid hA1
  have B1 := Lib.hid hb1
  clear hA1 hs1 hb1
  go_region_held3 (fun W => W.cell? ⟨ba, oa, none⟩ = some (.int .i64 (X 0)) ∧ Below w1.heap.size w1 W)
    (first | exact keep_drew ⟨hc1, Below.refl _ _⟩ | exact keep_drew (by assumption) | exact keep_alloc (by assumption) _ | exact keep_below (by assumption) hlt1 hbl | exact keep_grown (by assumption) hlt1 hgrow2 hrow1)
    ((first
      | (go_at_call 102; refine (clone_any m d (some ⟨ba, oa, none⟩) X _ (by omega) (by omega) (HB1.out.below (Nat.le_refl _) (by repeat (first | exact Below.refl _ _ | refine Below.drew ?_ | refine below_alloc ?_ _)))).mono ?_; rintro e w3 ⟨g3, cap3, rfl, hown3, hbl⟩; have hown1 := owns_base (base' := w1.heap.size) hown3 (by simp <;> omega); have hrow1 : ∀ k, (Value.slice (some ⟨g3, 0, none⟩) m cap3).ownBlock = some k → w1.heap.size ≤ k := fun k hk => (hown1.lt k hk).1; clear hown3)
      | (have _t := hown1; refine step_append_lies _ (by rfl) (.tmp 7) (.tmp 11) 24 (by rfl) w1.heap.size 3 i0 (.int .i64 0) 1 8 Try.underlying24 hi hz0 hz1 hz2 (by rfl) (by decide) (.slice (some ⟨g3, 0, none⟩) m cap3) m (cellsL m X) (by rfl) (by first | exact hown1 | exact hown1.alloc _) ⟨_, 0, none⟩ 1 1 [.int .i64 (X 0)] (by rfl) (by rfl) (news_one (by first | (simp; done) | exact (hbl.cell (p := ⟨_, 0, none⟩) (by simp)).trans (by simp))) (by simp [Value.oneCell']) (by omega) (by unfold maxLen; omega) (by omega) (by have h1 := hbl.size; simp at h1 ⊢; omega) _ rfl ?_; intro g2 cap2 w2 hown2 hgrow2 hat2 hlt2)))
  all_goals
    have hB := (show w2.cell? ⟨ba, oa, none⟩ = some (.int .i64 (X 0)) ∧ Below w1.heap.size w1 w2 from by assumption).2
    rw [cellsL_snoc] at hown2
    have hcap := (owns_cap hown2).1
    have HO := Lib.hid (owns_rd hown2)
    have A2 := Lib.hid (A1.out.below A1.out.lt hB)
    have B2 := Lib.hid (B1.out.trans (hB.mono B1.out.size))
    clear hown2 hB hown1 hgrow2 hat2 hrow1 hbl hc1 hlt2
    go_wp2
    refine wp_region_later (by kernel_rfl) (by kernel_rfl) ?_
    repeat (first
      | ((with_reducible refine quiet_load_arr 25 _ _ _ 58 _ w.heap.size F ?_ ?_ Try.underlying58 Try.sizeRates ?_); exact rfl; (rintro _ ⟨r, rfl⟩; exact later_arr A2.out r))
      | quiet_step ((first
          | (go_at_call 59; exact calls_later _ (size_any n F _ H.out))
          | (go_at_call 99; exact calls_later _ (value_any n (m + 1) cap2 F _ (closeF m X) (n : Int) _ hn5 H.out.rate (HO.out.below (Nat.le_refl _) (Later.h _)) (by omega) (by omega) hcap (by omega) (by omega) (fun i _ => hW.out i))))))
    refine wpQuiet_nil ?_
    rintro _ ⟨r, rfl⟩
    go_wp2
    go_ret
    exact ⟨rfl, B2.out.trans (r.h.mono B2.out.size)⟩
end Go.Proofs.Ytmjbocgoinfamaa
