/- The model's l1Closed: the first money behind a round. -/
import Derived.Test.YtlidobacehbecaaToInts
import Derived.Test.YtlidobacehbecaaGrow
namespace Go.Proofs.Ytlidobacehbecaa
set_option linter.unusedVariables false
open Go.RowKit

set_option maxHeartbeats 1000000 in
theorem l1Closed_any (m c : Nat) (a : Option Addr) (X : Nat → Int) (w : World) (hm1 : 1 ≤ m) (hm : m ≤ 1000) (ha : Rd w a m X) :
    Calls Try.prog 63 #[.slice a m c] w (RetList 3 (m + 1) (fun k => if k < m then X k else X 0) w) := by
  obtain ⟨ba, oa, rfl, hlt, hc0⟩ := ha.lt (show 0 < m by omega)
  have hi0 : (0 : Int) < m := by omega
  have hi1 : 0 < m := by omega
  obtain ⟨i0, hi, hz0, hz1, hz2⟩ := info_parts Try.infoInt
  have HA := Lib.hid ha
  clear ha
  rw [Nat.add_zero] at hc0
  go_enter Try.func63, Try.ntmps63
  go_wp2
  have tk : True := trivial
  go_region_held3 (fun W => W.cell? ⟨ba, oa, none⟩ = some (.int .i64 (X 0)) ∧ Below w.heap.size w W)
    (first | exact keep_drew ⟨hc0, Below.refl _ _⟩ | exact keep_drew (by assumption) | exact keep_alloc (by assumption) _ | exact keep_grown (by assumption) hlt hgrow2 hrow1 | exact keep_grown (by assumption) hlt hgrow1 (fun k h => by cases h))
    ((first
      | (have _t := tk; refine step_append_grows (by rfl) (.tmp 3) (.tmp 4) 23 (by rfl) 3 i0 (.int .i64 0) 1 8 Try.underlying23 hi hz0 hz1 hz2 (by rfl) (by decide) _ 0 0 [] (by rfl) (fun h => by cases h) (by rfl) (fun _ _ j u h => absurd h (by simp)) ⟨ba, oa, none⟩ m c (cellsL m X) (by rfl) ((cellsL_length m X).trans (Nat.mul_one m).symm) (HA.out.news (by repeat (first | exact Below.refl _ _ | refine Below.drew ?_ | refine below_alloc ?_ _))) (cellsL_one m X) (by omega) (by unfold maxLen; omega) (by omega) ?_; clear tk; intro v1 w1 hown0 hgrow1; simp only [Nat.zero_add, List.nil_append] at hown0; have hown1 := owns_base (base' := w.heap.size) hown0 (by simp <;> omega); have hrow1 : ∀ k, v1.ownBlock = some k → w.heap.size ≤ k := fun k hk => (hown1.lt k hk).1; clear hown0)
      | (refine step_append_lies _ (by rfl) (.tmp 5) (.tmp 9) 23 (by rfl) w.heap.size 3 i0 (.int .i64 0) 1 8 Try.underlying23 hi hz0 hz1 hz2 (by rfl) (by decide) v1 m (cellsL m X) (by rfl) (by first | exact hown1 | exact hown1.alloc _) ⟨_, 0, none⟩ 1 1 [.int .i64 (X 0)] (by rfl) (by rfl) (news_one (by first | (simp; done) | exact hgrow1.cell (by simp) (fun e => by cases e))) (by simp [Value.oneCell']) (by omega) (by unfold maxLen; omega) (by omega) (by have h1 := hgrow1.size; simp at h1 ⊢; omega) _ rfl ?_; intro g2 cap2 w2 hown2 hgrow2 hat2 hlt2)))
  all_goals
    have hB := (show w2.cell? ⟨ba, oa, none⟩ = some (.int .i64 (X 0)) ∧ Below w.heap.size w w2 from by assumption).2
    rw [cellsL_snoc] at hown2
    have HO := Lib.hid hown2
    have HB := Lib.hid hB
    clear hown2 hB hown1 hgrow1 hgrow2 hat2 hrow1
    go_wp2
    go_ret
    exact ⟨g2, cap2, rfl, HO.out, HB.out⟩
end Go.Proofs.Ytlidobacehbecaa
