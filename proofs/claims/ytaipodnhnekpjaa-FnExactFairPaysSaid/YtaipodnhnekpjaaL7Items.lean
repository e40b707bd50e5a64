/- The model's l7Items: one of each item, with another number of one of them. -/
import Derived.Test.YtaipodnhnekpjaaDealsWay
import Derived.Test.YtaipodnhnekpjaaAppendRows
import Derived.Test.YtaipodnhnekpjaaInfoInts
import Derived.Test.YtaipodnhnekpjaaDelKit
namespace Go.Proofs.Ytaipodnhnekpjaa
set_option linter.unusedVariables false
set_option linter.unusedSimpArgs false
open Go.RowKit

theorem cellsL_next {X : Nat → Int} (q : Nat) {x : Int} (h : X q = x) : cellsL q X ++ [.int .i64 x] = cellsL (q + 1) X := by
  rw [cellsL_snoc]
  unfold cellsL
  refine List.map_congr_left fun k hk => ?_
  have := List.mem_range.1 hk
  dsimp only
  by_cases e : k < q
  · rw [if_pos e]
  · rw [if_neg e, ← h, show k = q by omega]

set_option maxRecDepth 100000 in
set_option maxHeartbeats 1600000 in
theorem l7Items_any (n c m k : Nat) (a : Option Addr) (A : Nat → Option Addr) (L C : Nat → Nat) (Z : Nat → Nat → Int) (y : Int) (w : World) (hn1 : 1 ≤ n) (hm : m = L 0) (hm1 : 1 ≤ m) (hm4 : m ≤ 4) (hk : k ≤ 1000) (ha0 : Tab w a n A L C Z) :
    Calls Try.prog 56 #[.slice a n c, .int .i64 (k : Nat), .int .i64 y] w (RetI m (itemsX k y) w) := by
  obtain ⟨i0, hi, hz0, hz1, hz2⟩ := info_parts Try.infoInt
  obtain ⟨ba, oa, rfl, hc0, _⟩ := ha0 0 hn1
  rw [Nat.add_zero, ← hm] at hc0
  have HC0 := Lib.hid hc0
  have O0 := Lib.hid (show (w.alloc (.cells #[] 3)).ownsRow w.heap.size 3 1 (.slice (some ⟨w.heap.size, 0, none⟩) 0 0) 0 (cellsL 0 (itemsX k y)) from World.ownsRow_made w #[] 0 (Nat.le_refl _) (Nat.zero_le _) (by simp))
  have hn0 : (0 : Int) < (n : Int) := by omega
  clear ha0 hc0 hm
  go_enter Try.func56, Try.ntmps56
  go_wp2
  go_loopw [7, 8] (fun o i wr => ∃ (q : Nat) (v : Value), q ≤ m ∧ i = .int .i64 q ∧ v = o ∧ wr.ownsRow w.heap.size 3 1 v q (cellsL q (itemsX k y)) ∧ Below w.heap.size w wr) (fun _ i _ => m - (intOf i).toNat)
  case atStart => exact ⟨0, _, Nat.zero_le _, rfl, rfl, O0.out, below_alloc (Below.refl _ _) _⟩
  case round =>
    obtain ⟨q, v, hq, rfl, rfl, hO, hB⟩ := hrel
    have HO := Lib.hid hO
    have HB := Lib.hid hB
    have hc0 := (hB.cell (p := ⟨ba, oa, none⟩) (World.block_lt_of_cell? _ _ HC0.out)).trans HC0.out
    have hsz := hB.size
    clear hO hB O0
    by_cases hlt : q < m
    · by_cases he : q = k
      · have d1 : ((q : Int) == (k : Int)) = true := by simp [he]
        have EX := Lib.hid (cellsL_next (X := itemsX k y) q (x := y) (by unfold itemsX; rw [if_pos he]))
        clear he
        go_wp2_with (at_builtin; refine wpList_append_gen _ (by rfl) (.tmp 21) (.tmp 23) 23 (by rfl) w.heap.size 3 i0 (.int .i64 0) 8 Try.underlying23 hi hz0 hz1 hz2 (by rfl) v q _ (by rfl) (HO.out.alloc _) ⟨_, 0, none⟩ 1 1 [.int .i64 y] (by rfl) (by rfl) (news_one (by simp)) (by simp [Value.oneCell']) (by unfold maxLen; omega) (by omega) (by simp; omega) ?_; intro v2 w2 hown2 hgrow2 hat2; have O2 := Lib.hid hown2; have G2 := Lib.hid hgrow2; clear hown2 hgrow2 hat2)
        go_roundw
        case rel => exact ⟨q + 1, v2, by omega, by go_num, rfl, by rw [← EX.out]; exact O2.out, (below_alloc HB.out _).grown G2.out (by simp; omega) (fun x hx => (HO.out.lt x hx).1)⟩
        case measure => simp [intOf]; omega
      · have d1 : ((q : Int) == (k : Int)) = false := beq_eq_false_iff_ne.2 (by omega)
        have EX := Lib.hid (cellsL_next (X := itemsX k y) q (x := 1) (by unfold itemsX; rw [if_neg he]))
        clear he
        go_wp2_with (at_builtin; refine wpList_append_gen _ (by rfl) (.tmp 25) (.tmp 26) 23 (by rfl) w.heap.size 3 i0 (.int .i64 0) 8 Try.underlying23 hi hz0 hz1 hz2 (by rfl) v q _ (by rfl) (HO.out.alloc _) ⟨_, 0, none⟩ 1 1 [.int .i64 1] (by rfl) (by rfl) (news_one (by simp)) (by simp [Value.oneCell']) (by unfold maxLen; omega) (by omega) (by simp; omega) ?_; intro v2 w2 hown2 hgrow2 hat2; have O2 := Lib.hid hown2; have G2 := Lib.hid hgrow2; clear hown2 hgrow2 hat2)
        go_roundw
        case rel => exact ⟨q + 1, v2, by omega, by go_num, rfl, by rw [← EX.out]; exact O2.out, (below_alloc HB.out _).grown G2.out (by simp; omega) (fun x hx => (HO.out.lt x hx).1)⟩
        case measure => simp [intOf]; omega
    · obtain rfl : q = m := by omega
      obtain ⟨g, cap, rfl⟩ := owns_form HO.out (by omega)
      go_wp2
      go_ret
      have hlt := HO.out.lt g rfl
      exact ⟨g, cap, rfl, ⟨hlt.1, hlt.2, (owns_fits HO.out).1⟩, OwnR.of_owns HO.out, HB.out⟩
end Go.Proofs.Ytaipodnhnekpjaa
