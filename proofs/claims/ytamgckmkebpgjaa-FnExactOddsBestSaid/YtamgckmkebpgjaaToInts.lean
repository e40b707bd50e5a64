/- A row of integers is copied into a new row. -/
import Derived.Test.YtamgckmkebpgjaaInfoInts
namespace Go.Proofs.Ytamgckmkebpgjaa
set_option linter.unusedVariables false
open Go.RowKit

set_option maxHeartbeats 400000 in
theorem toInts_any (n c : Nat) (a : Option Addr) (X : Nat → Int) (w : World) (hn : n ≤ 1048576) (ha : Rd w a n X) :
    Calls Try.prog 26 #[.slice a n c] w fun e w' => e = .returned (.slice (some ⟨w.heap.size, 0, none⟩) n n) ∧
      w'.rowIs w.heap.size 3 n (fun i => .int .i64 (X i)) ∧ w'.heap.size = w.heap.size + 1 ∧ Below w.heap.size w w' := by
  have hmk := run_make_row' (P := Try.prog) 23 3 (.int .i64 0) 8 Try.underlying23 Try.infoInt rfl .i64 .i64 n (by omega) (by omega)
  go_enter Try.func26, Try.ntmps26
  go_wp2
  clear hmk
  go_loopw [4] (fun i wr => ∃ k : Nat, k ≤ n ∧ i = .int .i64 k ∧ wr.rowIs w.heap.size 3 n (fun i => .int .i64 (if i < k then X i else 0)) ∧ wr.heap.size = w.heap.size + 1 ∧ Below w.heap.size w wr) (fun i _ => n - (intOf i).toNat)
  case atStart => exact ⟨0, Nat.zero_le _, rfl, (World.rowIs_made w _ n 3).congr (fun j _ => by simp), by simp, (Below.refl _ _).alloc (Nat.le_refl _) _⟩
  case round =>
    obtain ⟨k, hk, rfl, hrow, hsz, hb⟩ := hrel
    by_cases hlt : k < n
    · obtain ⟨ba, oa, rfl, hca⟩ := ha k hlt
      have hca' : wr.cell? ⟨ba, oa + k, none⟩ = some (.int .i64 (X k)) := (hb.cell (p := ⟨ba, oa + k, none⟩) (World.block_lt_of_cell? _ _ hca)).trans hca
      have hc2 := hrow.cell hlt
      have hf2 := hrow.frozen k
      have H1 := Lib.hid hrow
      have H2 := Lib.hid hsz
      clear hrow hsz ha hca
      go_wp2
      go_roundw
      case rel =>
        refine ⟨k + 1, by omega, by go_num, (H1.out.set k _).congr (fun j _ => ?_), ?_, hb.setCell (Nat.le_refl _) _⟩
        · by_cases e : j = k
          · subst e; simp
          · rw [if_neg e]
            by_cases h' : j < k
            · rw [if_pos h', if_pos (by omega)]
            · rw [if_neg h', if_neg (by omega)]
        · rw [← H2.out]; simp [World.setCell]
      case measure => simp [intOf]; omega
    · have H1 := Lib.hid (hrow.congr (fun i hi => by rw [if_pos (show i < k by omega)]))
      have H2 := Lib.hid hsz
      clear hrow hsz ha
      go_wp2
      go_ret
      exact ⟨rfl, H1.out, H2.out, hb⟩
end Go.Proofs.Ytamgckmkebpgjaa
