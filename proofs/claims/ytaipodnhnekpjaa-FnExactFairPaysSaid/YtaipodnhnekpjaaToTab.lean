/- A table is copied into new memory, a block a row. -/
import Derived.Test.YtaipodnhnekpjaaToInts
namespace Go.Proofs.Ytaipodnhnekpjaa
set_option linter.unusedVariables false
open Go.RowKit

set_option maxHeartbeats 400000 in
theorem toTab_any (n c : Nat) (a : Option Addr) (A : Nat → Option Addr) (L C : Nat → Nat) (Z : Nat → Nat → Int) (w : World) (hn : n ≤ 1048576) (hL : ∀ r, r < n → L r ≤ 1048576) (ha : Tab w a n A L C Z) :
    Calls Try.prog 17 #[.slice a n c] w fun e w' => e = .returned (.slice (some ⟨w.heap.size, 0, none⟩) n n) ∧
      NewTab 23 3 w' w.heap.size n L Z ∧ w'.heap.size = w.heap.size + 1 + n ∧ Below w.heap.size w w' := by
  have hmk := run_make_row' (P := Try.prog) 22 23 (.slice none 0 0) 24 Try.underlying22 Try.infoInts rfl .i64 .i64 n (by omega) (by omega)
  go_enter Try.func17, Try.ntmps17
  go_wp2
  clear hmk
  go_loopw [4] (fun i wr => ∃ k : Nat, k ≤ n ∧ i = .int .i64 k ∧ wr.rowIs w.heap.size 23 n (fun r => if r < k then .slice (some ⟨w.heap.size + 1 + r, 0, none⟩) (L r) (L r) else .slice none 0 0) ∧
      (∀ r, r < k → wr.rowIs (w.heap.size + 1 + r) 3 (L r) (fun i => .int .i64 (Z r i))) ∧ wr.heap.size = w.heap.size + 1 + k ∧ Below w.heap.size w wr) (fun i _ => n - (intOf i).toNat)
  case atStart => exact ⟨0, Nat.zero_le _, rfl, (World.rowIs_made w _ n 23).congr (fun j _ => by simp), fun r hr => absurd hr (Nat.not_lt_zero _), by simp, (Below.refl _ _).alloc (Nat.le_refl _) _⟩
  case round =>
    obtain ⟨k, hk, rfl, hrow, hdone, hsz, hb⟩ := hrel
    by_cases hlt : k < n
    · obtain ⟨ba, oa, rfl, hca, hra⟩ := ha k hlt
      have hlt1 := World.block_lt_of_cell? _ _ hca
      have hca' : wr.cell? ⟨ba, oa + k, none⟩ = some (.slice (A k) (L k) (C k)) := (hb.cell (p := ⟨ba, oa + k, none⟩) hlt1).trans hca
      have hra' : Rd wr (A k) (L k) (Z k) := hra.below (Nat.le_refl _) hb
      have hLk := hL k hlt
      have H1 := Lib.hid hrow
      have H2 := Lib.hid hsz
      have H3 := Lib.hid hdone
      have H4 := Lib.hid hra'
      clear hrow hsz ha hca hdone hL hra hra'
      go_wp2_with fail
      refine (toInts_any (L k) (C k) (A k) (Z k) _ hLk H4.out).mono ?_
      rintro e w1 ⟨rfl, hr1, hs1, hb1⟩
      have hrow1 := rowIs_below H1.out (by rw [H2.out]; omega) hb1
      have hc2 := hrow1.cell hlt
      have hf2 := hrow1.frozen k
      have H5 := Lib.hid hrow1
      have H6 := Lib.hid hr1
      have H7 := Lib.hid hs1
      have H8 := Lib.hid hb1
      clear hrow1 hr1 hs1 hb1 hca'
      rw [H2.out]
      simp only [Nat.lt_irrefl, if_false] at hc2
      go_wp2
      go_roundw
      case rel =>
        have hr1 := H6.out
        have hs1 := H7.out
        have hb1 := H8.out
        have hsz := H2.out
        rw [hsz] at hr1 hs1 hb1
        refine ⟨k + 1, by omega, by go_num, (H5.out.set k _).congr (fun j _ => ?_), fun r hr => ?_, ?_, (hb.trans (hb1.mono (by omega))).setCell (Nat.le_refl _) _⟩
        · by_cases e : j = k
          · subst e; simp
          · rw [if_neg e]
            by_cases h' : j < k
            · rw [if_pos h', if_pos (by omega)]
            · rw [if_neg h', if_neg (by omega)]
        · refine World.rowIs.setOther ?_ (by show w.heap.size + 1 + r ≠ w.heap.size; omega) _
          by_cases e : r = k
          · subst e; exact hr1
          · exact rowIs_below (H3.out r (by omega)) (by omega) hb1
        · simp [World.setCell]; omega
      case measure => simp [intOf]; omega
    · obtain rfl : k = n := by omega
      have H1 := Lib.hid (hrow.congr (fun i hi => by rw [if_pos (show i < k by omega)]))
      have H2 := Lib.hid hsz
      have H3 := Lib.hid hdone
      clear hrow hsz ha hdone hL
      go_wp2
      go_ret
      exact ⟨rfl, ⟨H1.out, H3.out⟩, H2.out, hb⟩
end Go.Proofs.Ytaipodnhnekpjaa
