/- The program's list: its array of rates as rows of their own. -/
import Derived.Test.YtmjbocgoinfamaaSize
import Derived.Test.YtmjbocgoinfamaaInfoInts
import Derived.Test.YtmjbocgoinfamaaClone
import Derived.Test.YtmjbocgoinfamaaMem
namespace Go.Proofs.Ytmjbocgoinfamaa
set_option linter.unusedVariables false
open Go.RowKit

/-- What a call hands back that makes a table of its own. -/
def RetT (n : Nat) (L : Nat → Nat) (X : Nat → Nat → Int) (w : World) (e : Ending) (w' : World) : Prop :=
  ∃ a c A C, e = .returned (.slice a n c) ∧ OwnT w' w.heap.size w'.heap.size a n A L C X ∧ Below w.heap.size w w'

/-- i rows of a table are there: their blocks, behind that of the top row. -/
def RowsAt (B : Nat) (w : World) (i m : Nat) (G : Nat → Nat) (X : Nat → Nat → Int) : Prop :=
  (∀ r, r < i → B < G r ∧ G r < w.heap.size ∧ OwnR w (G r) (some ⟨G r, 0, none⟩) m (X r)) ∧ ∀ r s, r < i → s < i → r ≠ s → G r ≠ G s

set_option maxHeartbeats 1600000 in
theorem list_any (n : Nat) (F : Nat → Int) (w : World) (h : Kept n F) (hn2 : 2 ≤ n) :
    Calls Try.prog 63 #[.agg (cellsV 25 F)] w (RetT n (fun _ => n) (atF F) w) := by
  have hn5 := h.le
  have hmk := run_make_row' (P := Try.prog) 23 24 (.slice none 0 0) 24 Try.underlying23 Try.infoInts rfl .i64 .i64 n (by omega) (by omega)
  have H := Lib.hid h
  clear h
  go_enter Try.func63, Try.ntmps63
  go_wp2_with (first
    | ((with_reducible refine arr_box 25 _ _ F ?_ ?_); exact rfl; intro w1 hA1 hs1 hb1; have S1 := Lib.hid hs1; clear hs1)
    | ((with_reducible refine arr_load 25 _ _ _ _ _ _ _ ?_ hA1 Try.underlying58 Try.sizeRates ?_); exact rfl)
    | (go_at_call 59; refine (size_any n F _ H.out).mono ?_; rintro e w2 ⟨rfl, hb2⟩))
  clear hmk
  have hg1 : w.heap.size < w2.heap.size := Nat.lt_of_lt_of_le hA1.lt hb2.size
  have hM := World.rowIs_made w2 (.slice none 0 0) n 24
  have M0 := Lib.hid (hM.congr (g := fun r => if r < 0 then .slice (some ⟨0, 0, none⟩) n 0 else .slice none 0 0) (fun r _ => by rw [if_neg (Nat.not_lt_zero _)]))
  have A2 := Lib.hid ((hA1.below hA1.lt hb2).alloc (.cells (madeCells #[.slice none 0 0] n) 24))
  have hB2 : Below w.heap.size w w2 := hb1.trans (hb2.mono hb1.size)
  have B2 := Lib.hid (below_alloc hB2 (.cells (madeCells #[.slice none 0 0] n) 24))
  clear hA1 hb1 hb2 S1 hM hB2
  go_loopw [5, 12] (fun _ s wr => ∃ i : Nat, i ≤ n ∧ s = .int .i64 i ∧ ∃ G Cp : Nat → Nat, wr.rowIs w2.heap.size 24 n (fun r => if r < i then .slice (some ⟨G r, 0, none⟩) n (Cp r) else .slice none 0 0) ∧
      RowsAt w2.heap.size wr i n G (atF F) ∧ ArrAt wr w.heap.size 58 25 F ∧ Below w.heap.size w wr) (fun _ s _ => n - (intOf s).toNat)
  case atStart => exact ⟨0, Nat.zero_le _, rfl, fun _ => 0, fun _ => 0, M0.out, ⟨fun r hr => absurd hr (Nat.not_lt_zero _), fun r s hr => absurd hr (Nat.not_lt_zero _)⟩, A2.out, B2.out⟩
  case round =>
    obtain ⟨i, hin, rfl, G, Cp, hM, hR, hA, hB⟩ := hrel
    clear M0 A2 B2
    by_cases hlt : i < n
    · have hrd : Rd wr (some ⟨w.heap.size, i * 5, none⟩) n (atF F i) := fun k hk => ⟨w.heap.size, i * 5, rfl, hA.cell (j := i * 5 + k) (by omega)⟩
      have HRd := Lib.hid hrd
      have HM := Lib.hid hM
      have HR := Lib.hid hR
      have HA := Lib.hid hA
      have HB := Lib.hid hB
      have hml := hM.lt
      have hi5 : i < 5 := by omega
      have hsl := run_slice_arr (P := Try.prog) 56 3 5 n w.heap.size (i * 5) Try.underlying56 (by kernel_rfl) (by decide) hn5
      clear hrd hM hR hA hB
      go_wp2_with fail
      refine (clone_any n 5 (some ⟨w.heap.size, i * 5, none⟩) (atF F i) _ (by omega) (by omega) HRd.out).mono ?_
      clear hsl
      rintro e w3 ⟨g, cap, rfl, hown, hb3⟩
      have hgl := hown.lt g rfl
      have hc3 : w3.cell? ⟨w2.heap.size, i, none⟩ = some (.slice none 0 0) := by
        have := (rowIs_below HM.out hml hb3).cell hlt
        rwa [if_neg (Nat.lt_irrefl _)] at this
      have hf3 : w3.frozen? ⟨w2.heap.size, i, none⟩ = false := (rowIs_below HM.out hml hb3).frozen i
      have HO := Lib.hid (OwnR.of_owns hown)
      have B3 := Lib.hid hb3
      clear hown hb3
      go_wp2
      go_roundw
      case rel =>
        refine ⟨i + 1, by omega, by go_num, fun r => if r < i then G r else g, fun r => if r < i then Cp r else cap, ((rowIs_below HM.out hml B3.out).set i _).congr (fun r hr => ?_), ⟨fun r hr => ?_, fun r s hr hs hrs => ?_⟩, (HA.out.below HA.out.lt B3.out).setOther (by show w.heap.size ≠ w2.heap.size; omega) _, (HB.out.trans (B3.out.mono HB.out.size)).setCell (by show w.heap.size ≤ w2.heap.size; omega) _⟩
        · dsimp only
          by_cases e : r = i
          · subst e
            rw [if_pos rfl, if_pos (Nat.lt_succ_self _), if_neg (Nat.lt_irrefl _), if_neg (Nat.lt_irrefl _)]
          · rw [if_neg e]
            by_cases h' : r < i
            · rw [if_pos h', if_pos (by omega), if_pos h', if_pos h']
            · rw [if_neg h', if_neg (by omega)]
        · show w2.heap.size < (if r < i then G r else g) ∧ (if r < i then G r else g) < _ ∧ OwnR _ (if r < i then G r else g) (some ⟨if r < i then G r else g, 0, none⟩) n (atF F r)
          rw [show (w3.setCell ⟨w2.heap.size, i, none⟩ (.slice (some ⟨g, 0, none⟩) n cap)).heap.size = w3.heap.size from by simp [World.setCell]]
          by_cases e : r < i
          · rw [if_pos e]
            obtain ⟨k1, k2, k3⟩ := HR.out.1 r e
            exact ⟨k1, Nat.lt_of_lt_of_le k2 B3.out.size, (k3.of_block (B3.out.block _ k2)).of_block (Below.heap_setCell _ _ _ _ (by show G r ≠ w2.heap.size; omega))⟩
          · obtain rfl : r = i := by omega
            rw [if_neg e]
            exact ⟨by omega, hgl.2, HO.out.of_block (Below.heap_setCell _ _ _ _ (by show g ≠ w2.heap.size; omega))⟩
        · show (if r < i then G r else g) ≠ (if s < i then G s else g)
          by_cases e1 : r < i
          · rw [if_pos e1]
            by_cases e2 : s < i
            · rw [if_pos e2]; exact HR.out.2 r s e1 e2 hrs
            · rw [if_neg e2]; have := (HR.out.1 r e1).2.1; omega
          · rw [if_neg e1]
            have e2 : s < i := by omega
            rw [if_pos e2]; have := (HR.out.1 s e2).2.1; omega
      case measure => simp [intOf]; omega
    · obtain rfl : i = n := by omega
      have HM := Lib.hid hM
      have HR := Lib.hid hR
      have HB := Lib.hid hB
      have hml := hM.lt
      clear hM hR hA hB
      go_wp2
      go_ret
      refine ⟨_, _, fun r => some ⟨G r, 0, none⟩, Cp, rfl, .inr ⟨w2.heap.size, 0, G, rfl, by omega, hml, fun r hr => ?_, fun r hr => ?_, HR.out.2⟩, HB.out⟩
      · rw [Nat.zero_add]
        have := HM.out.cell hr
        rwa [if_pos hr] at this
      · obtain ⟨k1, k2, k3⟩ := HR.out.1 r hr
        exact ⟨by omega, k2, by omega, k3⟩
end Go.Proofs.Ytmjbocgoinfamaa
