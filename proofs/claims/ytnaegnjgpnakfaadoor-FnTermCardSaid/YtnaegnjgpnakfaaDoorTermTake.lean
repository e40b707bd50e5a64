/- The program's reader of terms: the next byte. -/
import Derived.Test.YtnaegnjgpnakfaaDoorTermModel
import Derived.Test.YtnaegnjgpnakfaaDoorDrawKit
namespace Go.Proofs.YtnaegnjgpnakfaaDoor
set_option linter.unusedVariables false
set_option linter.unusedSimpArgs false
open Go.RowKit

/-- The reader of a text stands at a place. -/
def TxtAt (w : World) (g : Nat) (s : ByteArray) (p : Nat) : Prop := w.rowIs g 86 2 (fun i => if i = 0 then .string s else .int .i64 (p : Nat))
/-- The place behind the next byte. -/
def nxt (s : ByteArray) (p : Nat) : Nat := if p < s.size then p + 1 else p
theorem nxt_le {s : ByteArray} {p : Nat} (h : p ≤ s.size) : nxt s p ≤ s.size := by unfold nxt; split <;> omega
theorem nxt_in {s : ByteArray} {p : Nat} (h : p < s.size) : nxt s p = p + 1 := by unfold nxt; rw [if_pos h]
theorem run_index_bt {P : Program} (w : World) (t : TypeId) (s : ByteArray) (k : IntKind) (i : Nat) (h : P.underlying t = some .string) (hi : i < s.size) :
    (Instr.index t (.string s) (.int k (i : Nat))).run P w = .ok (.int .u8 (bt s i : Nat)) w := by
  rw [run_index_string w t s k i h, dif_pos (by omega), bt_in hi]; rfl
theorem TxtAt.move {w w' : World} {g p : Nat} {s : ByteArray} (h : TxtAt w g s p) (e : w'.heap[g]? = w.heap[g]?) : TxtAt w' g s p := World.rowIs.of_block h e
theorem TxtAt.set {w : World} {g p : Nat} {s : ByteArray} (h : TxtAt w g s p) (q : Nat) : TxtAt (w.setCell ⟨g, 1, none⟩ (.int .i64 (q : Nat))) g s q :=
  (World.rowIs.set h 1 (.int .i64 (q : Nat))).congr (fun i hi => by
    by_cases e : i = 1
    · subst e; rfl
    · have : i = 0 := by omega
      subst this; rfl)

set_option maxHeartbeats 800000 in
theorem take_any (s : ByteArray) (g p : Nat) (w : World) (hs : s.size ≤ 60) (hp : p ≤ s.size) (h : TxtAt w g s p) :
    Calls Tryd.prog 83 #[.pointer (some ⟨g, 0, none⟩)] w fun e w' => e = .returned (.int .u8 (bt s p : Nat)) ∧ TxtAt w' g s (nxt s p) ∧ Keeps g (g + 1) w w' := by
  have hc0 : w.cell? ⟨g, 0, none⟩ = some (.string s) := h.cell (i := 0) (by omega)
  have hc1 : w.cell? ⟨g, 1, none⟩ = some (.int .i64 (p : Nat)) := h.cell (i := 1) (by omega)
  have hf1 := h.frozen 1
  have HT := Lib.hid h
  have HP := Lib.hid (And.intro hs hp)
  clear h
  by_cases e : p = s.size
  · have d1 : ((p : Int) == (s.size : Int)) = true := by simp [e]
    have E1 := Lib.hid (show bt s p = 0 ∧ nxt s p = p from ⟨bt_out (by omega), by unfold nxt; rw [if_neg (by omega)]⟩)
    clear e hs hp
    go_enter Tryd.func83, Tryd.ntmps83
    go_wp2
    go_quiet (fail)
    go_wp2
    go_ret
    rw [E1.out.1, E1.out.2]
    exact ⟨rfl, HT.out.move rfl, ⟨rfl, rfl, rfl, rfl, fun _ _ => rfl⟩⟩
  · have d1 : ((p : Int) == (s.size : Int)) = false := by simp; omega
    have hlt : p < s.size := by omega
    obtain ⟨b, hb⟩ : ∃ b, b = bt s p := ⟨_, rfl⟩
    have hix : ∀ w : World, (Instr.index 9 (.string s) (.int .i64 (p : Nat))).run Tryd.prog w = .ok (.int .u8 (b : Nat)) w := fun w => by rw [hb]; exact run_index_bt w _ s _ p Tryd.underlying9 hlt
    have hw1 : IntKind.i64.wrap ((p : Int) + 1) = ((p + 1 : Nat) : Int) := by rw [IntWalk.i64_in _ (by omega)]; omega
    have hw2 : IntKind.i64.wrap (p : Int) = (p : Int) := by rw [IntWalk.i64_in _ (by omega)]
    have E1 := Lib.hid (show bt s p = b ∧ nxt s p = p + 1 from ⟨hb.symm, nxt_in hlt⟩)
    have HI := Lib.hid hix
    have HW := Lib.hid (And.intro hw1 hw2)
    clear e hb hs hp hix hw1 hw2
    go_enter Tryd.func83, Tryd.ntmps83
    go_wp2
    go_quiet (fail)
    have hw1 := HW.out.1
    go_wp2
    have T1 := (HT.out.move (w' := w.drewN nq) rfl).set (p + 1)
    have K1 : Keeps g (g + 1) w (w.drewN nq) := ⟨rfl, rfl, rfl, rfl, fun _ _ => rfl⟩
    have K2 := K1.setCell (p := ⟨g, 1, none⟩) (Nat.le_refl _) (Nat.lt_succ_self _) (.int .i64 ((p + 1 : Nat) : Int))
    have ec : (((p + 1 : Nat) : Int)) = (p : Int) + 1 := by omega
    rw [ec] at K2
    have hc2 : ((w.drewN nq).setCell ⟨g, 1, none⟩ (.int .i64 ((p + 1 : Nat) : Int))).cell? ⟨g, 0, none⟩ = some (.string s) := T1.cell (i := 0) (by omega)
    have hc3 : ((w.drewN nq).setCell ⟨g, 1, none⟩ (.int .i64 ((p + 1 : Nat) : Int))).cell? ⟨g, 1, none⟩ = some (.int .i64 ((p + 1 : Nat) : Int)) := T1.cell (i := 1) (by omega)
    rw [ec] at hc2 hc3
    obtain ⟨W, hW⟩ : ∃ W, W = (w.drewN nq).setCell ⟨g, 1, none⟩ (.int .i64 ((p : Int) + 1)) := ⟨_, rfl⟩
    have HF := Lib.hid (show TxtAt W g s (p + 1) ∧ Keeps g (g + 1) w W from ⟨by rw [hW, ← ec]; exact T1, by rw [hW]; exact K2⟩)
    rw [← hW] at hc2 hc3 ⊢
    have hix := HI.out
    have hw2 := HW.out.2
    clear hW K2 T1 K1 ec hc0 hc1 hf1 hw1
    go_quiet (fail)
    go_wp2
    go_ret
    rw [E1.out.1, E1.out.2]
    exact ⟨rfl, HF.out.1.move rfl, HF.out.2.trans ⟨rfl, rfl, rfl, rfl, fun _ _ => rfl⟩⟩
end Go.Proofs.YtnaegnjgpnakfaaDoor
