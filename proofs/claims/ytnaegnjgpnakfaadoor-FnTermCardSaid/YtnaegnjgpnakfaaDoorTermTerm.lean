/- The program's reader of terms: whole texts. -/
import Derived.Test.YtnaegnjgpnakfaaDoorTermParse
namespace Go.Proofs.YtnaegnjgpnakfaaDoor
set_option linter.unusedVariables false
set_option linter.unusedSimpArgs false
open Go.RowKit

set_option maxRecDepth 100000 in
set_option maxHeartbeats 3200000 in
theorem term_step (s : ByteArray) (g f : Nat) (hs : s.size ≤ 60) (H : ∀ f', f = f' + 1 → TermC s g f') : TermC s g f := by
  intro p w hp hf h
  have hc1 : w.cell? ⟨g, 1, none⟩ = some (.int .i64 (p : Nat)) := h.cell (i := 1) (by omega)
  have T0 := Lib.hid (take_any s g p w hs hp h)
  obtain ⟨b, hb⟩ : ∃ b, b = bt s p := ⟨_, rfl⟩
  rw [← hb] at T0
  have hsz := h.lt
  by_cases hpos : b = 0
  · have e1 : ((b : Int) == 105) = false := by simp; omega
    have e2 : ((b : Int) == 91) = false := by simp; omega
    have e3 : ((b : Int) == 40) = false := by simp; omega
    have e4 : ((b : Int) == 45) = false := by simp; omega
    have e5 : decide ((50 : Int) ≤ (b : Int)) = false := decide_eq_false (by omega)
    have e5n : decide (50 ≤ b) = false := decide_eq_false (by omega)
    have HE := Lib.hid (show readT s f p = none from readT_none (by omega) (by omega) (by unfold SignP; omega) (by omega))
    have HN := Lib.hid (nxt_le hp)
    clear hpos hb h hp hf H hs hsz
    go_enter Tryd.func70, Tryd.ntmps70
    go_wp2_with (go_at_call 83; refine T0.out.mono ?_; rintro e w1 ⟨rfl, ht, hk⟩; have X1 := Lib.hid (And.intro ht hk); clear ht hk)
    go_ret2
    rw [HE.out]
    exact ⟨ButR.keeps X1.out.2, ⟨_, rfl⟩, _, HN.out, X1.out.1⟩
  · have hlt : p < s.size := bt_pos (by omega)
    obtain ⟨f', rfl⟩ : ∃ f', f = f' + 1 := ⟨f - 1, by omega⟩
    have HH := Lib.hid (H f' rfl)
    have HN := Lib.hid (show nxt s p = p + 1 from nxt_in hlt)
    have HP := Lib.hid (show p + 1 ≤ s.size ∧ s.size ≤ p + 1 + f' ∧ s.size ≤ 60 from ⟨by omega, by omega, hs⟩)
    clear H hpos hlt hf hp hs h
    by_cases c1 : b = 105
    · have e1 : ((b : Int) == 105) = true := by simp [c1]
      have HE := Lib.hid (show readT s (f' + 1) p = some (.keep, p + 1) from readT_keep (by omega))
      clear c1 hb hsz
      go_enter Tryd.func70, Tryd.ntmps70
      go_wp2_with (go_at_call 83; refine T0.out.mono ?_; rintro e w1 ⟨rfl, ht, hk⟩; have X1 := Lib.hid (And.intro ht hk); clear ht hk)
      go_ret2
      rw [HE.out]
      exact ⟨ButR.keeps X1.out.2, _, rfl, rfl, by have h := X1.out.1; rwa [HN.out] at h⟩
    have e1 : ((b : Int) == 105) = false := by simp; omega
    by_cases c2 : b = 91
    · have e2 : ((b : Int) == 91) = true := by simp [c2]
      have HE := Lib.hid (show readT s (f' + 1) p = circR s (p + 1) from readT_circ (by omega))
      clear c1 c2 hb hsz
      go_enter Tryd.func70, Tryd.ntmps70
      go_wp2_with (go_at_call 83; refine T0.out.mono ?_; rintro e w1 ⟨rfl, ht, hk⟩; have X1 := Lib.hid (And.intro (HN.out ▸ ht) hk); clear ht hk)
      refine (RetTerm.calls (circle_any s g (p + 1) w1 HP.out.2.2 HP.out.1 X1.out.1)).mono ?_
      rintro e w2 ⟨v1, v2, rfl, hr⟩
      have hr := RetTerm.back (ButR.keeps X1.out.2) hr
      rw [← HE.out] at hr
      have X2 := Lib.hid hr
      clear hr
      go_wp2_with fail
      go_ret2
      exact X2.out
    have e2 : ((b : Int) == 91) = false := by simp; omega
    by_cases c3 : b = 40
    · have e3 : ((b : Int) == 40) = true := by simp [c3]
      have HE := Lib.hid (show readT s (f' + 1) p = _ from readT_pair (by omega))
      clear c1 c2 c3 hb hsz
      go_enter Tryd.func70, Tryd.ntmps70
      go_wp2_with (go_at_call 83; refine T0.out.mono ?_; rintro e w1 ⟨rfl, ht, hk⟩; have X1 := Lib.hid (And.intro (HN.out ▸ ht) hk); clear ht hk)
      refine (RetTerm.calls (pair_any s g f' (p + 1) w1 HH.out HP.out.2.2 HP.out.1 HP.out.2.1 X1.out.1)).mono ?_
      rintro e w2 ⟨v1, v2, rfl, hr⟩
      have hr := RetTerm.back (ButR.keeps X1.out.2) hr
      rw [← HE.out] at hr
      have X2 := Lib.hid hr
      clear hr
      go_wp2_with fail
      go_ret2
      exact X2.out
    have e3 : ((b : Int) == 40) = false := by simp; omega
    by_cases c4 : SignP b
    · have HE := Lib.hid (show readT s (f' + 1) p = signR b (readT s f' (p + 1)) from by rw [hb]; exact readT_sign (by rw [← hb]; exact c4))
      have HC := Lib.hid c4
      have hcase : ((b : Int) == 45) = true ∨ (((b : Int) == 45) = false ∧ decide ((50 : Int) ≤ (b : Int)) = true ∧ decide (50 ≤ b) = true ∧ decide ((b : Int) ≤ 57) = true ∧ decide (b ≤ 57) = true) := by
        unfold SignP at c4
        by_cases e : b = 45
        · left; simp [e]
        · right; exact ⟨by simp; omega, decide_eq_true (by omega), decide_eq_true (by omega), decide_eq_true (by omega), decide_eq_true (by omega)⟩
      clear c1 c2 c3 c4 hb hsz
      rcases hcase with e4 | ⟨e4, e5, e5n, e6, e6n⟩
      all_goals
        go_enter Tryd.func70, Tryd.ntmps70
        go_wp2_with (go_at_call 83; refine T0.out.mono ?_; rintro e w1 ⟨rfl, ht, hk⟩; have X1 := Lib.hid (And.intro (HN.out ▸ ht) hk); clear ht hk)
        refine (RetTerm.calls (signed_any s g f' (p + 1) b w1 HH.out HP.out.1 HP.out.2.1 X1.out.1 HC.out)).mono ?_
        rintro e w2 ⟨v1, v2, rfl, hr⟩
        have hr := RetTerm.back (ButR.keeps X1.out.2) hr
        rw [← HE.out] at hr
        have X2 := Lib.hid hr
        clear hr
        go_wp2_with fail
        go_ret2
        exact X2.out
    · have HE := Lib.hid (show readT s (f' + 1) p = none from readT_none (by omega) (by omega) (by rw [← hb]; exact c4) (by omega))
      have hcase : (decide ((50 : Int) ≤ (b : Int)) = false ∧ decide (50 ≤ b) = false) ∨ (decide ((50 : Int) ≤ (b : Int)) = true ∧ decide (50 ≤ b) = true ∧ decide ((b : Int) ≤ 57) = false ∧ decide (b ≤ 57) = false) := by
        unfold SignP at c4
        by_cases e : 50 ≤ b
        · right; exact ⟨decide_eq_true (by omega), decide_eq_true (by omega), decide_eq_false (by omega), decide_eq_false (by omega)⟩
        · left; exact ⟨decide_eq_false (by omega), decide_eq_false (by omega)⟩
      have e4 : ((b : Int) == 45) = false := by unfold SignP at c4; simp; omega
      clear c1 c2 c3 c4 hb hsz
      rcases hcase with ⟨e5, e5n⟩ | ⟨e5, e5n, e6, e6n⟩
      all_goals
        go_enter Tryd.func70, Tryd.ntmps70
        go_wp2_with (go_at_call 83; refine T0.out.mono ?_; rintro e w1 ⟨rfl, ht, hk⟩; have X1 := Lib.hid (And.intro (HN.out ▸ ht) hk); clear ht hk)
        go_ret2
        rw [HE.out]
        exact ⟨ButR.keeps X1.out.2, ⟨_, rfl⟩, _, HP.out.1, X1.out.1⟩
theorem term_all (s : ByteArray) (g : Nat) (hs : s.size ≤ 60) : ∀ f, TermC s g f
  | 0 => term_step s g 0 hs (fun f' h => by cases h)
  | f + 1 => term_step s g (f + 1) hs (fun f' h => by cases h; exact term_all s g hs f)

/-- What parseTerm hands back. -/
def RetParse (w : World) (o : Option Tm) (e : Ending) (w' : World) : Prop :=
  Below w.heap.size w w' ∧ match o with
    | none => ∃ q : Int, e = .returned (.tuple #[.nilIface, .iface 74 (.agg #[.int .i64 q])])
    | some t => ∃ v, e = .returned (.tuple #[v, .nilIface]) ∧ PV w' w.heap.size t v
end Go.Proofs.YtnaegnjgpnakfaaDoor
