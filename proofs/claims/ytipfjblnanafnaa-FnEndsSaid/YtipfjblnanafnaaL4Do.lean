/- The model's l4Do. -/
import Derived.Test.YtipfjblnanafnaaWishes
import Derived.Test.YtipfjblnanafnaaLists
import Derived.Test.YtipfjblnanafnaaInfoInts
namespace Go.Proofs.Ytipfjblnanafnaa
set_option linter.unusedVariables false
set_option linter.unusedSimpArgs false
open Go.RowKit

set_option maxHeartbeats 800000 in
theorem l4Do_any (n d i k : Nat) (b : Option Addr) (G : Nat → Int) (w : World) (hn : n ≤ 5) (hb : Rd w b n G) (hi : i < n) (hk : k < n) (hik : i ≠ k) :
    Calls Try.prog 78 #[.slice b n d, .int .i64 i, .int .i64 k] w (RetI n (swapF G i k) w) := by
  obtain ⟨ba, oa, rfl, hlt, hc0⟩ := hb.lt hi
  obtain ⟨i0, hi0, hz0, hz1, hz2⟩ := info_parts Try.infoInt
  have HA := Lib.hid hb
  obtain ⟨x, hx⟩ : ∃ x, x = G i := ⟨_, rfl⟩
  obtain ⟨y, hy⟩ : ∃ y, y = G k := ⟨_, rfl⟩
  have QX := Lib.hid hx
  have QY := Lib.hid hy
  have i1 : (0 : Int) ≤ (i : Int) := by omega
  have i2 : (i : Int) < (n : Int) := by omega
  have k1 : (0 : Int) ≤ (k : Int) := by omega
  have k2 : (k : Int) < (n : Int) := by omega
  clear hb hc0 hx hy
  go_enter Try.func78, Try.ntmps78
  go_wp2_with (at_builtin; refine wpList_append_grows _ (by rfl) (.tmp 9) (.tmp 10) 23 (by rfl) 3 i0 (.int .i64 0) 1 8 Try.underlying23 hi0 hz0 hz1 hz2 (by rfl) (by decide) _ 0 0 [] (by rfl) (fun h => by cases h) (by rfl) (fun _ _ j u h => absurd h (by simp)) ⟨ba, oa, none⟩ n d (cellsL n G) (by rfl) ((cellsL_length n G).trans (Nat.mul_one n).symm) (HA.out.news (by repeat (first | exact Below.refl _ _ | refine Below.drew ?_ | refine below_alloc ?_ _))) (cellsL_one n G) (by omega) (by unfold maxLen; omega) (by omega) ?_; intro v1 w1 hown0 hgrow1; simp only [Nat.zero_add, List.nil_append] at hown0; obtain ⟨g, cap, rfl⟩ := owns_form hown0 (by omega); have hl := hown0.lt g rfl; have hcap := (owns_cap hown0).1; have HO := Lib.hid (OwnR.of_owns hown0); have HB := Lib.hid ((below_alloc (Below.refl w.heap.size w) _).grown hgrow1 (by simp) (fun k h => by cases h)); have ci := (HO.out.at hi).1; rw [← QX.out] at ci; have ck := (HO.out.at hk).1; rw [← QY.out] at ck; have fi := (HO.out.at hi).2; have fk := (HO.out.at hk).2; have si : ∀ v, (w1.setCell ⟨g, i, none⟩ v).cell? ⟨g, k, none⟩ = some (.int .i64 y) := (fun v => by rw [World.cell?_setCell_other (a := ⟨g, i, none⟩) (b := ⟨g, k, none⟩) (h := fun h => hik (by simp only [Addr.mk.injEq] at h; omega))]; exact ck); simp at hl; have h1 := hl.1; have h2 := hl.2; clear hown0 hgrow1 hl)
  go_ret
  refine ⟨g, cap, rfl, ⟨by omega, by simp [World.setCell]; exact h2, hcap⟩, ((HO.out.set hi y).set hk x).congr (fun j hj => ?_), (HB.out.setCell (by show w.heap.size ≤ g; omega) _).setCell (by show w.heap.size ≤ g; omega) _⟩
  unfold swapF
  rw [QX.out, QY.out]
  by_cases e : j = k
  · subst e; rw [if_pos rfl, if_neg (fun h => hik h.symm), if_pos rfl]
  · rw [if_neg e, if_neg e]
end Go.Proofs.Ytipfjblnanafnaa
