/- Joining circles as the program does it: in plain mathematics and in memory. -/
import Derived.Test.YteigenmagifplaaMostModel
import Derived.Test.YteigenmagifplaaMovedOn
import Derived.Test.YteigenmagifplaaCompare
import Derived.Test.YteigenmagifplaaLists
namespace Go.Proofs.Yteigenmagifplaa
set_option linter.unusedVariables false
set_option linter.unusedSimpArgs false
open Go.RowKit

theorem less_cmp {X Y : Nat → Int} : ∀ {m k : Nat}, cmpN X Y k m < 0 → ∃ j, j < m ∧ (∀ i, i < j → X (k + i) = Y (k + i)) ∧ X (k + j) < Y (k + j)
  | 0, k, h => by
    have : cmpN X Y k 0 = 0 := rfl
    omega
  | m + 1, k, h => by
    have e1 : cmpN X Y k (m + 1) = if X k = Y k then cmpN X Y (k + 1) m else cmpI (X k) (Y k) := rfl
    rw [e1] at h
    by_cases e : X k = Y k
    · rw [if_pos e] at h
      obtain ⟨j, hj, h1, h2⟩ := less_cmp h
      refine ⟨j + 1, by omega, fun i hi => ?_, ?_⟩
      · cases i with
        | zero => exact e
        | succ i =>
          have := h1 i (by omega)
          rw [show k + 1 + i = k + (i + 1) by omega] at this
          exact this
      · rw [show k + 1 + j = k + (j + 1) by omega] at h2; exact h2
    · rw [if_neg e, cmpI_lt] at h
      exact ⟨0, by omega, fun i hi => absurd hi (Nat.not_lt_zero _), h⟩
theorem cmp_less {n : Nat} {X Y : Nat → Int} : cmpN X Y 0 n < 0 ↔ LessP n X Y := by
  constructor
  · intro h
    obtain ⟨j, hj, h1, h2⟩ := less_cmp h
    refine ⟨j, hj, fun i hi => ?_, ?_⟩
    · have := h1 i hi; rwa [Nat.zero_add] at this
    · rwa [Nat.zero_add] at h2
  · rintro ⟨j, hj, h1, h2⟩
    refine cmpN_first j n 0 hj (fun i hi => ?_) ?_
    · rw [Nat.zero_add]; exact h1 i hi
    · rw [Nat.zero_add]; exact h2
theorem cmpN_range {X Y : Nat → Int} : ∀ (m k : Nat), -1 ≤ cmpN X Y k m ∧ cmpN X Y k m ≤ 1
  | 0, k => by show (-1 : Int) ≤ 0 ∧ (0 : Int) ≤ 1; omega
  | m + 1, k => by
    show -1 ≤ (if X k = Y k then cmpN X Y (k + 1) m else cmpI (X k) (Y k)) ∧ (if X k = Y k then cmpN X Y (k + 1) m else cmpI (X k) (Y k)) ≤ 1
    split
    · exact cmpN_range m (k + 1)
    · exact cmpI_range _ _
/-- Somebody on the circle takes something just if the circle isn't apart. -/
theorem moved_on {n : Nat} {W : Nat → Int} {T c : List Int} {U : Nat} (h : Taken n W T U) (hc : IsCirc n W c.length (nth c)) : MovedOn c.length (nth c) (nth T) ↔ ¬ U &&& setL c = 0 := by
  have hm : ∀ y, y < n → (U.testBit y = true ↔ nth T y ≠ y) := fun y hy => by
    constructor
    · intro hb e
      obtain ⟨j, e1, _, e3, _⟩ := h.2.2.2.1 y hb
      omega
    · intro hne
      cases e : U.testBit y with
      | true => rfl
      | false => exact absurd (h.2.2.1 y hy e) hne
  rw [and_zero]
  constructor
  · rintro ⟨j, hj, hne⟩ hall
    obtain ⟨y, hy, hyn⟩ := hc.in_nat hj
    rw [hy, Int.toNat_natCast] at hne
    have h1 := hall y ((hm y hyn).2 hne)
    rw [(setL_bit hc).2 ⟨j, hj, hy⟩] at h1
    cases h1
  · intro hno
    by_cases hex : MovedOn c.length (nth c) (nth T)
    · exact hex
    · refine absurd (fun y hy => ?_) hno
      cases e : (setL c).testBit y with
      | false => rfl
      | true =>
        obtain ⟨j, hj, hjy⟩ := (setL_bit hc).1 e
        exact absurd ⟨j, hj, by rw [hjy, Int.toNat_natCast]; exact (hm y (setL_ppl hc e)).1 hy⟩ hex
theorem bestIn_app {n : Nat} {b : List Int} {A B : List (List Int)} : bestIn n b (A ++ B) = bestIn n (bestIn n b A) B := by unfold bestIn; rw [List.foldl_append]
theorem lenL_drop {CS : List (List Int)} {d r : Nat} : lenL (CS.drop d) r = lenL CS (d + r) ∧ nthL (CS.drop d) r = nthL CS (d + r) := by
  have e : (CS.drop d).getD r [] = CS.getD (d + r) [] := by
    rw [List.getD_eq_getElem?_getD, List.getD_eq_getElem?_getD, List.getElem?_drop]
  unfold lenL nthL
  rw [e]
  exact ⟨rfl, rfl⟩
theorem drop_cons_at {CC : List (List Int)} {i : Nat} (h : i < CC.length) : CC.drop i = CC.getD i [] :: CC.drop (i + 1) := by
  rw [List.drop_eq_getElem_cons h, List.getD_eq_getElem?_getD, List.getElem?_eq_getElem h]; rfl
theorem keep2_drew {a b : Addr} {v u : Value} {W : World} (h : W.cell? a = some v ∧ W.cell? b = some u) : W.drew.cell? a = some v ∧ W.drew.cell? b = some u := ⟨by simpa using h.1, by simpa using h.2⟩
theorem keep2_below {a b : Addr} {v u : Value} {W W' : World} (h : W.cell? a = some v ∧ W.cell? b = some u) (hb : Below W.heap.size W W') : W'.cell? a = some v ∧ W'.cell? b = some u :=
  ⟨(hb.cell (World.block_lt_of_cell? _ _ h.1)).trans h.1, (hb.cell (World.block_lt_of_cell? _ _ h.2)).trans h.2⟩
theorem Rd.drew {w : World} {a : Option Addr} {n : Nat} {X : Nat → Int} (h : Rd w a n X) : Rd w.drew a n X := h.drewN 1
/-- A table's rows from the d-th one on. -/
theorem OwnT.drop {w : World} {lo hi d : Nat} {A : Nat → Option Addr} {Cp : Nat → Nat} {CS : List (List Int)} {b o : Nat} (h : OwnT w lo hi (some ⟨b, o, none⟩) CS.length A (lenL CS) Cp (nthL CS)) :
    OwnT w lo hi (some ⟨b, o + d, none⟩) (CS.drop d).length (fun r => A (d + r)) (lenL (CS.drop d)) (fun r => Cp (d + r)) (nthL (CS.drop d)) := by
  rw [List.length_drop]
  rcases h with h0 | ⟨b', o', K, ha, h1, h2, hc, hk, hi'⟩
  · left; omega
  · cases ha
    refine .inr ⟨b, o + d, fun r => K (d + r), rfl, h1, h2, fun r hr => ?_, fun r hr => ?_, fun r s hr hs hrs => hi' _ _ (by omega) (by omega) (by omega)⟩
    · have := hc (d + r) (by omega)
      rw [show o + d + r = o + (d + r) by omega, lenL_drop.1]; exact this
    · have := hk (d + r) (by omega)
      rw [lenL_drop.1, lenL_drop.2]; exact this
end Go.Proofs.Yteigenmagifplaa
