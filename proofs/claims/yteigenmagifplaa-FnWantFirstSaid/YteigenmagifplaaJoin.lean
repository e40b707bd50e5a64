/- The program's joining of circles: the closure that calls itself. -/
import Derived.Test.YteigenmagifplaaProg
import Derived.Test.YteigenmagifplaaMem
import Derived.Test.YteigenmagifplaaMostModel
import Derived.Test.YteigenmagifplaaCompare
import Derived.Test.YteigenmagifplaaLists
import Derived.Test.YteigenmagifplaaWantSteps
import Derived.Test.YteigenmagifplaaTabK
import Derived.Test.YteigenmagifplaaSeq
import Derived.Deep.RegionHeld3
import Derived.BigQuiet
namespace Go.Proofs.Yteigenmagifplaa
set_option linter.unusedVariables false
set_option linter.unusedSimpArgs false
open Go.RowKit

theorem movedAt_any (n ct b x : Nat) (at' : Option Addr) (T : Nat → Int) (w : World) (hx : x < n) (hc : w.cell? ⟨b, 0, none⟩ = some (.slice at' n ct)) (ha : Rd w at' n T) :
    Calls Try.prog 64 #[.int .i64 (x : Nat), .pointer (some ⟨b, 0, none⟩)] w fun e w' => e = .returned (.bool (T x != (x : Int))) ∧ w = w' := by
  obtain ⟨ba, oa, rfl, hca⟩ := ha x hx
  have i1 : (0 : Int) ≤ (x : Int) := by omega
  have i2 : (x : Int) < (n : Int) := by omega
  obtain ⟨v, hv⟩ : ∃ v, v = T x := ⟨_, rfl⟩
  rw [← hv] at hca ⊢
  clear hv ha
  go_enter Try.func64, Try.ntmps64
  go_wp2_with fail
  go_ret
  exact ⟨rfl, rfl⟩

/-- Somebody on the circle takes something. -/
def MovedOn (m : Nat) (C T : Nat → Int) : Prop := ∃ j, j < m ∧ T (C j).toNat ≠ C j
/-- The first place of those that do; -1 if nobody does. -/
noncomputable def movedIdx (C T : Nat → Int) : Nat → Int
  | 0 => -1
  | k + 1 => if movedIdx C T k = -1 then (if T (C k).toNat ≠ C k then (k : Int) else -1) else movedIdx C T k
theorem movedIdx_none {C T : Nat → Int} : ∀ {k : Nat}, (∀ j, j < k → T (C j).toNat = C j) → movedIdx C T k = -1
  | 0, _ => rfl
  | k + 1, h => by
    show (if movedIdx C T k = -1 then (if T (C k).toNat ≠ C k then (k : Int) else -1) else movedIdx C T k) = -1
    rw [if_pos (movedIdx_none fun j hj => h j (by omega)), if_neg (fun hn => hn (h k (by omega)))]
theorem movedIdx_some {C T : Nat → Int} {j : Nat} : ∀ {k : Nat}, j < k → (∀ i, i < j → T (C i).toNat = C i) → T (C j).toNat ≠ C j → movedIdx C T k = (j : Nat)
  | 0, h, _, _ => absurd h (Nat.not_lt_zero _)
  | k + 1, h, h1, h2 => by
    show (if movedIdx C T k = -1 then (if T (C k).toNat ≠ C k then (k : Int) else -1) else movedIdx C T k) = (j : Nat)
    by_cases e : j = k
    · subst e
      rw [if_pos (movedIdx_none h1), if_pos h2]
    · rw [movedIdx_some (show j < k by omega) h1 h2, if_neg (by omega)]

set_option maxHeartbeats 800000 in
theorem indexMoved_any (n ct b m d : Nat) (at' ac : Option Addr) (T C : Nat → Int) (w : World) (hm : m ≤ 1048576) (hC : ∀ j, j < m → 0 ≤ C j ∧ C j < n) (hc : w.cell? ⟨b, 0, none⟩ = some (.slice at' n ct)) (ha : Rd w at' n T) (hr : Rd w ac m C) :
    Calls Try.prog 71 #[.slice ac m d, .func (.func 64) #[] #[.pointer (some ⟨b, 0, none⟩)]] w fun e w' => e = .returned (.int .i64 (movedIdx C T m)) ∧ w = w' := by
  have HR := Lib.hid hr
  have HC := Lib.hid hC
  have HM := Lib.hid (fun x hx => movedAt_any n ct b x at' T w hx hc ha)
  clear hr hC hc ha
  go_enter Try.func71, Try.ntmps71
  go_wp2_with fail
  go_loop [4, 5, 8] (fun _ _ s => ∃ k : Nat, k ≤ m ∧ s = .int .i64 k ∧ ∀ i, i < k → T (C i).toNat = C i) (fun _ _ s => m - (intOf s).toNat)
  case atStart => exact ⟨0, Nat.zero_le _, rfl, fun i hi => absurd hi (Nat.not_lt_zero _)⟩
  case round =>
    obtain ⟨k, hk, rfl, hall⟩ := hrel
    have HAll := Lib.hid hall
    clear hall
    by_cases hlt : k < m
    · obtain ⟨ba, oa, rfl, hca⟩ := HR.out k hlt
      obtain ⟨x, hx⟩ := Int.eq_ofNat_of_zero_le (HC.out k hlt).1
      have hxn : x < n := by have := (HC.out k hlt).2; omega
      rw [hx] at hca
      have HX := Lib.hid hx
      clear hx
      by_cases e : T x = (x : Int)
      · have T1 := Lib.hid (show (T x != (x : Int)) = false by simp [e])
        have E := Lib.hid e
        clear e
        go_wp2_with (go_at_call 64; refine (HM.out x hxn).mono ?_; rintro e w' ⟨rfl, rfl⟩; rw [T1.out])
        go_round
        case rel => exact ⟨k + 1, by omega, by go_num, fun i hi => by
          by_cases ei : i = k
          · rw [ei, HX.out, Int.toNat_natCast]; exact E.out
          · exact HAll.out i (by omega)⟩
        case measure => simp [intOf]; omega
      · have T1 := Lib.hid (show (T x != (x : Int)) = true by simp [e])
        have E := Lib.hid (show movedIdx C T m = (k : Nat) from movedIdx_some hlt HAll.out (by rw [HX.out, Int.toNat_natCast]; exact e))
        clear e
        go_wp2_with (go_at_call 64; refine (HM.out x hxn).mono ?_; rintro e w' ⟨rfl, rfl⟩; rw [T1.out])
        go_ret
        exact ⟨by rw [E.out]; rfl, rfl⟩
    · obtain rfl : k = m := by omega
      have E := Lib.hid (movedIdx_none HAll.out)
      go_wp2_with fail
      go_ret
      exact ⟨by rw [E.out]; rfl, rfl⟩

theorem containsMoved_any (n ct b m d : Nat) (at' ac : Option Addr) (T C : Nat → Int) (w : World) (hm : m ≤ 1048576) (hC : ∀ j, j < m → 0 ≤ C j ∧ C j < n) (hc : w.cell? ⟨b, 0, none⟩ = some (.slice at' n ct)) (ha : Rd w at' n T) (hr : Rd w ac m C) :
    Calls Try.prog 63 #[.slice ac m d, .func (.func 64) #[] #[.pointer (some ⟨b, 0, none⟩)]] w fun e w' => e = .returned (.bool (tt (MovedOn m C T))) ∧ w = w' := by
  have H := Lib.hid (indexMoved_any n ct b m d at' ac T C w hm hC hc ha hr)
  obtain ⟨r, hre⟩ : ∃ r, r = movedIdx C T m := ⟨_, rfl⟩
  have hd : decide (0 ≤ r) = tt (MovedOn m C T) := by
    rw [hre]
    by_cases h : MovedOn m C T
    · rw [tt_of h]
      obtain ⟨j, hj, hne⟩ := h
      obtain ⟨i, _, hi1, hi2⟩ : ∃ i, i ≤ j ∧ T (C i).toNat ≠ C i ∧ ∀ l, l < i → T (C l).toNat = C l := by
        induction j using Nat.strongRecOn with
        | _ j ih =>
          by_cases e : ∃ i, i < j ∧ T (C i).toNat ≠ C i
          · obtain ⟨i, h1, h2⟩ := e
            obtain ⟨l, h3, h4, h5⟩ := ih i h1 (by omega) h2
            exact ⟨l, by omega, h4, h5⟩
          · refine ⟨j, Nat.le_refl _, hne, fun l hl => ?_⟩
            by_cases e2 : T (C l).toNat = C l
            · exact e2
            · exact absurd ⟨l, hl, e2⟩ e
      rw [movedIdx_some (by omega) hi2 hi1]
      simp
    · rw [tt_no h, movedIdx_none fun j hj => by
        by_cases e2 : T (C j).toNat = C j
        · exact e2
        · exact absurd ⟨j, hj, e2⟩ h]
      simp
  have HD := Lib.hid hd
  rw [← hre] at H
  clear hre hc ha hr hC hd
  have hd2 := HD.out
  obtain ⟨Bb, hBb⟩ : ∃ Bb, Bb = tt (MovedOn m C T) := ⟨_, rfl⟩
  rw [← hBb] at hd2 ⊢
  clear hBb HD
  go_enter Try.func63, Try.ntmps63
  go_wp2_with (go_at_call 71; refine H.out.mono ?_; rintro e w' ⟨rfl, rfl⟩)
  go_ret
  exact ⟨rfl, rfl⟩
end Go.Proofs.Yteigenmagifplaa
namespace Go.Proofs.Yteigenmagifplaa
set_option linter.unusedVariables false
set_option linter.unusedSimpArgs false
open Go.RowKit

theorem less_cmp {X Y : Nat → Int} : ∀ {m k : Nat}, cmpN X Y k m < 0 → ∃ j, j < m ∧ (∀ i, i < j → X (k + i) = Y (k + i)) ∧ X (k + j) < Y (k + j)
  | 0, k, h => by
    have : cmpN X Y k 0 = 0 := rfl
    omega
  | m + 1, k, h => by
    have e1 : cmpN X Y k (m + 1) = if X k = Y k then cmpN X Y (k + 1) m else cmpI (X k) (Y k) := rfl
    rw [e1] at h
    by_cases e : X k = Y k
    · rw [if_pos e] at h
      obtain ⟨j, hj, h1, h2⟩ := less_cmp h
      refine ⟨j + 1, by omega, fun i hi => ?_, ?_⟩
      · cases i with
        | zero => exact e
        | succ i =>
          have := h1 i (by omega)
          rw [show k + 1 + i = k + (i + 1) by omega] at this
          exact this
      · rw [show k + 1 + j = k + (j + 1) by omega] at h2; exact h2
    · rw [if_neg e, cmpI_lt] at h
      exact ⟨0, by omega, fun i hi => absurd hi (Nat.not_lt_zero _), h⟩
theorem cmp_less {n : Nat} {X Y : Nat → Int} : cmpN X Y 0 n < 0 ↔ LessP n X Y := by
  constructor
  · intro h
    obtain ⟨j, hj, h1, h2⟩ := less_cmp h
    refine ⟨j, hj, fun i hi => ?_, ?_⟩
    · have := h1 i hi; rwa [Nat.zero_add] at this
    · rwa [Nat.zero_add] at h2
  · rintro ⟨j, hj, h1, h2⟩
    refine cmpN_first j n 0 hj (fun i hi => ?_) ?_
    · rw [Nat.zero_add]; exact h1 i hi
    · rw [Nat.zero_add]; exact h2
theorem cmpN_range {X Y : Nat → Int} : ∀ (m k : Nat), -1 ≤ cmpN X Y k m ∧ cmpN X Y k m ≤ 1
  | 0, k => by show (-1 : Int) ≤ 0 ∧ (0 : Int) ≤ 1; omega
  | m + 1, k => by
    show -1 ≤ (if X k = Y k then cmpN X Y (k + 1) m else cmpI (X k) (Y k)) ∧ (if X k = Y k then cmpN X Y (k + 1) m else cmpI (X k) (Y k)) ≤ 1
    split
    · exact cmpN_range m (k + 1)
    · exact cmpI_range _ _
/-- Somebody on the circle takes something just if the circle isn't apart. -/
theorem moved_on {n : Nat} {W : Nat → Int} {T c : List Int} {U : Nat} (h : Taken n W T U) (hc : IsCirc n W c.length (nth c)) : MovedOn c.length (nth c) (nth T) ↔ ¬ U &&& setL c = 0 := by
  have hm : ∀ y, y < n → (U.testBit y = true ↔ nth T y ≠ y) := fun y hy => by
    constructor
    · intro hb e
      obtain ⟨j, e1, _, e3, _⟩ := h.2.2.2.1 y hb
      omega
    · intro hne
      cases e : U.testBit y with
      | true => rfl
      | false => exact absurd (h.2.2.1 y hy e) hne
  rw [and_zero]
  constructor
  · rintro ⟨j, hj, hne⟩ hall
    obtain ⟨y, hy, hyn⟩ := hc.in_nat hj
    rw [hy, Int.toNat_natCast] at hne
    have h1 := hall y ((hm y hyn).2 hne)
    rw [(setL_bit hc).2 ⟨j, hj, hy⟩] at h1
    cases h1
  · intro hno
    by_cases hex : MovedOn c.length (nth c) (nth T)
    · exact hex
    · refine absurd (fun y hy => ?_) hno
      cases e : (setL c).testBit y with
      | false => rfl
      | true =>
        obtain ⟨j, hj, hjy⟩ := (setL_bit hc).1 e
        exact absurd ⟨j, hj, by rw [hjy, Int.toNat_natCast]; exact (hm y (setL_ppl hc e)).1 hy⟩ hex
theorem bestIn_app {n : Nat} {b : List Int} {A B : List (List Int)} : bestIn n b (A ++ B) = bestIn n (bestIn n b A) B := by unfold bestIn; rw [List.foldl_append]
theorem lenL_drop {CS : List (List Int)} {d r : Nat} : lenL (CS.drop d) r = lenL CS (d + r) ∧ nthL (CS.drop d) r = nthL CS (d + r) := by
  have e : (CS.drop d).getD r [] = CS.getD (d + r) [] := by
    rw [List.getD_eq_getElem?_getD, List.getD_eq_getElem?_getD, List.getElem?_drop]
  unfold lenL nthL
  rw [e]
  exact ⟨rfl, rfl⟩
theorem drop_cons_at {CC : List (List Int)} {i : Nat} (h : i < CC.length) : CC.drop i = CC.getD i [] :: CC.drop (i + 1) := by
  rw [List.drop_eq_getElem_cons h, List.getD_eq_getElem?_getD, List.getElem?_eq_getElem h]; rfl
theorem keep2_drew {a b : Addr} {v u : Value} {W : World} (h : W.cell? a = some v ∧ W.cell? b = some u) : W.drew.cell? a = some v ∧ W.drew.cell? b = some u := ⟨by simpa using h.1, by simpa using h.2⟩
theorem keep2_below {a b : Addr} {v u : Value} {W W' : World} (h : W.cell? a = some v ∧ W.cell? b = some u) (hb : Below W.heap.size W W') : W'.cell? a = some v ∧ W'.cell? b = some u :=
  ⟨(hb.cell (World.block_lt_of_cell? _ _ h.1)).trans h.1, (hb.cell (World.block_lt_of_cell? _ _ h.2)).trans h.2⟩
theorem Rd.drew {w : World} {a : Option Addr} {n : Nat} {X : Nat → Int} (h : Rd w a n X) : Rd w.drew a n X := h.drewN 1
/-- A table's rows from the d-th one on. -/
theorem OwnT.drop {w : World} {lo hi d : Nat} {A : Nat → Option Addr} {Cp : Nat → Nat} {CS : List (List Int)} {b o : Nat} (h : OwnT w lo hi (some ⟨b, o, none⟩) CS.length A (lenL CS) Cp (nthL CS)) :
    OwnT w lo hi (some ⟨b, o + d, none⟩) (CS.drop d).length (fun r => A (d + r)) (lenL (CS.drop d)) (fun r => Cp (d + r)) (nthL (CS.drop d)) := by
  rw [List.length_drop]
  rcases h with h0 | ⟨b', o', K, ha, h1, h2, hc, hk, hi'⟩
  · left; omega
  · cases ha
    refine .inr ⟨b, o + d, fun r => K (d + r), rfl, h1, h2, fun r hr => ?_, fun r hr => ?_, fun r s hr hs hrs => hi' _ _ (by omega) (by omega) (by omega)⟩
    · have := hc (d + r) (by omega)
      rw [show o + d + r = o + (d + r) by omega, lenL_drop.1]; exact this
    · have := hk (d + r) (by omega)
      rw [lenL_drop.1, lenL_drop.2]; exact this
end Go.Proofs.Yteigenmagifplaa
namespace Go.Proofs.Yteigenmagifplaa
set_option linter.unusedVariables false
set_option linter.unusedSimpArgs false
open Go.RowKit

def joinV (bb bj : Nat) : Value := .func (.func 61) #[] #[.pointer (some ⟨bb, 0, none⟩), .pointer (some ⟨bj, 0, none⟩)]
/-- The cell of the best list: that list, in a row of the call's own. -/
def BestAt (n bb lo : Nat) (X : List Int) (w : World) : Prop :=
  ∃ gb cb, w.cell? ⟨bb, 0, none⟩ = some (.slice (some ⟨gb, 0, none⟩) n cb) ∧ w.frozen? ⟨bb, 0, none⟩ = false ∧ (lo ≤ gb ∧ gb < w.heap.size ∧ gb ≠ bb) ∧ OwnR w gb (some ⟨gb, 0, none⟩) n (nth X)
def RetJoin (n bb lo : Nat) (X : List Int) (w : World) (e : Ending) (w' : World) : Prop :=
  (∃ u, e = .returned u) ∧ Outside (fun k => k = bb) w w' ∧ BestAt n bb lo X w'
theorem BestAt.below {n bb lo : Nat} {X : List Int} {w w' : World} (h : BestAt n bb lo X w) (hb : Below w.heap.size w w') : BestAt n bb lo X w' := by
  obtain ⟨gb, cb, h1, h2, ⟨h3, h4, h5⟩, h6⟩ := h
  have hbl : bb < w.heap.size := World.block_lt_of_cell? _ _ h1
  exact ⟨gb, cb, (hb.cell (p := ⟨bb, 0, none⟩) hbl).trans h1, (hb.frozen (p := ⟨bb, 0, none⟩) hbl).trans h2, ⟨h3, Nat.lt_of_lt_of_le h4 hb.size, h5⟩, h6.of_block (hb.block gb h4)⟩

set_option maxRecDepth 100000 in
set_option maxHeartbeats 3200000 in
theorem join_any (n bb bj lo : Nat) (W : Nat → Int) (hW : IsWants n W) (hjb : bj ≠ bb) (N : Nat) :
    ∀ (CS : List (List Int)) (T : List Int) (U : Nat) (gt ct : Nat) (ac : Option Addr) (cc : Nat) (A : Nat → Option Addr) (Cp : Nat → Nat) (Bst : List Int) (w : World), CS.length = N → N ≤ 1957 → (∀ c, c ∈ CS → IsCirc n W c.length (nth c)) → Taken n W T U →
      OwnR w gt (some ⟨gt, 0, none⟩) n (nth T) → (lo ≤ gt ∧ gt < w.heap.size ∧ gt ≠ bb) → lo ≤ w.heap.size → BestAt n bb lo Bst w → OwnT w (bb + 1) w.heap.size ac CS.length A (lenL CS) Cp (nthL CS) → N ≤ cc → w.cell? ⟨bj, 0, none⟩ = some (joinV bb bj) →
      Calls Try.prog 61 #[.slice (some ⟨gt, 0, none⟩) n ct, .slice ac N cc, .pointer (some ⟨bb, 0, none⟩), .pointer (some ⟨bj, 0, none⟩)] w (RetJoin n bb lo (bestIn n Bst (takesL CS T U)) w) := by
  have hn2 := hW.1.1
  have hn6 := hW.1.2
  have HW := Lib.hid hW
  clear hW
  induction N using Nat.strongRecOn with
  | ind N ih =>
    intro CS T U gt ct ac cc A Cp Bst w hN hsm hcc htk hO hgt hlo hbest hT hcap hcj
    obtain ⟨gb, cb, c1, c2, ⟨c3, c4, c5⟩, c6⟩ := hbest
    obtain ⟨l1, l2, l3⟩ := hgt
    have IH := Lib.hid ih
    have HCC := Lib.hid hcc
    have HTK := Lib.hid htk
    have HO := Lib.hid hO
    have HT := Lib.hid hT
    have CJ := Lib.hid hcj
    have CB := Lib.hid c1
    have FB := Lib.hid c2
    have OB := Lib.hid c6
    have hbl : bb < w.heap.size := World.block_lt_of_cell? _ _ c1
    have hjl : bj < w.heap.size := World.block_lt_of_cell? _ _ hcj
    obtain ⟨mT, hmT⟩ : ∃ mT, mT = movedN (nth T) n := ⟨_, rfl⟩
    obtain ⟨mB, hmB⟩ : ∃ mB, mB = movedN (nth Bst) n := ⟨_, rfl⟩
    have hmTn : mT ≤ n := by rw [hmT]; exact movedN_le _ _
    have hmBn : mB ≤ n := by rw [hmB]; exact movedN_le _ _
    obtain ⟨z, hz⟩ : ∃ z, z = cmpN (nth T) (nth Bst) 0 n := ⟨_, rfl⟩
    have hzr : -1 ≤ z ∧ z ≤ 1 := by rw [hz]; exact cmpN_range _ _
    obtain ⟨w1, hw1⟩ : ∃ w1, w1 = w.alloc (.cells #[.slice (some ⟨gt, 0, none⟩) n ct] 23) := ⟨_, rfl⟩
    have B1 := Lib.hid (show Below w.heap.size w w1 by rw [hw1]; exact below_alloc (Below.refl _ w) _)
    have hs1 : w1.heap.size = w.heap.size + 1 := by rw [hw1]; simp
    obtain ⟨s, hs⟩ : ∃ s, s = w.heap.size := ⟨_, rfl⟩
    have C4 := Lib.hid (show w1.cell? ⟨s, 0, none⟩ = some (.slice (some ⟨gt, 0, none⟩) n ct) by rw [hw1, hs]; simp)
    have HTA := Lib.hid (fun r : Later w1 => (show Calls Try.prog 47 #[.slice (some ⟨gt, 0, none⟩) n ct] r.W fun e w' => e = .returned (.int .i64 (mT : Nat)) ∧ Below r.W.heap.size r.W w' from by
      rw [hmT]
      exact (takers_any n ct _ (nth T) r.W (by omega) ((HO.out.of_block (B1.out.block gt l2)).rd.below (Nat.le_refl _) r.h)).mono fun e w' ⟨h1, h2⟩ => ⟨h1, by rw [← h2]; exact Below.refl _ _⟩))
    have HTB := Lib.hid (fun r : Later w1 => (show Calls Try.prog 47 #[.slice (some ⟨gb, 0, none⟩) n cb] r.W fun e w' => e = .returned (.int .i64 (mB : Nat)) ∧ Below r.W.heap.size r.W w' from by
      rw [hmB]
      exact (takers_any n cb _ (nth Bst) r.W (by omega) ((OB.out.of_block (B1.out.block gb c4)).rd.below (Nat.le_refl _) r.h)).mono fun e w' ⟨h1, h2⟩ => ⟨h1, by rw [← h2]; exact Below.refl _ _⟩))
    have QT := Lib.hid hmT
    have QB := Lib.hid hmB
    have QZ := Lib.hid hz
    have HW1 := Lib.hid hw1
    have HS := Lib.hid hs
    have hcb1 : w1.cell? ⟨bb, 0, none⟩ = some (.slice (some ⟨gb, 0, none⟩) n cb) := (B1.out.cell (p := ⟨bb, 0, none⟩) hbl).trans CB.out
    clear ih hcc htk hO hT hcj c1 c2 c6 hmT hmB hz
    go_enter Try.func61, Try.ntmps61
    go_wp2_with fail
    rw [← hw1, ← hs]
    have HS1 := Lib.hid (show w1.heap.size = s + 1 by rw [hs1, hs])
    have hls : lo ≤ s := by omega
    have l2s : gt < s := by omega
    have c4s : gb < s := by omega
    have hbls : bb < s := by omega
    have hjls : bj < s := by omega
    clear hw1 hs hs1
    have hk4 : ∀ r : Later w1, r.W.cell? ⟨s, 0, none⟩ = some (.slice (some ⟨gt, 0, none⟩) n ct) := fun r => later_cell C4.out r
    have hkb : ∀ r : Later w1, r.W.cell? ⟨bb, 0, none⟩ = some (.slice (some ⟨gb, 0, none⟩) n cb) := fun r => later_cell hcb1 r
    refine wp_region_later (by kernel_rfl) (by kernel_rfl) ?_
    go_big_quiet_step (fail)
    go_big_quiet_step ((go_at_call 47; exact calls_later _ (HTA.out _)))
    repeat go_big_quiet_step ((go_at_call 47; exact calls_later _ (HTB.out _)))
    refine wpQuiet_nil ?_
    rintro _ ⟨r, rfl⟩
    clear hk4 hkb HTA HTB
    obtain ⟨w2, hw2⟩ : ∃ w2, w2 = r.W := ⟨_, rfl⟩
    have hb2 : Below w1.heap.size w1 w2 := by rw [hw2]; exact r.h
    rw [← hw2]
    clear hw2
    have B2 := Lib.hid (B1.out.trans (hb2.mono B1.out.size))
    have S2 := Lib.hid (show s + 1 ≤ w2.heap.size by rw [← HS1.out]; exact hb2.size)
    have hc4 : w2.cell? ⟨s, 0, none⟩ = some (.slice (some ⟨gt, 0, none⟩) n ct) := (hb2.cell (p := ⟨s, 0, none⟩) (by rw [HS1.out]; exact Nat.lt_succ_self s)).trans C4.out
    have hcb2 : w2.cell? ⟨bb, 0, none⟩ = some (.slice (some ⟨gb, 0, none⟩) n cb) := (B2.out.cell (p := ⟨bb, 0, none⟩) hbl).trans CB.out
    have hfb2 : w2.frozen? ⟨bb, 0, none⟩ = false := (B2.out.frozen (p := ⟨bb, 0, none⟩) hbl).trans FB.out
    have O2 := Lib.hid (HO.out.of_block (B2.out.block gt l2))
    have OB2 := Lib.hid (OB.out.of_block (B2.out.block gb c4))
    have HCM := Lib.hid (show Calls Try.prog 62 #[.slice (some ⟨gt, 0, none⟩) n ct, .slice (some ⟨gb, 0, none⟩) n cb] w2 fun e w' => e = .returned (.int .i64 z) ∧ w2 = w' by rw [QZ.out]; exact compare_any6 n ct cb _ _ (nth T) (nth Bst) w2 hn6 O2.out.rd OB2.out.rd)
    have hw21 : IntKind.i64.wrap ((mT : Int) - (mB : Int)) = (mT : Int) - (mB : Int) := IntWalk.i64_in _ (by omega)
    have C42 := Lib.hid hc4
    clear hb2
    have hcase : mB < mT ∨ (mT = mB ∧ z < 0) ∨ (mT = mB ∧ 0 ≤ z) ∨ mT < mB := by omega
    rcases hcase with h1 | ⟨h1, hz1⟩ | ⟨h1, hz1⟩ | h1
    have d1 : decide (0 < (mT : Int) - (mB : Int)) = true := by simp; omega
    have HX := Lib.hid (show betterL n Bst T = T from better_yes1 (by rw [← QB.out, ← QT.out]; exact h1))
    go_wp2_with fail
    obtain ⟨wA, hwA⟩ : ∃ wA, wA = w2.setCell ⟨bb, 0, none⟩ (.slice (some ⟨gt, 0, none⟩) n ct) := ⟨_, rfl⟩
    rw [← hwA]
    have SA := Lib.hid (show Outside (fun k => k = bb) w wA by rw [hwA]; exact (Outside.of_below (V := fun k => k = bb) B2.out).setCell (p := ⟨bb, 0, none⟩) (show bb = bb from rfl) _)
    have BA := Lib.hid (show BestAt n bb lo (betterL n Bst T) wA by
      rw [HX.out, hwA]
      exact ⟨gt, ct, World.cell?_setCell_same' _ _ _ (by rw [hcb2]; rfl), by rw [World.frozen?_setCell]; exact hfb2, ⟨l1, by simp [World.setCell]; have := S2.out; omega, l3⟩, O2.out.of_block (Below.heap_setCell _ _ _ _ l3)⟩)
    have C4A := Lib.hid (show wA.cell? ⟨s, 0, none⟩ = some (.slice (some ⟨gt, 0, none⟩) n ct) by rw [hwA, World.cell?_of_block (Below.heap_setCell _ _ _ _ (show s ≠ bb by omega))]; exact C42.out)
    have SZ := Lib.hid (show s + 1 ≤ wA.heap.size by rw [hwA]; simp [World.setCell]; exact S2.out)
    clear hwA HX
    clear d1
    rotate_left
    have d1 : decide (0 < (mT : Int) - (mB : Int)) = false := by simp; omega
    have d2 : ((mT : Int) - (mB : Int) == 0) = true := by simp; omega
    have d3 : decide (z < 0) = true := by simp; omega
    have HX := Lib.hid (show betterL n Bst T = T from better_tie (by rw [← QB.out, ← QT.out]; exact h1) (cmp_less.1 (by rw [← QZ.out]; exact hz1)))
    clear h1
    go_wp2_with (go_at_call 62; refine HCM.out.mono ?_; rintro e w' ⟨rfl, rfl⟩)
    obtain ⟨wA, hwA⟩ : ∃ wA, wA = w2.setCell ⟨bb, 0, none⟩ (.slice (some ⟨gt, 0, none⟩) n ct) := ⟨_, rfl⟩
    rw [← hwA]
    have SA := Lib.hid (show Outside (fun k => k = bb) w wA by rw [hwA]; exact (Outside.of_below (V := fun k => k = bb) B2.out).setCell (p := ⟨bb, 0, none⟩) (show bb = bb from rfl) _)
    have BA := Lib.hid (show BestAt n bb lo (betterL n Bst T) wA by
      rw [HX.out, hwA]
      exact ⟨gt, ct, World.cell?_setCell_same' _ _ _ (by rw [hcb2]; rfl), by rw [World.frozen?_setCell]; exact hfb2, ⟨l1, by simp [World.setCell]; have := S2.out; omega, l3⟩, O2.out.of_block (Below.heap_setCell _ _ _ _ l3)⟩)
    have C4A := Lib.hid (show wA.cell? ⟨s, 0, none⟩ = some (.slice (some ⟨gt, 0, none⟩) n ct) by rw [hwA, World.cell?_of_block (Below.heap_setCell _ _ _ _ (show s ≠ bb by omega))]; exact C42.out)
    have SZ := Lib.hid (show s + 1 ≤ wA.heap.size by rw [hwA]; simp [World.setCell]; exact S2.out)
    clear hwA HX
    clear d1 d2 d3
    rotate_left
    have d1 : decide (0 < (mT : Int) - (mB : Int)) = false := by simp; omega
    have d2 : ((mT : Int) - (mB : Int) == 0) = true := by simp; omega
    have d3 : decide (z < 0) = false := by simp; omega
    have HX := Lib.hid (show betterL n Bst T = Bst from better_no (by rw [← QB.out, ← QT.out]; omega) (fun _ h => by have := cmp_less.2 h; rw [← QZ.out] at this; omega))
    clear h1
    go_wp2_with (go_at_call 62; refine HCM.out.mono ?_; rintro e w' ⟨rfl, rfl⟩)
    obtain ⟨wA, hwA⟩ : ∃ wA, wA = w2 := ⟨_, rfl⟩
    rw [← hwA]
    have SA := Lib.hid (show Outside (fun k => k = bb) w wA by rw [hwA]; exact Outside.of_below B2.out)
    have BA := Lib.hid (show BestAt n bb lo (betterL n Bst T) wA by
      rw [HX.out, hwA]
      exact ⟨gb, cb, hcb2, hfb2, ⟨c3, by have := S2.out; omega, c5⟩, OB2.out⟩)
    have C4A := Lib.hid (show wA.cell? ⟨s, 0, none⟩ = some (.slice (some ⟨gt, 0, none⟩) n ct) by rw [hwA]; exact C42.out)
    have SZ := Lib.hid (show s + 1 ≤ wA.heap.size by rw [hwA]; exact S2.out)
    clear hwA HX
    clear d1 d2 d3
    rotate_left
    have d1 : decide (0 < (mT : Int) - (mB : Int)) = false := by simp; omega
    have d2 : ((mT : Int) - (mB : Int) == 0) = false := by simp; omega
    have HX := Lib.hid (show betterL n Bst T = Bst from better_no (by rw [← QB.out, ← QT.out]; omega) (fun h => absurd h (by rw [← QB.out, ← QT.out]; omega)))
    clear h1
    go_wp2_with fail
    obtain ⟨wA, hwA⟩ : ∃ wA, wA = w2 := ⟨_, rfl⟩
    rw [← hwA]
    have SA := Lib.hid (show Outside (fun k => k = bb) w wA by rw [hwA]; exact Outside.of_below B2.out)
    have BA := Lib.hid (show BestAt n bb lo (betterL n Bst T) wA by
      rw [HX.out, hwA]
      exact ⟨gb, cb, hcb2, hfb2, ⟨c3, by have := S2.out; omega, c5⟩, OB2.out⟩)
    have C4A := Lib.hid (show wA.cell? ⟨s, 0, none⟩ = some (.slice (some ⟨gt, 0, none⟩) n ct) by rw [hwA]; exact C42.out)
    have SZ := Lib.hid (show s + 1 ≤ wA.heap.size by rw [hwA]; exact S2.out)
    clear hwA HX
    clear d1 d2
    rotate_left
    all_goals (
      clear hc4 hcb2 hfb2 O2 OB2 HCM C42 B2 S2 hw21 C4 hcb1
      have HTA := Lib.hid (HT.out.of_blocks (w' := wA) (fun k h1 h2 => SA.out.block k h2 (fun h => by omega)))
      have OA := Lib.hid (HO.out.of_block (SA.out.block gt l2 l3))
      have CJA := Lib.hid (SA.out.cell (p := ⟨bj, 0, none⟩) hjb CJ.out)
      have HB0 := Lib.hid (show bestIn n Bst (takesL CS T U) = bestIn n (betterL n Bst T) (takesR (CS.drop 0) T U) from rfl)
      go_loopw [7, 8, 9, 30] (fun _ _ _ i wr => ∃ (k : Nat) (BC : List Int), k ≤ N ∧ i = .int .i64 k ∧ Outside (fun k => k = bb) wA wr ∧ BestAt n bb lo BC wr ∧ bestIn n Bst (takesL CS T U) = bestIn n BC (takesR (CS.drop k) T U)) (fun _ _ _ i _ => N - (intOf i).toNat)
      case atStart => exact ⟨0, _, Nat.zero_le _, rfl, Outside.refl _ _, BA.out, HB0.out⟩
      case round =>
        obtain ⟨k, BC, hk, rfl, ho, hbst, heq⟩ := hrel
        have OU := Lib.hid ho
        have BS := Lib.hid hbst
        have EQ := Lib.hid heq
        have hTr := HTA.out.of_blocks (w' := wr) (fun j h1 h2 => ho.block j (by have := SA.out.size; omega) (fun h => by omega))
        have HTR := Lib.hid hTr
        have hc4r : wr.cell? ⟨s, 0, none⟩ = some (.slice (some ⟨gt, 0, none⟩) n ct) := ho.cell (p := ⟨s, 0, none⟩) (fun h => by have h' : s = bb := h; omega) C4A.out
        have hcjr : wr.cell? ⟨bj, 0, none⟩ = some (joinV bb bj) := ho.cell (p := ⟨bj, 0, none⟩) hjb CJA.out
        have CJR := Lib.hid hcjr
        have C4R := Lib.hid hc4r
        have OTR := Lib.hid (OA.out.of_block (ho.block gt (by have := SZ.out; omega) l3))
        have hszr : wA.heap.size ≤ wr.heap.size := ho.size
        have hsza := SA.out.size
        clear BA HB0 ho hbst heq hcjr
        by_cases hlt : k < N
        · obtain ⟨bt, ot, hbt, hct, hrt⟩ := hTr.tab k (by omega)
          subst hbt
          obtain ⟨c, hc⟩ : ∃ c, c = CS.getD k [] := ⟨_, rfl⟩
          obtain ⟨m, hm⟩ : ∃ m, m = c.length := ⟨_, rfl⟩
          have QMM := Lib.hid hm
          have HCI := Lib.hid (show IsCirc n W c.length (nth c) by rw [hc]; exact HCC.out _ (by rw [List.getD_eq_getElem?_getD, List.getElem?_eq_getElem (by omega)]; exact List.getElem_mem _))
          have hm6 : m ≤ n := by rw [hm]; exact diff_le HCI.out.1
          have hm2 : 2 ≤ m := by rw [hm]; exact HCI.out.2.2.2
          have hlc : lenL CS k = m := by unfold lenL; rw [hm, hc]
          have hnc : nthL CS k = nth c := by funext j; unfold nthL; rw [hc]
          rw [hlc] at hct hrt
          rw [hnc] at hrt
          have HD := Lib.hid (show CS.drop k = c :: CS.drop (k + 1) by rw [hc]; exact drop_cons_at (by omega))
          have HRT := Lib.hid hrt
          have HCT := Lib.hid (containsMoved_any n ct s m (Cp k) (some ⟨gt, 0, none⟩) (A k) (nth T) (nth c) wr (by omega) (by rw [hm]; exact HCI.out.1.1) C4R.out OTR.out.rd hrt)
          have HMV := Lib.hid (show MovedOn m (nth c) (nth T) ↔ ¬ U &&& setL c = 0 by rw [hm]; exact moved_on HTK.out HCI.out)
          have k1c : (k : Int) < (N : Int) := by omega
          clear hTr hrt hlc hnc hc hm
          by_cases hmv : MovedOn m (nth c) (nth T)
          · have T1 := Lib.hid (tt_of hmv)
            have HZ := Lib.hid (HMV.out.1 hmv)
            clear hmv
            go_wp2_with (go_at_call 63; refine HCT.out.mono ?_; rintro e w' ⟨rfl, rfl⟩; rw [T1.out])
            go_roundw
            case rel => exact ⟨k + 1, BC, by omega, by go_num, OU.out, BS.out, by rw [EQ.out, HD.out, takesR_no HZ.out]⟩
            case measure => simp [intOf]; omega
          · have T1 := Lib.hid (tt_no hmv)
            have HZ := Lib.hid (show U &&& setL c = 0 from by
              by_cases h : U &&& setL c = 0
              · exact h
              · exact absurd (HMV.out.2 h) hmv)
            clear hmv
            have hcj2 := CJR.out
            unfold joinV at hcj2
            have HAL := Lib.hid (fun w' (h1 : Rd w' (some ⟨gt, 0, none⟩) n (nth T)) (h2 : Rd w' (A k) m (nth c)) => along_any n ct m (Cp k) (some ⟨gt, 0, none⟩) (A k) (nth T) (nth c) w' (by omega) hn6 (by omega) (by omega) (by rw [QMM.out]; exact HCI.out.1.1) h1 h2)
            go_wp2_with (go_at_call 63; refine HCT.out.mono ?_; rintro e w' ⟨rfl, rfl⟩; rw [T1.out])
            have s1 : (0 : Int) ≤ (k : Int) + 1 := by omega
            have s2 : (k : Int) + 1 ≤ (N : Int) := by omega
            have s3 : IntKind.i64.wrap ((k : Int) + 1) = (k : Int) + 1 := IntWalk.i64_in _ (by omega)
            obtain ⟨o', hif, ho'⟩ : ∃ o' : Nat, (if cc = k + 1 then some (⟨bt, ot, none⟩ : Addr) else some ⟨bt, ot + (k + 1), none⟩) = some ⟨bt, o', none⟩ ∧ (cc = k + 1 ∨ o' = ot + (k + 1)) := by
              by_cases h : cc = k + 1
              · exact ⟨ot, by rw [if_pos h], .inl h⟩
              · exact ⟨ot + (k + 1), by rw [if_neg h], .inr rfl⟩
            have HO' := Lib.hid ho'
            have HLD := Lib.hid (show (CS.drop (k + 1)).length = N - (k + 1) by rw [List.length_drop, hN])
            have HCD := Lib.hid (show ∀ d, d ∈ CS.drop (k + 1) → IsCirc n W d.length (nth d) from fun d hd => HCC.out d (List.mem_of_mem_drop hd))
            have HTN := Lib.hid (taken_next HW.out HTK.out HCI.out HZ.out)
            have HTD := Lib.hid (show ∀ w4, Below wr.heap.size wr w4 → OwnT w4 (bb + 1) w.heap.size (some ⟨bt, o', none⟩) (CS.drop (k + 1)).length (fun r => A (k + 1 + r)) (lenL (CS.drop (k + 1))) (fun r => Cp (k + 1 + r)) (nthL (CS.drop (k + 1))) from fun w4 hb => by
              rcases HO'.out with h | h
              · left; rw [HLD.out]; omega
              · rw [h]; exact (HTR.out.below (by omega) hb).drop)
            have hjr : bj < wr.heap.size := by omega
            have hsr : s < wr.heap.size := by have := SZ.out; omega
            clear hct ho'
            go_region_held3 (fun W' => W'.cell? ⟨bj, 0, none⟩ = some (.func (.func 61) #[] #[.pointer (some ⟨bb, 0, none⟩), .pointer (some ⟨bj, 0, none⟩)]) ∧ W'.cell? ⟨s, 0, none⟩ = some (.slice (some ⟨gt, 0, none⟩) n ct))
              (first | exact keep2_drew ⟨hcj2, hc4r⟩ | exact keep2_drew (by assumption) | exact keep2_below (by assumption) hb4 | exact hk9)
              ((first
                | (go_at_call 42; refine (HAL.out _ (OTR.out.rd.drew) (HRT.out.drew)).mono ?_; rintro e w4 ⟨g4, cap4, rfl, ⟨hg41, hg42, hg43⟩, hO4, hb4⟩; have hb5 : Below wr.heap.size wr w4 := (by first | exact hb4 | exact (Below.refl wr.heap.size wr).drew.trans hb4); have hO5 : OwnR w4 g4 (some ⟨g4, 0, none⟩) n (nth (nextL T c)) := hO4.congr (fun y hy => by rw [nextL_nth (by rw [HTK.out.1]; exact hy), ← QMM.out]); have hg44 : wr.heap.size ≤ g4 := hg41; clear hO4)
                | (go_at_call 61; refine (IH.out (N - (k + 1)) (by omega) (CS.drop (k + 1)) (nextL T c) (U ||| setL c) g4 cap4 (some ⟨bt, o', none⟩) (cc - (k + 1)) (fun r => A (k + 1 + r)) (fun r => Cp (k + 1 + r)) BC _ HLD.out (by omega) HCD.out HTN.out hO5 ⟨by omega, hg42, by omega⟩ (by have := hb5.size; omega) (BS.out.below hb5) ((HTD.out w4 hb5).sub (Nat.le_refl _) (by have := hb5.size; omega)) (by omega) ((hb5.cell (p := ⟨bj, 0, none⟩) hjr).trans CJR.out)).mono ?_; rintro e w9 ⟨⟨u, rfl⟩, ho9, hbest9⟩; have hk9 := And.intro (ho9.cell (p := ⟨bj, 0, none⟩) hjb ((hb5.cell (p := ⟨bj, 0, none⟩) hjr).trans hcj2)) (ho9.cell (p := ⟨s, 0, none⟩) (fun h => by have h' : s = bb := h; omega) ((hb5.cell (p := ⟨s, 0, none⟩) hsr).trans C4R.out)))))
            all_goals (
              have HO9 := Lib.hid ho9
              have HB9 := Lib.hid hbest9
              have HB5 := Lib.hid hb5
              clear ho9 hbest9 hb5 hb4 hO5 hk9
              go_wp2_with fail
              go_roundw
              case rel =>
                refine ⟨k + 1, bestIn n BC (takesL (CS.drop (k + 1)) (nextL T c) (U ||| setL c)), by omega, by go_num, ?_, HB9.out, ?_⟩
                · exact OU.out.trans' ((Outside.of_below HB5.out).trans' HO9.out (fun _ _ h => h)) (fun _ _ h => h)
                · rw [EQ.out, HD.out, takesR_yes HZ.out, bestIn_app]
              case measure => simp [intOf]; omega)
        · obtain rfl : k = N := by omega
          go_wp2_with fail
          go_end0
          refine ⟨⟨_, rfl⟩, SA.out.trans' OU.out (fun _ _ h => h), ?_⟩
          have e : bestIn n Bst (takesL CS T U) = BC := by
            rw [EQ.out, ← hN, List.drop_length]; rfl
          rw [e]; exact BS.out)
end Go.Proofs.Yteigenmagifplaa
