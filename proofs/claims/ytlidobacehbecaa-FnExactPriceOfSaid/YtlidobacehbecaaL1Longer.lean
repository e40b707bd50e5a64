/- The model's l1Longer: all lists of different numbers that begin so. -/
import Derived.Test.YtlidobacehbecaaL1Different
import Derived.Test.YtlidobacehbecaaLongerModel
import Derived.Test.YtlidobacehbecaaOwn
import Derived.Test.YtlidobacehbecaaToTab
namespace Go.Proofs.Ytlidobacehbecaa
set_option linter.unusedVariables false
open Go.RowKit

/-- The lengths of lists, and their numbers. -/
def lenL (LL : List (List Int)) (r : Nat) : Nat := (LL.getD r []).length
def nthL (LL : List (List Int)) (r k : Nat) : Int := nth (LL.getD r []) k
theorem getD_left {A B : List (List Int)} {r : Nat} (h : r < A.length) : (A ++ B).getD r [] = A.getD r [] := by
  rw [List.getD_eq_getElem?_getD, List.getD_eq_getElem?_getD, List.getElem?_append_left h]
theorem getD_right {A B : List (List Int)} {r : Nat} : (A ++ B).getD (A.length + r) [] = B.getD r [] := by
  rw [List.getD_eq_getElem?_getD, List.getD_eq_getElem?_getD, List.getElem?_append_right (Nat.le_add_right _ _), Nat.add_sub_cancel_left]

/-- Two tables in the making, the rows of the second one put behind those of the first one. -/
theorem Making.join {tS B B' i j : Nat} {w w1 : World} {v v' : Value} {G Cp L G' Cp' L' L3 : Nat → Nat} {X X' X3 : Nat → Nat → Int} {g cap H : Nat} (h : Making tS B w v i G Cp L X) (h' : Making tS B' w v' j G' Cp' L' X')
    (hBB : B ≤ B') (hG : ∀ r, r < i → G r < B') (hv : ∀ k, v.ownBlock = some k → k < B')
    (hL1 : ∀ r, r < i → L3 r = L r ∧ X3 r = X r) (hL2 : ∀ r, r < j → L3 (i + r) = L' r ∧ X3 (i + r) = X' r)
    (hown : w1.ownsRow B tS 1 (.slice (some ⟨g, 0, none⟩) (i + j) cap) (i + j) ((List.range i).map (fun r => Value.slice (some ⟨G r, 0, none⟩) (L r) (Cp r)) ++ (List.range j).map (fun r => Value.slice (some ⟨G' r, 0, none⟩) (L' r) (Cp' r))))
    (hgrow : w.grownBy w1 v.ownBlock) (hat : v.ownBlock = some g ∨ g = H) (hH : w.heap.size ≤ H) :
    Making tS B w1 (.slice (some ⟨g, 0, none⟩) (i + j) cap) (i + j) (fun r => if r < i then G r else G' (r - i)) (fun r => if r < i then Cp r else Cp' (r - i)) L3 X3 := by
  obtain ⟨h1, h2, h3⟩ := h
  obtain ⟨k1, k2, k3⟩ := h'
  have hgne : ∀ x, x < w.heap.size → v.ownBlock ≠ some x → g ≠ x := by
    intro x hx hne e
    rcases hat with h' | h'
    · exact hne (by rw [h', e])
    · omega
  have hvG' : ∀ r, r < j → v.ownBlock ≠ some (G' r) := fun r hr e => by
    have := hv _ e
    have := (k2 r hr).1
    omega
  refine ⟨?_, fun r hr => ?_, fun r s hr hs hrs => ?_⟩
  · have e : (List.range (i + j)).map (fun r => Value.slice (some ⟨if r < i then G r else G' (r - i), 0, none⟩) (L3 r) (if r < i then Cp r else Cp' (r - i))) = (List.range i).map (fun r => Value.slice (some ⟨G r, 0, none⟩) (L r) (Cp r)) ++ (List.range j).map (fun r => Value.slice (some ⟨G' r, 0, none⟩) (L' r) (Cp' r)) := by
      rw [List.range_add, List.map_append, List.map_map]
      congr 1
      · exact List.map_congr_left fun r hr => by
          have hr' := List.mem_range.1 hr
          rw [if_pos hr', if_pos hr', (hL1 r hr').1]
      · exact List.map_congr_left fun r hr => by
          have hr' := List.mem_range.1 hr
          show Value.slice (some ⟨if i + r < i then G (i + r) else G' (i + r - i), 0, none⟩) (L3 (i + r)) (if i + r < i then Cp (i + r) else Cp' (i + r - i)) = _
          rw [if_neg (by omega), if_neg (by omega), Nat.add_sub_cancel_left, (hL2 r hr').1]
    show w1.ownsRow B tS 1 _ (i + j) ((List.range (i + j)).map (fun r => Value.slice (some ⟨if r < i then G r else G' (r - i), 0, none⟩) (L3 r) (if r < i then Cp r else Cp' (r - i))))
    rw [e]
    exact hown
  · show B ≤ (if r < i then G r else G' (r - i)) ∧ (if r < i then G r else G' (r - i)) < w1.heap.size ∧ _ ≠ some (if r < i then G r else G' (r - i)) ∧ OwnR w1 (if r < i then G r else G' (r - i)) (some ⟨if r < i then G r else G' (r - i), 0, none⟩) (L3 r) (X3 r)
    by_cases e : r < i
    · rw [if_pos e, (hL1 r e).1, (hL1 r e).2]
      obtain ⟨m1, m2, m3, m4⟩ := h2 r e
      exact ⟨m1, Nat.lt_of_lt_of_le m2 hgrow.size, fun h => hgne _ m2 m3 (by simpa [Value.ownBlock] using h), m4.of_block (hgrow.block _ m2 (fun h => m3 h.symm))⟩
    · obtain ⟨s, rfl⟩ : ∃ s, r = i + s := ⟨r - i, by omega⟩
      have hs : s < j := by omega
      rw [if_neg e, (hL2 s hs).1, (hL2 s hs).2, Nat.add_sub_cancel_left]
      obtain ⟨m1, m2, m3, m4⟩ := k2 s hs
      exact ⟨by omega, Nat.lt_of_lt_of_le m2 hgrow.size, fun h => hgne _ m2 (hvG' s hs) (by simpa [Value.ownBlock] using h), m4.of_block (hgrow.block _ m2 (fun h => hvG' s hs h.symm))⟩
  · show (if r < i then G r else G' (r - i)) ≠ (if s < i then G s else G' (s - i))
    by_cases e1 : r < i
    · rw [if_pos e1]
      by_cases e2 : s < i
      · rw [if_pos e2]; exact h3 r s e1 e2 hrs
      · rw [if_neg e2]
        have h4 := hG r e1
        have h5 := (k2 (s - i) (by omega)).1
        omega
    · rw [if_neg e1]
      by_cases e2 : s < i
      · rw [if_pos e2]
        have h4 := hG s e2
        have h5 := (k2 (r - i) (by omega)).1
        omega
      · rw [if_neg e2]; exact k3 (r - i) (s - i) (by omega) (by omega) (by omega)

/-- What a call hands back: a table of its own, made by append, that tells a list of lists. -/
def RetLL (tS : Nat) (LL : List (List Int)) (w : World) (e : Ending) (w' : World) : Prop :=
  ∃ v G Cp, e = .returned v ∧ Making tS w.heap.size w' v LL.length G Cp (lenL LL) (nthL LL) ∧ Below w.heap.size w w'

theorem longer_pos {n f : Nat} {B : List Int} (hn : 2 ≤ n) (h : Diff n B) (h1 : 1 ≤ B.length) (hf : B.length + f = n) : 0 < (longer n f B).length := by
  by_cases h2 : 2 ≤ B.length
  · cases f with
    | zero => unfold longer; rw [if_pos h2]; simp
    | succ f => unfold longer; rw [if_pos h2]; simp
  · have hl : B.length = 1 := by omega
    obtain ⟨y, hy, hyB⟩ : ∃ y : Nat, y < n ∧ ¬ (y : Int) ∈ B := by
      match B, hl with
      | [b], _ =>
        by_cases e : b = 0
        · exact ⟨1, by omega, by simp; omega⟩
        · exact ⟨0, by omega, by simp; omega⟩
    obtain ⟨f', rfl⟩ : ∃ f', f = f' + 1 := ⟨f - 1, by omega⟩
    have h3 : 0 < (longer n f' (B ++ [(y : Int)])).length := by
      cases f' with
      | zero => unfold longer; rw [if_pos (by simp; omega)]; simp
      | succ f => unfold longer; rw [if_pos (by simp; omega)]; simp
    obtain ⟨D, hD⟩ := List.exists_mem_of_length_pos h3
    unfold longer
    rw [List.length_append]
    have : D ∈ (List.range n).flatMap fun (x : Nat) => if (x : Int) ∈ B then [] else longer n f' (B ++ [(x : Int)]) := List.mem_flatMap.2 ⟨y, List.mem_range.2 hy, by rw [if_neg hyB]; exact hD⟩
    have := List.length_pos_of_mem this
    omega

theorem isDiff_congr {n m : Nat} {X Y : Nat → Int} (h : ∀ j, j < m → X j = Y j) : IsDiff n m X ↔ IsDiff n m Y := by
  constructor
  · intro hd
    exact ⟨fun i hi => by rw [← h i hi]; exact hd.1 i hi, fun i j h1 h2 => by rw [← h i (by omega), ← h j h2]; exact hd.2 i j h1 h2⟩
  · intro hd
    exact ⟨fun i hi => by rw [h i hi]; exact hd.1 i hi, fun i j h1 h2 => by rw [h i (by omega), h j h2]; exact hd.2 i j h1 h2⟩
theorem snoc_nth {B : List Int} {x : Int} {j : Nat} (h : j < B.length + 1) : nth (B ++ [x]) j = if j < B.length then nth B j else x := by
  by_cases e : j < B.length
  · rw [if_pos e, nth_snoc_lt e]
  · have : j = B.length := by omega
    rw [if_neg e, this, nth_snoc]
theorem Rd.congr {w : World} {a : Option Addr} {n : Nat} {X Y : Nat → Int} (h : Rd w a n X) (e : ∀ k, k < n → X k = Y k) : Rd w a n Y := fun k hk => by
  obtain ⟨b, o, h1, h2⟩ := h k hk
  exact ⟨b, o, h1, by rw [← e k hk]; exact h2⟩
theorem lists_left {A B : List (List Int)} {r : Nat} (h : r < A.length) : lenL (A ++ B) r = lenL A r ∧ nthL (A ++ B) r = nthL A r := by
  unfold lenL nthL
  rw [getD_left h]
  exact ⟨rfl, rfl⟩
theorem lists_right {A B : List (List Int)} {r : Nat} : lenL (A ++ B) (A.length + r) = lenL B r ∧ nthL (A ++ B) (A.length + r) = nthL B r := by
  unfold lenL nthL
  rw [getD_right]
  exact ⟨rfl, rfl⟩

set_option maxHeartbeats 1600000 in
theorem l1Longer_any (n : Nat) (hn2 : 2 ≤ n) (hn : n ≤ 5) (f : Nat) : ∀ (B : List Int) (m c : Nat) (a : Option Addr) (w : World), Diff n B → m = B.length → 1 ≤ m → m + f = n → Rd w a m (nth B) →
    Calls Try.prog 60 #[.int .i64 n, .slice a m c] w (RetLL 23 (longer n f B) w) := by
  induction f using Nat.strongRecOn with
  | ind f ih =>
    intro B m c a w hd hm hm1 hf ha
    subst hm
    obtain ⟨ba, oa, rfl, hlt0, hc0⟩ := ha.lt (show 0 < B.length by omega)
    clear hc0
    obtain ⟨i0, hi, hz0, hz1, hz2⟩ := info_parts Try.infoInt
    obtain ⟨i1, hj, hy0, hy1, hy2⟩ := info_parts Try.infoInts
    have IH := Lib.hid ih
    have HD := Lib.hid hd
    have HA := Lib.hid ha
    have HE := Lib.hid (longer_eq hd hf)
    have HLE := Lib.hid (fun k (hk : k ≤ n) => Nat.le_trans (longerTo_le hn (f - 1) k B hk) (Nat.pow_le_pow_right (show 0 < 6 by omega) (show f - 1 + 1 ≤ 5 by omega)))
    have hz : ((B.length : Int) == 0) = false := by simp only [beq_eq_false_iff_ne]; omega
    have M0 := Lib.hid (Making.start 23 w.heap.size (w.alloc (.cells #[] 23)) (.slice (some ⟨w.heap.size, 0, none⟩) 0 0) (fun _ => 0) (fun _ => 0) (lenL [B]) (nthL [B]) (World.ownsRow_made w #[] 0 (Nat.le_refl _) (Nat.zero_le _) (by simp)))
    clear ih hd ha
    by_cases h2 : 2 ≤ B.length
    · have hq : decide (2 ≤ (B.length : Int)) = true := by simp; omega
      have H0 := Lib.hid (show longerTo n (f - 1) B 0 = [B] by rw [longerTo_zero, if_pos h2])
      go_enter Try.func60, Try.ntmps60
      go_wp2_with (first
        | (at_builtin; refine wpList_append_grows _ (by rfl) (.tmp 13) (.tmp 14) 23 (by rfl) 3 i0 (.int .i64 0) 1 8 Try.underlying23 hi hz0 hz1 hz2 (by rfl) (by decide) _ 0 0 [] (by rfl) (fun h => by cases h) (by rfl) (fun _ _ j u h => absurd h (by simp)) ⟨ba, oa, none⟩ B.length c (cellsL B.length (nth B)) (by rfl) ((cellsL_length _ _).trans (Nat.mul_one _).symm) (HA.out.news (by repeat (first | exact Below.refl _ _ | refine Below.drew ?_ | refine below_alloc ?_ _))) (cellsL_one _ _) (by omega) (by unfold maxLen; omega) (by omega) ?_; intro v1 w1 hown1 hgrow1; simp only [Nat.zero_add, List.nil_append] at hown1; obtain ⟨g1, cap1, rfl⟩ := owns_form hown1 (by omega); have hl1 := hown1.lt g1 rfl; have O1 := Lib.hid (OwnR.of_owns hown1); have hb1 := (below_alloc (Below.refl (w.alloc (.cells #[] 23)).heap.size (w.alloc (.cells #[] 23))) (.cells #[] 3)).grown hgrow1 (by simp) (fun k h => by cases h); have M1 := Lib.hid (M0.out.below hb1); have B1 := Lib.hid ((below_alloc (Below.refl w.heap.size w) (.cells #[] 23)).trans (hb1.mono (by simp))); have hs1 := hb1.size; simp at hl1 hs1; clear hown1 hgrow1 hb1)
        | (at_builtin; refine wpList_append_lies _ (by rfl) (.tmp 12) (.tmp 16) 29 (by rfl) w.heap.size 23 i1 (.slice none 0 0) 1 24 Try.underlying29 hj hy0 hy1 hy2 (by rfl) (by decide) (.slice (some ⟨w.heap.size, 0, none⟩) 0 0) 0 [] (by rfl) (M1.out.1.alloc _) ⟨_, 0, none⟩ 1 1 [.slice (some ⟨g1, 0, none⟩) B.length cap1] (by rfl) (by rfl) (news_one (by simp)) (by simp [Value.oneCell']) (by omega) (by unfold maxLen; omega) (by omega) (by simp; omega) _ rfl ?_; intro g2 cap2 w2 hown2 hgrow2 hat2 hlt2; have N2 := Lib.hid hown2; have G2 := Lib.hid hgrow2; have A2 := Lib.hid hat2; clear hown2 hgrow2 hat2))
      have MS := Lib.hid (Making.next (w := w1.alloc _) (L := lenL [B]) (X := nthL [B]) (M1.out.below (below_alloc (Below.refl _ _) _)) (O1.out.of_block (Below.heap_alloc _ _ _ hl1.2)) (by omega) (by simp; omega) (fun h => by simp only [Value.ownBlock, Option.some.injEq] at h; omega) (fun r hr => absurd hr (Nat.not_lt_zero _)) N2.out G2.out A2.out (Nat.le_refl _))
      have BS := Lib.hid ((below_alloc B1.out _).grown G2.out (by simp; omega) (fun x hx => by simp only [Value.ownBlock, Option.some.injEq] at hx; omega))
      clear M0 M1 O1 B1 N2 G2 A2 hq
      go_loopw [5, 6, 7] (fun out s _ wr => ∃ k : Nat, k ≤ n ∧ s = .int .i64 k ∧ ∃ v G Cp, v = out ∧ Making 23 w.heap.size wr v (longerTo n (f - 1) B k).length G Cp (lenL (longerTo n (f - 1) B k)) (nthL (longerTo n (f - 1) B k)) ∧ Below w.heap.size w wr) (fun _ s _ _ => n - (intOf s).toNat)
      case atStart => exact ⟨0, Nat.zero_le _, rfl, _, _, _, rfl, (by rw [H0.out]; exact MS.out), BS.out⟩
      case round =>
        obtain ⟨k, hk, rfl, v, G, Cp, rfl, hM, hB⟩ := hrel
        clear MS BS H0
        by_cases hlt : k < n
        · obtain ⟨N, hN⟩ : ∃ N, N = (longerTo n (f - 1) B k).length := ⟨_, rfl⟩
          have hN6 : N ≤ 7776 := by rw [hN]; exact HLE.out k hk
          rw [← hN] at hM
          have QN := Lib.hid hN
          have HMk := Lib.hid hM
          have HB := Lib.hid hB
          have HV := Lib.hid (fun x hx => hM.1.lt x hx)
          have HAr := Lib.hid (HA.out.below (Nat.le_refl _) hB)
          have hsz := hB.size
          have hbr : ba < wr.heap.size := by omega
          clear hM hB hN
          by_cases hin : (k : Int) ∈ B
          · have TW := Lib.hid (tt_no (show ¬ IsWay n (B.length + 1) (fun j => if j < B.length then nth B j else (k : Int)) from fun h => by
                have h1 := (HD.out.snoc_iff hlt).1 (by unfold Diff; rw [List.length_append]; exact (isDiff_congr fun j hj => snoc_nth hj).2 h.1)
                exact h1 hin))
            have HI := Lib.hid hin
            clear hin
            go_wp2_with (first
              | (at_builtin; refine wpList_append_grows _ (by rfl) (.tmp 23) (.tmp 24) 23 (by rfl) 3 i0 (.int .i64 0) 1 8 Try.underlying23 hi hz0 hz1 hz2 (by rfl) (by decide) _ 0 0 [] (by rfl) (fun h => by cases h) (by rfl) (fun _ _ j u h => absurd h (by simp)) ⟨ba, oa, none⟩ B.length c (cellsL B.length (nth B)) (by rfl) ((cellsL_length _ _).trans (Nat.mul_one _).symm) (HAr.out.news (by repeat (first | exact Below.refl _ _ | refine Below.drew ?_ | refine below_alloc ?_ _))) (cellsL_one _ _) (by omega) (by unfold maxLen; omega) (by omega) ?_; intro v1 w3 hown1 hgrow1; simp only [Nat.zero_add, List.nil_append] at hown1; obtain ⟨g1, cap1, rfl⟩ := owns_form hown1 (by omega); have hl1 := hown1.lt g1 rfl; have HO1 := Lib.hid hown1; have B3 : Hid (Below wr.heap.size wr w3) := Lib.hid ((below_alloc (Below.refl _ _) _).grown hgrow1 (by simp) (fun k h => by cases h)); have hs3 := hgrow1.size; simp at hl1 hs3; clear hown1 hgrow1)
              | (at_builtin; refine wpList_append_lies _ (by rfl) (.tmp 25) (.tmp 27) 23 (by rfl) (wr.alloc (.cells #[] 3)).heap.size 3 i0 (.int .i64 0) 1 8 Try.underlying23 hi hz0 hz1 hz2 (by rfl) (by decide) (.slice (some ⟨g1, 0, none⟩) B.length cap1) B.length (cellsL B.length (nth B)) (by rfl) (HO1.out.alloc _) ⟨_, 0, none⟩ 1 1 [.int .i64 k] (by rfl) (by rfl) (news_one (by simp)) (by simp [Value.oneCell']) (by omega) (by unfold maxLen; omega) (by omega) (by simp; omega) _ rfl ?_; intro g2 cap2 w4 hown2 hgrow2 hat2 hlt2; have B4 : Hid (Below wr.heap.size wr w4) := Lib.hid ((below_alloc B3.out _).grown hgrow2 (by simp; omega) (fun x hx => by simp only [Value.ownBlock, Option.some.injEq] at hx; omega)); rw [cellsL_snoc] at hown2; have RD := Lib.hid (owns_rd hown2); clear hown2 hgrow2 hat2 HO1)
              | (go_at_call 85; refine (l1Different_any n (B.length + 1) _ _ _ _ (by omega) (by omega) RD.out).mono ?_; rintro e w' ⟨rfl, rfl⟩; rw [TW.out]))
            go_roundw
            case rel => exact ⟨k + 1, by omega, by go_num, _, _, _, rfl, (by rw [longerTo_in HI.out, ← QN.out]; exact HMk.out.below B4.out), HB.out.trans (B4.out.mono HB.out.size)⟩
            case measure => simp [intOf]; omega
          · have hnd := (HD.out.snoc_iff hlt).2 hin
            have hle := diff_le hnd
            rw [List.length_append] at hle
            simp only [List.length_cons, List.length_nil] at hle
            have TW := Lib.hid (tt_of (show IsWay n (B.length + 1) (fun j => if j < B.length then nth B j else (k : Int)) from ⟨(isDiff_congr fun j hj => snoc_nth hj).1 (by have h1 := hnd; unfold Diff at h1; rwa [List.length_append] at h1), by omega, by omega⟩))
            have ND := Lib.hid hnd
            have HI := Lib.hid hin
            have hpos := longer_pos (f := f - 1) hn2 hnd (by rw [List.length_append]; simp) (by rw [List.length_append]; simp; omega)
            have hlen := longer_le hn (f - 1) (B ++ [(k : Int)])
            have hlen5 := Nat.pow_le_pow_right (show 0 < 6 by omega) (show f - 1 ≤ 5 by omega)
            obtain ⟨M, hM⟩ : ∃ M, M = (longer n (f - 1) (B ++ [(k : Int)])).length := ⟨_, rfl⟩
            rw [← hM] at hpos hlen
            have hM6 : M ≤ 7776 := Nat.le_trans hlen hlen5
            have QM := Lib.hid hM
            clear hin hnd hM hlen hlen5
            go_wp2_with (first
              | (at_builtin; refine wpList_append_grows _ (by rfl) (.tmp 23) (.tmp 24) 23 (by rfl) 3 i0 (.int .i64 0) 1 8 Try.underlying23 hi hz0 hz1 hz2 (by rfl) (by decide) _ 0 0 [] (by rfl) (fun h => by cases h) (by rfl) (fun _ _ j u h => absurd h (by simp)) ⟨ba, oa, none⟩ B.length c (cellsL B.length (nth B)) (by rfl) ((cellsL_length _ _).trans (Nat.mul_one _).symm) (HAr.out.news (by repeat (first | exact Below.refl _ _ | refine Below.drew ?_ | refine below_alloc ?_ _))) (cellsL_one _ _) (by omega) (by unfold maxLen; omega) (by omega) ?_; intro v1 w3 hown1 hgrow1; simp only [Nat.zero_add, List.nil_append] at hown1; obtain ⟨g1, cap1, rfl⟩ := owns_form hown1 (by omega); have hl1 := hown1.lt g1 rfl; have HO1 := Lib.hid hown1; have B3 : Hid (Below wr.heap.size wr w3) := Lib.hid ((below_alloc (Below.refl _ _) _).grown hgrow1 (by simp) (fun k h => by cases h)); have hs3 := hgrow1.size; simp at hl1 hs3; clear hown1 hgrow1)
              | (at_builtin; refine wpList_append_lies _ (by rfl) (.tmp 25) (.tmp 27) 23 (by rfl) (wr.alloc (.cells #[] 3)).heap.size 3 i0 (.int .i64 0) 1 8 Try.underlying23 hi hz0 hz1 hz2 (by rfl) (by decide) (.slice (some ⟨g1, 0, none⟩) B.length cap1) B.length (cellsL B.length (nth B)) (by rfl) (HO1.out.alloc _) ⟨_, 0, none⟩ 1 1 [.int .i64 k] (by rfl) (by rfl) (news_one (by simp)) (by simp [Value.oneCell']) (by omega) (by unfold maxLen; omega) (by omega) (by simp; omega) _ rfl ?_; intro g2 cap2 w4 hown2 hgrow2 hat2 hlt2; have B4 : Hid (Below wr.heap.size wr w4) := Lib.hid ((below_alloc B3.out _).grown hgrow2 (by simp; omega) (fun x hx => by simp only [Value.ownBlock, Option.some.injEq] at hx; omega)); rw [cellsL_snoc] at hown2; have RD := Lib.hid (owns_rd hown2); clear hown2 hgrow2 hat2 HO1)
              | (go_at_call 85; refine (l1Different_any n (B.length + 1) _ _ _ _ (by omega) (by omega) RD.out).mono ?_; rintro e w' ⟨rfl, rfl⟩; rw [TW.out])
              | (go_at_call 60; refine (IH.out (f - 1) (by omega) (B ++ [(k : Int)]) (B.length + 1) _ _ _ ND.out (by simp) (by omega) (by omega) (RD.out.congr fun j hj => (snoc_nth hj).symm)).mono ?_; rintro e w5 ⟨v', G', Cp', rfl, hM', hB'⟩; rw [← QM.out] at hM'; obtain ⟨g', cap', rfl⟩ := owns_form hM'.1 hpos; have M5 := Lib.hid hM'; have B5 := Lib.hid (B4.out.trans (hB'.mono B4.out.size)); have hs5 := hB'.size; have hs4 := B4.out.size; clear hM' hB')
              | (at_builtin; refine wpList_append_lies _ (by rfl) (.tmp 37) (.tmp 40) 29 (by rfl) w.heap.size 23 i1 (.slice none 0 0) 1 24 Try.underlying29 hj hy0 hy1 hy2 (by rfl) (by decide) v N ((List.range N).map fun r => .slice (some ⟨G r, 0, none⟩) (lenL (longerTo n (f - 1) B k) r) (Cp r)) (by rfl) (HMk.out.below B5.out).1 ⟨g', 0, none⟩ M cap' ((List.range M).map fun r => .slice (some ⟨G' r, 0, none⟩) (lenL (longer n (f - 1) (B ++ [(k : Int)])) r) (Cp' r)) (by rfl) (by simp) (fun j u hu => M5.out.1.cells (g := g') rfl j u hu) (fun u hu => by obtain ⟨r, _, rfl⟩ := List.mem_map.1 hu; rfl) hpos (by unfold maxLen; omega) (by omega) (by omega) _ rfl ?_; intro g6 cap6 w6 hown6 hgrow6 hat6 hlt6; have N6 := Lib.hid hown6; have G6 := Lib.hid hgrow6; have A6 := Lib.hid hat6; clear hown6 hgrow6 hat6))
            go_roundw
            case rel =>
              refine ⟨k + 1, by omega, by go_num, _, (fun r => if r < N then G r else G' (r - N)), (fun r => if r < N then Cp r else Cp' (r - N)), rfl, ?_, (HB.out.trans (B5.out.mono HB.out.size)).grown G6.out (by omega) (fun x hx => (HV.out x hx).1)⟩
              rw [longerTo_new HI.out, List.length_append, ← QN.out, ← QM.out]
              exact Making.join (HMk.out.below B5.out) M5.out (by omega) (fun r hr => by have := (HMk.out.2.1 r hr).2.1; omega) (fun x hx => by have := (HV.out x hx).2; omega) (fun r hr => lists_left (by rw [← QN.out]; exact hr)) (fun r hr => by rw [QN.out]; exact lists_right) N6.out G6.out A6.out (Nat.le_refl _)
            case measure => simp [intOf]; omega
        · obtain rfl : k = n := by omega
          have HMk := Lib.hid hM
          have HB := Lib.hid hB
          clear hM hB
          go_wp2
          go_ret
          exact ⟨v, G, Cp, rfl, (by rw [HE.out]; exact HMk.out), HB.out⟩
    · have hq : decide (2 ≤ (B.length : Int)) = false := by simp; omega
      have H0 := Lib.hid (show longerTo n (f - 1) B 0 = [] by rw [longerTo_zero, if_neg h2])
      go_enter Try.func60, Try.ntmps60
      go_wp2
      have MS := Lib.hid (Making.start 23 w.heap.size (w.alloc (.cells #[] 23)) (.slice (some ⟨w.heap.size, 0, none⟩) 0 0) (fun _ => 0) (fun _ => 0) (lenL []) (nthL []) (World.ownsRow_made w #[] 0 (Nat.le_refl _) (Nat.zero_le _) (by simp)))
      have BS := Lib.hid (below_alloc (Below.refl w.heap.size w) (.cells #[] 23))
      clear M0 hq
      go_loopw [5, 6, 7] (fun out s _ wr => ∃ k : Nat, k ≤ n ∧ s = .int .i64 k ∧ ∃ v G Cp, v = out ∧ Making 23 w.heap.size wr v (longerTo n (f - 1) B k).length G Cp (lenL (longerTo n (f - 1) B k)) (nthL (longerTo n (f - 1) B k)) ∧ Below w.heap.size w wr) (fun _ s _ _ => n - (intOf s).toNat)
      case atStart => exact ⟨0, Nat.zero_le _, rfl, _, _, _, rfl, (by rw [H0.out]; exact MS.out), BS.out⟩
      case round =>
        obtain ⟨k, hk, rfl, v, G, Cp, rfl, hM, hB⟩ := hrel
        clear MS BS H0
        by_cases hlt : k < n
        · obtain ⟨N, hN⟩ : ∃ N, N = (longerTo n (f - 1) B k).length := ⟨_, rfl⟩
          have hN6 : N ≤ 7776 := by rw [hN]; exact HLE.out k hk
          rw [← hN] at hM
          have QN := Lib.hid hN
          have HMk := Lib.hid hM
          have HB := Lib.hid hB
          have HV := Lib.hid (fun x hx => hM.1.lt x hx)
          have HAr := Lib.hid (HA.out.below (Nat.le_refl _) hB)
          have hsz := hB.size
          have hbr : ba < wr.heap.size := by omega
          clear hM hB hN
          by_cases hin : (k : Int) ∈ B
          · have TW := Lib.hid (tt_no (show ¬ IsWay n (B.length + 1) (fun j => if j < B.length then nth B j else (k : Int)) from fun h => by
                have h1 := (HD.out.snoc_iff hlt).1 (by unfold Diff; rw [List.length_append]; exact (isDiff_congr fun j hj => snoc_nth hj).2 h.1)
                exact h1 hin))
            have HI := Lib.hid hin
            clear hin
            go_wp2_with (first
              | (at_builtin; refine wpList_append_grows _ (by rfl) (.tmp 23) (.tmp 24) 23 (by rfl) 3 i0 (.int .i64 0) 1 8 Try.underlying23 hi hz0 hz1 hz2 (by rfl) (by decide) _ 0 0 [] (by rfl) (fun h => by cases h) (by rfl) (fun _ _ j u h => absurd h (by simp)) ⟨ba, oa, none⟩ B.length c (cellsL B.length (nth B)) (by rfl) ((cellsL_length _ _).trans (Nat.mul_one _).symm) (HAr.out.news (by repeat (first | exact Below.refl _ _ | refine Below.drew ?_ | refine below_alloc ?_ _))) (cellsL_one _ _) (by omega) (by unfold maxLen; omega) (by omega) ?_; intro v1 w3 hown1 hgrow1; simp only [Nat.zero_add, List.nil_append] at hown1; obtain ⟨g1, cap1, rfl⟩ := owns_form hown1 (by omega); have hl1 := hown1.lt g1 rfl; have HO1 := Lib.hid hown1; have B3 : Hid (Below wr.heap.size wr w3) := Lib.hid ((below_alloc (Below.refl _ _) _).grown hgrow1 (by simp) (fun k h => by cases h)); have hs3 := hgrow1.size; simp at hl1 hs3; clear hown1 hgrow1)
              | (at_builtin; refine wpList_append_lies _ (by rfl) (.tmp 25) (.tmp 27) 23 (by rfl) (wr.alloc (.cells #[] 3)).heap.size 3 i0 (.int .i64 0) 1 8 Try.underlying23 hi hz0 hz1 hz2 (by rfl) (by decide) (.slice (some ⟨g1, 0, none⟩) B.length cap1) B.length (cellsL B.length (nth B)) (by rfl) (HO1.out.alloc _) ⟨_, 0, none⟩ 1 1 [.int .i64 k] (by rfl) (by rfl) (news_one (by simp)) (by simp [Value.oneCell']) (by omega) (by unfold maxLen; omega) (by omega) (by simp; omega) _ rfl ?_; intro g2 cap2 w4 hown2 hgrow2 hat2 hlt2; have B4 : Hid (Below wr.heap.size wr w4) := Lib.hid ((below_alloc B3.out _).grown hgrow2 (by simp; omega) (fun x hx => by simp only [Value.ownBlock, Option.some.injEq] at hx; omega)); rw [cellsL_snoc] at hown2; have RD := Lib.hid (owns_rd hown2); clear hown2 hgrow2 hat2 HO1)
              | (go_at_call 85; refine (l1Different_any n (B.length + 1) _ _ _ _ (by omega) (by omega) RD.out).mono ?_; rintro e w' ⟨rfl, rfl⟩; rw [TW.out]))
            go_roundw
            case rel => exact ⟨k + 1, by omega, by go_num, _, _, _, rfl, (by rw [longerTo_in HI.out, ← QN.out]; exact HMk.out.below B4.out), HB.out.trans (B4.out.mono HB.out.size)⟩
            case measure => simp [intOf]; omega
          · have hnd := (HD.out.snoc_iff hlt).2 hin
            have hle := diff_le hnd
            rw [List.length_append] at hle
            simp only [List.length_cons, List.length_nil] at hle
            have TW := Lib.hid (tt_of (show IsWay n (B.length + 1) (fun j => if j < B.length then nth B j else (k : Int)) from ⟨(isDiff_congr fun j hj => snoc_nth hj).1 (by have h1 := hnd; unfold Diff at h1; rwa [List.length_append] at h1), by omega, by omega⟩))
            have ND := Lib.hid hnd
            have HI := Lib.hid hin
            have hpos := longer_pos (f := f - 1) hn2 hnd (by rw [List.length_append]; simp) (by rw [List.length_append]; simp; omega)
            have hlen := longer_le hn (f - 1) (B ++ [(k : Int)])
            have hlen5 := Nat.pow_le_pow_right (show 0 < 6 by omega) (show f - 1 ≤ 5 by omega)
            obtain ⟨M, hM⟩ : ∃ M, M = (longer n (f - 1) (B ++ [(k : Int)])).length := ⟨_, rfl⟩
            rw [← hM] at hpos hlen
            have hM6 : M ≤ 7776 := Nat.le_trans hlen hlen5
            have QM := Lib.hid hM
            clear hin hnd hM hlen hlen5
            go_wp2_with (first
              | (at_builtin; refine wpList_append_grows _ (by rfl) (.tmp 23) (.tmp 24) 23 (by rfl) 3 i0 (.int .i64 0) 1 8 Try.underlying23 hi hz0 hz1 hz2 (by rfl) (by decide) _ 0 0 [] (by rfl) (fun h => by cases h) (by rfl) (fun _ _ j u h => absurd h (by simp)) ⟨ba, oa, none⟩ B.length c (cellsL B.length (nth B)) (by rfl) ((cellsL_length _ _).trans (Nat.mul_one _).symm) (HAr.out.news (by repeat (first | exact Below.refl _ _ | refine Below.drew ?_ | refine below_alloc ?_ _))) (cellsL_one _ _) (by omega) (by unfold maxLen; omega) (by omega) ?_; intro v1 w3 hown1 hgrow1; simp only [Nat.zero_add, List.nil_append] at hown1; obtain ⟨g1, cap1, rfl⟩ := owns_form hown1 (by omega); have hl1 := hown1.lt g1 rfl; have HO1 := Lib.hid hown1; have B3 : Hid (Below wr.heap.size wr w3) := Lib.hid ((below_alloc (Below.refl _ _) _).grown hgrow1 (by simp) (fun k h => by cases h)); have hs3 := hgrow1.size; simp at hl1 hs3; clear hown1 hgrow1)
              | (at_builtin; refine wpList_append_lies _ (by rfl) (.tmp 25) (.tmp 27) 23 (by rfl) (wr.alloc (.cells #[] 3)).heap.size 3 i0 (.int .i64 0) 1 8 Try.underlying23 hi hz0 hz1 hz2 (by rfl) (by decide) (.slice (some ⟨g1, 0, none⟩) B.length cap1) B.length (cellsL B.length (nth B)) (by rfl) (HO1.out.alloc _) ⟨_, 0, none⟩ 1 1 [.int .i64 k] (by rfl) (by rfl) (news_one (by simp)) (by simp [Value.oneCell']) (by omega) (by unfold maxLen; omega) (by omega) (by simp; omega) _ rfl ?_; intro g2 cap2 w4 hown2 hgrow2 hat2 hlt2; have B4 : Hid (Below wr.heap.size wr w4) := Lib.hid ((below_alloc B3.out _).grown hgrow2 (by simp; omega) (fun x hx => by simp only [Value.ownBlock, Option.some.injEq] at hx; omega)); rw [cellsL_snoc] at hown2; have RD := Lib.hid (owns_rd hown2); clear hown2 hgrow2 hat2 HO1)
              | (go_at_call 85; refine (l1Different_any n (B.length + 1) _ _ _ _ (by omega) (by omega) RD.out).mono ?_; rintro e w' ⟨rfl, rfl⟩; rw [TW.out])
              | (go_at_call 60; refine (IH.out (f - 1) (by omega) (B ++ [(k : Int)]) (B.length + 1) _ _ _ ND.out (by simp) (by omega) (by omega) (RD.out.congr fun j hj => (snoc_nth hj).symm)).mono ?_; rintro e w5 ⟨v', G', Cp', rfl, hM', hB'⟩; rw [← QM.out] at hM'; obtain ⟨g', cap', rfl⟩ := owns_form hM'.1 hpos; have M5 := Lib.hid hM'; have B5 := Lib.hid (B4.out.trans (hB'.mono B4.out.size)); have hs5 := hB'.size; have hs4 := B4.out.size; clear hM' hB')
              | (at_builtin; refine wpList_append_lies _ (by rfl) (.tmp 37) (.tmp 40) 29 (by rfl) w.heap.size 23 i1 (.slice none 0 0) 1 24 Try.underlying29 hj hy0 hy1 hy2 (by rfl) (by decide) v N ((List.range N).map fun r => .slice (some ⟨G r, 0, none⟩) (lenL (longerTo n (f - 1) B k) r) (Cp r)) (by rfl) (HMk.out.below B5.out).1 ⟨g', 0, none⟩ M cap' ((List.range M).map fun r => .slice (some ⟨G' r, 0, none⟩) (lenL (longer n (f - 1) (B ++ [(k : Int)])) r) (Cp' r)) (by rfl) (by simp) (fun j u hu => M5.out.1.cells (g := g') rfl j u hu) (fun u hu => by obtain ⟨r, _, rfl⟩ := List.mem_map.1 hu; rfl) hpos (by unfold maxLen; omega) (by omega) (by omega) _ rfl ?_; intro g6 cap6 w6 hown6 hgrow6 hat6 hlt6; have N6 := Lib.hid hown6; have G6 := Lib.hid hgrow6; have A6 := Lib.hid hat6; clear hown6 hgrow6 hat6))
            go_roundw
            case rel =>
              refine ⟨k + 1, by omega, by go_num, _, (fun r => if r < N then G r else G' (r - N)), (fun r => if r < N then Cp r else Cp' (r - N)), rfl, ?_, (HB.out.trans (B5.out.mono HB.out.size)).grown G6.out (by omega) (fun x hx => (HV.out x hx).1)⟩
              rw [longerTo_new HI.out, List.length_append, ← QN.out, ← QM.out]
              exact Making.join (HMk.out.below B5.out) M5.out (by omega) (fun r hr => by have := (HMk.out.2.1 r hr).2.1; omega) (fun x hx => by have := (HV.out x hx).2; omega) (fun r hr => lists_left (by rw [← QN.out]; exact hr)) (fun r hr => by rw [QN.out]; exact lists_right) N6.out G6.out A6.out (Nat.le_refl _)
            case measure => simp [intOf]; omega
        · obtain rfl : k = n := by omega
          have HMk := Lib.hid hM
          have HB := Lib.hid hB
          clear hM hB
          go_wp2
          go_ret
          exact ⟨v, G, Cp, rfl, (by rw [HE.out]; exact HMk.out), HB.out⟩
end Go.Proofs.Ytlidobacehbecaa
