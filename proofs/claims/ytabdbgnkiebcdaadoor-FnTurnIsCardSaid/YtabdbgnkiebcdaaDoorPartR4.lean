/- Texts joined: Lists, L1Rounds, FairModel, BackModel, BestModel, HoldModel, WalkModel. -/
import Derived.Test.YtabdbgnkiebcdaaDoorPartR1
import Derived.Test.YtabdbgnkiebcdaaDoorPartR3
import Derived.Test.YtabdbgnkiebcdaaDoorProg
namespace Go.Proofs.YtabdbgnkiebcdaaDoor
set_option linter.unusedVariables false
set_option linter.unusedSimpArgs false
open Go.RowKit

theorem OwnR.set {w : World} {b n : Nat} {X : Nat → Int} (h : OwnR w b (some ⟨b, 0, none⟩) n X) {k : Nat} (hk : k < n) (v : Int) : OwnR (w.setCell ⟨b, k, none⟩ (.int .i64 v)) b (some ⟨b, 0, none⟩) n (fun j => if j = k then v else X j) := by
  rcases h with h0 | ⟨o, ha, hc⟩
  · exact .inl h0
  · simp only [Option.some.injEq, Addr.mk.injEq, true_and, and_true] at ha
    subst ha
    refine .inr ⟨0, rfl, fun j hj => ?_⟩
    have h1 := hc j hj
    rw [Nat.zero_add] at h1 ⊢
    have hck := (hc k hk).1
    rw [Nat.zero_add] at hck
    dsimp only
    by_cases e : j = k
    · subst e
      rw [if_pos rfl]
      exact ⟨World.cell?_setCell_same _ _ _ h1.1, by rw [World.frozen?_setCell]; exact h1.2⟩
    · rw [if_neg e]
      exact ⟨by rw [World.cell?_setCell_other _ _ _ _ (fun e' => e (by injection e' with _ e2; exact e2.symm))]; exact h1.1, by rw [World.frozen?_setCell]; exact h1.2⟩

/-- What a call hands back: a row of its own. -/
def RetI (n : Nat) (X : Nat → Int) (w : World) (e : Ending) (w' : World) : Prop :=
  ∃ g cap, e = .returned (.slice (some ⟨g, 0, none⟩) n cap) ∧ (w.heap.size ≤ g ∧ g < w'.heap.size ∧ n ≤ cap) ∧ OwnR w' g (some ⟨g, 0, none⟩) n X ∧ Below w.heap.size w w'

theorem OwnR.at {w : World} {b n : Nat} {X : Nat → Int} (h : OwnR w b (some ⟨b, 0, none⟩) n X) {k : Nat} (hk : k < n) : w.cell? ⟨b, k, none⟩ = some (.int .i64 (X k)) ∧ w.frozen? ⟨b, k, none⟩ = false := by
  rcases h with h0 | ⟨o, ha, hc⟩
  · omega
  · simp only [Option.some.injEq, Addr.mk.injEq, true_and, and_true] at ha
    subst ha
    have := hc k hk
    rwa [Nat.zero_add] at this
theorem OwnR.congr {w : World} {b n : Nat} {a : Option Addr} {X Y : Nat → Int} (h : OwnR w b a n X) (e : ∀ k, k < n → X k = Y k) : OwnR w b a n Y := by
  rcases h with h0 | ⟨o, ha, hc⟩
  · exact .inl h0
  · exact .inr ⟨o, ha, fun k hk => by rw [← e k hk]; exact hc k hk⟩

/-- The lengths of lists, and their numbers. -/
def lenL (LL : List (List Int)) (r : Nat) : Nat := (LL.getD r []).length
def nthL (LL : List (List Int)) (r k : Nat) : Int := nth (LL.getD r []) k
theorem getD_left {A B : List (List Int)} {r : Nat} (h : r < A.length) : (A ++ B).getD r [] = A.getD r [] := by
  rw [List.getD_eq_getElem?_getD, List.getD_eq_getElem?_getD, List.getElem?_append_left h]
theorem getD_right {A B : List (List Int)} {r : Nat} : (A ++ B).getD (A.length + r) [] = B.getD r [] := by
  rw [List.getD_eq_getElem?_getD, List.getD_eq_getElem?_getD, List.getElem?_append_right (Nat.le_add_right _ _), Nat.add_sub_cancel_left]

/-- Two tables in the making, the rows of the second one put behind those of the first one. -/
theorem Making.join {tS B B' i j : Nat} {w w1 : World} {v v' : Value} {G Cp L G' Cp' L' L3 : Nat → Nat} {X X' X3 : Nat → Nat → Int} {g cap H : Nat} (h : Making tS B w v i G Cp L X) (h' : Making tS B' w v' j G' Cp' L' X')
    (hBB : B ≤ B') (hG : ∀ r, r < i → G r < B') (hv : ∀ k, v.ownBlock = some k → k < B')
    (hL1 : ∀ r, r < i → L3 r = L r ∧ X3 r = X r) (hL2 : ∀ r, r < j → L3 (i + r) = L' r ∧ X3 (i + r) = X' r)
    (hown : w1.ownsRow B tS 1 (.slice (some ⟨g, 0, none⟩) (i + j) cap) (i + j) ((List.range i).map (fun r => Value.slice (some ⟨G r, 0, none⟩) (L r) (Cp r)) ++ (List.range j).map (fun r => Value.slice (some ⟨G' r, 0, none⟩) (L' r) (Cp' r))))
    (hgrow : w.grownBy w1 v.ownBlock) (hat : v.ownBlock = some g ∨ g = H) (hH : w.heap.size ≤ H) :
    Making tS B w1 (.slice (some ⟨g, 0, none⟩) (i + j) cap) (i + j) (fun r => if r < i then G r else G' (r - i)) (fun r => if r < i then Cp r else Cp' (r - i)) L3 X3 := by
  obtain ⟨h1, h2, h3⟩ := h
  obtain ⟨k1, k2, k3⟩ := h'
  have hgne : ∀ x, x < w.heap.size → v.ownBlock ≠ some x → g ≠ x := by
    intro x hx hne e
    rcases hat with h' | h'
    · exact hne (by rw [h', e])
    · omega
  have hvG' : ∀ r, r < j → v.ownBlock ≠ some (G' r) := fun r hr e => by
    have := hv _ e
    have := (k2 r hr).1
    omega
  refine ⟨?_, fun r hr => ?_, fun r s hr hs hrs => ?_⟩
  · have e : (List.range (i + j)).map (fun r => Value.slice (some ⟨if r < i then G r else G' (r - i), 0, none⟩) (L3 r) (if r < i then Cp r else Cp' (r - i))) = (List.range i).map (fun r => Value.slice (some ⟨G r, 0, none⟩) (L r) (Cp r)) ++ (List.range j).map (fun r => Value.slice (some ⟨G' r, 0, none⟩) (L' r) (Cp' r)) := by
      rw [List.range_add, List.map_append, List.map_map]
      congr 1
      · exact List.map_congr_left fun r hr => by
          have hr' := List.mem_range.1 hr
          rw [if_pos hr', if_pos hr', (hL1 r hr').1]
      · exact List.map_congr_left fun r hr => by
          have hr' := List.mem_range.1 hr
          show Value.slice (some ⟨if i + r < i then G (i + r) else G' (i + r - i), 0, none⟩) (L3 (i + r)) (if i + r < i then Cp (i + r) else Cp' (i + r - i)) = _
          rw [if_neg (by omega), if_neg (by omega), Nat.add_sub_cancel_left, (hL2 r hr').1]
    show w1.ownsRow B tS 1 _ (i + j) ((List.range (i + j)).map (fun r => Value.slice (some ⟨if r < i then G r else G' (r - i), 0, none⟩) (L3 r) (if r < i then Cp r else Cp' (r - i))))
    rw [e]
    exact hown
  · show B ≤ (if r < i then G r else G' (r - i)) ∧ (if r < i then G r else G' (r - i)) < w1.heap.size ∧ _ ≠ some (if r < i then G r else G' (r - i)) ∧ OwnR w1 (if r < i then G r else G' (r - i)) (some ⟨if r < i then G r else G' (r - i), 0, none⟩) (L3 r) (X3 r)
    by_cases e : r < i
    · rw [if_pos e, (hL1 r e).1, (hL1 r e).2]
      obtain ⟨m1, m2, m3, m4⟩ := h2 r e
      exact ⟨m1, Nat.lt_of_lt_of_le m2 hgrow.size, fun h => hgne _ m2 m3 (by simpa [Value.ownBlock] using h), m4.of_block (hgrow.block _ m2 (fun h => m3 h.symm))⟩
    · obtain ⟨s, rfl⟩ : ∃ s, r = i + s := ⟨r - i, by omega⟩
      have hs : s < j := by omega
      rw [if_neg e, (hL2 s hs).1, (hL2 s hs).2, Nat.add_sub_cancel_left]
      obtain ⟨m1, m2, m3, m4⟩ := k2 s hs
      exact ⟨by omega, Nat.lt_of_lt_of_le m2 hgrow.size, fun h => hgne _ m2 (hvG' s hs) (by simpa [Value.ownBlock] using h), m4.of_block (hgrow.block _ m2 (fun h => hvG' s hs h.symm))⟩
  · show (if r < i then G r else G' (r - i)) ≠ (if s < i then G s else G' (s - i))
    by_cases e1 : r < i
    · rw [if_pos e1]
      by_cases e2 : s < i
      · rw [if_pos e2]; exact h3 r s e1 e2 hrs
      · rw [if_neg e2]
        have h4 := hG r e1
        have h5 := (k2 (s - i) (by omega)).1
        omega
    · rw [if_neg e1]
      by_cases e2 : s < i
      · rw [if_pos e2]
        have h4 := hG s e2
        have h5 := (k2 (r - i) (by omega)).1
        omega
      · rw [if_neg e2]; exact k3 (r - i) (s - i) (by omega) (by omega) (by omega)

/-- What a call hands back: a table of its own, made by append, that tells a list of lists. -/
def RetLL (tS : Nat) (LL : List (List Int)) (w : World) (e : Ending) (w' : World) : Prop :=
  ∃ v G Cp, e = .returned v ∧ Making tS w.heap.size w' v LL.length G Cp (lenL LL) (nthL LL) ∧ Below w.heap.size w w'

theorem longer_pos {n f : Nat} {B : List Int} (hn : 2 ≤ n) (h : Diff n B) (h1 : 1 ≤ B.length) (hf : B.length + f = n) : 0 < (longer n f B).length := by
  by_cases h2 : 2 ≤ B.length
  · cases f with
    | zero => unfold longer; rw [if_pos h2]; simp
    | succ f => unfold longer; rw [if_pos h2]; simp
  · have hl : B.length = 1 := by omega
    obtain ⟨y, hy, hyB⟩ : ∃ y : Nat, y < n ∧ ¬ (y : Int) ∈ B := by
      match B, hl with
      | [b], _ =>
        by_cases e : b = 0
        · exact ⟨1, by omega, by simp; omega⟩
        · exact ⟨0, by omega, by simp; omega⟩
    obtain ⟨f', rfl⟩ : ∃ f', f = f' + 1 := ⟨f - 1, by omega⟩
    have h3 : 0 < (longer n f' (B ++ [(y : Int)])).length := by
      cases f' with
      | zero => unfold longer; rw [if_pos (by simp; omega)]; simp
      | succ f => unfold longer; rw [if_pos (by simp; omega)]; simp
    obtain ⟨D, hD⟩ := List.exists_mem_of_length_pos h3
    unfold longer
    rw [List.length_append]
    have : D ∈ (List.range n).flatMap fun (x : Nat) => if (x : Int) ∈ B then [] else longer n f' (B ++ [(x : Int)]) := List.mem_flatMap.2 ⟨y, List.mem_range.2 hy, by rw [if_neg hyB]; exact hD⟩
    have := List.length_pos_of_mem this
    omega

theorem isDiff_congr {n m : Nat} {X Y : Nat → Int} (h : ∀ j, j < m → X j = Y j) : IsDiff n m X ↔ IsDiff n m Y := by
  constructor
  · intro hd
    exact ⟨fun i hi => by rw [← h i hi]; exact hd.1 i hi, fun i j h1 h2 => by rw [← h i (by omega), ← h j h2]; exact hd.2 i j h1 h2⟩
  · intro hd
    exact ⟨fun i hi => by rw [h i hi]; exact hd.1 i hi, fun i j h1 h2 => by rw [h i (by omega), h j h2]; exact hd.2 i j h1 h2⟩
theorem snoc_nth {B : List Int} {x : Int} {j : Nat} (h : j < B.length + 1) : nth (B ++ [x]) j = if j < B.length then nth B j else x := by
  by_cases e : j < B.length
  · rw [if_pos e, nth_snoc_lt e]
  · have : j = B.length := by omega
    rw [if_neg e, this, nth_snoc]
theorem Rd.congr {w : World} {a : Option Addr} {n : Nat} {X Y : Nat → Int} (h : Rd w a n X) (e : ∀ k, k < n → X k = Y k) : Rd w a n Y := fun k hk => by
  obtain ⟨b, o, h1, h2⟩ := h k hk
  exact ⟨b, o, h1, by rw [← e k hk]; exact h2⟩
theorem lists_left {A B : List (List Int)} {r : Nat} (h : r < A.length) : lenL (A ++ B) r = lenL A r ∧ nthL (A ++ B) r = nthL A r := by
  unfold lenL nthL
  rw [getD_left h]
  exact ⟨rfl, rfl⟩
theorem lists_right {A B : List (List Int)} {r : Nat} : lenL (A ++ B) (A.length + r) = lenL B r ∧ nthL (A ++ B) (A.length + r) = nthL B r := by
  unfold lenL nthL
  rw [getD_right]
  exact ⟨rfl, rfl⟩

theorem one_nth {j : Nat} {x : Int} (h : j < 1) : x = nth ([] ++ [x]) j := by
  obtain rfl : j = 0 := by omega
  rfl

/-- Does this list gain, as a round? -/
def Gains (n : Nat) (Z : Nat → Nat → Int) (D : List Int) : Prop := IsRing n D.length (nth D) ∧ p12 n < roundV n Z D.length (nth D)
noncomputable def gainTo (n : Nat) (Z : Nat → Nat → Int) (LL : List (List Int)) (k : Nat) : List (List Int) := (LL.take k).filter fun D => tt (Gains n Z D)
/-- All rounds that gain, in order. -/
noncomputable def gaining (n : Nat) (Z : Nat → Nat → Int) : List (List Int) := (longer n n []).filter fun D => tt (Gains n Z D)
section
variable {n k : Nat} {Z : Nat → Nat → Int} {LL : List (List Int)}
theorem take_snoc (h : k < LL.length) : LL.take (k + 1) = LL.take k ++ [LL.getD k []] := by
  rw [List.take_add_one, List.getElem?_eq_getElem h, List.getD_eq_getElem?_getD, List.getElem?_eq_getElem h]
  rfl
theorem gainTo_yes (h : k < LL.length) (hg : Gains n Z (LL.getD k [])) : gainTo n Z LL (k + 1) = gainTo n Z LL k ++ [LL.getD k []] := by
  unfold gainTo
  rw [take_snoc h, List.filter_append, List.filter_cons_of_pos (by rw [tt_of hg]), List.filter_nil]
theorem gainTo_no (h : k < LL.length) (hg : ¬ Gains n Z (LL.getD k [])) : gainTo n Z LL (k + 1) = gainTo n Z LL k := by
  unfold gainTo
  rw [take_snoc h, List.filter_append, List.filter_cons_of_neg (by rw [tt_no hg]; simp), List.filter_nil, List.append_nil]
theorem gainTo_le : (gainTo n Z LL k).length ≤ k := Nat.le_trans (List.length_filter_le _ _) (by rw [List.length_take]; exact Nat.min_le_left _ _)
theorem gainTo_all : gainTo n Z (longer n n []) (longer n n []).length = gaining n Z := by unfold gainTo gaining; rw [List.take_length]
theorem longerAll_pos (hn : 2 ≤ n) : 0 < (longer n n []).length := by
  have hnd := ((Diff.nil n).snoc_iff (x := 0) (by omega)).2 List.not_mem_nil
  have h3 := longer_pos (f := n - 1) hn hnd (by simp) (by simp; omega)
  obtain ⟨D, hD⟩ := List.exists_mem_of_length_pos h3
  rw [longer_eq (Diff.nil n) (by simp)]
  unfold longerTo
  rw [List.length_append]
  have : D ∈ (List.range n).flatMap fun (x : Nat) => if (x : Int) ∈ ([] : List Int) then [] else longer n (n - 1) ([] ++ [(x : Int)]) := List.mem_flatMap.2 ⟨0, List.mem_range.2 (by omega), by rw [if_neg List.not_mem_nil]; exact hD⟩
  have := List.length_pos_of_mem this
  omega
theorem longerAll_at (h : k < (longer n n []).length) : Diff n ((longer n n []).getD k []) ∧ 2 ≤ ((longer n n []).getD k []).length ∧ ((longer n n []).getD k []).length ≤ n := by
  have h1 : (longer n n []).getD k [] ∈ longer n n [] := by
    rw [List.getD_eq_getElem?_getD, List.getElem?_eq_getElem h]
    exact List.getElem_mem h
  have h2 := mem_longer n [] (Diff.nil n) _ h1
  exact ⟨h2.1, h2.2, diff_le h2.1⟩
end
section
variable {tS B i : Nat} {w w1 : World} {v : Value} {G Cp L L' : Nat → Nat} {X X' : Nat → Nat → Int}
theorem Making.congr (h : Making tS B w v i G Cp L X) (e : ∀ r, r < i → L r = L' r ∧ X r = X' r) : Making tS B w v i G Cp L' X' := by
  obtain ⟨h1, h2, h3⟩ := h
  refine ⟨?_, fun r hr => ?_, h3⟩
  · have e1 : (List.range i).map (fun r => Value.slice (some ⟨G r, 0, none⟩) (L r) (Cp r)) = (List.range i).map (fun r => Value.slice (some ⟨G r, 0, none⟩) (L' r) (Cp r)) := List.map_congr_left fun r hr => by rw [(e r (List.mem_range.1 hr)).1]
    rw [← e1]; exact h1
  · rw [← (e r hr).1, ← (e r hr).2]; exact h2 r hr
theorem Making.grown {row : Option Nat} (h : Making tS B w v i G Cp L X) (hg : w.grownBy w1 row) (hv : ∀ k, v.ownBlock = some k → row ≠ some k) (hG : ∀ r, r < i → row ≠ some (G r)) : Making tS B w1 v i G Cp L X := by
  obtain ⟨h1, h2, h3⟩ := h
  refine ⟨?_, fun r hr => ?_, h3⟩
  · obtain ⟨k1, (k2 | ⟨g, cap, cur, k3, k4, k5, k6⟩)⟩ := h1
    · exact ⟨k1, .inl k2⟩
    · refine ⟨k1, .inr ⟨g, cap, cur, k3, k4, (hg.block g (Array.getElem?_eq_some_iff.1 k5).1 (fun e => hv g (by rw [k3]; rfl) e.symm)).trans k5, k6⟩⟩
  · obtain ⟨m1, m2, m3, m4⟩ := h2 r hr
    exact ⟨m1, Nat.lt_of_lt_of_le m2 hg.size, m3, m4.of_block (hg.block _ m2 (fun e => hG r hr e.symm))⟩
end

theorem lists_snoc {A : List (List Int)} {x : List Int} : lenL (A ++ [x]) A.length = x.length ∧ nthL (A ++ [x]) A.length = nth x := by
  exact lists_right (A := A) (B := [x]) (r := 0)
theorem Making.snoc {tS B : Nat} {w : World} {v : Value} {G Cp : Nat → Nat} {A : List (List Int)} (x : List Int) (h : Making tS B w v A.length G Cp (lenL A) (nthL A)) : Making tS B w v A.length G Cp (lenL (A ++ [x])) (nthL (A ++ [x])) :=
  h.congr fun r hr => ⟨(lists_left hr).1.symm, (lists_left hr).2.symm⟩
/-- Where its blocks are as they were, such a table is. -/
theorem Making.of_blocks {tS B i : Nat} {w w' : World} {v : Value} {G Cp L : Nat → Nat} {X : Nat → Nat → Int} (h : Making tS B w v i G Cp L X) (hs : w.heap.size ≤ w'.heap.size) (e : ∀ k, (v.ownBlock = some k ∨ ∃ r, r < i ∧ G r = k) → w'.heap[k]? = w.heap[k]?) : Making tS B w' v i G Cp L X := by
  obtain ⟨h1, h2, h3⟩ := h
  refine ⟨?_, fun r hr => ⟨(h2 r hr).1, Nat.lt_of_lt_of_le (h2 r hr).2.1 hs, (h2 r hr).2.2.1, (h2 r hr).2.2.2.of_block (e _ (.inr ⟨r, hr, rfl⟩))⟩, h3⟩
  obtain ⟨k1, (k2 | ⟨g, cap, cur, k3, k4, k5, k6⟩)⟩ := h1
  · exact ⟨k1, .inl k2⟩
  · exact ⟨k1, .inr ⟨g, cap, cur, k3, k4, (e g (.inl (by rw [k3]; rfl))).trans k5, k6⟩⟩
/-- A table made by append, as what a call hands back. -/
theorem Making.own {tS B i : Nat} {w : World} {v : Value} {G Cp L : Nat → Nat} {X : Nat → Nat → Int} (h : Making tS B w v i G Cp L X) (h0 : 0 < i) : ∃ g cap, v = .slice (some ⟨g, 0, none⟩) i cap ∧ OwnT w B w.heap.size (some ⟨g, 0, none⟩) i (fun r => some ⟨G r, 0, none⟩) L Cp X := by
  obtain ⟨g, cap, rfl⟩ := owns_form h.1 h0
  exact ⟨g, cap, rfl, h.ownT⟩
/-- .. or nothing. -/
theorem Making.slice {tS B i : Nat} {w : World} {v : Value} {G Cp L : Nat → Nat} {X : Nat → Nat → Int} (h : Making tS B w v i G Cp L X) : ∃ a c, v = .slice a i c ∧ OwnT w B w.heap.size a i (fun r => some ⟨G r, 0, none⟩) L Cp X := by
  by_cases h0 : 0 < i
  · obtain ⟨g, cap, e, o⟩ := h.own h0
    exact ⟨_, _, e, o⟩
  · obtain rfl : i = 0 := by omega
    obtain ⟨_, (⟨e, _⟩ | ⟨g, cap, cur, e, _⟩)⟩ := h.1
    · exact ⟨_, _, e, .inl rfl⟩
    · exact ⟨_, _, e, .inl rfl⟩
end Go.Proofs.YtabdbgnkiebcdaaDoor

namespace Go.Proofs.YtabdbgnkiebcdaaDoor
set_option linter.unusedVariables false

section
open Go.RowKit
set_option maxHeartbeats 800000 in
theorem l1Different_any (n m c : Nat) (a : Option Addr) (X : Nat → Int) (w : World) (hn : n ≤ 61) (hm : m ≤ 1048576) (ha : Rd w a m X) :
    Calls Tryd.prog 90 #[.int .i64 n, .slice a m c] w fun e w' => e = .returned (.bool (tt (IsWay n m X))) ∧ w = w' := by
  go_enter Tryd.func90, Tryd.ntmps90
  go_wp2
  go_loop [4, 5, 6] (fun r s i => ∃ k : Nat, k ≤ m ∧ i = .int .i64 k ∧ r = .bool false ∧ ∃ S : Nat, S < 2 ^ n ∧ s = .int .i64 S ∧ SetOf S k X ∧ IsDiff n k X) (fun _ _ i => m - (intOf i).toNat)
  case atStart => exact ⟨0, Nat.zero_le _, rfl, rfl, 0, Nat.two_pow_pos n, rfl, SetOf.nil X, IsDiff.nil n X⟩
  case round =>
    obtain ⟨k, hk, rfl, rfl, S, hS, rfl, hset, hdiff⟩ := hrel
    have HS := Lib.hid hS
    have H1 := Lib.hid hset
    have H2 := Lib.hid hdiff
    clear hS hset hdiff
    by_cases hlt : k < m
    · obtain ⟨ba, oa, rfl, hca⟩ := ha k hlt
      clear ha
      by_cases hin : InR (X k) 0 (n - 1)
      · have B1 := Lib.hid (tt_of hin)
        unfold InR at hin
        obtain ⟨x, hx⟩ := Int.eq_ofNat_of_zero_le hin.1
        have hxn : x < n := by omega
        clear hin
        rw [hx] at hca B1
        have hx62 : x < 62 := by omega
        have hS62 : S < 2 ^ 62 := Nat.lt_trans HS.out (two_pow_lt (by omega))
        have HX := Lib.hid hx
        have hhas := bit_has S x hS62
        clear hx
        by_cases hb : S.testBit x = true
        · rw [hb] at hhas
          have hno := Lib.hid (not_diff_twice (n := n) H1.out hlt HX.out hb)
          clear hb hS62 hx62
          go_wp2_with (go_at_call 70; refine (l6In_any _ _ _ _).mono ?_; rintro e w' ⟨rfl, rfl⟩; rw [B1.out])
          go_ret
          exact ⟨by rw [tt_no (fun h => hno.out h.1)]; rfl, rfl⟩
        · have hb' : S.testBit x = false := by simpa using hb
          rw [hb'] at hhas
          obtain ⟨S', hS'⟩ : ∃ S', S' = S ||| 2 ^ x := ⟨_, rfl⟩
          have hput := bit_put S x hS62 hx62
          rw [← hS'] at hput
          have HS' := Lib.hid hS'
          have HB := Lib.hid hb'
          clear hb hb' hS' hS62 hx62
          go_wp2_with (go_at_call 70; refine (l6In_any _ _ _ _).mono ?_; rintro e w' ⟨rfl, rfl⟩; rw [B1.out])
          go_round
          case rel => exact ⟨k + 1, by omega, by go_num, rfl, S', by rw [HS'.out]; exact bit_put_lt HS.out hxn, rfl, by rw [HS'.out]; exact H1.out.put HX.out, H2.out.snoc H1.out HX.out hxn HB.out⟩
          case measure => simp [intOf]; omega
      · have B1 := Lib.hid (tt_no hin)
        have hno := Lib.hid (not_diff_range (n := n) (X := X) hlt (by unfold InR at hin; omega))
        clear hin
        go_wp2_with (go_at_call 70; refine (l6In_any _ _ _ _).mono ?_; rintro e w' ⟨rfl, rfl⟩; rw [B1.out])
        go_ret
        exact ⟨by rw [tt_no (fun h => hno.out h.1)]; rfl, rfl⟩
    · obtain rfl : k = m := by omega
      clear ha
      go_wp2_with fail
      refine (l6In_any _ _ _ _).mono ?_
      rintro e w' ⟨rfl, rfl⟩
      go_wp2
      go_ret
      exact ⟨ret_bool (tt_congr (by
        unfold IsWay InR
        constructor
        · intro h; exact ⟨H2.out, by omega, by omega⟩
        · intro h; omega)), rfl⟩
end

section
open Go.RowKit
set_option maxHeartbeats 400000 in
theorem l1Power_any (n : Int) (w : World) (hn : n ≤ 10) (h0 : -1000000000 ≤ n) :
    Calls Tryd.prog 49 #[.int .i64 n] w fun e w' => e = .returned (.int .i64 (p12 n.toNat)) ∧ w = w' := by
  go_enter Tryd.func49, Tryd.ntmps49
  go_wp2
  go_loop [3, 4] (fun p i => ∃ k : Nat, k ≤ n.toNat ∧ i = .int .i64 k ∧ p = .int .i64 (p12 k)) (fun _ i => n.toNat - (intOf i).toNat)
  case atStart => exact ⟨0, Nat.zero_le _, rfl, rfl⟩
  case round =>
    obtain ⟨k, hk, rfl, rfl⟩ := hrel
    obtain ⟨hp1, hp2⟩ := p12_le k (by omega)
    by_cases hlt : (k : Int) < n
    · go_wp2
      go_round
      case rel => exact ⟨k + 1, by omega, by go_num, rfl⟩
      case measure => simp [intOf]; omega
    · have hkn := Lib.hid (show k = n.toNat by omega)
      go_wp2
      go_ret
      exact ⟨by rw [← hkn.out]; rfl, rfl⟩
end

section
open Go.RowKit
set_option maxHeartbeats 800000 in
theorem l1Value_any (n c m d : Nat) (a b : Option Addr) (A : Nat → Option Addr) (L C : Nat → Nat) (Z : Nat → Nat → Int) (W : Nat → Int) (steps : Int) (w : World) (hr : IsRates n L Z) (ha : Tab w a n A L C Z) (hb : Rd w b m W)
    (hm1 : 1 ≤ m) (hm2 : m ≤ 6) (hs1 : steps - m + 1 ≤ 6) (hs0 : 0 ≤ steps) (hW : ∀ i, i < m → 0 ≤ W i ∧ W i < n) :
    Calls Tryd.prog 47 #[.slice a n c, .slice b m d, .int .i64 steps] w fun e w' => e = .returned (.int .i64 (valF Z W (p12 (steps - m + 1).toNat) (m - 1))) ∧ ∃ q, w' = w.drewN q := by
  have hn5 := hr.1.2
  have hv := p12_small (steps - m + 1).toNat (by omega)
  have hZ : ∀ i k, i < n → k < n → 0 ≤ Z i k ∧ Z i k ≤ 144 := fun i k hi hk => by have := ((hr.2 i hi).2 k hk).1; omega
  have hZ' : ∀ j, j + 1 < m → 0 ≤ Z (W j).toNat (W (j + 1)).toNat ∧ Z (W j).toNat (W (j + 1)).toNat ≤ 144 := fun j hj => by
    have h1 := hW j (by omega)
    have h2 := hW (j + 1) hj
    exact hZ _ _ (by omega) (by omega)
  obtain ⟨v0, hv0⟩ : ∃ v0, v0 = p12 (steps - m + 1).toNat := ⟨_, rfl⟩
  rw [← hv0] at hv ⊢
  have V0 := Lib.hid hv0
  have V1 := Lib.hid hZ'
  have V2 := Lib.hid hr
  have V3 := Lib.hid ha
  have V4 := Lib.hid hb
  have V5 := Lib.hid hW
  clear hv0 hZ hZ' hr ha hb hW
  go_enter Tryd.func47, Tryd.ntmps47
  go_wp2_with fail
  refine (l1Power_any _ _ (by omega) (by omega)).mono ?_
  rintro e w' ⟨rfl, rfl⟩
  rw [← V0.out]
  go_wp2
  go_loopw [7, 8] (fun v i wr => ∃ k : Nat, k + 1 ≤ m ∧ i = .int .i64 ((k : Int) + 1) ∧ v = .int .i64 (valF Z W v0 k) ∧ ∃ q, wr = w.drewN q) (fun _ i _ => m - (intOf i).toNat)
  case atStart => exact ⟨0, by omega, rfl, rfl, 0, rfl⟩
  case round =>
    obtain ⟨k, hk, rfl, rfl, q, rfl⟩ := hrel
    obtain ⟨hb1, hb2⟩ := valF_bound (Z := Z) (W := W) k (by omega) hv (fun j hj => V1.out j (by omega))
    by_cases hlt : k + 1 < m
    · obtain ⟨hb3, hb4⟩ := valF_bound (Z := Z) (W := W) (k + 1) (by omega) hv (fun j hj => V1.out j (by omega))
      have hstep : valF Z W v0 (k + 1) = valF Z W v0 k * Z (W k).toNat (W (k + 1)).toNat := rfl
      obtain ⟨bb, ob, rfl, hcb1⟩ := V4.out k (by omega)
      obtain ⟨bb', ob', hbe, hcb2⟩ := V4.out (k + 1) hlt
      obtain ⟨rfl, rfl⟩ : bb' = bb ∧ ob' = ob := by simpa using hbe.symm
      obtain ⟨hx1, hx2⟩ := V5.out k (by omega)
      obtain ⟨hy1, hy2⟩ := V5.out (k + 1) hlt
      obtain ⟨x, hx⟩ := Int.eq_ofNat_of_zero_le hx1
      obtain ⟨y, hy⟩ := Int.eq_ofNat_of_zero_le hy1
      rw [hx] at hx2 hcb1
      rw [hy] at hy2 hcb2
      rw [hx, hy, Int.toNat_natCast, Int.toNat_natCast] at hstep
      have hxn : x < n := by omega
      have hyn : y < n := by omega
      obtain ⟨ba, oa, rfl, hca, hra⟩ := V3.out x hxn
      have hLx := (V2.out.2 x hxn).1
      have hLy : y < L x := by omega
      obtain ⟨bc, oc, hA, hcc⟩ := hra y (by omega)
      rw [hA] at hca
      have hmul : wrap64 (valF Z W v0 k * Z x y) = valF Z W v0 (k + 1) := by rw [← hstep]; exact IntWalk.wrap64_in _ ⟨by omega, by omega⟩
      have e1 : IntKind.i64.wrap ((k : Int) + 1 - 1) = (k : Int) := by rw [show (k : Int) + 1 - 1 = (k : Int) from by omega]; exact IntWalk.i64_in _ (by omega)
      have hd1 : decide ((k : Int) + 1 < m) = true := by simp; omega
      have hi1 : (0 : Int) ≤ (k : Int) + 1 := by omega
      have hi2 : (k : Int) < m := by omega
      have hi3 : (k : Int) + 1 < m := by omega
      have hi4 : (x : Int) < n := by omega
      have hi5 : (y : Int) < (L x : Int) := by omega
      have hi6 : ((k : Int) + 1).toNat = k + 1 := by omega
      have E := Lib.hid hmul
      clear hx hy hx1 hy1 hbe hA hra hstep hLx hmul
      go_wp2
      go_quiet (fail)
      go_wp2
      go_roundw
      case rel => exact ⟨k + 1, by omega, by go_num, by rw [E.out], q + nq, rfl⟩
      case measure => simp [intOf]; omega
    · obtain rfl : k + 1 = m := by omega
      go_wp2
      go_ret
      exact ⟨ret_int rfl, q, rfl⟩
end

section
open Go.RowKit
set_option maxHeartbeats 800000 in
theorem l1Ring_any (n m c : Nat) (a : Option Addr) (X : Nat → Int) (w : World) (hn : n ≤ 61) (hm : m ≤ 1048576) (ha : Rd w a m X) :
    Calls Tryd.prog 46 #[.int .i64 n, .slice a m c] w fun e w' => e = .returned (.bool (tt (IsRing n m X))) ∧ ∃ q, w' = w.drewN q := by
  have HA := Lib.hid ha
  go_enter Tryd.func46, Tryd.ntmps46
  go_wp2
  go_loopw [4, 5] (fun r i wr => ∃ k : Nat, i = .int .i64 ((k : Int) + 1) ∧ (k = 0 ∨ k + 1 ≤ m) ∧ r = .bool false ∧ (∀ j, 1 ≤ j → j < k + 1 → X 0 < X j) ∧ ∃ q, wr = w.drewN q) (fun _ i _ => m + 1 - (intOf i).toNat)
  case atStart => exact ⟨0, rfl, .inl rfl, rfl, fun j h1 h2 => absurd h1 (by omega), 0, rfl⟩
  case round =>
    obtain ⟨k, rfl, hk, rfl, hs, q, rfl⟩ := hrel
    have H1 := Lib.hid hs
    clear hs
    by_cases hlt : k + 1 < m
    · obtain ⟨ba, oa, rfl, hc0⟩ := ha 0 (by omega)
      obtain ⟨bb, ob, he, hc1⟩ := ha (k + 1) hlt
      obtain ⟨rfl, rfl⟩ : bb = ba ∧ ob = oa := by simpa using he.symm
      rw [Nat.add_zero] at hc0
      have hd1 : decide ((k : Int) + 1 < m) = true := by simp; omega
      have hi1 : (0 : Int) ≤ (k : Int) + 1 := by omega
      have hi2 : (k : Int) + 1 < m := by omega
      have hi3 : ((k : Int) + 1).toNat = k + 1 := by omega
      have hi4 : 0 < m := by omega
      clear he ha hk
      go_wp2
      go_quiet (fail)
      by_cases hle : X (k + 1) ≤ X 0
      · have hd2 : decide (X (k + 1) ≤ X 0) = true := by simpa using hle
        have Hno := Lib.hid (tt_no (show ¬ IsRing n m X from fun h => by have := h.2 (k + 1) (by omega) hlt; omega))
        go_wp2
        go_ret
        exact ⟨by rw [Hno.out]; rfl, q + nq, by rw [World.drewN_drewN]⟩
      · have hd2 : decide (X (k + 1) ≤ X 0) = false := by simpa using hle
        go_wp2
        go_roundw
        case rel => exact ⟨k + 1, by go_num, .inr (by omega), rfl, fun j h1 h2 => by
          by_cases e : j = k + 1
          · subst e; omega
          · exact H1.out j h1 (by omega), q + nq, rfl⟩
        case measure => simp [intOf]; omega
    · have hd1 : decide ((k : Int) + 1 < m) = false := by simp; omega
      have Hyes := Lib.hid (tt_congr (show IsRing n m X ↔ IsWay n m X from ⟨fun h => h.1, fun h => ⟨h, fun i h1 h2 => H1.out i h1 (by have := h.2; omega)⟩⟩))
      clear ha
      go_wp2_with fail
      refine (l1Different_any n m c a X _ hn hm (HA.out.drewN _)).mono ?_
      rintro e w' ⟨rfl, rfl⟩
      go_wp2
      go_ret
      exact ⟨by rw [Hyes.out]; rfl, q, rfl⟩
end

section
open Go.RowKit
set_option maxHeartbeats 1000000 in
theorem l1Closed_any (m c : Nat) (a : Option Addr) (X : Nat → Int) (w : World) (hm1 : 1 ≤ m) (hm : m ≤ 1000) (ha : Rd w a m X) :
    Calls Tryd.prog 48 #[.slice a m c] w (RetList 3 (m + 1) (fun k => if k < m then X k else X 0) w) := by
  obtain ⟨ba, oa, rfl, hlt, hc0⟩ := ha.lt (show 0 < m by omega)
  have hi0 : (0 : Int) < m := by omega
  have hi1 : 0 < m := by omega
  obtain ⟨i0, hi, hz0, hz1, hz2⟩ := info_parts Tryd.infoInt
  have HA := Lib.hid ha
  clear ha
  rw [Nat.add_zero] at hc0
  go_enter Tryd.func48, Tryd.ntmps48
  go_wp2
  have tk : True := trivial
  go_region_held3 (fun W => W.cell? ⟨ba, oa, none⟩ = some (.int .i64 (X 0)) ∧ Below w.heap.size w W)
    (first | exact keep_drew ⟨hc0, Below.refl _ _⟩ | exact keep_drew (by assumption) | exact keep_alloc (by assumption) _ | exact keep_grown (by assumption) hlt hgrow2 hrow1 | exact keep_grown (by assumption) hlt hgrow1 (fun k h => by cases h))
    ((first
      | (have _t := tk; refine step_append_grows (by rfl) (.tmp 3) (.tmp 4) 32 (by rfl) 3 i0 (.int .i64 0) 1 8 Tryd.underlying32 hi hz0 hz1 hz2 (by rfl) (by decide) _ 0 0 [] (by rfl) (fun h => by cases h) (by rfl) (fun _ _ j u h => absurd h (by simp)) ⟨ba, oa, none⟩ m c (cellsL m X) (by rfl) ((cellsL_length m X).trans (Nat.mul_one m).symm) (HA.out.news (by repeat (first | exact Below.refl _ _ | refine Below.drew ?_ | refine below_alloc ?_ _))) (cellsL_one m X) (by omega) (by unfold maxLen; omega) (by omega) ?_; clear tk; intro v1 w1 hown0 hgrow1; simp only [Nat.zero_add, List.nil_append] at hown0; have hown1 := owns_base (base' := w.heap.size) hown0 (by simp <;> omega); have hrow1 : ∀ k, v1.ownBlock = some k → w.heap.size ≤ k := fun k hk => (hown1.lt k hk).1; clear hown0)
      | (refine step_append_lies _ (by rfl) (.tmp 5) (.tmp 9) 32 (by rfl) w.heap.size 3 i0 (.int .i64 0) 1 8 Tryd.underlying32 hi hz0 hz1 hz2 (by rfl) (by decide) v1 m (cellsL m X) (by rfl) (by first | exact hown1 | exact hown1.alloc _) ⟨_, 0, none⟩ 1 1 [.int .i64 (X 0)] (by rfl) (by rfl) (news_one (by first | (simp; done) | exact hgrow1.cell (by simp) (fun e => by cases e))) (by simp [Value.oneCell']) (by omega) (by unfold maxLen; omega) (by omega) (by have h1 := hgrow1.size; simp at h1 ⊢; omega) _ rfl ?_; intro g2 cap2 w2 hown2 hgrow2 hat2 hlt2)))
  all_goals
    have hB := (show w2.cell? ⟨ba, oa, none⟩ = some (.int .i64 (X 0)) ∧ Below w.heap.size w w2 from by assumption).2
    rw [cellsL_snoc] at hown2
    have HO := Lib.hid hown2
    have HB := Lib.hid hB
    clear hown2 hB hown1 hgrow1 hgrow2 hat2 hrow1
    go_wp2
    go_ret
    exact ⟨g2, cap2, rfl, HO.out, HB.out⟩
end

section
open Go.RowKit
set_option maxHeartbeats 1600000 in
theorem l1Longer_any (n : Nat) (hn2 : 2 ≤ n) (hn : n ≤ 5) (f : Nat) : ∀ (B : List Int) (m c : Nat) (a : Option Addr) (w : World), Diff n B → m = B.length → 1 ≤ m → m + f = n → Rd w a m (nth B) →
    Calls Tryd.prog 76 #[.int .i64 n, .slice a m c] w (RetLL 32 (longer n f B) w) := by
  induction f using Nat.strongRecOn with
  | ind f ih =>
    intro B m c a w hd hm hm1 hf ha
    subst hm
    obtain ⟨ba, oa, rfl, hlt0, hc0⟩ := ha.lt (show 0 < B.length by omega)
    clear hc0
    obtain ⟨i0, hi, hz0, hz1, hz2⟩ := info_parts Tryd.infoInt
    obtain ⟨i1, hj, hy0, hy1, hy2⟩ := info_parts Tryd.infoInts
    have IH := Lib.hid ih
    have HD := Lib.hid hd
    have HA := Lib.hid ha
    have HE := Lib.hid (longer_eq hd hf)
    have HLE := Lib.hid (fun k (hk : k ≤ n) => Nat.le_trans (longerTo_le hn (f - 1) k B hk) (Nat.pow_le_pow_right (show 0 < 6 by omega) (show f - 1 + 1 ≤ 5 by omega)))
    have hz : ((B.length : Int) == 0) = false := by simp only [beq_eq_false_iff_ne]; omega
    have M0 := Lib.hid (Making.start 32 w.heap.size (w.alloc (.cells #[] 32)) (.slice (some ⟨w.heap.size, 0, none⟩) 0 0) (fun _ => 0) (fun _ => 0) (lenL [B]) (nthL [B]) (World.ownsRow_made w #[] 0 (Nat.le_refl _) (Nat.zero_le _) (by simp)))
    clear ih hd ha
    by_cases h2 : 2 ≤ B.length
    · have hq : decide (2 ≤ (B.length : Int)) = true := by simp; omega
      have H0 := Lib.hid (show longerTo n (f - 1) B 0 = [B] by rw [longerTo_zero, if_pos h2])
      go_enter Tryd.func76, Tryd.ntmps76
      go_wp2_with (first
        | (at_builtin; refine wpList_append_grows _ (by rfl) (.tmp 13) (.tmp 14) 32 (by rfl) 3 i0 (.int .i64 0) 1 8 Tryd.underlying32 hi hz0 hz1 hz2 (by rfl) (by decide) _ 0 0 [] (by rfl) (fun h => by cases h) (by rfl) (fun _ _ j u h => absurd h (by simp)) ⟨ba, oa, none⟩ B.length c (cellsL B.length (nth B)) (by rfl) ((cellsL_length _ _).trans (Nat.mul_one _).symm) (HA.out.news (by repeat (first | exact Below.refl _ _ | refine Below.drew ?_ | refine below_alloc ?_ _))) (cellsL_one _ _) (by omega) (by unfold maxLen; omega) (by omega) ?_; intro v1 w1 hown1 hgrow1; simp only [Nat.zero_add, List.nil_append] at hown1; obtain ⟨g1, cap1, rfl⟩ := owns_form hown1 (by omega); have hl1 := hown1.lt g1 rfl; have O1 := Lib.hid (OwnR.of_owns hown1); have hb1 := (below_alloc (Below.refl (w.alloc (.cells #[] 32)).heap.size (w.alloc (.cells #[] 32))) (.cells #[] 3)).grown hgrow1 (by simp) (fun k h => by cases h); have M1 := Lib.hid (M0.out.below hb1); have B1 := Lib.hid ((below_alloc (Below.refl w.heap.size w) (.cells #[] 32)).trans (hb1.mono (by simp))); have hs1 := hb1.size; simp at hl1 hs1; clear hown1 hgrow1 hb1)
        | (at_builtin; refine wpList_append_lies _ (by rfl) (.tmp 12) (.tmp 16) 22 (by rfl) w.heap.size 32 i1 (.slice none 0 0) 1 24 Tryd.underlying22 hj hy0 hy1 hy2 (by rfl) (by decide) (.slice (some ⟨w.heap.size, 0, none⟩) 0 0) 0 [] (by rfl) (M1.out.1.alloc _) ⟨_, 0, none⟩ 1 1 [.slice (some ⟨g1, 0, none⟩) B.length cap1] (by rfl) (by rfl) (news_one (by simp)) (by simp [Value.oneCell']) (by omega) (by unfold maxLen; omega) (by omega) (by simp; omega) _ rfl ?_; intro g2 cap2 w2 hown2 hgrow2 hat2 hlt2; have N2 := Lib.hid hown2; have G2 := Lib.hid hgrow2; have A2 := Lib.hid hat2; clear hown2 hgrow2 hat2))
      have MS := Lib.hid (Making.next (w := w1.alloc _) (L := lenL [B]) (X := nthL [B]) (M1.out.below (below_alloc (Below.refl _ _) _)) (O1.out.of_block (Below.heap_alloc _ _ _ hl1.2)) (by omega) (by simp; omega) (fun h => by simp only [Value.ownBlock, Option.some.injEq] at h; omega) (fun r hr => absurd hr (Nat.not_lt_zero _)) N2.out G2.out A2.out (Nat.le_refl _))
      have BS := Lib.hid ((below_alloc B1.out _).grown G2.out (by simp; omega) (fun x hx => by simp only [Value.ownBlock, Option.some.injEq] at hx; omega))
      clear M0 M1 O1 B1 N2 G2 A2 hq
      go_loopw [5, 6, 7] (fun out s _ wr => ∃ k : Nat, k ≤ n ∧ s = .int .i64 k ∧ ∃ v G Cp, v = out ∧ Making 32 w.heap.size wr v (longerTo n (f - 1) B k).length G Cp (lenL (longerTo n (f - 1) B k)) (nthL (longerTo n (f - 1) B k)) ∧ Below w.heap.size w wr) (fun _ s _ _ => n - (intOf s).toNat)
      case atStart => exact ⟨0, Nat.zero_le _, rfl, _, _, _, rfl, (by rw [H0.out]; exact MS.out), BS.out⟩
      case round =>
        obtain ⟨k, hk, rfl, v, G, Cp, rfl, hM, hB⟩ := hrel
        clear MS BS H0
        by_cases hlt : k < n
        · obtain ⟨N, hN⟩ : ∃ N, N = (longerTo n (f - 1) B k).length := ⟨_, rfl⟩
          have hN6 : N ≤ 7776 := by rw [hN]; exact HLE.out k hk
          rw [← hN] at hM
          have QN := Lib.hid hN
          have HMk := Lib.hid hM
          have HB := Lib.hid hB
          have HV := Lib.hid (fun x hx => hM.1.lt x hx)
          have HAr := Lib.hid (HA.out.below (Nat.le_refl _) hB)
          have hsz := hB.size
          have hbr : ba < wr.heap.size := by omega
          clear hM hB hN
          by_cases hin : (k : Int) ∈ B
          · have TW := Lib.hid (tt_no (show ¬ IsWay n (B.length + 1) (fun j => if j < B.length then nth B j else (k : Int)) from fun h => by
                have h1 := (HD.out.snoc_iff hlt).1 (by unfold Diff; rw [List.length_append]; exact (isDiff_congr fun j hj => snoc_nth hj).2 h.1)
                exact h1 hin))
            have HI := Lib.hid hin
            clear hin
            go_wp2_with (first
              | (at_builtin; refine wpList_append_grows _ (by rfl) (.tmp 23) (.tmp 24) 32 (by rfl) 3 i0 (.int .i64 0) 1 8 Tryd.underlying32 hi hz0 hz1 hz2 (by rfl) (by decide) _ 0 0 [] (by rfl) (fun h => by cases h) (by rfl) (fun _ _ j u h => absurd h (by simp)) ⟨ba, oa, none⟩ B.length c (cellsL B.length (nth B)) (by rfl) ((cellsL_length _ _).trans (Nat.mul_one _).symm) (HAr.out.news (by repeat (first | exact Below.refl _ _ | refine Below.drew ?_ | refine below_alloc ?_ _))) (cellsL_one _ _) (by omega) (by unfold maxLen; omega) (by omega) ?_; intro v1 w3 hown1 hgrow1; simp only [Nat.zero_add, List.nil_append] at hown1; obtain ⟨g1, cap1, rfl⟩ := owns_form hown1 (by omega); have hl1 := hown1.lt g1 rfl; have HO1 := Lib.hid hown1; have B3 : Hid (Below wr.heap.size wr w3) := Lib.hid ((below_alloc (Below.refl _ _) _).grown hgrow1 (by simp) (fun k h => by cases h)); have hs3 := hgrow1.size; simp at hl1 hs3; clear hown1 hgrow1)
              | (at_builtin; refine wpList_append_lies _ (by rfl) (.tmp 25) (.tmp 27) 32 (by rfl) (wr.alloc (.cells #[] 3)).heap.size 3 i0 (.int .i64 0) 1 8 Tryd.underlying32 hi hz0 hz1 hz2 (by rfl) (by decide) (.slice (some ⟨g1, 0, none⟩) B.length cap1) B.length (cellsL B.length (nth B)) (by rfl) (HO1.out.alloc _) ⟨_, 0, none⟩ 1 1 [.int .i64 k] (by rfl) (by rfl) (news_one (by simp)) (by simp [Value.oneCell']) (by omega) (by unfold maxLen; omega) (by omega) (by simp; omega) _ rfl ?_; intro g2 cap2 w4 hown2 hgrow2 hat2 hlt2; have B4 : Hid (Below wr.heap.size wr w4) := Lib.hid ((below_alloc B3.out _).grown hgrow2 (by simp; omega) (fun x hx => by simp only [Value.ownBlock, Option.some.injEq] at hx; omega)); rw [cellsL_snoc] at hown2; have RD := Lib.hid (owns_rd hown2); clear hown2 hgrow2 hat2 HO1)
              | (go_at_call 90; refine (l1Different_any n (B.length + 1) _ _ _ _ (by omega) (by omega) RD.out).mono ?_; rintro e w' ⟨rfl, rfl⟩; rw [TW.out]))
            go_roundw
            case rel => exact ⟨k + 1, by omega, by go_num, _, _, _, rfl, (by rw [longerTo_in HI.out, ← QN.out]; exact HMk.out.below B4.out), HB.out.trans (B4.out.mono HB.out.size)⟩
            case measure => simp [intOf]; omega
          · have hnd := (HD.out.snoc_iff hlt).2 hin
            have hle := diff_le hnd
            rw [List.length_append] at hle
            simp only [List.length_cons, List.length_nil] at hle
            have TW := Lib.hid (tt_of (show IsWay n (B.length + 1) (fun j => if j < B.length then nth B j else (k : Int)) from ⟨(isDiff_congr fun j hj => snoc_nth hj).1 (by have h1 := hnd; unfold Diff at h1; rwa [List.length_append] at h1), by omega, by omega⟩))
            have ND := Lib.hid hnd
            have HI := Lib.hid hin
            have hpos := longer_pos (f := f - 1) hn2 hnd (by rw [List.length_append]; simp) (by rw [List.length_append]; simp; omega)
            have hlen := longer_le hn (f - 1) (B ++ [(k : Int)])
            have hlen5 := Nat.pow_le_pow_right (show 0 < 6 by omega) (show f - 1 ≤ 5 by omega)
            obtain ⟨M, hM⟩ : ∃ M, M = (longer n (f - 1) (B ++ [(k : Int)])).length := ⟨_, rfl⟩
            rw [← hM] at hpos hlen
            have hM6 : M ≤ 7776 := Nat.le_trans hlen hlen5
            have QM := Lib.hid hM
            clear hin hnd hM hlen hlen5
            go_wp2_with (first
              | (at_builtin; refine wpList_append_grows _ (by rfl) (.tmp 23) (.tmp 24) 32 (by rfl) 3 i0 (.int .i64 0) 1 8 Tryd.underlying32 hi hz0 hz1 hz2 (by rfl) (by decide) _ 0 0 [] (by rfl) (fun h => by cases h) (by rfl) (fun _ _ j u h => absurd h (by simp)) ⟨ba, oa, none⟩ B.length c (cellsL B.length (nth B)) (by rfl) ((cellsL_length _ _).trans (Nat.mul_one _).symm) (HAr.out.news (by repeat (first | exact Below.refl _ _ | refine Below.drew ?_ | refine below_alloc ?_ _))) (cellsL_one _ _) (by omega) (by unfold maxLen; omega) (by omega) ?_; intro v1 w3 hown1 hgrow1; simp only [Nat.zero_add, List.nil_append] at hown1; obtain ⟨g1, cap1, rfl⟩ := owns_form hown1 (by omega); have hl1 := hown1.lt g1 rfl; have HO1 := Lib.hid hown1; have B3 : Hid (Below wr.heap.size wr w3) := Lib.hid ((below_alloc (Below.refl _ _) _).grown hgrow1 (by simp) (fun k h => by cases h)); have hs3 := hgrow1.size; simp at hl1 hs3; clear hown1 hgrow1)
              | (at_builtin; refine wpList_append_lies _ (by rfl) (.tmp 25) (.tmp 27) 32 (by rfl) (wr.alloc (.cells #[] 3)).heap.size 3 i0 (.int .i64 0) 1 8 Tryd.underlying32 hi hz0 hz1 hz2 (by rfl) (by decide) (.slice (some ⟨g1, 0, none⟩) B.length cap1) B.length (cellsL B.length (nth B)) (by rfl) (HO1.out.alloc _) ⟨_, 0, none⟩ 1 1 [.int .i64 k] (by rfl) (by rfl) (news_one (by simp)) (by simp [Value.oneCell']) (by omega) (by unfold maxLen; omega) (by omega) (by simp; omega) _ rfl ?_; intro g2 cap2 w4 hown2 hgrow2 hat2 hlt2; have B4 : Hid (Below wr.heap.size wr w4) := Lib.hid ((below_alloc B3.out _).grown hgrow2 (by simp; omega) (fun x hx => by simp only [Value.ownBlock, Option.some.injEq] at hx; omega)); rw [cellsL_snoc] at hown2; have RD := Lib.hid (owns_rd hown2); clear hown2 hgrow2 hat2 HO1)
              | (go_at_call 90; refine (l1Different_any n (B.length + 1) _ _ _ _ (by omega) (by omega) RD.out).mono ?_; rintro e w' ⟨rfl, rfl⟩; rw [TW.out])
              | (go_at_call 76; refine (IH.out (f - 1) (by omega) (B ++ [(k : Int)]) (B.length + 1) _ _ _ ND.out (by simp) (by omega) (by omega) (RD.out.congr fun j hj => (snoc_nth hj).symm)).mono ?_; rintro e w5 ⟨v', G', Cp', rfl, hM', hB'⟩; rw [← QM.out] at hM'; obtain ⟨g', cap', rfl⟩ := owns_form hM'.1 hpos; have M5 := Lib.hid hM'; have B5 := Lib.hid (B4.out.trans (hB'.mono B4.out.size)); have hs5 := hB'.size; have hs4 := B4.out.size; clear hM' hB')
              | (at_builtin; refine wpList_append_lies _ (by rfl) (.tmp 37) (.tmp 40) 22 (by rfl) w.heap.size 32 i1 (.slice none 0 0) 1 24 Tryd.underlying22 hj hy0 hy1 hy2 (by rfl) (by decide) v N ((List.range N).map fun r => .slice (some ⟨G r, 0, none⟩) (lenL (longerTo n (f - 1) B k) r) (Cp r)) (by rfl) (HMk.out.below B5.out).1 ⟨g', 0, none⟩ M cap' ((List.range M).map fun r => .slice (some ⟨G' r, 0, none⟩) (lenL (longer n (f - 1) (B ++ [(k : Int)])) r) (Cp' r)) (by rfl) (by simp) (fun j u hu => M5.out.1.cells (g := g') rfl j u hu) (fun u hu => by obtain ⟨r, _, rfl⟩ := List.mem_map.1 hu; rfl) hpos (by unfold maxLen; omega) (by omega) (by omega) _ rfl ?_; intro g6 cap6 w6 hown6 hgrow6 hat6 hlt6; have N6 := Lib.hid hown6; have G6 := Lib.hid hgrow6; have A6 := Lib.hid hat6; clear hown6 hgrow6 hat6))
            go_roundw
            case rel =>
              refine ⟨k + 1, by omega, by go_num, _, (fun r => if r < N then G r else G' (r - N)), (fun r => if r < N then Cp r else Cp' (r - N)), rfl, ?_, (HB.out.trans (B5.out.mono HB.out.size)).grown G6.out (by omega) (fun x hx => (HV.out x hx).1)⟩
              rw [longerTo_new HI.out, List.length_append, ← QN.out, ← QM.out]
              exact Making.join (HMk.out.below B5.out) M5.out (by omega) (fun r hr => by have := (HMk.out.2.1 r hr).2.1; omega) (fun x hx => by have := (HV.out x hx).2; omega) (fun r hr => lists_left (by rw [← QN.out]; exact hr)) (fun r hr => by rw [QN.out]; exact lists_right) N6.out G6.out A6.out (Nat.le_refl _)
            case measure => simp [intOf]; omega
        · obtain rfl : k = n := by omega
          have HMk := Lib.hid hM
          have HB := Lib.hid hB
          clear hM hB
          go_wp2
          go_ret
          exact ⟨v, G, Cp, rfl, (by rw [HE.out]; exact HMk.out), HB.out⟩
    · have hq : decide (2 ≤ (B.length : Int)) = false := by simp; omega
      have H0 := Lib.hid (show longerTo n (f - 1) B 0 = [] by rw [longerTo_zero, if_neg h2])
      go_enter Tryd.func76, Tryd.ntmps76
      go_wp2
      have MS := Lib.hid (Making.start 32 w.heap.size (w.alloc (.cells #[] 32)) (.slice (some ⟨w.heap.size, 0, none⟩) 0 0) (fun _ => 0) (fun _ => 0) (lenL []) (nthL []) (World.ownsRow_made w #[] 0 (Nat.le_refl _) (Nat.zero_le _) (by simp)))
      have BS := Lib.hid (below_alloc (Below.refl w.heap.size w) (.cells #[] 32))
      clear M0 hq
      go_loopw [5, 6, 7] (fun out s _ wr => ∃ k : Nat, k ≤ n ∧ s = .int .i64 k ∧ ∃ v G Cp, v = out ∧ Making 32 w.heap.size wr v (longerTo n (f - 1) B k).length G Cp (lenL (longerTo n (f - 1) B k)) (nthL (longerTo n (f - 1) B k)) ∧ Below w.heap.size w wr) (fun _ s _ _ => n - (intOf s).toNat)
      case atStart => exact ⟨0, Nat.zero_le _, rfl, _, _, _, rfl, (by rw [H0.out]; exact MS.out), BS.out⟩
      case round =>
        obtain ⟨k, hk, rfl, v, G, Cp, rfl, hM, hB⟩ := hrel
        clear MS BS H0
        by_cases hlt : k < n
        · obtain ⟨N, hN⟩ : ∃ N, N = (longerTo n (f - 1) B k).length := ⟨_, rfl⟩
          have hN6 : N ≤ 7776 := by rw [hN]; exact HLE.out k hk
          rw [← hN] at hM
          have QN := Lib.hid hN
          have HMk := Lib.hid hM
          have HB := Lib.hid hB
          have HV := Lib.hid (fun x hx => hM.1.lt x hx)
          have HAr := Lib.hid (HA.out.below (Nat.le_refl _) hB)
          have hsz := hB.size
          have hbr : ba < wr.heap.size := by omega
          clear hM hB hN
          by_cases hin : (k : Int) ∈ B
          · have TW := Lib.hid (tt_no (show ¬ IsWay n (B.length + 1) (fun j => if j < B.length then nth B j else (k : Int)) from fun h => by
                have h1 := (HD.out.snoc_iff hlt).1 (by unfold Diff; rw [List.length_append]; exact (isDiff_congr fun j hj => snoc_nth hj).2 h.1)
                exact h1 hin))
            have HI := Lib.hid hin
            clear hin
            go_wp2_with (first
              | (at_builtin; refine wpList_append_grows _ (by rfl) (.tmp 23) (.tmp 24) 32 (by rfl) 3 i0 (.int .i64 0) 1 8 Tryd.underlying32 hi hz0 hz1 hz2 (by rfl) (by decide) _ 0 0 [] (by rfl) (fun h => by cases h) (by rfl) (fun _ _ j u h => absurd h (by simp)) ⟨ba, oa, none⟩ B.length c (cellsL B.length (nth B)) (by rfl) ((cellsL_length _ _).trans (Nat.mul_one _).symm) (HAr.out.news (by repeat (first | exact Below.refl _ _ | refine Below.drew ?_ | refine below_alloc ?_ _))) (cellsL_one _ _) (by omega) (by unfold maxLen; omega) (by omega) ?_; intro v1 w3 hown1 hgrow1; simp only [Nat.zero_add, List.nil_append] at hown1; obtain ⟨g1, cap1, rfl⟩ := owns_form hown1 (by omega); have hl1 := hown1.lt g1 rfl; have HO1 := Lib.hid hown1; have B3 : Hid (Below wr.heap.size wr w3) := Lib.hid ((below_alloc (Below.refl _ _) _).grown hgrow1 (by simp) (fun k h => by cases h)); have hs3 := hgrow1.size; simp at hl1 hs3; clear hown1 hgrow1)
              | (at_builtin; refine wpList_append_lies _ (by rfl) (.tmp 25) (.tmp 27) 32 (by rfl) (wr.alloc (.cells #[] 3)).heap.size 3 i0 (.int .i64 0) 1 8 Tryd.underlying32 hi hz0 hz1 hz2 (by rfl) (by decide) (.slice (some ⟨g1, 0, none⟩) B.length cap1) B.length (cellsL B.length (nth B)) (by rfl) (HO1.out.alloc _) ⟨_, 0, none⟩ 1 1 [.int .i64 k] (by rfl) (by rfl) (news_one (by simp)) (by simp [Value.oneCell']) (by omega) (by unfold maxLen; omega) (by omega) (by simp; omega) _ rfl ?_; intro g2 cap2 w4 hown2 hgrow2 hat2 hlt2; have B4 : Hid (Below wr.heap.size wr w4) := Lib.hid ((below_alloc B3.out _).grown hgrow2 (by simp; omega) (fun x hx => by simp only [Value.ownBlock, Option.some.injEq] at hx; omega)); rw [cellsL_snoc] at hown2; have RD := Lib.hid (owns_rd hown2); clear hown2 hgrow2 hat2 HO1)
              | (go_at_call 90; refine (l1Different_any n (B.length + 1) _ _ _ _ (by omega) (by omega) RD.out).mono ?_; rintro e w' ⟨rfl, rfl⟩; rw [TW.out]))
            go_roundw
            case rel => exact ⟨k + 1, by omega, by go_num, _, _, _, rfl, (by rw [longerTo_in HI.out, ← QN.out]; exact HMk.out.below B4.out), HB.out.trans (B4.out.mono HB.out.size)⟩
            case measure => simp [intOf]; omega
          · have hnd := (HD.out.snoc_iff hlt).2 hin
            have hle := diff_le hnd
            rw [List.length_append] at hle
            simp only [List.length_cons, List.length_nil] at hle
            have TW := Lib.hid (tt_of (show IsWay n (B.length + 1) (fun j => if j < B.length then nth B j else (k : Int)) from ⟨(isDiff_congr fun j hj => snoc_nth hj).1 (by have h1 := hnd; unfold Diff at h1; rwa [List.length_append] at h1), by omega, by omega⟩))
            have ND := Lib.hid hnd
            have HI := Lib.hid hin
            have hpos := longer_pos (f := f - 1) hn2 hnd (by rw [List.length_append]; simp) (by rw [List.length_append]; simp; omega)
            have hlen := longer_le hn (f - 1) (B ++ [(k : Int)])
            have hlen5 := Nat.pow_le_pow_right (show 0 < 6 by omega) (show f - 1 ≤ 5 by omega)
            obtain ⟨M, hM⟩ : ∃ M, M = (longer n (f - 1) (B ++ [(k : Int)])).length := ⟨_, rfl⟩
            rw [← hM] at hpos hlen
            have hM6 : M ≤ 7776 := Nat.le_trans hlen hlen5
            have QM := Lib.hid hM
            clear hin hnd hM hlen hlen5
            go_wp2_with (first
              | (at_builtin; refine wpList_append_grows _ (by rfl) (.tmp 23) (.tmp 24) 32 (by rfl) 3 i0 (.int .i64 0) 1 8 Tryd.underlying32 hi hz0 hz1 hz2 (by rfl) (by decide) _ 0 0 [] (by rfl) (fun h => by cases h) (by rfl) (fun _ _ j u h => absurd h (by simp)) ⟨ba, oa, none⟩ B.length c (cellsL B.length (nth B)) (by rfl) ((cellsL_length _ _).trans (Nat.mul_one _).symm) (HAr.out.news (by repeat (first | exact Below.refl _ _ | refine Below.drew ?_ | refine below_alloc ?_ _))) (cellsL_one _ _) (by omega) (by unfold maxLen; omega) (by omega) ?_; intro v1 w3 hown1 hgrow1; simp only [Nat.zero_add, List.nil_append] at hown1; obtain ⟨g1, cap1, rfl⟩ := owns_form hown1 (by omega); have hl1 := hown1.lt g1 rfl; have HO1 := Lib.hid hown1; have B3 : Hid (Below wr.heap.size wr w3) := Lib.hid ((below_alloc (Below.refl _ _) _).grown hgrow1 (by simp) (fun k h => by cases h)); have hs3 := hgrow1.size; simp at hl1 hs3; clear hown1 hgrow1)
              | (at_builtin; refine wpList_append_lies _ (by rfl) (.tmp 25) (.tmp 27) 32 (by rfl) (wr.alloc (.cells #[] 3)).heap.size 3 i0 (.int .i64 0) 1 8 Tryd.underlying32 hi hz0 hz1 hz2 (by rfl) (by decide) (.slice (some ⟨g1, 0, none⟩) B.length cap1) B.length (cellsL B.length (nth B)) (by rfl) (HO1.out.alloc _) ⟨_, 0, none⟩ 1 1 [.int .i64 k] (by rfl) (by rfl) (news_one (by simp)) (by simp [Value.oneCell']) (by omega) (by unfold maxLen; omega) (by omega) (by simp; omega) _ rfl ?_; intro g2 cap2 w4 hown2 hgrow2 hat2 hlt2; have B4 : Hid (Below wr.heap.size wr w4) := Lib.hid ((below_alloc B3.out _).grown hgrow2 (by simp; omega) (fun x hx => by simp only [Value.ownBlock, Option.some.injEq] at hx; omega)); rw [cellsL_snoc] at hown2; have RD := Lib.hid (owns_rd hown2); clear hown2 hgrow2 hat2 HO1)
              | (go_at_call 90; refine (l1Different_any n (B.length + 1) _ _ _ _ (by omega) (by omega) RD.out).mono ?_; rintro e w' ⟨rfl, rfl⟩; rw [TW.out])
              | (go_at_call 76; refine (IH.out (f - 1) (by omega) (B ++ [(k : Int)]) (B.length + 1) _ _ _ ND.out (by simp) (by omega) (by omega) (RD.out.congr fun j hj => (snoc_nth hj).symm)).mono ?_; rintro e w5 ⟨v', G', Cp', rfl, hM', hB'⟩; rw [← QM.out] at hM'; obtain ⟨g', cap', rfl⟩ := owns_form hM'.1 hpos; have M5 := Lib.hid hM'; have B5 := Lib.hid (B4.out.trans (hB'.mono B4.out.size)); have hs5 := hB'.size; have hs4 := B4.out.size; clear hM' hB')
              | (at_builtin; refine wpList_append_lies _ (by rfl) (.tmp 37) (.tmp 40) 22 (by rfl) w.heap.size 32 i1 (.slice none 0 0) 1 24 Tryd.underlying22 hj hy0 hy1 hy2 (by rfl) (by decide) v N ((List.range N).map fun r => .slice (some ⟨G r, 0, none⟩) (lenL (longerTo n (f - 1) B k) r) (Cp r)) (by rfl) (HMk.out.below B5.out).1 ⟨g', 0, none⟩ M cap' ((List.range M).map fun r => .slice (some ⟨G' r, 0, none⟩) (lenL (longer n (f - 1) (B ++ [(k : Int)])) r) (Cp' r)) (by rfl) (by simp) (fun j u hu => M5.out.1.cells (g := g') rfl j u hu) (fun u hu => by obtain ⟨r, _, rfl⟩ := List.mem_map.1 hu; rfl) hpos (by unfold maxLen; omega) (by omega) (by omega) _ rfl ?_; intro g6 cap6 w6 hown6 hgrow6 hat6 hlt6; have N6 := Lib.hid hown6; have G6 := Lib.hid hgrow6; have A6 := Lib.hid hat6; clear hown6 hgrow6 hat6))
            go_roundw
            case rel =>
              refine ⟨k + 1, by omega, by go_num, _, (fun r => if r < N then G r else G' (r - N)), (fun r => if r < N then Cp r else Cp' (r - N)), rfl, ?_, (HB.out.trans (B5.out.mono HB.out.size)).grown G6.out (by omega) (fun x hx => (HV.out x hx).1)⟩
              rw [longerTo_new HI.out, List.length_append, ← QN.out, ← QM.out]
              exact Making.join (HMk.out.below B5.out) M5.out (by omega) (fun r hr => by have := (HMk.out.2.1 r hr).2.1; omega) (fun x hx => by have := (HV.out x hx).2; omega) (fun r hr => lists_left (by rw [← QN.out]; exact hr)) (fun r hr => by rw [QN.out]; exact lists_right) N6.out G6.out A6.out (Nat.le_refl _)
            case measure => simp [intOf]; omega
        · obtain rfl : k = n := by omega
          have HMk := Lib.hid hM
          have HB := Lib.hid hB
          clear hM hB
          go_wp2
          go_ret
          exact ⟨v, G, Cp, rfl, (by rw [HE.out]; exact HMk.out), HB.out⟩
end

section
open Go.RowKit
set_option maxHeartbeats 1600000 in
theorem l1LongerAll_any (n : Nat) (hn2 : 2 ≤ n) (hn : n ≤ 5) (ba oa : Nat) (w : World) (ha : ba < w.heap.size) :
    Calls Tryd.prog 76 #[.int .i64 n, .slice (some ⟨ba, oa, none⟩) 0 0] w (RetLL 32 (longer n n []) w) := by
  obtain ⟨i0, hi, hz0, hz1, hz2⟩ := info_parts Tryd.infoInt
  obtain ⟨i1, hj, hy0, hy1, hy2⟩ := info_parts Tryd.infoInts
  have HE := Lib.hid (longer_eq (n := n) (f := n) (B := []) (Diff.nil n) (by simp))
  have HLE := Lib.hid (fun k (hk : k ≤ n) => Nat.le_trans (longerTo_le hn (n - 1) k [] hk) (Nat.pow_le_pow_right (show 0 < 6 by omega) (show n - 1 + 1 ≤ 5 by omega)))
  have H0 := Lib.hid (show longerTo n (n - 1) [] 0 = [] from rfl)
  go_enter Tryd.func76, Tryd.ntmps76
  go_wp2
  have MS := Lib.hid (Making.start 32 w.heap.size (w.alloc (.cells #[] 32)) (.slice (some ⟨w.heap.size, 0, none⟩) 0 0) (fun _ => 0) (fun _ => 0) (lenL []) (nthL []) (World.ownsRow_made w #[] 0 (Nat.le_refl _) (Nat.zero_le _) (by simp)))
  have BS := Lib.hid (below_alloc (Below.refl w.heap.size w) (.cells #[] 32))
  go_loopw [5, 6, 7] (fun out s _ wr => ∃ k : Nat, k ≤ n ∧ s = .int .i64 k ∧ ∃ v G Cp, v = out ∧ Making 32 w.heap.size wr v (longerTo n (n - 1) [] k).length G Cp (lenL (longerTo n (n - 1) [] k)) (nthL (longerTo n (n - 1) [] k)) ∧ Below w.heap.size w wr) (fun _ s _ _ => n - (intOf s).toNat)
  case atStart => exact ⟨0, Nat.zero_le _, rfl, _, _, _, rfl, (by rw [H0.out]; exact MS.out), BS.out⟩
  case round =>
    obtain ⟨k, hk, rfl, v, G, Cp, rfl, hM, hB⟩ := hrel
    clear MS BS H0
    by_cases hlt : k < n
    · obtain ⟨N, hN⟩ : ∃ N, N = (longerTo n (n - 1) [] k).length := ⟨_, rfl⟩
      have hN6 : N ≤ 7776 := by rw [hN]; exact HLE.out k hk
      rw [← hN] at hM
      have QN := Lib.hid hN
      have HMk := Lib.hid hM
      have HB := Lib.hid hB
      have HV := Lib.hid (fun x hx => hM.1.lt x hx)
      have hsz := hB.size
      have hbr : ba < wr.heap.size := by omega
      have hnd := ((Diff.nil n).snoc_iff hlt).2 (List.not_mem_nil)
      have hpos := longer_pos (f := n - 1) hn2 hnd (by simp) (by simp; omega)
      have hlen := longer_le hn (n - 1) ([] ++ [(k : Int)])
      have hlen5 := Nat.pow_le_pow_right (show 0 < 6 by omega) (show n - 1 ≤ 5 by omega)
      obtain ⟨M, hM2⟩ : ∃ M, M = (longer n (n - 1) ([] ++ [(k : Int)])).length := ⟨_, rfl⟩
      rw [← hM2] at hpos hlen
      have hM6 : M ≤ 7776 := Nat.le_trans hlen hlen5
      have QM := Lib.hid hM2
      have ND := Lib.hid hnd
      clear hM hB hN hnd hM2 hlen hlen5
      have O0 := Lib.hid (show (wr.alloc (.cells #[] 3)).ownsRow wr.heap.size 3 1 (.slice (some ⟨wr.heap.size, 0, none⟩) 0 0) 0 [] from World.ownsRow_made wr #[] 0 (Nat.le_refl _) (Nat.zero_le _) (by simp))
      go_wp2_with (first
        | (at_builtin; refine wpList_append_lies _ (by rfl) (.tmp 25) (.tmp 27) 32 (by rfl) wr.heap.size 3 i0 (.int .i64 0) 1 8 Tryd.underlying32 hi hz0 hz1 hz2 (by rfl) (by decide) (.slice (some ⟨wr.heap.size, 0, none⟩) 0 0) 0 [] (by rfl) (O0.out.alloc _) ⟨_, 0, none⟩ 1 1 [.int .i64 k] (by rfl) (by rfl) (news_one (by simp)) (by simp [Value.oneCell']) (by omega) (by unfold maxLen; omega) (by omega) (by simp; omega) _ rfl ?_; intro g2 cap2 w4 hown2 hgrow2 hat2 hlt2; have B4 : Hid (Below wr.heap.size wr w4) := Lib.hid ((below_alloc (below_alloc (Below.refl _ _) _) _).grown hgrow2 (by simp; omega) (fun x hx => by simp only [Value.ownBlock, Option.some.injEq] at hx; omega)); have RD : Hid (Rd w4 (some ⟨g2, 0, none⟩) 1 (fun _ => (k : Int))) := Lib.hid (owns_rd (X := fun _ => (k : Int)) hown2); clear hown2 hgrow2 hat2)
        | (go_at_call 76; refine (l1Longer_any n hn2 hn (n - 1) ([] ++ [(k : Int)]) 1 _ _ _ ND.out (by simp) (by omega) (by omega) (RD.out.congr fun j hj => one_nth hj)).mono ?_; rintro e w5 ⟨v', G', Cp', rfl, hM', hB'⟩; rw [← QM.out] at hM'; obtain ⟨g', cap', rfl⟩ := owns_form hM'.1 hpos; have M5 := Lib.hid hM'; have B5 := Lib.hid (B4.out.trans (hB'.mono B4.out.size)); have hs5 := hB'.size; have hs4 := B4.out.size; clear hM' hB')
        | (at_builtin; refine wpList_append_lies _ (by rfl) (.tmp 37) (.tmp 40) 22 (by rfl) w.heap.size 32 i1 (.slice none 0 0) 1 24 Tryd.underlying22 hj hy0 hy1 hy2 (by rfl) (by decide) v N ((List.range N).map fun r => .slice (some ⟨G r, 0, none⟩) (lenL (longerTo n (n - 1) [] k) r) (Cp r)) (by rfl) (HMk.out.below B5.out).1 ⟨g', 0, none⟩ M cap' ((List.range M).map fun r => .slice (some ⟨G' r, 0, none⟩) (lenL (longer n (n - 1) ([] ++ [(k : Int)])) r) (Cp' r)) (by rfl) (by simp) (fun j u hu => M5.out.1.cells (g := g') rfl j u hu) (fun u hu => by obtain ⟨r, _, rfl⟩ := List.mem_map.1 hu; rfl) hpos (by unfold maxLen; omega) (by omega) (by omega) _ rfl ?_; intro g6 cap6 w6 hown6 hgrow6 hat6 hlt6; have N6 := Lib.hid hown6; have G6 := Lib.hid hgrow6; have A6 := Lib.hid hat6; clear hown6 hgrow6 hat6))
      go_roundw
      case rel =>
        refine ⟨k + 1, by omega, by go_num, _, (fun r => if r < N then G r else G' (r - N)), (fun r => if r < N then Cp r else Cp' (r - N)), rfl, ?_, (HB.out.trans (B5.out.mono HB.out.size)).grown G6.out (by omega) (fun x hx => (HV.out x hx).1)⟩
        rw [longerTo_new List.not_mem_nil, List.length_append, ← QN.out, ← QM.out]
        exact Making.join (HMk.out.below B5.out) M5.out (by omega) (fun r hr => by have := (HMk.out.2.1 r hr).2.1; omega) (fun x hx => by have := (HV.out x hx).2; omega) (fun r hr => lists_left (by rw [← QN.out]; exact hr)) (fun r hr => by rw [QN.out]; exact lists_right) N6.out G6.out A6.out (Nat.le_refl _)
      case measure => simp [intOf]; omega
    · obtain rfl : k = n := by omega
      have HMk := Lib.hid hM
      have HB := Lib.hid hB
      clear hM hB
      go_wp2
      go_ret
      exact ⟨v, G, Cp, rfl, (by rw [HE.out]; exact HMk.out), HB.out⟩
end

section
open Go.RowKit
set_option maxHeartbeats 1600000 in
theorem l1Rounds_any (n c : Nat) (a : Option Addr) (A : Nat → Option Addr) (L C : Nat → Nat) (Z : Nat → Nat → Int) (w : World) (hr : IsRates n L Z) (ha : Tab w a n A L C Z) :
    Calls Tryd.prog 36 #[.slice a n c] w (RetLL 32 (gaining n Z) w) := by
  have hn2 := hr.1.1
  have hn5 := hr.1.2
  obtain ⟨i1, hj, hy0, hy1, hy2⟩ := info_parts Tryd.infoInts
  have HR := Lib.hid hr
  have HA := Lib.hid ha
  have hpos := longerAll_pos hn2
  have hM6 := Nat.le_trans (longer_le hn5 n []) (Nat.pow_le_pow_right (show 0 < 6 by omega) hn5)
  obtain ⟨LL, hLL⟩ : ∃ LL, LL = longer n n [] := ⟨_, rfl⟩
  have HLL := Lib.hid hLL
  have HT := Lib.hid (show gainTo n Z LL LL.length = gaining n Z by rw [hLL]; exact gainTo_all)
  have HAT := Lib.hid (show ∀ k, k < LL.length → Diff n (LL.getD k []) ∧ 2 ≤ (LL.getD k []).length ∧ (LL.getD k []).length ≤ n by rw [hLL]; exact fun k hk => longerAll_at hk)
  rw [← hLL] at hpos hM6
  obtain ⟨M, hM⟩ : ∃ M, M = LL.length := ⟨_, rfl⟩
  rw [← hM] at hpos hM6
  have hM7 : M ≤ 7776 := hM6
  have QM := Lib.hid hM
  clear hr ha hLL hM hM6
  go_enter Tryd.func36, Tryd.ntmps36
  go_wp2_with (go_at_call 76; refine (l1LongerAll_any n hn2 hn5 _ _ _ (by simp)).mono ?_; rw [← HLL.out]; rintro e w1 ⟨va, GA, CA, rfl, hM, hb⟩; rw [← QM.out] at hM; obtain ⟨gA, capA, rfl⟩ := owns_form hM.1 hpos; have MA := Lib.hid hM; have B1 := Lib.hid ((below_alloc (below_alloc (Below.refl w.heap.size w) (.cells #[] 32)) (.cells #[] 3)).trans (hb.mono (by simp; omega))); have M0 := Lib.hid ((Making.start 32 w.heap.size (w.alloc (.cells #[] 32)) (.slice (some ⟨w.heap.size, 0, none⟩) 0 0) (fun _ => 0) (fun _ => 0) (lenL []) (nthL []) (World.ownsRow_made w #[] 0 (Nat.le_refl _) (Nat.zero_le _) (by simp))).below ((below_alloc (Below.refl _ _) (.cells #[] 3)).trans (hb.mono (by simp)))); clear hM hb)
  have hgA := (MA.out.1.lt gA rfl).1
  have hGA := fun s (hs : s < M) => (MA.out.2.1 s hs).1
  simp only [World.size_alloc] at hgA hGA
  have HG := Lib.hid hGA
  obtain ⟨lo, hlo⟩ : ∃ lo, lo = ((w.alloc (.cells #[] 32)).alloc (.cells #[] 3)).heap.size := ⟨_, rfl⟩
  rw [← hlo] at MA
  clear hGA hlo
  go_loopw [3, 5] (fun out s wr => ∃ k : Nat, k ≤ M ∧ s = .int .i64 k ∧ ∃ v G Cp, v = out ∧ Making 32 w.heap.size wr v (gainTo n Z LL k).length G Cp (lenL (gainTo n Z LL k)) (nthL (gainTo n Z LL k)) ∧ (∀ r, r < (gainTo n Z LL k).length → ∃ s, s < k ∧ G r = GA s) ∧ v.ownBlock ≠ some gA ∧ (∀ s, s < M → v.ownBlock ≠ some (GA s)) ∧
      Making 32 lo wr (.slice (some ⟨gA, 0, none⟩) M capA) M GA CA (lenL LL) (nthL LL) ∧ Below w.heap.size w wr) (fun _ s _ => M - (intOf s).toNat)
  case atStart => exact ⟨0, Nat.zero_le _, rfl, _, _, _, rfl, M0.out, (fun r hr => absurd hr (Nat.not_lt_zero _)), (by simp only [Value.ownBlock, ne_eq, Option.some.injEq]; omega), (fun s hs => by have := HG.out s hs; simp only [Value.ownBlock, ne_eq, Option.some.injEq]; omega), MA.out, B1.out⟩
  case round =>
    obtain ⟨k, hk, rfl, v, G, Cp, rfl, hM, hidx, hvg, hvG, hMA, hB⟩ := hrel
    clear MA M0 B1
    by_cases hlt : k < M
    · obtain ⟨N, hN⟩ : ∃ N, N = (gainTo n Z LL k).length := ⟨_, rfl⟩
      have hN6 : N ≤ 7776 := by rw [hN]; exact Nat.le_trans gainTo_le (by omega)
      have hLk : k < LL.length := by rw [← QM.out]; exact hlt
      obtain ⟨hdk, hm2, hmn⟩ := HAT.out k hLk
      have hm2' : 2 ≤ lenL LL k := hm2
      have hmn' : lenL LL k ≤ n := hmn
      rw [← hN] at hM
      have hcA := hMA.1.cells (g := gA) rfl k (.slice (some ⟨GA k, 0, none⟩) (lenL LL k) (CA k)) (by simp [hlt])
      rw [Go.WideShapes.add_plain, Nat.zero_add] at hcA
      have hgl := (hMA.1.lt gA rfl).2
      have hGl := (hMA.2.1 k hlt).2.1
      have HRd := Lib.hid (hMA.2.1 k hlt).2.2.2.rd
      have hsz := hB.size
      have QN := Lib.hid hN
      have HIX := Lib.hid (show ∀ r, r < N → ∃ s, s < k ∧ G r = GA s by rw [hN]; exact hidx)
      have HMk := Lib.hid hM
      have HV := Lib.hid (fun x hx => hM.1.lt x hx)
      have HB := Lib.hid hB
      have HMA := Lib.hid hMA
      have Hvg := Lib.hid hvg
      have HvG := Lib.hid hvG
      have HLk := Lib.hid hLk
      obtain ⟨P, hP⟩ : ∃ P, P = p12 n := ⟨_, rfl⟩
      obtain ⟨V, hV⟩ : ∃ V, V = roundV n Z (lenL LL k) (nthL LL k) := ⟨_, rfl⟩
      have QP := Lib.hid hP
      have QV := Lib.hid hV
      clear hM hB hidx hvg hvG hMA hN hdk hm2 hmn hLk hP hV
      by_cases hw : IsRing n (lenL LL k) (nthL LL k)
      · have TR := Lib.hid (tt_of hw)
        have HW := Lib.hid hw
        clear hw
        by_cases hg : P < V
        · have hd : decide (P < V) = true := by simpa using hg
          have HGa := Lib.hid (show Gains n Z (LL.getD k []) from ⟨HW.out, by rw [QP.out, QV.out] at hg; exact hg⟩)
          clear hg
          go_wp2_with (first
            | (go_at_call 46; refine (l1Ring_any n (lenL LL k) (CA k) _ (nthL LL k) _ (by omega) (by omega) HRd.out).mono ?_; rintro e w' ⟨rfl, q, rfl⟩; rw [TR.out])
            | (go_at_call 48; refine (l1Closed_any (lenL LL k) (CA k) _ (nthL LL k) _ (by omega) (by omega) (HRd.out.drewN q)).mono ?_; rintro e w3 ⟨g3, cap3, rfl, hown3, hb3⟩; have HO := Lib.hid (owns_rd hown3); have B3 := Lib.hid ((below_drewN (Below.refl wr.heap.size wr) q).trans hb3); have hcA3 := (B3.out.cell (p := ⟨gA, k, none⟩) hgl).trans hcA; clear hown3 hb3)
            | (go_at_call 47; refine (l1Value_any n c (lenL LL k + 1) cap3 a _ A L C Z (closeF (lenL LL k) (nthL LL k)) (n : Int) _ HR.out (HA.out.below (Nat.le_refl _) (HB.out.trans (B3.out.mono hsz))) HO.out (by omega) (by omega) (by omega) (by omega) (fun i _ => closeF_in HW.out.1 i)).mono ?_; rintro e w4 ⟨rfl, q2, rfl⟩; rw [show valF Z (closeF (lenL LL k) (nthL LL k)) (p12 ((n : Int) - ((lenL LL k + 1 : Nat) : Int) + 1).toNat) (lenL LL k + 1 - 1) = V from QV.out.symm])
            | (go_at_call 49; refine (l1Power_any (n : Int) _ (by omega) (by omega)).mono ?_; rintro e w5 ⟨rfl, rfl⟩; rw [Int.toNat_natCast, ← QP.out])
            | (at_builtin; refine wpList_append_lies _ (by rfl) (.tmp 39) (.tmp 44) 22 (by rfl) w.heap.size 32 i1 (.slice none 0 0) 1 24 Tryd.underlying22 hj hy0 hy1 hy2 (by rfl) (by decide) v N ((List.range N).map fun r => .slice (some ⟨G r, 0, none⟩) (lenL (gainTo n Z LL k) r) (Cp r)) (by rfl) ((HMk.out.below (below_drewN B3.out q2)).1.alloc _) ⟨_, 0, none⟩ 1 1 [.slice (some ⟨GA k, 0, none⟩) (lenL LL k) (CA k)] (by rfl) (by rfl) (news_one (by first | (simp; done) | exact World.cell?_alloc_new (w3.drewN q2) _ _ 0)) (fun u hu => by rw [List.mem_singleton.1 hu]; rfl) (by omega) (by unfold maxLen; omega) (by omega) (Nat.le_trans hsz (below_alloc (below_drewN B3.out q2) (.cells #[.slice (some ⟨GA k, 0, none⟩) (lenL LL k) (CA k)] 32)).size) _ rfl ?_; intro g6 cap6 w6 hown6 hgrow6 hat6 hlt6; have B4 := Lib.hid (below_alloc (below_drewN B3.out q2) (.cells #[.slice (some ⟨GA k, 0, none⟩) (lenL LL k) (CA k)] 32)); have N6 := Lib.hid hown6; have G6 := Lib.hid hgrow6; have A6 := Lib.hid hat6; clear hown6 hgrow6 hat6))
          go_roundw
          case rel =>
            have eL : lenL (gainTo n Z LL k ++ [LL.getD k []]) N = lenL LL k ∧ nthL (gainTo n Z LL k ++ [LL.getD k []]) N = nthL LL k := by
              rw [QN.out]
              exact lists_right (A := gainTo n Z LL k) (B := [LL.getD k []]) (r := 0)
            have N6' := N6.out
            have eM : (List.range N).map (fun r => Value.slice (some ⟨G r, 0, none⟩) (lenL (gainTo n Z LL k) r) (Cp r)) = (List.range N).map (fun r => Value.slice (some ⟨G r, 0, none⟩) (lenL (gainTo n Z LL k ++ [LL.getD k []]) r) (Cp r)) := List.map_congr_left fun r hr => by
              rw [(lists_left (A := gainTo n Z LL k) (B := [LL.getD k []]) (r := r) (by rw [← QN.out]; exact List.mem_range.1 hr)).1]
            rw [← eL.1, eM] at N6'
            have hg6 : ∀ x, x < wr.heap.size → v.ownBlock ≠ some x → g6 ≠ x := by
              intro x hx hne e
              rcases A6.out with h' | h'
              · exact hne (by rw [h', e])
              · have := B4.out.size; omega
            refine ⟨k + 1, by omega, by go_num, _, (fun r => if r < N then G r else GA k), (fun r => if r < N then Cp r else CA k), rfl, ?_, ?_, ?_, ?_, ?_, (HB.out.trans (B4.out.mono hsz)).grown G6.out (by have := B4.out.size; omega) (fun x hx => (HV.out x hx).1)⟩
            · rw [gainTo_yes HLk.out HGa.out, List.length_append, ← QN.out]
              exact Making.next (w := (w3.drewN q2).alloc _) ((HMk.out.below B4.out).congr (fun r hr => by
                have := lists_left (A := gainTo n Z LL k) (B := [LL.getD k []]) (r := r) (by rw [← QN.out]; exact hr)
                exact ⟨this.1.symm, this.2.symm⟩)) (by rw [eL.1, eL.2]; exact ((HMA.out.below B4.out).2.1 k hlt).2.2.2) (by have := HG.out k hlt; omega) (by have := B4.out.size; omega) (HvG.out k hlt) (fun r hr e => by
                obtain ⟨s, h1, h2⟩ := HIX.out r hr
                exact HMA.out.2.2 s k (by omega) hlt (by omega) (by rw [← h2, e])) N6' G6.out A6.out (Nat.le_refl _)
            · intro r hr
              rw [gainTo_yes HLk.out HGa.out, List.length_append, ← QN.out] at hr
              by_cases e : r < N
              · obtain ⟨s, h1, h2⟩ := HIX.out r e
                exact ⟨s, by omega, by show (if r < N then G r else GA k) = GA s; rw [if_pos e]; exact h2⟩
              · exact ⟨k, by omega, by show (if r < N then G r else GA k) = GA k; rw [if_neg e]⟩
            · have := hg6 gA hgl Hvg.out
              simp only [Value.ownBlock, ne_eq, Option.some.injEq]
              exact this
            · intro s hs
              have := hg6 (GA s) (HMA.out.2.1 s hs).2.1 (HvG.out s hs)
              simp only [Value.ownBlock, ne_eq, Option.some.injEq]
              exact this
            · exact (HMA.out.below B4.out).grown G6.out (fun x hx => by simp only [Value.ownBlock, Option.some.injEq] at hx; rw [← hx]; exact Hvg.out) (fun s hs => HvG.out s hs)
          case measure => simp [intOf]; omega
        · have hd : decide (P < V) = false := by simpa using hg
          have HGa := Lib.hid (show ¬ Gains n Z (LL.getD k []) from fun h => by rw [QP.out, QV.out] at hg; exact hg h.2)
          clear hg
          go_wp2_with (first
            | (go_at_call 46; refine (l1Ring_any n (lenL LL k) (CA k) _ (nthL LL k) _ (by omega) (by omega) HRd.out).mono ?_; rintro e w' ⟨rfl, q, rfl⟩; rw [TR.out])
            | (go_at_call 48; refine (l1Closed_any (lenL LL k) (CA k) _ (nthL LL k) _ (by omega) (by omega) (HRd.out.drewN q)).mono ?_; rintro e w3 ⟨g3, cap3, rfl, hown3, hb3⟩; have HO := Lib.hid (owns_rd hown3); have B3 := Lib.hid ((below_drewN (Below.refl wr.heap.size wr) q).trans hb3); have hcA3 := (B3.out.cell (p := ⟨gA, k, none⟩) hgl).trans hcA; clear hown3 hb3)
            | (go_at_call 47; refine (l1Value_any n c (lenL LL k + 1) cap3 a _ A L C Z (closeF (lenL LL k) (nthL LL k)) (n : Int) _ HR.out (HA.out.below (Nat.le_refl _) (HB.out.trans (B3.out.mono hsz))) HO.out (by omega) (by omega) (by omega) (by omega) (fun i _ => closeF_in HW.out.1 i)).mono ?_; rintro e w4 ⟨rfl, q2, rfl⟩; rw [show valF Z (closeF (lenL LL k) (nthL LL k)) (p12 ((n : Int) - ((lenL LL k + 1 : Nat) : Int) + 1).toNat) (lenL LL k + 1 - 1) = V from QV.out.symm])
            | (go_at_call 49; refine (l1Power_any (n : Int) _ (by omega) (by omega)).mono ?_; rintro e w5 ⟨rfl, rfl⟩; rw [Int.toNat_natCast, ← QP.out]))
          go_roundw
          case rel =>
            refine ⟨k + 1, by omega, by go_num, v, G, Cp, rfl, ?_, (fun r hr => by rw [gainTo_no HLk.out HGa.out, ← QN.out] at hr; obtain ⟨s, h1, h2⟩ := HIX.out r hr; exact ⟨s, by omega, h2⟩), Hvg.out, HvG.out, HMA.out.below (below_drewN B3.out q2), HB.out.trans ((below_drewN B3.out q2).mono hsz)⟩
            rw [gainTo_no HLk.out HGa.out, ← QN.out]
            exact HMk.out.below (below_drewN B3.out q2)
          case measure => simp [intOf]; omega
      · have TR := Lib.hid (tt_no hw)
        have HGa := Lib.hid (show ¬ Gains n Z (LL.getD k []) from fun h => hw h.1)
        clear hw
        go_wp2_with (go_at_call 46; refine (l1Ring_any n (lenL LL k) (CA k) _ (nthL LL k) _ (by omega) (by omega) HRd.out).mono ?_; rintro e w' ⟨rfl, q, rfl⟩; rw [TR.out])
        go_roundw
        case rel =>
          refine ⟨k + 1, by omega, by go_num, v, G, Cp, rfl, ?_, (fun r hr => by rw [gainTo_no HLk.out HGa.out, ← QN.out] at hr; obtain ⟨s, h1, h2⟩ := HIX.out r hr; exact ⟨s, by omega, h2⟩), Hvg.out, HvG.out, HMA.out.below (below_drewN (Below.refl wr.heap.size wr) q), HB.out.trans ((below_drewN (Below.refl wr.heap.size wr) q).mono hsz)⟩
          rw [gainTo_no HLk.out HGa.out, ← QN.out]
          exact HMk.out.below (below_drewN (Below.refl wr.heap.size wr) q)
        case measure => simp [intOf]; omega
    · obtain rfl : k = M := by omega
      have HMk := Lib.hid hM
      have HB := Lib.hid hB
      clear hM hB hidx hvg hvG hMA
      go_wp2
      go_ret
      refine ⟨v, G, Cp, rfl, ?_, HB.out⟩
      have := HMk.out
      rw [QM.out, HT.out] at this
      exact this
end

end Go.Proofs.YtabdbgnkiebcdaaDoor

namespace Go.Proofs.YtabdbgnkiebcdaaDoor
set_option linter.unusedVariables false

theorem nth_left {B R : List Int} {j : Nat} (h : j < B.length) : nth (B ++ R) j = nth B j := by
  unfold nth; rw [List.getD_eq_getElem?_getD, List.getD_eq_getElem?_getD, List.getElem?_append_left h]
theorem nth_mid {B R : List Int} {x : Int} : nth (B ++ x :: R) B.length = x := by
  unfold nth; rw [List.getD_eq_getElem?_getD, List.getElem?_append_right (Nat.le_refl _)]; simp

/-- Each list of different numbers that begins so is told. -/
theorem mem_longer_of {n : Nat} : ∀ (R : List Int) (f : Nat) (B : List Int), Diff n (B ++ R) → 2 ≤ (B ++ R).length → R.length ≤ f → B ++ R ∈ longer n f B
  | [], f, B, hd, h2, hf => by
    rw [List.append_nil] at h2 ⊢
    cases f with
    | zero => unfold longer; rw [if_pos h2]; simp
    | succ f => unfold longer; rw [if_pos h2]; simp
  | x :: R, 0, B, hd, h2, hf => by simp at hf
  | x :: R, f + 1, B, hd, h2, hf => by
    have hlen : B.length < (B ++ x :: R).length := by simp
    have hx := hd.1 B.length hlen
    rw [nth_mid] at hx
    obtain ⟨y, hy⟩ := Int.eq_ofNat_of_zero_le hx.1
    have hno : ¬ x ∈ B := fun hm => by
      obtain ⟨j, hj, e⟩ := mem_nth.1 hm
      refine hd.2 j B.length hj hlen ?_
      rw [nth_left hj, nth_mid, e]
    have he : B ++ x :: R = (B ++ [x]) ++ R := by simp
    have h4 := mem_longer_of R f (B ++ [x]) (by rw [← he]; exact hd) (by rw [← he]; exact h2) (by simpa using hf)
    rw [he]
    unfold longer
    refine List.mem_append_right _ (List.mem_flatMap.2 ⟨y, List.mem_range.2 (by omega), ?_⟩)
    have hy' : (y : Int) = x := hy.symm
    rw [hy', if_neg hno]
    exact h4
theorem mem_all {n : Nat} {D : List Int} (hd : Diff n D) (h2 : 2 ≤ D.length) : D ∈ longer n n [] := mem_longer_of D n [] hd h2 (diff_le hd)

/-- All rounds are a unit. -/
def FairAll (n : Nat) (Z : Nat → Nat → Int) : Prop := ∀ D, D ∈ longer n n [] → IsRing n D.length (nth D) → roundV n Z D.length (nth D) = p12 n
/-- Going by the money 0 changes nothing. -/
def FairMid (n : Nat) (Z : Nat → Nat → Int) : Prop := ∀ i, i < n → ∀ k, k < n → Z i 0 * Z 0 k = 12 * Z i k

theorem p12_add (a b : Nat) : p12 (a + b) = p12 a * p12 b := by
  induction b with
  | zero => show p12 a = p12 a * 1; omega
  | succ b ih => show p12 (a + b) * 12 = p12 a * (p12 b * 12); rw [ih, Int.mul_assoc]
theorem p12_pos (a : Nat) : 0 < p12 a := by
  induction a with
  | zero => decide
  | succ a ih => show 0 < p12 a * 12; omega

section
variable {n : Nat} {L : Nat → Nat} {Z : Nat → Nat → Int}
theorem mid_back (hr : IsRates n L Z) (h : FairMid n Z) {x : Nat} (hx : x < n) : Z 0 x * Z x 0 = 144 := by
  rw [Int.mul_comm, h x hx x hx, ((hr.2 x hx).2 x hx).2 rfl]; rfl
theorem mid_three (hr : IsRates n L Z) (h : FairMid n Z) {x y : Nat} (hx : x < n) (hy : y < n) : Z 0 x * Z x y = 12 * Z 0 y := by
  have h1 := mid_back hr h hx
  have h2 := h x hx y hy
  have h3 : 12 * (Z 0 x * Z x y) = 144 * Z 0 y := by
    calc 12 * (Z 0 x * Z x y) = Z 0 x * (12 * Z x y) := by ac_rfl
      _ = Z 0 x * (Z x 0 * Z 0 y) := by rw [h2]
      _ = (Z 0 x * Z x 0) * Z 0 y := by ac_rfl
      _ = 144 * Z 0 y := by rw [h1]
  omega
theorem val_mid (hr : IsRates n L Z) (h : FairMid n Z) {W : Nat → Int} {v : Int} (k : Nat) (hW : ∀ j, j ≤ k → 0 ≤ W j ∧ W j < n) :
    144 * valF Z W v k = v * p12 k * (Z (W 0).toNat 0 * Z 0 (W k).toNat) := by
  induction k with
  | zero =>
    have h0 := hW 0 (by omega)
    have := mid_back hr h (x := (W 0).toNat) (by omega)
    show 144 * v = v * 1 * _
    rw [Int.mul_comm (Z (W 0).toNat 0), this]; omega
  | succ k ih =>
    have h0 := hW k (by omega)
    have h1 := hW (k + 1) (by omega)
    have h2 := mid_three hr h (x := (W k).toNat) (y := (W (k + 1)).toNat) (by omega) (by omega)
    have h3 := ih (fun j hj => hW j (by omega))
    show 144 * (valF Z W v k * Z (W k).toNat (W (k + 1)).toNat) = v * (p12 k * 12) * (Z (W 0).toNat 0 * Z 0 (W (k + 1)).toNat)
    calc 144 * (valF Z W v k * Z (W k).toNat (W (k + 1)).toNat) = (144 * valF Z W v k) * Z (W k).toNat (W (k + 1)).toNat := by ac_rfl
      _ = v * p12 k * (Z (W 0).toNat 0 * Z 0 (W k).toNat) * Z (W k).toNat (W (k + 1)).toNat := by rw [h3]
      _ = v * p12 k * Z (W 0).toNat 0 * (Z 0 (W k).toNat * Z (W k).toNat (W (k + 1)).toNat) := by ac_rfl
      _ = v * p12 k * Z (W 0).toNat 0 * (12 * Z 0 (W (k + 1)).toNat) := by rw [h2]
      _ = v * (p12 k * 12) * (Z (W 0).toNat 0 * Z 0 (W (k + 1)).toNat) := by ac_rfl

theorem ring_mid (hr : IsRates n L Z) (h : FairMid n Z) {m : Nat} {X : Nat → Int} (hx : IsRing n m X) : roundV n Z m X = p12 n := by
  have hm := hx.1.2
  have h1 := val_mid (W := closeF m X) (v := p12 ((n : Int) - (m + 1 : Nat) + 1).toNat) hr h m (fun j _ => closeF_in hx.1 j)
  have e0 : closeF m X 0 = X 0 := if_pos (by omega)
  have em : closeF m X m = X 0 := if_neg (by omega)
  have hX := hx.1.1.1 0 (by omega)
  have h2 := mid_back hr h (x := (X 0).toNat) (by omega)
  rw [e0, em, Int.mul_comm (Z (X 0).toNat 0), h2] at h1
  have e1 : ((n : Int) - (m + 1 : Nat) + 1).toNat = n - m := by omega
  have e2 : p12 n = p12 (n - m) * p12 m := by rw [← p12_add]; congr 1; omega
  unfold roundV
  rw [e1] at h1 ⊢
  rw [e2]
  omega

theorem fair_iff (hr : IsRates n L Z) : FairAll n Z ↔ FairMid n Z := by
  constructor
  · intro h
    have hn := hr.1.1
    have d0 : Diff n [((0 : Nat) : Int)] := ((Diff.nil n).snoc_iff (x := 0) (by omega)).2 List.not_mem_nil
    have di : ∀ i, 0 < i → i < n → Diff n [((0 : Nat) : Int), (i : Int)] := fun i h0 hi => (d0.snoc_iff hi).2 (by simp; omega)
    have back : ∀ i, 0 < i → i < n → Z 0 i * Z i 0 = 144 := by
      intro i h0 hi
      have hd := di i h0 hi
      have hx : IsRing n 2 (nth [((0 : Nat) : Int), (i : Int)]) := ⟨⟨hd, by omega, by omega⟩, fun j h1 h2 => by
        obtain rfl : j = 1 := by omega
        show (0 : Int) < (i : Int)
        omega⟩
      have h1 := h _ (mem_all hd (by simp)) hx
      have e : roundV n Z 2 (nth [((0 : Nat) : Int), (i : Int)]) = p12 ((n : Int) - (2 + 1 : Nat) + 1).toNat * Z 0 i * Z i 0 := rfl
      have h2 : roundV n Z 2 (nth [((0 : Nat) : Int), (i : Int)]) = p12 n := h1
      rw [e, show ((n : Int) - (2 + 1 : Nat) + 1).toNat = n - 2 by omega, show p12 n = p12 (n - 2) * 144 by rw [show (144 : Int) = p12 2 from rfl, ← p12_add]; congr 1; omega, Int.mul_assoc] at h2
      exact Int.eq_of_mul_eq_mul_left (Int.ne_of_gt (p12_pos _)) h2
    have three : ∀ i k, 0 < i → i < n → 0 < k → k < n → i ≠ k → Z 0 i * Z i k * Z k 0 = 1728 := by
      intro i k h0 hi h0' hk hne
      have hd : Diff n [((0 : Nat) : Int), (i : Int), (k : Int)] := ((di i h0 hi).snoc_iff hk).2 (by simp; omega)
      have h3n := diff_le hd
      have h3n' : 3 ≤ n := h3n
      have hx : IsRing n 3 (nth [((0 : Nat) : Int), (i : Int), (k : Int)]) := ⟨⟨hd, by omega, by omega⟩, fun j h1 h2 => by
        obtain rfl | rfl : j = 1 ∨ j = 2 := by omega
        · show (0 : Int) < (i : Int)
          omega
        · show (0 : Int) < (k : Int)
          omega⟩
      have h2 : roundV n Z 3 (nth [((0 : Nat) : Int), (i : Int), (k : Int)]) = p12 n := h _ (mem_all hd (by simp)) hx
      have e : roundV n Z 3 (nth [((0 : Nat) : Int), (i : Int), (k : Int)]) = p12 ((n : Int) - (3 + 1 : Nat) + 1).toNat * Z 0 i * Z i k * Z k 0 := rfl
      rw [e, show ((n : Int) - (3 + 1 : Nat) + 1).toNat = n - 3 by omega, show p12 n = p12 (n - 3) * 1728 by rw [show (1728 : Int) = p12 3 from rfl, ← p12_add]; congr 1; omega, Int.mul_assoc, Int.mul_assoc] at h2
      have h4 := Int.eq_of_mul_eq_mul_left (Int.ne_of_gt (p12_pos _)) h2
      rw [Int.mul_assoc]; exact h4
    have one : ∀ i, i < n → Z i i = 12 := fun i hi => ((hr.2 i hi).2 i hi).2 rfl
    intro i hi k hk
    by_cases hi0 : i = 0
    · subst hi0; rw [one 0 hi]
    by_cases hk0 : k = 0
    · subst hk0; rw [one 0 hk, Int.mul_comm]
    have hb1 := back i (by omega) hi
    by_cases hik : i = k
    · subst hik; rw [one i hi, Int.mul_comm, hb1]; rfl
    have hb2 := back k (by omega) hk
    have h3 := three i k (by omega) hi (by omega) hk hik
    have p1 := ((hr.2 0 (by omega)).2 i hi).1.1
    have p2 := ((hr.2 k hk).2 0 (by omega)).1.1
    have hpos : 0 < Z 0 i * Z k 0 := Int.mul_pos (by omega) (by omega)
    refine Int.eq_of_mul_eq_mul_right (a := Z 0 i * Z k 0) (Int.ne_of_gt hpos) ?_
    calc Z i 0 * Z 0 k * (Z 0 i * Z k 0) = (Z 0 i * Z i 0) * (Z 0 k * Z k 0) := by ac_rfl
      _ = 12 * (Z 0 i * Z i k * Z k 0) := by rw [hb1, hb2, h3]; rfl
      _ = 12 * Z i k * (Z 0 i * Z k 0) := by ac_rfl
  · exact fun h D _ hx => ring_mid hr h hx

/-- The table is fair. -/
def FairOk (n : Nat) (L : Nat → Nat) (Z : Nat → Nat → Int) : Prop := IsRates n L Z ∧ FairMid n Z
end
end Go.Proofs.YtabdbgnkiebcdaaDoor

namespace Go.Proofs.YtabdbgnkiebcdaaDoor
set_option linter.unusedVariables false

/-- The product along a list. -/
def along (Z : Nat → Nat → Int) : List Int → Int
  | [] => 1
  | [_] => 1
  | x :: y :: l => Z x.toNat y.toNat * along Z (y :: l)
theorem along_snoc (Z : Nat → Nat → Int) : ∀ (l : List Int) (x y : Int), along Z (l ++ [x, y]) = along Z (l ++ [x]) * Z x.toNat y.toNat
  | [], x, y => by simp [along]
  | [a], x, y => by simp [along]
  | a :: b :: l, x, y => by
    show Z a.toNat b.toNat * along Z ((b :: l) ++ [x, y]) = Z a.toNat b.toNat * along Z ((b :: l) ++ [x]) * Z x.toNat y.toNat
    rw [along_snoc Z (b :: l) x y, Int.mul_assoc]
/-- With rows and columns exchanged it is the product backwards. -/
theorem along_back (Z : Nat → Nat → Int) : ∀ l : List Int, along (turnX Z) l.reverse = along Z l
  | [] => rfl
  | [_] => rfl
  | x :: y :: l => by
    rw [List.reverse_cons, List.reverse_cons, List.append_assoc]
    show along (turnX Z) (l.reverse ++ [y, x]) = Z x.toNat y.toNat * along Z (y :: l)
    rw [along_snoc, ← List.reverse_cons, along_back Z (y :: l), Int.mul_comm]
    rfl
/-- valF is a product along a list. -/
theorem valF_along {Z : Nat → Nat → Int} {W : Nat → Int} {v : Int} (k : Nat) : valF Z W v k = v * along Z ((List.range (k + 1)).map W) := by
  induction k with
  | zero => show v = v * 1; rw [Int.mul_one]
  | succ k ih =>
    have e : (List.range (k + 2)).map W = (List.range k).map W ++ [W k, W (k + 1)] := by rw [List.range_succ, List.range_succ]; simp
    have e' : (List.range (k + 1)).map W = (List.range k).map W ++ [W k] := by rw [List.range_succ]; simp
    rw [e'] at ih
    show valF Z W v k * Z (W k).toNat (W (k + 1)).toNat = v * along Z ((List.range (k + 2)).map W)
    rw [e, ih, along_snoc, Int.mul_assoc]
theorem map_nth (D : List Int) : (List.range D.length).map (nth D) = D := by
  refine List.ext_getElem (by simp) fun i h1 h2 => ?_
  simp only [List.getElem_map, List.getElem_range]
  unfold nth
  rw [List.getD_eq_getElem?_getD, List.getElem?_eq_getElem h2]
  rfl
/-- A round's value. -/
theorem roundV_along {n : Nat} {Z : Nat → Nat → Int} {a : Int} {t : List Int} : roundV n Z (a :: t).length (nth (a :: t)) = p12 ((n : Int) - ((a :: t).length + 1 : Nat) + 1).toNat * along Z (a :: t ++ [a]) := by
  unfold roundV
  rw [valF_along]
  congr 2
  rw [List.range_succ, List.map_append]
  have h1 : (List.range (a :: t).length).map (closeF (a :: t).length (nth (a :: t))) = a :: t := by
    rw [List.map_congr_left (g := nth (a :: t)) (fun i hi => by unfold closeF; rw [if_pos (List.mem_range.1 hi)]), map_nth]
  rw [h1]
  congr 1
  show [closeF (a :: t).length (nth (a :: t)) (a :: t).length] = [a]
  unfold closeF
  rw [if_neg (Nat.lt_irrefl _)]
  rfl
/-- A round the other way round: it begins with the same one. -/
def backL : List Int → List Int
  | [] => []
  | a :: t => a :: t.reverse
theorem backL_back (D : List Int) : backL (backL D) = D := by
  cases D with
  | nil => rfl
  | cons a t => show a :: t.reverse.reverse = a :: t; rw [List.reverse_reverse]
theorem backL_length (D : List Int) : (backL D).length = D.length := by
  cases D with
  | nil => rfl
  | cons a t => show (a :: t.reverse).length = (a :: t).length; simp
theorem roundV_back {n : Nat} {Z : Nat → Nat → Int} {D : List Int} (h : 1 ≤ D.length) : roundV n (turnX Z) (backL D).length (nth (backL D)) = roundV n Z D.length (nth D) := by
  cases D with
  | nil => simp at h
  | cons a t =>
    show roundV n (turnX Z) (a :: t.reverse).length (nth (a :: t.reverse)) = _
    rw [roundV_along, roundV_along]
    have e : a :: t.reverse ++ [a] = (a :: t ++ [a]).reverse := by simp
    rw [e, along_back]
    simp
/-- Different numbers of a range, said of members. -/
theorem diff_mem {n : Nat} {D : List Int} : Diff n D ↔ (∀ x, x ∈ D → 0 ≤ x ∧ x < n) ∧ D.Nodup := by
  constructor
  · intro h
    refine ⟨fun x hx => ?_, ?_⟩
    · obtain ⟨j, hj, rfl⟩ := mem_nth.1 hx
      exact h.1 j hj
    · rw [List.nodup_iff_pairwise_ne, List.pairwise_iff_getElem]
      intro i j hi hj hij e
      refine h.2 i j hij hj ?_
      unfold nth
      rw [List.getD_eq_getElem?_getD, List.getD_eq_getElem?_getD, List.getElem?_eq_getElem hi, List.getElem?_eq_getElem hj]
      exact e
  · rintro ⟨h1, h2⟩
    refine ⟨fun i hi => h1 _ (mem_nth.2 ⟨i, hi, rfl⟩), fun i j hij hj e => ?_⟩
    rw [List.nodup_iff_pairwise_ne, List.pairwise_iff_getElem] at h2
    refine h2 i j (by omega) hj hij ?_
    unfold nth at e
    rw [List.getD_eq_getElem?_getD, List.getD_eq_getElem?_getD, List.getElem?_eq_getElem (show i < D.length by omega), List.getElem?_eq_getElem hj] at e
    exact e
/-- A round begins with the least one. -/
theorem ring_mem {n : Nat} {a : Int} {t : List Int} : IsRing n (a :: t).length (nth (a :: t)) ↔ Diff n (a :: t) ∧ 1 ≤ t.length ∧ ∀ x, x ∈ t → a < x := by
  constructor
  · rintro ⟨⟨hd, h2, _⟩, hg⟩
    refine ⟨hd, by simp at h2; omega, fun x hx => ?_⟩
    obtain ⟨j, hj, rfl⟩ := mem_nth.1 hx
    have := hg (j + 1) (by omega) (by simp; omega)
    simpa [nth] using this
  · rintro ⟨hd, h1, hg⟩
    refine ⟨⟨hd, by simp; omega, diff_le hd⟩, fun i hi hi2 => ?_⟩
    obtain ⟨j, rfl⟩ : ∃ j, i = j + 1 := ⟨i - 1, by omega⟩
    have := hg (nth t j) (mem_nth.2 ⟨j, by simp at hi2; omega, rfl⟩)
    simpa [nth] using this
theorem ring_back {n : Nat} {D : List Int} (h : IsRing n D.length (nth D)) : IsRing n (backL D).length (nth (backL D)) := by
  cases D with
  | nil => exact absurd h.1.2.1 (by simp)
  | cons a t =>
    obtain ⟨hd, h1, hg⟩ := ring_mem.1 h
    show IsRing n (a :: t.reverse).length (nth (a :: t.reverse))
    refine ring_mem.2 ⟨?_, by simpa using h1, fun x hx => hg x (by simpa using hx)⟩
    rw [diff_mem] at hd ⊢
    refine ⟨fun x hx => hd.1 x (by simpa using hx), ?_⟩
    have := hd.2
    rw [List.nodup_cons] at this ⊢
    refine ⟨by simpa using this.1, ?_⟩
    rw [List.nodup_iff_pairwise_ne, List.pairwise_reverse]
    exact List.Pairwise.imp (fun h e => h e.symm) (List.nodup_iff_pairwise_ne.1 this.2)
theorem gains_back {n : Nat} {Z : Nat → Nat → Int} {D : List Int} (h : Gains n Z D) : Gains n (turnX Z) (backL D) :=
  ⟨ring_back h.1, by rw [roundV_back (by have := h.1.1.2.1; omega)]; exact h.2⟩
theorem turn_turn (Z : Nat → Nat → Int) : turnX (turnX Z) = Z := rfl
theorem mem_gaining {n : Nat} {Z : Nat → Nat → Int} {D : List Int} : D ∈ gaining n Z ↔ Gains n Z D := by
  unfold gaining
  rw [List.mem_filter]
  constructor
  · rintro ⟨_, h⟩; exact tt_iff.1 h
  · intro h; exact ⟨mem_all h.1.1.1 h.1.1.2.1, tt_of h⟩

theorem nodup_flat {α : Type} {f : Nat → List α} : ∀ {l : List Nat}, l.Nodup → (∀ x, x ∈ l → (f x).Nodup) → (∀ x y, x ∈ l → y ∈ l → x ≠ y → ∀ z, z ∈ f x → ¬ z ∈ f y) → (l.flatMap f).Nodup
  | [], _, _, _ => List.nodup_nil
  | x :: l, h, hf, hd => by
    rw [List.flatMap_cons, List.nodup_append]
    rw [List.nodup_cons] at h
    refine ⟨hf x (by simp), nodup_flat h.2 (fun y hy => hf y (by simp [hy])) (fun y z hy hz => hd y z (by simp [hy]) (by simp [hz])), fun a ha b hb e => ?_⟩
    subst e
    rw [List.mem_flatMap] at hb
    obtain ⟨y, hy, hb⟩ := hb
    exact hd x y (by simp) (by simp [hy]) (fun e => h.1 (by rw [e]; exact hy)) a ha hb
theorem longer_pre {n f : Nat} : ∀ (B : List Int) (D : List Int), D ∈ longer n f B → B <+: D := by
  induction f with
  | zero =>
    intro B D h
    unfold longer at h
    by_cases e : 2 ≤ B.length
    · rw [if_pos e] at h; simp at h; subst h; exact List.prefix_refl _
    · rw [if_neg e] at h; simp at h
  | succ f ih =>
    intro B D h
    unfold longer at h
    rw [List.mem_append] at h
    rcases h with h | h
    · by_cases e : 2 ≤ B.length
      · rw [if_pos e] at h; simp at h; subst h; exact List.prefix_refl _
      · rw [if_neg e] at h; simp at h
    · rw [List.mem_flatMap] at h
      obtain ⟨x, hx, h⟩ := h
      by_cases e : (x : Int) ∈ B
      · rw [if_pos e] at h; simp at h
      · rw [if_neg e] at h
        exact (List.prefix_append _ _).trans (ih _ D h)
theorem longer_nodup {n : Nat} : ∀ (f : Nat) (B : List Int), (longer n f B).Nodup
  | 0, B => by
    unfold longer
    by_cases e : 2 ≤ B.length
    · rw [if_pos e]; simp
    · rw [if_neg e]; exact List.nodup_nil
  | f + 1, B => by
    unfold longer
    rw [List.nodup_append]
    refine ⟨?_, ?_, ?_⟩
    · by_cases e : 2 ≤ B.length
      · rw [if_pos e]; simp
      · rw [if_neg e]; exact List.nodup_nil
    · refine nodup_flat List.nodup_range (fun x _ => ?_) (fun x y _ _ hxy z hx hy => ?_)
      · by_cases e : (x : Int) ∈ B
        · rw [if_pos e]; exact List.nodup_nil
        · rw [if_neg e]; exact longer_nodup f _
      · by_cases e : (x : Int) ∈ B
        · rw [if_pos e] at hx; simp at hx
        · by_cases e' : (y : Int) ∈ B
          · rw [if_pos e'] at hy; simp at hy
          · rw [if_neg e] at hx
            rw [if_neg e'] at hy
            obtain ⟨u, hu⟩ := longer_pre _ _ hx
            obtain ⟨v, hv⟩ := longer_pre _ _ hy
            rw [← hv, List.append_assoc, List.append_assoc] at hu
            have := List.append_cancel_left hu
            simp at this
            omega
    · intro a ha b hb e
      subst e
      by_cases e : 2 ≤ B.length
      · rw [if_pos e] at ha
        simp at ha
        subst ha
        rw [List.mem_flatMap] at hb
        obtain ⟨x, hx, hb⟩ := hb
        by_cases e' : (x : Int) ∈ a
        · rw [if_pos e'] at hb; simp at hb
        · rw [if_neg e'] at hb
          have := (longer_pre _ _ hb).length_le
          simp at this
          omega
      · rw [if_neg e] at ha; simp at ha
theorem nodup_le : ∀ {A B : List (List Int)}, A.Nodup → (∀ x, x ∈ A → x ∈ B) → A.length ≤ B.length
  | [], _, _, _ => Nat.zero_le _
  | a :: A, B, h, hs => by
    rw [List.nodup_cons] at h
    have ha := hs a (by simp)
    have h1 : A.length ≤ (B.erase a).length := nodup_le h.2 (fun x hx => (List.mem_erase_of_ne (fun e => h.1 (by rw [← e]; exact hx))).2 (hs x (by simp [hx])))
    rw [List.length_erase_of_mem ha] at h1
    have h2 := List.length_pos_of_mem ha
    simp only [List.length_cons]
    omega
/-- As many gain the other way round. -/
theorem gaining_turn (n : Nat) (Z : Nat → Nat → Int) : (gaining n (turnX Z)).length = (gaining n Z).length := by
  have hnd : ∀ Y, (gaining n Y).Nodup := fun Y => (longer_nodup n []).filter _
  have hle : ∀ Y, (gaining n Y).length ≤ (gaining n (turnX Y)).length := fun Y => by
    have h1 : ((gaining n Y).map backL).Nodup := by
      rw [List.nodup_iff_pairwise_ne, List.pairwise_map]
      refine List.Pairwise.imp ?_ (List.nodup_iff_pairwise_ne.1 (hnd Y))
      intro a b hab e
      exact hab (by rw [← backL_back a, e, backL_back])
    have h2 : ∀ D, D ∈ (gaining n Y).map backL → D ∈ gaining n (turnX Y) := by
      intro D hD
      rw [List.mem_map] at hD
      obtain ⟨E, hE, rfl⟩ := hD
      exact mem_gaining.2 (gains_back (mem_gaining.1 hE))
    have := nodup_le h1 h2
    rwa [List.length_map] at this
  have h1 := hle Z
  have h2 := hle (turnX Z)
  rw [turn_turn] at h2
  omega
end Go.Proofs.YtabdbgnkiebcdaaDoor

namespace Go.Proofs.YtabdbgnkiebcdaaDoor
set_option linter.unusedVariables false

/-- The value of a way. -/
def wayV (n : Nat) (Z : Nat → Nat → Int) (D : List Int) : Int := valF Z (nth D) (p12 ((n : Int) - 1 - D.length + 1).toNat) (D.length - 1)
/-- The greatest value, b at least, of those of the ways LL that end at k. -/
def bestL (n : Nat) (Z : Nat → Nat → Int) (k b : Int) (LL : List (List Int)) : Int := LL.foldl (fun v D => if nth D (D.length - 1) = k then max v (wayV n Z D) else v) b
theorem bestL_snoc {n : Nat} {Z : Nat → Nat → Int} {k b : Int} {LL : List (List Int)} {D : List Int} : bestL n Z k b (LL ++ [D]) = if nth D (D.length - 1) = k then max (bestL n Z k b LL) (wayV n Z D) else bestL n Z k b LL := by
  unfold bestL; rw [List.foldl_append]; rfl
theorem bestL_yes {n : Nat} {Z : Nat → Nat → Int} {k b : Int} {LL : List (List Int)} {D : List Int} (h : nth D (D.length - 1) = k) : bestL n Z k b (LL ++ [D]) = max (bestL n Z k b LL) (wayV n Z D) := by rw [bestL_snoc, if_pos h]
theorem bestL_no {n : Nat} {Z : Nat → Nat → Int} {k b : Int} {LL : List (List Int)} {D : List Int} (h : ¬ nth D (D.length - 1) = k) : bestL n Z k b (LL ++ [D]) = bestL n Z k b LL := by rw [bestL_snoc, if_neg h]
theorem bestL_none {n : Nat} {Z : Nat → Nat → Int} {k b : Int} (LL : List (List Int)) (h : ∀ D, D ∈ LL → nth D (D.length - 1) ≠ k) : bestL n Z k b LL = b := by
  unfold bestL
  induction LL with
  | nil => rfl
  | cons D LL ih =>
    rw [List.foldl_cons, if_neg (h D (by simp))]
    exact ih (fun E hE => h E (by simp [hE]))
theorem bestL_congr {n : Nat} {Y Z : Nat → Nat → Int} {k b : Int} (LL : List (List Int)) (h : ∀ D, D ∈ LL → wayV n Y D = wayV n Z D) : bestL n Y k b LL = bestL n Z k b LL := by
  unfold bestL
  induction LL generalizing b with
  | nil => rfl
  | cons D LL ih =>
    rw [List.foldl_cons, List.foldl_cons, h D (by simp)]
    exact ih (fun E hE => h E (by simp [hE]))
/-- What RateBest answers. -/
noncomputable def bestAns (n : Nat) (L : Nat → Nat) (Z : Nat → Nat → Int) (i k : Int) : Int := if tt (TwoOk n L Z i k) = true then bestL n Z k (if i = k then p12 (n - 1) else 0) (longer n (n - 1) [i]) else 0
theorem bestAns_no {n : Nat} {L : Nat → Nat} {Z : Nat → Nat → Int} {i k : Int} (h : ¬ TwoOk n L Z i k) : bestAns n L Z i k = 0 := by unfold bestAns; rw [tt_no h]; rfl
theorem bestAns_yes {n : Nat} {L : Nat → Nat} {Z : Nat → Nat → Int} {i k : Int} (h : TwoOk n L Z i k) : bestAns n L Z i k = bestL n Z k (if i = k then p12 (n - 1) else 0) (longer n (n - 1) [i]) := by unfold bestAns; rw [tt_of h]; rfl
theorem front_nth {f n : Nat} : ∀ (B : List Int) (D : List Int), D ∈ longer n f B → B <+: D := by
  induction f with
  | zero =>
    intro B D h
    unfold longer at h
    by_cases e : 2 ≤ B.length
    · rw [if_pos e] at h; simp at h; subst h; exact List.prefix_refl _
    · rw [if_neg e] at h; simp at h
  | succ f ih =>
    intro B D h
    unfold longer at h
    rw [List.mem_append] at h
    rcases h with h | h
    · by_cases e : 2 ≤ B.length
      · rw [if_pos e] at h; simp at h; subst h; exact List.prefix_refl _
      · rw [if_neg e] at h; simp at h
    · rw [List.mem_flatMap] at h
      obtain ⟨x, hx, h⟩ := h
      by_cases e : (x : Int) ∈ B
      · rw [if_pos e] at h; simp at h
      · rw [if_neg e] at h
        exact (List.prefix_append _ _).trans (ih _ D h)
/-- All lists behind [i] are ways that begin with i. -/
theorem ways_of {n i : Nat} (hi : i < n) {D : List Int} (h : D ∈ longer n (n - 1) [(i : Int)]) : IsWay n D.length (nth D) ∧ nth D 0 = i := by
  have hd : Diff n [(i : Int)] := by
    have := (Diff.nil n).snoc_iff (x := i) hi
    simp at this
    exact this
  have h1 := mem_longer (n - 1) [(i : Int)] hd D h
  refine ⟨⟨h1.1, h1.2, diff_le h1.1⟩, ?_⟩
  obtain ⟨z, rfl⟩ := front_nth _ D h
  rfl
/-- Round trips are no ways. -/
theorem best_same {n i : Nat} {Z : Nat → Nat → Int} {b : Int} (hi : i < n) : bestL n Z i b (longer n (n - 1) [(i : Int)]) = b := by
  refine bestL_none _ fun D hD => ?_
  obtain ⟨hw, h0⟩ := ways_of hi hD
  have h2 := hw.2.1
  have := hw.1.2 0 (D.length - 1) (by omega) (by omega)
  rw [h0] at this
  exact fun e => this e.symm
end Go.Proofs.YtabdbgnkiebcdaaDoor

namespace Go.Proofs.YtabdbgnkiebcdaaDoor
set_option linter.unusedVariables false

theorem hold_along {n : Nat} {Z : Nat → Nat → Int} {W : Nat → Int} (hW : ∀ i, i < n → 1 ≤ W i) (hZ : ∀ i k, i < n → k < n → 0 ≤ Z i k) (hh : ∀ i, i < n → ∀ k, k < n → Z i k * W k ≤ 12 * W i) {X : Nat → Int} {v : Int} (hv : 0 ≤ v) (k : Nat)
    (hX : ∀ j, j ≤ k → 0 ≤ X j ∧ X j < n) : 0 ≤ valF Z X v k ∧ valF Z X v k * W (X k).toNat ≤ v * 12 ^ k * W (X 0).toNat := by
  induction k with
  | zero => exact ⟨hv, by show v * W (X 0).toNat ≤ v * 12 ^ 0 * W (X 0).toNat; rw [Int.pow_zero, Int.mul_one]; exact Int.le_refl _⟩
  | succ k ih =>
    obtain ⟨h1, h2⟩ := ih (fun j hj => hX j (by omega))
    have hk := hX k (by omega)
    have hk1 := hX (k + 1) (by omega)
    have hz := hZ (X k).toNat (X (k + 1)).toNat (by omega) (by omega)
    refine ⟨Int.mul_nonneg h1 hz, ?_⟩
    have e := hh (X k).toNat (by omega) (X (k + 1)).toNat (by omega)
    calc valF Z X v k * Z (X k).toNat (X (k + 1)).toNat * W (X (k + 1)).toNat = valF Z X v k * (Z (X k).toNat (X (k + 1)).toNat * W (X (k + 1)).toNat) := by rw [Int.mul_assoc]
      _ ≤ valF Z X v k * (12 * W (X k).toNat) := Int.mul_le_mul_of_nonneg_left e h1
      _ = 12 * (valF Z X v k * W (X k).toNat) := by rw [Int.mul_left_comm]
      _ ≤ 12 * (v * 12 ^ k * W (X 0).toNat) := Int.mul_le_mul_of_nonneg_left h2 (by decide)
      _ = v * 12 ^ (k + 1) * W (X 0).toNat := by rw [Int.pow_succ]; ac_rfl
theorem p12_pow (k : Nat) : p12 k = 12 ^ k := by
  induction k with
  | zero => rfl
  | succ k ih => rw [Int.pow_succ, ← ih]; first | rfl | (show 12 * p12 k = _; rw [Int.mul_comm])
/-- Where prices hold no round gains. -/
theorem holds_none {n : Nat} {L : Nat → Nat} {Z : Nat → Nat → Int} {W : Nat → Int} (h : HoldsOk n L Z n W) : (gaining n Z).length = 0 := by
  have hr : IsRates n L Z := h.1.1.1
  have hp : IsPrices n W := h.1.1.2
  refine List.length_eq_zero_iff.2 (List.filter_eq_nil_iff.2 fun D hD => ?_)
  have hno : ¬ Gains n Z D := by
    rintro ⟨hring, hg⟩
    have hway := hring.1
    have hm2 := hway.2.1
    have hmn := hway.2.2
    have hn : 1 ≤ n := by omega
    have hc := closeF_in hway
    have h0 := (hold_along (n := n) (Z := Z) (W := W) (fun i hi => (hp.2 i hi).1) (fun i k hi hk => by have := ((hr.2 i hi).2 k hk).1; omega) h.2 (X := closeF D.length (nth D)) (v := p12 ((n : Int) - (D.length + 1 : Nat) + 1).toNat)
      (by rw [p12_pow]; exact Int.pow_nonneg (by decide)) D.length (fun j _ => hc j)).2
    have e1 : closeF D.length (nth D) D.length = nth D 0 := by unfold closeF; rw [if_neg (Nat.lt_irrefl _)]
    have e2 : closeF D.length (nth D) 0 = nth D 0 := by unfold closeF; rw [if_pos (by omega)]
    rw [e1, e2] at h0
    have e3 : ((n : Int) - (D.length + 1 : Nat) + 1).toNat = n - D.length := by omega
    have h1 := (hp.2 (nth D 0).toNat (by have := hway.1.1 0 (by omega); omega)).1
    have h2 : p12 ((n : Int) - (D.length + 1 : Nat) + 1).toNat * 12 ^ D.length = p12 n := by
      rw [e3, p12_pow, p12_pow, ← Int.pow_add, show n - D.length + D.length = n by omega]
    rw [h2] at h0
    have h3 : roundV n Z D.length (nth D) * W (nth D 0).toNat ≤ p12 n * W (nth D 0).toNat := h0
    have := Int.le_of_mul_le_mul_right h3 (by omega)
    omega
  rw [tt_no hno]; simp
end Go.Proofs.YtabdbgnkiebcdaaDoor

namespace Go.Proofs.YtabdbgnkiebcdaaDoor
set_option linter.unusedVariables false

theorem along_join (Z : Nat → Nat → Int) : ∀ (l : List Int) (x : Int) (r : List Int), along Z (l ++ x :: r) = along Z (l ++ [x]) * along Z (x :: r)
  | [], x, r => by simp [along]
  | [a], x, r => by
    show Z a.toNat x.toNat * along Z (x :: r) = Z a.toNat x.toNat * 1 * along Z (x :: r)
    rw [Int.mul_one]
  | a :: b :: l, x, r => by
    show Z a.toNat b.toNat * along Z ((b :: l) ++ x :: r) = Z a.toNat b.toNat * along Z ((b :: l) ++ [x]) * along Z (x :: r)
    rw [along_join Z (b :: l) x r, Int.mul_assoc]
theorem along_nonneg {n : Nat} {Z : Nat → Nat → Int} (hZ : ∀ i k, i < n → k < n → 0 ≤ Z i k) : ∀ l : List Int, (∀ x, x ∈ l → 0 ≤ x ∧ x < n) → 0 ≤ along Z l
  | [], _ => by show (0 : Int) ≤ 1; decide
  | [_], _ => by show (0 : Int) ≤ 1; decide
  | x :: y :: l, h => by
    have hx := h x (by simp)
    have hy := h y (by simp)
    exact Int.mul_nonneg (hZ _ _ (by omega) (by omega)) (along_nonneg hZ (y :: l) (fun z hz => h z (List.mem_cons_of_mem _ hz)))

/-- A walk of s changes from i to y. -/
structure Walk (n : Nat) (i y : Int) (s : Nat) (W : List Int) : Prop where
  len : W.length = s + 1
  first : W.head? = some i
  last : W.getLast? = some y
  mem : ∀ x, x ∈ W → 0 ≤ x ∧ x < n

theorem walk_le {n : Nat} {Z : Nat → Nat → Int} (hZ : ∀ i k, i < n → k < n → 0 ≤ Z i k) {i : Nat} : ∀ (s : Nat) (y : Nat) (W : List Int), Walk n i y s W → along Z W ≤ stepV Z n i s y
  | 0, y, W, h => by
    have hl := h.len
    match W, hl with
    | [x], _ =>
      have h1 := h.first
      have h2 := h.last
      simp at h1 h2
      have : y = i := by omega
      show (1 : Int) ≤ if y = i then 1 else 0
      rw [if_pos this]; decide
  | s + 1, y, W, h => by
    have hl := h.len
    obtain ⟨V, z, rfl⟩ : ∃ V z, W = V ++ [z] := ⟨W.dropLast, W.getLast (by intro e; rw [e] at hl; simp at hl), (List.dropLast_concat_getLast _).symm⟩
    have hz : z = y := by have := h.last; simpa using this
    subst hz
    obtain ⟨U, x, rfl⟩ : ∃ U x, V = U ++ [x] := ⟨V.dropLast, V.getLast (by intro e; rw [e] at hl; simp at hl), (List.dropLast_concat_getLast _).symm⟩
    have hx := h.mem x (by simp)
    have hy := h.mem (y : Int) (by simp)
    obtain ⟨x', rfl⟩ := Int.eq_ofNat_of_zero_le hx.1
    have hw : Walk n i x' s (U ++ [(x' : Int)]) := ⟨by simp at hl ⊢; omega, by
      have := h.first
      cases U with
      | nil => simpa using this
      | cons u U => simpa using this, by simp, fun z hz => h.mem z (by simp at hz ⊢; rcases hz with e | e <;> simp [e])⟩
    have ih := walk_le hZ s x' _ hw
    rw [show U ++ [(x' : Int)] ++ [(y : Int)] = U ++ [(x' : Int), (y : Int)] by simp, along_snoc]
    have h1 : (fun x => stepV Z n i s x * Z x y) x' ≤ rmax (fun x => stepV Z n i s x * Z x y) n := rmax_ge (by omega)
    have h2 : along Z (U ++ [(x' : Int)]) * Z x' y ≤ stepV Z n i s x' * Z x' y := Int.mul_le_mul_of_nonneg_right ih (hZ _ _ (by omega) (by omega))
    exact Int.le_trans h2 h1
theorem rmax_at {f : Nat → Int} : ∀ (k : Nat), 0 < rmax f k → ∃ j, j < k ∧ f j = rmax f k
  | 0, h => by simp [rmax] at h
  | k + 1, h => by
    by_cases e : rmax f k ≤ f k
    · exact ⟨k, by omega, by show f k = max (rmax f k) (f k); omega⟩
    · have h1 : rmax f (k + 1) = rmax f k := by show max (rmax f k) (f k) = _; omega
      rw [h1] at h
      obtain ⟨j, hj, e2⟩ := rmax_at k h
      exact ⟨j, by omega, by rw [h1]; exact e2⟩
theorem walk_some {n : Nat} {Z : Nat → Nat → Int} (hZ : ∀ i k, i < n → k < n → 0 ≤ Z i k) {i : Nat} (hi : i < n) : ∀ (s : Nat) (y : Nat), y < n → 0 < stepV Z n i s y → ∃ W, Walk n i y s W ∧ along Z W = stepV Z n i s y
  | 0, y, hy, h => by
    have e : y = i := by
      by_cases e : y = i
      · exact e
      · exfalso; simp [stepV, e] at h
    subst e
    exact ⟨[(y : Int)], ⟨rfl, rfl, rfl, fun x hx => by simp at hx; omega⟩, by simp [along, stepV]⟩
  | s + 1, y, hy, h => by
    obtain ⟨x, hx, e⟩ := rmax_at (f := fun x => stepV Z n i s x * Z x y) n h
    have h1 : 0 < stepV Z n i s x * Z x y := by
      have : stepV Z n i s x * Z x y = stepV Z n i (s + 1) y := e
      omega
    have h2 : 0 < stepV Z n i s x := by
      have hz := hZ x y hx hy
      rcases Int.lt_or_le 0 (stepV Z n i s x) with h' | h'
      · exact h'
      · have := Int.mul_nonpos_of_nonpos_of_nonneg h' hz
        omega
    obtain ⟨W, hW, eW⟩ := walk_some hZ hi s x hx h2
    obtain ⟨U, z, rfl⟩ : ∃ U z, W = U ++ [z] := ⟨W.dropLast, W.getLast (by intro e; have := hW.len; rw [e] at this; simp at this), (List.dropLast_concat_getLast _).symm⟩
    have hz : z = x := by have := hW.last; simpa using this
    subst hz
    refine ⟨U ++ [(x : Int), (y : Int)], ⟨by have := hW.len; simp at this ⊢; omega, ?_, by simp, fun z hz => ?_⟩, ?_⟩
    · have := hW.first
      cases U with
      | nil => simpa using this
      | cons u U => simpa using this
    · simp at hz
      rcases hz with hz | hz | hz
      · exact hW.mem z (by simp [hz])
      · exact hW.mem z (by simp [hz])
      · omega
    · rw [along_snoc, eW]
      exact e
end Go.Proofs.YtabdbgnkiebcdaaDoor
