/- Lists of lists of integers as tables of a call's own, in the making and made; rows that are written. -/
import Derived.Test.YtnaegnjgpnakfaaDoorMem
namespace Go.Proofs.YtnaegnjgpnakfaaDoor
set_option linter.unusedVariables false
set_option linter.unusedSimpArgs false
open Go.RowKit

theorem OwnR.set {w : World} {b n : Nat} {X : Nat → Int} (h : OwnR w b (some ⟨b, 0, none⟩) n X) {k : Nat} (hk : k < n) (v : Int) : OwnR (w.setCell ⟨b, k, none⟩ (.int .i64 v)) b (some ⟨b, 0, none⟩) n (fun j => if j = k then v else X j) := by
  rcases h with h0 | ⟨o, ha, hc⟩
  · exact .inl h0
  · simp only [Option.some.injEq, Addr.mk.injEq, true_and, and_true] at ha
    subst ha
    refine .inr ⟨0, rfl, fun j hj => ?_⟩
    have h1 := hc j hj
    rw [Nat.zero_add] at h1 ⊢
    have hck := (hc k hk).1
    rw [Nat.zero_add] at hck
    dsimp only
    by_cases e : j = k
    · subst e
      rw [if_pos rfl]
      exact ⟨World.cell?_setCell_same _ _ _ h1.1, by rw [World.frozen?_setCell]; exact h1.2⟩
    · rw [if_neg e]
      exact ⟨by rw [World.cell?_setCell_other _ _ _ _ (fun e' => e (by injection e' with _ e2; exact e2.symm))]; exact h1.1, by rw [World.frozen?_setCell]; exact h1.2⟩

/-- What a call hands back: a row of its own. -/
def RetI (n : Nat) (X : Nat → Int) (w : World) (e : Ending) (w' : World) : Prop :=
  ∃ g cap, e = .returned (.slice (some ⟨g, 0, none⟩) n cap) ∧ (w.heap.size ≤ g ∧ g < w'.heap.size ∧ n ≤ cap) ∧ OwnR w' g (some ⟨g, 0, none⟩) n X ∧ Below w.heap.size w w'

theorem OwnR.at {w : World} {b n : Nat} {X : Nat → Int} (h : OwnR w b (some ⟨b, 0, none⟩) n X) {k : Nat} (hk : k < n) : w.cell? ⟨b, k, none⟩ = some (.int .i64 (X k)) ∧ w.frozen? ⟨b, k, none⟩ = false := by
  rcases h with h0 | ⟨o, ha, hc⟩
  · omega
  · simp only [Option.some.injEq, Addr.mk.injEq, true_and, and_true] at ha
    subst ha
    have := hc k hk
    rwa [Nat.zero_add] at this
theorem OwnR.congr {w : World} {b n : Nat} {a : Option Addr} {X Y : Nat → Int} (h : OwnR w b a n X) (e : ∀ k, k < n → X k = Y k) : OwnR w b a n Y := by
  rcases h with h0 | ⟨o, ha, hc⟩
  · exact .inl h0
  · exact .inr ⟨o, ha, fun k hk => by rw [← e k hk]; exact hc k hk⟩

/-- The lengths of lists, and their numbers. -/
def lenL (LL : List (List Int)) (r : Nat) : Nat := (LL.getD r []).length
def nthL (LL : List (List Int)) (r k : Nat) : Int := nth (LL.getD r []) k
theorem getD_left {A B : List (List Int)} {r : Nat} (h : r < A.length) : (A ++ B).getD r [] = A.getD r [] := by
  rw [List.getD_eq_getElem?_getD, List.getD_eq_getElem?_getD, List.getElem?_append_left h]
theorem getD_right {A B : List (List Int)} {r : Nat} : (A ++ B).getD (A.length + r) [] = B.getD r [] := by
  rw [List.getD_eq_getElem?_getD, List.getD_eq_getElem?_getD, List.getElem?_append_right (Nat.le_add_right _ _), Nat.add_sub_cancel_left]

/-- Two tables in the making, the rows of the second one put behind those of the first one. -/
theorem Making.join {tS B B' i j : Nat} {w w1 : World} {v v' : Value} {G Cp L G' Cp' L' L3 : Nat → Nat} {X X' X3 : Nat → Nat → Int} {g cap H : Nat} (h : Making tS B w v i G Cp L X) (h' : Making tS B' w v' j G' Cp' L' X')
    (hBB : B ≤ B') (hG : ∀ r, r < i → G r < B') (hv : ∀ k, v.ownBlock = some k → k < B')
    (hL1 : ∀ r, r < i → L3 r = L r ∧ X3 r = X r) (hL2 : ∀ r, r < j → L3 (i + r) = L' r ∧ X3 (i + r) = X' r)
    (hown : w1.ownsRow B tS 1 (.slice (some ⟨g, 0, none⟩) (i + j) cap) (i + j) ((List.range i).map (fun r => Value.slice (some ⟨G r, 0, none⟩) (L r) (Cp r)) ++ (List.range j).map (fun r => Value.slice (some ⟨G' r, 0, none⟩) (L' r) (Cp' r))))
    (hgrow : w.grownBy w1 v.ownBlock) (hat : v.ownBlock = some g ∨ g = H) (hH : w.heap.size ≤ H) :
    Making tS B w1 (.slice (some ⟨g, 0, none⟩) (i + j) cap) (i + j) (fun r => if r < i then G r else G' (r - i)) (fun r => if r < i then Cp r else Cp' (r - i)) L3 X3 := by
  obtain ⟨h1, h2, h3⟩ := h
  obtain ⟨k1, k2, k3⟩ := h'
  have hgne : ∀ x, x < w.heap.size → v.ownBlock ≠ some x → g ≠ x := by
    intro x hx hne e
    rcases hat with h' | h'
    · exact hne (by rw [h', e])
    · omega
  have hvG' : ∀ r, r < j → v.ownBlock ≠ some (G' r) := fun r hr e => by
    have := hv _ e
    have := (k2 r hr).1
    omega
  refine ⟨?_, fun r hr => ?_, fun r s hr hs hrs => ?_⟩
  · have e : (List.range (i + j)).map (fun r => Value.slice (some ⟨if r < i then G r else G' (r - i), 0, none⟩) (L3 r) (if r < i then Cp r else Cp' (r - i))) = (List.range i).map (fun r => Value.slice (some ⟨G r, 0, none⟩) (L r) (Cp r)) ++ (List.range j).map (fun r => Value.slice (some ⟨G' r, 0, none⟩) (L' r) (Cp' r)) := by
      rw [List.range_add, List.map_append, List.map_map]
      congr 1
      · exact List.map_congr_left fun r hr => by
          have hr' := List.mem_range.1 hr
          rw [if_pos hr', if_pos hr', (hL1 r hr').1]
      · exact List.map_congr_left fun r hr => by
          have hr' := List.mem_range.1 hr
          show Value.slice (some ⟨if i + r < i then G (i + r) else G' (i + r - i), 0, none⟩) (L3 (i + r)) (if i + r < i then Cp (i + r) else Cp' (i + r - i)) = _
          rw [if_neg (by omega), if_neg (by omega), Nat.add_sub_cancel_left, (hL2 r hr').1]
    show w1.ownsRow B tS 1 _ (i + j) ((List.range (i + j)).map (fun r => Value.slice (some ⟨if r < i then G r else G' (r - i), 0, none⟩) (L3 r) (if r < i then Cp r else Cp' (r - i))))
    rw [e]
    exact hown
  · show B ≤ (if r < i then G r else G' (r - i)) ∧ (if r < i then G r else G' (r - i)) < w1.heap.size ∧ _ ≠ some (if r < i then G r else G' (r - i)) ∧ OwnR w1 (if r < i then G r else G' (r - i)) (some ⟨if r < i then G r else G' (r - i), 0, none⟩) (L3 r) (X3 r)
    by_cases e : r < i
    · rw [if_pos e, (hL1 r e).1, (hL1 r e).2]
      obtain ⟨m1, m2, m3, m4⟩ := h2 r e
      exact ⟨m1, Nat.lt_of_lt_of_le m2 hgrow.size, fun h => hgne _ m2 m3 (by simpa [Value.ownBlock] using h), m4.of_block (hgrow.block _ m2 (fun h => m3 h.symm))⟩
    · obtain ⟨s, rfl⟩ : ∃ s, r = i + s := ⟨r - i, by omega⟩
      have hs : s < j := by omega
      rw [if_neg e, (hL2 s hs).1, (hL2 s hs).2, Nat.add_sub_cancel_left]
      obtain ⟨m1, m2, m3, m4⟩ := k2 s hs
      exact ⟨by omega, Nat.lt_of_lt_of_le m2 hgrow.size, fun h => hgne _ m2 (hvG' s hs) (by simpa [Value.ownBlock] using h), m4.of_block (hgrow.block _ m2 (fun h => hvG' s hs h.symm))⟩
  · show (if r < i then G r else G' (r - i)) ≠ (if s < i then G s else G' (s - i))
    by_cases e1 : r < i
    · rw [if_pos e1]
      by_cases e2 : s < i
      · rw [if_pos e2]; exact h3 r s e1 e2 hrs
      · rw [if_neg e2]
        have h4 := hG r e1
        have h5 := (k2 (s - i) (by omega)).1
        omega
    · rw [if_neg e1]
      by_cases e2 : s < i
      · rw [if_pos e2]
        have h4 := hG s e2
        have h5 := (k2 (r - i) (by omega)).1
        omega
      · rw [if_neg e2]; exact k3 (r - i) (s - i) (by omega) (by omega) (by omega)

/-- What a call hands back: a table of its own, made by append, that tells a list of lists. -/
def RetLL (tS : Nat) (LL : List (List Int)) (w : World) (e : Ending) (w' : World) : Prop :=
  ∃ v G Cp, e = .returned v ∧ Making tS w.heap.size w' v LL.length G Cp (lenL LL) (nthL LL) ∧ Below w.heap.size w w'

theorem longer_pos {n f : Nat} {B : List Int} (hn : 2 ≤ n) (h : Diff n B) (h1 : 1 ≤ B.length) (hf : B.length + f = n) : 0 < (longer n f B).length := by
  by_cases h2 : 2 ≤ B.length
  · cases f with
    | zero => unfold longer; rw [if_pos h2]; simp
    | succ f => unfold longer; rw [if_pos h2]; simp
  · have hl : B.length = 1 := by omega
    obtain ⟨y, hy, hyB⟩ : ∃ y : Nat, y < n ∧ ¬ (y : Int) ∈ B := by
      match B, hl with
      | [b], _ =>
        by_cases e : b = 0
        · exact ⟨1, by omega, by simp; omega⟩
        · exact ⟨0, by omega, by simp; omega⟩
    obtain ⟨f', rfl⟩ : ∃ f', f = f' + 1 := ⟨f - 1, by omega⟩
    have h3 : 0 < (longer n f' (B ++ [(y : Int)])).length := by
      cases f' with
      | zero => unfold longer; rw [if_pos (by simp; omega)]; simp
      | succ f => unfold longer; rw [if_pos (by simp; omega)]; simp
    obtain ⟨D, hD⟩ := List.exists_mem_of_length_pos h3
    unfold longer
    rw [List.length_append]
    have : D ∈ (List.range n).flatMap fun (x : Nat) => if (x : Int) ∈ B then [] else longer n f' (B ++ [(x : Int)]) := List.mem_flatMap.2 ⟨y, List.mem_range.2 hy, by rw [if_neg hyB]; exact hD⟩
    have := List.length_pos_of_mem this
    omega

theorem isDiff_congr {n m : Nat} {X Y : Nat → Int} (h : ∀ j, j < m → X j = Y j) : IsDiff n m X ↔ IsDiff n m Y := by
  constructor
  · intro hd
    exact ⟨fun i hi => by rw [← h i hi]; exact hd.1 i hi, fun i j h1 h2 => by rw [← h i (by omega), ← h j h2]; exact hd.2 i j h1 h2⟩
  · intro hd
    exact ⟨fun i hi => by rw [h i hi]; exact hd.1 i hi, fun i j h1 h2 => by rw [h i (by omega), h j h2]; exact hd.2 i j h1 h2⟩
theorem snoc_nth {B : List Int} {x : Int} {j : Nat} (h : j < B.length + 1) : nth (B ++ [x]) j = if j < B.length then nth B j else x := by
  by_cases e : j < B.length
  · rw [if_pos e, nth_snoc_lt e]
  · have : j = B.length := by omega
    rw [if_neg e, this, nth_snoc]
theorem Rd.congr {w : World} {a : Option Addr} {n : Nat} {X Y : Nat → Int} (h : Rd w a n X) (e : ∀ k, k < n → X k = Y k) : Rd w a n Y := fun k hk => by
  obtain ⟨b, o, h1, h2⟩ := h k hk
  exact ⟨b, o, h1, by rw [← e k hk]; exact h2⟩
theorem lists_left {A B : List (List Int)} {r : Nat} (h : r < A.length) : lenL (A ++ B) r = lenL A r ∧ nthL (A ++ B) r = nthL A r := by
  unfold lenL nthL
  rw [getD_left h]
  exact ⟨rfl, rfl⟩
theorem lists_right {A B : List (List Int)} {r : Nat} : lenL (A ++ B) (A.length + r) = lenL B r ∧ nthL (A ++ B) (A.length + r) = nthL B r := by
  unfold lenL nthL
  rw [getD_right]
  exact ⟨rfl, rfl⟩

theorem one_nth {j : Nat} {x : Int} (h : j < 1) : x = nth ([] ++ [x]) j := by
  obtain rfl : j = 0 := by omega
  rfl

/-- Does this list gain, as a round? -/
def Gains (n : Nat) (Z : Nat → Nat → Int) (D : List Int) : Prop := IsRing n D.length (nth D) ∧ p12 n < roundV n Z D.length (nth D)
noncomputable def gainTo (n : Nat) (Z : Nat → Nat → Int) (LL : List (List Int)) (k : Nat) : List (List Int) := (LL.take k).filter fun D => tt (Gains n Z D)
/-- All rounds that gain, in order. -/
noncomputable def gaining (n : Nat) (Z : Nat → Nat → Int) : List (List Int) := (longer n n []).filter fun D => tt (Gains n Z D)
section
variable {n k : Nat} {Z : Nat → Nat → Int} {LL : List (List Int)}
theorem take_snoc (h : k < LL.length) : LL.take (k + 1) = LL.take k ++ [LL.getD k []] := by
  rw [List.take_add_one, List.getElem?_eq_getElem h, List.getD_eq_getElem?_getD, List.getElem?_eq_getElem h]
  rfl
theorem gainTo_yes (h : k < LL.length) (hg : Gains n Z (LL.getD k [])) : gainTo n Z LL (k + 1) = gainTo n Z LL k ++ [LL.getD k []] := by
  unfold gainTo
  rw [take_snoc h, List.filter_append, List.filter_cons_of_pos (by rw [tt_of hg]), List.filter_nil]
theorem gainTo_no (h : k < LL.length) (hg : ¬ Gains n Z (LL.getD k [])) : gainTo n Z LL (k + 1) = gainTo n Z LL k := by
  unfold gainTo
  rw [take_snoc h, List.filter_append, List.filter_cons_of_neg (by rw [tt_no hg]; simp), List.filter_nil, List.append_nil]
theorem gainTo_le : (gainTo n Z LL k).length ≤ k := Nat.le_trans (List.length_filter_le _ _) (by rw [List.length_take]; exact Nat.min_le_left _ _)
theorem gainTo_all : gainTo n Z (longer n n []) (longer n n []).length = gaining n Z := by unfold gainTo gaining; rw [List.take_length]
theorem longerAll_pos (hn : 2 ≤ n) : 0 < (longer n n []).length := by
  have hnd := ((Diff.nil n).snoc_iff (x := 0) (by omega)).2 List.not_mem_nil
  have h3 := longer_pos (f := n - 1) hn hnd (by simp) (by simp; omega)
  obtain ⟨D, hD⟩ := List.exists_mem_of_length_pos h3
  rw [longer_eq (Diff.nil n) (by simp)]
  unfold longerTo
  rw [List.length_append]
  have : D ∈ (List.range n).flatMap fun (x : Nat) => if (x : Int) ∈ ([] : List Int) then [] else longer n (n - 1) ([] ++ [(x : Int)]) := List.mem_flatMap.2 ⟨0, List.mem_range.2 (by omega), by rw [if_neg List.not_mem_nil]; exact hD⟩
  have := List.length_pos_of_mem this
  omega
theorem longerAll_at (h : k < (longer n n []).length) : Diff n ((longer n n []).getD k []) ∧ 2 ≤ ((longer n n []).getD k []).length ∧ ((longer n n []).getD k []).length ≤ n := by
  have h1 : (longer n n []).getD k [] ∈ longer n n [] := by
    rw [List.getD_eq_getElem?_getD, List.getElem?_eq_getElem h]
    exact List.getElem_mem h
  have h2 := mem_longer n [] (Diff.nil n) _ h1
  exact ⟨h2.1, h2.2, diff_le h2.1⟩
end
section
variable {tS B i : Nat} {w w1 : World} {v : Value} {G Cp L L' : Nat → Nat} {X X' : Nat → Nat → Int}
theorem Making.congr (h : Making tS B w v i G Cp L X) (e : ∀ r, r < i → L r = L' r ∧ X r = X' r) : Making tS B w v i G Cp L' X' := by
  obtain ⟨h1, h2, h3⟩ := h
  refine ⟨?_, fun r hr => ?_, h3⟩
  · have e1 : (List.range i).map (fun r => Value.slice (some ⟨G r, 0, none⟩) (L r) (Cp r)) = (List.range i).map (fun r => Value.slice (some ⟨G r, 0, none⟩) (L' r) (Cp r)) := List.map_congr_left fun r hr => by rw [(e r (List.mem_range.1 hr)).1]
    rw [← e1]; exact h1
  · rw [← (e r hr).1, ← (e r hr).2]; exact h2 r hr
theorem Making.grown {row : Option Nat} (h : Making tS B w v i G Cp L X) (hg : w.grownBy w1 row) (hv : ∀ k, v.ownBlock = some k → row ≠ some k) (hG : ∀ r, r < i → row ≠ some (G r)) : Making tS B w1 v i G Cp L X := by
  obtain ⟨h1, h2, h3⟩ := h
  refine ⟨?_, fun r hr => ?_, h3⟩
  · obtain ⟨k1, (k2 | ⟨g, cap, cur, k3, k4, k5, k6⟩)⟩ := h1
    · exact ⟨k1, .inl k2⟩
    · refine ⟨k1, .inr ⟨g, cap, cur, k3, k4, (hg.block g (Array.getElem?_eq_some_iff.1 k5).1 (fun e => hv g (by rw [k3]; rfl) e.symm)).trans k5, k6⟩⟩
  · obtain ⟨m1, m2, m3, m4⟩ := h2 r hr
    exact ⟨m1, Nat.lt_of_lt_of_le m2 hg.size, m3, m4.of_block (hg.block _ m2 (fun e => hG r hr e.symm))⟩
end

theorem lists_snoc {A : List (List Int)} {x : List Int} : lenL (A ++ [x]) A.length = x.length ∧ nthL (A ++ [x]) A.length = nth x := by
  exact lists_right (A := A) (B := [x]) (r := 0)
theorem Making.snoc {tS B : Nat} {w : World} {v : Value} {G Cp : Nat → Nat} {A : List (List Int)} (x : List Int) (h : Making tS B w v A.length G Cp (lenL A) (nthL A)) : Making tS B w v A.length G Cp (lenL (A ++ [x])) (nthL (A ++ [x])) :=
  h.congr fun r hr => ⟨(lists_left hr).1.symm, (lists_left hr).2.symm⟩
/-- Where its blocks are as they were, such a table is. -/
theorem Making.of_blocks {tS B i : Nat} {w w' : World} {v : Value} {G Cp L : Nat → Nat} {X : Nat → Nat → Int} (h : Making tS B w v i G Cp L X) (hs : w.heap.size ≤ w'.heap.size) (e : ∀ k, (v.ownBlock = some k ∨ ∃ r, r < i ∧ G r = k) → w'.heap[k]? = w.heap[k]?) : Making tS B w' v i G Cp L X := by
  obtain ⟨h1, h2, h3⟩ := h
  refine ⟨?_, fun r hr => ⟨(h2 r hr).1, Nat.lt_of_lt_of_le (h2 r hr).2.1 hs, (h2 r hr).2.2.1, (h2 r hr).2.2.2.of_block (e _ (.inr ⟨r, hr, rfl⟩))⟩, h3⟩
  obtain ⟨k1, (k2 | ⟨g, cap, cur, k3, k4, k5, k6⟩)⟩ := h1
  · exact ⟨k1, .inl k2⟩
  · exact ⟨k1, .inr ⟨g, cap, cur, k3, k4, (e g (.inl (by rw [k3]; rfl))).trans k5, k6⟩⟩
/-- A table made by append, as what a call hands back. -/
theorem Making.own {tS B i : Nat} {w : World} {v : Value} {G Cp L : Nat → Nat} {X : Nat → Nat → Int} (h : Making tS B w v i G Cp L X) (h0 : 0 < i) : ∃ g cap, v = .slice (some ⟨g, 0, none⟩) i cap ∧ OwnT w B w.heap.size (some ⟨g, 0, none⟩) i (fun r => some ⟨G r, 0, none⟩) L Cp X := by
  obtain ⟨g, cap, rfl⟩ := owns_form h.1 h0
  exact ⟨g, cap, rfl, h.ownT⟩
/-- .. or nothing. -/
theorem Making.slice {tS B i : Nat} {w : World} {v : Value} {G Cp L : Nat → Nat} {X : Nat → Nat → Int} (h : Making tS B w v i G Cp L X) : ∃ a c, v = .slice a i c ∧ OwnT w B w.heap.size a i (fun r => some ⟨G r, 0, none⟩) L Cp X := by
  by_cases h0 : 0 < i
  · obtain ⟨g, cap, e, o⟩ := h.own h0
    exact ⟨_, _, e, o⟩
  · obtain rfl : i = 0 := by omega
    obtain ⟨_, (⟨e, _⟩ | ⟨g, cap, cur, e, _⟩)⟩ := h.1
    · exact ⟨_, _, e, .inl rfl⟩
    · exact ⟨_, _, e, .inl rfl⟩
end Go.Proofs.YtnaegnjgpnakfaaDoor
