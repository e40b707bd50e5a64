/- Texts joined: BestBack, SpecRateIn, GainModel, WalkReduce, StepBest, L1Steps, L2Least, L2Found, FindHolds, PrModel, L2Prices, L2Both, SpecPriceHolds, SpecProofRate, SeqW, IndexS, CutS. -/
import Derived.Test.YtabdbgnkiebcdaaDoorPartR4
import Derived.Test.YtabdbgnkiebcdaaDoorPartR3
import Derived.Test.YtabdbgnkiebcdaaDoorPartR1
import Derived.Test.YtabdbgnkiebcdaaDoorProg
import Derived.StillTailTactics
import Derived.Lib.MinMax
import Derived.Test.YtabdbgnkiebcdaaDoorPartR2
import Derived.Shelf.Strings.Search3
import Derived.OwnWalk
import Derived.BigQuiet
namespace Go.Proofs.YtabdbgnkiebcdaaDoor
set_option linter.unusedVariables false

theorem wayV_along {n : Nat} {Z : Nat → Nat → Int} {D : List Int} (h : 1 ≤ D.length) : wayV n Z D = p12 ((n : Int) - 1 - D.length + 1).toNat * along Z D := by
  unfold wayV
  rw [valF_along, show D.length - 1 + 1 = D.length by omega, map_nth]
theorem best_base {n : Nat} {Z : Nat → Nat → Int} {k : Int} : ∀ (LL : List (List Int)) (b : Int), b ≤ bestL n Z k b LL
  | [], b => Int.le_refl _
  | D :: LL, b => by
    unfold bestL
    rw [List.foldl_cons]
    by_cases h : nth D (D.length - 1) = k
    · rw [if_pos h]; exact Int.le_trans (Int.le_max_left _ _) (best_base LL _)
    · rw [if_neg h]; exact best_base LL b
theorem best_ge {n : Nat} {Z : Nat → Nat → Int} {k : Int} {D : List Int} (hk : nth D (D.length - 1) = k) : ∀ (LL : List (List Int)) (b : Int), D ∈ LL → wayV n Z D ≤ bestL n Z k b LL
  | [], b, h => by simp at h
  | E :: LL, b, h => by
    unfold bestL
    rw [List.foldl_cons]
    rcases List.mem_cons.1 h with e | e
    · subst e
      rw [if_pos hk]
      exact Int.le_trans (Int.le_max_right _ _) (best_base LL _)
    · exact best_ge hk LL _ e
theorem best_le {n : Nat} {Z : Nat → Nat → Int} {k M : Int} : ∀ (LL : List (List Int)) (b : Int), b ≤ M → (∀ D, D ∈ LL → nth D (D.length - 1) = k → wayV n Z D ≤ M) → bestL n Z k b LL ≤ M
  | [], b, hb, _ => hb
  | D :: LL, b, hb, h => by
    unfold bestL
    rw [List.foldl_cons]
    refine best_le LL _ ?_ (fun E hE => h E (by simp [hE]))
    by_cases e : nth D (D.length - 1) = k
    · rw [if_pos e]; exact Int.max_le.2 ⟨hb, h D (by simp) e⟩
    · rw [if_neg e]; exact hb

/-- A way from i to k. -/
def WayTo (n : Nat) (i k : Int) (D : List Int) : Prop := Diff n D ∧ 2 ≤ D.length ∧ nth D 0 = i ∧ nth D (D.length - 1) = k
theorem mem_ways {n i : Nat} (hi : i < n) {D : List Int} {k : Int} : (D ∈ longer n (n - 1) [(i : Int)] ∧ nth D (D.length - 1) = k) ↔ WayTo n i k D := by
  constructor
  · rintro ⟨h, e⟩
    obtain ⟨hw, h0⟩ := ways_of hi h
    exact ⟨hw.1, hw.2.1, h0, e⟩
  · rintro ⟨hd, h2, h0, e⟩
    refine ⟨?_, e⟩
    cases D with
    | nil => simp at h2
    | cons a t =>
      obtain rfl : a = (i : Int) := h0
      have hl := diff_le hd
      simp at hl
      exact mem_longer_of t (n - 1) [(i : Int)] hd h2 (by omega)
theorem nth_rev {D : List Int} {j : Nat} (hj : j < D.length) : nth D.reverse j = nth D (D.length - 1 - j) := by
  unfold nth
  rw [List.getD_eq_getElem?_getD, List.getD_eq_getElem?_getD, List.getElem?_reverse hj]
theorem way_back {n : Nat} {i k : Int} {D : List Int} (h : WayTo n i k D) : WayTo n k i D.reverse := by
  obtain ⟨hd, h2, h0, h1⟩ := h
  refine ⟨?_, by simpa using h2, ?_, ?_⟩
  · rw [diff_mem] at hd ⊢
    refine ⟨fun x hx => hd.1 x (by simpa using hx), ?_⟩
    rw [List.nodup_iff_pairwise_ne, List.pairwise_reverse]
    exact List.Pairwise.imp (fun h e => h e.symm) (List.nodup_iff_pairwise_ne.1 hd.2)
  · rw [nth_rev (by omega), Nat.sub_zero]; exact h1
  · rw [List.length_reverse, nth_rev (by omega), Nat.sub_self]; exact h0
theorem wayV_back {n : Nat} {Z : Nat → Nat → Int} {D : List Int} (h : 1 ≤ D.length) : wayV n (turnX Z) D = wayV n Z D.reverse := by
  rw [wayV_along h, wayV_along (by simpa using h), List.length_reverse, ← along_back Z D.reverse, List.reverse_reverse]
theorem best_back_le {n : Nat} {Z : Nat → Nat → Int} {i k : Nat} (hi : i < n) (hk : k < n) {b : Int} : bestL n (turnX Z) k b (longer n (n - 1) [(i : Int)]) ≤ bestL n Z i b (longer n (n - 1) [(k : Int)]) := by
  refine best_le _ _ (best_base _ _) fun D hD e => ?_
  have hw := (mem_ways hi).1 ⟨hD, e⟩
  obtain ⟨m, e2⟩ := (mem_ways hk).2 (way_back hw)
  have h2 := hw.2.1
  rw [wayV_back (by omega)]
  exact best_ge e2 _ _ m
theorem best_back {n : Nat} {Z : Nat → Nat → Int} {i k : Nat} (hi : i < n) (hk : k < n) {b : Int} : bestL n (turnX Z) k b (longer n (n - 1) [(i : Int)]) = bestL n Z i b (longer n (n - 1) [(k : Int)]) :=
  Int.le_antisymm (best_back_le hi hk) (by have := best_back_le (Z := turnX Z) hk hi (b := b); rwa [turn_turn] at this)
theorem turn_rates {n : Nat} {L : Nat → Nat} {Z : Nat → Nat → Int} (h : IsRates n L Z) : IsRates n (fun _ => n) (turnX Z) :=
  ⟨h.1, fun i hi => ⟨rfl, fun k hk => ⟨((h.2 k hk).2 i hi).1, fun e => by subst e; exact ((h.2 i hi).2 i hi).2 rfl⟩⟩⟩
/-- With rows and columns exchanged the best way back is worth as much. -/
theorem bestAns_turn {n : Nat} {L : Nat → Nat} {Z : Nat → Nat → Int} {i k : Int} (h : TwoOk n L Z i k) : bestAns n (fun _ => n) (turnX Z) k i = bestAns n L Z i k := by
  have h' : TwoOk n (fun _ => n) (turnX Z) k i := ⟨turn_rates h.1, h.2.2, h.2.1⟩
  rw [bestAns_yes h, bestAns_yes h']
  obtain ⟨i', rfl⟩ := Int.eq_ofNat_of_zero_le h.2.1.1
  obtain ⟨k', rfl⟩ := Int.eq_ofNat_of_zero_le h.2.2.1
  have h1 := h.2.1.2
  have h2 := h.2.2.2
  have e : (if (k' : Int) = (i' : Int) then p12 (n - 1) else 0) = (if (i' : Int) = (k' : Int) then p12 (n - 1) else 0) := by
    by_cases e : (i' : Int) = k'
    · rw [if_pos e, if_pos e.symm]
    · rw [if_neg e, if_neg fun e' => e e'.symm]
  rw [e]
  exact best_back (by omega) (by omega)
end Go.Proofs.YtabdbgnkiebcdaaDoor

namespace Go.Proofs.YtabdbgnkiebcdaaDoor
set_option linter.unusedVariables false
open Go.RowKit

set_option maxHeartbeats 800000 in
theorem specRateIn_any (n c : Nat) (a : Option Addr) (A : Nat → Option Addr) (L C : Nat → Nat) (Z : Nat → Nat → Int) (w : World) (hn0 : n ≤ 1048576) (hL0 : ∀ r, r < n → L r ≤ 1048576) (ha0 : Tab w a n A L C Z) :
    Calls Tryd.prog 35 #[.slice a n c] w fun e w' => e = .returned (.bool (tt (IsRates n L Z))) ∧ w = w' := by
  have hn := hn0; have hL := hL0; have ha := ha0; clear hn0 hL0 ha0
  go_enter Tryd.func35, Tryd.ntmps35
  go_wp2
  go_loop [2, 3, 4] (fun r i _ => ∃ k : Nat, k ≤ n ∧ i = .int .i64 k ∧ r = .bool false ∧ (∀ i, i < k → L i = n ∧ ∀ k, k < n → (1 ≤ Z i k ∧ Z i k ≤ 144) ∧ (i = k → Z i k = 12))) (fun _ i _ => n - (intOf i).toNat)
  case atStart => exact ⟨0, Nat.zero_le _, rfl, rfl, fun j hj => absurd hj (Nat.not_lt_zero _)⟩
  case round =>
    obtain ⟨k, hk, rfl, rfl, hs⟩ := hrel
    by_cases hlt : k < n
    · obtain ⟨ba, oa, rfl, hca, hra⟩ := ha k hlt
      have hLk := hL k hlt
      have H1 := Lib.hid hs
      clear hs ha hL
      by_cases hln : L k = n
      · have hne : ((L k : Int) != (n : Int)) = false := by simp; omega
        have H3 := Lib.hid hln
        clear hln
        go_wp2
        go_loop [2, 4] (fun r i => ∃ j : Nat, j ≤ n ∧ i = .int .i64 j ∧ r = .bool false ∧ (∀ j', j' < j → (1 ≤ Z k j' ∧ Z k j' ≤ 144) ∧ (k = j' → Z k j' = 12))) (fun _ i => n - (intOf i).toNat)
        case atStart => exact ⟨0, Nat.zero_le _, rfl, rfl, fun j hj => absurd hj (Nat.not_lt_zero _)⟩
        case round =>
          obtain ⟨j, hj, rfl, rfl, hs⟩ := hrel
          by_cases hjlt : j < n
          · obtain ⟨bb, ob, hA, hcb⟩ := hra j (by have := H3.out; omega)
            rw [hA] at hca
            have hLj : j < L k := by have := H3.out; omega
            have H4 := Lib.hid hs
            have H5 := Lib.hid hA
            clear hs hra hA
            by_cases hin : InR (Z k j) 1 144
            · have B1 := tt_of hin
              by_cases hkj : k = j
              · subst hkj
                by_cases hz : Z k k = 12
                · have hb1 : (Z k k != 12) = false := by simp [hz]
                  have H6 := Lib.hid hz
                  have H7 := Lib.hid B1
                  clear hz B1
                  go_wp2_with (go_at_call 70; refine (l6In_any _ _ _ _).mono ?_; rintro e w' ⟨rfl, rfl⟩; rw [H7.out])
                  go_round
                  case rel =>
                    exact ⟨k + 1, by omega, by go_num, rfl, fun j' hj' => by
                      by_cases e : j' = k
                      · subst e; exact ⟨hin, fun _ => H6.out⟩
                      · exact H4.out j' (by omega)⟩
                  case measure => simp [intOf]; omega
                · have hb1 : (Z k k != 12) = true := by simp [hz]
                  have H7 := Lib.hid B1
                  clear B1
                  go_wp2_with (go_at_call 70; refine (l6In_any _ _ _ _).mono ?_; rintro e w' ⟨rfl, rfl⟩; rw [H7.out])
                  go_ret
                  exact ⟨by rw [tt_no (fun h => hz (((h.2 k hlt).2 k hlt).2 rfl))]; rfl, rfl⟩
              · have hb1 : ((k : Int) == (j : Int)) = false := by simp; omega
                have H7 := Lib.hid B1
                clear B1
                go_wp2_with (go_at_call 70; refine (l6In_any _ _ _ _).mono ?_; rintro e w' ⟨rfl, rfl⟩; rw [H7.out])
                go_round
                case rel =>
                  exact ⟨j + 1, by omega, by go_num, rfl, fun j' hj' => by
                    by_cases e : j' = j
                    · subst e; exact ⟨hin, fun e => absurd e hkj⟩
                    · exact H4.out j' (by omega)⟩
                case measure => simp [intOf]; omega
            · have H7 := Lib.hid (tt_no hin)
              go_wp2_with (go_at_call 70; refine (l6In_any _ _ _ _).mono ?_; rintro e w' ⟨rfl, rfl⟩; rw [H7.out])
              go_ret
              exact ⟨by rw [tt_no (fun h => hin (((h.2 k hlt).2 j hjlt).1))]; rfl, rfl⟩
          · have H4 := Lib.hid hs
            clear hs hra
            go_wp2
            go_round
            case rel =>
              exact ⟨k + 1, by omega, by go_num, rfl, fun i' hi' => by
                by_cases e : i' = k
                · subst e; exact ⟨H3.out, fun j' hj' => H4.out j' (by omega)⟩
                · exact H1.out i' (by omega)⟩
            case measure => simp [intOf]; omega
      · have hne : ((L k : Int) != (n : Int)) = true := by simp; omega
        go_wp2
        go_ret
        exact ⟨by rw [tt_no (fun h => hln (h.2 k hlt).1)]; rfl, rfl⟩
    · have H1 := Lib.hid hs
      obtain rfl : k = n := by omega
      clear hs ha hL
      go_wp2_with fail
      refine (l6In_any _ _ _ _).mono ?_
      rintro e w' ⟨rfl, rfl⟩
      go_wp2
      go_ret
      exact ⟨ret_bool (tt_congr (by unfold IsRates; constructor
                                    · intro h; exact ⟨by unfold InR at h; omega, H1.out⟩
                                    · intro h; have := h.1; unfold InR; omega)), rfl⟩

theorem specRateInTop_any (n c : Nat) (a : Option Addr) (A : Nat → Option Addr) (L C : Nat → Nat) (Z : Nat → Nat → Int) (w : World) (hn0 : n ≤ 1048576) (hL0 : ∀ r, r < n → L r ≤ 1048576) (ha0 : Tab w a n A L C Z) :
    Calls Tryd.prog 35 #[.slice a n c] w fun e w' => e = .returned (.bool (tt (IsRates n L Z))) ∧ Below w.heap.size w w' :=
  (specRateIn_any n c a A L C Z w hn0 hL0 ha0).mono fun e w' ⟨he, hw⟩ => ⟨he, hw ▸ Below.refl _ _⟩
end Go.Proofs.YtabdbgnkiebcdaaDoor

namespace Go.Proofs.YtabdbgnkiebcdaaDoor
set_option linter.unusedVariables false
open Go.RowKit

/-- How many rounds gain. -/
noncomputable def gainN (n : Nat) (L : Nat → Nat) (Z : Nat → Nat → Int) : Nat := if tt (IsRates n L Z) = true then (gaining n Z).length else 0
theorem gainN_yes {n : Nat} {L : Nat → Nat} {Z : Nat → Nat → Int} (h : IsRates n L Z) : gainN n L Z = (gaining n Z).length := by unfold gainN; rw [tt_of h]; rfl
theorem gainN_no {n : Nat} {L : Nat → Nat} {Z : Nat → Nat → Int} (h : ¬ IsRates n L Z) : gainN n L Z = 0 := by unfold gainN; rw [tt_no h]; rfl
theorem making_len {tS B i : Nat} {w : World} {v : Value} {G Cp L : Nat → Nat} {X : Nat → Nat → Int} (h : Making tS B w v i G Cp L X) : ∃ a c, v = .slice a i c := by
  obtain ⟨_, (⟨h1, h2⟩ | ⟨g, cap, _, h1, _⟩)⟩ := h.1
  · exact ⟨none, 0, by rw [h1, h2]⟩
  · exact ⟨_, _, h1⟩

/-- The first round that gains; the empty list if there is none. -/
noncomputable def firstL (n : Nat) (L : Nat → Nat) (Z : Nat → Nat → Int) : List Int := if tt (IsRates n L Z) = true then (gaining n Z).getD 0 [] else []
theorem firstL_yes {n : Nat} {L : Nat → Nat} {Z : Nat → Nat → Int} (h : IsRates n L Z) : firstL n L Z = (gaining n Z).getD 0 [] := by unfold firstL; rw [tt_of h]; rfl
theorem firstL_no {n : Nat} {L : Nat → Nat} {Z : Nat → Nat → Int} (h : ¬ IsRates n L Z) : firstL n L Z = [] := by unfold firstL; rw [tt_no h]; rfl
theorem firstL_none {n : Nat} {L : Nat → Nat} {Z : Nat → Nat → Int} (h : IsRates n L Z) (h0 : (gaining n Z).length = 0) : firstL n L Z = [] := by
  rw [firstL_yes h, List.eq_nil_of_length_eq_zero h0]; rfl
theorem gaining_ring {n : Nat} {Z : Nat → Nat → Int} {D : List Int} (h : D ∈ gaining n Z) : Gains n Z D := by
  unfold gaining at h
  rw [List.mem_filter] at h
  exact tt_iff.1 h.2
theorem firstL_ring {n : Nat} {L : Nat → Nat} {Z : Nat → Nat → Int} (h : IsRates n L Z) (h0 : 0 < (gaining n Z).length) : Gains n Z (firstL n L Z) := by
  rw [firstL_yes h]
  refine gaining_ring ?_
  rw [List.getD_eq_getElem?_getD, List.getElem?_eq_getElem h0]
  exact List.getElem_mem h0
theorem firstL_le {n : Nat} {L : Nat → Nat} {Z : Nat → Nat → Int} : (firstL n L Z).length ≤ 1048576 := by
  by_cases h : IsRates n L Z
  · by_cases h0 : 0 < (gaining n Z).length
    · have h1 := (firstL_ring h h0).1.1.2.2
      have := h.1.2
      omega
    · rw [firstL_none h (by omega)]; simp
  · rw [firstL_no h]; simp
end Go.Proofs.YtabdbgnkiebcdaaDoor

namespace Go.Proofs.YtabdbgnkiebcdaaDoor
set_option linter.unusedVariables false

/-- A round trip through different ones, from anywhere, is worth at most as much as staying. -/
def NoGain (n : Nat) (Z : Nat → Nat → Int) : Prop := ∀ (x : Int) (C : List Int), (∀ y, y ∈ x :: C → 0 ≤ y ∧ y < n) → (x :: C).Nodup → along Z (x :: C ++ [x]) ≤ p12 (x :: C).length
theorem ring_along {n : Nat} {Z : Nat → Nat → Int} (h0 : gaining n Z = []) {a : Int} {t : List Int} (h : Diff n (a :: t)) (ht : 1 ≤ t.length) (hg : ∀ x, x ∈ t → a < x) : along Z (a :: t ++ [a]) ≤ p12 (a :: t).length := by
  have hr : IsRing n (a :: t).length (nth (a :: t)) := ring_mem.2 ⟨h, ht, hg⟩
  have hle := diff_le h
  have hno : ¬ p12 n < roundV n Z (a :: t).length (nth (a :: t)) := fun e => by
    have := mem_gaining.2 (show Gains n Z (a :: t) from ⟨hr, e⟩)
    rw [h0] at this
    simp at this
  rw [roundV_along] at hno
  have e1 : ((n : Int) - ((a :: t).length + 1 : Nat) + 1).toNat = n - (a :: t).length := by omega
  rw [e1] at hno
  have e2 : p12 n = p12 (n - (a :: t).length) * p12 (a :: t).length := by rw [← p12_add, Nat.sub_add_cancel hle]
  rw [e2] at hno
  have hp := p12_pos (n - (a :: t).length)
  exact Int.le_of_mul_le_mul_left (Int.not_lt.1 hno) hp
theorem least_split : ∀ (l : List Int), l ≠ [] → ∃ U a V, l = U ++ a :: V ∧ ∀ x, x ∈ l → a ≤ x
  | [], h => absurd rfl h
  | [b], _ => ⟨[], b, [], rfl, fun x hx => by simp at hx; omega⟩
  | b :: c :: l, _ => by
    obtain ⟨U, a, V, e, ha⟩ := least_split (c :: l) (by simp)
    by_cases hb : b ≤ a
    · refine ⟨[], b, c :: l, rfl, fun x hx => ?_⟩
      rcases List.mem_cons.1 hx with h | h
      · omega
      · have := ha x h; omega
    · refine ⟨b :: U, a, V, by rw [e]; rfl, fun x hx => ?_⟩
      rcases List.mem_cons.1 hx with h | h
      · omega
      · exact ha x h
theorem no_gain {n : Nat} {Z : Nat → Nat → Int} (hd : ∀ i, i < n → Z i i = 12) (h0 : gaining n Z = []) : NoGain n Z := by
  intro x C hm hnd
  obtain ⟨U, a, V, e, ha⟩ := least_split (x :: C) (by simp)
  have hperm : (a :: (V ++ U)).Perm (x :: C) := by
    rw [e]
    have h1 : (a :: (V ++ U)).Perm (a :: (U ++ V)) := List.Perm.cons a List.perm_append_comm
    exact h1.trans List.perm_middle.symm
  have hnd' : (a :: (V ++ U)).Nodup := hperm.symm.nodup hnd
  have hlen : (a :: (V ++ U)).length = (x :: C).length := hperm.length_eq
  have hdiff : Diff n (a :: (V ++ U)) := diff_mem.2 ⟨fun y hy => hm y (hperm.mem_iff.1 hy), hnd'⟩
  have hgt : ∀ y, y ∈ V ++ U → a < y := fun y hy => by
    have h1 := ha y (hperm.mem_iff.1 (by simp at hy ⊢; exact .inr hy))
    have h2 : y ≠ a := fun e' => (List.nodup_cons.1 hnd').1 (by rw [← e']; exact hy)
    omega
  have hrot : along Z (x :: C ++ [x]) = along Z (a :: (V ++ U) ++ [a]) := by
    rw [e]
    cases U with
    | nil =>
      have : x = a := by simp at e; exact e.1
      subst this
      simp
    | cons u U =>
      have : x = u := by simp at e; exact e.1
      subst this
      have e1 : along Z (x :: U ++ a :: V ++ [x]) = along Z (x :: U ++ [a]) * along Z (a :: V ++ [x]) := by
        have h := along_join Z (x :: U) a (V ++ [x])
        simpa using h
      have e2 : along Z (a :: (V ++ x :: U) ++ [a]) = along Z (a :: V ++ [x]) * along Z (x :: U ++ [a]) := by
        have h := along_join Z (a :: V) x (U ++ [a])
        simpa using h
      rw [e1, e2, Int.mul_comm]
  rw [hrot, ← hlen]
  by_cases hz : 1 ≤ (V ++ U).length
  · exact ring_along h0 hdiff hz hgt
  · have hnil : V ++ U = [] := List.eq_nil_of_length_eq_zero (by omega)
    rw [hnil]
    have hr := hm a (hperm.mem_iff.1 (by simp))
    show Z a.toNat a.toNat * 1 ≤ 1 * 12
    rw [hd _ (by omega)]; decide
/-- A list with something twice has a round trip through different ones. -/
theorem split_dup : ∀ (W : List Int), ¬ W.Nodup → ∃ A x C E, W = A ++ x :: C ++ x :: E ∧ (x :: C).Nodup
  | [], h => absurd List.nodup_nil h
  | w :: W, h => by
    by_cases hW : W.Nodup
    · have hw : w ∈ W := Classical.byContradiction fun hw => h (List.nodup_cons.2 ⟨hw, hW⟩)
      obtain ⟨C, E, e⟩ := List.append_of_mem hw
      refine ⟨[], w, C, E, by rw [e]; rfl, ?_⟩
      rw [e, List.nodup_append] at hW
      obtain ⟨h1, h2, h3⟩ := hW
      exact List.nodup_cons.2 ⟨fun hc => h3 w hc w (by simp) rfl, h1⟩
    · obtain ⟨A, x, C, E, e, hn⟩ := split_dup W hW
      exact ⟨w :: A, x, C, E, by rw [e]; rfl, hn⟩
theorem last_app (l : List Int) (x : Int) (E : List Int) : (l ++ x :: E).getLast? = (x :: E).getLast? := by
  rw [List.getLast?_append]
  cases h : (x :: E).getLast? with
  | none => simp at h
  | some y => rfl
/-- A walk is worth no more than a way, where staying is worth 12. -/
theorem walk_way {n : Nat} {Z : Nat → Nat → Int} (hZ : ∀ i k, i < n → k < n → 0 ≤ Z i k) (h0 : NoGain n Z) {i k : Int} : ∀ (s : Nat) (W : List Int), W.length ≤ s → W.head? = some i → W.getLast? = some k → (∀ x, x ∈ W → 0 ≤ x ∧ x < n) →
    ∃ P : List Int, P.Nodup ∧ P.head? = some i ∧ P.getLast? = some k ∧ (∀ x, x ∈ P → 0 ≤ x ∧ x < n) ∧ P.length ≤ W.length ∧ along Z W * p12 P.length ≤ along Z P * p12 W.length
  | 0, W, hl, hh, _, _ => by
    have : W = [] := List.eq_nil_of_length_eq_zero (by omega)
    subst this
    simp at hh
  | s + 1, W, hl, hh, ht, hm => by
    by_cases hnd : W.Nodup
    · exact ⟨W, hnd, hh, ht, hm, Nat.le_refl _, Int.le_refl _⟩
    · obtain ⟨A, x, C, E, rfl, hC⟩ := split_dup W hnd
      have hmx : ∀ y, y ∈ x :: C → 0 ≤ y ∧ y < n := fun y hy => hm y (by simp at hy ⊢; rcases hy with h | h <;> simp [h])
      have hmW : ∀ y, y ∈ A ++ x :: E → 0 ≤ y ∧ y < n := fun y hy => hm y (by simp at hy ⊢; rcases hy with h | h | h <;> simp [h])
      have hlW : (A ++ x :: C ++ x :: E).length = (A ++ x :: E).length + (x :: C).length := by simp; omega
      have hh' : (A ++ x :: E).head? = some i := by
        cases A with
        | nil => simpa using hh
        | cons b A => simpa using hh
      have ht' : (A ++ x :: E).getLast? = some k := by
        rw [last_app] at ht ⊢
        exact ht
      obtain ⟨P, hP, h1, h2, h3, h4, h5⟩ := walk_way hZ h0 s (A ++ x :: E) (by simp at hlW hl ⊢; omega) hh' ht' hmW
      refine ⟨P, hP, h1, h2, h3, by omega, ?_⟩
      have e1 : along Z (A ++ x :: C ++ x :: E) = along Z (A ++ [x]) * (along Z (x :: C ++ [x]) * along Z (x :: E)) := by
        have g1 := along_join Z A x (C ++ x :: E)
        have g2 := along_join Z (x :: C) x E
        rw [show A ++ x :: C ++ x :: E = A ++ x :: (C ++ x :: E) by simp, g1, ← g2]
        rfl
      have e2 : along Z (A ++ x :: E) = along Z (A ++ [x]) * along Z (x :: E) := along_join _ _ _ _
      have hA : 0 ≤ along Z (A ++ [x]) := along_nonneg hZ _ (fun y hy => hm y (by simp at hy ⊢; rcases hy with h | h <;> simp [h]))
      have hE : 0 ≤ along Z (x :: E) := along_nonneg hZ _ (fun y hy => hm y (by simp at hy ⊢; rcases hy with h | h <;> simp [h]))
      have hc := h0 x C hmx hC
      have h6 : along Z (A ++ x :: C ++ x :: E) ≤ p12 (x :: C).length * along Z (A ++ x :: E) := by
        rw [e1, e2]
        have := Int.mul_le_mul_of_nonneg_right hc hE
        have := Int.mul_le_mul_of_nonneg_left this hA
        rw [Int.mul_left_comm (p12 _)]
        exact this
      rw [hlW, p12_add]
      have h7 := Int.mul_le_mul_of_nonneg_right h6 (Int.le_of_lt (p12_pos P.length))
      have h8 := Int.mul_le_mul_of_nonneg_left h5 (Int.le_of_lt (p12_pos (x :: C).length))
      refine Int.le_trans h7 ?_
      rw [Int.mul_assoc]
      refine Int.le_trans h8 ?_
      rw [Int.mul_comm (p12 (A ++ x :: E).length), ← Int.mul_assoc, ← Int.mul_assoc, Int.mul_comm (p12 _) (along Z P)]
      exact Int.le_refl _
end Go.Proofs.YtabdbgnkiebcdaaDoor

namespace Go.Proofs.YtabdbgnkiebcdaaDoor
set_option linter.unusedVariables false

theorem pad_along {Z : Nat → Nat → Int} {k : Int} (hk : Z k.toNat k.toNat = 12) : ∀ (m : Nat) (U : List Int), along Z (U ++ [k] ++ List.replicate m k) = along Z (U ++ [k]) * p12 m
  | 0, U => by simp [p12]
  | m + 1, U => by
    have h := pad_along hk m (U ++ [k])
    have e : U ++ [k] ++ List.replicate (m + 1) k = U ++ [k] ++ [k] ++ List.replicate m k := by simp [List.replicate_succ]
    rw [e, h, show U ++ [k] ++ [k] = U ++ [k, k] by simp, along_snoc, hk]
    show along Z (U ++ [k]) * 12 * p12 m = along Z (U ++ [k]) * (p12 m * 12)
    rw [Int.mul_assoc, Int.mul_comm 12]
theorem last_split {D : List Int} {k : Int} (h : D.getLast? = some k) : ∃ U, D = U ++ [k] := by
  rcases List.eq_nil_or_concat D with e | ⟨U, z, e⟩
  · subst e; simp at h
  · rw [List.concat_eq_append] at e
    subst e
    simp at h
    subst h
    exact ⟨U, rfl⟩
/-- A walk that ends before may stay. -/
theorem pad_walk {n : Nat} {Z : Nat → Nat → Int} (hZ : ∀ i k, i < n → k < n → 0 ≤ Z i k) {i k : Nat} (hk : k < n) (hd : Z k k = 12) {D : List Int} (h1 : D.head? = some (i : Int)) (h2 : D.getLast? = some (k : Int)) (hm : ∀ x, x ∈ D → 0 ≤ x ∧ x < n) {s : Nat} (hl : D.length ≤ s + 1) :
    p12 (s + 1 - D.length) * along Z D ≤ stepV Z n i s k := by
  obtain ⟨U, rfl⟩ := last_split h2
  have e := pad_along (Z := Z) (k := (k : Int)) hd (s + 1 - (U ++ [(k : Int)]).length) U
  rw [Int.mul_comm, ← e]
  refine walk_le hZ s k _ ⟨?_, ?_, ?_, fun x hx => ?_⟩
  · simp at hl ⊢; omega
  · cases U with
    | nil => simpa using h1
    | cons u U => simpa using h1
  · cases h : s + 1 - (U ++ [(k : Int)]).length with
    | zero => simp
    | succ m =>
      rw [List.replicate_succ', ← List.append_assoc]
      exact last_app (U ++ [(k : Int)] ++ List.replicate m (k : Int)) (k : Int) []
  · rw [List.mem_append] at hx
    rcases hx with hx | hx
    · exact hm x hx
    · have := List.eq_of_mem_replicate hx
      subst this
      omega
theorem nth_head {D : List Int} {i : Int} (h2 : 2 ≤ D.length) (h : nth D 0 = i) : D.head? = some i := by
  cases D with
  | nil => simp at h2
  | cons a t => have : a = i := h; subst this; rfl
theorem nth_last {D : List Int} {k : Int} (h2 : 2 ≤ D.length) (h : nth D (D.length - 1) = k) : D.getLast? = some k := by
  rw [List.getLast?_eq_getElem?, List.getElem?_eq_getElem (by omega)]
  unfold nth at h
  rw [List.getD_eq_getElem?_getD, List.getElem?_eq_getElem (show D.length - 1 < D.length by omega)] at h
  simpa using h
/-- The best way's value with its least one. -/
def baseB (n : Nat) (i k : Nat) : Int := if (i : Int) = (k : Int) then p12 (n - 1) else 0
theorem best_le_step {n : Nat} {L : Nat → Nat} {Z : Nat → Nat → Int} (hr : IsRates n L Z) {i k : Nat} (hi : i < n) (hk : k < n) : bestL n Z k (baseB n i k) (longer n (n - 1) [(i : Int)]) ≤ stepV Z n i (n - 1) k := by
  have hZ : ∀ i k, i < n → k < n → 0 ≤ Z i k := fun i k hi hk => by have := ((hr.2 i hi).2 k hk).1; omega
  have hd : Z k k = 12 := ((hr.2 k hk).2 k hk).2 rfl
  have hn := hr.1.1
  refine best_le _ _ ?_ fun D hD e => ?_
  · unfold baseB
    by_cases h : (i : Int) = (k : Int)
    · rw [if_pos h]
      have h' : i = k := by omega
      subst h'
      have := pad_walk hZ hk hd (D := [(i : Int)]) (s := n - 1) rfl rfl (fun x hx => by simp at hx; omega) (by simp)
      have e : n - 1 + 1 - [(i : Int)].length = n - 1 := by simp
      rw [e] at this
      simpa [along] using this
    · rw [if_neg h]
      have h0 := stepV_bound (T := Z) (n := n) (i := i) (fun x y hx hy => by have := ((hr.2 x hx).2 y hy).1; omega) (n - 1) k (by have := hr.1.2; omega) hk
      exact h0.1
  · have hw := (mem_ways hi).1 ⟨hD, e⟩
    have h2 := hw.2.1
    have hle := diff_le hw.1
    rw [wayV_along (by omega)]
    have := pad_walk hZ hk hd (nth_head h2 hw.2.2.1) (nth_last h2 hw.2.2.2) (diff_mem.1 hw.1).1 (s := n - 1) (by omega)
    have e : ((n : Int) - 1 - D.length + 1).toNat = n - 1 + 1 - D.length := by omega
    rw [e]
    exact this
theorem head_nth {D : List Int} {i : Int} (h : D.head? = some i) : nth D 0 = i := by
  cases D with
  | nil => simp at h
  | cons a t => simp at h; exact h
theorem last_nth {D : List Int} {k : Int} (h : D.getLast? = some k) : nth D (D.length - 1) = k := by
  obtain ⟨U, rfl⟩ := last_split h
  unfold nth
  rw [List.getD_eq_getElem?_getD]
  simp
theorem step_le_best {n : Nat} {L : Nat → Nat} {Z : Nat → Nat → Int} (hr : IsRates n L Z) (h0 : gaining n Z = []) {i k : Nat} (hi : i < n) (hk : k < n) : stepV Z n i (n - 1) k ≤ bestL n Z k (baseB n i k) (longer n (n - 1) [(i : Int)]) := by
  have hZ : ∀ i k, i < n → k < n → 0 ≤ Z i k := fun i k hi hk => by have := ((hr.2 i hi).2 k hk).1; omega
  have hn := hr.1.1
  have hb : 0 ≤ baseB n i k := by
    unfold baseB
    by_cases h : (i : Int) = (k : Int)
    · rw [if_pos h]; exact Int.le_of_lt (p12_pos _)
    · rw [if_neg h]; exact Int.le_refl _
  by_cases hs : 0 < stepV Z n i (n - 1) k
  · obtain ⟨W, hW, eW⟩ := walk_some hZ hi (n - 1) k hk hs
    obtain ⟨P, hP, h1, h2, h3, h4, h5⟩ := walk_way hZ (no_gain (fun i hi => ((hr.2 i hi).2 i hi).2 rfl) h0) W.length W (Nat.le_refl _) hW.first hW.last hW.mem
    rw [eW] at h5
    have hWl : W.length = n := by have := hW.len; omega
    rw [hWl] at h5 h4
    have e2 : p12 n = p12 (n - P.length) * p12 P.length := by rw [← p12_add, Nat.sub_add_cancel h4]
    rw [e2, ← Int.mul_assoc] at h5
    have h6 := Int.le_of_mul_le_mul_right h5 (p12_pos P.length)
    refine Int.le_trans h6 ?_
    by_cases hl : 2 ≤ P.length
    · have hw : WayTo n i k P := ⟨diff_mem.2 ⟨h3, hP⟩, hl, head_nth h1, last_nth h2⟩
      obtain ⟨m, e⟩ := (mem_ways hi).2 hw
      have := best_ge (n := n) (Z := Z) e _ (baseB n i k) m
      rw [wayV_along (by omega), show ((n : Int) - 1 - P.length + 1).toNat = n - P.length by omega, Int.mul_comm] at this
      exact this
    · match P, h1, h2, hl with
      | [], h1, _, _ => simp at h1
      | [a], h1, h2, _ =>
        simp at h1 h2
        have e : (i : Int) = (k : Int) := by omega
        refine Int.le_trans ?_ (best_base _ _)
        unfold baseB
        rw [if_pos e]
        show 1 * p12 (n - 1) ≤ _
        rw [Int.one_mul]
        exact Int.le_refl _
      | a :: b :: t, _, _, hl => exact absurd (by simp) hl
  · exact Int.le_trans (Int.not_lt.1 hs) (Int.le_trans hb (best_base _ _))
/-- The best way is worth at least the straight one. -/
theorem best_straight {n : Nat} {Z : Nat → Nat → Int} {i k : Nat} (hn : 2 ≤ n) (hi : i < n) (hk : k < n) (hik : i ≠ k) {b : Int} : Z i k * p12 (n - 2) ≤ bestL n Z k b (longer n (n - 1) [(i : Int)]) := by
  have hw : WayTo n i k [(i : Int), (k : Int)] := ⟨diff_mem.2 ⟨fun x hx => by simp at hx; rcases hx with h | h <;> subst h <;> omega, by simp; omega⟩, by simp, rfl, rfl⟩
  obtain ⟨m, e⟩ := (mem_ways hi).2 hw
  have := best_ge (n := n) (Z := Z) e _ b m
  rw [wayV_along (by simp)] at this
  have e2 : ((n : Int) - 1 - ([(i : Int), (k : Int)].length : Nat) + 1).toNat = n - 2 := by simp; omega
  rw [e2, Int.mul_comm] at this
  simpa [along] using this
end Go.Proofs.YtabdbgnkiebcdaaDoor

namespace Go.Proofs.YtabdbgnkiebcdaaDoor
set_option linter.unusedVariables false
open Go.RowKit

/-- What a call hands back that makes a new row of n integers X: nothing that was there has turned. -/
def RetRow (tI n : Nat) (X : Nat → Int) (w : World) (e : Ending) (w' : World) : Prop :=
  ∃ g, e = .returned (.slice (some ⟨g, 0, none⟩) n n) ∧ w.heap.size ≤ g ∧ w'.rowIs g tI n (fun i => .int .i64 (X i)) ∧ Below w.heap.size w w'

/-- The next row when x moneys are done and y numbers of the next one. -/
def nextF (T : Nat → Nat → Int) (now : Nat → Int) (x y k : Nat) : Int := rmax (fun j => now j * T j k) (if k < y then x + 1 else x)

theorem nextF_start (T : Nat → Nat → Int) (now : Nat → Int) (k : Nat) : 0 = nextF T now 0 0 k := rfl
theorem nextF_row (T : Nat → Nat → Int) (now : Nat → Int) (x n k : Nat) (hk : k < n) : nextF T now x n k = nextF T now (x + 1) 0 k := by
  unfold nextF; rw [if_pos hk, if_neg (Nat.not_lt_zero _)]
theorem nextF_step (T : Nat → Nat → Int) (now : Nat → Int) (x y k : Nat) : (if k = y then max (nextF T now x y y) (now x * T x y) else nextF T now x y k) = nextF T now x (y + 1) k := by
  unfold nextF
  by_cases e : k = y
  · subst e
    rw [if_pos rfl, if_neg (Nat.lt_irrefl _), if_pos (Nat.lt_succ_self _)]
    rfl
  · rw [if_neg e]
    by_cases h : k < y
    · rw [if_pos h, if_pos (by omega)]
    · rw [if_neg h, if_neg (by omega)]

set_option maxRecDepth 100000 in
set_option maxHeartbeats 1600000 in
theorem l1Steps_any (n c i : Nat) (a : Option Addr) (A : Nat → Option Addr) (L C : Nat → Nat) (Z : Nat → Nat → Int) (w : World) (hr : IsRates n L Z) (hi : i < n) (ha : Tab w a n A L C Z) :
    Calls Tryd.prog 78 #[.slice a n c, .int .i64 i] w (RetRow 3 n (stepV Z n i (n - 1)) w) := by
  have hn2 := hr.1.1
  have hn5 := hr.1.2
  have hmk := run_make_row' (P := Tryd.prog) 32 3 (.int .i64 0) 8 Tryd.underlying32 Tryd.infoInt rfl .i64 .i64 n (by omega) (by omega)
  have hset : (w.alloc (.cells (madeCells #[.int .i64 0] n) 3)).cell? ⟨w.heap.size, i, none⟩ = some (.int .i64 0) := (World.rowIs_made w (.int .i64 0) n 3).cell hi
  have hfrz : (w.alloc (.cells (madeCells #[.int .i64 0] n) 3)).frozen? ⟨w.heap.size, i, none⟩ = false := (World.rowIs_made w (.int .i64 0) n 3).frozen i
  have HR := Lib.hid hr
  have HA := Lib.hid ha
  clear hr ha
  go_enter Tryd.func78, Tryd.ntmps78
  go_wp2
  clear hset hfrz
  have h0 : (w.alloc (.cells ((madeCells #[.int .i64 0] n).setIfInBounds i (.int .i64 1)) 3)).rowIs w.heap.size 3 n (fun y => .int .i64 (stepV Z n i 0 y)) := by
    have := (World.rowIs_made w (.int .i64 0) n 3).set i (.int .i64 1)
    rw [World.setCell_alloc_at _ _ _ _ _ rfl] at this
    refine this.congr fun y _ => ?_
    unfold stepV
    by_cases e : y = i
    · rw [if_pos e, if_pos e]
    · rw [if_neg e, if_neg e]
  have H0 := Lib.hid h0
  clear h0
  go_loopw [5, 6, 7, 8, 9] (fun now s _ _ _ wr => ∃ k : Nat, k + 1 ≤ n ∧ s = .int .i64 ((k : Int) + 1) ∧ ∃ g, now = .slice (some ⟨g, 0, none⟩) n n ∧ w.heap.size ≤ g ∧ wr.rowIs g 3 n (fun y => .int .i64 (stepV Z n i k y)) ∧ Below w.heap.size w wr) (fun _ s _ _ _ _ => n + 1 - (intOf s).toNat)
  case atStart => exact ⟨0, by omega, rfl, w.heap.size, rfl, Nat.le_refl _, H0.out, (Below.refl _ _).alloc (Nat.le_refl _) _⟩
  case round =>
    obtain ⟨k, hk, rfl, g, rfl, hg, hrow, hb⟩ := hrel
    clear H0
    have R1 := Lib.hid hrow
    have B1 := Lib.hid hb
    clear hrow hb
    by_cases hlt : k + 1 < n
    · have hd1 : decide ((k : Int) + 1 < n) = true := by simp; omega
      go_wp2
      obtain ⟨wo, rfl⟩ : ∃ wo : World, wo = wr := ⟨_, rfl⟩
      have hgl := R1.out.lt
      clear hmk
      have Gl := Lib.hid hgl
      clear hgl
      have M0 := Lib.hid ((World.rowIs_made wo (.int .i64 0) n 3).congr (g := fun y => .int .i64 (nextF Z (stepV Z n i k) 0 0 y)) (fun _ _ => rfl))
      go_loopw [8, 9] (fun x _ wr => ∃ p : Nat, p ≤ n ∧ x = .int .i64 p ∧ wr.rowIs wo.heap.size 3 n (fun y => .int .i64 (nextF Z (stepV Z n i k) p 0 y)) ∧ Below wo.heap.size wo wr) (fun x _ _ => n - (intOf x).toNat)
      case atStart => exact ⟨0, Nat.zero_le _, rfl, M0.out, (Below.refl _ _).alloc (Nat.le_refl _) _⟩
      case round =>
        obtain ⟨p, hp, rfl, hrow, hb⟩ := hrel
        clear M0
        have R2 := Lib.hid hrow
        have B2 := Lib.hid hb
        clear hrow hb
        by_cases hplt : p < n
        · go_wp2
          obtain ⟨wm, rfl⟩ : ∃ wm : World, wm = wr := ⟨_, rfl⟩
          go_loopw [9] (fun y wr => ∃ q : Nat, q ≤ n ∧ y = .int .i64 q ∧ wr.rowIs wo.heap.size 3 n (fun y => .int .i64 (nextF Z (stepV Z n i k) p q y)) ∧ Below wo.heap.size wo wr) (fun y _ => n - (intOf y).toNat)
          case atStart => exact ⟨0, Nat.zero_le _, rfl, R2.out, B2.out⟩
          case round =>
            obtain ⟨q, hq, rfl, hrow, hb⟩ := hrel
            clear R2 B2
            by_cases hqlt : q < n
            · have hc1 := hrow.cell hqlt
              have hf1 := hrow.frozen q
              have hc2 := (hb.cell (p := ⟨g, p, none⟩) Gl.out).trans (R1.out.cell hplt)
              have hT := (HA.out.below (Nat.le_refl _) B1.out).below (Nat.le_refl _) hb
              obtain ⟨ba, oa, rfl, hca, hra⟩ := hT p hplt
              have hLp := (HR.out.2 p hplt).1
              have hqL : q < L p := by omega
              obtain ⟨bc, oc, hA, hcc⟩ := hra q (by omega)
              rw [hA] at hca
              have hz := ((HR.out.2 p hplt).2 q hqlt).1
              have hsb := stepV_bound (T := Z) (n := n) (i := i) (fun x y hx hy => by have := ((HR.out.2 x hx).2 y hy).1; omega) k p (by omega) hplt
              have hpb := prod_bound hsb ⟨by omega, hz.2⟩
              have hmul : IntKind.i64.wrap (stepV Z n i k p * Z p q) = stepV Z n i k p * Z p q := IntWalk.i64_in _ (by omega)
              have hpos : 0 ≤ stepV Z n i k p * Z p q := hpb.1
              have R3 := Lib.hid hrow
              have B3 := Lib.hid hb
              clear hT hra hA hLp hrow hb
              go_wp2
              go_still_tail 20, (by kernel_rfl)
              go_wp2
              go_roundw
              case rel =>
                refine ⟨q + 1, by omega, by go_num, ((R3.out.set q _).drew).congr (fun y _ => ?_), (B3.out.setCell (Nat.le_refl _) _).drew⟩
                rw [← nextF_step Z (stepV Z n i k) p q y]
                by_cases e : y = q
                · rw [if_pos e, if_pos e]
                · rw [if_neg e, if_neg e]
              case measure => simp [intOf]; omega
            · obtain rfl : q = n := by omega
              have R3 := Lib.hid (hrow.congr (g := fun y => .int .i64 (nextF Z (stepV Z q i k) (p + 1) 0 y)) (fun y hy => by rw [nextF_row _ _ _ _ _ hy]))
              have B3 := Lib.hid hb
              clear hrow hb
              go_wp2
              go_roundw
              case rel => exact ⟨p + 1, by omega, by go_num, R3.out, B3.out⟩
              case measure => simp [intOf]; omega
        · obtain rfl : p = n := by omega
          go_wp2
          go_roundw
          case rel => exact ⟨k + 1, by omega, by go_num, wo.heap.size, rfl, by have := B1.out.size; omega, R2.out.congr (fun y hy => rfl), B1.out.trans (B2.out.mono B1.out.size)⟩
          case measure => simp [intOf]; omega
    · have hkn : k = n - 1 := by omega
      have R3 := Lib.hid (hkn ▸ R1.out)
      clear hmk hkn
      go_wp2
      go_ret
      exact ⟨g, rfl, hg, R3.out, B1.out⟩
end Go.Proofs.YtabdbgnkiebcdaaDoor

namespace Go.Proofs.YtabdbgnkiebcdaaDoor
set_option linter.unusedVariables false
open Go.RowKit

set_option maxHeartbeats 800000 in
theorem l2Divisor_any (x y : Nat) (w : World) (hx : x ≤ 1000000000000000000) (hy : y ≤ 1000000000000000000) :
    Calls Tryd.prog 116 #[.int .i64 x, .int .i64 y] w fun e w' => e = .returned (.int .i64 (Nat.gcd x y : Nat)) ∧ w = w' := by
  obtain ⟨g, hg⟩ : ∃ g, g = Nat.gcd x y := ⟨_, rfl⟩
  rw [← hg]
  have QG := Lib.hid hg
  clear hg
  go_enter Tryd.func116, Tryd.ntmps116
  go_wp2
  go_loop [0, 1, 5] (fun p q _ => ∃ a b : Nat, p = .int .i64 a ∧ q = .int .i64 b ∧ Nat.gcd a b = g ∧ a ≤ 1000000000000000000 ∧ b ≤ 1000000000000000000) (fun _ q _ => (intOf q).toNat)
  case atStart => exact ⟨x, y, rfl, rfl, QG.out.symm, hx, hy⟩
  case round =>
    obtain ⟨a, b, rfl, rfl, he, ha, hb⟩ := hrel
    have HE := Lib.hid he
    clear he
    by_cases hlt : 0 < b
    · go_wp2
      go_round
      case rel =>
        refine ⟨b, a % b, rfl, by rw [Int.natCast_emod], ?_, hb, ?_⟩
        · rw [gcd_turn]; exact HE.out
        · have := Nat.mod_lt a hlt; omega
      case measure =>
        show ((a : Int) % (b : Int)).toNat < ((b : Nat) : Int).toNat
        rw [← Int.natCast_emod]
        exact Nat.mod_lt a hlt
    · obtain rfl : b = 0 := by omega
      have HG := Lib.hid (show a = g by rw [← HE.out]; exact (Nat.gcd_zero_right a).symm)
      go_wp2
      go_ret
      exact ⟨by rw [← HG.out]; rfl, rfl⟩

set_option maxHeartbeats 1600000 in
theorem l2Least_any6 (m c : Nat) (a : Option Addr) (X : Nat → Int) (w : World) (hm1 : 1 ≤ m) (hm : m ≤ 6) (ha : Rd w a m X) (hX : ∀ k, k < m → 1 ≤ X k ∧ X k ≤ 1000000000000000000) :
    Calls Tryd.prog 79 #[.slice a m c] w (RetList 3 m (leastF X m) w) := by
  obtain ⟨i0, hi, hz0, hz1, hz2⟩ := info_parts Tryd.infoInt
  have HA := Lib.hid ha
  have HX := Lib.hid hX
  clear ha hX
  go_enter Tryd.func79, Tryd.ntmps79
  go_wp2
  go_loop [3, 4] (fun d s => ∃ k : Nat, k ≤ m ∧ s = .int .i64 k ∧ d = .int .i64 (gcdT X k : Nat)) (fun _ s => m - (intOf s).toNat)
  case atStart => exact ⟨0, Nat.zero_le _, rfl, rfl⟩
  case round =>
    obtain ⟨k, hk, rfl, rfl⟩ := hrel
    have hle := gcdT_le (M := 1000000000000000000) k (fun j hj => HX.out j (by omega))
    obtain ⟨D, hD⟩ : ∃ D, D = gcdT X k := ⟨_, rfl⟩
    rw [← hD] at hle ⊢
    have QD := Lib.hid hD
    clear hD
    by_cases hlt : k < m
    · obtain ⟨ba, oa, rfl, hca⟩ := HA.out k hlt
      obtain ⟨x, hx⟩ := Int.eq_ofNat_of_zero_le (show 0 ≤ X k by have := (HX.out k hlt).1; omega)
      have hx18 : x ≤ 1000000000000000000 := by have := (HX.out k hlt).2; omega
      rw [hx] at hca
      have QX := Lib.hid hx
      clear hx
      go_wp2_with (go_at_call 116; refine (l2Divisor_any x D _ hx18 hle).mono ?_; rintro e w' ⟨rfl, rfl⟩)
      go_round
      case rel =>
        refine ⟨k + 1, by omega, by go_num, ?_⟩
        show Value.int .i64 _ = Value.int .i64 ((Nat.gcd (gcdT X k) (X k).toNat : Nat) : Int)
        rw [QX.out, ← QD.out, Nat.gcd_comm]
        rfl
      case measure => simp [intOf]; omega
    · obtain rfl : k = m := by omega
      have hpos := gcdT_pos (X := X) hm1 (fun j hj => (HX.out j hj).1)
      rw [← QD.out] at hpos
      go_wp2
      have R0 := Lib.hid (show (w.alloc (.cells #[] 3)).ownsRow w.heap.size 3 1 (.slice (some ⟨w.heap.size, 0, none⟩) 0 0) 0 (cellsL 0 (leastF X k)) from World.ownsRow_made w #[] 0 (Nat.le_refl _) (Nat.zero_le _) (by simp))
      go_loopw [5, 6] (fun row s wi => ∃ j : Nat, j ≤ k ∧ s = .int .i64 j ∧ ∃ rv, rv = row ∧ wi.ownsRow w.heap.size 3 1 rv j (cellsL j (leastF X k)) ∧ Below w.heap.size w wi) (fun _ s _ => k - (intOf s).toNat)
      case atStart => exact ⟨0, Nat.zero_le _, rfl, _, rfl, R0.out, below_alloc (Below.refl _ _) _⟩
      case round =>
        obtain ⟨j, hj, rfl, rv, rfl, hown, hb⟩ := hrel
        clear R0
        by_cases hjlt : j < k
        · obtain ⟨ba, oa, rfl, hca⟩ := (HA.out.below (Nat.le_refl _) hb) j hjlt
          have hx1 := (HX.out j hjlt).1
          have hx2 := (HX.out j hjlt).2
          have hq1 : 0 ≤ X j / (D : Int) := Int.ediv_nonneg (by omega) (by omega)
          have hq2 : X j / (D : Int) ≤ X j := Int.ediv_le_self _ (by omega)
          have HO := Lib.hid hown
          have Hb := Lib.hid hb
          have hsz := hb.size
          clear hown hb
          go_wp2_with (at_builtin; refine wpList_append_lies _ (by rfl) (.tmp 26) (.tmp 33) 32 (by rfl) w.heap.size 3 i0 (.int .i64 0) 1 8 Tryd.underlying32 hi hz0 hz1 hz2 (by rfl) (by decide) rv j (cellsL j (leastF X k)) (by rfl) (HO.out.alloc _) ⟨_, 0, none⟩ 1 1 [.int .i64 (X j / (D : Int))] (by rfl) (by rfl) (news_one (by simp)) (by simp [Value.oneCell']) (by omega) (by unfold maxLen; omega) (by omega) (by simp; omega) _ rfl ?_; intro g2 cap2 w2 hown2 hgrow2 hat2 hlt2; have N2 := Lib.hid hown2; have G2 := Lib.hid hgrow2; clear hown2 hgrow2 hat2)
          go_roundw
          case rel =>
            refine ⟨j + 1, by omega, by go_num, _, rfl, ?_, (Hb.out.alloc hsz _).grown G2.out (by simp; omega) (fun k hk => (HO.out.lt k hk).1)⟩
            have := N2.out
            rw [cellsL_snoc] at this
            rwa [cellsL_congr (Y := leastF X k) (fun l hl => by
              by_cases e : l < j
              · rw [if_pos e]
              · rw [if_neg e]; have : l = j := by omega
                subst this; rw [QD.out]; rfl)] at this
          case measure => simp [intOf]; omega
        · obtain rfl : j = k := by omega
          obtain ⟨gr, cr, rfl⟩ := owns_form hown (by omega)
          have HO := Lib.hid hown
          have Hb := Lib.hid hb
          clear hown hb
          go_wp2
          go_ret
          exact ⟨_, _, rfl, HO.out, Hb.out⟩
theorem l2Least_any (m c : Nat) (a : Option Addr) (X : Nat → Int) (w : World) (hm1 : 1 ≤ m) (hm : m ≤ 5) (ha : Rd w a m X) (hX : ∀ k, k < m → 1 ≤ X k ∧ X k ≤ 1000000000000000000) :
    Calls Tryd.prog 79 #[.slice a m c] w (RetList 3 m (leastF X m) w) := l2Least_any6 m c a X w hm1 (by omega) ha hX
end Go.Proofs.YtabdbgnkiebcdaaDoor

namespace Go.Proofs.YtabdbgnkiebcdaaDoor
set_option linter.unusedVariables false
open Go.RowKit

/-- Is it a table without a round that gains? -/
def FindOk (n : Nat) (L : Nat → Nat) (Z : Nat → Nat → Int) : Prop := IsRates n L Z ∧ (gaining n Z).length = 0
/-- How many prices there are. -/
noncomputable def findN (n : Nat) (L : Nat → Nat) (Z : Nat → Nat → Int) : Nat := if tt (FindOk n L Z) = true then n else 0
theorem findN_yes {n : Nat} {L : Nat → Nat} {Z : Nat → Nat → Int} (h : FindOk n L Z) : findN n L Z = n := by unfold findN; rw [tt_of h]; rfl
theorem findN_no {n : Nat} {L : Nat → Nat} {Z : Nat → Nat → Int} (h : ¬ FindOk n L Z) : findN n L Z = 0 := by unfold findN; rw [tt_no h]; rfl
theorem findN_le {n : Nat} {L : Nat → Nat} {Z : Nat → Nat → Int} : findN n L Z ≤ 1048576 := by
  by_cases h : FindOk n L Z
  · rw [findN_yes h]; have := h.1.1; omega
  · rw [findN_no h]; omega

set_option maxHeartbeats 1600000 in
theorem l2Found_any (n c : Nat) (a : Option Addr) (A : Nat → Option Addr) (L C : Nat → Nat) (Z : Nat → Nat → Int) (w : World) (hr : IsRates n L Z) (ha : Tab w a n A L C Z) :
    Calls Tryd.prog 38 #[.slice a n c] w (RetList 3 n (leastF (foundF Z n) n) w) := by
  obtain ⟨i0, hi, hz0, hz1, hz2⟩ := info_parts Tryd.infoInt
  have hn2 := hr.1.1
  have hn5 := hr.1.2
  have HA := Lib.hid ha
  have HR := Lib.hid hr
  have HX := Lib.hid (fun k (hk : k < n) => foundF_range hr hk)
  clear ha hr
  go_enter Tryd.func38, Tryd.ntmps38
  go_wp2
  have R0 := Lib.hid (show (w.alloc (.cells #[] 3)).ownsRow w.heap.size 3 1 (.slice (some ⟨w.heap.size, 0, none⟩) 0 0) 0 (cellsL 0 (foundF Z n)) from World.ownsRow_made w #[] 0 (Nat.le_refl _) (Nat.zero_le _) (by simp))
  go_loopw [3, 4] (fun row s wi => ∃ j : Nat, j ≤ n ∧ s = .int .i64 j ∧ ∃ rv, rv = row ∧ wi.ownsRow w.heap.size 3 1 rv j (cellsL j (foundF Z n)) ∧ Below w.heap.size w wi) (fun _ s _ => n - (intOf s).toNat)
  case atStart => exact ⟨0, Nat.zero_le _, rfl, _, rfl, R0.out, below_alloc (Below.refl _ _) _⟩
  case round =>
    obtain ⟨j, hj, rfl, rv, rfl, hown, hb⟩ := hrel
    clear R0
    by_cases hjlt : j < n
    · have HO := Lib.hid hown
      have Hb := Lib.hid hb
      have hsz := hb.size
      have h0n : 0 < n := by omega
      clear hown hb
      go_wp2_with (first
        | (go_at_call 78; refine (l1Steps_any n c j a A L C Z _ HR.out hjlt (HA.out.below (Nat.le_refl _) Hb.out)).mono ?_; rintro e w1 ⟨g1, rfl, hg1, hrow1, hb1⟩; have hc1 : w1.cell? ⟨g1, 0, none⟩ = some (.int .i64 (foundF Z n j)) := hrow1.cell (show 0 < n by omega); have B1 := Lib.hid hb1; have O1 := Lib.hid (HO.out.kept (row := none) ⟨hb1.os, hb1.tape, hb1.output, hb1.size, fun k hk _ => hb1.block k hk⟩ (by by_cases e : rv.ownBlock = none; exact .inl e; exact .inr e)); have hs1 := hb1.size; clear hrow1 hb1)
        | (at_builtin; refine wpList_append_lies _ (by rfl) (.tmp 12) (.tmp 18) 32 (by rfl) w.heap.size 3 i0 (.int .i64 0) 1 8 Tryd.underlying32 hi hz0 hz1 hz2 (by rfl) (by decide) rv j (cellsL j (foundF Z n)) (by rfl) (O1.out.alloc _) ⟨_, 0, none⟩ 1 1 [.int .i64 (foundF Z n j)] (by rfl) (by rfl) (news_one (by simp)) (by simp [Value.oneCell']) (by omega) (by unfold maxLen; omega) (by omega) (by simp; omega) _ rfl ?_; intro g2 cap2 w2 hown2 hgrow2 hat2 hlt2; have N2 := Lib.hid hown2; have G2 := Lib.hid hgrow2; clear hown2 hgrow2 hat2))
      go_roundw
      case rel =>
        refine ⟨j + 1, by omega, by go_num, _, rfl, ?_, ((Hb.out.trans (B1.out.mono hsz)).alloc (by omega) _).grown G2.out (by simp; omega) (fun k hk => (HO.out.lt k hk).1)⟩
        have := N2.out
        rw [cellsL_snoc] at this
        rwa [cellsL_congr (Y := foundF Z n) (fun l hl => by
          by_cases e : l < j
          · rw [if_pos e]
          · rw [if_neg e]; have : l = j := by omega
            subst this; rfl)] at this
      case measure => simp [intOf]; omega
    · obtain rfl : j = n := by omega
      obtain ⟨gr, cr, rfl⟩ := owns_form hown (by omega)
      have HO := Lib.hid (owns_rd hown)
      have Hb := Lib.hid hb
      clear hown hb
      go_wp2_with (go_at_call 79; refine (l2Least_any j cr _ (foundF Z j) _ (by omega) hn5 HO.out HX.out).mono ?_; rintro e w4 ⟨g4, cap4, rfl, hown4, hb4⟩; have O4 := Lib.hid (owns_base hown4 Hb.out.size); have B4 := Lib.hid (below_chain Hb.out hb4); clear hown4 hb4)
      go_ret
      exact ⟨g4, cap4, rfl, O4.out, B4.out⟩
end Go.Proofs.YtabdbgnkiebcdaaDoor

namespace Go.Proofs.YtabdbgnkiebcdaaDoor
set_option linter.unusedVariables false

theorem found_step {n : Nat} {L : Nat → Nat} {Z : Nat → Nat → Int} (hr : IsRates n L Z) (h0 : gaining n Z = []) {i k : Nat} (hi : i < n) (hk : k < n) : Z i k * foundF Z n k ≤ 12 * foundF Z n i := by
  have hZ : ∀ i k, i < n → k < n → 0 ≤ Z i k := fun i k hi hk => by have := ((hr.2 i hi).2 k hk).1; omega
  have hn := hr.1.1
  have hpos := (foundF_range hr hk).1
  obtain ⟨W, hW, eW⟩ := walk_some hZ hk (n - 1) 0 (by omega) (show 0 < stepV Z n k (n - 1) 0 from hpos)
  have hne : W ≠ [] := fun e => by have := hW.len; rw [e] at this; simp at this
  obtain ⟨x, t, rfl⟩ : ∃ x t, W = x :: t := by
    cases W with
    | nil => exact absurd rfl hne
    | cons x t => exact ⟨x, t, rfl⟩
  have hx : x = (k : Int) := by have := hW.first; simpa using this
  subst hx
  have e1 : along Z ((i : Int) :: (k : Int) :: t) = Z i k * foundF Z n k := by
    show Z i k * along Z ((k : Int) :: t) = _
    rw [eW]; rfl
  have hm : ∀ y, y ∈ (i : Int) :: (k : Int) :: t → 0 ≤ y ∧ y < n := fun y hy => by
    rcases List.mem_cons.1 hy with h | h
    · subst h; omega
    · exact hW.mem y h
  have hlast : ((i : Int) :: (k : Int) :: t).getLast? = some ((0 : Nat) : Int) := (last_app [(i : Int)] (k : Int) t).trans hW.last
  obtain ⟨P, hP, h1, h2, h3, h4, h5⟩ := walk_way hZ (no_gain (fun i hi => ((hr.2 i hi).2 i hi).2 rfl) h0) ((i : Int) :: (k : Int) :: t).length ((i : Int) :: (k : Int) :: t) (Nat.le_refl _) rfl hlast hm
  have hle : P.length ≤ n := diff_le (diff_mem.2 ⟨h3, hP⟩)
  have h6 := pad_walk hZ (k := 0) (by omega) (((hr.2 0 (by omega)).2 0 (by omega)).2 rfl) h1 h2 h3 (s := n - 1) (by omega)
  have hl : ((i : Int) :: (k : Int) :: t).length = n + 1 := by have := hW.len; simp at this ⊢; omega
  rw [e1, hl] at h5
  have en : n - 1 + 1 - P.length = n - P.length := by omega
  rw [en] at h6
  have hf : stepV Z n i (n - 1) 0 = foundF Z n i := rfl
  rw [hf] at h6
  have e2 : p12 n = p12 (n - P.length) * p12 P.length := by rw [← p12_add, Nat.sub_add_cancel hle]
  have hp1 := p12_pos (n - P.length)
  have hp2 := p12_pos n
  have hp3 := p12_pos (n + 1)
  refine Int.le_of_mul_le_mul_right ?_ hp2
  have g1 := Int.mul_le_mul_of_nonneg_right h5 (Int.le_of_lt hp1)
  have g2 := Int.mul_le_mul_of_nonneg_right h6 (Int.le_of_lt hp3)
  have e3 : Z i k * foundF Z n k * p12 n = Z i k * foundF Z n k * p12 P.length * p12 (n - P.length) := by
    rw [e2, Int.mul_assoc (Z i k * foundF Z n k), Int.mul_comm (p12 P.length)]
  have e4 : along Z P * p12 (n + 1) * p12 (n - P.length) = p12 (n - P.length) * along Z P * p12 (n + 1) := by
    rw [Int.mul_comm _ (p12 (n - P.length)), Int.mul_assoc]
  have e5 : foundF Z n i * p12 (n + 1) = 12 * foundF Z n i * p12 n := by
    show foundF Z n i * (p12 n * 12) = _
    rw [Int.mul_comm (p12 n), ← Int.mul_assoc, Int.mul_comm 12]
  rw [e3]
  refine Int.le_trans g1 ?_
  rw [e4]
  refine Int.le_trans g2 ?_
  rw [e5]
  exact Int.le_refl _
theorem found_le {n : Nat} {L : Nat → Nat} {Z : Nat → Nat → Int} (hr : IsRates n L Z) {i : Nat} : foundF Z n i ≤ 1000000000 := by
  have h := (stepV_le (T := Z) (n := n) (i := i) (fun x y hx hy => by have := ((hr.2 x hx).2 y hy).1; omega) (n - 1) 0 (by have := hr.1.1; omega)).2
  have hn := hr.1
  have h4 : n - 1 = 1 ∨ n - 1 = 2 ∨ n - 1 = 3 ∨ n - 1 = 4 := by omega
  unfold foundF
  rcases h4 with e | e | e | e <;> rw [e] at h ⊢ <;> omega
theorem found_holds {n : Nat} {L : Nat → Nat} {Z : Nat → Nat → Int} (h : FindOk n L Z) : HoldsOk n L Z n (leastF (foundF Z n) n) := by
  have hr := h.1
  have h0 := List.eq_nil_of_length_eq_zero h.2
  refine ⟨⟨⟨hr, hr.1, fun k hk => leastF_range hk fun j hj => ⟨(foundF_range hr hj).1, found_le hr⟩⟩, rfl⟩, fun i hi k hk => ?_⟩
  have hi1 := leastF_mul hi (foundF_range hr hi).1
  have hk1 := leastF_mul hk (foundF_range hr hk).1
  have hs := found_step hr h0 hi hk
  have hpi := (foundF_range hr hi).1
  have hg : 0 < (gcdT (foundF Z n) n : Int) := by
    rcases Nat.eq_zero_or_pos (gcdT (foundF Z n) n) with e | e
    · rw [e] at hi1; simp at hi1; omega
    · omega
  refine Int.le_of_mul_le_mul_right ?_ hg
  rw [Int.mul_assoc, hk1, Int.mul_assoc, hi1]
  exact hs
end Go.Proofs.YtabdbgnkiebcdaaDoor

namespace Go.Proofs.YtabdbgnkiebcdaaDoor
set_option linter.unusedVariables false
set_option linter.unusedSimpArgs false
open Go.RowKit

/-- The text is the word and numbers that are so. -/
def ProofP (W : List UInt8) (Q : List Int → Prop) (t : ByteArray) : Prop := ∃ L, Q L ∧ t = strU (wordsB W L)
theorem nums_le {l : List UInt8} {L : List Int} (h : numsOf (splitB (behindB l)) = some L) : L.length ≤ l.length := by
  have h1 := (nums_i64 _ _ h).1
  rcases space_cases l with ⟨_, h2⟩ | ⟨i, _, h2, h3, h4⟩
  · rw [behind_none _ h2] at h
    cases h
  · rw [behind_at h3 h4] at h1
    have h5 := splitB_len (l.drop (i + 1))
    rw [List.length_drop] at h5
    omega
theorem proof_iff {W : List UInt8} {Q : List Int → Prop} {t : ByteArray} {L0 : List Int} (hW : ∀ c ∈ W, c ≠ 32) (hQ : ∀ L, Q L → L ≠ [] ∧ L.length ≤ 1000 ∧ FewAll L) (h : numsOf (splitB (behindB t.data.toList)) = some L0) : ProofP W Q t ↔ Q L0 ∧ t = strU (wordsB W L0) := by
  constructor
  · rintro ⟨L, h1, h2⟩
    obtain ⟨q1, _, q3⟩ := hQ L h1
    have h3 := nums_words W hW L q1 q3
    rw [h2, strU_list, h3] at h
    injection h with h
    subst h
    exact ⟨h1, h2⟩
  · rintro ⟨h1, h2⟩
    exact ⟨L0, h1, h2⟩
theorem proof_none {W : List UInt8} {Q : List Int → Prop} {t : ByteArray} (hW : ∀ c ∈ W, c ≠ 32) (hQ : ∀ L, Q L → L ≠ [] ∧ L.length ≤ 1000 ∧ FewAll L) (h : numsOf (splitB (behindB t.data.toList)) = none) : ¬ ProofP W Q t := by
  rintro ⟨L, h1, h2⟩
  obtain ⟨q1, _, q3⟩ := hQ L h1
  have h3 := nums_words W hW L q1 q3
  rw [h2, strU_list, h3] at h
  cases h

def gainsB : List UInt8 := [103, 97, 105, 110, 115]
def holdsB : List UInt8 := [104, 111, 108, 100, 115]

theorem nth_nums {m : Nat} {X : Nat → Int} {k : Nat} (hk : k < m) : nth (numsL m X) k = X k := by
  unfold nth numsL
  simp [List.getD_eq_getElem?_getD, hk]
theorem rd_nums {w : World} {a : Option Addr} {m : Nat} {X : Nat → Int} (h : Rd w a m X) : Rd w a m (nth (numsL m X)) := by
  intro k hk
  obtain ⟨b, o, e, hc⟩ := h k hk
  exact ⟨b, o, e, by rw [nth_nums hk]; exact hc⟩
/-- These prices hold the table. -/
def HoldQ (n : Nat) (L : Nat → Nat) (Z : Nat → Nat → Int) (D : List Int) : Prop := HoldsOk n L Z D.length (nth D)

theorem gain_few {n : Nat} {Z : Nat → Nat → Int} {D : List Int} (hn : n ≤ 5) (h : Gains n Z D) : D ≠ [] ∧ D.length ≤ 1000 ∧ FewAll D := by
  have hw := h.1.1
  refine ⟨fun e => ?_, ?_, ?_⟩
  · have := hw.2.1; rw [e] at this; simp at this
  · have := hw.2.2; omega
  · intro x hx
    obtain ⟨k, hk, rfl⟩ := List.getElem_of_mem hx
    have h1 := hw.1.1 k hk
    have e : nth D k = D[k] := by unfold nth; simp [List.getD_eq_getElem?_getD, List.getElem?_eq_getElem hk]
    rw [e] at h1
    exact ⟨h1.1, by have := h1.2; omega⟩
theorem hold_few {n : Nat} {L : Nat → Nat} {Z : Nat → Nat → Int} {D : List Int} (h : HoldQ n L Z D) : D ≠ [] ∧ D.length ≤ 1000 ∧ FewAll D := by
  have hp := h.1.1.2
  refine ⟨fun e => ?_, ?_, ?_⟩
  · have := hp.1.1; rw [e] at this; simp at this
  · have := hp.1.2; omega
  · intro x hx
    obtain ⟨k, hk, rfl⟩ := List.getElem_of_mem hx
    have h1 := hp.2 k hk
    have e : nth D k = D[k] := by unfold nth; simp [List.getD_eq_getElem?_getD, List.getElem?_eq_getElem hk]
    rw [e] at h1
    exact ⟨by omega, by omega⟩
/-- The proof that is made. -/
noncomputable def prT (n : Nat) (L : Nat → Nat) (Z : Nat → Nat → Int) : List UInt8 :=
  if tt (IsRates n L Z) = true then (if tt (0 < gainN n L Z) = true then wordsB gainsB (firstL n L Z) else wordsB holdsB (numsL n (leastF (foundF Z n) n))) else []
theorem prT_no {n : Nat} {L : Nat → Nat} {Z : Nat → Nat → Int} (h : ¬ IsRates n L Z) : prT n L Z = [] := by unfold prT; rw [tt_no h]; rfl
theorem prT_gain {n : Nat} {L : Nat → Nat} {Z : Nat → Nat → Int} (h : IsRates n L Z) (h1 : 0 < gainN n L Z) : prT n L Z = wordsB gainsB (firstL n L Z) := by unfold prT; rw [tt_of h, tt_of h1]; rfl
theorem prT_hold {n : Nat} {L : Nat → Nat} {Z : Nat → Nat → Int} (h : IsRates n L Z) (h1 : ¬ 0 < gainN n L Z) : prT n L Z = wordsB holdsB (numsL n (leastF (foundF Z n) n)) := by unfold prT; rw [tt_of h, tt_no h1]; rfl
/-- The text is a proof that some round gains. -/
def PrG (n : Nat) (L : Nat → Nat) (Z : Nat → Nat → Int) (t : ByteArray) : Prop := IsRates n L Z ∧ ProofP gainsB (Gains n Z) t
def PrAny (n : Nat) (L : Nat → Nat) (Z : Nat → Nat → Int) (t : ByteArray) : Prop := IsRates n L Z ∧ (ProofP gainsB (Gains n Z) t ∨ ProofP holdsB (HoldQ n L Z) t)
noncomputable def prI (n : Nat) (L : Nat → Nat) (Z : Nat → Nat → Int) (t : ByteArray) : Int := if tt (PrG n L Z t) = true then 1 else 0
theorem prI_yes {n : Nat} {L : Nat → Nat} {Z : Nat → Nat → Int} {t : ByteArray} (h : PrG n L Z t) : prI n L Z t = 1 := by unfold prI; rw [tt_of h]; rfl
theorem prI_no {n : Nat} {L : Nat → Nat} {Z : Nat → Nat → Int} {t : ByteArray} (h : ¬ PrG n L Z t) : prI n L Z t = 0 := by unfold prI; rw [tt_no h]; rfl
theorem gainsB_ok : ∀ c ∈ gainsB, c ≠ 32 := by decide
theorem holdsB_ok : ∀ c ∈ holdsB, c ≠ 32 := by decide
theorem first_few {n : Nat} {L : Nat → Nat} {Z : Nat → Nat → Int} (h : IsRates n L Z) (h1 : 0 < gainN n L Z) : Gains n Z (firstL n L Z) := by
  have h2 : 0 < (gaining n Z).length := by rw [← gainN_yes h]; exact h1
  have h3 : firstL n L Z ∈ gaining n Z := by
    rw [firstL_yes h, List.getD_eq_getElem?_getD, List.getElem?_eq_getElem h2]
    exact List.getElem_mem h2
  have h4 := (List.mem_filter.1 h3).2
  unfold tt at h4
  simpa using h4
theorem nth_few {L : List Int} (h : FewAll L) : ∀ k, k < L.length → FewDig (nth L k) := by
  intro k hk
  have e : nth L k = L[k] := by unfold nth; simp [List.getD_eq_getElem?_getD, List.getElem?_eq_getElem hk]
  rw [e]; exact h _ (List.getElem_mem hk)
end Go.Proofs.YtabdbgnkiebcdaaDoor

namespace Go.Proofs.YtabdbgnkiebcdaaDoor
set_option linter.unusedVariables false
open Go.RowKit

set_option maxHeartbeats 800000 in
theorem l2Prices_any (m c : Nat) (a : Option Addr) (X : Nat → Int) (w : World) (hm : m ≤ 1048576) (ha : Rd w a m X) :
    Calls Tryd.prog 126 #[.slice a m c] w fun e w' => e = .returned (.bool (tt (IsPrices m X))) ∧ w = w' := by
  go_enter Tryd.func126, Tryd.ntmps126
  go_wp2
  go_loop [2, 3] (fun r i => ∃ k : Nat, k ≤ m ∧ i = .int .i64 k ∧ r = .bool false ∧ ∀ j, j < k → 1 ≤ X j ∧ X j ≤ 1000000000) (fun _ i => m - (intOf i).toNat)
  case atStart => exact ⟨0, Nat.zero_le _, rfl, rfl, fun j hj => absurd hj (Nat.not_lt_zero _)⟩
  case round =>
    obtain ⟨k, hk, rfl, rfl, hall⟩ := hrel
    have H1 := Lib.hid hall
    clear hall
    by_cases hlt : k < m
    · obtain ⟨ba, oa, rfl, hca⟩ := ha k hlt
      clear ha
      by_cases hin : InR (X k) 1 1000000000
      · have B1 := Lib.hid (tt_of hin)
        have HI := Lib.hid hin
        clear hin
        go_wp2_with (go_at_call 70; refine (l6In_any _ _ _ _).mono ?_; rintro e w' ⟨rfl, rfl⟩; rw [B1.out])
        go_round
        case rel =>
          exact ⟨k + 1, by omega, by go_num, rfl, fun j hj => by
            by_cases e : j = k
            · subst e; exact HI.out
            · exact H1.out j (by omega)⟩
        case measure => simp [intOf]; omega
      · have B1 := Lib.hid (tt_no hin)
        have hno := Lib.hid (show ¬ IsPrices m X from fun h => hin (h.2 k hlt))
        clear hin
        go_wp2_with (go_at_call 70; refine (l6In_any _ _ _ _).mono ?_; rintro e w' ⟨rfl, rfl⟩; rw [B1.out])
        go_ret
        exact ⟨by rw [tt_no hno.out]; rfl, rfl⟩
    · obtain rfl : k = m := by omega
      clear ha
      go_wp2_with fail
      refine (l6In_any _ _ _ _).mono ?_
      rintro e w' ⟨rfl, rfl⟩
      go_wp2
      go_ret
      exact ⟨ret_bool (tt_congr (by
        unfold IsPrices InR
        constructor
        · intro h; exact ⟨by omega, H1.out⟩
        · intro h; omega)), rfl⟩

end Go.Proofs.YtabdbgnkiebcdaaDoor

namespace Go.Proofs.YtabdbgnkiebcdaaDoor
set_option linter.unusedVariables false
open Go.RowKit

set_option maxHeartbeats 800000 in
theorem l2Both_any (n c m d : Nat) (a b : Option Addr) (A : Nat → Option Addr) (L C : Nat → Nat) (Z : Nat → Nat → Int) (W : Nat → Int) (w : World) (hn0 : n ≤ 1048576) (hL0 : ∀ r, r < n → L r ≤ 1048576) (ha0 : Tab w a n A L C Z) (hm1 : m ≤ 1048576) (hb1 : Rd w b m W) :
    Calls Tryd.prog 91 #[.slice a n c, .slice b m d] w fun e w' => e = .returned (.bool (tt (BothOk n L Z m W))) ∧ w = w' := by
  have H1 := Lib.hid (specRateIn_any n c a A L C Z w hn0 hL0 ha0)
  have H2 := Lib.hid (l2Prices_any m d b W w hm1 hb1)
  clear ha0 hL0 hb1
  by_cases hr : IsRates n L Z
  · have T1 := Lib.hid (tt_of hr)
    by_cases hp : IsPrices m W
    · have T2 := Lib.hid (tt_of hp)
      have E := Lib.hid (show ((n : Int) == (m : Int)) = tt (BothOk n L Z m W) from tt_eq (by
        constructor
        · intro h; exact ⟨⟨hr, hp⟩, by have h' : (n : Int) = m := by simpa using h
                                       omega⟩
        · intro h; have h' := h.2; simp; omega))
      clear hr hp
      go_enter Tryd.func91, Tryd.ntmps91
      go_wp2_with (first
        | (go_at_call 35; refine H1.out.mono ?_; rintro e w1 ⟨rfl, rfl⟩; rw [T1.out])
        | (go_at_call 126; refine H2.out.mono ?_; rintro e w1 ⟨rfl, rfl⟩; rw [T2.out]))
      go_ret
      exact ⟨by rw [← E.out]; rfl, rfl⟩
    · have T2 := Lib.hid (tt_no hp)
      have E := Lib.hid (tt_no (show ¬ BothOk n L Z m W from fun h => hp h.1.2))
      clear hr hp
      go_enter Tryd.func91, Tryd.ntmps91
      go_wp2_with (first
        | (go_at_call 35; refine H1.out.mono ?_; rintro e w1 ⟨rfl, rfl⟩; rw [T1.out])
        | (go_at_call 126; refine H2.out.mono ?_; rintro e w1 ⟨rfl, rfl⟩; rw [T2.out]))
      go_ret
      exact ⟨by rw [E.out]; rfl, rfl⟩
  · have T1 := Lib.hid (tt_no hr)
    have E := Lib.hid (tt_no (show ¬ BothOk n L Z m W from fun h => hr h.1.1))
    clear hr
    go_enter Tryd.func91, Tryd.ntmps91
    go_wp2_with (go_at_call 35; refine H1.out.mono ?_; rintro e w1 ⟨rfl, rfl⟩; rw [T1.out])
    go_ret
    exact ⟨by rw [E.out]; rfl, rfl⟩
end Go.Proofs.YtabdbgnkiebcdaaDoor

namespace Go.Proofs.YtabdbgnkiebcdaaDoor
set_option linter.unusedVariables false
open Go.RowKit

set_option maxHeartbeats 1600000 in
theorem l2Holds_any (n c d : Nat) (a b : Option Addr) (A : Nat → Option Addr) (L C : Nat → Nat) (Z : Nat → Nat → Int) (W : Nat → Int) (w : World) (ho : BothOk n L Z n W) (ha : Tab w a n A L C Z) (hb : Rd w b n W) :
    Calls Tryd.prog 92 #[.slice a n c, .slice b n d] w fun e w' => e = .returned (.bool (tt (HoldsOk n L Z n W))) ∧ ∃ q, w' = w.drewN q := by
  have HO := Lib.hid ho
  have HA := Lib.hid ha
  have HB := Lib.hid hb
  have h5 := ho.1.1.1.2
  clear ho ha hb
  go_enter Tryd.func92, Tryd.ntmps92
  go_wp2
  go_loopw [4, 5, 6] (fun r s _ wi => ∃ i : Nat, i ≤ n ∧ s = .int .i64 i ∧ r = .bool false ∧ (∀ i', i' < i → ∀ k, k < n → Z i' k * W k ≤ 12 * W i') ∧ ∃ q, wi = w.drewN q) (fun _ s _ _ => n - (intOf s).toNat)
  case atStart => exact ⟨0, Nat.zero_le _, rfl, rfl, fun j hj => absurd hj (Nat.not_lt_zero _), 0, rfl⟩
  case round =>
    obtain ⟨i, hi, rfl, rfl, hall, q, rfl⟩ := hrel
    have G1 := Lib.hid hall
    clear hall
    by_cases hlt : i < n
    · go_wp2
      go_loopw [4, 6] (fun r s wi => ∃ j : Nat, j ≤ n ∧ s = .int .i64 j ∧ r = .bool false ∧ (∀ k, k < j → Z i k * W k ≤ 12 * W i) ∧ ∃ q, wi = w.drewN q) (fun _ s _ => n - (intOf s).toNat)
      case atStart => exact ⟨0, Nat.zero_le _, rfl, rfl, fun j hj => absurd hj (Nat.not_lt_zero _), _, rfl⟩
      case round =>
        obtain ⟨j, hj, rfl, rfl, hall, q, rfl⟩ := hrel
        have G2 := Lib.hid hall
        clear hall
        by_cases hjlt : j < n
        · obtain ⟨ba, oa, rfl, hca, hra⟩ := HA.out i hlt
          have hLi : j < L i := by have := (HO.out.1.1.2 i hlt).1; omega
          obtain ⟨bc, oc, hAi, hcc⟩ := hra j hLi
          rw [hAi] at hca
          obtain ⟨bb, ob, rfl, hcb⟩ := HB.out j hjlt
          have hcb2 : w.cell? ⟨bb, ob + i, none⟩ = some (.int .i64 (W i)) := by
            obtain ⟨b', o', he, hc'⟩ := HB.out i hlt
            cases he; exact hc'
          have hp := prod_le HO.out hlt hjlt
          have hp1 := hp.1
          have hp2 := hp.2
          have hw := HO.out.1.2.2 i hlt
          have hw1 := hw.1
          have hw2 := hw.2
          clear hra hAi hp hw
          by_cases hq : Z i j * W j ≤ 12 * W i
          · have hd : decide (12 * W i < Z i j * W j) = false := by simpa using hq
            have HQ := Lib.hid hq
            clear hq
            go_wp2
            go_quiet (fail)
            go_wp2
            go_roundw
            case rel =>
              exact ⟨j + 1, by omega, by go_num, rfl, fun k hk => by
                by_cases e : k = j
                · subst e; exact HQ.out
                · exact G2.out k (by omega), _, rfl⟩
            case measure => simp [intOf]; omega
          · have hd : decide (12 * W i < Z i j * W j) = true := by simpa using hq
            have hno := Lib.hid (tt_no (show ¬ HoldsOk n L Z n W from fun h => hq (h.2 i hlt j hjlt)))
            clear hq
            go_wp2
            go_quiet (fail)
            go_wp2
            go_ret
            exact ⟨by rw [hno.out]; rfl, q + nq, by rw [World.drewN_drewN]⟩
        · obtain rfl : j = n := by omega
          go_wp2
          go_roundw
          case rel =>
            exact ⟨i + 1, by omega, by go_num, rfl, fun i' hi' => by
              by_cases e : i' = i
              · subst e; exact G2.out
              · exact G1.out i' (by omega), _, rfl⟩
          case measure => simp [intOf]; omega
    · obtain rfl : i = n := by omega
      have hyes := Lib.hid (tt_of (show HoldsOk i L Z i W from ⟨HO.out, G1.out⟩))
      go_wp2
      go_ret
      exact ⟨by rw [hyes.out]; rfl, _, rfl⟩

set_option maxHeartbeats 800000 in
theorem specPriceHolds_any (n c m d : Nat) (a b : Option Addr) (A : Nat → Option Addr) (L C : Nat → Nat) (Z : Nat → Nat → Int) (W : Nat → Int) (w : World) (hn0 : n ≤ 1048576) (hL0 : ∀ r, r < n → L r ≤ 1048576) (ha0 : Tab w a n A L C Z) (hm1 : m ≤ 1048576) (hb1 : Rd w b m W) :
    Calls Tryd.prog 50 #[.slice a n c, .slice b m d] w fun e w' => e = .returned (.bool (tt (HoldsOk n L Z m W))) ∧ Below w.heap.size w w' := by
  have H1 := Lib.hid (l2Both_any n c m d a b A L C Z W w hn0 hL0 ha0 hm1 hb1)
  by_cases ho : BothOk n L Z m W
  · have T1 := Lib.hid (tt_of ho)
    obtain rfl := ho.2
    have H2 := Lib.hid (l2Holds_any n c d a b A L C Z W w ho ha0 hb1)
    clear ha0 hL0 hb1 ho
    go_enter Tryd.func50, Tryd.ntmps50
    go_wp2_with (first
      | (go_at_call 91; refine H1.out.mono ?_; rintro e w1 ⟨rfl, rfl⟩; rw [T1.out])
      | (go_at_call 92; refine H2.out.mono ?_; rintro e w1 ⟨rfl, q, rfl⟩))
    go_ret
    exact ⟨rfl, below_drewN (Below.refl _ _) _⟩
  · have T1 := Lib.hid (tt_no ho)
    have T2 := Lib.hid (tt_no (show ¬ HoldsOk n L Z m W from fun h => ho h.1))
    clear ha0 hL0 hb1 ho
    go_enter Tryd.func50, Tryd.ntmps50
    go_wp2_with (go_at_call 91; refine H1.out.mono ?_; rintro e w1 ⟨rfl, rfl⟩; rw [T1.out])
    go_ret
    exact ⟨by rw [T2.out]; rfl, Below.refl _ _⟩
end Go.Proofs.YtabdbgnkiebcdaaDoor

namespace Go.Proofs.YtabdbgnkiebcdaaDoor
set_option linter.unusedVariables false
set_option linter.unusedSimpArgs false
open Go.RowKit

set_option maxRecDepth 100000 in
set_option maxHeartbeats 1600000 in
theorem specProofRate_any (n c : Nat) (a : Option Addr) (A : Nat → Option Addr) (L C : Nat → Nat) (Z : Nat → Nat → Int) (w : World) (hn0 : n ≤ 1048576) (hL0 : ∀ r, r < n → L r ≤ 1048576) (ha0 : Tab w a n A L C Z) :
    Calls Tryd.prog 12 #[.slice a n c] w fun e w' => e = .returned (.tuple #[.string (strU (prT n L Z)), .bool (tt (IsRates n L Z))]) ∧ Below w.heap.size w w' := by
  have H1 := Lib.hid (specRateIn_any n c a A L C Z w hn0 hL0 ha0)
  by_cases hr : IsRates n L Z
  · have H2 := Lib.hid (fun w' (hb : Below w.heap.size w w') => l1Rounds_any n c a A L C Z w' hr (ha0.below (Nat.le_refl _) hb))
    have H3 := Lib.hid (fun w' (hb : Below w.heap.size w w') => l2Found_any n c a A L C Z w' hr (ha0.below (Nat.le_refl _) hb))
    have T1 := Lib.hid (tt_of hr)
    have HR := Lib.hid hr
    have hn5 := hr.1.2
    obtain ⟨N, hN⟩ : ∃ N, N = (gaining n Z).length := ⟨_, rfl⟩
    have QN := Lib.hid hN
    have hgn := gainN_yes hr
    by_cases h0 : 0 < N
    · have hz : decide ((0 : Int) < (N : Int)) = true := decide_eq_true (by omega)
      have hzn : decide (0 < N) = true := decide_eq_true h0
      have hg : 0 < gainN n L Z := by omega
      have E := Lib.hid (prT_gain hr hg)
      have FW := Lib.hid (gain_few hn5 (first_few hr hg))
      have FL := Lib.hid (show lenL (gaining n Z) 0 = (firstL n L Z).length ∧ nthL (gaining n Z) 0 = nth (firstL n L Z) by rw [firstL_yes hr]; exact ⟨rfl, rfl⟩)
      have i1 : (0 : Int) < (N : Int) := by omega
      clear hL0 ha0 hr hN hgn hg
      go_enter Tryd.func12, Tryd.ntmps12
      go_wp2_with (first
        | (go_at_call 35; refine H1.out.mono ?_; rintro e w' ⟨rfl, rfl⟩; rw [T1.out])
        | (go_at_call 36; refine (H2.out _ (Below.refl _ _)).mono ?_; rintro e w2 ⟨v, G, Cp, rfl, hM, hb⟩; rw [← QN.out] at hM; obtain ⟨g, gc, rfl⟩ := owns_form hM.1 h0; have hc := hM.1.cells (g := g) rfl 0 (.slice (some ⟨G 0, 0, none⟩) (lenL (gaining n Z) 0) (Cp 0)) (by simp [h0]); rw [Go.WideShapes.add_plain, Nat.add_zero, FL.out.1] at hc; have HM := Lib.hid (hM.2.1 0 h0).2.2.2; have B2 := Lib.hid hb; clear hM hb)
        | (go_at_call 37; refine (l11Words_any gainsB _ _ _ (nth (firstL n L Z)) _ (by decide) (by have := FW.out.2.1; omega) (nth_few FW.out.2.2) (by have h := HM.out; rw [FL.out.1] at h; exact (show OwnR _ _ _ _ (nth (firstL n L Z)) from by rw [← FL.out.2]; exact h).rd)).mono ?_; rintro e w3 ⟨rfl, hb⟩; have B3 := Lib.hid (below_chain B2.out hb); clear hb))
      go_ret2
      rw [T1.out, E.out]
      exact ⟨by rw [numsL_nthR]; rfl, B3.out⟩
    · have hz : decide ((0 : Int) < (N : Int)) = false := decide_eq_false (by omega)
      have hzn : decide (0 < N) = false := decide_eq_false h0
      have hg : ¬ 0 < gainN n L Z := by omega
      have E := Lib.hid (prT_hold hr hg)
      have FW := Lib.hid (show ∀ k, k < n → FewDig (leastF (foundF Z n) n k) from fun k hk => by
        have := (found_holds (show FindOk n L Z from ⟨hr, by omega⟩)).1.1.2.2 k hk
        exact ⟨by omega, by omega⟩)
      clear hL0 ha0 hr hN hgn hg
      go_enter Tryd.func12, Tryd.ntmps12
      go_wp2_with (first
        | (go_at_call 35; refine H1.out.mono ?_; rintro e w' ⟨rfl, rfl⟩; rw [T1.out])
        | (go_at_call 36; refine (H2.out _ (Below.refl _ _)).mono ?_; rintro e w1 ⟨v, G, Cp, rfl, hM, hb⟩; rw [← QN.out] at hM; obtain ⟨ga, gc, rfl⟩ := making_len hM; have B1 := Lib.hid hb; clear hM hb)
        | (go_at_call 38; refine (H3.out _ B1.out).mono ?_; rintro e w2 ⟨g, cap, rfl, ho, hb⟩; have R2 := Lib.hid (owns_rd ho); have B2 := Lib.hid (below_chain B1.out hb); clear ho hb)
        | (go_at_call 37; refine (l11Words_any holdsB n _ _ (leastF (foundF Z n) n) _ (by decide) (by omega) FW.out R2.out).mono ?_; rintro e w3 ⟨rfl, hb⟩; have B3 := Lib.hid (below_chain B2.out hb); clear hb))
      go_ret2
      rw [T1.out, E.out]
      exact ⟨rfl, B3.out⟩
  · have T1 := Lib.hid (tt_no hr)
    have E := Lib.hid (prT_no hr)
    clear hL0 ha0 hr
    go_enter Tryd.func12, Tryd.ntmps12
    go_wp2_with (go_at_call 35; refine H1.out.mono ?_; rintro e w' ⟨rfl, rfl⟩; rw [T1.out])
    go_ret2
    rw [T1.out, E.out]
    exact ⟨rfl, Below.refl _ _⟩

/-- A proof of the one kind is none of the other. -/
theorem not_both {t : ByteArray} {L M : List Int} (h : t = strU (wordsB gainsB L)) : t ≠ strU (wordsB holdsB M) := by
  intro h2
  have h3 := congrArg (fun z => z.data.toList) (h.symm.trans h2)
  simp only [strU_list] at h3
  unfold wordsB gainsB holdsB at h3
  simp at h3

set_option maxRecDepth 100000 in
set_option maxHeartbeats 3200000 in
theorem specProofRateIs_any (n c : Nat) (a : Option Addr) (A : Nat → Option Addr) (L C : Nat → Nat) (Z : Nat → Nat → Int) (t : ByteArray) (w : World) (hn0 : n ≤ 1048576) (hL0 : ∀ r, r < n → L r ≤ 1048576) (ha0 : Tab w a n A L C Z) (ht : t.size ≤ 1048576) :
    Calls Tryd.prog 16 #[.slice a n c, .string t] w fun e w' => e = .returned (.tuple #[.int .i64 (prI n L Z t), .bool (tt (PrAny n L Z t))]) ∧ Below w.heap.size w w' := by
  have H1 := Lib.hid (specRateIn_any n c a A L C Z w hn0 hL0 ha0)
  by_cases hr : IsRates n L Z
  · have T1 := Lib.hid (tt_of hr)
    have HR := Lib.hid hr
    have hn2 := hr.1.1
    have hn5 := hr.1.2
    by_cases hg : ∃ D, FewAll D ∧ t = strU (wordsB gainsB D)
    · obtain ⟨D, hD, htD⟩ := hg
      have RY := Lib.hid (read_yes w (W := gainsB) (by decide) ht hD htD)
      have G1 : ProofP gainsB (Gains n Z) t ↔ Gains n Z D := by
        constructor
        · rintro ⟨M, h1, h2⟩
          have h3 := congrArg (fun z => z.data.toList) (htD.symm.trans h2)
          simp only [strU_list] at h3
          rw [words_inj gainsB D M hD (gain_few hn5 h1).2.2 h3]
          exact h1
        · intro h; exact ⟨D, h, htD⟩
      have G2 : ¬ ProofP holdsB (HoldQ n L Z) t := by
        rintro ⟨M, _, h2⟩
        exact not_both htD h2
      have HA := Lib.hid ha0
      by_cases hring : IsRing n D.length (nth D)
      · have T2 := Lib.hid (tt_of hring)
        have HW := Lib.hid hring.1
        have hm2 := hring.1.2.1
        have hmn := hring.1.2.2
        obtain ⟨V, hV⟩ : ∃ V, V = roundV n Z D.length (nth D) := ⟨_, rfl⟩
        obtain ⟨Pw, hP⟩ : ∃ Pw, Pw = p12 n := ⟨_, rfl⟩
        have QV := Lib.hid hV
        have QP := Lib.hid hP
        obtain ⟨m, hm⟩ : ∃ m, m = D.length := ⟨_, rfl⟩
        obtain ⟨Y, hY⟩ : ∃ Y, Y = nth D := ⟨_, rfl⟩
        rw [← hm, ← hY] at RY T2 HW QV
        rw [← hm] at hm2 hmn
        by_cases hlt : Pw < V
        · have d1 : decide (V ≤ Pw) = false := decide_eq_false (by omega)
          have hG : Gains n Z D := ⟨hring, by rw [← hP, ← hV]; exact hlt⟩
          have E1 := Lib.hid (prI_yes (show PrG n L Z t from ⟨hr, G1.2 hG⟩))
          have E2 := Lib.hid (tt_of (show PrAny n L Z t from ⟨hr, .inl (G1.2 hG)⟩))
          clear hr htD hD ha0 hL0 hV hP hlt hG G1 G2 hring hm hY
          go_enter Tryd.func16, Tryd.ntmps16
          go_wp2_with (first
            | (go_at_call 35; refine H1.out.mono ?_; rintro e w' ⟨rfl, rfl⟩; rw [T1.out])
            | (go_at_call 45; refine RY.out.mono ?_; rintro e w1 ⟨⟨b, d, rfl, hrd⟩, hml, hb⟩; have R1 := Lib.hid hrd; have B1 := Lib.hid hb; have ML := Lib.hid hml; clear hrd hb hml)
            | (go_at_call 46; refine (l1Ring_any n m d b Y _ (by omega) ML.out R1.out).mono ?_; rintro e w2 ⟨rfl, q, rfl⟩; rw [T2.out]; have B2 := Lib.hid (below_drewN B1.out q); have R2 := Lib.hid (R1.out.below (Nat.le_refl _) (below_drewN (Below.refl _ w1) q)))
            | (go_at_call 48; refine (l1Closed_any m d b Y _ (by omega) (by omega) R2.out).mono ?_; rintro e w3 ⟨g, cap, rfl, ho, hb⟩; have R3 := Lib.hid (owns_rd ho); have B3 := Lib.hid (below_chain B2.out hb); clear ho hb)
            | (go_at_call 47; refine (l1Value_any n c (m + 1) cap a _ A L C Z (closeF m Y) (n : Int) _ HR.out (HA.out.below (Nat.le_refl _) B3.out) R3.out (by omega) (by omega) (by omega) (by omega) (fun i _ => closeF_in HW.out i)).mono ?_; rintro e w4 ⟨rfl, q4, rfl⟩; rw [show valF Z (closeF m Y) (p12 ((n : Int) - ((m + 1 : Nat) : Int) + 1).toNat) (m + 1 - 1) = V from QV.out.symm]; have B4 := Lib.hid (below_drewN B3.out q4))
            | (go_at_call 49; refine (l1Power_any (n : Int) _ (by omega) (by omega)).mono ?_; rintro e w5 ⟨rfl, rfl⟩; rw [show p12 ((n : Int).toNat) = Pw from by rw [QP.out, Int.toNat_natCast]]))
          go_ret2
          rw [E1.out, E2.out]
          exact ⟨rfl, B4.out⟩
        · have d1 : decide (V ≤ Pw) = true := decide_eq_true (by omega)
          have hG : ¬ Gains n Z D := fun h => hlt (by rw [hP, hV]; exact h.2)
          have E1 := Lib.hid (prI_no (show ¬ PrG n L Z t from fun h => hG (G1.1 h.2)))
          have E2 := Lib.hid (tt_no (show ¬ PrAny n L Z t from fun h => h.2.elim (fun h' => hG (G1.1 h')) G2))
          clear hr htD hD ha0 hL0 hV hP hlt hG G1 G2 hring hm hY
          go_enter Tryd.func16, Tryd.ntmps16
          go_wp2_with (first
            | (go_at_call 35; refine H1.out.mono ?_; rintro e w' ⟨rfl, rfl⟩; rw [T1.out])
            | (go_at_call 45; refine RY.out.mono ?_; rintro e w1 ⟨⟨b, d, rfl, hrd⟩, hml, hb⟩; have R1 := Lib.hid hrd; have B1 := Lib.hid hb; have ML := Lib.hid hml; clear hrd hb hml)
            | (go_at_call 46; refine (l1Ring_any n m d b Y _ (by omega) ML.out R1.out).mono ?_; rintro e w2 ⟨rfl, q, rfl⟩; rw [T2.out]; have B2 := Lib.hid (below_drewN B1.out q); have R2 := Lib.hid (R1.out.below (Nat.le_refl _) (below_drewN (Below.refl _ w1) q)))
            | (go_at_call 48; refine (l1Closed_any m d b Y _ (by omega) (by omega) R2.out).mono ?_; rintro e w3 ⟨g, cap, rfl, ho, hb⟩; have R3 := Lib.hid (owns_rd ho); have B3 := Lib.hid (below_chain B2.out hb); clear ho hb)
            | (go_at_call 47; refine (l1Value_any n c (m + 1) cap a _ A L C Z (closeF m Y) (n : Int) _ HR.out (HA.out.below (Nat.le_refl _) B3.out) R3.out (by omega) (by omega) (by omega) (by omega) (fun i _ => closeF_in HW.out i)).mono ?_; rintro e w4 ⟨rfl, q4, rfl⟩; rw [show valF Z (closeF m Y) (p12 ((n : Int) - ((m + 1 : Nat) : Int) + 1).toNat) (m + 1 - 1) = V from QV.out.symm]; have B4 := Lib.hid (below_drewN B3.out q4))
            | (go_at_call 49; refine (l1Power_any (n : Int) _ (by omega) (by omega)).mono ?_; rintro e w5 ⟨rfl, rfl⟩; rw [show p12 ((n : Int).toNat) = Pw from by rw [QP.out, Int.toNat_natCast]]))
          go_ret2
          rw [E1.out, E2.out]
          exact ⟨rfl, B4.out⟩
      · have T2 := Lib.hid (tt_no hring)
        have hG : ¬ Gains n Z D := fun h => hring h.1
        have E1 := Lib.hid (prI_no (show ¬ PrG n L Z t from fun h => hG (G1.1 h.2)))
        have E2 := Lib.hid (tt_no (show ¬ PrAny n L Z t from fun h => h.2.elim (fun h' => hG (G1.1 h')) G2))
        clear hr htD hD ha0 hL0 hG G1 G2 hring
        go_enter Tryd.func16, Tryd.ntmps16
        go_wp2_with (first
          | (go_at_call 35; refine H1.out.mono ?_; rintro e w' ⟨rfl, rfl⟩; rw [T1.out])
          | (go_at_call 45; refine RY.out.mono ?_; rintro e w1 ⟨⟨b, d, rfl, hrd⟩, hml, hb⟩; have R1 := Lib.hid hrd; have B1 := Lib.hid hb; have ML := Lib.hid hml; clear hrd hb hml)
          | (go_at_call 46; refine (l1Ring_any n _ d b (nth D) _ (by omega) ML.out R1.out).mono ?_; rintro e w2 ⟨rfl, q, rfl⟩; rw [T2.out]; have B2 := Lib.hid (below_drewN B1.out q)))
        go_ret2
        rw [E1.out, E2.out]
        exact ⟨rfl, B2.out⟩
    · have RN := Lib.hid (read_no w (W := gainsB) (by decide) ht (fun D hD h => hg ⟨D, hD, h⟩))
      have G1 : ¬ ProofP gainsB (Gains n Z) t := by
        rintro ⟨M, h1, h2⟩
        exact hg ⟨M, (gain_few hn5 h1).2.2, h2⟩
      have E1 := Lib.hid (prI_no (show ¬ PrG n L Z t from fun h => G1 h.2))
      by_cases hh : ∃ D, FewAll D ∧ t = strU (wordsB holdsB D)
      · obtain ⟨D, hD, htD⟩ := hh
        have RY := Lib.hid (fun (w1 : World) => read_yes w1 (W := holdsB) (by decide) ht hD htD)
        have E2 := Lib.hid (show tt (HoldsOk n L Z D.length (nth D)) = tt (PrAny n L Z t) from tt_congr ⟨fun h => ⟨hr, .inr ⟨D, h, htD⟩⟩, fun h => h.2.elim (fun h' => absurd h' G1) (fun ⟨M, h1, h2⟩ => by
          have h3 := congrArg (fun z => z.data.toList) (htD.symm.trans h2)
          simp only [strU_list] at h3
          rw [words_inj holdsB D M hD (hold_few h1).2.2 h3]
          exact h1)⟩)
        have PH := Lib.hid (fun (w1 : World) (b : Option Addr) (d : Nat) (hm : D.length ≤ 1048576) (h : Below w.heap.size w w1) (hb : Rd w1 b D.length (nth D)) => specPriceHolds_any n c D.length d a b A L C Z (nth D) w1 hn0 hL0 (ha0.below (Nat.le_refl _) h) hm hb)
        clear hr htD hD ha0 hL0 hg G1
        have t2 : True := trivial
        go_enter Tryd.func16, Tryd.ntmps16
        go_wp2_with (first
          | (go_at_call 35; refine H1.out.mono ?_; rintro e w' ⟨rfl, rfl⟩; rw [T1.out])
          | (have _t := t2; go_at_call 45; refine RN.out.mono ?_; clear t2; rintro e w1 ⟨⟨b1, m1, d1, rfl⟩, hb⟩; have B1 := Lib.hid hb; clear hb)
          | (go_at_call 45; refine (RY.out _).mono ?_; rintro e w2 ⟨⟨b, d, rfl, hrd⟩, hml, hb⟩; have R2 := Lib.hid hrd; have B2 := Lib.hid (below_chain B1.out hb); have ML := Lib.hid hml; clear hrd hb hml)
          | (go_at_call 50; refine (PH.out _ b d ML.out B2.out R2.out).mono ?_; rintro e w3 ⟨rfl, hb⟩; rw [E2.out]; have B3 := Lib.hid (below_chain B2.out hb); clear hb))
        go_ret2
        rw [E1.out]
        exact ⟨rfl, B3.out⟩
      · have RN2 := Lib.hid (fun (w1 : World) => read_no w1 (W := holdsB) (by decide) ht (fun D hD h => hh ⟨D, hD, h⟩))
        have E2 := Lib.hid (tt_no (show ¬ PrAny n L Z t from fun h => h.2.elim G1 (fun ⟨M, h1, h2⟩ => hh ⟨M, (hold_few h1).2.2, h2⟩)))
        clear hr ha0 hL0 hg G1 hh
        have t2 : True := trivial
        go_enter Tryd.func16, Tryd.ntmps16
        go_wp2_with (first
          | (go_at_call 35; refine H1.out.mono ?_; rintro e w' ⟨rfl, rfl⟩; rw [T1.out])
          | (have _t := t2; go_at_call 45; refine RN.out.mono ?_; clear t2; rintro e w1 ⟨⟨b1, m1, d1, rfl⟩, hb⟩; have B1 := Lib.hid hb; clear hb)
          | (go_at_call 45; refine (RN2.out _).mono ?_; rintro e w2 ⟨⟨b, m2, d, rfl⟩, hb⟩; have B2 := Lib.hid (below_chain B1.out hb); clear hb))
        go_ret2
        rw [E1.out, E2.out]
        exact ⟨rfl, B2.out⟩
  · have T1 := Lib.hid (tt_no hr)
    have E1 := Lib.hid (prI_no (show ¬ PrG n L Z t from fun h => hr h.1))
    have E2 := Lib.hid (tt_no (show ¬ PrAny n L Z t from fun h => hr h.1))
    clear hL0 ha0 hr
    go_enter Tryd.func16, Tryd.ntmps16
    go_wp2_with (go_at_call 35; refine H1.out.mono ?_; rintro e w' ⟨rfl, rfl⟩; rw [T1.out])
    go_ret2
    rw [E1.out, E2.out]
    exact ⟨rfl, Below.refl _ _⟩
end Go.Proofs.YtabdbgnkiebcdaaDoor

namespace Go.Proofs.YtabdbgnkiebcdaaDoor
set_option linter.unusedVariables false
set_option linter.unusedSimpArgs false
open Go.RowKit

/-- As SeqV, of an iterator that also writes blocks of R. -/
def SeqW {α : Type} (P : Program) (av : α → Array Value) (gf : Nat) (lb : Array Value) (R : Nat → Prop) (LL : List α) (w : World) : Prop :=
  ∀ l O V J Jx W, Inside R w W → (∀ k, R k → ¬ V k) → (∀ k, O k → k < W.heap.size) → (∀ k, R k → ¬ O k) → CallerV O J → CallerV O Jx → YieldsV P av l J Jx LL → J V [] W →
    CallsIn Fence.wide 9 P gf (#[.func (.yield l) #[] #[]] ++ lb) W fun e W' => (∃ v, e = .returned v) ∧ ((∃ V', J V' LL W') ∨ ∃ V' pre, pre <+: LL ∧ Jx V' pre W')
variable {P : Program} {α : Type}

/-- **The statement.** -/
theorem wp_seqW {g : Operand} {ps : Array Tmp} {assign body : Code} {Q : Exit → Act → World → Prop} {a : Act} {w : World} {av : α → Array Value} {gf : Nat} {lb : Array Value}
    (hg : a.eval g = .func (.func gf) #[] lb) (eg : ∀ args w, (callFunc gf args).run P w = .ok (.enter gf args) w) (hps : ∀ D, (av D).size = ps.size)
    {R : Nat → Prop} {LL : List α} (hseq : SeqW P av gf lb R LL w) (V0 : Nat → Prop) (hR : ∀ k, R k → ¬ V0 k ∧ k < w.heap.size)
    (I : (Nat → Prop) → List α → World → Prop) (Ix : Code → (Nat → Prop) → List α → World → Prop) (O : Nat → Prop) (hO : ∀ k, O k → k < w.heap.size) (hRO : ∀ k, R k → ¬ O k) (hI : CallerV O I) (hIx : ∀ c, CallerV O (Ix c)) (h0 : I V0 [] w)
    (Ax : α → Act → World → Prop) (hAx : ∀ v a' W l r o, Ax v a' W → W.heap[l]? = some (.loop r) → Ax v a' (W.putObj l o))
    (hassign : ∀ l v W K, (∀ a' W', Outside (fun _ => False) W W' → Ax v a' W' → K a' W') →
      assign.wpIn (Fence.wide.inRound l) 9 P (Exit.then K (fun _ _ _ => False)) { tmps := (ps.zip (av v)).foldl (fun t (p, v) => t.setIfInBounds p v) a.tmps, defers := [] } W)
    (hbody : ∀ l V pre D a' W, I V pre W → (pre ++ [D]) <+: LL → (∀ k, V k → V0 k ∨ w.heap.size ≤ k) →
      Ax D a' W → body.wpIn (Fence.wide.inRound l) 9 P (seqPostV I Ix (pre ++ [D]) V W) a' W)
    (hdone : ∀ D V W, w.heap.size ≤ D → (∀ k, V k → V0 k ∨ w.heap.size ≤ k) → ¬ V D → I V LL W → W.heap[D]? = some (.deferred (some [])) →
      Q .normal { a with defers := { target := .collected D, args := #[] } :: a.defers } W)
    (hstop : ∀ D c V pre W, w.heap.size ≤ D → (∀ k, V k → V0 k ∨ w.heap.size ≤ k) → ¬ V D → pre <+: LL → Ix c V pre W → W.heap[D]? = some (.deferred (some [])) →
      c.wpIn Fence.wide 9 P Q { a with defers := { target := .collected D, args := #[] } :: a.defers } W) :
    (Code.rangeFunc g ps assign body).wpIn Fence.wide 9 P Q a w := by
  refine wpIn_rangeFunc ?_
  intro fn hfn
  obtain ⟨rec, hrec⟩ : ∃ rec : LoopState → Option Code → Loop, rec = fun st pe => { state := st, pending := pe, fn, tmps := a.tmps, params := ps, assign, body, defers := w.heap.size } := ⟨_, rfl⟩
  obtain ⟨W1, hW1⟩ : ∃ W1, (w.alloc (.deferred (some []))).alloc (.loop (rec .ready none)) = W1 := ⟨_, rfl⟩
  have hL1 : W1.heap[w.heap.size + 1]? = some (.loop (rec .ready none)) := by
    rw [← hW1]; have := World.alloc_heap_new (w.alloc (.deferred (some []))) (.loop (rec .ready none)); rwa [World.size_alloc] at this
  have hK1 : W1.heap[w.heap.size]? = some (.deferred (some [])) := by
    rw [← hW1]; exact (Below.heap_alloc _ _ _ (by simp)).trans (World.alloc_heap_new w _)
  have hb1 : Below w.heap.size w W1 := by
    rw [← hW1]; exact ((Below.refl _ w).alloc (Nat.le_refl _) _).alloc (by simp) _
  have hs1 : W1.heap.size = w.heap.size + 2 := by rw [← hW1]; simp
  have hV0 := hI.lies V0 [] w h0
  have hI1 : I V0 [] W1 := hI.steady _ _ _ _ h0 (Inside.of_below hb1 (fun k h => h.elim (hV0 k) (hO k)))
  refine ⟨w.heap.size + 1, [{ target := .collected w.heap.size, args := #[] }], W1, { target := .fn (.func gf) lb, args := #[.func (.yield (w.heap.size + 1)) #[] #[]] }, W1, gf,
    #[.func (.yield (w.heap.size + 1)) #[] #[]] ++ lb, W1, ?_, ?_, ?_, ?_, (fun h => by simp [Fence.wide] at h), ?_⟩
  · rw [← hW1, hrec]; exact run_enterLoop_outer _ _ _ _ _
  · simp only [resolve, hg]
    simp [go_sem]
  · intro f' hf'; trivial
  · simp [invoke, go_sem, eg]
  · -- the iterator, at the caller's word with the two blocks of the loop beside it
    have hcell : ∀ {A : World} {l : Nat} {o : Obj}, A.heap[l]? = some o → l < A.heap.size := fun h => (Array.getElem?_eq_some_iff.1 h).1
    refine (callsIn_wide.2 (callsIn_wide.1 ((hseq (w.heap.size + 1) O (fun k => V0 k ∨ k = w.heap.size ∨ k = w.heap.size + 1)
      (fun V pre W => ∃ V1, V = (fun k => V1 k ∨ k = w.heap.size ∨ k = w.heap.size + 1) ∧ ¬ V1 w.heap.size ∧ ¬ V1 (w.heap.size + 1) ∧ (∀ k, V1 k → V0 k ∨ w.heap.size ≤ k) ∧ I V1 pre W ∧ W.heap[w.heap.size + 1]? = some (.loop (rec .ready none)) ∧ W.heap[w.heap.size]? = some (.deferred (some [])))
      (fun V pre W => ∃ V1, V = (fun k => V1 k ∨ k = w.heap.size ∨ k = w.heap.size + 1) ∧ ¬ V1 w.heap.size ∧ ¬ V1 (w.heap.size + 1) ∧ (∀ k, V1 k → V0 k ∨ w.heap.size ≤ k) ∧ (∃ c, Ix c V1 pre W ∧ W.heap[w.heap.size + 1]? = some (.loop (rec .done (some c)))) ∧ W.heap[w.heap.size]? = some (.deferred (some [])))
      W1 (Inside.of_below hb1 (fun k hk => (hR k hk).2)) (fun k hk h => by have := hR k hk; rcases h with h | h | h; exact this.1 h; omega; omega) (fun k hk => by have := hO k hk; omega) hRO ?_ ?_ ?_ ?_)))).mono ?_
    · constructor
      · rintro V pre W ⟨V1, rfl, h1, h2, h3, h4, h5, h6⟩ k (hk | rfl | rfl)
        · exact hI.lies _ _ _ h4 k hk
        · exact hcell h6
        · exact hcell h5
      · rintro V pre A B ⟨V1, rfl, h1, h2, h3, h4, h5, h6⟩ hin
        exact ⟨V1, rfl, h1, h2, h3, hI.steady _ _ _ _ h4 (hin.mono fun k hk => hk.imp .inl id), (hin.block _ (.inl (.inr (.inr rfl)))).trans h5, (hin.block _ (.inl (.inr (.inl rfl)))).trans h6⟩
    · constructor
      · rintro V pre W ⟨V1, rfl, h1, h2, h3, ⟨c, h4, h5⟩, h6⟩ k (hk | rfl | rfl)
        · exact (hIx c).lies _ _ _ h4 k hk
        · exact hcell h6
        · exact hcell h5
      · rintro V pre A B ⟨V1, rfl, h1, h2, h3, ⟨c, h4, h5⟩, h6⟩ hin
        exact ⟨V1, rfl, h1, h2, h3, ⟨c, (hIx c).steady _ _ _ _ h4 (hin.mono fun k hk => hk.imp .inl id), (hin.block _ (.inl (.inr (.inr rfl)))).trans h5⟩, (hin.block _ (.inl (.inr (.inl rfl)))).trans h6⟩
    · -- one round
      rintro V pre D W ⟨V1, rfl, h1, h2, h3, hi, hl, hk⟩ hpre
      have hlW := hcell hl
      have hy := run_yield (P := P) (args := av D) hl (by rw [hrec]; simp [hps])
      rw [hrec] at hy
      refine ⟨fn, _, assign, body, hy, roundIn_of_wpIn hfn (hassign _ _ W _ ?_)⟩
      intro a' Wa hout hax
      have hla : Wa.heap[w.heap.size + 1]? = some (.loop (rec .ready none)) := (hout.block _ hlW (fun h => h)).trans hl
      have hka : Wa.heap[w.heap.size]? = some (.deferred (some [])) := (hout.block _ (hcell hk) (fun h => h)).trans hk
      obtain ⟨W2, hW2⟩ : ∃ W2, Wa.putObj (w.heap.size + 1) (.loop { rec .ready none with state := .busy }) = W2 := ⟨_, rfl⟩
      have hl2 : W2.heap[w.heap.size + 1]? = some (.loop { rec .ready none with state := .busy }) := by rw [← hW2]; exact World.putObj_heap_same (hcell hla)
      have ho2 : ∀ k, k ≠ w.heap.size + 1 → W2.heap[k]? = Wa.heap[k]? := fun k h => by rw [← hW2]; exact World.putObj_heap_other h
      have hs2 : W2.heap.size = Wa.heap.size := by rw [← hW2]; simp
      have hk2 := (ho2 _ (by omega)).trans hka
      have hgw : w.heap.size + 2 ≤ W.heap.size := by omega
      have hnO : ¬ O (w.heap.size + 1) := fun h => by have := hO _ h; omega
      have hin2 : Inside (fun k => V1 k ∨ O k) W W2 := (hout.inside (fun k h => h.elim (hI.lies _ _ _ hi k) (fun h => by have := hO k h; omega)) (fun _ _ h => h)).trans (by rw [← hW2]; exact Inside.putObj (fun h => h.elim h2 hnO) _)
      have hi2 := hI.steady _ _ _ _ hi hin2
      refine ⟨W2, by have := run_beginRound (P := P) hla (by rw [hrec]); rw [hrec] at this; rw [← hW2, hrec]; exact this, ?_⟩
      refine wpIn_mono (hbody (w.heap.size + 1) V1 pre D a' W2 hi2 hpre h3 (by rw [← hW2]; exact hAx _ _ _ _ _ _ hax hla)) ?_
      have fin : ∀ (jump : Option Code) (W3 : World) (V' : Nat → Prop) (Jz : World → Prop), Outside V1 W2 W3 → (∀ k, V' k → V1 k ∨ W2.heap.size ≤ k) → (∀ A B, Jz A → Inside (fun k => V' k ∨ O k) A B → Jz B) → Jz W3 →
          ∃ W4, (Instr.endRound (w.heap.size + 1) jump).run P W3 = .ok (.bool jump.isNone) W4 ∧ Outside (fun k => V1 k ∨ k = w.heap.size ∨ k = w.heap.size + 1) W W4 ∧ ¬ V' w.heap.size ∧ ¬ V' (w.heap.size + 1) ∧ (∀ k, V' k → V0 k ∨ w.heap.size ≤ k) ∧ (∀ k, V' k → V1 k ∨ W.heap.size ≤ k) ∧ Jz W4 ∧
            W4.heap[w.heap.size + 1]? = some (.loop (rec (if jump.isNone then .ready else .done) jump)) ∧ W4.heap[w.heap.size]? = some (.deferred (some [])) := by
        intro jump W3 V' Jz hout3 hV' hst hz
        have hl3 := (hout3.block _ (hcell hl2) h2).trans hl2
        have hk3 := (hout3.block _ (hcell hk2) h1).trans hk2
        have hr := run_endRound (P := P) jump hl3
        rw [hrec] at hr
        have e1 := hcell hl2
        have e2 := hcell hk2
        have e3 := hout.size
        have d1 : ¬ V' w.heap.size := fun h => by rcases hV' _ h with h | h; exact h1 h; omega
        have d2 : ¬ V' (w.heap.size + 1) := fun h => by rcases hV' _ h with h | h; exact h2 h; omega
        refine ⟨_, hr, ?_, d1, d2, ?_, ?_, hst _ _ hz (Inside.putObj (fun h => h.elim d2 hnO) _), ?_, ?_⟩
        · have o1 : Outside (fun k => V1 k ∨ k = w.heap.size ∨ k = w.heap.size + 1) W Wa := hout.mono (fun k _ h => h.elim)
          have o2 : Outside (fun k => V1 k ∨ k = w.heap.size ∨ k = w.heap.size + 1) Wa W2 := by rw [← hW2]; exact Outside.putObj _ (.inr (.inr rfl)) _
          have o3 : Outside (fun k => V1 k ∨ k = w.heap.size ∨ k = w.heap.size + 1) W2 W3 := hout3.mono (fun k _ h => .inl h)
          exact ((o1.trans' o2 (fun _ _ h => h)).trans' o3 (fun _ _ h => h)).trans' (Outside.putObj _ (.inr (.inr rfl)) _) (fun _ _ h => h)
        · intro k hk'
          rcases hV' k hk' with h | h
          · exact h3 k h
          · right; omega
        · intro k hk'
          rcases hV' k hk' with h | h
          · exact .inl h
          · right; omega
        · rw [hrec]; exact World.putObj_heap_same (hcell hl3)
        · exact (World.putObj_heap_other (by omega)).trans hk3
      have hV2 : ∀ V' : Nat → Prop, (∀ k, V' k → V1 k ∨ W.heap.size ≤ k) → ∀ k, (V' k ∨ k = w.heap.size ∨ k = w.heap.size + 1) → (V1 k ∨ k = w.heap.size ∨ k = w.heap.size + 1) ∨ W.heap.size ≤ k := by
        intro V' h k hk'
        rcases hk' with hk' | hk' | hk'
        · rcases h k hk' with h | h
          · exact .inl (.inl h)
          · exact .inr h
        · exact .inl (.inr (.inl hk'))
        · exact .inl (.inr (.inr hk'))
      rintro e a3 W3 hp
      cases e with
      | normal =>
        obtain ⟨ho3, V', hV', hi3⟩ := hp
        obtain ⟨W4, hr, q1, q2, q3, q4, q5, q6, q7, q8⟩ := fin none W3 V' (fun W => I V' (pre ++ [D]) W) ho3 hV' (fun A B => hI.steady _ _ A B) hi3
        exact ⟨_, W4, hr, q1, (fun k => V' k ∨ k = w.heap.size ∨ k = w.heap.size + 1), hV2 V' q5, .inl ⟨rfl, V', rfl, q2, q3, q4, q6, q7, q8⟩⟩
      | ret =>
        obtain ⟨ho3, V', hV', hi3⟩ := hp
        obtain ⟨W4, hr, q1, q2, q3, q4, q5, q6, q7, q8⟩ := fin (some .ret) W3 V' (fun W => Ix .ret V' (pre ++ [D]) W) ho3 hV' (fun A B => (hIx .ret).steady _ _ A B) hi3
        exact ⟨_, W4, hr, q1, (fun k => V' k ∨ k = w.heap.size ∨ k = w.heap.size + 1), hV2 V' q5, .inr ⟨rfl, V', rfl, q2, q3, q4, ⟨.ret, q6, q7⟩, q8⟩⟩
      | exit id =>
        obtain ⟨ho3, V', hV', hi3⟩ := hp
        obtain ⟨W4, hr, q1, q2, q3, q4, q5, q6, q7, q8⟩ := fin (some (.exit id)) W3 V' (fun W => Ix (.exit id) V' (pre ++ [D]) W) ho3 hV' (fun A B => (hIx (.exit id)).steady _ _ A B) hi3
        exact ⟨_, W4, hr, q1, (fun k => V' k ∨ k = w.heap.size ∨ k = w.heap.size + 1), hV2 V' q5, .inr ⟨rfl, V', rfl, q2, q3, q4, ⟨.exit id, q6, q7⟩, q8⟩⟩
      | goto t => exact hp.elim
      | panic ch => exact hp.elim
      | outgrown => exact hp.elim
    · exact ⟨V0, rfl, fun h => by have := hV0 _ h; omega, fun h => by have := hV0 _ h; omega, fun k h => .inl h, hI1, hL1, hK1⟩
    · -- behind the iterator
      rintro e W2 ⟨⟨v, rfl⟩, (⟨V', V1, rfl, h1, h2, h3, hi, hl, hk⟩ | ⟨V', pre, hpre, V1, rfl, h1, h2, h3, ⟨c, hi, hl⟩, hk⟩)⟩
      · exact ⟨none, _, by have := run_endLoop (P := P) hl (by rw [hrec]; simp); rw [hrec] at this; exact this, hdone _ V1 _ (Nat.le_refl _) h3 h1 (hI.steady _ _ _ _ hi (Inside.putObj (fun h => h.elim h2 (fun h => by have := hO _ h; omega)) _)) ((World.putObj_heap_other (by omega)).trans hk)⟩
      · exact ⟨some c, _, by have := run_endLoop (P := P) hl (by rw [hrec]; simp); rw [hrec] at this; exact this, hstop _ c V1 pre _ (Nat.le_refl _) h3 h1 hpre ((hIx c).steady _ _ _ _ hi (Inside.putObj (fun h => h.elim h2 (fun h => by have := hO _ h; omega)) _)) ((World.putObj_heap_other (by omega)).trans hk)⟩
end Go.Proofs.YtabdbgnkiebcdaaDoor

namespace Go.Proofs.YtabdbgnkiebcdaaDoor
set_option linter.unusedVariables false
set_option linter.unusedSimpArgs false
open Go.RowKit

def lays143_ren : Go.Shelf.Ren := ⟨fun | 143 => 168 | 219 => 165 | 217 => 179 | 225 => 180 | 224 => 181 | 267 => 182 | 266 => 187 | 314 => 188 | n => n, fun | 9 => 9 | 3 => 3 | 4 => 4 | 5 => 5 | 46 => 138 | 146 => 177 | 51 => 148 | n => n, fun | 1 => 3 | n => n⟩
theorem lays143 : Go.Proofs.Lays.n143 Tryd.prog lays143_ren := {
  mixed := by kernel_rfl
  f143 := Tryd.func168.trans (congrArg some (by kernel_rfl))
  f217 := Tryd.func179.trans (congrArg some (by kernel_rfl))
  f219 := Tryd.func165.trans (congrArg some (by kernel_rfl))
  f224 := Tryd.func181.trans (congrArg some (by kernel_rfl))
  f225 := Tryd.func180.trans (congrArg some (by kernel_rfl))
  f266 := Tryd.func187.trans (congrArg some (by kernel_rfl))
  f267 := Tryd.func182.trans (congrArg some (by kernel_rfl))
  f314 := Tryd.func188.trans (congrArg some (by kernel_rfl))
  t3 := Tryd.underlying3
  a3 := Tryd.isAgg3
  z3 := Tryd.sizeOf3
  v3 := Tryd.zeroValue3
  t4 := Tryd.underlying4
  a4 := Tryd.isAgg4
  z4 := Tryd.sizeOf4
  v4 := Tryd.zeroValue4
  t5 := Tryd.underlying5
  a5 := Tryd.isAgg5
  z5 := Tryd.sizeOf5
  v5 := Tryd.zeroValue5
  t9 := Tryd.underlying9
  a9 := Tryd.isAgg9
  z9 := Tryd.sizeOf9
  v9 := Tryd.zeroValue9
  t46 := Tryd.underlying138
  a46 := Tryd.isAgg138
  z46 := Tryd.sizeOf138
  v46 := Tryd.zeroValue138
  t51 := Tryd.underlying148
  a51 := Tryd.isAgg148
  z51 := Tryd.sizeOf148
  v51 := Tryd.zeroValue148
  t146 := Tryd.underlying177
  a146 := Tryd.isAgg177
  z146 := Tryd.sizeOf177
  v146 := Tryd.zeroValue177
  g1 := by kernel_rfl }
def lays219_ren : Go.Shelf.Ren := ⟨fun | 219 => 165 | 217 => 179 | 225 => 180 | 224 => 181 | 267 => 182 | 266 => 187 | 314 => 188 | n => n, fun | 9 => 9 | 3 => 3 | 4 => 4 | 5 => 5 | 46 => 138 | 146 => 177 | 51 => 148 | n => n, fun | 1 => 3 | n => n⟩
theorem lays219 : Go.Proofs.Lays.n219 Tryd.prog lays219_ren := {
  mixed := by kernel_rfl
  f217 := Tryd.func179.trans (congrArg some (by kernel_rfl))
  f219 := Tryd.func165.trans (congrArg some (by kernel_rfl))
  f224 := Tryd.func181.trans (congrArg some (by kernel_rfl))
  f225 := Tryd.func180.trans (congrArg some (by kernel_rfl))
  f266 := Tryd.func187.trans (congrArg some (by kernel_rfl))
  f267 := Tryd.func182.trans (congrArg some (by kernel_rfl))
  f314 := Tryd.func188.trans (congrArg some (by kernel_rfl))
  t3 := Tryd.underlying3
  a3 := Tryd.isAgg3
  z3 := Tryd.sizeOf3
  v3 := Tryd.zeroValue3
  t4 := Tryd.underlying4
  a4 := Tryd.isAgg4
  z4 := Tryd.sizeOf4
  v4 := Tryd.zeroValue4
  t5 := Tryd.underlying5
  a5 := Tryd.isAgg5
  z5 := Tryd.sizeOf5
  v5 := Tryd.zeroValue5
  t9 := Tryd.underlying9
  a9 := Tryd.isAgg9
  z9 := Tryd.sizeOf9
  v9 := Tryd.zeroValue9
  t46 := Tryd.underlying138
  a46 := Tryd.isAgg138
  z46 := Tryd.sizeOf138
  v46 := Tryd.zeroValue138
  t51 := Tryd.underlying148
  a51 := Tryd.isAgg148
  z51 := Tryd.sizeOf148
  v51 := Tryd.zeroValue148
  t146 := Tryd.underlying177
  a146 := Tryd.isAgg177
  z146 := Tryd.sizeOf177
  v146 := Tryd.zeroValue177
  g1 := by kernel_rfl }
theorem indexS_any (s : ByteArray) (c : UInt8) (w : World) :
    Calls Tryd.prog 168 #[.string s, .string ⟨#[c]⟩] w fun e w' => e = .returned (.int .i64 (Lib.indexByte s.data.toList c)) ∧ w' = w :=
  Any.strings_Index_one lays143 s c w
end Go.Proofs.YtabdbgnkiebcdaaDoor

namespace Go.Proofs.YtabdbgnkiebcdaaDoor
set_option linter.unusedVariables false
set_option linter.unusedSimpArgs false
open Go.RowKit

theorem extract_drop (s : ByteArray) (f : Nat) : s.extract f s.size = strU (s.data.toList.drop f) := by
  apply ByteArray.ext
  rw [ByteArray.data_extract]
  apply Array.toList_inj.1
  show _ = (s.data.toList.drop f).toArray.toList
  have hz : s.size = s.data.toList.length := by rw [Array.length_toList]; rfl
  rw [hz]
  simp
  exact List.take_of_length_le (by rw [List.length_drop]; simp)
theorem extract_take (s : ByteArray) (f : Nat) : s.extract 0 f = strU (s.data.toList.take f) := by
  apply ByteArray.ext
  rw [ByteArray.data_extract]
  apply Array.toList_inj.1
  show _ = (s.data.toList.take f).toArray.toList
  simp
def RetCut (s : ByteArray) (w : World) (e : Ending) (w' : World) : Prop := (∃ a b, e = .returned (.tuple #[.string a, .string (strU (behindB s.data.toList)), .bool b])) ∧ Below w.heap.size w w'

set_option maxRecDepth 100000 in
theorem cutLite_any (s : ByteArray) (w : World) (hs : s.size ≤ 1048576) :
    Calls Tryd.prog 149 #[.string s, .string ⟨#[32]⟩] w (RetCut s w) := by
  have hl : s.data.toList.length = s.size := by rw [Array.length_toList]; rfl
  have z1 : (⟨#[32]⟩ : ByteArray).size = 1 := rfl
  have HX := Lib.hid (Any.stringslite_Index_one lays219 s 32 w)
  rcases space_cases s.data.toList with ⟨h1, h2⟩ | ⟨i, h1, h2, h3, h4⟩
  · have E := Lib.hid (behind_none _ h2)
    rw [h1] at HX
    clear h1 h2 hl
    go_enter Tryd.func149, Tryd.ntmps149
    go_wp2_with (go_at_call 165; refine HX.out.mono ?_; rintro e w' ⟨rfl, rfl⟩)
    go_ret3
    exact ⟨⟨_, _, by rw [E.out]; rfl⟩, Below.refl _ _⟩
  · have E := Lib.hid (behind_at h3 h4)
    have X := Lib.hid (extract_drop s (i + 1))
    rw [h1] at HX
    have i1 : (0 : Int) ≤ (i : Int) := by omega
    have i2 : (i : Int) ≤ (s.size : Int) := by omega
    have i3 : (0 : Int) ≤ (i : Int) + 1 := by omega
    have i4 : (i : Int) + 1 ≤ (s.size : Int) := by omega
    have d1 : decide ((0 : Int) ≤ (i : Int)) = true := decide_eq_true i1
    have hw : IntKind.i64.wrap ((i : Int) + 1) = (i : Int) + 1 := by rw [IntWalk.i64_in _ (by omega)]
    have ht : ((i : Int) + 1).toNat = i + 1 := by omega
    clear h1 h2 h3 h4 hl
    go_enter Tryd.func149, Tryd.ntmps149
    go_wp2_with (go_at_call 165; refine HX.out.mono ?_; rintro e w' ⟨rfl, rfl⟩)
    go_quiet (fail)
    go_wp2_with fail
    go_ret3
    unfold RetCut
    rw [E.out, ← X.out]
    exact ⟨⟨_, _, rfl⟩, below_drewN (Below.refl _ _) _⟩
theorem cut_any (s : ByteArray) (w : World) (hs : s.size ≤ 1048576) :
    Calls Tryd.prog 127 #[.string s, .string ⟨#[32]⟩] w (RetCut s w) := by
  have H := Lib.hid (cutLite_any s w hs)
  go_enter Tryd.func127, Tryd.ntmps127
  go_wp2_with (go_at_call 149; refine H.out.mono ?_; rintro e w' ⟨⟨a, b, rfl⟩, hb⟩; have HB := Lib.hid hb; clear hb)
  go_ret3
  exact ⟨⟨_, _, rfl⟩, HB.out⟩
end Go.Proofs.YtabdbgnkiebcdaaDoor
