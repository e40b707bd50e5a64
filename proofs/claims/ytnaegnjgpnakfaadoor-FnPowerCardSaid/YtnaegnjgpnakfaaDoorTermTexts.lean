/- Texts of terms made of texts of terms. -/
import Derived.Test.YtnaegnjgpnakfaaDoorTermModel
import Derived.Test.YtnaegnjgpnakfaaDoorTermBool
namespace Go.Proofs.YtnaegnjgpnakfaaDoor
set_option linter.unusedVariables false
set_option linter.unusedSimpArgs false
open Go.RowKit

theorem bt_list (s : ByteArray) (i : Nat) : bt s i = ((s.data.toList.map UInt8.toNat).getD i 0) := by
  unfold bt
  by_cases h : i < s.size
  · rw [dif_pos h]
    have h2 : i < s.data.toList.length := by simpa using h
    simp [List.getD, List.getElem?_map, List.getElem?_eq_getElem h2]
    rfl
  · rw [dif_neg h]
    have h2 : s.data.toList.length ≤ i := by simp; exact Nat.le_of_not_lt h
    simp [List.getD, List.getElem?_map, List.getElem?_eq_none h2]
theorem bt_app (a b : ByteArray) (i : Nat) : bt (a ++ b) i = if i < a.size then bt a i else bt b (i - a.size) := by
  simp only [bt_list]
  rw [ByteArray.data_append, Array.toList_append, List.map_append]
  have hl : (a.data.toList.map UInt8.toNat).length = a.size := by simp
  by_cases h : i < a.size
  · rw [if_pos h]; simp only [List.getD]; rw [List.getElem?_append_left (by omega)]
  · rw [if_neg h]; simp only [List.getD]; rw [List.getElem?_append_right (by omega), hl]
/-- A term's text elsewhere is the term. -/
theorem readT_moved {s s' : ByteArray} : ∀ (f f' p p' : Nat) (t : Tm) (e : Nat), readT s f p = some (t, e) → f ≤ f' → (∀ i, p + i < e → bt s' (p' + i) = bt s (p + i)) → readT s' f' p' = some (t, p' + (e - p))
  | 0, f', p, p', t, e, h, hf, hb => by cases h
  | f + 1, 0, p, p', t, e, h, hf, hb => by omega
  | f + 1, f' + 1, p, p', t, e, h, hf, hb => by
    have hB := readT_bound _ _ _ _ h
    have b0 : bt s' p' = bt s p := hb 0 (by omega)
    by_cases h1 : bt s p = 105
    · rw [readT_keep h1] at h; cases h
      rw [readT_keep (b0.trans h1)]
      congr 2; omega
    by_cases h2 : bt s p = 91
    · rw [readT_circ h2] at h
      by_cases hc : CircOk s (p + 1)
      · rw [circR_yes hc] at h; cases h
        have hr : runN s' (p' + 1) = runN s (p + 1) := by
          refine runN_eq (fun j hj => ?_) ?_
          · have := hb (j + 1) (by omega)
            rw [show p' + 1 + j = p' + (j + 1) by omega, this, show p + (j + 1) = p + 1 + j by omega]
            exact runN_let hj
          · have := hb (runN s (p + 1) + 1) (by omega)
            rw [show p' + 1 + runN s (p + 1) = p' + (runN s (p + 1) + 1) by omega, this, show p + (runN s (p + 1) + 1) = p + 1 + runN s (p + 1) by omega]
            exact runN_end s (p + 1)
        have hl : ∀ j, j < runN s (p + 1) → bt s' (p' + 1 + j) = bt s (p + 1 + j) := fun j hj => by
          have := hb (j + 1) (by omega)
          rwa [show p' + (j + 1) = p' + 1 + j by omega, show p + (j + 1) = p + 1 + j by omega] at this
        have hc' : CircOk s' (p' + 1) := by
          unfold CircOk
          rw [hr]
          refine ⟨?_, hc.2.1, (isDiff_congr (fun j hj => ?_)).1 hc.2.2⟩
          · have := hb (runN s (p + 1) + 1) (by omega)
            rw [show p' + 1 + runN s (p + 1) = p' + (runN s (p + 1) + 1) by omega, this, show p + (runN s (p + 1) + 1) = p + 1 + runN s (p + 1) by omega]
            exact hc.1
          · unfold letF; rw [hl j hj]
        rw [readT_circ (b0.trans h2), circR_yes hc', hr]
        have hll : lets s' (p' + 1) (runN s (p + 1)) = lets s (p + 1) (runN s (p + 1)) := by
          unfold lets
          exact List.map_congr_left fun j hj => by rw [hl j (List.mem_range.1 hj)]
        rw [hll]
        congr 2; omega
      · rw [circR_no hc] at h; cases h
    by_cases h3 : SignP (bt s p)
    · rw [readT_sign h3] at h
      cases hr : readT s f (p + 1) with
      | none => rw [hr] at h; cases h
      | some q =>
        obtain ⟨u, e1⟩ := q
        rw [hr] at h
        have he : e = e1 := by simp only [signR] at h; cases h; rfl
        subst he
        have b1 := readT_bound f (p + 1) u _ hr
        have := readT_moved f f' (p + 1) (p' + 1) u e hr (by omega) fun i hi => by
          have := hb (i + 1) (by omega)
          rwa [show p' + (i + 1) = p' + 1 + i by omega, show p + (i + 1) = p + 1 + i by omega] at this
        rw [readT_sign (by rw [b0]; exact h3), this, b0]
        simp only [signR] at h ⊢
        cases h
        congr 2; omega
    by_cases h4 : bt s p = 40
    · rw [readT_pair h4] at h
      cases hr : aheadR s 46 (readT s f (p + 1)) with
      | none => rw [hr] at h; cases h
      | some q =>
        obtain ⟨u, e1⟩ := q
        rw [hr] at h
        obtain ⟨e2, h5, h6, h6b, _⟩ := aheadR_some (by omega) hr
        have b1 := readT_bound f (p + 1) u _ h5
        cases hr2 : aheadR s 41 (readT s f e1) with
        | none => simp only [bothR, hr2] at h; cases h
        | some q2 =>
          obtain ⟨u2, e3⟩ := q2
          simp only [bothR, hr2] at h; cases h
          obtain ⟨e4, h7, h8, h8b, h9⟩ := aheadR_some (by omega) hr2
          have b2 := readT_bound f e1 u2 _ h7
          have m1 := readT_moved f f' (p + 1) (p' + 1) u e2 h5 (by omega) fun i hi => by
            have := hb (i + 1) (by omega)
            rwa [show p' + (i + 1) = p' + 1 + i by omega, show p + (i + 1) = p + 1 + i by omega] at this
          have m2 := readT_moved f f' e1 (p' + (e1 - p)) u2 e4 h7 (by omega) fun i hi => by
            have := hb (e1 - p + i) (by omega)
            rwa [show p' + (e1 - p + i) = p' + (e1 - p) + i by omega, show p + (e1 - p + i) = e1 + i by omega] at this
          rw [readT_pair (b0.trans h4), m1]
          have c1 : bt s' (p' + 1 + (e2 - (p + 1))) = 46 := by
            have := hb (e2 - p) (by omega)
            rw [show p' + 1 + (e2 - (p + 1)) = p' + (e2 - p) by omega, this, show p + (e2 - p) = e2 by omega]; exact h6b
          have c2 : bt s' (p' + (e1 - p) + (e4 - e1)) = 41 := by
            have := hb (e4 - p) (by omega)
            rw [show p' + (e1 - p) + (e4 - e1) = p' + (e4 - p) by omega, this, show p + (e4 - p) = e4 by omega]; exact h8b
          simp only [aheadR, if_pos c1, bothR]
          rw [show p' + 1 + (e2 - (p + 1)) + 1 = p' + (e1 - p) by omega, m2]
          simp only [aheadR, if_pos c2]
          congr 2; omega
    · rw [readT_none h1 h2 h3 h4] at h; cases h
theorem termOf_is {s : ByteArray} {t : Tm} (h1 : s.size ≤ 60) (h2 : readT s s.size 0 = some (t, s.size)) : termOf s = some t := by
  unfold termOf; rw [if_neg (by omega), h2]; simp
theorem bt_one (c : UInt8) (i : Nat) : bt ⟨#[c]⟩ i = if i = 0 then c.toNat else 0 := by
  rw [bt_list]
  cases i with
  | zero => rfl
  | succ i => simp
theorem size_app (a b : ByteArray) : (a ++ b).size = a.size + b.size := ByteArray.size_append
theorem size_one (c : UInt8) : (⟨#[c]⟩ : ByteArray).size = 1 := rfl
/-- A text of a term stands whole within another. -/
theorem readT_inside {s s' : ByteArray} {t : Tm} {f p : Nat} (h : readT s s.size 0 = some (t, s.size)) (hf : s.size ≤ f) (hb : ∀ i, i < s.size → bt s' (p + i) = bt s i) : readT s' f p = some (t, p + s.size) := by
  have := readT_moved s.size f 0 p t s.size h hf (fun i hi => by rw [Nat.zero_add] at hi ⊢; exact hb i hi)
  simpa using this
theorem sign_text {s : ByteArray} {t : Tm} (c : UInt8) (hc : SignP c.toNat) (h : termOf s = some t) (h59 : s.size ≤ 59) : termOf (⟨#[c]⟩ ++ s) = some (if c.toNat = 45 then .back t else .times (c.toNat - 48) t) := by
  have h2 := (termOf_some h).2
  have hz : ((⟨#[c]⟩ : ByteArray) ++ s).size = s.size + 1 := by rw [size_app, size_one]; omega
  have hb0 : bt (⟨#[c]⟩ ++ s) 0 = c.toNat := by rw [bt_app, if_pos (by rw [size_one]; omega), bt_one]; rfl
  refine termOf_is (by omega) ?_
  rw [hz, readT_sign (by rw [hb0]; exact hc), readT_inside (s' := ⟨#[c]⟩ ++ s) (p := 0 + 1) h2 (Nat.le_refl _) (fun i hi => by rw [bt_app, if_neg (by rw [size_one]; omega), size_one]; congr 1; omega), hb0]
  simp only [signR]
  congr 2; omega
theorem closed_text {s : ByteArray} {t : Tm} (c : UInt8) (h : termOf s = some t) : termOf (s ++ ⟨#[c]⟩) = none := by
  have h2 := (termOf_some h).2
  have hz : (s ++ (⟨#[c]⟩ : ByteArray)).size = s.size + 1 := by rw [size_app, size_one]
  have := readT_inside (s' := s ++ ⟨#[c]⟩) (p := 0) (f := (s ++ (⟨#[c]⟩ : ByteArray)).size) h2 (by omega) (fun i hi => by rw [bt_app, if_pos (by omega)]; congr 1; omega)
  unfold termOf
  rw [this]
  split
  · rfl
  · simp only; rw [if_neg (by omega)]
theorem pair_text {s u : ByteArray} {t v : Tm} (h : termOf s = some t) (hu : termOf u = some v) (hz : s.size + u.size + 3 ≤ 60) : termOf (⟨#[40]⟩ ++ s ++ ⟨#[46]⟩ ++ u ++ ⟨#[41]⟩) = some (.pair t v) := by
  have h2 := (termOf_some h).2
  have u2 := (termOf_some hu).2
  obtain ⟨x, hx⟩ : ∃ x, x = (⟨#[40]⟩ : ByteArray) ++ s ++ ⟨#[46]⟩ ++ u ++ ⟨#[41]⟩ := ⟨_, rfl⟩
  have hxs : x.size = s.size + u.size + 3 := by rw [hx]; simp only [size_app, size_one]; omega
  have hb : ∀ i, bt x i = if i < 1 then 40 else if i < 1 + s.size then bt s (i - 1) else if i < 2 + s.size then 46 else if i < 2 + s.size + u.size then bt u (i - (2 + s.size)) else if i = 2 + s.size + u.size then 41 else 0 := by
    intro i
    rw [hx]
    simp only [bt_app, size_app, size_one, bt_one]
    by_cases c1 : i < 1
    · obtain rfl : i = 0 := by omega
      simp
      rw [if_pos (by omega)]
      split <;> first | rfl | omega
    · by_cases c2 : i < 1 + s.size
      · rw [if_pos (by omega), if_pos (by omega), if_pos c2, if_neg c1, if_neg c1, if_pos c2]
      · by_cases c3 : i < 2 + s.size
        · rw [if_pos (by omega), if_pos (by omega), if_neg c2, if_neg c1, if_neg c2, if_pos c3, if_pos (by omega)]; rfl
        · by_cases c4 : i < 2 + s.size + u.size
          · rw [if_pos (by omega), if_neg (by omega), if_neg c1, if_neg c2, if_neg c3, if_pos c4]; congr 1; omega
          · rw [if_neg (by omega), if_neg c1, if_neg c2, if_neg c3, if_neg c4]
            by_cases c5 : i = 2 + s.size + u.size
            · rw [if_pos (by omega), if_pos c5]; rfl
            · rw [if_neg (by omega), if_neg c5]
  rw [← hx]
  refine termOf_is (by omega) ?_
  have m1 : readT x (s.size + u.size + 2) (0 + 1) = some (t, 0 + 1 + s.size) := readT_inside h2 (by omega) fun i hi => by
    rw [hb, if_neg (by omega), if_pos (by omega)]; congr 1; omega
  have m2 : readT x (s.size + u.size + 2) (0 + 1 + s.size + 1) = some (v, 0 + 1 + s.size + 1 + u.size) := readT_inside u2 (by omega) fun i hi => by
    rw [hb, if_neg (by omega), if_neg (by omega), if_neg (by omega), if_pos (by omega)]; congr 1; omega
  have c1 : bt x (0 + 1 + s.size) = 46 := by rw [hb, if_neg (by omega), if_neg (by omega), if_pos (by omega)]
  have c2 : bt x (0 + 1 + s.size + 1 + u.size) = 41 := by rw [hb, if_neg (by omega), if_neg (by omega), if_neg (by omega), if_neg (by omega), if_pos (by omega)]
  rw [hxs, show s.size + u.size + 3 = s.size + u.size + 2 + 1 by omega, readT_pair (by rw [hb]; rfl), m1]
  simp only [aheadR, if_pos c1, bothR, m2, if_pos c2]
  congr 2; omega

theorem isTerm_no {n : Int} {s : ByteArray} (h : termN n s = none) : termB n s = false := by unfold termB; rw [h]; rfl
theorem isTerm {n : Int} {s : ByteArray} {t : Tm} (h : termN n s = some t) : termB n s = true := by unfold termB; rw [h]; rfl
theorem term_sign {n : Int} {s : ByteArray} {t : Tm} (c : UInt8) (hc : SignP c.toNat) (h : termN n s = some t) (h59 : s.size ≤ 59) : termN n (⟨#[c]⟩ ++ s) = some (if c.toNat = 45 then .back t else .times (c.toNat - 48) t) := by
  obtain ⟨h1, h2, h3⟩ := termN_some h
  refine termN_fits h1 (sign_text c hc h2 h59) ?_
  split <;> exact h3
theorem term_more {n : Int} {s : ByteArray} {t : Tm} (h : termN n s = some t) (hn : n ≠ 5) : termN (n + 1) s = some t := by
  obtain ⟨h1, h2, h3⟩ := termN_some h
  have := h1.1; have := h1.2
  exact termN_fits ⟨by omega, by omega⟩ h2 (by omega)
theorem term_closed {n : Int} {s : ByteArray} {t : Tm} (c : UInt8) (h : termN n s = some t) : termN n (s ++ ⟨#[c]⟩) = none := termN_none (closed_text c (termN_some h).2.1)
theorem term_pair {n : Int} {s u : ByteArray} {t v : Tm} (h : termN n s = some t) (hu : termN n u = some v) (hz : s.size + u.size + 3 ≤ 60) : termN n (⟨#[40]⟩ ++ s ++ ⟨#[46]⟩ ++ u ++ ⟨#[41]⟩) = some (.pair t v) := by
  obtain ⟨h1, h2, h3⟩ := termN_some h
  obtain ⟨_, h4, h5⟩ := termN_some hu
  exact termN_fits h1 (pair_text h2 h4 hz) (by unfold ppl; omega)
theorem back_text (s : ByteArray) : (⟨#[40]⟩ : ByteArray) ++ s ++ ⟨#[46, 45]⟩ ++ s ++ ⟨#[41]⟩ = ⟨#[40]⟩ ++ s ++ ⟨#[46]⟩ ++ (⟨#[45]⟩ ++ s) ++ ⟨#[41]⟩ := by
  have e : (⟨#[46, 45]⟩ : ByteArray) = ⟨#[46]⟩ ++ ⟨#[45]⟩ := by rw [ByteArray.mk_append_mk]; rfl
  rw [e]
  simp only [ByteArray.append_assoc]
/-- There and back. -/
theorem term_back {n : Int} {s : ByteArray} {t : Tm} (h : termN n s = some t) (h27 : s.size ≤ 27) : termN n (⟨#[40]⟩ ++ s ++ ⟨#[46, 45]⟩ ++ s ++ ⟨#[41]⟩) = some (.pair t (.back t)) := by
  rw [back_text]
  refine term_pair h (term_sign 45 (by unfold SignP; decide) h (by omega)) ?_
  rw [size_app, size_one]; omega
theorem back_is {n : Nat} {t : Tm} (h : IsDiff n n (giv n t)) {i : Nat} (hi : i < n) : giv n (.pair t (.back t)) i = (i : Int) := by
  show ((invF (giv n t) n (giv n t i).toNat : Nat) : Int) = i
  have h1 := h.1 i hi
  have h2 := h.inv (r := (giv n t i).toNat) (by omega)
  rcases Nat.lt_trichotomy (invF (giv n t) n (giv n t i).toNat) i with e | e | e
  · exact absurd (by rw [h2.2]; omega) (h.2 _ _ e hi)
  · rw [e]
  · exact absurd (by rw [h2.2]; omega) (h.2 _ _ e h2.1)
theorem twice_is (n : Nat) (t : Tm) (i : Nat) : giv n (.times 2 t) i = giv n t (giv n t i).toNat := rfl
theorem pair_is (n : Nat) (t : Tm) (i : Nat) : giv n (.pair t t) i = giv n t (giv n t i).toNat := rfl
end Go.Proofs.YtnaegnjgpnakfaaDoor
