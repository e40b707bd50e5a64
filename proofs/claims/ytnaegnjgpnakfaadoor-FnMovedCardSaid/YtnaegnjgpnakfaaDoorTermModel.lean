/- Terms of trades: their texts, and what they tell, in plain mathematics. -/
import Derived.Test.YtnaegnjgpnakfaaDoorPacksModel
namespace Go.Proofs.YtnaegnjgpnakfaaDoor
set_option linter.unusedVariables false
set_option linter.unusedSimpArgs false
open Go.RowKit

/-- A term. -/
inductive Tm where
  | keep : Tm
  | circ : List Nat → Tm
  | back : Tm → Tm
  | times : Nat → Tm → Tm
  | pair : Tm → Tm → Tm

/-- The byte of a text at a place, or 0. -/
def bt (s : ByteArray) (i : Nat) : Nat := if h : i < s.size then (s[i]'h).toNat else 0
theorem bt_lt (s : ByteArray) (i : Nat) : bt s i < 256 := by
  unfold bt
  split
  · exact UInt8.toNat_lt _
  · omega
theorem bt_out {s : ByteArray} {i : Nat} (h : s.size ≤ i) : bt s i = 0 := by unfold bt; rw [dif_neg (by omega)]
theorem bt_in {s : ByteArray} {i : Nat} (h : i < s.size) : bt s i = (s[i]'h).toNat := by unfold bt; rw [dif_pos h]
theorem bt_pos {s : ByteArray} {i : Nat} (h : bt s i ≠ 0) : i < s.size := by
  rcases Nat.lt_or_ge i s.size with h1 | h1
  · exact h1
  · exact absurd (bt_out h1) h

def LetP (x : Nat) : Prop := 97 ≤ x ∧ x ≤ 101
instance (x : Nat) : Decidable (LetP x) := by unfold LetP; infer_instance
/-- How many letters stand from a place on. -/
def runL (s : ByteArray) (p : Nat) : Nat → Nat
  | 0 => 0
  | f + 1 => if LetP (bt s p) then runL s (p + 1) f + 1 else 0
def runN (s : ByteArray) (p : Nat) : Nat := runL s p (s.size - p)
theorem runL_let {s : ByteArray} : ∀ (f p j : Nat), j < runL s p f → LetP (bt s (p + j))
  | 0, p, j, h => absurd h (Nat.not_lt_zero _)
  | f + 1, p, j, h => by
    unfold runL at h
    by_cases e : LetP (bt s p)
    · rw [if_pos e] at h
      cases j with
      | zero => exact e
      | succ j => have := runL_let (s := s) f (p + 1) j (by omega); rwa [show p + 1 + j = p + (j + 1) by omega] at this
    · rw [if_neg e] at h; omega
theorem runL_end {s : ByteArray} : ∀ (f p : Nat), s.size ≤ p + f → ¬ LetP (bt s (p + runL s p f))
  | 0, p, h => by
    show ¬ LetP (bt s (p + 0))
    rw [bt_out (s := s) (i := p + 0) (by omega)]; unfold LetP; omega
  | f + 1, p, h => by
    unfold runL
    by_cases e : LetP (bt s p)
    · rw [if_pos e]
      have := runL_end (s := s) f (p + 1) (by omega)
      rwa [show p + 1 + runL s (p + 1) f = p + (runL s (p + 1) f + 1) by omega] at this
    · rw [if_neg e]; exact e
theorem runN_let {s : ByteArray} {p j : Nat} (h : j < runN s p) : LetP (bt s (p + j)) := runL_let _ _ _ h
theorem runN_end (s : ByteArray) (p : Nat) : ¬ LetP (bt s (p + runN s p)) := runL_end _ _ (by omega)
theorem runN_le {s : ByteArray} {p : Nat} (h : p ≤ s.size) : p + runN s p ≤ s.size := by
  rcases Nat.eq_zero_or_pos (runN s p) with e | e
  · omega
  · have := runN_let (s := s) (p := p) (j := runN s p - 1) (by omega)
    have h2 := bt_pos (s := s) (i := p + (runN s p - 1)) (fun e2 => by rw [e2] at this; unfold LetP at this; omega)
    omega
theorem runN_eq {s : ByteArray} {p m : Nat} (h : ∀ j, j < m → LetP (bt s (p + j))) (hn : ¬ LetP (bt s (p + m))) : runN s p = m := by
  rcases Nat.lt_trichotomy (runN s p) m with e | e | e
  · exact absurd (h _ e) (runN_end s p)
  · exact e
  · exact absurd (runN_let e) hn

def letF (s : ByteArray) (p : Nat) (j : Nat) : Int := (bt s (p + j) : Int) - 97
def CircOk (s : ByteArray) (p : Nat) : Prop := bt s (p + runN s p) = 93 ∧ 2 ≤ runN s p ∧ IsDiff 5 (runN s p) (letF s p)
def lets (s : ByteArray) (p m : Nat) : List Nat := (List.range m).map fun j => bt s (p + j) - 97
/-- A circle behind its bracket, and the place behind it. -/
noncomputable def circR (s : ByteArray) (p : Nat) : Option (Tm × Nat) := if tt (CircOk s p) then some (.circ (lets s p (runN s p)), p + runN s p + 1) else none
theorem circR_yes {s : ByteArray} {p : Nat} (h : CircOk s p) : circR s p = some (.circ (lets s p (runN s p)), p + runN s p + 1) := by unfold circR; rw [tt_of h]; rfl
theorem circR_no {s : ByteArray} {p : Nat} (h : ¬ CircOk s p) : circR s p = none := by unfold circR; rw [tt_no h]; rfl
def signR (c : Nat) : Option (Tm × Nat) → Option (Tm × Nat)
  | none => none
  | some (t, e) => some (if c = 45 then .back t else .times (c - 48) t, e)
def aheadR (s : ByteArray) (c : Nat) : Option (Tm × Nat) → Option (Tm × Nat)
  | none => none
  | some (t, e) => if bt s e = c then some (t, e + 1) else none
def bothR : Option (Tm × Nat) → (Nat → Option (Tm × Nat)) → Option (Tm × Nat)
  | none, _ => none
  | some (a, e), g => match g e with
    | none => none
    | some (b, e') => some (.pair a b, e')
def SignP (x : Nat) : Prop := x = 45 ∨ 50 ≤ x ∧ x ≤ 57
instance (x : Nat) : Decidable (SignP x) := by unfold SignP; infer_instance
/-- The term from a place on, and the place behind it. -/
noncomputable def readT (s : ByteArray) : Nat → Nat → Option (Tm × Nat)
  | 0, _ => none
  | f + 1, p =>
    if bt s p = 105 then some (.keep, p + 1)
    else if bt s p = 91 then circR s (p + 1)
    else if SignP (bt s p) then signR (bt s p) (readT s f (p + 1))
    else if bt s p = 40 then bothR (aheadR s 46 (readT s f (p + 1))) (fun e => aheadR s 41 (readT s f e))
    else none
theorem readT_keep {s : ByteArray} {f p : Nat} (h : bt s p = 105) : readT s (f + 1) p = some (.keep, p + 1) := by unfold readT; rw [if_pos h]
theorem readT_circ {s : ByteArray} {f p : Nat} (h : bt s p = 91) : readT s (f + 1) p = circR s (p + 1) := by unfold readT; rw [if_neg (by omega), if_pos h]
theorem readT_sign {s : ByteArray} {f p : Nat} (h : SignP (bt s p)) : readT s (f + 1) p = signR (bt s p) (readT s f (p + 1)) := by
  have h' := h; unfold SignP at h'
  rw [readT, if_neg (by omega), if_neg (by omega), if_pos h]
theorem readT_pair {s : ByteArray} {f p : Nat} (h : bt s p = 40) : readT s (f + 1) p = bothR (aheadR s 46 (readT s f (p + 1))) (fun e => aheadR s 41 (readT s f e)) := by
  rw [readT, if_neg (by omega), if_neg (by omega), if_neg (by unfold SignP; omega), if_pos h]
theorem readT_none {s : ByteArray} {f p : Nat} (h1 : bt s p ≠ 105) (h2 : bt s p ≠ 91) (h3 : ¬ SignP (bt s p)) (h4 : bt s p ≠ 40) : readT s f p = none := by
  cases f with
  | zero => rfl
  | succ f => unfold readT; rw [if_neg h1, if_neg h2, if_neg h3, if_neg h4]
theorem readT_out {s : ByteArray} {f p : Nat} (h : s.size ≤ p) : readT s f p = none := by
  have := bt_out h
  exact readT_none (by omega) (by omega) (by unfold SignP; omega) (by omega)
theorem aheadR_some {s : ByteArray} {c : Nat} {o : Option (Tm × Nat)} {t : Tm} {e : Nat} (hc : c ≠ 0) (h : aheadR s c o = some (t, e)) : ∃ e', o = some (t, e') ∧ e = e' + 1 ∧ bt s e' = c ∧ e' < s.size := by
  unfold aheadR at h
  split at h
  · cases h
  · rename_i u e1
    by_cases hb : bt s e1 = c
    · rw [if_pos hb] at h; cases h
      exact ⟨e1, rfl, rfl, hb, bt_pos (by omega)⟩
    · rw [if_neg hb] at h; cases h
theorem readT_bound {s : ByteArray} : ∀ (f p : Nat) (t : Tm) (e : Nat), readT s f p = some (t, e) → p < e ∧ e ≤ s.size
  | 0, p, t, e, h => by cases h
  | f + 1, p, t, e, h => by
    by_cases h1 : bt s p = 105
    · rw [readT_keep h1] at h; cases h
      have := bt_pos (s := s) (i := p) (by omega); omega
    by_cases h2 : bt s p = 91
    · rw [readT_circ h2] at h
      by_cases hc : CircOk s (p + 1)
      · rw [circR_yes hc] at h; cases h
        have := bt_pos (s := s) (i := p + 1 + runN s (p + 1)) (by have := hc.1; omega)
        omega
      · rw [circR_no hc] at h; cases h
    by_cases h3 : SignP (bt s p)
    · rw [readT_sign h3] at h
      cases hr : readT s f (p + 1) with
      | none => rw [hr] at h; cases h
      | some q =>
        obtain ⟨u, e1⟩ := q
        rw [hr] at h; cases h
        have := readT_bound f (p + 1) u _ hr
        omega
    by_cases h4 : bt s p = 40
    · rw [readT_pair h4] at h
      cases hr : aheadR s 46 (readT s f (p + 1)) with
      | none => rw [hr] at h; cases h
      | some q =>
        obtain ⟨u, e1⟩ := q
        rw [hr] at h
        obtain ⟨e2, h5, h6, _, _⟩ := aheadR_some (by omega) hr
        have b1 := readT_bound f (p + 1) u _ h5
        cases hr2 : aheadR s 41 (readT s f e1) with
        | none => simp only [bothR, hr2] at h; cases h
        | some q2 =>
          obtain ⟨u2, e3⟩ := q2
          simp only [bothR, hr2] at h; cases h
          obtain ⟨e4, h7, h8, _, h9⟩ := aheadR_some (by omega) hr2
          have b2 := readT_bound f e1 u2 _ h7
          omega
    · rw [readT_none h1 h2 h3 h4] at h; cases h
/-- The term that a text is. -/
noncomputable def termOf (s : ByteArray) : Option Tm := if 60 < s.size then none else match readT s s.size 0 with
  | none => none
  | some (t, e) => if e = s.size then some t else none
def maxL : List Nat → Nat
  | [] => 0
  | x :: l => max (x + 1) (maxL l)
/-- The least number of people for a term. -/
def ppl : Tm → Nat
  | .keep => 0
  | .circ L => maxL L
  | .back t => ppl t
  | .times _ t => ppl t
  | .pair a b => max (ppl a) (ppl b)
/-- The term that a text is for n people. -/
noncomputable def termN (n : Int) (s : ByteArray) : Option Tm := if tt (InR n 2 5) then (match termOf s with
  | none => none
  | some t => if ppl t ≤ n.toNat then some t else none) else none
theorem termN_out {n : Int} {s : ByteArray} (h : ¬ InR n 2 5) : termN n s = none := by unfold termN; rw [tt_no h]; rfl
theorem termN_none {n : Int} {s : ByteArray} (h : termOf s = none) : termN n s = none := by unfold termN; rw [h]; split <;> rfl
theorem termN_fits {n : Int} {s : ByteArray} {t : Tm} (hn : InR n 2 5) (h : termOf s = some t) (hp : ppl t ≤ n.toNat) : termN n s = some t := by unfold termN; rw [tt_of hn, h]; simp [hp]
theorem termN_more {n : Int} {s : ByteArray} {t : Tm} (h : termOf s = some t) (hp : ¬ ppl t ≤ n.toNat) : termN n s = none := by unfold termN; rw [h]; simp [hp]
theorem termN_some {n : Int} {s : ByteArray} {t : Tm} (h : termN n s = some t) : InR n 2 5 ∧ termOf s = some t ∧ ppl t ≤ n.toNat := by
  by_cases h1 : InR n 2 5
  · cases h2 : termOf s with
    | none => rw [termN_none h2] at h; cases h
    | some u =>
      by_cases h3 : ppl u ≤ n.toNat
      · rw [termN_fits h1 h2 h3] at h; cases h; exact ⟨h1, rfl, h3⟩
      · rw [termN_more h2 h3] at h; cases h
  · rw [termN_out h1] at h; cases h

/-! ### What a term tells -/
def idF (i : Nat) : Int := i
def nthN (L : List Nat) (j : Nat) : Int := ((L.getD j 0 : Nat) : Int)
def powF (G : Nat → Int) : Nat → Nat → Int
  | 0, i => i
  | k + 1, i => G (powF G k i).toNat
def giv (n : Nat) : Tm → Nat → Int
  | .keep => idF
  | .circ L => nextF idF (nthN L) L.length L.length
  | .back t => fun i => (invF (giv n t) n i : Nat)
  | .times k t => powF (giv n t) k
  | .pair a b => fun i => giv n b (giv n a i).toNat
/-- Circles have two letters at least, all different; digits are 2 to 9. -/
def WF : Tm → Prop
  | .keep => True
  | .circ L => 2 ≤ L.length ∧ IsDiff 5 L.length (nthN L)
  | .back t => WF t
  | .times k t => (2 ≤ k ∧ k ≤ 9) ∧ WF t
  | .pair a b => WF a ∧ WF b
theorem maxL_lt : ∀ {L : List Nat} {n j : Nat}, maxL L ≤ n → j < L.length → L.getD j 0 < n
  | [], n, j, h, hj => absurd hj (Nat.not_lt_zero _)
  | x :: l, n, j, h, hj => by
    unfold maxL at h
    cases j with
    | zero => show x < n; omega
    | succ j => exact maxL_lt (L := l) (by omega) (by simpa using hj)
theorem maxL_le : ∀ {L : List Nat} {n : Nat}, (∀ j, j < L.length → L.getD j 0 < n) → maxL L ≤ n
  | [], n, h => Nat.zero_le _
  | x :: l, n, h => by
    unfold maxL
    have h0 : x < n := h 0 (by simp)
    have h1 := maxL_le (L := l) (n := n) fun j hj => h (j + 1) (by simpa using hj)
    omega
theorem lets_len (s : ByteArray) (p m : Nat) : (lets s p m).length = m := by simp [lets]
theorem lets_get {s : ByteArray} {p m j : Nat} (h : j < m) : (lets s p m).getD j 0 = bt s (p + j) - 97 := by simp [lets, h]
theorem lets_nth {s : ByteArray} {p j m : Nat} (h : j < m) (hm : m ≤ runN s p) : nthN (lets s p m) j = letF s p j := by
  have := runN_let (s := s) (p := p) (j := j) (by omega)
  unfold LetP at this
  unfold nthN letF
  rw [lets_get h]; omega
theorem readT_wf {s : ByteArray} : ∀ (f p : Nat) (t : Tm) (e : Nat), readT s f p = some (t, e) → WF t
  | 0, p, t, e, h => by cases h
  | f + 1, p, t, e, h => by
    by_cases h1 : bt s p = 105
    · rw [readT_keep h1] at h; cases h; trivial
    by_cases h2 : bt s p = 91
    · rw [readT_circ h2] at h
      by_cases hc : CircOk s (p + 1)
      · rw [circR_yes hc] at h; cases h
        show 2 ≤ (lets _ _ _).length ∧ IsDiff 5 (lets _ _ _).length _
        rw [lets_len]
        exact ⟨hc.2.1, (isDiff_congr (fun j hj => (lets_nth hj (Nat.le_refl _)).symm)).1 hc.2.2⟩
      · rw [circR_no hc] at h; cases h
    by_cases h3 : SignP (bt s p)
    · rw [readT_sign h3] at h
      cases hr : readT s f (p + 1) with
      | none => rw [hr] at h; cases h
      | some q =>
        obtain ⟨u, e1⟩ := q
        have hw := readT_wf f (p + 1) u _ hr
        rw [hr] at h
        unfold SignP at h3
        by_cases h5 : bt s p = 45
        · simp only [signR, if_pos h5] at h; cases h; exact hw
        · simp only [signR, if_neg h5] at h; cases h; exact ⟨by omega, hw⟩
    by_cases h4 : bt s p = 40
    · rw [readT_pair h4] at h
      cases hr : aheadR s 46 (readT s f (p + 1)) with
      | none => rw [hr] at h; cases h
      | some q =>
        obtain ⟨u, e1⟩ := q
        rw [hr] at h
        obtain ⟨e2, h5, h6, _, _⟩ := aheadR_some (by omega) hr
        have b1 := readT_wf f (p + 1) u _ h5
        cases hr2 : aheadR s 41 (readT s f e1) with
        | none => simp only [bothR, hr2] at h; cases h
        | some q2 =>
          obtain ⟨u2, e3⟩ := q2
          simp only [bothR, hr2] at h; cases h
          obtain ⟨e4, h7, h8, _, h9⟩ := aheadR_some (by omega) hr2
          exact ⟨b1, readT_wf f e1 u2 _ h7⟩
    · rw [readT_none h1 h2 h3 h4] at h; cases h
theorem termOf_some {s : ByteArray} {t : Tm} (h : termOf s = some t) : s.size ≤ 60 ∧ readT s s.size 0 = some (t, s.size) := by
  unfold termOf at h
  by_cases h1 : 60 < s.size
  · rw [if_pos h1] at h; cases h
  · rw [if_neg h1] at h
    cases hr : readT s s.size 0 with
    | none => rw [hr] at h; cases h
    | some q =>
      obtain ⟨u, e⟩ := q
      rw [hr] at h
      simp only at h
      by_cases h2 : e = s.size
      · rw [if_pos h2] at h; cases h; exact ⟨by omega, by rw [h2]⟩
      · rw [if_neg h2] at h; cases h
theorem termN_wf {n : Int} {s : ByteArray} {t : Tm} (h : termN n s = some t) : WF t := readT_wf _ _ _ _ (termOf_some (termN_some h).2.1).2

theorem perm_then {n : Nat} {A B : Nat → Int} (ha : IsDiff n n A) (hb : IsDiff n n B) : IsDiff n n (fun i => B (A i).toNat) := by
  refine ⟨fun i hi => ?_, fun i j h1 h2 e => ?_⟩
  · have := ha.1 i hi; exact hb.1 _ (by omega)
  · have h3 := ha.1 i (by omega)
    have h4 := ha.1 j h2
    have h5 := ha.2 i j h1 h2
    rcases Nat.lt_trichotomy (A i).toNat (A j).toNat with h | h | h
    · exact hb.2 _ _ h (by omega) e
    · omega
    · exact hb.2 _ _ h (by omega) e.symm
theorem perm_id (n : Nat) : IsDiff n n idF := ⟨fun i hi => by unfold idF; omega, fun i j h1 h2 e => by unfold idF at e; omega⟩
theorem perm_pow {n : Nat} {G : Nat → Int} (h : IsDiff n n G) : ∀ k, IsDiff n n (powF G k)
  | 0 => perm_id n
  | k + 1 => perm_then (perm_pow h k) h
theorem perm_inv {n : Nat} {G : Nat → Int} (h : IsDiff n n G) : IsDiff n n (fun i => (invF G n i : Nat)) := by
  refine ⟨fun i hi => ⟨Int.natCast_nonneg _, by have := h.inv hi; show ((invF G n i : Nat) : Int) < n; omega⟩, fun i j h1 h2 e => ?_⟩
  have h3 := h.inv (r := i) (by omega)
  have h4 := h.inv h2
  have e0 : ((invF G n i : Nat) : Int) = (invF G n j : Nat) := e
  have e' : invF G n i = invF G n j := by omega
  rw [e'] at h3
  omega
theorem mod_next {m j : Nat} (hj : j < m) : (j + 1) % m = if j + 1 = m then 0 else j + 1 := by
  by_cases e : j + 1 = m
  · rw [if_pos e, e, Nat.mod_self]
  · rw [if_neg e, Nat.mod_eq_of_lt (by omega)]
theorem perm_next {n m : Nat} {C : Nat → Int} (h : IsDiff n m C) (hm : 1 ≤ m) : IsDiff n n (nextF idF C m m) := by
  have hon : ∀ j, j < m → ∀ i : Nat, C j = i → nextF idF C m m i = C ((j + 1) % m) := fun j hj i e => nextF_on hj e fun a b h1 h2 => h.2 a b h1 h2
  have hr : ∀ i, i < n → 0 ≤ nextF idF C m m i ∧ nextF idF C m m i < n := fun i hi => by
    by_cases e : ∃ j, j < m ∧ C j = i
    · obtain ⟨j, hj, e⟩ := e
      rw [hon j hj i e]
      exact h.1 _ (Nat.mod_lt _ (by omega))
    · rw [nextF_off fun j hj e2 => e ⟨j, hj, e2⟩]; unfold idF; omega
  refine diff_of_all hr fun r hr => ?_
  by_cases e : ∃ j, j < m ∧ C j = r
  · obtain ⟨j, hj, e⟩ := e
    obtain ⟨q, hq, hq2⟩ : ∃ q, q < m ∧ (q + 1) % m = j := by
      by_cases e0 : j = 0
      · exact ⟨m - 1, by omega, by rw [mod_next (by omega), if_pos (by omega), e0]⟩
      · exact ⟨j - 1, by omega, by rw [mod_next (by omega), if_neg (by omega)]; omega⟩
    have hq3 := h.1 q hq
    refine ⟨(C q).toNat, by omega, ?_⟩
    rw [hon q hq _ (by omega), hq2, e]
  · exact ⟨r, hr, by rw [nextF_off fun j hj e2 => e ⟨j, hj, e2⟩]; rfl⟩
theorem giv_perm {n : Nat} : ∀ {t : Tm}, WF t → ppl t ≤ n → IsDiff n n (giv n t)
  | .keep, _, _ => perm_id n
  | .circ L, h, hp => perm_next ⟨fun j hj => by have := maxL_lt hp hj; unfold nthN; omega, h.2.2⟩ (by have := h.1; omega)
  | .back t, h, hp => perm_inv (giv_perm (t := t) h hp)
  | .times k t, h, hp => perm_pow (giv_perm (t := t) h.2 hp) k
  | .pair a b, h, hp => perm_then (giv_perm (t := a) h.1 (by unfold ppl at hp; omega)) (giv_perm (t := b) h.2 (by unfold ppl at hp; omega))
/-- What a text tells for n people. -/
def givL (n : Int) (t : Tm) : List Int := (List.range n.toNat).map (giv n.toNat t)
end Go.Proofs.YtnaegnjgpnakfaaDoor
