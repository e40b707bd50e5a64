/- Wants turned round, and circles backwards, in plain mathematics. -/
import Derived.Test.YtamglhpgdaoaoaaPacksModel
namespace Go.Proofs.Ytamglhpgdaoaoaa
set_option linter.unusedVariables false
set_option linter.unusedSimpArgs false
open Go.RowKit

/-- Those of the first m who want the thing of k. -/
def turnM (W : Nat → Int) (k : Nat) : Nat → Nat
  | 0 => 0
  | i + 1 => if WantsB W i k = true then turnM W k i ||| 2 ^ i else turnM W k i
theorem turnM_bit {W : Nat → Int} {k i : Nat} : ∀ {m : Nat}, (turnM W k m).testBit i = true ↔ i < m ∧ WantsB W i k = true
  | 0 => by simp [turnM]
  | m + 1 => by
    show (if WantsB W m k = true then turnM W k m ||| 2 ^ m else turnM W k m).testBit i = true ↔ _
    have ih := turnM_bit (W := W) (k := k) (i := i) (m := m)
    by_cases e : WantsB W m k = true
    · rw [if_pos e, bit_put_has, ih]
      constructor
      · rintro (⟨h1, h2⟩ | rfl)
        · exact ⟨by omega, h2⟩
        · exact ⟨by omega, e⟩
      · rintro ⟨h1, h2⟩
        by_cases ei : i = m
        · exact .inr ei
        · exact .inl ⟨by omega, h2⟩
    · rw [if_neg e, ih]
      constructor
      · rintro ⟨h1, h2⟩; exact ⟨by omega, h2⟩
      · rintro ⟨h1, h2⟩
        refine ⟨?_, h2⟩
        by_cases ei : i = m
        · subst ei; exact absurd h2 e
        · omega
theorem turnM_lt (W : Nat → Int) (k : Nat) : ∀ m, turnM W k m < 2 ^ m
  | 0 => by show 0 < 1; omega
  | m + 1 => by
    have ih := turnM_lt W k m
    have h2 : 2 ^ (m + 1) = 2 ^ m * 2 := Nat.pow_succ 2 m
    show (if WantsB W m k = true then turnM W k m ||| 2 ^ m else turnM W k m) < 2 ^ (m + 1)
    by_cases e : WantsB W m k = true
    · rw [if_pos e]; exact Nat.or_lt_two_pow (by omega) (by omega)
    · rw [if_neg e]; omega
/-- Wants turned round. -/
def turnW (n : Nat) (W : Nat → Int) (k : Nat) : Int := (turnM W k n : Nat)
section
variable {n : Nat} {W : Nat → Int}
theorem turn_wants {k i : Nat} : WantsB (turnW n W) k i = true ↔ i < n ∧ WantsB W i k = true := by
  show ((turnM W k n : Nat) : Int).toNat.testBit i = true ↔ _
  rw [Int.toNat_natCast, turnM_bit]
theorem turn_is (hW : IsWants n W) : IsWants n (turnW n W) := by
  refine ⟨hW.1, fun i hi => ⟨Int.natCast_nonneg _, ?_, ?_⟩⟩
  · show ((turnM W i n : Nat) : Int) < ((2 ^ n : Nat) : Int)
    have := turnM_lt W i n
    omega
  · cases e : WantsB (turnW n W) i i with
    | false => rfl
    | true =>
      have h1 := (turn_wants.1 e).2
      rw [(hW.2 i hi).2.2] at h1; cases h1
theorem turn_twice (hW : IsWants n W) {i : Nat} (hi : i < n) : turnW n (turnW n W) i = W i := by
  have h0 := hW.2 i hi
  obtain ⟨z, hz⟩ := Int.eq_ofNat_of_zero_le h0.1
  show ((turnM (turnW n W) i n : Nat) : Int) = W i
  rw [hz]
  congr 1
  apply Nat.eq_of_testBit_eq
  intro y
  have hzy : WantsB W i y = z.testBit y := by unfold WantsB; rw [hz, Int.toNat_natCast]
  rw [Bool.eq_iff_iff, turnM_bit, turn_wants, hzy]
  constructor
  · exact fun h => h.2.2
  · intro h
    rw [← hzy] at h
    have := hW.bit hi h
    exact ⟨this.1, hi, by rw [← hzy]; exact h⟩
theorem circ_wants {V : Nat → Int} {m : Nat} {C : Nat → Int} (h : ∀ i k, i < n → k < n → WantsB W i k = true → WantsB V i k = true) (hc : IsCirc n W m C) : IsCirc n V m C := by
  refine ⟨hc.1, hc.2.1, fun i hi => ?_, hc.2.2.2⟩
  have h1 := hc.1.1 i hi
  have h2 := hc.1.1 ((i + 1) % m) (Nat.mod_lt _ (by omega))
  exact h _ _ (by omega) (by omega) (hc.2.2.1 i hi)
theorem circ_twice (hW : IsWants n W) {m : Nat} {C : Nat → Int} : IsCirc n (turnW n (turnW n W)) m C ↔ IsCirc n W m C := by
  constructor
  · exact circ_wants fun i k hi hk h => by unfold WantsB at h ⊢; rwa [turn_twice hW hi] at h
  · exact circ_wants fun i k hi hk h => by unfold WantsB at h ⊢; rwa [turn_twice hW hi]

/-- A circle backwards. -/
def revF (m : Nat) (C : Nat → Int) (i : Nat) : Int := C ((m - i) % m)
theorem rev_idx {m i : Nat} (hi : i < m) : (m - i) % m = if i = 0 then 0 else m - i := by
  by_cases e : i = 0
  · subst e; rw [if_pos rfl, Nat.sub_zero, Nat.mod_self]
  · rw [if_neg e, Nat.mod_eq_of_lt (by omega)]
theorem rev_lt {m i : Nat} (hi : i < m) : (m - i) % m < m := Nat.mod_lt _ (by omega)
theorem rev_rev {m i : Nat} (hi : i < m) : (m - (m - i) % m) % m = i := by
  rw [rev_idx hi]
  by_cases e : i = 0
  · subst e; rw [if_pos rfl, Nat.sub_zero, Nat.mod_self]
  · rw [if_neg e, show m - (m - i) = i by omega, Nat.mod_eq_of_lt hi]
theorem rev_step {m i : Nat} (hi : i < m) : ((m - (i + 1) % m) % m + 1) % m = (m - i) % m := by
  by_cases e : i + 1 = m
  · rw [e, Nat.mod_self, Nat.sub_zero, Nat.mod_self, show m - i = 1 by omega]
  · rw [Nat.mod_eq_of_lt (show i + 1 < m by omega), rev_idx (show i + 1 < m by omega), if_neg (by omega), show m - (i + 1) + 1 = m - i by omega]
theorem rev_circ {m : Nat} {C : Nat → Int} (h : IsCirc n W m C) : IsCirc n (turnW n W) m (revF m C) := by
  obtain ⟨h1, h2, h3, h4⟩ := h
  have hinj : ∀ i j, i < m → j < m → C i = C j → i = j := fun i j hi hj e => by
    rcases Nat.lt_trichotomy i j with h | h | h
    · exact absurd e (h1.2 i j h hj)
    · exact h
    · exact absurd e.symm (h1.2 j i h hi)
  refine ⟨⟨fun i hi => h1.1 _ (rev_lt hi), fun i j hij hj e => ?_⟩, fun i h0 hi => ?_, fun i hi => ?_, h4⟩
  · have hi : i < m := by omega
    have := hinj _ _ (rev_lt hi) (rev_lt hj) e
    have h5 := rev_rev hi
    rw [this, rev_rev hj] at h5
    omega
  · show C ((m - 0) % m) < C ((m - i) % m)
    rw [rev_idx hi, if_neg (by omega), Nat.sub_zero, Nat.mod_self]
    exact h2 _ (by omega) (by omega)
  · have hi1 : (i + 1) % m < m := Nat.mod_lt _ (by omega)
    have hj := rev_lt hi1
    have h5 := h3 _ hj
    rw [rev_step hi] at h5
    have r1 := h1.1 _ hj
    show WantsB (turnW n W) (C ((m - i) % m)).toNat (C ((m - (i + 1) % m) % m)).toNat = true
    rw [turn_wants]
    exact ⟨by omega, h5⟩
/-- A list backwards, its first number staying. -/
def revL (c : List Int) : List Int := (List.range c.length).map (revF c.length (nth c))
theorem revL_len (c : List Int) : (revL c).length = c.length := by unfold revL; simp
theorem revL_nth {c : List Int} {i : Nat} (h : i < c.length) : nth (revL c) i = revF c.length (nth c) i := nth_map h
theorem list_ext {A B : List Int} (hl : A.length = B.length) (h : ∀ i, i < A.length → nth A i = nth B i) : A = B := by
  apply List.ext_getElem hl
  intro i h1 h2
  have := h i h1
  unfold nth at this
  rwa [List.getD_eq_getElem?_getD, List.getD_eq_getElem?_getD, List.getElem?_eq_getElem h1, List.getElem?_eq_getElem h2] at this
theorem revL_twice (c : List Int) : revL (revL c) = c := by
  refine list_ext (by rw [revL_len, revL_len]) fun i hi => ?_
  rw [revL_len, revL_len] at hi
  rw [revL_nth (by rw [revL_len]; exact hi), revL_len]
  show nth (revL c) ((c.length - i) % c.length) = _
  rw [revL_nth (rev_lt hi)]
  show nth c ((c.length - (c.length - i) % c.length) % c.length) = _
  rw [rev_rev hi]
theorem isCirc_congr {m : Nat} {C D : Nat → Int} (e : ∀ i, i < m → C i = D i) (h : IsCirc n W m C) : IsCirc n W m D := by
  have hm : 0 < m := by have := h.2.2.2; omega
  refine ⟨⟨fun i hi => by rw [← e i hi]; exact h.1.1 i hi, fun i j hij hj => by rw [← e i (by omega), ← e j hj]; exact h.1.2 i j hij hj⟩, fun i h0 hi => by rw [← e i hi, ← e 0 hm]; exact h.2.1 i h0 hi, fun i hi => by rw [← e i hi, ← e _ (Nat.mod_lt _ hm)]; exact h.2.2.1 i hi, h.2.2.2⟩
theorem revL_circ {c : List Int} (h : IsCirc n W c.length (nth c)) : IsCirc n (turnW n W) (revL c).length (nth (revL c)) := by
  rw [revL_len]
  exact isCirc_congr (fun i hi => (revL_nth hi).symm) (rev_circ h)
theorem revL_set {c : List Int} (h : IsCirc n W c.length (nth c)) : setL (revL c) = setL c := by
  apply Nat.eq_of_testBit_eq
  intro y
  rw [Bool.eq_iff_iff, setL_bit (revL_circ h), setL_bit h, revL_len]
  constructor
  · rintro ⟨j, hj, e⟩
    rw [revL_nth hj] at e
    exact ⟨_, rev_lt hj, e⟩
  · rintro ⟨j, hj, e⟩
    refine ⟨(c.length - j) % c.length, rev_lt hj, ?_⟩
    rw [revL_nth (rev_lt hj)]
    show nth c ((c.length - (c.length - j) % c.length) % c.length) = _
    rw [rev_rev hj]; exact e
theorem revL_inj {a b : List Int} (h : revL a = revL b) : a = b := by rw [← revL_twice a, h, revL_twice]
theorem revL_back (hW : IsWants n W) {c : List Int} (h : IsCirc n (turnW n W) c.length (nth c)) : IsCirc n W (revL c).length (nth (revL c)) := (circ_twice hW).1 (revL_circ h)

theorem turn_le (k : Nat) : (circs n W k []).length ≤ (circs n (turnW n W) k []).length := by
  have h1 : ((circs n W k []).map revL).Nodup := by
    unfold List.Nodup
    rw [List.pairwise_map]
    exact (circs_nodup (n := n) (W := W) k []).imp fun {a b} hab e => hab (revL_inj e)
  have h2 := sub_len h1 (B := circs n (turnW n W) k []) fun x hx => by
    obtain ⟨c, hc, rfl⟩ := List.mem_map.1 hx
    obtain ⟨h3, h4⟩ := mem_circs.1 hc
    exact mem_circs.2 ⟨revL_circ h3, by rw [revL_len]; exact h4⟩
  rwa [List.length_map] at h2
/-- Wants turned round have as many circles. -/
theorem turn_many (hW : IsWants n W) (k : Nat) : (circs n (turnW n W) k []).length = (circs n W k []).length := by
  have h1 := turn_le (n := n) (W := W) k
  have h2 := turn_le (n := n) (W := turnW n W) k
  have h3 : (circs n (turnW n (turnW n W)) k []).length ≤ (circs n W k []).length := sub_len (circs_nodup k []) fun x hx => by
    obtain ⟨h3, h4⟩ := mem_circs.1 hx
    exact mem_circs.2 ⟨(circ_twice hW).1 h3, h4⟩
  omega
end

/-- In the midst of turning: i people are done, and k things of the next one. -/
def turnP (n : Nat) (W : Nat → Int) (i k y : Nat) : Int := (turnM W y (if y < k then i + 1 else i) : Nat)
theorem turnP_zero (n : Nat) (W : Nat → Int) (y : Nat) : turnP n W 0 0 y = 0 := by unfold turnP; rw [if_neg (Nat.not_lt_zero _)]; rfl
theorem turnP_row {n i y : Nat} {W : Nat → Int} (hy : y < n) : turnP n W i n y = turnP n W (i + 1) 0 y := by unfold turnP; rw [if_pos hy, if_neg (Nat.not_lt_zero _)]
theorem turnP_all {n y : Nat} {W : Nat → Int} (hy : y < n) : turnP n W n 0 y = turnW n W y := by unfold turnP turnW; rw [if_neg (Nat.not_lt_zero _)]
theorem turnP_other {n i k y : Nat} {W : Nat → Int} (h : y ≠ k) : turnP n W i (k + 1) y = turnP n W i k y := by
  unfold turnP
  by_cases e : y < k
  · rw [if_pos e, if_pos (by omega)]
  · rw [if_neg e, if_neg (by omega)]
theorem turnP_or {n i k : Nat} {W : Nat → Int} (hW : IsWants n W) (hi : i < n) (hk : k < n) : ∃ z : Nat, turnP n W i k k = z ∧ z < 64 ∧ z < 2 ^ i ∧
    ((WantsB W i k = true → ((z ||| 2 ^ i : Nat) : Int) = turnP n W i (k + 1) k ∧ bits .or .i64 (z : Int) (wrap64 (2 ^ i)) = ((z ||| 2 ^ i : Nat) : Int)) ∧ (WantsB W i k = false → turnP n W i k k = turnP n W i (k + 1) k)) := by
  have h2 := turnM_lt W k i
  have hp : 2 ^ i ≤ 2 ^ 6 := Nat.pow_le_pow_right (by omega) (by have := hW.1.2; omega)
  have e1 : turnP n W i k k = (turnM W k i : Nat) := by unfold turnP; rw [if_neg (by omega)]
  have e2 : turnP n W i (k + 1) k = (turnM W k (i + 1) : Nat) := by unfold turnP; rw [if_pos (by omega)]
  refine ⟨turnM W k i, e1, by omega, h2, fun hb => ⟨?_, ?_⟩, fun hb => ?_⟩
  · rw [e2]; show _ = ((if WantsB W i k = true then turnM W k i ||| 2 ^ i else turnM W k i : Nat) : Int); rw [if_pos hb]
  · exact bit_put _ _ (by omega) (by have := hW.1.2; omega)
  · rw [e1, e2]; show _ = ((if WantsB W i k = true then turnM W k i ||| 2 ^ i else turnM W k i : Nat) : Int); rw [if_neg (by rw [hb]; simp)]
/-- How many numbers WantTurn answers. -/
noncomputable def wantN (n : Nat) (W : Nat → Int) : Nat := if tt (IsWants n W) = true then n else 0
theorem wantN_yes {n : Nat} {W : Nat → Int} (h : IsWants n W) : wantN n W = n := by unfold wantN; rw [tt_of h]; rfl
theorem wantN_no {n : Nat} {W : Nat → Int} (h : ¬ IsWants n W) : wantN n W = 0 := by unfold wantN; rw [tt_no h]; rfl
theorem wantN_le (n : Nat) (W : Nat → Int) : wantN n W ≤ 1048576 := by
  by_cases h : IsWants n W
  · rw [wantN_yes h]; have := h.1.2; omega
  · rw [wantN_no h]; omega
end Go.Proofs.Ytamglhpgdaoaoaa
