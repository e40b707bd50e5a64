/- Circles that are apart, and what each one takes by them, in plain mathematics. -/
import Derived.Test.YtnaegnjgpnakfaaDoorMem
import Derived.Test.YtnaegnjgpnakfaaDoorCircsModel
namespace Go.Proofs.YtnaegnjgpnakfaaDoor
set_option linter.unusedVariables false
set_option linter.unusedSimpArgs false
open Go.RowKit

/-- Among m + 1 numbers out of m two are the same. -/
theorem twice_of (m : Nat) : ∀ (l : List Nat) (x : Nat → Nat), l.length ≤ m → (∀ i, i ≤ m → x i ∈ l) → ∃ a b, a < b ∧ b ≤ m ∧ x a = x b := by
  induction m with
  | zero =>
    intro l x hl h
    have := h 0 (Nat.le_refl _)
    cases l with
    | nil => simp at this
    | cons => simp at hl
  | succ m ih =>
    intro l x hl h
    by_cases e : ∃ a, a < m + 1 ∧ x a = x (m + 1)
    · obtain ⟨a, h1, h2⟩ := e
      exact ⟨a, m + 1, h1, Nat.le_refl _, h2⟩
    · have hm := h (m + 1) (Nat.le_refl _)
      obtain ⟨a, b, h1, h2, h3⟩ := ih (l.erase (x (m + 1))) x (by rw [List.length_erase_of_mem hm]; omega) (fun i hi => (List.mem_erase_of_ne (fun e' => e ⟨i, by omega, e'⟩)).2 (h i (by omega)))
      exact ⟨a, b, h1, by omega, h3⟩

/-- f done k times. -/
def itW (f : Nat → Nat) : Nat → Nat → Nat
  | 0, i => i
  | k + 1, i => f (itW f k i)
/-- The first place of a set. -/
theorem least_place {P : Nat → Prop} {n k : Nat} (hk : k < n) (h : P k) : ∃ j, j ≤ k ∧ P j ∧ ∀ i, i < j → ¬ P i := by
  induction k using Nat.strongRecOn with
  | _ k ih =>
    by_cases e : ∃ i, i < k ∧ P i
    · obtain ⟨i, h1, h2⟩ := e
      obtain ⟨j, h3, h4, h5⟩ := ih i h1 (by omega) h2
      exact ⟨j, by omega, h4, h5⟩
    · exact ⟨k, Nat.le_refl _, h, fun i hi hp => e ⟨i, hi, hp⟩⟩
def maskW (S : Nat → Bool) : Nat → Nat
  | 0 => 0
  | k + 1 => if S k = true then maskW S k ||| 2 ^ k else maskW S k
theorem maskW_bit (S : Nat → Bool) (k y : Nat) : (maskW S k).testBit y = (decide (y < k) && S y) := by
  induction k with
  | zero => simp [maskW]
  | succ k ih =>
    unfold maskW
    by_cases h : S k = true
    · rw [if_pos h, Nat.testBit_or, ih, Nat.testBit_two_pow]
      by_cases e : y = k
      · subst e; simp [h]
      · have e1 : decide (k = y) = false := by simpa using fun h => e h.symm
        have e2 : decide (y < k) = decide (y < k + 1) := by rw [decide_eq_decide]; omega
        rw [e1, e2, Bool.or_false]
    · rw [if_neg h, ih]
      by_cases e : y = k
      · subst e; simp [h]
      · have e2 : decide (y < k) = decide (y < k + 1) := by rw [decide_eq_decide]; omega
        rw [e2]
end Go.Proofs.YtnaegnjgpnakfaaDoor
namespace Go.Proofs.YtnaegnjgpnakfaaDoor
set_option linter.unusedVariables false
set_option linter.unusedSimpArgs false
open Go.RowKit

/-- What each one takes, the first k of a circle taking the thing of the next one. -/
def nextF (T C : Nat → Int) (m : Nat) : Nat → Nat → Int
  | 0, i => T i
  | k + 1, i => if (i : Int) = C k then C ((k + 1) % m) else nextF T C m k i
def nextL (T c : List Int) : List Int := (List.range T.length).map (nextF (nth T) (nth c) c.length c.length)
/-- The people of a circle. -/
def setL (c : List Int) : Nat := setN (nth c) c.length
/-- What comes by one circle more at least, out of these. -/
def takesR : List (List Int) → List Int → Nat → List (List Int)
  | [], _, _ => []
  | c :: cs, T, U => (if U &&& setL c = 0 then nextL T c :: takesR cs (nextL T c) (U ||| setL c) else []) ++ takesR cs T U
/-- All of it. -/
def takesL (cs : List (List Int)) (T : List Int) (U : Nat) : List (List Int) := T :: takesR cs T U
theorem takesR_yes {c T : List Int} {cs : List (List Int)} {U : Nat} (h : U &&& setL c = 0) : takesR (c :: cs) T U = takesL cs (nextL T c) (U ||| setL c) ++ takesR cs T U := by
  show (if U &&& setL c = 0 then _ else _) ++ _ = _
  rw [if_pos h]; rfl
theorem takesR_no {c T : List Int} {cs : List (List Int)} {U : Nat} (h : ¬ U &&& setL c = 0) : takesR (c :: cs) T U = takesR cs T U := by
  show (if U &&& setL c = 0 then _ else _) ++ _ = _
  rw [if_neg h]; rfl

theorem sub_len {α : Type} [DecidableEq α] : ∀ {A B : List α}, A.Nodup → (∀ x, x ∈ A → x ∈ B) → A.length ≤ B.length
  | [], _, _, _ => Nat.zero_le _
  | a :: A, B, h, hs => by
    rw [List.nodup_cons] at h
    have ha := hs a (by simp)
    have h1 : A.length ≤ (B.erase a).length := sub_len h.2 (fun x hx => (List.mem_erase_of_ne (fun e => h.1 (by rw [← e]; exact hx))).2 (hs x (by simp [hx])))
    rw [List.length_erase_of_mem ha] at h1
    have h2 := List.length_pos_of_mem ha
    simp only [List.length_cons]
    omega
/-- How many people are on no circle yet. -/
def freeN (n U : Nat) : Nat := ((List.range n).filter fun y => !U.testBit y).length
theorem free_le (n U : Nat) : freeN n U ≤ n := by
  unfold freeN
  exact Nat.le_trans (List.length_filter_le _ _) (by simp)
theorem free_two {n U S a b : Nat} (h : U &&& S = 0) (ha : a < n) (hb : b < n) (hab : a ≠ b) (hSa : S.testBit a = true) (hSb : S.testBit b = true) : freeN n (U ||| S) + 2 ≤ freeN n U := by
  have hU : ∀ y, S.testBit y = true → U.testBit y = false := fun y hy => by
    have h1 : (U &&& S).testBit y = false := by rw [h]; exact Nat.zero_testBit y
    rw [Nat.testBit_and, hy, Bool.and_true] at h1
    exact h1
  have hn : (a :: b :: (List.range n).filter fun y => !(U ||| S).testBit y).Nodup := by
    refine List.nodup_cons.2 ⟨fun hm => ?_, List.nodup_cons.2 ⟨fun hm => ?_, (List.nodup_range).filter _⟩⟩
    · rcases List.mem_cons.1 hm with e | hm
      · exact hab e
      · have := (List.mem_filter.1 hm).2
        simp [hSa] at this
    · have := (List.mem_filter.1 hm).2
      simp [hSb] at this
  have := sub_len (B := (List.range n).filter fun y => !U.testBit y) hn (fun x hx => by
    rcases List.mem_cons.1 hx with e | hx
    · subst e; exact List.mem_filter.2 ⟨List.mem_range.2 ha, by rw [hU _ hSa]; rfl⟩
    · rcases List.mem_cons.1 hx with e | hx
      · subst e; exact List.mem_filter.2 ⟨List.mem_range.2 hb, by rw [hU _ hSb]; rfl⟩
      · obtain ⟨h1, h2⟩ := List.mem_filter.1 hx
        refine List.mem_filter.2 ⟨h1, ?_⟩
        rw [Nat.testBit_or] at h2
        cases e : U.testBit x with
        | false => rfl
        | true => rw [e] at h2; simp at h2)
  simp only [List.length_cons] at this
  unfold freeN
  omega
/-- Two people at least are on it. -/
def TwoOn (n : Nat) (c : List Int) : Prop := ∃ a b : Nat, a < n ∧ b < n ∧ a ≠ b ∧ (setL c).testBit a = true ∧ (setL c).testBit b = true
theorem two_circ {n : Nat} {W : Nat → Int} {c : List Int} (h : IsCirc n W c.length (nth c)) : TwoOn n c := by
  have h2 := h.2.2.2
  have r0 := h.1.1 0 (by omega)
  have r1 := h.1.1 1 (by omega)
  have hne := h.1.2 0 1 (by omega) (by omega)
  have hb : ∀ i, i < c.length → (setL c).testBit (nth c i).toNat = true := fun i hi => by
    have hr := h.1.1 i hi
    exact (setN_bit (fun j hj => (h.1.1 j hj).1)).2 ⟨i, hi, by omega⟩
  exact ⟨(nth c 0).toNat, (nth c 1).toNat, by omega, by omega, by omega, hb 0 (by omega), hb 1 (by omega)⟩
theorem takes_few {n : Nat} : ∀ (cs : List (List Int)) (T : List Int) (U : Nat), (∀ c, c ∈ cs → TwoOn n c) → (takesL cs T U).length ≤ (1 + cs.length) ^ (freeN n U / 2)
  | [], T, U, _ => by
    show 1 ≤ (1 + 0) ^ _
    simp
  | c :: cs, T, U, h => by
    have ih := takes_few cs T U fun d hd => h d (by simp [hd])
    have hl : (takesL cs T U).length = 1 + (takesR cs T U).length := by show (T :: takesR cs T U).length = _; rw [List.length_cons]; omega
    rw [List.length_cons]
    by_cases e : U &&& setL c = 0
    · obtain ⟨a, b, ha, hb, hab, hSa, hSb⟩ := h c (by simp)
      have hf := free_two e ha hb hab hSa hSb
      have ih2 := takes_few cs (nextL T c) (U ||| setL c) fun d hd => h d (by simp [hd])
      have h1 : (takesL (c :: cs) T U).length = (takesL cs (nextL T c) (U ||| setL c)).length + (takesL cs T U).length := by
        show (T :: takesR (c :: cs) T U).length = _
        rw [takesR_yes e, List.length_cons, List.length_append, hl]
        omega
      obtain ⟨r, hr⟩ : ∃ r, freeN n U / 2 = r + 1 := ⟨freeN n U / 2 - 1, by omega⟩
      have h2 : (1 + cs.length) ^ (freeN n (U ||| setL c) / 2) ≤ (1 + cs.length) ^ r := Nat.pow_le_pow_right (by omega) (by omega)
      have h3 : (1 + cs.length) ^ r ≤ (1 + (cs.length + 1)) ^ r := Nat.pow_le_pow_left (by omega) r
      have h4 : (1 + cs.length) * (1 + cs.length) ^ r ≤ (1 + cs.length) * (1 + (cs.length + 1)) ^ r := Nat.mul_le_mul_left _ h3
      rw [hr] at ih ⊢
      rw [Nat.pow_succ, Nat.mul_comm] at ih ⊢
      have h5 : (1 + (cs.length + 1)) * (1 + (cs.length + 1)) ^ r = (1 + cs.length) * (1 + (cs.length + 1)) ^ r + (1 + (cs.length + 1)) ^ r := by
        rw [show 1 + (cs.length + 1) = (1 + cs.length) + 1 by omega, Nat.add_mul ((1 + cs.length)) 1, Nat.one_mul]
      omega
    · have h1 : (takesL (c :: cs) T U).length = (takesL cs T U).length := by
        show (T :: takesR (c :: cs) T U).length = _
        rw [takesR_no e, List.length_cons, hl]
        omega
      have h3 : (1 + cs.length) ^ (freeN n U / 2) ≤ (1 + (cs.length + 1)) ^ (freeN n U / 2) := Nat.pow_le_pow_left (by omega) _
      omega
/-- Not too many. -/
theorem takes_small {n : Nat} {W : Nat → Int} (hn : n ≤ 6) (k : Nat) (T : List Int) (U : Nat) {cs : List (List Int)} (hs : cs.length ≤ 1957) (h : ∀ c, c ∈ cs → IsCirc n W c.length (nth c)) : (takesL cs T U).length ≤ 7506509912 := by
  have h1 := takes_few (n := n) cs T U fun c hc => two_circ (h c hc)
  have h2 := free_le n U
  have h3 : (1 + cs.length) ^ (freeN n U / 2) ≤ (1 + cs.length) ^ 3 := Nat.pow_le_pow_right (by omega) (by omega)
  have h4 : (1 + cs.length) ^ 3 ≤ 1958 ^ 3 := Nat.pow_le_pow_left (by omega) 3
  have h5 : (1958 : Nat) ^ 3 = 7506509912 := by decide
  omega
end Go.Proofs.YtnaegnjgpnakfaaDoor
namespace Go.Proofs.YtnaegnjgpnakfaaDoor
set_option linter.unusedVariables false
set_option linter.unusedSimpArgs false
open Go.RowKit

section
variable {n : Nat} {W : Nat → Int}
theorem setL_bit {c : List Int} (h : IsCirc n W c.length (nth c)) {y : Nat} : (setL c).testBit y = true ↔ ∃ j, j < c.length ∧ nth c j = y :=
  setN_bit fun j hj => (h.1.1 j hj).1
theorem setL_ppl {c : List Int} (h : IsCirc n W c.length (nth c)) {y : Nat} (hy : (setL c).testBit y = true) : y < n := by
  obtain ⟨j, hj, e⟩ := (setL_bit h).1 hy
  have := h.1.1 j hj
  omega
theorem and_zero {U S : Nat} : U &&& S = 0 ↔ ∀ y, U.testBit y = true → S.testBit y = false := by
  constructor
  · intro h y hy
    have h1 : (U &&& S).testBit y = false := by rw [h]; exact Nat.zero_testBit y
    rwa [Nat.testBit_and, hy, Bool.true_and] at h1
  · intro h
    apply Nat.eq_of_testBit_eq
    intro y
    rw [Nat.testBit_and, Nat.zero_testBit]
    cases e : U.testBit y with
    | false => rfl
    | true => rw [h y e]; rfl

theorem nextF_off {T C : Nat → Int} {m i : Nat} : ∀ {k : Nat}, (∀ j, j < k → C j ≠ i) → nextF T C m k i = T i
  | 0, _ => rfl
  | k + 1, h => by
    show (if (i : Int) = C k then C ((k + 1) % m) else nextF T C m k i) = T i
    rw [if_neg (fun e => h k (by omega) e.symm)]
    exact nextF_off fun j hj => h j (by omega)
theorem nextF_on {T C : Nat → Int} {m i : Nat} : ∀ {k j : Nat}, j < k → C j = i → (∀ a b, a < b → b < k → C a ≠ C b) → nextF T C m k i = C ((j + 1) % m)
  | 0, _, h, _, _ => absurd h (Nat.not_lt_zero _)
  | k + 1, j, h, e, hd => by
    show (if (i : Int) = C k then C ((k + 1) % m) else nextF T C m k i) = _
    by_cases ek : j = k
    · subst ek; rw [if_pos e.symm]
    · rw [if_neg (fun e2 => hd j k (by omega) (by omega) (by rw [e, e2]))]
      exact nextF_on (by omega) e fun a b h1 h2 => hd a b h1 (by omega)
theorem nth_map {f : Nat → Int} {m i : Nat} (h : i < m) : nth ((List.range m).map f) i = f i := by
  unfold nth
  rw [List.getD_eq_getElem?_getD, List.getElem?_map, List.getElem?_range h]
  rfl
theorem nextL_len (T c : List Int) : (nextL T c).length = T.length := by unfold nextL; simp
theorem nextL_nth {T c : List Int} {i : Nat} (h : i < T.length) : nth (nextL T c) i = nextF (nth T) (nth c) c.length c.length i := nth_map h

/-- T is what each one takes by circles whose people are U. -/
def Taken (n : Nat) (W : Nat → Int) (T : List Int) (U : Nat) : Prop :=
  T.length = n ∧ (∀ y, U.testBit y = true → y < n) ∧ (∀ i, i < n → U.testBit i = false → nth T i = i) ∧
  (∀ i, U.testBit i = true → ∃ j : Nat, nth T i = j ∧ U.testBit j = true ∧ j ≠ i ∧ WantsB W i j = true) ∧
  (∀ i j, i < n → j < n → nth T i = nth T j → i = j)
theorem taken_own (n : Nat) (W : Nat → Int) : Taken n W ((List.range n).map fun j => ((j : Nat) : Int)) 0 := by
  refine ⟨by simp, fun y hy => by simp at hy, fun i hi _ => nth_map hi, fun i hi => by simp at hi, fun i j hi hj e => ?_⟩
  rw [nth_map hi, nth_map hj] at e
  omega
theorem IsCirc.in_nat {m : Nat} {C : Nat → Int} (h : IsCirc n W m C) {j : Nat} (hj : j < m) : ∃ y : Nat, C j = y ∧ y < n := by
  have := h.1.1 j hj
  obtain ⟨y, hy⟩ := Int.eq_ofNat_of_zero_le this.1
  exact ⟨y, hy, by omega⟩
theorem IsCirc.step {m : Nat} {C : Nat → Int} (h : IsCirc n W m C) (hW : ∀ i k, WantsB W i k = true → i < n → k ≠ i) {j : Nat} (hj : j < m) : C ((j + 1) % m) ≠ C j := by
  obtain ⟨y, hy, hyn⟩ := h.in_nat hj
  have h1 := h.2.2.1 j hj
  rw [hy, Int.toNat_natCast] at h1
  have h2 := hW _ _ h1 hyn
  have hm := h.2.2.2
  obtain ⟨z, hz, hzn⟩ := h.in_nat (Nat.mod_lt (j + 1) (show m > 0 by omega))
  rw [hz, Int.toNat_natCast] at h2
  omega
theorem mod_inj {m a b : Nat} (ha : a < m) (hb : b < m) (e : (a + 1) % m = (b + 1) % m) : a = b := by
  by_cases h1 : a + 1 = m
  · rw [h1, Nat.mod_self] at e
    by_cases h2 : b + 1 = m
    · omega
    · rw [Nat.mod_eq_of_lt (by omega)] at e; omega
  · rw [Nat.mod_eq_of_lt (show a + 1 < m by omega)] at e
    by_cases h2 : b + 1 = m
    · rw [h2, Nat.mod_self] at e; omega
    · rw [Nat.mod_eq_of_lt (by omega)] at e; omega
theorem taken_next (hW : IsWants n W) {T c : List Int} {U : Nat} (h : Taken n W T U) (hc : IsCirc n W c.length (nth c)) (hd : U &&& setL c = 0) : Taken n W (nextL T c) (U ||| setL c) := by
  obtain ⟨h1, h2, h3, h4, h5⟩ := h
  have hne : ∀ i k, WantsB W i k = true → i < n → k ≠ i := fun i k hb hi => (hW.bit hi hb).2
  have off : ∀ i, i < n → (setL c).testBit i = false → nth (nextL T c) i = nth T i := fun i hi hb => by
    rw [nextL_nth (by omega)]
    exact nextF_off fun j hj e => by
      have := (setL_bit hc).2 ⟨j, hj, e⟩
      rw [hb] at this; cases this
  have on : ∀ i j, j < c.length → nth c j = (i : Nat) → nth (nextL T c) i = nth c ((j + 1) % c.length) := fun i j hj e => by
    have hi := hc.1.1 j hj
    rw [nextL_nth (by omega)]
    exact nextF_on hj e hc.1.2
  have hm := hc.2.2.2
  have hval : ∀ i, (setL c).testBit i = true → ∃ (y j : Nat), nth (nextL T c) i = y ∧ (setL c).testBit y = true ∧ y ≠ i ∧ WantsB W i y = true ∧ j < c.length ∧ nth c j = i ∧ nth c ((j + 1) % c.length) = y := fun i hi => by
    obtain ⟨j, hj, e⟩ := (setL_bit hc).1 hi
    have hj1 : (j + 1) % c.length < c.length := Nat.mod_lt _ (by omega)
    obtain ⟨y, hy, hyn⟩ := hc.in_nat hj1
    have hs := hc.step hne hj
    have hw := hc.2.2.1 j hj
    rw [hy, e, Int.toNat_natCast, Int.toNat_natCast] at hw
    rw [hy, e] at hs
    exact ⟨y, j, by rw [on i j hj e, hy], (setL_bit hc).2 ⟨_, hj1, hy⟩, by omega, hw, hj, e, hy⟩
  have hUS : ∀ y, U.testBit y = true → (setL c).testBit y = false := and_zero.1 hd
  refine ⟨by rw [nextL_len, h1], fun y hy => ?_, fun i hi hb => ?_, fun i hb => ?_, fun i j hi hj e => ?_⟩
  · rw [Nat.testBit_or, Bool.or_eq_true] at hy
    rcases hy with hy | hy
    · exact h2 y hy
    · exact setL_ppl hc hy
  · rw [Nat.testBit_or, Bool.or_eq_false_iff] at hb
    rw [off i hi hb.2, h3 i hi hb.1]
  · rw [Nat.testBit_or, Bool.or_eq_true] at hb
    rcases hb with hb | hb
    · obtain ⟨j, e1, e2, e3, e4⟩ := h4 i hb
      exact ⟨j, by rw [off i (h2 i hb) (hUS i hb), e1], by rw [Nat.testBit_or, e2]; rfl, e3, e4⟩
    · obtain ⟨y, j, e1, e2, e3, e4, _⟩ := hval i hb
      exact ⟨y, e1, by rw [Nat.testBit_or, e2, Bool.or_true], e3, e4⟩
  · have hout : ∀ i, i < n → (setL c).testBit i = false → ∀ y : Nat, nth T i = y → (setL c).testBit y = false := fun i hi hb y hy => by
      cases eU : U.testBit i with
      | false => rw [h3 i hi eU] at hy; have : i = y := by omega
                 subst this; exact hb
      | true =>
        obtain ⟨j, e1, e2, _⟩ := h4 i eU
        have : j = y := by omega
        subst this; exact hUS _ e2
    cases ei : (setL c).testBit i with
    | false =>
      cases ej : (setL c).testBit j with
      | false => rw [off i hi ei, off j hj ej] at e; exact h5 i j hi hj e
      | true =>
        obtain ⟨y, k, e1, e2, _⟩ := hval j ej
        rw [off i hi ei, e1] at e
        have := hout i hi ei y e
        rw [e2] at this; cases this
    | true =>
      obtain ⟨y, k, e1, e2, _, _, hk, hck, hcy⟩ := hval i ei
      cases ej : (setL c).testBit j with
      | false =>
        rw [off j hj ej, e1] at e
        have := hout j hj ej y e.symm
        rw [e2] at this; cases this
      | true =>
        obtain ⟨y', k', e1', e2', _, _, hk', hck', hcy'⟩ := hval j ej
        rw [e1, e1'] at e
        have h6 : nth c ((k + 1) % c.length) = nth c ((k' + 1) % c.length) := by rw [hcy, hcy']; omega
        have h7 : (k + 1) % c.length = (k' + 1) % c.length := by
          have a1 : (k + 1) % c.length < c.length := Nat.mod_lt _ (by omega)
          have a2 : (k' + 1) % c.length < c.length := Nat.mod_lt _ (by omega)
          rcases Nat.lt_trichotomy ((k + 1) % c.length) ((k' + 1) % c.length) with h | h | h
          · exact absurd h6 (hc.1.2 _ _ h a2)
          · exact h
          · exact absurd h6.symm (hc.1.2 _ _ h a1)
        have h8 := mod_inj hk hk' h7
        subst h8
        omega

/-- These circles are apart from each other and from U. -/
def Packs : List (List Int) → Nat → Prop
  | [], _ => True
  | c :: P, U => U &&& setL c = 0 ∧ Packs P (U ||| setL c)
/-- All people of U and of these circles. -/
def unionL : List (List Int) → Nat → Nat
  | [], U => U
  | c :: P, U => unionL P (U ||| setL c)
/-- What each one takes by all of them. -/
def nextAll : List (List Int) → List Int → List Int
  | [], T => T
  | c :: P, T => nextAll P (nextL T c)
theorem mem_takes : ∀ {cs : List (List Int)} {T : List Int} {U : Nat} {X : List Int}, X ∈ takesL cs T U ↔ ∃ P, List.Sublist P cs ∧ Packs P U ∧ X = nextAll P T
  | [], T, U, X => by
    show X ∈ [T] ↔ _
    rw [List.mem_singleton]
    constructor
    · intro e; exact ⟨[], List.Sublist.refl _, trivial, e⟩
    · rintro ⟨P, h1, _, h3⟩
      rw [List.sublist_nil] at h1
      subst h1; exact h3
  | c :: cs, T, U, X => by
    have key : X ∈ takesL (c :: cs) T U ↔ X ∈ takesL cs T U ∨ (U &&& setL c = 0 ∧ X ∈ takesL cs (nextL T c) (U ||| setL c)) := by
      by_cases e : U &&& setL c = 0
      · show X ∈ T :: takesR (c :: cs) T U ↔ _
        rw [takesR_yes e, List.mem_cons, List.mem_append]
        show _ ↔ X ∈ T :: takesR cs T U ∨ _
        rw [List.mem_cons]
        constructor
        · rintro (h | h | h)
          · exact .inl (.inl h)
          · exact .inr ⟨e, h⟩
          · exact .inl (.inr h)
        · rintro ((h | h) | ⟨_, h⟩)
          · exact .inl h
          · exact .inr (.inr h)
          · exact .inr (.inl h)
      · show X ∈ T :: takesR (c :: cs) T U ↔ _
        rw [takesR_no e]
        exact ⟨.inl, fun h => h.elim id fun h => absurd h.1 e⟩
    rw [key, mem_takes, mem_takes]
    constructor
    · rintro (⟨P, h1, h2, h3⟩ | ⟨e, P, h1, h2, h3⟩)
      · exact ⟨P, h1.cons _, h2, h3⟩
      · exact ⟨c :: P, h1.cons_cons _, ⟨e, h2⟩, h3⟩
    · rintro ⟨P, h1, h2, h3⟩
      cases h1 with
      | cons _ h1 => exact .inl ⟨P, h1, h2, h3⟩
      | cons_cons _ h1 => exact .inr ⟨h2.1, _, h1, h2.2, h3⟩
theorem taken_all (hW : IsWants n W) : ∀ {P : List (List Int)} {T : List Int} {U : Nat}, Taken n W T U → Packs P U → (∀ c, c ∈ P → IsCirc n W c.length (nth c)) → Taken n W (nextAll P T) (unionL P U)
  | [], _, _, h, _, _ => h
  | c :: P, T, U, h, hp, hc => taken_all (P := P) (T := nextL T c) (U := U ||| setL c) hW (taken_next hW h (hc c (by simp)) hp.1) hp.2 fun d hd => hc d (by simp [hd])
theorem union_bit : ∀ {P : List (List Int)} {U y : Nat}, (unionL P U).testBit y = true ↔ U.testBit y = true ∨ ∃ c, c ∈ P ∧ (setL c).testBit y = true
  | [], U, y => by simp [unionL]
  | c :: P, U, y => by
    show (unionL P (U ||| setL c)).testBit y = true ↔ _
    rw [union_bit, Nat.testBit_or, Bool.or_eq_true]
    constructor
    · rintro ((h | h) | ⟨d, hd, h⟩)
      · exact .inl h
      · exact .inr ⟨c, by simp, h⟩
      · exact .inr ⟨d, by simp [hd], h⟩
    · rintro (h | ⟨d, hd, h⟩)
      · exact .inl (.inl h)
      · rcases List.mem_cons.1 hd with rfl | hd
        · exact .inl (.inr h)
        · exact .inr ⟨d, hd, h⟩
/-- Apart, each two of them. -/
def Apart2 (a b : List Int) : Prop := setL a &&& setL b = 0
theorem packs_iff : ∀ {P : List (List Int)} {U : Nat}, Packs P U ↔ (∀ c, c ∈ P → U &&& setL c = 0) ∧ P.Pairwise Apart2
  | [], U => by simp [Packs]
  | c :: P, U => by
    show (U &&& setL c = 0 ∧ Packs P (U ||| setL c)) ↔ _
    rw [packs_iff, List.pairwise_cons]
    have hor : ∀ d, (U ||| setL c) &&& setL d = 0 ↔ U &&& setL d = 0 ∧ setL c &&& setL d = 0 := fun d => by
      rw [and_zero, and_zero, and_zero]
      constructor
      · intro h
        exact ⟨fun y hy => h y (by rw [Nat.testBit_or, hy]; rfl), fun y hy => h y (by rw [Nat.testBit_or, hy, Bool.or_true])⟩
      · rintro ⟨h1, h2⟩ y hy
        rw [Nat.testBit_or, Bool.or_eq_true] at hy
        exact hy.elim (h1 y) (h2 y)
    constructor
    · rintro ⟨h1, h2, h3⟩
      refine ⟨fun d hd => ?_, fun d hd => ((hor d).1 (h2 d hd)).2, h3⟩
      rcases List.mem_cons.1 hd with rfl | hd
      · exact h1
      · exact ((hor d).1 (h2 d hd)).1
    · rintro ⟨h1, h2, h3⟩
      exact ⟨h1 c (by simp), fun d hd => (hor d).2 ⟨h1 d (by simp [hd]), h2 d hd⟩, h3⟩
theorem packs_zero {P : List (List Int)} : Packs P 0 ↔ P.Pairwise Apart2 := by
  rw [packs_iff]
  exact ⟨fun h => h.2, fun h => ⟨fun c _ => Nat.zero_and _, h⟩⟩
theorem apart_two : ∀ {P : List (List Int)}, P.Pairwise Apart2 → ∀ a b, a ∈ P → b ∈ P → a ≠ b → Apart2 a b
  | [], _, a, _, ha, _, _ => (List.not_mem_nil ha).elim
  | c :: P, h, a, b, ha, hb, hne => by
    rw [List.pairwise_cons] at h
    rcases List.mem_cons.1 ha with e1 | ha1
    · rcases List.mem_cons.1 hb with e2 | hb1
      · exact absurd (e1.trans e2.symm) hne
      · rw [e1]; exact h.1 b hb1
    · rcases List.mem_cons.1 hb with e2 | hb1
      · have := h.1 a ha1
        rw [e2]
        unfold Apart2 at this ⊢
        rwa [Nat.and_comm]
      · exact apart_two h.2 a b ha1 hb1 hne
/-- How many of the first k are in U. -/
def popN (U : Nat) : Nat → Nat
  | 0 => 0
  | k + 1 => popN U k + if U.testBit k = true then 1 else 0
theorem pop_congr {U V : Nat} : ∀ (k : Nat), (∀ y, y < k → (U.testBit y = true ↔ V.testBit y = true)) → popN U k = popN V k
  | 0, _ => rfl
  | k + 1, h => by
    show popN U k + _ = popN V k + _
    rw [pop_congr k fun y hy => h y (by omega)]
    by_cases e : U.testBit k = true
    · rw [if_pos e, if_pos ((h k (by omega)).1 e)]
    · rw [if_neg e, if_neg fun e' => e ((h k (by omega)).2 e')]
theorem moved_pop {T : Nat → Int} {U : Nat} : ∀ (k : Nat), (∀ y, y < k → (U.testBit y = true ↔ T y ≠ y)) → movedN T k = popN U k
  | 0, _ => rfl
  | k + 1, h => by
    show movedN T k + _ = popN U k + _
    rw [moved_pop k fun y hy => h y (by omega)]
    by_cases e : U.testBit k = true
    · rw [if_pos e, if_neg ((h k (by omega)).1 e)]
    · by_cases e2 : T k = k
      · rw [if_neg e, if_pos e2]
      · exact absurd ((h k (by omega)).2 e2) e
theorem pop_le {U V : Nat} : ∀ (k : Nat), (∀ y, y < k → U.testBit y = true → V.testBit y = true) → popN U k ≤ popN V k
  | 0, _ => Nat.le_refl _
  | k + 1, h => by
    have ih := pop_le k fun y hy => h y (by omega)
    show popN U k + (if U.testBit k = true then 1 else 0) ≤ popN V k + (if V.testBit k = true then 1 else 0)
    by_cases e : U.testBit k = true
    · rw [if_pos e, if_pos (h k (by omega) e)]; omega
    · rw [if_neg e]; omega
theorem pop_bound (U : Nat) : ∀ k, popN U k ≤ k
  | 0 => Nat.le_refl _
  | k + 1 => by
    have := pop_bound U k
    show popN U k + (if U.testBit k = true then 1 else 0) ≤ k + 1
    split <;> omega
theorem pop_full {U : Nat} : ∀ k, popN U k = k → ∀ y, y < k → U.testBit y = true
  | 0, _, y, hy => absurd hy (Nat.not_lt_zero _)
  | k + 1, h, y, hy => by
    have h1 := pop_bound U k
    have h2 : popN U k + (if U.testBit k = true then 1 else 0) = k + 1 := h
    by_cases e : U.testBit k = true
    · rw [if_pos e] at h2
      by_cases ey : y = k
      · subst ey; exact e
      · exact pop_full k (by omega) y (by omega)
    · rw [if_neg e] at h2; omega
theorem pop_pos {U : Nat} : ∀ {k y : Nat}, y < k → U.testBit y = true → 0 < popN U k
  | 0, _, h, _ => absurd h (Nat.not_lt_zero _)
  | k + 1, y, h, hb => by
    show 0 < popN U k + (if U.testBit k = true then 1 else 0)
    by_cases ey : y = k
    · subst ey; rw [if_pos hb]; omega
    · have := pop_pos (k := k) (by omega) hb; omega
theorem Taken.moved {T : List Int} {U : Nat} (h : Taken n W T U) : movedN (nth T) n = popN U n :=
  moved_pop n fun y hy => by
    constructor
    · intro hb e
      obtain ⟨j, e1, _, e3, _⟩ := h.2.2.2.1 y hb
      omega
    · intro hne
      cases e : U.testBit y with
      | true => rfl
      | false => exact absurd (h.2.2.1 y hy e) hne

/-- The numbers themselves. -/
def ownF (n : Nat) : List Int := (List.range n).map fun j => ((j : Nat) : Int)
/-- Circles of at most k that are apart are joined. -/
theorem packed (hW : IsWants n W) {k : Nat} {P : List (List Int)} (hP : ∀ c, c ∈ P → IsCirc n W c.length (nth c) ∧ c.length ≤ k) (ha : P.Pairwise Apart2) : ∃ T U, T ∈ takesL (circs n W k []) (ownF n) 0 ∧ Taken n W T U ∧ (∀ y, U.testBit y = true ↔ ∃ c, c ∈ P ∧ (setL c).testBit y = true) := by
  classical
  obtain ⟨Q, hQ⟩ : ∃ Q, Q = (circs n W k []).filter fun c => decide (c ∈ P) := ⟨_, rfl⟩
  have hmem : ∀ c, c ∈ Q ↔ c ∈ P := fun c => by
    rw [hQ, List.mem_filter, decide_eq_true_iff]
    exact ⟨fun h => h.2, fun h => ⟨mem_circs.2 (hP c h), h⟩⟩
  have hnd : Q.Nodup := by rw [hQ]; exact (circs_nodup k []).filter _
  have hpw : Q.Pairwise Apart2 := hnd.imp_of_mem fun {a b} h1 h2 hne => apart_two ha a b ((hmem a).1 h1) ((hmem b).1 h2) hne
  have hpk := packs_zero.2 hpw
  have hsub : List.Sublist Q (circs n W k []) := by rw [hQ]; exact List.filter_sublist
  refine ⟨nextAll Q (ownF n), unionL Q 0, mem_takes.2 ⟨Q, hsub, hpk, rfl⟩, taken_all hW (taken_own n W) hpk fun c hc => (hP c ((hmem c).1 hc)).1, fun y => ?_⟩
  rw [union_bit]
  constructor
  · rintro (h | ⟨c, hc, h⟩)
    · rw [Nat.zero_testBit] at h; cases h
    · exact ⟨c, (hmem c).1 hc, h⟩
  · rintro ⟨c, hc, h⟩
    exact .inr ⟨c, (hmem c).2 hc, h⟩
/-- What is joined are circles that are apart. -/
theorem unpacked (hW : IsWants n W) {k : Nat} {T : List Int} (h : T ∈ takesL (circs n W k []) (ownF n) 0) : ∃ (P : List (List Int)) (U : Nat), (∀ c, c ∈ P → IsCirc n W c.length (nth c) ∧ c.length ≤ k) ∧ P.Pairwise Apart2 ∧ Taken n W T U ∧ (∀ y, U.testBit y = true ↔ ∃ c, c ∈ P ∧ (setL c).testBit y = true) := by
  obtain ⟨P, h1, h2, h3⟩ := mem_takes.1 h
  have hc : ∀ c, c ∈ P → IsCirc n W c.length (nth c) ∧ c.length ≤ k := fun c hc => mem_circs.1 (h1.subset hc)
  refine ⟨P, unionL P 0, hc, packs_zero.1 h2, by rw [h3]; exact taken_all hW (taken_own n W) h2 fun c hcp => (hc c hcp).1, fun y => ?_⟩
  rw [union_bit]
  constructor
  · rintro (h | h)
    · rw [Nat.zero_testBit] at h; cases h
    · exact h
  · exact .inr
end
end Go.Proofs.YtnaegnjgpnakfaaDoor
