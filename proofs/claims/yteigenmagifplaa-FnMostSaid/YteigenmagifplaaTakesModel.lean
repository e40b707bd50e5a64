/- All lists of what each one takes by circles that are apart, in plain mathematics, as the model finds them; and that they are not too many. -/
import Derived.Test.YteigenmagifplaaCircsModel
namespace Go.Proofs.Yteigenmagifplaa
set_option linter.unusedVariables false
set_option linter.unusedSimpArgs false
open Go.RowKit

/-- What each one takes, the first k of a circle taking the thing of the next one. -/
def nextF (T C : Nat → Int) (m : Nat) : Nat → Nat → Int
  | 0, i => T i
  | k + 1, i => if (i : Int) = C k then C ((k + 1) % m) else nextF T C m k i
def nextL (T c : List Int) : List Int := (List.range T.length).map (nextF (nth T) (nth c) c.length c.length)
/-- The people of a circle. -/
def setL (c : List Int) : Nat := setN (nth c) c.length
/-- What comes by one circle more at least, out of these. -/
def takesR : List (List Int) → List Int → Nat → List (List Int)
  | [], _, _ => []
  | c :: cs, T, U => (if U &&& setL c = 0 then nextL T c :: takesR cs (nextL T c) (U ||| setL c) else []) ++ takesR cs T U
/-- All of it. -/
def takesL (cs : List (List Int)) (T : List Int) (U : Nat) : List (List Int) := T :: takesR cs T U
theorem takesR_yes {c T : List Int} {cs : List (List Int)} {U : Nat} (h : U &&& setL c = 0) : takesR (c :: cs) T U = takesL cs (nextL T c) (U ||| setL c) ++ takesR cs T U := by
  show (if U &&& setL c = 0 then _ else _) ++ _ = _
  rw [if_pos h]; rfl
theorem takesR_no {c T : List Int} {cs : List (List Int)} {U : Nat} (h : ¬ U &&& setL c = 0) : takesR (c :: cs) T U = takesR cs T U := by
  show (if U &&& setL c = 0 then _ else _) ++ _ = _
  rw [if_neg h]; rfl

theorem sub_len {α : Type} [DecidableEq α] : ∀ {A B : List α}, A.Nodup → (∀ x, x ∈ A → x ∈ B) → A.length ≤ B.length
  | [], _, _, _ => Nat.zero_le _
  | a :: A, B, h, hs => by
    rw [List.nodup_cons] at h
    have ha := hs a (by simp)
    have h1 : A.length ≤ (B.erase a).length := sub_len h.2 (fun x hx => (List.mem_erase_of_ne (fun e => h.1 (by rw [← e]; exact hx))).2 (hs x (by simp [hx])))
    rw [List.length_erase_of_mem ha] at h1
    have h2 := List.length_pos_of_mem ha
    simp only [List.length_cons]
    omega
/-- How many people are on no circle yet. -/
def freeN (n U : Nat) : Nat := ((List.range n).filter fun y => !U.testBit y).length
theorem free_le (n U : Nat) : freeN n U ≤ n := by
  unfold freeN
  exact Nat.le_trans (List.length_filter_le _ _) (by simp)
theorem free_two {n U S a b : Nat} (h : U &&& S = 0) (ha : a < n) (hb : b < n) (hab : a ≠ b) (hSa : S.testBit a = true) (hSb : S.testBit b = true) : freeN n (U ||| S) + 2 ≤ freeN n U := by
  have hU : ∀ y, S.testBit y = true → U.testBit y = false := fun y hy => by
    have h1 : (U &&& S).testBit y = false := by rw [h]; exact Nat.zero_testBit y
    rw [Nat.testBit_and, hy, Bool.and_true] at h1
    exact h1
  have hn : (a :: b :: (List.range n).filter fun y => !(U ||| S).testBit y).Nodup := by
    refine List.nodup_cons.2 ⟨fun hm => ?_, List.nodup_cons.2 ⟨fun hm => ?_, (List.nodup_range).filter _⟩⟩
    · rcases List.mem_cons.1 hm with e | hm
      · exact hab e
      · have := (List.mem_filter.1 hm).2
        simp [hSa] at this
    · have := (List.mem_filter.1 hm).2
      simp [hSb] at this
  have := sub_len (B := (List.range n).filter fun y => !U.testBit y) hn (fun x hx => by
    rcases List.mem_cons.1 hx with e | hx
    · subst e; exact List.mem_filter.2 ⟨List.mem_range.2 ha, by rw [hU _ hSa]; rfl⟩
    · rcases List.mem_cons.1 hx with e | hx
      · subst e; exact List.mem_filter.2 ⟨List.mem_range.2 hb, by rw [hU _ hSb]; rfl⟩
      · obtain ⟨h1, h2⟩ := List.mem_filter.1 hx
        refine List.mem_filter.2 ⟨h1, ?_⟩
        rw [Nat.testBit_or] at h2
        cases e : U.testBit x with
        | false => rfl
        | true => rw [e] at h2; simp at h2)
  simp only [List.length_cons] at this
  unfold freeN
  omega
/-- Two people at least are on it. -/
def TwoOn (n : Nat) (c : List Int) : Prop := ∃ a b : Nat, a < n ∧ b < n ∧ a ≠ b ∧ (setL c).testBit a = true ∧ (setL c).testBit b = true
theorem two_circ {n : Nat} {W : Nat → Int} {c : List Int} (h : IsCirc n W c.length (nth c)) : TwoOn n c := by
  have h2 := h.2.2.2
  have r0 := h.1.1 0 (by omega)
  have r1 := h.1.1 1 (by omega)
  have hne := h.1.2 0 1 (by omega) (by omega)
  have hb : ∀ i, i < c.length → (setL c).testBit (nth c i).toNat = true := fun i hi => by
    have hr := h.1.1 i hi
    exact (setN_bit (fun j hj => (h.1.1 j hj).1)).2 ⟨i, hi, by omega⟩
  exact ⟨(nth c 0).toNat, (nth c 1).toNat, by omega, by omega, by omega, hb 0 (by omega), hb 1 (by omega)⟩
theorem takes_few {n : Nat} : ∀ (cs : List (List Int)) (T : List Int) (U : Nat), (∀ c, c ∈ cs → TwoOn n c) → (takesL cs T U).length ≤ (1 + cs.length) ^ (freeN n U / 2)
  | [], T, U, _ => by
    show 1 ≤ (1 + 0) ^ _
    simp
  | c :: cs, T, U, h => by
    have ih := takes_few cs T U fun d hd => h d (by simp [hd])
    have hl : (takesL cs T U).length = 1 + (takesR cs T U).length := by show (T :: takesR cs T U).length = _; rw [List.length_cons]; omega
    rw [List.length_cons]
    by_cases e : U &&& setL c = 0
    · obtain ⟨a, b, ha, hb, hab, hSa, hSb⟩ := h c (by simp)
      have hf := free_two e ha hb hab hSa hSb
      have ih2 := takes_few cs (nextL T c) (U ||| setL c) fun d hd => h d (by simp [hd])
      have h1 : (takesL (c :: cs) T U).length = (takesL cs (nextL T c) (U ||| setL c)).length + (takesL cs T U).length := by
        show (T :: takesR (c :: cs) T U).length = _
        rw [takesR_yes e, List.length_cons, List.length_append, hl]
        omega
      obtain ⟨r, hr⟩ : ∃ r, freeN n U / 2 = r + 1 := ⟨freeN n U / 2 - 1, by omega⟩
      have h2 : (1 + cs.length) ^ (freeN n (U ||| setL c) / 2) ≤ (1 + cs.length) ^ r := Nat.pow_le_pow_right (by omega) (by omega)
      have h3 : (1 + cs.length) ^ r ≤ (1 + (cs.length + 1)) ^ r := Nat.pow_le_pow_left (by omega) r
      have h4 : (1 + cs.length) * (1 + cs.length) ^ r ≤ (1 + cs.length) * (1 + (cs.length + 1)) ^ r := Nat.mul_le_mul_left _ h3
      rw [hr] at ih ⊢
      rw [Nat.pow_succ, Nat.mul_comm] at ih ⊢
      have h5 : (1 + (cs.length + 1)) * (1 + (cs.length + 1)) ^ r = (1 + cs.length) * (1 + (cs.length + 1)) ^ r + (1 + (cs.length + 1)) ^ r := by
        rw [show 1 + (cs.length + 1) = (1 + cs.length) + 1 by omega, Nat.add_mul ((1 + cs.length)) 1, Nat.one_mul]
      omega
    · have h1 : (takesL (c :: cs) T U).length = (takesL cs T U).length := by
        show (T :: takesR (c :: cs) T U).length = _
        rw [takesR_no e, List.length_cons, hl]
        omega
      have h3 : (1 + cs.length) ^ (freeN n U / 2) ≤ (1 + (cs.length + 1)) ^ (freeN n U / 2) := Nat.pow_le_pow_left (by omega) _
      omega
/-- Not too many. -/
theorem takes_small {n : Nat} {W : Nat → Int} (hn : n ≤ 6) (k : Nat) (T : List Int) (U : Nat) {cs : List (List Int)} (hs : cs.length ≤ 1957) (h : ∀ c, c ∈ cs → IsCirc n W c.length (nth c)) : (takesL cs T U).length ≤ 7506509912 := by
  have h1 := takes_few (n := n) cs T U fun c hc => two_circ (h c hc)
  have h2 := free_le n U
  have h3 : (1 + cs.length) ^ (freeN n U / 2) ≤ (1 + cs.length) ^ 3 := Nat.pow_le_pow_right (by omega) (by omega)
  have h4 : (1 + cs.length) ^ 3 ≤ 1958 ^ 3 := Nat.pow_le_pow_left (by omega) 3
  have h5 : (1958 : Nat) ^ 3 = 7506509912 := by decide
  omega
end Go.Proofs.Yteigenmagifplaa
