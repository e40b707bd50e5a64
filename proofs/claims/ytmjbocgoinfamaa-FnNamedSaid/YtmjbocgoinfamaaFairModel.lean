/- Fair tables, in plain mathematics: all rounds are a unit just if going by the money 0 changes nothing. -/
import Derived.Test.YtmjbocgoinfamaaMem
namespace Go.Proofs.Ytmjbocgoinfamaa
set_option linter.unusedVariables false

theorem nth_left {B R : List Int} {j : Nat} (h : j < B.length) : nth (B ++ R) j = nth B j := by
  unfold nth; rw [List.getD_eq_getElem?_getD, List.getD_eq_getElem?_getD, List.getElem?_append_left h]
theorem nth_mid {B R : List Int} {x : Int} : nth (B ++ x :: R) B.length = x := by
  unfold nth; rw [List.getD_eq_getElem?_getD, List.getElem?_append_right (Nat.le_refl _)]; simp

/-- Each list of different numbers that begins so is told. -/
theorem mem_longer_of {n : Nat} : ∀ (R : List Int) (f : Nat) (B : List Int), Diff n (B ++ R) → 2 ≤ (B ++ R).length → R.length ≤ f → B ++ R ∈ longer n f B
  | [], f, B, hd, h2, hf => by
    rw [List.append_nil] at h2 ⊢
    cases f with
    | zero => unfold longer; rw [if_pos h2]; simp
    | succ f => unfold longer; rw [if_pos h2]; simp
  | x :: R, 0, B, hd, h2, hf => by simp at hf
  | x :: R, f + 1, B, hd, h2, hf => by
    have hlen : B.length < (B ++ x :: R).length := by simp
    have hx := hd.1 B.length hlen
    rw [nth_mid] at hx
    obtain ⟨y, hy⟩ := Int.eq_ofNat_of_zero_le hx.1
    have hno : ¬ x ∈ B := fun hm => by
      obtain ⟨j, hj, e⟩ := mem_nth.1 hm
      refine hd.2 j B.length hj hlen ?_
      rw [nth_left hj, nth_mid, e]
    have he : B ++ x :: R = (B ++ [x]) ++ R := by simp
    have h4 := mem_longer_of R f (B ++ [x]) (by rw [← he]; exact hd) (by rw [← he]; exact h2) (by simpa using hf)
    rw [he]
    unfold longer
    refine List.mem_append_right _ (List.mem_flatMap.2 ⟨y, List.mem_range.2 (by omega), ?_⟩)
    have hy' : (y : Int) = x := hy.symm
    rw [hy', if_neg hno]
    exact h4
theorem mem_all {n : Nat} {D : List Int} (hd : Diff n D) (h2 : 2 ≤ D.length) : D ∈ longer n n [] := mem_longer_of D n [] hd h2 (diff_le hd)

/-- All rounds are a unit. -/
def FairAll (n : Nat) (Z : Nat → Nat → Int) : Prop := ∀ D, D ∈ longer n n [] → IsRing n D.length (nth D) → roundV n Z D.length (nth D) = p12 n
/-- Going by the money 0 changes nothing. -/
def FairMid (n : Nat) (Z : Nat → Nat → Int) : Prop := ∀ i, i < n → ∀ k, k < n → Z i 0 * Z 0 k = 12 * Z i k

theorem p12_add (a b : Nat) : p12 (a + b) = p12 a * p12 b := by
  induction b with
  | zero => show p12 a = p12 a * 1; omega
  | succ b ih => show p12 (a + b) * 12 = p12 a * (p12 b * 12); rw [ih, Int.mul_assoc]
theorem p12_pos (a : Nat) : 0 < p12 a := by
  induction a with
  | zero => decide
  | succ a ih => show 0 < p12 a * 12; omega

section
variable {n : Nat} {L : Nat → Nat} {Z : Nat → Nat → Int}
theorem mid_back (hr : IsRates n L Z) (h : FairMid n Z) {x : Nat} (hx : x < n) : Z 0 x * Z x 0 = 144 := by
  rw [Int.mul_comm, h x hx x hx, ((hr.2 x hx).2 x hx).2 rfl]; rfl
theorem mid_three (hr : IsRates n L Z) (h : FairMid n Z) {x y : Nat} (hx : x < n) (hy : y < n) : Z 0 x * Z x y = 12 * Z 0 y := by
  have h1 := mid_back hr h hx
  have h2 := h x hx y hy
  have h3 : 12 * (Z 0 x * Z x y) = 144 * Z 0 y := by
    calc 12 * (Z 0 x * Z x y) = Z 0 x * (12 * Z x y) := by ac_rfl
      _ = Z 0 x * (Z x 0 * Z 0 y) := by rw [h2]
      _ = (Z 0 x * Z x 0) * Z 0 y := by ac_rfl
      _ = 144 * Z 0 y := by rw [h1]
  omega
theorem val_mid (hr : IsRates n L Z) (h : FairMid n Z) {W : Nat → Int} {v : Int} (k : Nat) (hW : ∀ j, j ≤ k → 0 ≤ W j ∧ W j < n) :
    144 * valF Z W v k = v * p12 k * (Z (W 0).toNat 0 * Z 0 (W k).toNat) := by
  induction k with
  | zero =>
    have h0 := hW 0 (by omega)
    have := mid_back hr h (x := (W 0).toNat) (by omega)
    show 144 * v = v * 1 * _
    rw [Int.mul_comm (Z (W 0).toNat 0), this]; omega
  | succ k ih =>
    have h0 := hW k (by omega)
    have h1 := hW (k + 1) (by omega)
    have h2 := mid_three hr h (x := (W k).toNat) (y := (W (k + 1)).toNat) (by omega) (by omega)
    have h3 := ih (fun j hj => hW j (by omega))
    show 144 * (valF Z W v k * Z (W k).toNat (W (k + 1)).toNat) = v * (p12 k * 12) * (Z (W 0).toNat 0 * Z 0 (W (k + 1)).toNat)
    calc 144 * (valF Z W v k * Z (W k).toNat (W (k + 1)).toNat) = (144 * valF Z W v k) * Z (W k).toNat (W (k + 1)).toNat := by ac_rfl
      _ = v * p12 k * (Z (W 0).toNat 0 * Z 0 (W k).toNat) * Z (W k).toNat (W (k + 1)).toNat := by rw [h3]
      _ = v * p12 k * Z (W 0).toNat 0 * (Z 0 (W k).toNat * Z (W k).toNat (W (k + 1)).toNat) := by ac_rfl
      _ = v * p12 k * Z (W 0).toNat 0 * (12 * Z 0 (W (k + 1)).toNat) := by rw [h2]
      _ = v * (p12 k * 12) * (Z (W 0).toNat 0 * Z 0 (W (k + 1)).toNat) := by ac_rfl

theorem ring_mid (hr : IsRates n L Z) (h : FairMid n Z) {m : Nat} {X : Nat → Int} (hx : IsRing n m X) : roundV n Z m X = p12 n := by
  have hm := hx.1.2
  have h1 := val_mid (W := closeF m X) (v := p12 ((n : Int) - (m + 1 : Nat) + 1).toNat) hr h m (fun j _ => closeF_in hx.1 j)
  have e0 : closeF m X 0 = X 0 := if_pos (by omega)
  have em : closeF m X m = X 0 := if_neg (by omega)
  have hX := hx.1.1.1 0 (by omega)
  have h2 := mid_back hr h (x := (X 0).toNat) (by omega)
  rw [e0, em, Int.mul_comm (Z (X 0).toNat 0), h2] at h1
  have e1 : ((n : Int) - (m + 1 : Nat) + 1).toNat = n - m := by omega
  have e2 : p12 n = p12 (n - m) * p12 m := by rw [← p12_add]; congr 1; omega
  unfold roundV
  rw [e1] at h1 ⊢
  rw [e2]
  omega

theorem fair_iff (hr : IsRates n L Z) : FairAll n Z ↔ FairMid n Z := by
  constructor
  · intro h
    have hn := hr.1.1
    have d0 : Diff n [((0 : Nat) : Int)] := ((Diff.nil n).snoc_iff (x := 0) (by omega)).2 List.not_mem_nil
    have di : ∀ i, 0 < i → i < n → Diff n [((0 : Nat) : Int), (i : Int)] := fun i h0 hi => (d0.snoc_iff hi).2 (by simp; omega)
    have back : ∀ i, 0 < i → i < n → Z 0 i * Z i 0 = 144 := by
      intro i h0 hi
      have hd := di i h0 hi
      have hx : IsRing n 2 (nth [((0 : Nat) : Int), (i : Int)]) := ⟨⟨hd, by omega, by omega⟩, fun j h1 h2 => by
        obtain rfl : j = 1 := by omega
        show (0 : Int) < (i : Int)
        omega⟩
      have h1 := h _ (mem_all hd (by simp)) hx
      have e : roundV n Z 2 (nth [((0 : Nat) : Int), (i : Int)]) = p12 ((n : Int) - (2 + 1 : Nat) + 1).toNat * Z 0 i * Z i 0 := rfl
      have h2 : roundV n Z 2 (nth [((0 : Nat) : Int), (i : Int)]) = p12 n := h1
      rw [e, show ((n : Int) - (2 + 1 : Nat) + 1).toNat = n - 2 by omega, show p12 n = p12 (n - 2) * 144 by rw [show (144 : Int) = p12 2 from rfl, ← p12_add]; congr 1; omega, Int.mul_assoc] at h2
      exact Int.eq_of_mul_eq_mul_left (Int.ne_of_gt (p12_pos _)) h2
    have three : ∀ i k, 0 < i → i < n → 0 < k → k < n → i ≠ k → Z 0 i * Z i k * Z k 0 = 1728 := by
      intro i k h0 hi h0' hk hne
      have hd : Diff n [((0 : Nat) : Int), (i : Int), (k : Int)] := ((di i h0 hi).snoc_iff hk).2 (by simp; omega)
      have h3n := diff_le hd
      have h3n' : 3 ≤ n := h3n
      have hx : IsRing n 3 (nth [((0 : Nat) : Int), (i : Int), (k : Int)]) := ⟨⟨hd, by omega, by omega⟩, fun j h1 h2 => by
        obtain rfl | rfl : j = 1 ∨ j = 2 := by omega
        · show (0 : Int) < (i : Int)
          omega
        · show (0 : Int) < (k : Int)
          omega⟩
      have h2 : roundV n Z 3 (nth [((0 : Nat) : Int), (i : Int), (k : Int)]) = p12 n := h _ (mem_all hd (by simp)) hx
      have e : roundV n Z 3 (nth [((0 : Nat) : Int), (i : Int), (k : Int)]) = p12 ((n : Int) - (3 + 1 : Nat) + 1).toNat * Z 0 i * Z i k * Z k 0 := rfl
      rw [e, show ((n : Int) - (3 + 1 : Nat) + 1).toNat = n - 3 by omega, show p12 n = p12 (n - 3) * 1728 by rw [show (1728 : Int) = p12 3 from rfl, ← p12_add]; congr 1; omega, Int.mul_assoc, Int.mul_assoc] at h2
      have h4 := Int.eq_of_mul_eq_mul_left (Int.ne_of_gt (p12_pos _)) h2
      rw [Int.mul_assoc]; exact h4
    have one : ∀ i, i < n → Z i i = 12 := fun i hi => ((hr.2 i hi).2 i hi).2 rfl
    intro i hi k hk
    by_cases hi0 : i = 0
    · subst hi0; rw [one 0 hi]
    by_cases hk0 : k = 0
    · subst hk0; rw [one 0 hk, Int.mul_comm]
    have hb1 := back i (by omega) hi
    by_cases hik : i = k
    · subst hik; rw [one i hi, Int.mul_comm, hb1]; rfl
    have hb2 := back k (by omega) hk
    have h3 := three i k (by omega) hi (by omega) hk hik
    have p1 := ((hr.2 0 (by omega)).2 i hi).1.1
    have p2 := ((hr.2 k hk).2 0 (by omega)).1.1
    have hpos : 0 < Z 0 i * Z k 0 := Int.mul_pos (by omega) (by omega)
    refine Int.eq_of_mul_eq_mul_right (a := Z 0 i * Z k 0) (Int.ne_of_gt hpos) ?_
    calc Z i 0 * Z 0 k * (Z 0 i * Z k 0) = (Z 0 i * Z i 0) * (Z 0 k * Z k 0) := by ac_rfl
      _ = 12 * (Z 0 i * Z i k * Z k 0) := by rw [hb1, hb2, h3]; rfl
      _ = 12 * Z i k * (Z 0 i * Z k 0) := by ac_rfl
  · exact fun h D _ hx => ring_mid hr h hx

/-- The table is fair. -/
def FairOk (n : Nat) (L : Nat → Nat) (Z : Nat → Nat → Int) : Prop := IsRates n L Z ∧ FairMid n Z
end
end Go.Proofs.Ytmjbocgoinfamaa
