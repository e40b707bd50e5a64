/- Choosing by turns, in plain mathematics. -/
import Derived.Test.YtipfjblnanafnaaTradeModel
import Derived.Test.YtipfjblnanafnaaSwapModel
namespace Go.Proofs.Ytipfjblnanafnaa
set_option linter.unusedVariables false
set_option linter.unusedSimpArgs false
open Go.RowKit

/-- Which houses are left behind k turns. -/
def tkS (Z : Nat → Nat → Int) (n : Nat) (O : Nat → Int) : Nat → Nat → Bool
  | 0, y => decide (y < n)
  | k + 1, y => tkS Z n O k y && !decide (y = ptS Z n (tkS Z n O k) (O k).toNat)
/-- What the one takes whose turn it is. -/
def tkX (Z : Nat → Nat → Int) (n : Nat) (O : Nat → Int) (k : Nat) : Nat := ptS Z n (tkS Z n O k) (O k).toNat
/-- What each one has got behind k turns. -/
def tkF (Z : Nat → Nat → Int) (n : Nat) (O : Nat → Int) : Nat → Nat → Int
  | 0, _ => 0
  | k + 1, j => if j = (O k).toNat then (tkX Z n O k : Int) else tkF Z n O k j

section
variable {n : Nat} {L : Nat → Nat} {Z : Nat → Nat → Int} {O : Nat → Int}
theorem tkS_ppl (Z : Nat → Nat → Int) (n : Nat) (O : Nat → Int) (k : Nat) : Ppl n (tkS Z n O k) := by
  induction k with
  | zero => intro y h; simpa [tkS] using h
  | succ k ih => intro y h; refine ih y ?_; unfold tkS at h; simp only [Bool.and_eq_true] at h; exact h.1
theorem tkS_down {k y : Nat} (h : tkS Z n O (k + 1) y = true) : tkS Z n O k y = true := by unfold tkS at h; simp only [Bool.and_eq_true] at h; exact h.1
theorem tkS_mono {s t y : Nat} (hst : s ≤ t) (h : tkS Z n O t y = true) : tkS Z n O s y = true := by
  induction t with
  | zero => have : s = 0 := by omega
            subst this; exact h
  | succ t ih =>
    by_cases e : s = t + 1
    · subst e; exact h
    · exact ih (by omega) (tkS_down h)
theorem tkS_succ (k y : Nat) : tkS Z n O (k + 1) y = (tkS Z n O k y && !decide (y = tkX Z n O k)) := rfl
theorem tkX_gone (k : Nat) : tkS Z n O (k + 1) (tkX Z n O k) = false := by rw [tkS_succ]; simp
theorem pplL_drop (S : Nat → Bool) (x n : Nat) : (pplL n S).length ≤ (pplL n fun y => S y && !decide (y = x)).length + 1 := by
  have e : (pplL n fun y => S y && !decide (y = x)) = (pplL n S).erase x := by
    unfold pplL
    rw [List.Nodup.erase_eq_filter (List.nodup_range.filter _), List.filter_filter]
    refine List.filter_congr fun y _ => ?_
    rw [Bool.and_comm]
    congr 1
  rw [e, List.length_erase]
  split <;> omega
theorem left_len (Z : Nat → Nat → Int) (n : Nat) (O : Nat → Int) (k : Nat) : n ≤ (pplL n (tkS Z n O k)).length + k := by
  induction k with
  | zero =>
    have : pplL n (tkS Z n O 0) = List.range n := by
      unfold pplL
      rw [List.filter_eq_self]
      intro y hy
      simpa [tkS] using hy
    rw [this]; simp
  | succ k ih =>
    have := pplL_drop (tkS Z n O k) (tkX Z n O k) n
    have e : (pplL n fun y => tkS Z n O k y && !decide (y = tkX Z n O k)) = pplL n (tkS Z n O (k + 1)) := rfl
    rw [e] at this
    omega
/-- While somebody is left a house is. -/
theorem tkS_some {k : Nat} (hk : k < n) : ∃ y, tkS Z n O k y = true := by
  have := left_len Z n O k
  obtain ⟨y, hy⟩ := List.exists_mem_of_length_pos (show 0 < (pplL n (tkS Z n O k)).length by omega)
  exact ⟨y, (mem_pplL (tkS_ppl Z n O k)).1 hy⟩
/-- What is taken: the first house left of the list. -/
theorem tkX_spec (hW : IsWishes n L Z) {k : Nat} (hO : (O k).toNat < n) (hk : k < n) :
    ∃ j, j < n ∧ tkS Z n O k (Z (O k).toNat j).toNat = true ∧ (∀ i, i < j → tkS Z n O k (Z (O k).toNat i).toNat = false) ∧ tkX Z n O k = (Z (O k).toNat j).toNat := by
  obtain ⟨y, hy⟩ := tkS_some (Z := Z) (n := n) (O := O) hk
  exact ptS_spec hW (tkS_ppl Z n O k) hO hy
theorem tkX_in (hW : IsWishes n L Z) {k : Nat} (hO : (O k).toNat < n) (hk : k < n) : tkS Z n O k (tkX Z n O k) = true := by
  obtain ⟨j, _, h, _, e⟩ := tkX_spec hW hO hk
  rw [e]; exact h
theorem tkX_lt (hW : IsWishes n L Z) {k : Nat} (hO : (O k).toNat < n) (hk : k < n) : tkX Z n O k < n := tkS_ppl Z n O k _ (tkX_in hW hO hk)
theorem tkX_ne (hW : IsWishes n L Z) {i k : Nat} (hik : i < k) (hO : (O k).toNat < n) (hk : k < n) : tkX Z n O i ≠ tkX Z n O k := fun e => by
  have h := tkS_mono (show i + 1 ≤ k from hik) (tkX_in hW hO hk)
  rw [← e, tkX_gone] at h
  cases h
theorem diff_toNat (hd : IsDiff n n O) {i k : Nat} (hi : i < n) (hk : k < n) (e : (O i).toNat = (O k).toNat) : i = k := by
  have h1 := hd.1 i hi
  have h2 := hd.1 k hk
  rcases Nat.lt_trichotomy i k with h | h | h
  · exact absurd (by omega) (hd.2 i k h hk)
  · exact h
  · exact absurd (by omega) (hd.2 k i h hi)
theorem tkF_at (hd : IsDiff n n O) {k : Nat} : ∀ {m : Nat}, k < m → m ≤ n → tkF Z n O m (O k).toNat = tkX Z n O k
  | 0, h, _ => by omega
  | m + 1, h, hm => by
    unfold tkF
    by_cases e : k = m
    · subst e; rw [if_pos rfl]
    · rw [if_neg (fun h' => e (diff_toNat hd (by omega) (by omega) h')), tkF_at hd (by omega) (by omega)]
/-- By turns comes a giving. -/
theorem take_each (hW : IsWishes n L Z) (hd : IsDiff n n O) : IsEach n n (tkF Z n O n) := by
  have at' : ∀ j, j < n → ∃ k, k < n ∧ (O k).toNat = j ∧ tkF Z n O n j = tkX Z n O k := fun j hj => by
    obtain ⟨k, hk, e⟩ := hd.all hj
    have e' : (O k).toNat = j := by rw [e]; rfl
    exact ⟨k, hk, e', by rw [← e']; exact tkF_at hd hk (Nat.le_refl _)⟩
  have hO : ∀ k, k < n → (O k).toNat < n := fun k hk => by have := hd.1 k hk; omega
  refine ⟨rfl, fun j hj => ?_, fun i j hij hj e => ?_⟩
  · obtain ⟨k, hk, _, e⟩ := at' j hj
    have := tkX_lt hW (hO k hk) hk
    rw [e]; omega
  · obtain ⟨k, hk, e1, f1⟩ := at' i (by omega)
    obtain ⟨m, hm, e2, f2⟩ := at' j hj
    rw [f1, f2] at e
    have e : tkX Z n O k = tkX Z n O m := by omega
    rcases Nat.lt_trichotomy k m with h | h | h
    · exact tkX_ne hW h (hO m hm) hm e
    · subst h; omega
    · exact tkX_ne hW h (hO k hk) hk e.symm
theorem take_given (hW : IsWishes n L Z) (hd : IsDiff n n O) : GivenOk n L Z n (tkF Z n O n) := ⟨hW, take_each hW hd⟩
end
/-- How many numbers TurnTake hands back. -/
noncomputable def takeN (n : Nat) (L : Nat → Nat) (Z : Nat → Nat → Int) (m : Nat) (O : Nat → Int) : Nat := if tt (GivenOk n L Z m O) = true then n else 0
theorem takeN_yes {n m : Nat} {L : Nat → Nat} {Z : Nat → Nat → Int} {O : Nat → Int} (h : GivenOk n L Z m O) : takeN n L Z m O = n := by unfold takeN; rw [tt_of h]; rfl
theorem takeN_no {n m : Nat} {L : Nat → Nat} {Z : Nat → Nat → Int} {O : Nat → Int} (h : ¬ GivenOk n L Z m O) : takeN n L Z m O = 0 := by unfold takeN; rw [tt_no h]; rfl
theorem takeN_le (n : Nat) (L : Nat → Nat) (Z : Nat → Nat → Int) (m : Nat) (O : Nat → Int) : takeN n L Z m O ≤ 1048576 := by
  by_cases h : GivenOk n L Z m O
  · rw [takeN_yes h]; have := h.1.1.2; omega
  · rw [takeN_no h]; omega
end Go.Proofs.Ytipfjblnanafnaa
