/- Wishes and givings: the program's readers. -/
/- Where a number first stands in a list, in plain mathematics. -/
/- Swaps, in plain mathematics. -/
import Derived.Test.YtgjegpponchdaaaDoorMem
import Derived.Test.YtgjegpponchdaaaDoorAreDifferent
namespace Go.Proofs.YtgjegpponchdaaaDoor
set_option linter.unusedVariables false
set_option linter.unusedSimpArgs false
open Go.RowKit

/-- Wishes of n people: n lists of all houses. -/
def IsWishes (n : Nat) (L : Nat → Nat) (Z : Nat → Nat → Int) : Prop := (2 ≤ n ∧ n ≤ 5) ∧ ∀ i, i < n → L i = n ∧ IsDiff n n (Z i)
/-- A list of all numbers below n. -/
def IsEach (n m : Nat) (X : Nat → Int) : Prop := m = n ∧ IsDiff n n X
/-- As many people as there may be. -/
def People (n : Int) : Prop := 2 ≤ n ∧ n ≤ 5

theorem arePeople_any (n : Int) (w : World) : Calls Tryd.prog 64 #[.int .i64 n] w fun e w' => e = .returned (.bool (tt (People n))) ∧ w = w' := by
  by_cases h1 : 2 ≤ n
  · have hd : decide (2 ≤ n) = true := by simpa using h1
    have HE := Lib.hid (show decide (n ≤ 5) = tt (People n) by
      by_cases h : n ≤ 5
      · rw [tt_of (show People n from ⟨h1, h⟩)]; simpa using h
      · rw [tt_no (show ¬ People n from fun h' => h h'.2)]; simpa using h)
    go_enter Tryd.func64, Tryd.ntmps64
    go_wp2
    go_ret
    exact ⟨by rw [← HE.out]; rfl, rfl⟩
  · have hd : decide (2 ≤ n) = false := by simpa using h1
    have HE := Lib.hid (tt_no (show ¬ People n from fun h' => h1 h'.1))
    go_enter Tryd.func64, Tryd.ntmps64
    go_wp2
    go_ret
    exact ⟨by rw [HE.out]; rfl, rfl⟩

theorem hasEach_any (n m c : Nat) (a : Option Addr) (X : Nat → Int) (w : World) (hn : n ≤ 5) (hm : m ≤ 1048576) (ha : Rd w a m X) :
    Calls Tryd.prog 59 #[.int .i64 n, .slice a m c] w fun e w' => e = .returned (.bool (tt (IsEach n m X))) ∧ w = w' := by
  by_cases h1 : m = n
  · subst h1
    have HE := Lib.hid (tt_congr (show IsDiff m m X ↔ IsEach m m X from ⟨fun h => ⟨rfl, h⟩, fun h => h.2⟩))
    have HD := Lib.hid (areDifferent_any m m c a X w (by omega) hm ha)
    clear ha
    go_enter Tryd.func59, Tryd.ntmps59
    go_wp2_with (go_at_call 82; refine HD.out.mono ?_; rintro e w' ⟨rfl, rfl⟩; rw [HE.out])
    go_ret
    exact ⟨rfl, rfl⟩
  · have hd : ((m : Int) == (n : Int)) = false := by simp; omega
    have HE := Lib.hid (tt_no (show ¬ IsEach n m X from fun h => h1 h.1))
    clear ha
    go_enter Tryd.func59, Tryd.ntmps59
    go_wp2
    go_ret
    exact ⟨by rw [HE.out]; rfl, rfl⟩

/-- What readWishes hands back: the list itself, or nothing. -/
def RetWishes (ok : Bool) (a : Option Addr) (n c : Nat) (w : World) (e : Ending) (w' : World) : Prop :=
  e = .returned (.tuple #[if ok = true then .slice a n c else .slice none 0 0, .bool ok]) ∧ w = w'

set_option maxHeartbeats 800000 in
theorem readWishes_any (n c : Nat) (a : Option Addr) (A : Nat → Option Addr) (L C : Nat → Nat) (Z : Nat → Nat → Int) (w : World) (hn0 : n ≤ 1048576) (hL0 : ∀ r, r < n → L r ≤ 1048576) (ha0 : Tab w a n A L C Z) :
    Calls Tryd.prog 39 #[.slice a n c] w (RetWishes (tt (IsWishes n L Z)) a n c w) := by
  have HA := Lib.hid ha0
  have HL := Lib.hid hL0
  clear ha0 hL0
  by_cases hp : People n
  · have T1 := Lib.hid (tt_of hp)
    have hn5 : n ≤ 5 := by have := hp.2; omega
    have hn2 : 2 ≤ n := by have := hp.1; omega
    clear hp
    go_enter Tryd.func39, Tryd.ntmps39
    go_wp2_with (go_at_call 64; refine (arePeople_any _ _).mono ?_; rintro e w' ⟨rfl, rfl⟩; rw [T1.out])
    go_loop [2, 3, 6, 14] (fun _ _ _ i => ∃ k : Nat, k ≤ n ∧ i = .int .i64 k ∧ ∀ j, j < k → L j = n ∧ IsDiff n n (Z j)) (fun _ _ _ i => n - (intOf i).toNat)
    case atStart => exact ⟨0, Nat.zero_le _, rfl, fun j hj => absurd hj (Nat.not_lt_zero _)⟩
    case round =>
      obtain ⟨k, hk, rfl, hall⟩ := hrel
      have HAll := Lib.hid hall
      clear hall
      by_cases hlt : k < n
      · obtain ⟨ba, oa, rfl, hca, hra⟩ := HA.out k hlt
        have HRd := Lib.hid hra
        have hLk := HL.out k hlt
        clear hra
        by_cases he : IsEach n (L k) (Z k)
        · have T2 := Lib.hid (tt_of he)
          have HE := Lib.hid he
          clear he
          go_wp2_with (go_at_call 59; refine (hasEach_any n (L k) (C k) _ (Z k) _ hn5 hLk HRd.out).mono ?_; rintro e w' ⟨rfl, rfl⟩; rw [T2.out])
          go_round
          case rel => exact ⟨k + 1, by omega, by go_num, fun j hj => by
            by_cases e : j = k
            · subst e; exact HE.out
            · exact HAll.out j (by omega)⟩
          case measure => simp [intOf]; omega
        · have T2 := Lib.hid (tt_no he)
          have T3 := Lib.hid (tt_no (show ¬ IsWishes n L Z from fun h => he (h.2 k hlt)))
          clear he
          go_wp2_with (go_at_call 59; refine (hasEach_any n (L k) (C k) _ (Z k) _ hn5 hLk HRd.out).mono ?_; rintro e w' ⟨rfl, rfl⟩; rw [T2.out])
          go_ret2
          exact ⟨by rw [T3.out]; rfl, rfl⟩
      · obtain rfl : k = n := by omega
        have T3 := Lib.hid (tt_of (show IsWishes k L Z from ⟨⟨hn2, hn5⟩, HAll.out⟩))
        go_wp2
        go_ret2
        exact ⟨by rw [T3.out]; rfl, rfl⟩
  · have T1 := Lib.hid (tt_no hp)
    have T3 := Lib.hid (tt_no (show ¬ IsWishes n L Z from fun h => hp ⟨by have := h.1.1; omega, by have := h.1.2; omega⟩))
    clear hp
    go_enter Tryd.func39, Tryd.ntmps39
    go_wp2_with (go_at_call 64; refine (arePeople_any _ _).mono ?_; rintro e w' ⟨rfl, rfl⟩; rw [T1.out])
    go_ret2
    exact ⟨by rw [T3.out]; rfl, rfl⟩
end Go.Proofs.YtgjegpponchdaaaDoor

namespace Go.Proofs.YtgjegpponchdaaaDoor
set_option linter.unusedVariables false
set_option linter.unusedSimpArgs false
open Go.RowKit

/-- Where x first stands among the first n; -1 if nowhere. -/
noncomputable def idxF (X : Nat → Int) (x : Int) : Nat → Int
  | 0 => -1
  | k + 1 => if idxF X x k = -1 then (if X k = x then (k : Int) else -1) else idxF X x k
theorem idxF_none {X : Nat → Int} {x : Int} {n : Nat} (h : ∀ k, k < n → X k ≠ x) : idxF X x n = -1 := by
  induction n with
  | zero => rfl
  | succ n ih =>
    unfold idxF
    rw [if_pos (ih fun k hk => h k (by omega)), if_neg (h n (by omega))]
theorem idxF_some {X : Nat → Int} {x : Int} {n k : Nat} (h : ∀ j, j < k → X j ≠ x) (hk : X k = x) (hn : k < n) : idxF X x n = k := by
  induction n with
  | zero => omega
  | succ n ih =>
    unfold idxF
    by_cases e : k = n
    · subst e
      rw [if_pos (idxF_none h), if_pos hk]
    · rw [ih (by omega), if_neg (by omega)]
/-- Does x stand among the first n? -/
def HasI (n : Nat) (X : Nat → Int) (x : Int) : Prop := ∃ k, k < n ∧ X k = x
theorem idxF_has {X : Nat → Int} {x : Int} {n : Nat} : HasI n X x ↔ 0 ≤ idxF X x n := by
  induction n with
  | zero => constructor
            · rintro ⟨k, h, _⟩; omega
            · intro h; simp [idxF] at h
  | succ n ih =>
    unfold idxF
    constructor
    · rintro ⟨k, hk, e⟩
      by_cases h1 : HasI n X x
      · have := ih.1 h1
        rw [if_neg (by omega)]; exact this
      · have hkn : k = n := by
          by_cases h2 : k < n
          · exact absurd ⟨k, h2, e⟩ h1
          · omega
        subst hkn
        rw [if_pos (idxF_none fun j hj e' => h1 ⟨j, hj, e'⟩), if_pos e]; omega
    · intro h
      by_cases h1 : idxF X x n = -1
      · rw [if_pos h1] at h
        by_cases h2 : X n = x
        · exact ⟨n, by omega, h2⟩
        · rw [if_neg h2] at h; omega
      · rw [if_neg h1] at h
        obtain ⟨k, hk, e⟩ := ih.2 h
        exact ⟨k, by omega, e⟩

/-- Where x first stands among the first n; n if nowhere. -/
noncomputable def atL (X : Nat → Int) (x : Int) (n : Nat) : Int := if idxF X x n = -1 then n else idxF X x n
theorem atL_first {X : Nat → Int} {x : Int} {n k : Nat} (h : ∀ j, j < k → X j ≠ x) (hk : X k = x) (hn : k < n) : atL X x n = k := by
  unfold atL
  rw [idxF_some h hk hn, if_neg (by omega)]
theorem atL_none {X : Nat → Int} {x : Int} {n : Nat} (h : ∀ k, k < n → X k ≠ x) : atL X x n = n := by
  unfold atL
  rw [idxF_none h, if_pos rfl]
theorem atL_has {X : Nat → Int} {x : Int} {n : Nat} (h : HasI n X x) : atL X x n = idxF X x n := by
  have := idxF_has.1 h
  unfold atL
  rw [if_neg (by omega)]
/-- Does a person like x better than y? -/
def LikesOk (n : Nat) (L : Nat → Nat) (Z : Nat → Nat → Int) (p x y : Int) : Prop :=
  IsWishes n L Z ∧ InR p 0 (n - 1) ∧ InR x 0 (n - 1) ∧ InR y 0 (n - 1) ∧ idxF (Z p.toNat) x n < idxF (Z p.toNat) y n

theorem wishes_has {n : Nat} {L : Nat → Nat} {Z : Nat → Nat → Int} (h : IsWishes n L Z) {p : Nat} (hp : p < n) {x : Int} (hx : InR x 0 ((n : Int) - 1)) : HasI n (Z p) x := by
  obtain ⟨y, rfl⟩ := Int.eq_ofNat_of_zero_le hx.1
  obtain ⟨i, hi, e⟩ := (h.2 p hp).2.all (r := y) (by have := hx.2; omega)
  exact ⟨i, hi, e⟩
end Go.Proofs.YtgjegpponchdaaaDoor

namespace Go.Proofs.YtgjegpponchdaaaDoor
set_option linter.unusedVariables false
open Go.RowKit

/-- Wishes and a giving. -/
def GivenOk (n : Nat) (L : Nat → Nat) (Z : Nat → Nat → Int) (m : Nat) (G : Nat → Int) : Prop := IsWishes n L Z ∧ IsEach n m G
/-- Is the swap of i and k welcome to both? -/
def MayP (n : Nat) (Z : Nat → Nat → Int) (G : Nat → Int) (i k : Nat) : Prop := idxF (Z i) (G k) n < idxF (Z i) (G i) n ∧ idxF (Z k) (G i) n < idxF (Z k) (G k) n
/-- Wishes, a giving and two people. -/
def PairOk (n : Nat) (L : Nat → Nat) (Z : Nat → Nat → Int) (m : Nat) (G : Nat → Int) (i k : Int) : Prop := GivenOk n L Z m G ∧ InR i 0 (n - 1) ∧ InR k 0 (n - 1)
/-- .. two different ones. -/
def TwoPpl (n : Nat) (L : Nat → Nat) (Z : Nat → Nat → Int) (m : Nat) (G : Nat → Int) (i k : Int) : Prop := PairOk n L Z m G i k ∧ i ≠ k
def SwapMayOk (n : Nat) (L : Nat → Nat) (Z : Nat → Nat → Int) (m : Nat) (G : Nat → Int) (i k : Int) : Prop := PairOk n L Z m G i k ∧ MayP n Z G i.toNat k.toNat
theorem may_ne {n : Nat} {Z : Nat → Nat → Int} {G : Nat → Int} {i k : Nat} (h : MayP n Z G i k) : i ≠ k := fun e => by subst e; have := h.1; omega
theorem may_symm {n : Nat} {Z : Nat → Nat → Int} {G : Nat → Int} {i k : Nat} : MayP n Z G i k ↔ MayP n Z G k i := ⟨fun h => ⟨h.2, h.1⟩, fun h => ⟨h.2, h.1⟩⟩
theorem GivenOk.at {n m : Nat} {L : Nat → Nat} {Z : Nat → Nat → Int} {G : Nat → Int} (h : GivenOk n L Z m G) {i : Nat} (hi : i < n) : InR (G i) 0 ((n : Int) - 1) := by
  have := h.2.2.1 i hi
  exact ⟨this.1, by omega⟩
/-- What two people get is exchanged. -/
def swapF (G : Nat → Int) (i k : Nat) (j : Nat) : Int := if j = i then G k else if j = k then G i else G j
noncomputable def swapN (n : Nat) (L : Nat → Nat) (Z : Nat → Nat → Int) (m : Nat) (G : Nat → Int) (i k : Int) : Nat := if tt (TwoPpl n L Z m G i k) = true then n else 0
theorem swapN_yes {n m : Nat} {L : Nat → Nat} {Z : Nat → Nat → Int} {G : Nat → Int} {i k : Int} (h : TwoPpl n L Z m G i k) : swapN n L Z m G i k = n := by unfold swapN; rw [tt_of h]; rfl
theorem swapN_no {n m : Nat} {L : Nat → Nat} {Z : Nat → Nat → Int} {G : Nat → Int} {i k : Int} (h : ¬ TwoPpl n L Z m G i k) : swapN n L Z m G i k = 0 := by unfold swapN; rw [tt_no h]; rfl
theorem swapN_le (n : Nat) (L : Nat → Nat) (Z : Nat → Nat → Int) (m : Nat) (G : Nat → Int) (i k : Int) : swapN n L Z m G i k ≤ 1048576 := by
  by_cases h : TwoPpl n L Z m G i k
  · rw [swapN_yes h]; have := h.1.1.1.1.2; omega
  · rw [swapN_no h]; omega
end Go.Proofs.YtgjegpponchdaaaDoor
