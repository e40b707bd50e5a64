/- Texts joined: PeopleP, Wishes, L1Every, SpecHouseIn, DrawApart, TradeModel, L3Point, L3Circle, L3Trade, DrawGiven, DrawFew, GivsModel, BlockGiv, L3At. -/
import Derived.Test.YtabdbgnkiebcdaaGreatDoorPartS1
import Derived.Test.YtabdbgnkiebcdaaGreatDoorPartS7
import Derived.Test.YtabdbgnkiebcdaaGreatDoorPartS8
import Derived.Test.YtabdbgnkiebcdaaGreatDoorPartS4
import Derived.Test.YtabdbgnkiebcdaaGreatDoorPartS9
import Derived.Test.YtabdbgnkiebcdaaGreatDoorPartS2
import Derived.Test.YtabdbgnkiebcdaaGreatDoorProg
namespace Go.Proofs.YtabdbgnkiebcdaaGreatDoor
set_option linter.unusedVariables false
set_option linter.unusedSimpArgs false
open Go.RowKit

/-- Wishes of n people: n lists of all houses. -/
def IsWishes (n : Nat) (L : Nat → Nat) (Z : Nat → Nat → Int) : Prop := (2 ≤ n ∧ n ≤ 5) ∧ ∀ i, i < n → L i = n ∧ IsDiff n n (Z i)
/-- A list of all numbers below n. -/
def IsEach (n m : Nat) (X : Nat → Int) : Prop := m = n ∧ IsDiff n n X
/-- As many people as there may be. -/
def People (n : Int) : Prop := 2 ≤ n ∧ n ≤ 5

theorem arePeople_any (n : Int) (w : World) : Calls Tryz.prog 89 #[.int .i64 n] w fun e w' => e = .returned (.bool (tt (People n))) ∧ w = w' := by
  by_cases h1 : 2 ≤ n
  · have hd : decide (2 ≤ n) = true := by simpa using h1
    have HE := Lib.hid (show decide (n ≤ 5) = tt (People n) by
      by_cases h : n ≤ 5
      · rw [tt_of (show People n from ⟨h1, h⟩)]; simpa using h
      · rw [tt_no (show ¬ People n from fun h' => h h'.2)]; simpa using h)
    go_enter Tryz.func89, Tryz.ntmps89
    go_wp2
    go_ret
    exact ⟨by rw [← HE.out]; rfl, rfl⟩
  · have hd : decide (2 ≤ n) = false := by simpa using h1
    have HE := Lib.hid (tt_no (show ¬ People n from fun h' => h1 h'.1))
    go_enter Tryz.func89, Tryz.ntmps89
    go_wp2
    go_ret
    exact ⟨by rw [HE.out]; rfl, rfl⟩

theorem hasEach_any (n m c : Nat) (a : Option Addr) (X : Nat → Int) (w : World) (hn : n ≤ 5) (hm : m ≤ 1048576) (ha : Rd w a m X) :
    Calls Tryz.prog 85 #[.int .i64 n, .slice a m c] w fun e w' => e = .returned (.bool (tt (IsEach n m X))) ∧ w = w' := by
  by_cases h1 : m = n
  · subst h1
    have HE := Lib.hid (tt_congr (show IsDiff m m X ↔ IsEach m m X from ⟨fun h => ⟨rfl, h⟩, fun h => h.2⟩))
    have HD := Lib.hid (areDifferent_any m m c a X w (by omega) hm ha)
    clear ha
    go_enter Tryz.func85, Tryz.ntmps85
    go_wp2_with (go_at_call 120; refine HD.out.mono ?_; rintro e w' ⟨rfl, rfl⟩; rw [HE.out])
    go_ret
    exact ⟨rfl, rfl⟩
  · have hd : ((m : Int) == (n : Int)) = false := by simp; omega
    have HE := Lib.hid (tt_no (show ¬ IsEach n m X from fun h => h1 h.1))
    clear ha
    go_enter Tryz.func85, Tryz.ntmps85
    go_wp2
    go_ret
    exact ⟨by rw [HE.out]; rfl, rfl⟩

end Go.Proofs.YtabdbgnkiebcdaaGreatDoor

namespace Go.Proofs.YtabdbgnkiebcdaaGreatDoor
set_option linter.unusedVariables false
set_option linter.unusedSimpArgs false
open Go.RowKit

/-- What readWishes hands back: the list itself, or nothing. -/
def RetWishes (ok : Bool) (a : Option Addr) (n c : Nat) (w : World) (e : Ending) (w' : World) : Prop :=
  e = .returned (.tuple #[if ok = true then .slice a n c else .slice none 0 0, .bool ok]) ∧ w = w'

set_option maxHeartbeats 800000 in
theorem readWishes_any (n c : Nat) (a : Option Addr) (A : Nat → Option Addr) (L C : Nat → Nat) (Z : Nat → Nat → Int) (w : World) (hn0 : n ≤ 1048576) (hL0 : ∀ r, r < n → L r ≤ 1048576) (ha0 : Tab w a n A L C Z) :
    Calls Tryz.prog 55 #[.slice a n c] w (RetWishes (tt (IsWishes n L Z)) a n c w) := by
  have HA := Lib.hid ha0
  have HL := Lib.hid hL0
  clear ha0 hL0
  by_cases hp : People n
  · have T1 := Lib.hid (tt_of hp)
    have hn5 : n ≤ 5 := by have := hp.2; omega
    have hn2 : 2 ≤ n := by have := hp.1; omega
    clear hp
    go_enter Tryz.func55, Tryz.ntmps55
    go_wp2_with (go_at_call 89; refine (arePeople_any _ _).mono ?_; rintro e w' ⟨rfl, rfl⟩; rw [T1.out])
    go_loop [2, 3, 6, 14] (fun _ _ _ i => ∃ k : Nat, k ≤ n ∧ i = .int .i64 k ∧ ∀ j, j < k → L j = n ∧ IsDiff n n (Z j)) (fun _ _ _ i => n - (intOf i).toNat)
    case atStart => exact ⟨0, Nat.zero_le _, rfl, fun j hj => absurd hj (Nat.not_lt_zero _)⟩
    case round =>
      obtain ⟨k, hk, rfl, hall⟩ := hrel
      have HAll := Lib.hid hall
      clear hall
      by_cases hlt : k < n
      · obtain ⟨ba, oa, rfl, hca, hra⟩ := HA.out k hlt
        have HRd := Lib.hid hra
        have hLk := HL.out k hlt
        clear hra
        by_cases he : IsEach n (L k) (Z k)
        · have T2 := Lib.hid (tt_of he)
          have HE := Lib.hid he
          clear he
          go_wp2_with (go_at_call 85; refine (hasEach_any n (L k) (C k) _ (Z k) _ hn5 hLk HRd.out).mono ?_; rintro e w' ⟨rfl, rfl⟩; rw [T2.out])
          go_round
          case rel => exact ⟨k + 1, by omega, by go_num, fun j hj => by
            by_cases e : j = k
            · subst e; exact HE.out
            · exact HAll.out j (by omega)⟩
          case measure => simp [intOf]; omega
        · have T2 := Lib.hid (tt_no he)
          have T3 := Lib.hid (tt_no (show ¬ IsWishes n L Z from fun h => he (h.2 k hlt)))
          clear he
          go_wp2_with (go_at_call 85; refine (hasEach_any n (L k) (C k) _ (Z k) _ hn5 hLk HRd.out).mono ?_; rintro e w' ⟨rfl, rfl⟩; rw [T2.out])
          go_ret2
          exact ⟨by rw [T3.out]; rfl, rfl⟩
      · obtain rfl : k = n := by omega
        have T3 := Lib.hid (tt_of (show IsWishes k L Z from ⟨⟨hn2, hn5⟩, HAll.out⟩))
        go_wp2
        go_ret2
        exact ⟨by rw [T3.out]; rfl, rfl⟩
  · have T1 := Lib.hid (tt_no hp)
    have T3 := Lib.hid (tt_no (show ¬ IsWishes n L Z from fun h => hp ⟨by have := h.1.1; omega, by have := h.1.2; omega⟩))
    clear hp
    go_enter Tryz.func55, Tryz.ntmps55
    go_wp2_with (go_at_call 89; refine (arePeople_any _ _).mono ?_; rintro e w' ⟨rfl, rfl⟩; rw [T1.out])
    go_ret2
    exact ⟨by rw [T3.out]; rfl, rfl⟩
end Go.Proofs.YtabdbgnkiebcdaaGreatDoor

namespace Go.Proofs.YtabdbgnkiebcdaaGreatDoor
set_option linter.unusedVariables false
set_option linter.unusedSimpArgs false
open Go.RowKit

/-- Where x first stands among the first n; n if nowhere. -/
noncomputable def atL (X : Nat → Int) (x : Int) (n : Nat) : Int := if idxF X x n = -1 then n else idxF X x n
theorem atL_first {X : Nat → Int} {x : Int} {n k : Nat} (h : ∀ j, j < k → X j ≠ x) (hk : X k = x) (hn : k < n) : atL X x n = k := by
  unfold atL
  rw [idxF_some h hk hn, if_neg (by omega)]
theorem atL_none {X : Nat → Int} {x : Int} {n : Nat} (h : ∀ k, k < n → X k ≠ x) : atL X x n = n := by
  unfold atL
  rw [idxF_none h, if_pos rfl]
theorem atL_has {X : Nat → Int} {x : Int} {n : Nat} (h : HasI n X x) : atL X x n = idxF X x n := by
  have := idxF_has.1 h
  unfold atL
  rw [if_neg (by omega)]
/-- Does a person like x better than y? -/
def LikesOk (n : Nat) (L : Nat → Nat) (Z : Nat → Nat → Int) (p x y : Int) : Prop :=
  IsWishes n L Z ∧ InR p 0 (n - 1) ∧ InR x 0 (n - 1) ∧ InR y 0 (n - 1) ∧ idxF (Z p.toNat) x n < idxF (Z p.toNat) y n

theorem wishes_has {n : Nat} {L : Nat → Nat} {Z : Nat → Nat → Int} (h : IsWishes n L Z) {p : Nat} (hp : p < n) {x : Int} (hx : InR x 0 ((n : Int) - 1)) : HasI n (Z p) x := by
  obtain ⟨y, rfl⟩ := Int.eq_ofNat_of_zero_le hx.1
  obtain ⟨i, hi, e⟩ := (h.2 p hp).2.all (r := y) (by have := hx.2; omega)
  exact ⟨i, hi, e⟩
end Go.Proofs.YtabdbgnkiebcdaaGreatDoor

namespace Go.Proofs.YtabdbgnkiebcdaaGreatDoor
set_option linter.unusedVariables false
open Go.RowKit

/-- Wishes and a giving. -/
def GivenOk (n : Nat) (L : Nat → Nat) (Z : Nat → Nat → Int) (m : Nat) (G : Nat → Int) : Prop := IsWishes n L Z ∧ IsEach n m G
/-- Is the swap of i and k welcome to both? -/
def MayP (n : Nat) (Z : Nat → Nat → Int) (G : Nat → Int) (i k : Nat) : Prop := idxF (Z i) (G k) n < idxF (Z i) (G i) n ∧ idxF (Z k) (G i) n < idxF (Z k) (G k) n
/-- Wishes, a giving and two people. -/
def PairOk (n : Nat) (L : Nat → Nat) (Z : Nat → Nat → Int) (m : Nat) (G : Nat → Int) (i k : Int) : Prop := GivenOk n L Z m G ∧ InR i 0 (n - 1) ∧ InR k 0 (n - 1)
/-- .. two different ones. -/
def TwoPpl (n : Nat) (L : Nat → Nat) (Z : Nat → Nat → Int) (m : Nat) (G : Nat → Int) (i k : Int) : Prop := PairOk n L Z m G i k ∧ i ≠ k
def SwapMayOk (n : Nat) (L : Nat → Nat) (Z : Nat → Nat → Int) (m : Nat) (G : Nat → Int) (i k : Int) : Prop := PairOk n L Z m G i k ∧ MayP n Z G i.toNat k.toNat
theorem may_ne {n : Nat} {Z : Nat → Nat → Int} {G : Nat → Int} {i k : Nat} (h : MayP n Z G i k) : i ≠ k := fun e => by subst e; have := h.1; omega
theorem may_symm {n : Nat} {Z : Nat → Nat → Int} {G : Nat → Int} {i k : Nat} : MayP n Z G i k ↔ MayP n Z G k i := ⟨fun h => ⟨h.2, h.1⟩, fun h => ⟨h.2, h.1⟩⟩
theorem GivenOk.at {n m : Nat} {L : Nat → Nat} {Z : Nat → Nat → Int} {G : Nat → Int} (h : GivenOk n L Z m G) {i : Nat} (hi : i < n) : InR (G i) 0 ((n : Int) - 1) := by
  have := h.2.2.1 i hi
  exact ⟨this.1, by omega⟩
/-- What two people get is exchanged. -/
def swapF (G : Nat → Int) (i k : Nat) (j : Nat) : Int := if j = i then G k else if j = k then G i else G j
noncomputable def swapN (n : Nat) (L : Nat → Nat) (Z : Nat → Nat → Int) (m : Nat) (G : Nat → Int) (i k : Int) : Nat := if tt (TwoPpl n L Z m G i k) = true then n else 0
theorem swapN_yes {n m : Nat} {L : Nat → Nat} {Z : Nat → Nat → Int} {G : Nat → Int} {i k : Int} (h : TwoPpl n L Z m G i k) : swapN n L Z m G i k = n := by unfold swapN; rw [tt_of h]; rfl
theorem swapN_no {n m : Nat} {L : Nat → Nat} {Z : Nat → Nat → Int} {G : Nat → Int} {i k : Int} (h : ¬ TwoPpl n L Z m G i k) : swapN n L Z m G i k = 0 := by unfold swapN; rw [tt_no h]; rfl
theorem swapN_le (n : Nat) (L : Nat → Nat) (Z : Nat → Nat → Int) (m : Nat) (G : Nat → Int) (i k : Int) : swapN n L Z m G i k ≤ 1048576 := by
  by_cases h : TwoPpl n L Z m G i k
  · rw [swapN_yes h]; have := h.1.1.1.1.2; omega
  · rw [swapN_no h]; omega
end Go.Proofs.YtabdbgnkiebcdaaGreatDoor

namespace Go.Proofs.YtabdbgnkiebcdaaGreatDoor
set_option linter.unusedVariables false
open Go.RowKit

set_option maxHeartbeats 800000 in
theorem l1Every_any (m c : Nat) (a : Option Addr) (X : Nat → Int) (w : World) (hm : m ≤ 61) (ha : Rd w a m X) :
    Calls Tryz.prog 88 #[.slice a m c] w fun e w' => e = .returned (.bool (tt (IsDiff m m X))) ∧ w = w' := by
  go_enter Tryz.func88, Tryz.ntmps88
  go_wp2
  go_loop [2, 3, 4] (fun r s i => ∃ k : Nat, k ≤ m ∧ i = .int .i64 k ∧ r = .bool false ∧ ∃ S : Nat, S < 2 ^ m ∧ s = .int .i64 S ∧ SetOf S k X ∧ ∀ j, j < k → 0 ≤ X j ∧ X j < m) (fun _ _ i => m - (intOf i).toNat)
  case atStart => exact ⟨0, Nat.zero_le _, rfl, rfl, 0, Nat.two_pow_pos m, rfl, SetOf.nil X, fun j hj => absurd hj (Nat.not_lt_zero _)⟩
  case round =>
    obtain ⟨k, hk, rfl, rfl, S, hS, rfl, hset, hrng⟩ := hrel
    have HS := Lib.hid hS
    have H1 := Lib.hid hset
    have H2 := Lib.hid hrng
    clear hS hset hrng
    by_cases hlt : k < m
    · obtain ⟨ba, oa, rfl, hca⟩ := ha k hlt
      clear ha
      by_cases hin : InR (X k) 0 (m - 1)
      · have B1 := Lib.hid (tt_of hin)
        unfold InR at hin
        obtain ⟨x, hx⟩ := Int.eq_ofNat_of_zero_le hin.1
        have hxn : x < m := by omega
        clear hin
        rw [hx] at hca B1
        have hx62 : x < 62 := by omega
        have hS62 : S < 2 ^ 62 := Nat.lt_trans HS.out (two_pow_lt (by omega))
        have HX := Lib.hid hx
        clear hx
        obtain ⟨S', hS'⟩ : ∃ S', S' = S ||| 2 ^ x := ⟨_, rfl⟩
        have hput := bit_put S x hS62 hx62
        rw [← hS'] at hput
        have HS' := Lib.hid hS'
        clear hS' hS62 hx62
        go_wp2_with (go_at_call 68; refine (l6In_any _ _ _ _).mono ?_; rintro e w' ⟨rfl, rfl⟩; rw [B1.out])
        go_round
        case rel => exact ⟨k + 1, by omega, by go_num, rfl, S', by rw [HS'.out]; exact bit_put_lt HS.out hxn, rfl, by rw [HS'.out]; exact H1.out.put HX.out, fun j hj => by
          by_cases e : j = k
          · subst e; have := HX.out; omega
          · exact H2.out j (by omega)⟩
        case measure => simp [intOf]; omega
      · have B1 := Lib.hid (tt_no hin)
        have hno := Lib.hid (not_diff_range (n := m) (X := X) hlt (by unfold InR at hin; omega))
        clear hin
        go_wp2_with (go_at_call 68; refine (l6In_any _ _ _ _).mono ?_; rintro e w' ⟨rfl, rfl⟩; rw [B1.out])
        go_ret
        exact ⟨by rw [tt_no hno.out]; rfl, rfl⟩
    · obtain rfl : k = m := by omega
      have hiff := Lib.hid (every_iff HS.out H1.out H2.out)
      have hp := two_pow_lt (show k < 62 by omega)
      have h1 := Nat.two_pow_pos k
      have hw2 : wrap64 (((2 ^ k : Nat) : Int) - 1) = ((2 ^ k - 1 : Nat) : Int) := by rw [IntWalk.wrap64_in _ (by omega)]; omega
      have hd : (((S : Nat) : Int) == wrap64 (wrap64 (2 ^ k) - 1)) = tt (IsDiff k k X) := by
        rw [wrap_pow (show k < 62 by omega), hw2]
        by_cases hi : IsDiff k k X
        · rw [tt_of hi, hiff.out.2 hi]; simp
        · rw [tt_no hi]
          have : S ≠ 2 ^ k - 1 := fun e => hi (hiff.out.1 e)
          simp only [beq_eq_false_iff_ne]; omega
      have HD := Lib.hid hd
      clear ha h1 hp hw2 hd
      go_wp2
      go_ret
      exact ⟨ret_bool HD.out, rfl⟩
end Go.Proofs.YtabdbgnkiebcdaaGreatDoor

namespace Go.Proofs.YtabdbgnkiebcdaaGreatDoor
set_option linter.unusedVariables false
set_option linter.unusedSimpArgs false
open Go.RowKit

/-- Some bool. -/
def SomeBool (e : Ending) : Prop := ∃ b, e = .returned (.bool b)

set_option maxHeartbeats 800000 in
/-- Of a list however long the model's l1Every tells something. -/
theorem l1Every_some (m c : Nat) (a : Option Addr) (X : Nat → Int) (w : World) (hm : m ≤ 1048576) (ha : Rd w a m X) :
    Calls Tryz.prog 88 #[.slice a m c] w fun e w' => SomeBool e ∧ w = w' := by
  go_enter Tryz.func88, Tryz.ntmps88
  go_wp2
  go_loop [2, 3, 4] (fun r s i => ∃ k : Nat, k ≤ m ∧ i = .int .i64 k ∧ r = .bool false ∧ ∃ S : Int, s = .int .i64 S) (fun _ _ i => m - (intOf i).toNat)
  case atStart => exact ⟨0, Nat.zero_le _, rfl, rfl, 0, rfl⟩
  case round =>
    obtain ⟨k, hk, rfl, rfl, S, rfl⟩ := hrel
    by_cases hlt : k < m
    · obtain ⟨ba, oa, rfl, hca⟩ := ha k hlt
      clear ha
      by_cases hin : InR (X k) 0 (m - 1)
      · have B1 := Lib.hid (tt_of hin)
        unfold InR at hin
        obtain ⟨x, hx⟩ := Int.eq_ofNat_of_zero_le hin.1
        have hxn : x < m := by omega
        clear hin
        rw [hx] at hca B1
        clear hx
        go_wp2_with (go_at_call 68; refine (l6In_any _ _ _ _).mono ?_; rintro e w' ⟨rfl, rfl⟩; rw [B1.out])
        go_round
        case rel => exact ⟨k + 1, by omega, by go_num, rfl, _, rfl⟩
        case measure => simp [intOf]; omega
      · have B1 := Lib.hid (tt_no hin)
        clear hin
        go_wp2_with (go_at_call 68; refine (l6In_any _ _ _ _).mono ?_; rintro e w' ⟨rfl, rfl⟩; rw [B1.out])
        go_ret
        exact ⟨⟨_, rfl⟩, rfl⟩
    · obtain rfl : k = m := by omega
      clear ha
      go_wp2
      go_ret
      exact ⟨⟨_, rfl⟩, rfl⟩

set_option maxHeartbeats 800000 in
theorem specHouseIn_any (n c : Nat) (a : Option Addr) (A : Nat → Option Addr) (L C : Nat → Nat) (Z : Nat → Nat → Int) (w : World) (hn0 : n ≤ 1048576) (hL0 : ∀ r, r < n → L r ≤ 1048576) (ha0 : Tab w a n A L C Z) :
    Calls Tryz.prog 81 #[.slice a n c] w fun e w' => e = .returned (.bool (tt (IsWishes n L Z))) ∧ w = w' := by
  have HA := Lib.hid ha0
  have HL := Lib.hid hL0
  clear ha0 hL0
  go_enter Tryz.func81, Tryz.ntmps81
  go_wp2
  go_loop [2, 3] (fun _ i => ∃ k : Nat, k ≤ n ∧ i = .int .i64 k ∧ (n ≤ 5 → ∀ j, j < k → L j = n ∧ IsDiff n n (Z j))) (fun _ i => n - (intOf i).toNat)
  case atStart => exact ⟨0, Nat.zero_le _, rfl, fun _ j hj => absurd hj (Nat.not_lt_zero _)⟩
  case round =>
    obtain ⟨k, hk, rfl, hall⟩ := hrel
    have HAll := Lib.hid hall
    clear hall
    by_cases hlt : k < n
    · obtain ⟨ba, oa, rfl, hca, hra⟩ := HA.out k hlt
      have HRd := Lib.hid hra
      have hLk := HL.out k hlt
      clear hra
      by_cases he : L k = n
      · have hd : ((L k : Int) != (n : Int)) = false := by simp [he]
        by_cases h5 : n ≤ 5
        · by_cases hdf : IsDiff n n (Z k)
          · have T2 := Lib.hid (tt_of (show IsDiff (L k) (L k) (Z k) by rw [he]; exact hdf))
            have HD := Lib.hid hdf
            have HE := Lib.hid he
            have hl61 : L k ≤ 61 := by omega
            clear hdf he
            go_wp2_with (go_at_call 88; refine (l1Every_any (L k) (C k) _ (Z k) _ hl61 HRd.out).mono ?_; rintro e w' ⟨rfl, rfl⟩; rw [T2.out])
            go_round
            case rel => exact ⟨k + 1, by omega, by go_num, fun _ j hj => by
              by_cases e : j = k
              · subst e; exact ⟨HE.out, HD.out⟩
              · exact HAll.out h5 j (by omega)⟩
            case measure => simp [intOf]; omega
          · have T2 := Lib.hid (tt_no (show ¬ IsDiff (L k) (L k) (Z k) by rw [he]; exact hdf))
            have T3 := Lib.hid (tt_no (show ¬ IsWishes n L Z from fun h => hdf (h.2 k hlt).2))
            have hl61 : L k ≤ 61 := by omega
            clear hdf he
            go_wp2_with (go_at_call 88; refine (l1Every_any (L k) (C k) _ (Z k) _ hl61 HRd.out).mono ?_; rintro e w' ⟨rfl, rfl⟩; rw [T2.out])
            go_ret
            exact ⟨by rw [T3.out]; rfl, rfl⟩
        · have T3 := Lib.hid (tt_no (show ¬ IsWishes n L Z from fun h => h5 h.1.2))
          clear he
          go_wp2_with fail
          refine (l1Every_some (L k) (C k) _ (Z k) _ hLk HRd.out).mono ?_
          rintro e w' ⟨⟨b, rfl⟩, rfl⟩
          cases b
          · go_wp2
            go_ret
            exact ⟨by rw [T3.out]; rfl, rfl⟩
          · go_wp2
            go_round
            case rel => exact ⟨k + 1, by omega, by go_num, fun h => absurd h h5⟩
            case measure => simp [intOf]; omega
      · have hd : ((L k : Int) != (n : Int)) = true := by simp; omega
        have T3 := Lib.hid (tt_no (show ¬ IsWishes n L Z from fun h => he (h.2 k hlt).1))
        clear he
        go_wp2
        go_ret
        exact ⟨by rw [T3.out]; rfl, rfl⟩
    · obtain rfl : k = n := by omega
      have TE := Lib.hid (tt_congr (show InR (k : Int) 2 5 ↔ IsWishes k L Z from ⟨fun h => ⟨⟨by have := h.1; omega, by have := h.2; omega⟩, HAll.out (by have := h.2; omega)⟩, fun h => ⟨by have := h.1.1; omega, by have := h.1.2; omega⟩⟩))
      go_wp2_with (go_at_call 68; refine (l6In_any _ _ _ _).mono ?_; rintro e w' ⟨rfl, rfl⟩; rw [TE.out])
      go_ret
      exact ⟨rfl, rfl⟩
theorem specHouseIn_below (n c : Nat) (a : Option Addr) (A : Nat → Option Addr) (L C : Nat → Nat) (Z : Nat → Nat → Int) (w : World) (hn0 : n ≤ 1048576) (hL0 : ∀ r, r < n → L r ≤ 1048576) (ha0 : Tab w a n A L C Z) :
    Calls Tryz.prog 81 #[.slice a n c] w fun e w' => e = .returned (.bool (tt (IsWishes n L Z))) ∧ Below w.heap.size w w' := by
  refine (specHouseIn_any n c a A L C Z w hn0 hL0 ha0).mono ?_
  rintro e w' ⟨rfl, rfl⟩
  exact ⟨rfl, Below.refl _ _⟩
end Go.Proofs.YtabdbgnkiebcdaaGreatDoor

namespace Go.Proofs.YtabdbgnkiebcdaaGreatDoor
set_option linter.unusedVariables false
set_option linter.unusedSimpArgs false
open Go.RowKit

/-- A row that lies from lo on, if it has something. -/
def ApartI (lo m : Nat) (b : Option Addr) : Prop := 0 < m → ∀ g o, b = some ⟨g, o, none⟩ → lo ≤ g
theorem rdA_but {r lo : Nat} {w w' : World} {b : Option Addr} {m : Nat} {X : Nat → Int} (h : Rd w b m X) (hA : ApartI lo m b) (hr : r < lo) (hk : ButR r w.heap.size w w') : Rd w' b m X := by
  intro k hkm
  obtain ⟨g, o, he, hc⟩ := h k hkm
  have h1 := hA (by omega) g o he
  have hl : g < w.heap.size := World.block_lt_of_cell? _ _ hc
  exact ⟨g, o, he, (World.cell?_of_block (w := w) (a := ⟨g, o + k, none⟩) (hk.block g hl (by omega))).trans hc⟩

/-- What l91Given hands back: a table of one to five rows, of five numbers at most, a row of six at most, the reader gone on. -/
def DrewGiven (r : Nat) (a : Option Addr) (n c p : Nat) (w : World) (e : Ending) (w' : World) : Prop :=
  ∃ ga N gc A L C Z b m d X p', e = .returned (.tuple #[.slice ga N gc, .slice b m d]) ∧ ((1 ≤ N ∧ N ≤ 5) ∧ m ≤ d ∧ m ≤ 6) ∧ ((∀ s, s < N → L s ≤ 5) ∧ Apart w.heap.size N ga A ∧ ApartI w.heap.size m b) ∧ Tab w' ga N A L C Z ∧ Rd w' b m X ∧ RdrAt w' r a n c p' ∧ p' ≤ p + 300 ∧ ButR r w.heap.size w w'

/-- The same from a code: wishes and a row, at the top. -/
def DrewGivenTop (w : World) (e : Ending) (w' : World) : Prop :=
  ∃ ga N gc A L C Z b m d X, e = .returned (.tuple #[.slice ga N gc, .slice b m d]) ∧ ((1 ≤ N ∧ N ≤ 5) ∧ m ≤ d ∧ m ≤ 6) ∧ (∀ s, s < N → L s ≤ 5) ∧ Tab w' ga N A L C Z ∧ Rd w' b m X ∧ Below w.heap.size w w'
end Go.Proofs.YtabdbgnkiebcdaaGreatDoor

namespace Go.Proofs.YtabdbgnkiebcdaaGreatDoor
set_option linter.unusedVariables false
open Go.RowKit

/-- Among m + 1 numbers out of m two are the same. -/
theorem twice_in (m : Nat) : ∀ (l : List Nat) (x : Nat → Nat), l.length ≤ m → (∀ i, i ≤ m → x i ∈ l) → ∃ a b, a < b ∧ b ≤ m ∧ x a = x b := by
  induction m with
  | zero =>
    intro l x hl h
    have := h 0 (Nat.le_refl _)
    cases l with
    | nil => simp at this
    | cons => simp at hl
  | succ m ih =>
    intro l x hl h
    by_cases e : ∃ a, a < m + 1 ∧ x a = x (m + 1)
    · obtain ⟨a, h1, h2⟩ := e
      exact ⟨a, m + 1, h1, Nat.le_refl _, h2⟩
    · have hm := h (m + 1) (Nat.le_refl _)
      obtain ⟨a, b, h1, h2, h3⟩ := ih (l.erase (x (m + 1))) x (by rw [List.length_erase_of_mem hm]; omega) (fun i hi => (List.mem_erase_of_ne (fun e' => e ⟨i, by omega, e'⟩)).2 (h i (by omega)))
      exact ⟨a, b, h1, by omega, h3⟩

/-- f done k times. -/
def it (f : Nat → Nat) : Nat → Nat → Nat
  | 0, i => i
  | k + 1, i => f (it f k i)
theorem it_add (f : Nat → Nat) (a b i : Nat) : it f (a + b) i = it f a (it f b i) := by
  induction a with
  | zero => rw [Nat.zero_add]; rfl
  | succ a ih => rw [Nat.add_right_comm]; show f _ = f _; rw [ih]
theorem it_front (f : Nat → Nat) (k i : Nat) : it f (k + 1) i = it f k (f i) := it_add f k 1 i
theorem it_mul {f : Nat → Nat} {k i : Nat} (h : it f k i = i) (m : Nat) : it f (m * k) i = i := by
  induction m with
  | zero => rw [Nat.zero_mul]; rfl
  | succ m ih => rw [Nat.succ_mul, it_add, h, ih]

/-- i lies on a circle of f. -/
def Circ (f : Nat → Nat) (i : Nat) : Prop := ∃ k, 1 ≤ k ∧ it f k i = i

theorem Circ.step {f : Nat → Nat} {i : Nat} (h : Circ f i) : Circ f (f i) := by
  obtain ⟨k, h1, h2⟩ := h
  exact ⟨k, h1, by rw [← it_front]; show f _ = f _; rw [h2]⟩
theorem Circ.it {f : Nat → Nat} {i : Nat} (h : Circ f i) (k : Nat) : Circ f (it f k i) := by
  induction k with
  | zero => exact h
  | succ k ih => exact ih.step
theorem Circ.inj {f : Nat → Nat} {i j : Nat} (hi : Circ f i) (hj : Circ f j) (e : f i = f j) : i = j := by
  obtain ⟨k, h1, h2⟩ := hi
  obtain ⟨m, h3, h4⟩ := hj
  have e1 := it_mul h2 m
  have e2 := it_mul h4 k
  have hp : 1 ≤ m * k := Nat.mul_pos (by omega) (by omega)
  obtain ⟨q, hq⟩ : ∃ q, m * k = q + 1 := ⟨m * k - 1, by omega⟩
  rw [hq, it_front] at e1
  rw [Nat.mul_comm, hq, it_front] at e2
  rw [← e1, e, e2]
/-- What leads to i lies on the circle too. -/
theorem Circ.pred {f : Nat → Nat} {i : Nat} (h : Circ f i) : ∃ j, Circ f j ∧ f j = i ∧ ∃ k, j = Go.Proofs.YtabdbgnkiebcdaaGreatDoor.it f k i := by
  obtain ⟨k, h1, h2⟩ := h
  obtain ⟨q, rfl⟩ : ∃ q, k = q + 1 := ⟨k - 1, by omega⟩
  exact ⟨_, Circ.it ⟨q + 1, h1, h2⟩ q, h2, q, rfl⟩
theorem it_in {f : Nat → Nat} {P : Nat → Prop} (hS : ∀ i, P i → P (f i)) {i : Nat} (hi : P i) (k : Nat) : P (it f k i) := by
  induction k with
  | zero => exact hi
  | succ k ih => exact hS _ ih
theorem circ_short {f : Nat → Nat} {l : List Nat} (hS : ∀ i, i ∈ l → f i ∈ l) {i : Nat} (hi : i ∈ l) (h : Circ f i) : ∃ k, 1 ≤ k ∧ k ≤ l.length ∧ it f k i = i := by
  obtain ⟨a, b, h1, h2, h3⟩ := twice_in l.length l (fun k => it f k i) (Nat.le_refl _) (fun k _ => it_in (P := fun x => x ∈ l) hS hi k)
  obtain ⟨k, h4, h5⟩ := h
  obtain ⟨K, hK⟩ : ∃ K, a * k = K + a := ⟨a * k - a, by have := Nat.le_mul_of_pos_right a (show 0 < k by omega); omega⟩
  have e1 : it f K (it f a i) = i := by rw [← it_add, ← hK]; exact it_mul h5 a
  refine ⟨b - a, by omega, by omega, ?_⟩
  have e2 : it f (b - a) (it f K (it f a i)) = it f K (it f (b - a) (it f a i)) := by rw [← it_add f (b - a) K, ← it_add f K (b - a), Nat.add_comm]
  rw [e1, ← it_add f (b - a) a, Nat.sub_add_cancel (by omega)] at e2
  have h3' : it f a i = it f b i := h3
  rw [e2, ← h3', e1]
theorem circ_image {f : Nat → Nat} {l : List Nat} (hS : ∀ i, i ∈ l → f i ∈ l) {n : Nat} (hn : l.length ≤ n) (i : Nat) : (i ∈ l ∧ Circ f i) ↔ ∃ j, j ∈ l ∧ it f n j = i := by
  constructor
  · rintro ⟨hi, k, h1, h2⟩
    obtain ⟨K, hK⟩ : ∃ K, n * k = n + K := ⟨n * k - n, by have := Nat.le_mul_of_pos_right n (show 0 < k by omega); omega⟩
    exact ⟨it f K i, it_in (P := fun x => x ∈ l) hS hi K, by rw [← it_add, ← hK]; exact it_mul h2 n⟩
  · rintro ⟨j, hj, rfl⟩
    refine ⟨it_in (P := fun x => x ∈ l) hS hj n, ?_⟩
    obtain ⟨a, b, h1, h2, h3⟩ := twice_in l.length l (fun k => it f k j) (Nat.le_refl _) (fun k _ => it_in (P := fun x => x ∈ l) hS hj k)
    refine ⟨b - a, by omega, ?_⟩
    have h3' : it f a j = it f b j := h3
    have e1 : it f n j = it f (n - a) (it f a j) := by rw [← it_add, Nat.sub_add_cancel (by omega)]
    have e2 : it f (b - a) (it f n j) = it f (n - a) (it f b j) := by rw [← it_add, ← it_add]; congr 1; omega
    rw [e2, ← h3', ← e1]
theorem circ_some {f : Nat → Nat} {l : List Nat} (hS : ∀ i, i ∈ l → f i ∈ l) {j : Nat} (hj : j ∈ l) : ∃ i, i ∈ l ∧ Circ f i :=
  ⟨_, (circ_image hS (Nat.le_refl _) _).2 ⟨j, hj, rfl⟩⟩

/-- The first of the first k numbers that is in a set. -/
def ptO (X : Nat → Int) (S : Nat → Bool) : Nat → Option Nat
  | 0 => none
  | k + 1 => match ptO X S k with
    | some y => some y
    | none => if S (X k).toNat = true then some (X k).toNat else none
/-- The same; 0 if none is. -/
def ptN (X : Nat → Int) (S : Nat → Bool) (n : Nat) : Nat := (ptO X S n).getD 0
theorem ptO_none {X : Nat → Int} {S : Nat → Bool} {n : Nat} (h : ∀ j, j < n → S (X j).toNat = false) : ptO X S n = none := by
  induction n with
  | zero => rfl
  | succ n ih =>
    unfold ptO
    rw [ih fun j hj => h j (by omega)]
    show (if S (X n).toNat = true then some (X n).toNat else none) = none
    rw [h n (by omega)]; rfl
theorem ptO_some {X : Nat → Int} {S : Nat → Bool} {n k : Nat} (h : ∀ j, j < k → S (X j).toNat = false) (hk : S (X k).toNat = true) (hn : k < n) : ptO X S n = some (X k).toNat := by
  induction n with
  | zero => omega
  | succ n ih =>
    unfold ptO
    by_cases e : k = n
    · subst e
      rw [ptO_none h]
      show (if S (X k).toNat = true then some (X k).toNat else none) = _
      rw [if_pos hk]
    · rw [ih (by omega)]
theorem ptN_first {X : Nat → Int} {S : Nat → Bool} {n k : Nat} (h : ∀ j, j < k → S (X j).toNat = false) (hk : S (X k).toNat = true) (hn : k < n) : ptN X S n = (X k).toNat := by
  unfold ptN; rw [ptO_some h hk hn]; rfl
theorem ptN_none {X : Nat → Int} {S : Nat → Bool} {n : Nat} (h : ∀ j, j < n → S (X j).toNat = false) : ptN X S n = 0 := by
  unfold ptN; rw [ptO_none h]; rfl
/-- The first place of a set. -/
theorem first_place {P : Nat → Prop} {n k : Nat} (hk : k < n) (h : P k) : ∃ j, j ≤ k ∧ P j ∧ ∀ i, i < j → ¬ P i := by
  induction k using Nat.strongRecOn with
  | _ k ih =>
    by_cases e : ∃ i, i < k ∧ P i
    · obtain ⟨i, h1, h2⟩ := e
      obtain ⟨j, h3, h4, h5⟩ := ih i h1 (by omega) h2
      exact ⟨j, by omega, h4, h5⟩
    · exact ⟨k, Nat.le_refl _, h, fun i hi hp => e ⟨i, hi, hp⟩⟩
/-- If one of them is in the set, it is the first such one. -/
theorem ptN_spec {X : Nat → Int} {S : Nat → Bool} {n k : Nat} (hk : k < n) (h : S (X k).toNat = true) :
    ∃ j, j ≤ k ∧ S (X j).toNat = true ∧ (∀ i, i < j → S (X i).toNat = false) ∧ ptN X S n = (X j).toNat := by
  obtain ⟨j, h1, h2, h3⟩ := first_place (P := fun i => S (X i).toNat = true) hk h
  have h4 : ∀ i, i < j → S (X i).toNat = false := fun i hi => by simpa using h3 i hi
  exact ⟨j, h1, h2, h4, ptN_first h4 h2 (by omega)⟩
theorem ptN_congr {X : Nat → Int} {S T : Nat → Bool} {n : Nat} (h : ∀ k, k < n → S (X k).toNat = T (X k).toNat) : ptN X S n = ptN X T n := by
  have : ∀ m, m ≤ n → ptO X S m = ptO X T m := by
    intro m hm
    induction m with
    | zero => rfl
    | succ m ih => unfold ptO; rw [ih (by omega), h m (by omega)]
  unfold ptN; rw [this n (Nat.le_refl _)]

/-- A set of people. -/
def Ppl (n : Nat) (S : Nat → Bool) : Prop := ∀ y, S y = true → y < n
/-- Where i points, of those in S. -/
def ptS (Z : Nat → Nat → Int) (n : Nat) (S : Nat → Bool) (i : Nat) : Nat := ptN (Z i) S n
/-- Who is on a circle, of those in S. -/
noncomputable def circB (Z : Nat → Nat → Int) (n : Nat) (S : Nat → Bool) (i : Nat) : Bool := S i && tt (Circ (ptS Z n S) i)
/-- Who is left behind t rounds. -/
noncomputable def tS (Z : Nat → Nat → Int) (n : Nat) : Nat → Nat → Bool
  | 0, y => decide (y < n)
  | t + 1, y => tS Z n t y && !circB Z n (tS Z n t) y
/-- What i has got behind t rounds. -/
noncomputable def gF (Z : Nat → Nat → Int) (n : Nat) : Nat → Nat → Nat
  | 0, _ => 0
  | t + 1, i => if circB Z n (tS Z n t) i = true then ptS Z n (tS Z n t) i else gF Z n t i

section
variable {n : Nat} {L : Nat → Nat} {Z : Nat → Nat → Int}
theorem tS_ppl (Z : Nat → Nat → Int) (n t : Nat) : Ppl n (tS Z n t) := by
  induction t with
  | zero => intro y h; simpa [tS] using h
  | succ t ih => intro y h; refine ih y ?_; unfold tS at h; simp only [Bool.and_eq_true] at h; exact h.1
theorem tS_down {t y : Nat} (h : tS Z n (t + 1) y = true) : tS Z n t y = true := by unfold tS at h; simp only [Bool.and_eq_true] at h; exact h.1
theorem tS_mono {s t y : Nat} (hst : s ≤ t) (h : tS Z n t y = true) : tS Z n s y = true := by
  induction t with
  | zero => have : s = 0 := by omega
            subst this; exact h
  | succ t ih =>
    by_cases e : s = t + 1
    · subst e; exact h
    · exact ih (by omega) (tS_down h)
theorem circB_in {S : Nat → Bool} {i : Nat} (h : circB Z n S i = true) : S i = true := by unfold circB at h; simp only [Bool.and_eq_true] at h; exact h.1
theorem circB_circ {S : Nat → Bool} {i : Nat} (h : circB Z n S i = true) : Circ (ptS Z n S) i := by unfold circB at h; simp only [Bool.and_eq_true] at h; exact tt_iff.1 h.2
theorem circB_of {S : Nat → Bool} {i : Nat} (h : S i = true) (hc : Circ (ptS Z n S) i) : circB Z n S i = true := by unfold circB; rw [h, tt_of hc]; rfl
theorem circB_gone {t y : Nat} (h : circB Z n (tS Z n t) y = true) : tS Z n (t + 1) y = false := by unfold tS; rw [h, circB_in h]; rfl

/-- Who is left points at one who is left: the first such one of the list. -/
theorem ptS_spec (hW : IsWishes n L Z) {S : Nat → Bool} (hS : Ppl n S) {i y : Nat} (hi : i < n) (hy : S y = true) :
    ∃ j, j < n ∧ S (Z i j).toNat = true ∧ (∀ k, k < j → S (Z i k).toNat = false) ∧ ptS Z n S i = (Z i j).toNat := by
  obtain ⟨k, hk, e⟩ := (hW.2 i hi).2.all (hS y hy)
  obtain ⟨j, h1, h2, h3, h4⟩ := ptN_spec (X := Z i) (S := S) (n := n) hk (by rw [e]; simpa using hy)
  exact ⟨j, by omega, h2, h3, h4⟩
theorem ptS_in (hW : IsWishes n L Z) {S : Nat → Bool} (hS : Ppl n S) {i : Nat} (hi : S i = true) : S (ptS Z n S i) = true := by
  obtain ⟨j, _, h, _, e⟩ := ptS_spec hW hS (hS i hi) hi
  rw [e]; exact h
/-- The people of a set, in order. -/
def pplL (n : Nat) (S : Nat → Bool) : List Nat := (List.range n).filter S
theorem mem_pplL {S : Nat → Bool} (hS : Ppl n S) {i : Nat} : i ∈ pplL n S ↔ S i = true := by
  unfold pplL; rw [List.mem_filter, List.mem_range]; exact ⟨fun h => h.2, fun h => ⟨hS i h, h⟩⟩
theorem pplL_le (n : Nat) (S : Nat → Bool) : (pplL n S).length ≤ n := by
  have := List.length_filter_le S (List.range n); rw [List.length_range] at this; exact this
/-- The people on circles, as the model finds them: who is reached by all. -/
theorem circB_image (hW : IsWishes n L Z) {S : Nat → Bool} (hS : Ppl n S) (i : Nat) : circB Z n S i = true ↔ ∃ j, S j = true ∧ it (ptS Z n S) n j = i := by
  have h := circ_image (f := ptS Z n S) (l := pplL n S) (fun i hi => (mem_pplL hS).2 (ptS_in hW hS ((mem_pplL hS).1 hi))) (pplL_le n S) i
  constructor
  · intro hc
    obtain ⟨j, h1, h2⟩ := h.1 ⟨(mem_pplL hS).2 (circB_in hc), circB_circ hc⟩
    exact ⟨j, (mem_pplL hS).1 h1, h2⟩
  · rintro ⟨j, h1, h2⟩
    obtain ⟨h3, h4⟩ := h.2 ⟨j, (mem_pplL hS).2 h1, h2⟩
    exact circB_of ((mem_pplL hS).1 h3) h4
/-- The same, as the program finds them: as many steps as there are people left lead back. -/
theorem circB_steps (hW : IsWishes n L Z) {S : Nat → Bool} (hS : Ppl n S) {i : Nat} (hi : S i = true) : circB Z n S i = true ↔ ∃ k, 1 ≤ k ∧ k ≤ (pplL n S).length ∧ it (ptS Z n S) k i = i := by
  constructor
  · intro hc
    exact circ_short (fun i hi => (mem_pplL hS).2 (ptS_in hW hS ((mem_pplL hS).1 hi))) ((mem_pplL hS).2 hi) (circB_circ hc)
  · rintro ⟨k, h1, _, h3⟩
    exact circB_of hi ⟨k, h1, h3⟩
theorem circB_some (hW : IsWishes n L Z) {S : Nat → Bool} (hS : Ppl n S) {j : Nat} (hj : S j = true) : ∃ i, circB Z n S i = true := by
  obtain ⟨i, h1, h2⟩ := circ_some (f := ptS Z n S) (l := pplL n S) (fun i hi => (mem_pplL hS).2 (ptS_in hW hS ((mem_pplL hS).1 hi))) ((mem_pplL hS).2 hj)
  exact ⟨i, circB_of ((mem_pplL hS).1 h1) h2⟩

/-- Behind t rounds none is left, and before there was one. -/
def IsTurns (Z : Nat → Nat → Int) (n t : Nat) : Prop := (∀ y, tS Z n t y = false) ∧ ∀ s, s < t → ∃ y, tS Z n s y = true
theorem IsTurns.uniq {s t : Nat} (h : IsTurns Z n s) (k : IsTurns Z n t) : s = t := by
  rcases Nat.lt_trichotomy s t with h1 | h1 | h1
  · obtain ⟨y, hy⟩ := k.2 s h1; rw [h.1 y] at hy; cases hy
  · exact h1
  · obtain ⟨y, hy⟩ := h.2 t h1; rw [k.1 y] at hy; cases hy
noncomputable def turnsN (Z : Nat → Nat → Int) (n : Nat) : Nat := @dite _ (∃ t, IsTurns Z n t) (Classical.propDecidable _) (fun h => Classical.choose h) (fun _ => 0)
theorem turnsN_of {t : Nat} (h : IsTurns Z n t) : turnsN Z n = t := by
  unfold turnsN
  rw [dif_pos ⟨t, h⟩]
  exact (Classical.choose_spec (p := fun t => IsTurns Z n t) ⟨t, h⟩).uniq h
/-- What i gets in the end. -/
noncomputable def giveF (Z : Nat → Nat → Int) (n i : Nat) : Int := (gF Z n (turnsN Z n) i : Int)
/-- The number that tells a set of people. -/
def IsMask (n m : Nat) (S : Nat → Bool) : Prop := m < 2 ^ n ∧ ∀ y, m.testBit y = S y
theorem IsMask.uniq {m m' : Nat} {S : Nat → Bool} (h : IsMask n m S) (k : IsMask n m' S) : m = m' := Nat.eq_of_testBit_eq fun y => by rw [h.2, k.2]
def maskN (S : Nat → Bool) : Nat → Nat
  | 0 => 0
  | k + 1 => if S k = true then maskN S k ||| 2 ^ k else maskN S k
theorem maskN_bit (S : Nat → Bool) (k y : Nat) : (maskN S k).testBit y = (decide (y < k) && S y) := by
  induction k with
  | zero => simp [maskN]
  | succ k ih =>
    unfold maskN
    by_cases h : S k = true
    · rw [if_pos h, Nat.testBit_or, ih, Nat.testBit_two_pow]
      by_cases e : y = k
      · subst e; simp [h]
      · have e1 : decide (k = y) = false := by simpa using fun h => e h.symm
        have e2 : decide (y < k) = decide (y < k + 1) := by rw [decide_eq_decide]; omega
        rw [e1, e2, Bool.or_false]
    · rw [if_neg h, ih]
      by_cases e : y = k
      · subst e; simp [h]
      · have e2 : decide (y < k) = decide (y < k + 1) := by rw [decide_eq_decide]; omega
        rw [e2]
theorem maskN_lt (S : Nat → Bool) (k : Nat) : maskN S k < 2 ^ k := by
  induction k with
  | zero => exact Nat.one_pos
  | succ k ih =>
    have h1 : 2 ^ k < 2 ^ (k + 1) := Nat.pow_lt_pow_right (by omega) (by omega)
    unfold maskN
    by_cases h : S k = true
    · rw [if_pos h]; exact Nat.or_lt_two_pow (by omega) h1
    · rw [if_neg h]; omega
theorem maskN_is {S : Nat → Bool} (hS : Ppl n S) : IsMask n (maskN S n) S := ⟨maskN_lt S n, fun y => by
  rw [maskN_bit]
  cases h : S y
  · simp
  · simp [hS y h]⟩
end
end Go.Proofs.YtabdbgnkiebcdaaGreatDoor

namespace Go.Proofs.YtabdbgnkiebcdaaGreatDoor
set_option linter.unusedVariables false
set_option linter.unusedSimpArgs false
open Go.RowKit

/-- x is put into the set: the same, the number being a term of its own. -/
theorem bits_or_pow (S x : Nat) (hS : S < 2 ^ 62) (hx : x < 62) : bits .or .i64 (S : Int) (wrap64 (2 ^ x)) = ((S ||| 2 ^ x : Nat) : Int) := bit_put S x hS hx

/-- The set of those who are reached by all of S behind s steps. -/
def Reach (n : Nat) (f : Nat → Nat) (S : Nat → Bool) (s K : Nat) : Prop := K < 2 ^ n ∧ ∀ y, K.testBit y = true ↔ ∃ j, S j = true ∧ it f s j = y
/-- The set of those at whom the first i of K point. -/
def Front (n : Nat) (f : Nat → Nat) (K i N : Nat) : Prop := N < 2 ^ n ∧ ∀ y, N.testBit y = true ↔ ∃ x, x < i ∧ K.testBit x = true ∧ f x = y
theorem Front.zero (n : Nat) (f : Nat → Nat) (K : Nat) : Front n f K 0 0 := ⟨Nat.two_pow_pos n, fun y => by simp⟩
theorem Front.no {n K i N : Nat} {f : Nat → Nat} (h : Front n f K i N) (hi : K.testBit i = false) : Front n f K (i + 1) N := by
  refine ⟨h.1, fun y => (h.2 y).trans ?_⟩
  constructor
  · rintro ⟨x, h1, h2, h3⟩; exact ⟨x, by omega, h2, h3⟩
  · rintro ⟨x, h1, h2, h3⟩
    refine ⟨x, ?_, h2, h3⟩
    by_cases e : x = i
    · subst e; rw [hi] at h2; cases h2
    · omega
theorem Front.yes {n K i N : Nat} {f : Nat → Nat} (h : Front n f K i N) (hi : K.testBit i = true) (hf : f i < n) : Front n f K (i + 1) (N ||| 2 ^ f i) := by
  refine ⟨bit_put_lt h.1 hf, fun y => ?_⟩
  rw [bit_put_has, h.2 y]
  constructor
  · rintro (⟨x, h1, h2, h3⟩ | rfl)
    · exact ⟨x, by omega, h2, h3⟩
    · exact ⟨i, by omega, hi, rfl⟩
  · rintro ⟨x, h1, h2, h3⟩
    by_cases e : x = i
    · subst e; exact .inr h3.symm
    · exact .inl ⟨x, by omega, h2, h3⟩
theorem Reach.next {n K N s : Nat} {f : Nat → Nat} {S : Nat → Bool} (h : Reach n f S s K) (k : Front n f K n N) : Reach n f S (s + 1) N := by
  refine ⟨k.1, fun y => (k.2 y).trans ?_⟩
  constructor
  · rintro ⟨x, _, h2, h3⟩
    obtain ⟨j, h4, h5⟩ := (h.2 x).1 h2
    exact ⟨j, h4, by show f _ = _; rw [h5]; exact h3⟩
  · rintro ⟨j, h4, h5⟩
    have h6 := (h.2 (it f s j)).2 ⟨j, h4, rfl⟩
    refine ⟨it f s j, ?_, h6, h5⟩
    rcases Nat.lt_or_ge (it f s j) n with h7 | h7
    · exact h7
    · rw [Nat.testBit_lt_two_pow (Nat.lt_of_lt_of_le h.1 (Nat.pow_le_pow_right (by omega) h7))] at h6; cases h6
theorem Reach.zero {n m : Nat} (f : Nat → Nat) (hm : m < 2 ^ n) : Reach n f m.testBit 0 m := ⟨hm, fun y => ⟨fun h => ⟨y, h, rfl⟩, fun ⟨j, h1, h2⟩ => by have : j = y := h2; rw [← this]; exact h1⟩⟩
theorem mask_ppl {n m : Nat} (hm : m < 2 ^ n) : Ppl n m.testBit := fun y hy => by
  rcases Nat.lt_or_ge y n with h | h
  · exact h
  · rw [Nat.testBit_lt_two_pow (Nat.lt_of_lt_of_le hm (Nat.pow_le_pow_right (by omega) h))] at hy; cases hy
theorem circB_ppl {n : Nat} {S : Nat → Bool} (Z : Nat → Nat → Int) (hS : Ppl n S) : Ppl n (circB Z n S) := fun y hy => hS y (circB_in hy)
theorem Reach.all {n m K : Nat} {L : Nat → Nat} {Z : Nat → Nat → Int} (hW : IsWishes n L Z) (hm : m < 2 ^ n) (h : Reach n (ptS Z n m.testBit) m.testBit n K) : K = maskN (circB Z n m.testBit) n := by
  refine Nat.eq_of_testBit_eq fun y => ?_
  rw [(maskN_is (circB_ppl Z (mask_ppl hm))).2 y, Bool.eq_iff_iff, h.2 y, circB_image hW (mask_ppl hm)]

end Go.Proofs.YtabdbgnkiebcdaaGreatDoor

namespace Go.Proofs.YtabdbgnkiebcdaaGreatDoor
set_option linter.unusedVariables false
set_option linter.unusedSimpArgs false
open Go.RowKit

/-- What a trade hands back: a row of its own, and a number. -/
def RetIN (n : Nat) (X : Nat → Int) (t : Int) (w : World) (e : Ending) (w' : World) : Prop :=
  ∃ a c, e = .returned (.tuple #[.slice a n c, .int .i64 t]) ∧ n ≤ c ∧ OwnI w' w.heap.size w'.heap.size a n X ∧ Below w.heap.size w w'

/-- What has been got when the first i people have been seen in round t. -/
noncomputable def midF (Z : Nat → Nat → Int) (n t i y : Nat) : Int := if y < i then (gF Z n (t + 1) y : Int) else (gF Z n t y : Int)
theorem midF_zero (Z : Nat → Nat → Int) (n t y : Nat) : (gF Z n t y : Int) = midF Z n t 0 y := by unfold midF; rw [if_neg (Nat.not_lt_zero _)]
theorem midF_all {Z : Nat → Nat → Int} {n t y : Nat} (h : y < n) : midF Z n t n y = (gF Z n (t + 1) y : Int) := by unfold midF; rw [if_pos h]
theorem midF_yes {Z : Nat → Nat → Int} {n t i : Nat} (h : circB Z n (tS Z n t) i = true) (y : Nat) : (if y = i then ((ptS Z n (tS Z n t) i : Nat) : Int) else midF Z n t i y) = midF Z n t (i + 1) y := by
  unfold midF
  by_cases e : y = i
  · subst e
    rw [if_pos rfl, if_pos (Nat.lt_succ_self _)]
    show _ = (((if circB Z n (tS Z n t) y = true then ptS Z n (tS Z n t) y else gF Z n t y) : Nat) : Int)
    rw [if_pos h]
  · rw [if_neg e]
    by_cases h' : y < i
    · rw [if_pos h', if_pos (by omega)]
    · rw [if_neg h', if_neg (by omega)]
theorem midF_no {Z : Nat → Nat → Int} {n t i : Nat} (h : circB Z n (tS Z n t) i = false) (y : Nat) : midF Z n t i y = midF Z n t (i + 1) y := by
  unfold midF
  by_cases e : y = i
  · subst e
    rw [if_neg (Nat.lt_irrefl _), if_pos (Nat.lt_succ_self _)]
    show _ = (((if circB Z n (tS Z n t) y = true then ptS Z n (tS Z n t) y else gF Z n t y) : Nat) : Int)
    rw [if_neg (by rw [h]; decide)]
  · by_cases h' : y < i
    · rw [if_pos h', if_pos (by omega)]
    · rw [if_neg h', if_neg (by omega)]

end Go.Proofs.YtabdbgnkiebcdaaGreatDoor

namespace Go.Proofs.YtabdbgnkiebcdaaGreatDoor
set_option linter.unusedVariables false
open Go.RowKit

set_option maxHeartbeats 800000 in
theorem l3Point_any (n c m : Nat) (a : Option Addr) (X : Nat → Int) (w : World) (hn : n ≤ 5) (hm : m < 2 ^ 62) (hd : IsDiff n n X) (ha : Rd w a n X) :
    Calls Tryz.prog 136 #[.slice a n c, .int .i64 (m : Nat)] w fun e w' => e = .returned (.int .i64 (ptN X m.testBit n : Nat)) ∧ w = w' := by
  have HD := Lib.hid hd
  have HM := Lib.hid hm
  clear hd hm
  go_enter Tryz.func136, Tryz.ntmps136
  go_wp2
  go_loop [4, 5] (fun _ i => ∃ k : Nat, k ≤ n ∧ i = .int .i64 k ∧ ∀ j, j < k → m.testBit (X j).toNat = false) (fun _ i => n - (intOf i).toNat)
  case atStart => exact ⟨0, Nat.zero_le _, rfl, fun j hj => absurd hj (Nat.not_lt_zero _)⟩
  case round =>
    obtain ⟨k, hk, rfl, hno⟩ := hrel
    have HN := Lib.hid hno
    clear hno
    by_cases hlt : k < n
    · obtain ⟨ba, oa, rfl, hca⟩ := ha k hlt
      clear ha
      obtain ⟨x, hx, hxn⟩ := diff_nat HD.out hlt
      have hhas := bit_has m x HM.out
      rw [hx] at hca
      have HX := Lib.hid hx
      clear hx
      by_cases hb : m.testBit x = true
      · rw [hb] at hhas
        have HP := Lib.hid (show ptN X m.testBit n = x by rw [ptN_first HN.out (by rw [HX.out]; exact hb) hlt, HX.out]; rfl)
        clear hb
        go_wp2
        go_ret
        exact ⟨by rw [HP.out]; rfl, rfl⟩
      · have hb' : m.testBit x = false := by simpa using hb
        rw [hb'] at hhas
        have HB := Lib.hid hb'
        clear hb hb'
        go_wp2
        go_round
        case rel => exact ⟨k + 1, by omega, by go_num, fun j hj => by
          by_cases e : j = k
          · subst e; rw [HX.out]; exact HB.out
          · exact HN.out j (by omega)⟩
        case measure => simp [intOf]; omega
    · obtain rfl : k = n := by omega
      clear ha
      have HP := Lib.hid (ptN_none HN.out)
      go_wp2
      go_ret
      exact ⟨by rw [HP.out]; rfl, rfl⟩
end Go.Proofs.YtabdbgnkiebcdaaGreatDoor

namespace Go.Proofs.YtabdbgnkiebcdaaGreatDoor
set_option linter.unusedVariables false
set_option linter.unusedSimpArgs false
open Go.RowKit

set_option maxHeartbeats 1600000 in
theorem l3Circle_any (n c m : Nat) (a : Option Addr) (A : Nat → Option Addr) (L C : Nat → Nat) (Z : Nat → Nat → Int) (w : World) (hW : IsWishes n L Z) (hm : m < 2 ^ n) (ha0 : Tab w a n A L C Z) :
    Calls Tryz.prog 135 #[.slice a n c, .int .i64 (m : Nat)] w fun e w' => e = .returned (.int .i64 (maskN (circB Z n m.testBit) n : Nat)) ∧ w = w' := by
  have hn5 := hW.1.2
  have HA := Lib.hid ha0
  have HW := Lib.hid hW
  have HM := Lib.hid hm
  have hm62 : m < 2 ^ 62 := Nat.lt_trans hm (two_pow_lt (by omega))
  have HM62 := Lib.hid hm62
  obtain ⟨f, hf⟩ : ∃ f, f = ptS Z n m.testBit := ⟨_, rfl⟩
  have QF := Lib.hid hf
  have R0 := Lib.hid (Reach.zero f hm)
  clear ha0 hW hm hm62 hf
  go_enter Tryz.func135, Tryz.ntmps135
  go_wp2
  go_loop [5, 6, 7, 8] (fun st s _ _ => ∃ k K : Nat, k ≤ n ∧ s = .int .i64 k ∧ st = .int .i64 (K : Nat) ∧ Reach n f m.testBit k K) (fun _ s _ _ => n - (intOf s).toNat)
  case atStart => exact ⟨0, m, Nat.zero_le _, rfl, rfl, R0.out⟩
  case round =>
    obtain ⟨k, K, hk, rfl, rfl, hR⟩ := hrel
    have HR := Lib.hid hR
    clear hR R0
    by_cases hlt : k < n
    · go_wp2
      go_loop [7, 8] (fun nx i => ∃ j N : Nat, j ≤ n ∧ i = .int .i64 j ∧ nx = .int .i64 (N : Nat) ∧ Front n f K j N) (fun _ i => n - (intOf i).toNat)
      case atStart => exact ⟨0, 0, Nat.zero_le _, rfl, rfl, Front.zero _ _ _⟩
      case round =>
        obtain ⟨j, N, hj, rfl, rfl, hF⟩ := hrel
        have HF := Lib.hid hF
        clear hF
        by_cases hjl : j < n
        · have hhas := bit_has K j (Nat.lt_trans HR.out.1 (two_pow_lt (by omega)))
          by_cases hb : K.testBit j = true
          · obtain ⟨ba, oa, rfl, hca, hra⟩ := HA.out j hjl
            rw [(HW.out.2 j hjl).1] at hca hra
            have HRd := Lib.hid hra
            rw [hb] at hhas
            obtain ⟨p, hp⟩ : ∃ p, p = f j := ⟨_, rfl⟩
            have hpn : p < n := by
              obtain ⟨z, h1, h2⟩ := (HR.out.2 j).1 hb
              have h3 := it_in (f := f) (P := fun x => m.testBit x = true) (fun i hi => by rw [QF.out]; exact ptS_in HW.out (mask_ppl HM.out) hi) h1 k
              rw [h2] at h3
              rw [hp, QF.out]
              exact mask_ppl HM.out _ (ptS_in HW.out (mask_ppl HM.out) h3)
            have HP := Lib.hid (show ptN (Z j) m.testBit n = p by rw [hp, QF.out]; rfl)
            have hput := bit_put N p (Nat.lt_trans HF.out.1 (two_pow_lt (by omega))) (by omega)
            obtain ⟨N', hN'⟩ : ∃ N', N' = N ||| 2 ^ p := ⟨_, rfl⟩
            rw [← hN'] at hput
            have HN := Lib.hid (show Front n f K (j + 1) N' by rw [hN', hp]; exact HF.out.yes hb (by rw [← hp]; exact hpn))
            clear hp hN' hb hra
            go_wp2_with (go_at_call 136; refine (l3Point_any n (C j) m (A j) (Z j) _ hn5 HM62.out (HW.out.2 j hjl).2 HRd.out).mono ?_; rintro e w' ⟨rfl, rfl⟩; rw [HP.out])
            go_round
            case rel => exact ⟨j + 1, N', by omega, by go_num, rfl, HN.out⟩
            case measure => simp [intOf]; omega
          · have hb' : K.testBit j = false := by simpa using hb
            rw [hb'] at hhas
            have HN := Lib.hid (HF.out.no hb')
            clear hb hb'
            go_wp2
            go_round
            case rel => exact ⟨j + 1, N, by omega, by go_num, rfl, HN.out⟩
            case measure => simp [intOf]; omega
        · obtain rfl : j = n := by omega
          have HN := Lib.hid (HR.out.next HF.out)
          go_wp2
          go_round
          case rel => exact ⟨k + 1, N, by omega, by go_num, rfl, HN.out⟩
          case measure => simp [intOf]; omega
    · obtain rfl : k = n := by omega
      have HK := Lib.hid (show K = maskN (circB Z k m.testBit) k from Reach.all HW.out HM.out (by have := HR.out; rwa [QF.out] at this))
      go_wp2
      go_ret
      exact ⟨by rw [← HK.out]; rfl, rfl⟩
end Go.Proofs.YtabdbgnkiebcdaaGreatDoor

namespace Go.Proofs.YtabdbgnkiebcdaaGreatDoor
set_option linter.unusedVariables false
set_option linter.unusedSimpArgs false
open Go.RowKit

set_option maxHeartbeats 1600000 in
theorem l3Trade_any (n c : Nat) (a : Option Addr) (A : Nat → Option Addr) (L C : Nat → Nat) (Z : Nat → Nat → Int) (w : World) (hW : IsWishes n L Z) (ha0 : Tab w a n A L C Z) :
    Calls Tryz.prog 114 #[.slice a n c] w (RetIN n (giveF Z n) (turnsN Z n : Nat) w) := by
  have hn5 := hW.1.2
  have hn2 := hW.1.1
  have HA := Lib.hid ha0
  have HW := Lib.hid hW
  have hmk := run_make_row' (P := Tryz.prog) 33 3 (.int .i64 0) 8 Tryz.underlying33 Tryz.infoInt rfl .i64 .i64 n (by omega) (by omega)
  obtain ⟨M0, hM0⟩ : ∃ M0, M0 = 2 ^ n - 1 := ⟨_, rfl⟩
  have hp : 2 ^ n ≤ 2 ^ 5 := Nat.pow_le_pow_right (by omega) hn5
  have hp1 := Nat.two_pow_pos n
  have hfull : wrap64 (wrap64 (2 ^ n) - 1) = (M0 : Int) := by
    rw [wrap_pow (show n < 62 by omega), IntWalk.wrap64_in _ (by omega)]; omega
  have HM0 := Lib.hid (show M0 < 2 ^ n ∧ M0 ≤ 31 ∧ ∀ y, M0.testBit y = tS Z n 0 y from ⟨by omega, by omega, fun y => by rw [hM0, Nat.testBit_two_pow_sub_one]; rfl⟩)
  have HFl := Lib.hid hfull
  clear ha0 hW hM0 hp hp1 hfull
  go_enter Tryz.func114, Tryz.ntmps114
  go_wp2
  clear hmk
  have R0 := Lib.hid ((World.rowIs_made w (.int .i64 0) n 3).congr (g := fun y => .int .i64 (gF Z n 0 y : Nat)) (fun y _ => rfl))
  have B0 := Lib.hid (below_alloc (Below.refl _ w) (.cells (madeCells #[.int .i64 0] n) 3))
  go_loopw [5, 6, 7, 8] (fun lf tn _ _ wr => ∃ t M : Nat, tn = .int .i64 t ∧ lf = .int .i64 M ∧ M < 2 ^ n ∧ t + M ≤ 31 ∧ (∀ y, M.testBit y = tS Z n t y) ∧ (∀ s, s < t → ∃ y, tS Z n s y = true) ∧
      wr.rowIs w.heap.size 3 n (fun y => .int .i64 (gF Z n t y : Nat)) ∧ Below w.heap.size w wr) (fun lf _ _ _ _ => (intOf lf).toNat)
  case atStart => exact ⟨0, M0, rfl, by rw [HFl.out], HM0.out.1, by have := HM0.out.2.1; omega, HM0.out.2.2, fun s hs => absurd hs (Nat.not_lt_zero _), R0.out, B0.out⟩
  case round =>
    obtain ⟨t, M, rfl, rfl, hM, htM, hbit, hsome, hrow, hB⟩ := hrel
    have HM := Lib.hid hM
    have HBit := Lib.hid hbit
    have HSome := Lib.hid hsome
    have HR := Lib.hid hrow
    have HB := Lib.hid hB
    clear hM hbit hsome hrow hB R0 B0 HM0
    by_cases hpos : 0 < M
    · have hS := Lib.hid (show M.testBit = tS Z n t from funext HBit.out)
      obtain ⟨K, hK⟩ : ∃ K, K = maskN (circB Z n M.testBit) n := ⟨_, rfl⟩
      have hKb : ∀ y, K.testBit y = circB Z n (tS Z n t) y := fun y => by rw [hK, hS.out]; exact (maskN_is (circB_ppl Z (tS_ppl Z n t))).2 y
      have hKn : K < 2 ^ n := by rw [hK]; exact maskN_lt _ _
      have HK := Lib.hid hK.symm
      have HKb := Lib.hid hKb
      have HKn := Lib.hid hKn
      have HC := Lib.hid (l3Circle_any n c M a A L C Z wr HW.out HM.out (HA.out.below (Nat.le_refl _) HB.out))
      obtain ⟨wo, rfl⟩ : ∃ wo : World, wo = wr := ⟨_, rfl⟩
      clear hK hKb hKn
      go_wp2_with (go_at_call 135; refine HC.out.mono ?_; rintro e w' ⟨rfl, rfl⟩; rw [HK.out])
      clear HC
      go_loopw [8] (fun i wi => ∃ j : Nat, j ≤ n ∧ i = .int .i64 j ∧ wi.rowIs w.heap.size 3 n (fun y => .int .i64 (midF Z n t j y)) ∧ Below w.heap.size w wi) (fun i _ => n - (intOf i).toNat)
      case atStart => exact ⟨0, Nat.zero_le _, rfl, HR.out.congr (fun y _ => by rw [midF_zero]), HB.out⟩
      case round =>
        obtain ⟨j, hj, rfl, hrow, hB⟩ := hrel
        by_cases hjl : j < n
        · have hhas := bit_has K j (Nat.lt_trans HKn.out (two_pow_lt (by omega)))
          by_cases hb : K.testBit j = true
          · have hcb := HKb.out j
            rw [hb] at hcb
            obtain ⟨ba, oa, rfl, hca, hra⟩ := HA.out.below (Nat.le_refl _) hB j hjl
            rw [(HW.out.2 j hjl).1] at hca hra
            have HRd := Lib.hid hra
            rw [hb] at hhas
            have hMM : M < 2 ^ 62 := Nat.lt_trans HM.out (two_pow_lt (by omega))
            have HP := Lib.hid (l3Point_any n (C j) M (A j) (Z j) _ hn5 hMM (HW.out.2 j hjl).2 HRd.out)
            obtain ⟨p, hpp⟩ : ∃ p, p = ptN (Z j) M.testBit n := ⟨_, rfl⟩
            have hc1 := hrow.cell hjl
            have hf1 := hrow.frozen j
            have HN := Lib.hid ((hrow.set j (.int .i64 (p : Nat))).congr (g := fun y => .int .i64 (midF Z n t (j + 1) y)) (fun y _ => by
              have := midF_yes (Z := Z) (n := n) hcb.symm y
              rw [← this]
              by_cases e : y = j
              · rw [if_pos e, if_pos e, hpp, hS.out]; rfl
              · rw [if_neg e, if_neg e]))
            have HBn := Lib.hid hB
            have QP := Lib.hid hpp.symm
            clear hb hra hrow hB hcb hMM hpp
            go_wp2_with (go_at_call 136; refine HP.out.mono ?_; rintro e w' ⟨rfl, rfl⟩; rw [QP.out])
            go_roundw
            case rel => exact ⟨j + 1, by omega, by go_num, HN.out, HBn.out.setCell (Nat.le_refl _) _⟩
            case measure => simp [intOf]; omega
          · have hb' : K.testBit j = false := by simpa using hb
            have hcb := HKb.out j
            rw [hb'] at hhas hcb
            have HN := Lib.hid (hrow.congr (g := fun y => .int .i64 (midF Z n t (j + 1) y)) (fun y _ => by rw [midF_no hcb.symm]))
            have HBn := Lib.hid hB
            clear hb hb' hrow hB hcb
            go_wp2
            go_roundw
            case rel => exact ⟨j + 1, by omega, by go_num, HN.out, HBn.out⟩
            case measure => simp [intOf]; omega
        · obtain rfl : j = n := by omega
          obtain ⟨M', hand, hle, hbit'⟩ := bits_andNot_i64 M K (Nat.lt_trans HM.out (two_pow_lt (by omega))) (Nat.lt_trans HKn.out (two_pow_lt (by omega)))
          have hnew : ∀ y, M'.testBit y = tS Z j (t + 1) y := fun y => by rw [hbit', HBit.out, HKb.out]; rfl
          obtain ⟨y0, hy0⟩ : ∃ y, tS Z j t y = true := by
            obtain ⟨y, hy⟩ := Nat.exists_testBit_of_ne_zero (show M ≠ 0 by omega)
            exact ⟨y, by rw [← HBit.out]; exact hy⟩
          obtain ⟨z, hz⟩ := circB_some HW.out (tS_ppl Z j t) hy0
          have hlt' : M' < M := by
            rcases Nat.lt_or_eq_of_le hle with h | h
            · exact h
            · have h1 := hnew z
              rw [h, HBit.out, circB_gone hz, circB_in hz] at h1; cases h1
          have HN := Lib.hid (hrow.congr (g := fun y => .int .i64 (gF Z j (t + 1) y : Nat)) (fun y hy => by rw [midF_all hy]))
          have HX := Lib.hid (show M' < 2 ^ j ∧ t + 1 + M' ≤ 31 ∧ (∀ y, M'.testBit y = tS Z j (t + 1) y) ∧ ∀ s, s < t + 1 → ∃ y, tS Z j s y = true from ⟨Nat.lt_trans hlt' HM.out, by omega, hnew, fun s hs => by
            by_cases e : s = t
            · subst e; exact ⟨y0, hy0⟩
            · exact HSome.out s (by omega)⟩)
          have HBn := Lib.hid hB
          clear hnew hbit' hy0 hz hrow hB
          go_wp2
          clear hand
          go_roundw
          case rel => exact ⟨t + 1, M', by go_num, rfl, HX.out.1, HX.out.2.1, HX.out.2.2.1, HX.out.2.2.2, HN.out, HBn.out⟩
          case measure => simp [intOf]; omega
    · obtain rfl : M = 0 := by omega
      have HT := Lib.hid (show turnsN Z n = t from turnsN_of ⟨fun y => by rw [← HBit.out]; simp, HSome.out⟩)
      go_wp2
      go_ret2
      have hlt := HR.out.lt
      refine ⟨_, _, by rw [HT.out]; rfl, Nat.le_refl _, .inr ⟨w.heap.size, Nat.le_refl _, hlt, OwnR.of_row (HR.out.congr fun y _ => ?_)⟩, HB.out⟩
      unfold giveF
      rw [HT.out]
end Go.Proofs.YtabdbgnkiebcdaaGreatDoor

namespace Go.Proofs.YtabdbgnkiebcdaaGreatDoor
set_option linter.unusedVariables false
set_option linter.unusedSimpArgs false
open Go.RowKit

set_option maxHeartbeats 3200000 in
theorem l91Given_any (r n c p q : Nat) (a : Option Addr) (B : Nat → Nat) (w : World) (hR : RdrAt w r a n c p) (hb : RdB w a n B) (hab : 0 < n → ∀ b o, a = some ⟨b, o, none⟩ → b < w.heap.size ∧ b ≠ r) (hn : n ≤ 2000) (hp : p ≤ 500) (hq2 : 2 ≤ q) (hq5 : q ≤ 5) :
    Calls Tryz.prog 77 #[.pointer (some ⟨r, 0, none⟩), .int .i64 q] w (DrewGiven r a n c p w) := by
  have hrl := hR.lt
  have HR := Lib.hid hR
  have HB := Lib.hid hb
  have HAL := Lib.hid hab
  have HAB := Lib.hid (show 0 < n → ∀ b o, a = some ⟨b, o, none⟩ → b ≠ r from fun h0 b o e => (hab h0 b o e).2)
  clear hR hb hab
  go_enter Tryz.func77, Tryz.ntmps77
  go_wp2_with fail
  refine (l91Wishes_any r n c p q a B w HR.out HB.out HAL.out hn (by omega) hq2 hq5).mono ?_
  rintro e w2 ⟨ga, N, gc, A, L, C, Z, p2, rfl, ⟨hN1, hN5⟩, ⟨hL, hAp⟩, hT, hR2, hp2, hU2⟩
  have HL := Lib.hid hL
  have HL2 := Lib.hid (show ∀ s, s < N → L s ≤ 1048576 from fun s hs => by have := hL s hs; omega)
  have HT2 := Lib.hid hT
  have HAp := Lib.hid hAp
  have HR2 := Lib.hid hR2
  have HU2 := Lib.hid hU2
  have HI := Lib.hid (specHouseIn_any N gc ga A L C Z w2 (by omega) HL2.out hT)
  clear hL hAp hT hR2 hU2
  by_cases hW : IsWishes N L Z
  · have T1 := Lib.hid (tt_of hW)
    have HW := Lib.hid hW
    clear hW
    go_wp2_with (go_at_call 81; refine HI.out.mono ?_; rintro e w' ⟨rfl, rfl⟩; rw [T1.out])
    go_wp2_with fail
    refine (pick_any r n c p2 3 a B _ HR2.out (HB.out.but HAL.out HU2.out) HAB.out hn (by omega) (by omega) (by omega)).mono ?_
    rintro e w3 ⟨x, rfl, hx, hR3, hK3⟩
    have HR3 := Lib.hid hR3
    have HU3 := Lib.hid (HU2.out.trans (ButR.keeps hK3))
    have HT3 := Lib.hid (tab_but HT2.out HAp.out hrl (ButR.keeps hK3))
    clear hR3 hK3
    by_cases h0 : x = 0
    · have d1 : ((x : Int) == 0) = true := by subst h0; rfl
      clear h0
      go_wp2_with (go_at_call 114; refine (l3Trade_any N gc ga A L C Z _ HW.out HT3.out).mono ?_; rintro e w4 ⟨b, d, rfl, hbd, hO, hb4⟩; have HO := Lib.hid hO; have HB4 := Lib.hid hb4; clear hO hb4)
      go_ret2
      refine ⟨ga, N, gc, A, L, C, Z, b, N, d, _, p2 + 1, rfl, ⟨⟨hN1, hN5⟩, hbd, by omega⟩, ⟨HL.out, HAp.out, ?_⟩, HT3.out.below (Nat.le_refl _) HB4.out, HO.out.rd, HR3.out.of_block (HB4.out.block _ (by have := HU3.out.size; omega)), by omega, HU3.out.trans (ButR.below (HB4.out.mono (HU3.out.size)))⟩
      intro _ g o hg
      rcases HO.out with h | ⟨g', h1, h2, h3⟩
      · omega
      · rcases h3 with h | ⟨o', h4, _⟩
        · omega
        · rw [h4] at hg
          simp only [Option.some.injEq, Addr.mk.injEq] at hg
          have := HU3.out.size
          omega
    · have d1 : ((x : Int) == 0) = false := by simp; omega
      clear h0
      go_wp2_with (go_at_call 115; refine (l91Order_any r n c (p2 + 1) N a B _ HR3.out (HB.out.but HAL.out HU3.out) (fun h0 b o e => ⟨by have := HU3.out.size; have := (HAL.out h0 b o e).1; omega, HAB.out h0 b o e⟩) hn (by omega) hN5).mono ?_; rintro e w4 ⟨g, m, cap, X, p4, rfl, ⟨hg1, hg2, hg3, hg4⟩, hX, hR4, hp4, hU4⟩; have HX := Lib.hid hX; have HR4 := Lib.hid hR4; have HU4 := Lib.hid (HU3.out.trans (hU4.mono HU3.out.size)); have HT4 := Lib.hid (tab_but HT3.out HAp.out hrl hU4); clear hX hR4 hU4)
      go_ret2
      exact ⟨ga, N, gc, A, L, C, Z, some ⟨g, 0, none⟩, m, cap, X, p4, rfl, ⟨⟨hN1, hN5⟩, hg3, by omega⟩, ⟨HL.out, HAp.out, fun _ g' o hg => by simp only [Option.some.injEq, Addr.mk.injEq] at hg; have := HU3.out.size; omega⟩, HT4.out, HX.out, HR4.out, by omega, HU4.out⟩
  · have T1 := Lib.hid (tt_no hW)
    clear hW
    go_wp2_with (first
      | (go_at_call 81; refine HI.out.mono ?_; rintro e w' ⟨rfl, rfl⟩; rw [T1.out])
      | (go_at_call 115; refine (l91Order_any r n c p2 N a B _ HR2.out (HB.out.but HAL.out HU2.out) (fun h0 b o e => ⟨by have := HU2.out.size; have := (HAL.out h0 b o e).1; omega, HAB.out h0 b o e⟩) hn (by omega) hN5).mono ?_; rintro e w4 ⟨g, m, cap, X, p4, rfl, ⟨hg1, hg2, hg3, hg4⟩, hX, hR4, hp4, hU4⟩; have HX := Lib.hid hX; have HR4 := Lib.hid hR4; have HU4 := Lib.hid (HU2.out.trans (hU4.mono HU2.out.size)); have HT4 := Lib.hid (tab_but HT2.out HAp.out hrl hU4); clear hX hR4 hU4))
    go_ret2
    exact ⟨ga, N, gc, A, L, C, Z, some ⟨g, 0, none⟩, m, cap, X, p4, rfl, ⟨⟨hN1, hN5⟩, hg3, by omega⟩, ⟨HL.out, HAp.out, fun _ g' o hg => by simp only [Option.some.injEq, Addr.mk.injEq] at hg; have := HU2.out.size; omega⟩, HT4.out, HX.out, HR4.out, by omega, HU4.out⟩

end Go.Proofs.YtabdbgnkiebcdaaGreatDoor

namespace Go.Proofs.YtabdbgnkiebcdaaGreatDoor
set_option linter.unusedVariables false
open Go.RowKit

set_option maxHeartbeats 3200000 in
theorem l92Few_any (n c : Nat) (a : Option Addr) (B : Nat → Nat) (w : World) (hn : n ≤ 1048576) (hc : n ≤ c) (hb : RdB w a n B) (hab : 0 < n → ∀ b o, a = some ⟨b, o, none⟩ → b < w.heap.size) :
    Calls Tryz.prog 44 #[.slice a n c] w (DrewGivenTop w) := by
  have HB := Lib.hid hb
  have HAL := Lib.hid hab
  clear hb hab
  go_enter Tryz.func44, Tryz.ntmps44
  go_wp2_with fail
  refine (l6Open_any n c a _ hn hc).mono ?_
  rintro e w1 ⟨n', c', rfl, hn2, hnn, hR1, hs1, hb1⟩
  have HB1 := Lib.hid ((HB.out.below (Nat.le_refl _) hb1).sub hnn)
  have HR1 := Lib.hid hR1
  have Hb1 := Lib.hid hb1
  have hlt1 : w.heap.size < w1.heap.size := by omega
  have HAL1 := Lib.hid (show 0 < n' → ∀ b o, a = some ⟨b, o, none⟩ → b < w1.heap.size ∧ b ≠ w.heap.size from fun h0 b o e => by have := HAL.out (by omega) b o e; exact ⟨by omega, by omega⟩)
  clear hR1 hb1 hs1
  go_wp2_with fail
  refine (l91Given_any w.heap.size n' c' 0 4 a B _ HR1.out HB1.out HAL1.out hn2 (by omega) (by omega) (by omega)).mono ?_
  rintro e w2 ⟨ga, N, gc, A, L, C, Z, b, m, d, X, p2, rfl, ⟨⟨hN1, hN5⟩, hmd, hm6⟩, ⟨hL, hAp, hAi⟩, hT, hX, hR2, hp2, hU2⟩
  have HL := Lib.hid hL
  have HT := Lib.hid hT
  have HX := Lib.hid hX
  have HU := Lib.hid (Hb1.out.trans (hU2.toBelow (Nat.le_of_lt hlt1)))
  clear hL hAp hAi hT hX hR2 hU2
  go_wp2
  go_ret2
  exact ⟨ga, N, gc, A, L, C, Z, b, m, d, X, rfl, ⟨⟨hN1, hN5⟩, hmd, hm6⟩, HL.out, HT.out, HX.out, HU.out⟩
theorem drawProofBlock_any (n c : Nat) (a : Option Addr) (B : Nat → Nat) (w : World) (hn : n ≤ 1048576) (hc : n ≤ c) (hb : RdB w a n B) (hab : 0 < n → ∀ b o, a = some ⟨b, o, none⟩ → b < w.heap.size) :
    Calls Tryz.prog 14 #[.slice a n c] w (DrewGivenTop w) := by
  have H := Lib.hid (l92Few_any n c a B w hn hc hb hab)
  clear hb hab
  go_enter Tryz.func14, Tryz.ntmps14
  go_wp2_with fail
  refine H.out.mono ?_
  rintro e w1 ⟨ga, N, gc, A, L, C, Z, b, m, d, X, rfl, h⟩
  have HH := Lib.hid h
  clear h H
  go_wp2
  go_ret2
  exact ⟨ga, N, gc, A, L, C, Z, b, m, d, X, rfl, HH.out⟩
end Go.Proofs.YtabdbgnkiebcdaaGreatDoor

namespace Go.Proofs.YtabdbgnkiebcdaaGreatDoor
set_option linter.unusedVariables false
set_option linter.unusedSimpArgs false
open Go.RowKit

/-- The lists of f different numbers more that begin so, in order. -/
def givs (n : Nat) : Nat → List Int → List (List Int)
  | 0, B => [B]
  | f + 1, B => (List.range n).flatMap fun (x : Nat) => if (x : Int) ∈ B then [] else givs n f (B ++ [(x : Int)])
/-- Those whose next number is below k. -/
def givsTo (n f : Nat) (B : List Int) (k : Nat) : List (List Int) := (List.range k).flatMap fun (x : Nat) => if (x : Int) ∈ B then [] else givs n f (B ++ [(x : Int)])
theorem givsTo_zero (n f : Nat) (B : List Int) : givsTo n f B 0 = [] := rfl
theorem givsTo_in {n f k : Nat} {B : List Int} (h : (k : Int) ∈ B) : givsTo n f B (k + 1) = givsTo n f B k := by
  unfold givsTo
  rw [List.range_succ, List.flatMap_append]
  simp [h]
theorem givsTo_new {n f k : Nat} {B : List Int} (h : ¬ (k : Int) ∈ B) : givsTo n f B (k + 1) = givsTo n f B k ++ givs n f (B ++ [(k : Int)]) := by
  unfold givsTo
  rw [List.range_succ, List.flatMap_append]
  simp [h]
theorem givs_succ (n f : Nat) (B : List Int) : givs n (f + 1) B = givsTo n f B n := rfl
theorem givsTo_front {n f : Nat} {B : List Int} {k m : Nat} (h : k ≤ m) : givsTo n f B k <+: givsTo n f B m := by
  induction m with
  | zero => have : k = 0 := by omega
            subst this; exact List.prefix_refl _
  | succ m ih =>
    by_cases e : k = m + 1
    · subst e; exact List.prefix_refl _
    · have h1 := ih (by omega)
      by_cases hm : (m : Int) ∈ B
      · rw [givsTo_in hm]; exact h1
      · rw [givsTo_new hm]; exact h1.trans (List.prefix_append _ _)
theorem flatMap_eq {α β : Type} {f g : α → List β} : ∀ {l : List α}, (∀ x, x ∈ l → f x = g x) → l.flatMap f = l.flatMap g
  | [], _ => rfl
  | x :: l, h => by
    rw [List.flatMap_cons, List.flatMap_cons, h x (by simp), flatMap_eq (fun y hy => h y (by simp [hy]))]
/-- The ways that have each number are the givings. -/
theorem givs_longer {n : Nat} (hn : 2 ≤ n) : ∀ (f : Nat) (B : List Int), B.length + f = n → (longer n f B).filter (fun D => tt (D.length = n)) = givs n f B
  | 0, B, h => by
    unfold longer givs
    rw [if_pos (by omega)]
    simp [tt_of (show B.length = n by omega)]
  | f + 1, B, h => by
    unfold longer givs
    rw [List.filter_append]
    have e1 : (if 2 ≤ B.length then [B] else []).filter (fun D => tt (D.length = n)) = [] := by
      by_cases h2 : 2 ≤ B.length
      · rw [if_pos h2]; simp [tt_no (show ¬ B.length = n by omega)]
      · rw [if_neg h2]; rfl
    rw [e1, List.nil_append, List.filter_flatMap]
    refine flatMap_eq fun x hx => ?_
    by_cases hm : (x : Int) ∈ B
    · rw [if_pos hm, if_pos hm]; rfl
    · rw [if_neg hm, if_neg hm]
      exact givs_longer hn f _ (by rw [List.length_append]; simp; omega)
theorem flat_le6 {n : Nat} {g : Nat → List (List Int)} {c : Nat} (h5 : n ≤ 5) (h : ∀ x, (g x).length ≤ c) : ((List.range n).flatMap g).length ≤ 6 * c := by
  have : ∀ k, ((List.range k).flatMap g).length ≤ k * c := by
    intro k
    induction k with
    | zero => simp
    | succ k ih =>
      rw [List.range_succ, List.flatMap_append, List.length_append, Nat.succ_mul, List.flatMap_cons, List.flatMap_nil, List.append_nil]
      have := h k
      omega
  have h1 := this n
  have h2 := Nat.mul_le_mul_right c h5
  omega
theorem givs_le {n : Nat} (h5 : n ≤ 5) : ∀ (f : Nat) (B : List Int), (givs n f B).length ≤ 6 ^ f
  | 0, B => by simp [givs]
  | f + 1, B => by
    unfold givs
    have := flat_le6 (g := fun x => if (x : Int) ∈ B then [] else givs n f (B ++ [(x : Int)])) (c := 6 ^ f) h5 (fun x => by
      by_cases e : (x : Int) ∈ B
      · rw [if_pos e]; exact Nat.zero_le _
      · rw [if_neg e]; exact givs_le h5 f _)
    rw [Nat.pow_succ]; omega
theorem givsTo_le {n : Nat} (h5 : n ≤ 5) (f k : Nat) (B : List Int) (hk : k ≤ n) : (givsTo n f B k).length ≤ 6 ^ (f + 1) := by
  have h1 := givs_le h5 (f + 1) B
  rw [givs_succ] at h1
  exact Nat.le_trans (givsTo_front hk).length_le h1
theorem prefix_eq {A B : List Int} (h : A <+: B) (hl : A.length = B.length) : A = B := h.eq_of_length hl
theorem nth_pre {B D : List Int} (h : B <+: D) {i : Nat} (hi : i < B.length) : nth D i = nth B i := by
  obtain ⟨z, rfl⟩ := h
  unfold nth
  rw [List.getD_eq_getElem?_getD, List.getD_eq_getElem?_getD, List.getElem?_append_left hi]
/-- The givings are the lists of all numbers that begin so. -/
theorem mem_givs {n : Nat} : ∀ (f : Nat) (B : List Int), Diff n B → B.length + f = n → ∀ D, D ∈ givs n f B ↔ Diff n D ∧ D.length = n ∧ B <+: D
  | 0, B, hd, hl, D => by
    unfold givs
    rw [List.mem_singleton]
    constructor
    · rintro rfl; exact ⟨hd, by omega, List.prefix_refl _⟩
    · rintro ⟨_, h2, h3⟩
      exact (prefix_eq h3 (by omega)).symm
  | f + 1, B, hd, hl, D => by
    unfold givs
    rw [List.mem_flatMap]
    constructor
    · rintro ⟨x, hx, h⟩
      rw [List.mem_range] at hx
      by_cases e : (x : Int) ∈ B
      · rw [if_pos e] at h; cases h
      · rw [if_neg e] at h
        obtain ⟨h1, h2, h3⟩ := (mem_givs f _ ((hd.snoc_iff hx).2 e) (by rw [List.length_append]; simp; omega) D).1 h
        exact ⟨h1, h2, (List.prefix_append _ _).trans h3⟩
    · rintro ⟨h1, h2, h3⟩
      have hb : B.length < D.length := by omega
      have hr := h1.1 B.length hb
      obtain ⟨x, hx⟩ := Int.eq_ofNat_of_zero_le hr.1
      have hxn : x < n := by have := hr.2; omega
      have hp : B ++ [(x : Int)] <+: D := by
        obtain ⟨z, rfl⟩ := h3
        have hz : 0 < z.length := by rw [List.length_append] at hb; omega
        obtain ⟨y, ys, rfl⟩ := List.exists_cons_of_length_pos hz
        have : nth (B ++ y :: ys) B.length = y := by
          unfold nth
          rw [List.getD_eq_getElem?_getD, List.getElem?_append_right (Nat.le_refl _)]
          simp
        rw [this] at hx
        rw [hx]
        exact ⟨ys, by simp⟩
      have hnin : ¬ (x : Int) ∈ B := fun h => by
        obtain ⟨j, hj, e⟩ := mem_nth.1 h
        have e2 := nth_pre h3 hj
        exact h1.2 j B.length hj hb (by rw [e2, e, hx])
      exact ⟨x, List.mem_range.2 hxn, by
        rw [if_neg hnin]
        exact (mem_givs f _ ((hd.snoc_iff hxn).2 hnin) (by rw [List.length_append]; simp; omega) D).2 ⟨h1, h2, hp⟩⟩
theorem givs_pos {n f : Nat} {B : List Int} (hd : Diff n B) (hl : B.length + f = n) : 0 < (givs n f B).length := by
  induction f generalizing B with
  | zero => simp [givs]
  | succ f ih =>
    -- some number is not in B
    have hex : ∃ x, x < n ∧ ¬ (x : Int) ∈ B := by
      refine Classical.byContradiction fun hno => ?_
      have hall : ∀ x : Nat, x < n → (x : Int) ∈ B := fun x hx => Classical.byContradiction fun h => hno ⟨x, hx, h⟩
      have hch : ∀ x : Nat, ∃ i : Nat, x < n → i < B.length ∧ nth B i = x := fun x => by
        by_cases hx : x < n
        · obtain ⟨i, h1, h2⟩ := mem_nth.1 (hall x hx)
          exact ⟨i, fun _ => ⟨h1, h2⟩⟩
        · exact ⟨0, fun h => absurd h hx⟩
      have hsp := fun x => Classical.choose_spec (hch x)
      have hd2 : IsDiff B.length n (fun x => ((Classical.choose (hch x) : Nat) : Int)) := by
        refine ⟨fun i hi => ⟨by show (0 : Int) ≤ ((Classical.choose (hch i) : Nat) : Int); omega, by
          show ((Classical.choose (hch i) : Nat) : Int) < B.length
          have := (hsp i hi).1; omega⟩, fun i j hij hj he => ?_⟩
        have he' : Classical.choose (hch i) = Classical.choose (hch j) := by
          have : ((Classical.choose (hch i) : Nat) : Int) = ((Classical.choose (hch j) : Nat) : Int) := he
          omega
        have h1 := (hsp i (by omega)).2
        have h2 := (hsp j hj).2
        rw [he'] at h1
        omega
      have := diff_le hd2
      omega
    obtain ⟨x, hx, hm⟩ := hex
    have h1 := ih ((hd.snoc_iff hx).2 hm) (by rw [List.length_append]; simp; omega)
    obtain ⟨D, hD⟩ := List.exists_mem_of_length_pos h1
    exact List.length_pos_of_mem (show D ∈ givs n (f + 1) B from by
      unfold givs
      exact List.mem_flatMap.2 ⟨x, List.mem_range.2 hx, by rw [if_neg hm]; exact hD⟩)
theorem givs_at {n k : Nat} (h : k < (givs n n []).length) : Diff n ((givs n n []).getD k []) ∧ ((givs n n []).getD k []).length = n := by
  have h1 : (givs n n []).getD k [] ∈ givs n n [] := by
    rw [List.getD_eq_getElem?_getD, List.getElem?_eq_getElem h]
    exact List.getElem_mem h
  have h2 := (mem_givs n [] (Diff.nil n) (by simp) _).1 h1
  exact ⟨h2.1, h2.2.1⟩
theorem filter_one {α : Type} {p : α → Bool} {a : α} : ∀ {l : List α}, l.Nodup → a ∈ l → (∀ x, x ∈ l → (p x = true ↔ x = a)) → l.filter p = [a]
  | [], _, hm, _ => by cases hm
  | x :: l, hn, hm, h => by
    rw [List.nodup_cons] at hn
    by_cases e : x = a
    · subst e
      rw [List.filter_cons_of_pos ((h x (by simp)).2 rfl)]
      rw [List.filter_eq_nil_iff.2 (fun y hy hp => hn.1 (by rw [← (h y (by simp [hy])).1 hp]; exact hy))]
    · have hx : ¬ p x = true := fun hp => e ((h x (by simp)).1 hp)
      rw [List.filter_cons_of_neg hx]
      rcases List.mem_cons.1 hm with rfl | hm
      · exact absurd rfl e
      · exact filter_one hn.2 hm (fun y hy => h y (by simp [hy]))
theorem givs_nodup {n : Nat} : ∀ (f : Nat) (B : List Int), Diff n B → B.length + f = n → (givs n f B).Nodup
  | 0, B, _, _ => by unfold givs; simp
  | f + 1, B, hd, hl => by
    unfold givs List.Nodup
    rw [List.pairwise_flatMap]
    refine ⟨fun x hx => ?_, ?_⟩
    · rw [List.mem_range] at hx
      by_cases e : (x : Int) ∈ B
      · rw [if_pos e]; exact List.Pairwise.nil
      · rw [if_neg e]
        exact givs_nodup f _ ((hd.snoc_iff hx).2 e) (by rw [List.length_append]; simp; omega)
    · refine List.Pairwise.imp_of_mem (R := fun x y => x < y) ?_ List.pairwise_lt_range
      intro x y hx hy hxy u hu v hv euv
      rw [List.mem_range] at hx hy
      by_cases ex : (x : Int) ∈ B
      · rw [if_pos ex] at hu; cases hu
      by_cases ey : (y : Int) ∈ B
      · rw [if_pos ey] at hv; cases hv
      rw [if_neg ex] at hu
      rw [if_neg ey] at hv
      have h1 := ((mem_givs f _ ((hd.snoc_iff hx).2 ex) (by rw [List.length_append]; simp; omega) u).1 hu).2.2
      have h2 := ((mem_givs f _ ((hd.snoc_iff hy).2 ey) (by rw [List.length_append]; simp; omega) v).1 hv).2.2
      have hb : B.length < (B ++ [(x : Int)]).length := by simp
      have hb2 : B.length < (B ++ [(y : Int)]).length := by simp
      have e1 := nth_pre h1 hb
      have e2 := nth_pre h2 hb2
      rw [snoc_nth (by omega), if_neg (by omega)] at e1 e2
      rw [euv] at e1
      omega
/-- In a list of givings each one has one place. -/
theorem place_one {n : Nat} {LL : List (List Int)} {i x : Nat} (hn : LL.Nodup) (hl : ∀ r, r < LL.length → lenL LL r = n) (hi : i < LL.length) (hx : x < LL.length) (h : ∀ j, j < n → nthL LL i j = nthL LL x j) : i = x := by
  have e : LL[i] = LL[x] := by
    have h1 := hl i hi
    have h2 := hl x hx
    unfold lenL at h1 h2
    rw [List.getD_eq_getElem?_getD, List.getElem?_eq_getElem hi] at h1
    rw [List.getD_eq_getElem?_getD, List.getElem?_eq_getElem hx] at h2
    have h1 : LL[i].length = n := h1
    have h2 : LL[x].length = n := h2
    refine List.ext_getElem (by omega) fun j hj hj2 => ?_
    have h3 := h j (by omega)
    unfold nthL nth at h3
    rw [List.getD_eq_getElem?_getD, List.getD_eq_getElem?_getD, List.getD_eq_getElem?_getD, List.getD_eq_getElem?_getD, List.getElem?_eq_getElem hi, List.getElem?_eq_getElem hx] at h3
    simp only [Option.getD_some] at h3
    rw [List.getElem?_eq_getElem hj, List.getElem?_eq_getElem hj2] at h3
    exact h3
  exact (List.getElem_inj hn).1 e
end Go.Proofs.YtabdbgnkiebcdaaGreatDoor

namespace Go.Proofs.YtabdbgnkiebcdaaGreatDoor
set_option linter.unusedVariables false
set_option linter.unusedSimpArgs false
open Go.RowKit

/-- May the people of S be given different houses of H, none liked less than what G gives, and one better (or b)? -/
def ImpP (n : Nat) (Z : Nat → Nat → Int) (G : Nat → Int) (S H : Nat) (b : Bool) : Prop :=
  ∃ h : Nat → Nat, (∀ i, S.testBit i = true → H.testBit (h i) = true ∧ idxF (Z i) (h i : Nat) n ≤ idxF (Z i) (G i) n) ∧
    (∀ i j, S.testBit i = true → S.testBit j = true → h i = h j → i = j) ∧ (b = true ∨ ∃ i, S.testBit i = true ∧ ((h i : Nat) : Int) ≠ G i)
theorem impP_zero {n : Nat} {Z : Nat → Nat → Int} {G : Nat → Int} {H : Nat} {b : Bool} : ImpP n Z G 0 H b ↔ b = true := by
  constructor
  · rintro ⟨h, _, _, (h3 | ⟨i, hi, _⟩)⟩
    · exact h3
    · simp at hi
  · intro hb
    exact ⟨fun i => i, fun i hi => by simp at hi, fun i j hi => by simp at hi, .inl hb⟩
/-- One of them takes a house. -/
theorem impP_take {n p x : Nat} {Z : Nat → Nat → Int} {G : Nat → Int} {S H S' H' : Nat} {b : Bool} (hp : S.testBit p = true) (hx : H.testBit x = true) (hS : ∀ y, S'.testBit y = (S.testBit y && !decide (y = p))) (hH : ∀ y, H'.testBit y = (H.testBit y && !decide (y = x)))
    (hle : idxF (Z p) (x : Nat) n ≤ idxF (Z p) (G p) n) (h : ImpP n Z G S' H' (b || !(decide ((x : Int) = G p)))) : ImpP n Z G S H b := by
  obtain ⟨h, h1, h2, h3⟩ := h
  have hS1 : ∀ i, i ≠ p → S.testBit i = true → S'.testBit i = true := fun i hi hs => by rw [hS, hs]; simp [hi]
  refine ⟨fun i => if i = p then x else h i, fun i hi => ?_, fun i j hi hj e => ?_, ?_⟩
  · dsimp only
    by_cases e : i = p
    · subst e; rw [if_pos rfl]; exact ⟨hx, hle⟩
    · rw [if_neg e]
      obtain ⟨k1, k2⟩ := h1 i (hS1 i e hi)
      rw [hH] at k1
      exact ⟨by simp at k1; exact k1.1, k2⟩
  · dsimp only at e
    have hne : ∀ i, i ≠ p → S.testBit i = true → h i ≠ x := fun i e hi he => by
      have := (h1 i (hS1 i e hi)).1
      rw [hH, he] at this
      simp at this
    by_cases e1 : i = p
    · by_cases e2 : j = p
      · rw [e1, e2]
      · rw [if_pos e1, if_neg e2] at e
        exact absurd e.symm (hne j e2 hj)
    · by_cases e2 : j = p
      · rw [if_neg e1, if_pos e2] at e
        exact absurd e (hne i e1 hi)
      · rw [if_neg e1, if_neg e2] at e
        exact h2 i j (hS1 i e1 hi) (hS1 j e2 hj) e
  · rcases h3 with h3 | ⟨i, hi, hne⟩
    · rw [Bool.or_eq_true] at h3
      rcases h3 with h3 | h3
      · exact .inl h3
      · exact .inr ⟨p, hp, by dsimp only; rw [if_pos rfl]; simpa using h3⟩
    · rw [hS] at hi
      simp only [Bool.and_eq_true, Bool.not_eq_true', decide_eq_false_iff_not] at hi
      exact .inr ⟨i, hi.1, by dsimp only; rw [if_neg hi.2]; exact hne⟩
/-- .. and there is no other way. -/
theorem impP_some {n p : Nat} {Z : Nat → Nat → Int} {G : Nat → Int} {S H : Nat} {b : Bool} (hp : S.testBit p = true) (h : ImpP n Z G S H b) :
    ∃ x, H.testBit x = true ∧ idxF (Z p) (x : Nat) n ≤ idxF (Z p) (G p) n ∧ ∀ S' H', (∀ y, S'.testBit y = (S.testBit y && !decide (y = p))) → (∀ y, H'.testBit y = (H.testBit y && !decide (y = x))) → ImpP n Z G S' H' (b || !(decide ((x : Int) = G p))) := by
  obtain ⟨h, h1, h2, h3⟩ := h
  refine ⟨h p, (h1 p hp).1, (h1 p hp).2, fun S' H' hS hH => ?_⟩
  have hS1 : ∀ i, S'.testBit i = true → S.testBit i = true ∧ i ≠ p := fun i hi => by
    rw [hS] at hi
    simpa using hi
  refine ⟨h, fun i hi => ?_, fun i j hi hj e => h2 i j (hS1 i hi).1 (hS1 j hj).1 e, ?_⟩
  · obtain ⟨k1, k2⟩ := h1 i (hS1 i hi).1
    refine ⟨?_, k2⟩
    rw [hH, k1]
    have : h i ≠ h p := fun e => (hS1 i hi).2 (h2 i p (hS1 i hi).1 hp e)
    simp [this]
  · rcases h3 with h3 | ⟨i, hi, hne⟩
    · left; rw [h3]; rfl
    · by_cases e : i = p
      · left; subst e
        simp [hne]
      · right
        exact ⟨i, by rw [hS, hi]; simp [e], hne⟩
theorem bit_lt {S i n : Nat} (hS : S < 2 ^ n) (h : S.testBit i = true) : i < n := by
  rcases Nat.lt_or_ge i n with h' | h'
  · exact h'
  · have : S < 2 ^ i := Nat.lt_of_lt_of_le hS (Nat.pow_le_pow_right (by omega) h')
    rw [Nat.testBit_lt_two_pow this] at h; cases h
/-- A set without one. -/
theorem without {S p : Nat} (h : S.testBit p = true) : ∀ y, (S ^^^ 2 ^ p).testBit y = (S.testBit y && !decide (y = p)) := fun y => by
  rw [Nat.testBit_xor, Nat.testBit_two_pow]
  by_cases e : y = p
  · subst e; simp [h]
  · have : ¬ p = y := fun h => e h.symm
    simp [e, this]
/-- Where a number stands in a list of all. -/
theorem idx_diff {n j : Nat} {X : Nat → Int} (hd : IsDiff n n X) (hj : j < n) : idxF X (X j) n = j := idxF_some (fun i hi e => hd.2 i j hi hj e) rfl hj
/-- This house has been tried for p, and it won't do. -/
def Tried (n : Nat) (Z : Nat → Nat → Int) (G : Nat → Int) (S H : Nat) (b : Bool) (p x : Nat) : Prop :=
  ∀ S' H', (∀ y, S'.testBit y = (S.testBit y && !decide (y = p))) → (∀ y, H'.testBit y = (H.testBit y && !decide (y = x))) → H.testBit x = true → ¬ ImpP n Z G S' H' (b || !(decide ((x : Int) = G p)))
theorem tried_no {n p x : Nat} {Z : Nat → Nat → Int} {G : Nat → Int} {S H : Nat} {b : Bool} (h : H.testBit x = false) : Tried n Z G S H b p x := fun S' H' _ _ hx => by rw [h] at hx; cases hx
theorem tried_of {n p x : Nat} {Z : Nat → Nat → Int} {G : Nat → Int} {S H S1 H1 : Nat} {b : Bool} (hS : ∀ y, S1.testBit y = (S.testBit y && !decide (y = p))) (hH : ∀ y, H1.testBit y = (H.testBit y && !decide (y = x))) (h : ¬ ImpP n Z G S1 H1 (b || !(decide ((x : Int) = G p)))) : Tried n Z G S H b p x := fun S' H' hS' hH' _ => by
  have e1 : S' = S1 := Nat.eq_of_testBit_eq fun y => by rw [hS' y, hS y]
  have e2 : H' = H1 := Nat.eq_of_testBit_eq fun y => by rw [hH' y, hH y]
  rw [e1, e2]; exact h
theorem no_imp {n p k : Nat} {Z : Nat → Nat → Int} {G : Nat → Int} {S H : Nat} {b : Bool} (hp : S.testBit p = true) (hH : H < 2 ^ n) (hd : IsDiff n n (Z p)) (hk : k ≤ n) (hF : ∀ j, j < k → Tried n Z G S H b p (Z p j).toNat)
    (hlast : k = n ∨ ∃ j, j + 1 = k ∧ Z p j = G p) : ¬ ImpP n Z G S H b := by
  intro h
  obtain ⟨x, hx, hle, hall⟩ := impP_some hp h
  have hxn := bit_lt hH hx
  obtain ⟨j, hj, hjx⟩ := hd.all hxn
  have hjk : j < k := by
    rcases hlast with rfl | ⟨j0, h0, e0⟩
    · exact hj
    · rw [← e0, idx_diff hd (show j0 < n by omega), ← hjx, idx_diff hd hj] at hle
      omega
  have e : (Z p j).toNat = x := by rw [hjx]; rfl
  have ht := hF j hjk
  rw [e] at ht
  exact ht _ _ (without hp) (without hx) hx (hall _ _ (without hp) (without hx))
/-- A set of people blocks a giving: some other giving gives them their own houses, none of them less, one of them better. -/
def BlocksP (n : Nat) (Z : Nat → Nat → Int) (G : Nat → Int) (S : Nat) : Prop := ImpP n Z G S S false
/-- No set of people blocks a giving. -/
def FirmP (n : Nat) (Z : Nat → Nat → Int) (G : Nat → Int) : Prop := ∀ S, 1 ≤ S → S < 2 ^ n → ¬ BlocksP n Z G S
theorem blocks_pos {n : Nat} {Z : Nat → Nat → Int} {G : Nat → Int} : ¬ BlocksP n Z G 0 := fun h => by
  have := impP_zero.1 h
  cases this
def BlocksOk (n : Nat) (L : Nat → Nat) (Z : Nat → Nat → Int) (m : Nat) (G : Nat → Int) (x : Int) : Prop := GivenOk n L Z m G ∧ InR x 0 ((2 ^ n : Nat) - 1) ∧ BlocksP n Z G x.toNat
def FirmOk (n : Nat) (L : Nat → Nat) (Z : Nat → Nat → Int) (m : Nat) (G : Nat → Int) : Prop := GivenOk n L Z m G ∧ FirmP n Z G
end Go.Proofs.YtabdbgnkiebcdaaGreatDoor

namespace Go.Proofs.YtabdbgnkiebcdaaGreatDoor
set_option linter.unusedVariables false
set_option linter.unusedSimpArgs false
open Go.RowKit

/-- The people of S get just their own houses. -/
def OwnP (n : Nat) (S : Nat) (X : Nat → Int) : Prop := ∀ y : Nat, S.testBit y = true ↔ ∃ i, i < n ∧ S.testBit i = true ∧ X i = y
/-- None of S is worse off with X than with G, and one is better off. -/
def BetterP (n : Nat) (Z : Nat → Nat → Int) (S : Nat) (G X : Nat → Int) : Prop := (∀ i, i < n → S.testBit i = true → idxF (Z i) (X i) n ≤ idxF (Z i) (G i) n) ∧ ∃ i, i < n ∧ S.testBit i = true ∧ idxF (Z i) (X i) n < idxF (Z i) (G i) n
theorem idx_inj {n : Nat} {X : Nat → Int} (hd : IsDiff n n X) {x y : Int} (hx : InR x 0 ((n : Int) - 1)) (hy : InR y 0 ((n : Int) - 1)) (h : idxF X x n = idxF X y n) : x = y := by
  obtain ⟨j, hj, e⟩ := hd.all (r := x.toNat) (by have h1 := hx.1; have h2 := hx.2; omega)
  obtain ⟨k, hk, e2⟩ := hd.all (r := y.toNat) (by have h1 := hy.1; have h2 := hy.2; omega)
  have ex : X j = x := by rw [e]; have := hx.1; omega
  have ey : X k = y := by rw [e2]; have := hy.1; omega
  rw [← ex, ← ey, idx_diff hd hj, idx_diff hd hk] at h
  have : j = k := by omega
  rw [← ex, ← ey, this]
theorem isDiff_nth {n : Nat} {X : Nat → Int} (hd : IsDiff n n X) : Diff n ((List.range n).map X) ∧ ((List.range n).map X).length = n ∧ ∀ i, i < n → nth ((List.range n).map X) i = X i := by
  have hl : ((List.range n).map X).length = n := by simp
  have hn : ∀ i, i < n → nth ((List.range n).map X) i = X i := fun i hi => by
    unfold nth
    rw [List.getD_eq_getElem?_getD, List.getElem?_eq_getElem (by rw [hl]; exact hi)]
    simp
  refine ⟨?_, hl, hn⟩
  unfold Diff
  rw [hl]
  exact ⟨fun i hi => by rw [hn i hi]; exact hd.1 i hi, fun i j hij hj => by rw [hn i (by omega), hn j hj]; exact hd.2 i j hij hj⟩
theorem own_congr {n S : Nat} {X Y : Nat → Int} (h : ∀ i, i < n → X i = Y i) (ho : OwnP n S X) : OwnP n S Y := fun y => by
  rw [ho y]
  constructor
  · rintro ⟨i, h1, h2, h3⟩; exact ⟨i, h1, h2, by rw [← h i h1]; exact h3⟩
  · rintro ⟨i, h1, h2, h3⟩; exact ⟨i, h1, h2, by rw [h i h1]; exact h3⟩
theorem better_congr {n S : Nat} {Z : Nat → Nat → Int} {G X Y : Nat → Int} (h : ∀ i, i < n → X i = Y i) (hb : BetterP n Z S G X) : BetterP n Z S G Y := by
  obtain ⟨h1, i, h2, h3, h4⟩ := hb
  exact ⟨fun i hi hs => by rw [← h i hi]; exact h1 i hi hs, i, h2, h3, by rw [← h i h2]; exact h4⟩
/-- A set blocks just if some giving shows it. -/
theorem blocks_iff {n S : Nat} {L : Nat → Nat} {Z : Nat → Nat → Int} {G : Nat → Int} (hg : GivenOk n L Z n G) (hS : S < 2 ^ n) :
    BlocksP n Z G S ↔ ∃ D, D ∈ givs n n [] ∧ OwnP n S (nth D) ∧ BetterP n Z S G (nth D) := by
  constructor
  · rintro ⟨h, h1, h2, h3⟩
    have hSi : ∀ i, S.testBit i = true → i < n := fun i hi => bit_lt hS hi
    have hd : IsDiff n n (fun i => ((if S.testBit i = true then h i else i : Nat) : Int)) := by
      refine ⟨fun i hi => ?_, fun i j hij hj e => ?_⟩
      · dsimp only
        by_cases e : S.testBit i = true
        · rw [if_pos e]; have := hSi _ (h1 i e).1; omega
        · rw [if_neg e]; omega
      · dsimp only at e
        by_cases e1 : S.testBit i = true
        · by_cases e2 : S.testBit j = true
          · rw [if_pos e1, if_pos e2] at e
            have := h2 i j e1 e2 (by omega); omega
          · rw [if_pos e1, if_neg e2] at e
            have e' : h i = j := by omega
            have := (h1 i e1).1
            rw [e'] at this; exact e2 this
        · by_cases e2 : S.testBit j = true
          · rw [if_neg e1, if_pos e2] at e
            have e' : h j = i := by omega
            have := (h1 j e2).1
            rw [e'] at this; exact e1 this
          · rw [if_neg e1, if_neg e2] at e; omega
    obtain ⟨k1, k2, k3⟩ := isDiff_nth hd
    refine ⟨_, (mem_givs n [] (Diff.nil n) (by simp) _).2 ⟨k1, k2, List.nil_prefix⟩, own_congr (fun i hi => (k3 i hi).symm) ?_, better_congr (fun i hi => (k3 i hi).symm) ?_⟩
    · intro y
      constructor
      · intro hy
        obtain ⟨i, hi, e⟩ := hd.all (hSi y hy)
        refine ⟨i, hi, ?_, e⟩
        by_cases e1 : S.testBit i = true
        · exact e1
        · have e : (((if S.testBit i = true then h i else i) : Nat) : Int) = y := e
          rw [if_neg e1] at e
          have : i = y := by omega
          rw [this] at e1; exact absurd hy e1
      · rintro ⟨i, hi, hs, e⟩
        have e : (((if S.testBit i = true then h i else i) : Nat) : Int) = y := e
        rw [if_pos hs] at e
        have e' : h i = y := by omega
        rw [← e']; exact (h1 i hs).1
    · refine ⟨fun i hi hs => by dsimp only; rw [if_pos hs]; exact (h1 i hs).2, ?_⟩
      rcases h3 with h3 | ⟨i, hi, hne⟩
      · cases h3
      · refine ⟨i, hSi i hi, hi, ?_⟩
        dsimp only
        rw [if_pos hi]
        have hle := (h1 i hi).2
        rcases Int.lt_or_eq_of_le hle with h' | h'
        · exact h'
        · have hin := hSi i hi
          have hx := hSi _ (h1 i hi).1
          exact absurd (idx_inj (hg.1.2 i hin).2 ⟨by omega, by omega⟩ (hg.at hin) h') hne
  · rintro ⟨D, hD, ho, hb1, i0, hi0, hs0, hlt⟩
    have hDg := (mem_givs n [] (Diff.nil n) (by simp) D).1 hD
    have hdd : IsDiff n n (nth D) := by have := hDg.1; unfold Diff at this; rwa [hDg.2.1] at this
    have hSi : ∀ i, S.testBit i = true → i < n := fun i hi => bit_lt hS hi
    have hnat : ∀ i, i < n → (((nth D i).toNat : Nat) : Int) = nth D i := fun i hi => by have := (hdd.1 i hi).1; omega
    refine ⟨fun i => (nth D i).toNat, fun i hi => ⟨?_, ?_⟩, fun i j hi hj e => ?_, .inr ⟨i0, hs0, ?_⟩⟩
    · exact (ho _).2 ⟨i, hSi i hi, hi, (hnat i (hSi i hi)).symm⟩
    · dsimp only
      rw [hnat i (hSi i hi)]; exact hb1 i (hSi i hi) hi
    · have e2 : (nth D i).toNat = (nth D j).toNat := e
      have e' : nth D i = nth D j := by rw [← hnat i (hSi i hi), ← hnat j (hSi j hj), e2]
      rcases Nat.lt_trichotomy i j with h | h | h
      · exact absurd e' (hdd.2 i j h (hSi j hj))
      · exact h
      · exact absurd e'.symm (hdd.2 j i h (hSi i hi))
    · dsimp only
      rw [hnat i0 hi0]
      intro e
      rw [e] at hlt; omega
end Go.Proofs.YtabdbgnkiebcdaaGreatDoor

namespace Go.Proofs.YtabdbgnkiebcdaaGreatDoor
set_option linter.unusedVariables false
set_option linter.unusedSimpArgs false
open Go.RowKit

/-- Those of a list that are firm. -/
noncomputable def firmsL (n : Nat) (Z : Nat → Nat → Int) (LL : List (List Int)) : List (List Int) := LL.filter fun D => tt (FirmP n Z (nth D))
theorem firmsL_yes {n : Nat} {Z : Nat → Nat → Int} {A : List (List Int)} {D : List Int} (h : FirmP n Z (nth D)) : firmsL n Z (A ++ [D]) = firmsL n Z A ++ [D] := by
  unfold firmsL
  rw [List.filter_append]
  simp [tt_of h]
theorem firmsL_no {n : Nat} {Z : Nat → Nat → Int} {A : List (List Int)} {D : List Int} (h : ¬ FirmP n Z (nth D)) : firmsL n Z (A ++ [D]) = firmsL n Z A := by
  unfold firmsL
  rw [List.filter_append]
  simp [tt_no h]
theorem firmsL_le (n : Nat) (Z : Nat → Nat → Int) (LL : List (List Int)) : (firmsL n Z LL).length ≤ LL.length := List.length_filter_le _ _
/-- What HouseFirms answers. -/
noncomputable def firmsAll (n : Nat) (L : Nat → Nat) (Z : Nat → Nat → Int) : List (List Int) := if tt (IsWishes n L Z) = true then firmsL n Z (givs n n []) else []
theorem firmsAll_yes {n : Nat} {L : Nat → Nat} {Z : Nat → Nat → Int} (h : IsWishes n L Z) : firmsAll n L Z = firmsL n Z (givs n n []) := by unfold firmsAll; rw [tt_of h]; rfl
theorem firmsAll_no {n : Nat} {L : Nat → Nat} {Z : Nat → Nat → Int} (h : ¬ IsWishes n L Z) : firmsAll n L Z = [] := by unfold firmsAll; rw [tt_no h]; rfl
theorem givsN_le {n : Nat} (hn : n ≤ 5) : (givs n n []).length ≤ 7776 := Nat.le_trans (givs_le hn n []) (Nat.pow_le_pow_right (show 0 < 6 by omega) hn)
theorem givsN_given {n : Nat} {L : Nat → Nat} {Z : Nat → Nat → Int} {D : List Int} (h : IsWishes n L Z) (hD : D ∈ givs n n []) : GivenOk n L Z n (nth D) := by
  have h1 := (mem_givs n [] (Diff.nil n) (by simp) D).1 hD
  have h2 := h1.1
  unfold Diff at h2
  rw [h1.2.1] at h2
  exact ⟨h, rfl, fun j hj => by have := h2.1 j hj; exact ⟨this.1, by omega⟩, h2.2⟩
theorem firms_small (n : Nat) (L : Nat → Nat) (Z : Nat → Nat → Int) : (firmsAll n L Z).length ≤ 1048576 ∧ tot (lenL (firmsAll n L Z)) (firmsAll n L Z).length ≤ 1048576 := by
  have htot : ∀ (M : Nat → Nat) (B k : Nat), (∀ r, r < k → M r ≤ B) → tot M k ≤ k * B := by
    intro M B k h
    induction k with
    | zero => simp [tot]
    | succ k ih =>
      have h1 := ih (fun r hr => h r (by omega))
      have h2 := h k (by omega)
      show tot M k + M k ≤ (k + 1) * B
      rw [Nat.succ_mul]; omega
  by_cases h : IsWishes n L Z
  · rw [firmsAll_yes h]
    have hn5 := h.1.2
    have h1 := Nat.le_trans (firmsL_le n Z (givs n n [])) (givsN_le hn5)
    have h2 := htot (lenL (firmsL n Z (givs n n []))) 5 (firmsL n Z (givs n n [])).length (fun r hr => by
      unfold lenL
      rw [List.getD_eq_getElem?_getD, List.getElem?_eq_getElem hr]
      have hm : (firmsL n Z (givs n n []))[r] ∈ givs n n [] := by
        have := List.getElem_mem hr
        unfold firmsL at this
        exact (List.mem_filter.1 this).1
      have := ((mem_givs n [] (Diff.nil n) (by simp) _).1 hm).2.1
      show ((firmsL n Z (givs n n []))[r]).length ≤ 5
      omega)
    omega
  · rw [firmsAll_no h]
    simp [tot]
end Go.Proofs.YtabdbgnkiebcdaaGreatDoor

namespace Go.Proofs.YtabdbgnkiebcdaaGreatDoor
set_option linter.unusedVariables false
set_option linter.unusedSimpArgs false
open Go.RowKit

/-- Everybody together does not block. -/
def GoodP (n : Nat) (Z : Nat → Nat → Int) (G : Nat → Int) : Prop := ¬ BlocksP n Z G (2 ^ n - 1)
def GoodOk (n : Nat) (L : Nat → Nat) (Z : Nat → Nat → Int) (m : Nat) (G : Nat → Int) : Prop := GivenOk n L Z m G ∧ GoodP n Z G
theorem all_lt (n : Nat) : 2 ^ n - 1 < 2 ^ n := by have := Nat.two_pow_pos n; omega
theorem all_bit (n y : Nat) : (2 ^ n - 1).testBit y = decide (y < n) := Nat.testBit_two_pow_sub_one n y
theorem own_all {n : Nat} {X : Nat → Int} (hd : IsDiff n n X) : OwnP n (2 ^ n - 1) X := fun y => by
  rw [all_bit, decide_eq_true_iff]
  constructor
  · intro hy
    obtain ⟨i, hi, e⟩ := hd.all hy
    exact ⟨i, hi, by rw [all_bit, decide_eq_true_iff]; exact hi, e⟩
  · rintro ⟨i, hi, _, e⟩
    have := hd.1 i hi
    omega
theorem giv_diff {n : Nat} {D : List Int} (hD : D ∈ givs n n []) : IsDiff n n (nth D) := by
  have h3 := (mem_givs n [] (Diff.nil n) (by simp) _).1 hD
  have h4 := h3.1
  unfold Diff at h4
  rwa [h3.2.1] at h4
/-- No other giving is better for some and worse for none. -/
theorem good_iff {n : Nat} {L : Nat → Nat} {Z : Nat → Nat → Int} {G : Nat → Int} (hg : GivenOk n L Z n G) : GoodP n Z G ↔ ∀ D, D ∈ givs n n [] → ¬ BetterP n Z (2 ^ n - 1) G (nth D) := by
  unfold GoodP
  rw [blocks_iff hg (all_lt n)]
  constructor
  · intro h D hD hb
    exact h ⟨D, hD, own_all (giv_diff hD), hb⟩
  · rintro h ⟨D, hD, _, hb⟩
    exact h D hD hb
noncomputable def goodsL (n : Nat) (Z : Nat → Nat → Int) (LL : List (List Int)) : List (List Int) := LL.filter fun D => tt (GoodP n Z (nth D))
theorem goodsL_yes {n : Nat} {Z : Nat → Nat → Int} {A : List (List Int)} {D : List Int} (h : GoodP n Z (nth D)) : goodsL n Z (A ++ [D]) = goodsL n Z A ++ [D] := by
  unfold goodsL
  rw [List.filter_append]
  simp [tt_of h]
theorem goodsL_no {n : Nat} {Z : Nat → Nat → Int} {A : List (List Int)} {D : List Int} (h : ¬ GoodP n Z (nth D)) : goodsL n Z (A ++ [D]) = goodsL n Z A := by
  unfold goodsL
  rw [List.filter_append]
  simp [tt_no h]
theorem goodsL_le (n : Nat) (Z : Nat → Nat → Int) (LL : List (List Int)) : (goodsL n Z LL).length ≤ LL.length := List.length_filter_le _ _
/-- All good givings. -/
noncomputable def goodsAll (n : Nat) (L : Nat → Nat) (Z : Nat → Nat → Int) : List (List Int) := if tt (IsWishes n L Z) = true then goodsL n Z (givs n n []) else []
theorem goodsAll_yes {n : Nat} {L : Nat → Nat} {Z : Nat → Nat → Int} (h : IsWishes n L Z) : goodsAll n L Z = goodsL n Z (givs n n []) := by unfold goodsAll; rw [tt_of h]; rfl
theorem goodsAll_no {n : Nat} {L : Nat → Nat} {Z : Nat → Nat → Int} (h : ¬ IsWishes n L Z) : goodsAll n L Z = [] := by unfold goodsAll; rw [tt_no h]; rfl
/-- Some givings of all of them are not too many. -/
theorem some_small {n : Nat} {L : Nat → Nat} {Z : Nat → Nat → Int} (h : IsWishes n L Z) (p : List Int → Bool) : ((givs n n []).filter p).length ≤ 7776 ∧ tot (lenL ((givs n n []).filter p)) ((givs n n []).filter p).length ≤ 1048576 := by
  have htot : ∀ (M : Nat → Nat) (B k : Nat), (∀ r, r < k → M r ≤ B) → tot M k ≤ k * B := by
    intro M B k h
    induction k with
    | zero => simp [tot]
    | succ k ih =>
      have h1 := ih (fun r hr => h r (by omega))
      have h2 := h k (by omega)
      show tot M k + M k ≤ (k + 1) * B
      rw [Nat.succ_mul]; omega
  have hn5 := h.1.2
  have h1 := Nat.le_trans (List.length_filter_le p (givs n n [])) (givsN_le hn5)
  have h2 := htot (lenL ((givs n n []).filter p)) 5 ((givs n n []).filter p).length (fun r hr => by
    unfold lenL
    rw [List.getD_eq_getElem?_getD, List.getElem?_eq_getElem hr]
    have hm : ((givs n n []).filter p)[r] ∈ givs n n [] := (List.mem_filter.1 (List.getElem_mem hr)).1
    have := ((mem_givs n [] (Diff.nil n) (by simp) _).1 hm).2.1
    show (((givs n n []).filter p)[r]).length ≤ 5
    omega)
  omega
theorem goods_small (n : Nat) (L : Nat → Nat) (Z : Nat → Nat → Int) : (goodsAll n L Z).length ≤ 1048576 ∧ tot (lenL (goodsAll n L Z)) (goodsAll n L Z).length ≤ 1048576 := by
  by_cases h : IsWishes n L Z
  · rw [goodsAll_yes h]
    have := some_small h (fun D => tt (GoodP n Z (nth D)))
    exact ⟨Nat.le_trans this.1 (by omega), this.2⟩
  · rw [goodsAll_no h]
    simp [tot]
end Go.Proofs.YtabdbgnkiebcdaaGreatDoor

namespace Go.Proofs.YtabdbgnkiebcdaaGreatDoor
set_option linter.unusedVariables false
set_option linter.unusedSimpArgs false
open Go.RowKit

set_option maxHeartbeats 400000 in
theorem l3At_any (n c : Nat) (a : Option Addr) (X : Nat → Int) (x : Int) (w : World) (hn : n ≤ 1048576) (ha : Rd w a n X) :
    Calls Tryz.prog 82 #[.slice a n c, .int .i64 x] w fun e w' => e = .returned (.int .i64 (atL X x n)) ∧ w = w' := by
  go_enter Tryz.func82, Tryz.ntmps82
  go_wp2
  go_loop [4, 5] (fun _ i => ∃ k : Nat, k ≤ n ∧ i = .int .i64 k ∧ ∀ j, j < k → X j ≠ x) (fun _ i => n - (intOf i).toNat)
  case atStart => exact ⟨0, Nat.zero_le _, rfl, fun j hj => absurd hj (Nat.not_lt_zero _)⟩
  case round =>
    obtain ⟨k, hk, rfl, hno⟩ := hrel
    have HN := Lib.hid hno
    clear hno
    by_cases hlt : k < n
    · obtain ⟨ba, oa, rfl, hca⟩ := ha k hlt
      clear ha
      by_cases hx : X k = x
      · have hd2 : (X k == x) = true := by simpa using hx
        have HX := Lib.hid (atL_first HN.out hx hlt)
        clear hx
        go_wp2
        go_ret
        exact ⟨by rw [HX.out]; rfl, rfl⟩
      · have hd2 : (X k == x) = false := by simpa using hx
        have HX := Lib.hid hx
        clear hx
        go_wp2
        go_round
        case rel => exact ⟨k + 1, by omega, by go_num, fun j hj => by
          by_cases e : j = k
          · subst e; exact HX.out
          · exact HN.out j (by omega)⟩
        case measure => simp [intOf]; omega
    · obtain rfl : k = n := by omega
      clear ha
      have HX := Lib.hid (atL_none HN.out)
      go_wp2
      go_ret
      exact ⟨by rw [HX.out]; rfl, rfl⟩
end Go.Proofs.YtabdbgnkiebcdaaGreatDoor
