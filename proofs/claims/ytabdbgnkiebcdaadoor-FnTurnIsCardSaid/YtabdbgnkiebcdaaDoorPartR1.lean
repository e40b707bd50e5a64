/- Texts joined: Mem, Itoa, SzInts, SzTab, InfoInts, ToInts, ToTab, SameB, EqInts, EqTab. -/
import Derived.WalkKit
import Derived.WalkSpells
import Derived.WalkLawsBesides
import Derived.BigQuiet
import Derived.BigGuardPart
import Derived.Deep.QuietTactic
import Derived.Deep.LoopGhost
import Derived.Lib.Hide
import Derived.Deep.DeepFit
import Derived.Deep.DeepMust
import Derived.Deep.OwnRows
import Derived.Deep.RegionHeld3
import Derived.Deep.RegionLawGrows
import Derived.Deep.AppendLies
import Derived.Deep.WholeRow
import Derived.Deep.MidRow
import Derived.Test.YtabdbgnkiebcdaaDoorProg
import Derived.Shelf.Strconv.Itoa3
import Derived.Lib.AppendIntMem
namespace Go.Proofs.YtabdbgnkiebcdaaDoor
set_option linter.unusedVariables false
set_option linter.unusedSimpArgs false

section
open Go.RowKit
section
/-- A number of 64 bits. -/
def I64 (x : Int) : Prop := -9223372036854775808 ≤ x ∧ x ≤ 9223372036854775807

/-- The slice at 'a' of n integers reads as X 0, X 1, .. -/
def Rd (w : World) (a : Option Addr) (n : Nat) (X : Nat → Int) : Prop :=
  ∀ k, k < n → ∃ b o, a = some ⟨b, o, none⟩ ∧ w.cell? ⟨b, o + k, none⟩ = some (.int .i64 (X k))

theorem Rd.lt {w : World} {a : Option Addr} {n : Nat} {X : Nat → Int} (h : Rd w a n X) {k : Nat} (hk : k < n) :
    ∃ b o, a = some ⟨b, o, none⟩ ∧ b < w.heap.size ∧ w.cell? ⟨b, o + k, none⟩ = some (.int .i64 (X k)) := by
  obtain ⟨b, o, ha, hc⟩ := h k hk
  exact ⟨b, o, ha, World.block_lt_of_cell? _ _ hc, hc⟩

theorem Rd.below {w w' : World} {B : Nat} {a : Option Addr} {n : Nat} {X : Nat → Int} (h : Rd w a n X) (hB : w.heap.size ≤ B) (hb : Below B w w') : Rd w' a n X := by
  intro k hk
  obtain ⟨b, o, ha, hlt, hc⟩ := h.lt hk
  exact ⟨b, o, ha, (hb.cell (p := ⟨b, o + k, none⟩) (Nat.lt_of_lt_of_le hlt hB)).trans hc⟩

theorem Rd.drewN {w : World} {a : Option Addr} {n : Nat} {X : Nat → Int} (h : Rd w a n X) (q : Nat) : Rd (w.drewN q) a n X := by
  intro k hk
  obtain ⟨b, o, ha, hc⟩ := h k hk
  exact ⟨b, o, ha, by simpa using hc⟩

/-- The table at 'a' of n rows, row r of L r integers, reads as Z r 0, Z r 1, .. -/
def Tab (w : World) (a : Option Addr) (n : Nat) (A : Nat → Option Addr) (L C : Nat → Nat) (Z : Nat → Nat → Int) : Prop :=
  ∀ r, r < n → ∃ b o, a = some ⟨b, o, none⟩ ∧ w.cell? ⟨b, o + r, none⟩ = some (.slice (A r) (L r) (C r)) ∧ Rd w (A r) (L r) (Z r)

theorem Tab.below {w w' : World} {B : Nat} {a : Option Addr} {n : Nat} {A : Nat → Option Addr} {L C : Nat → Nat} {Z : Nat → Nat → Int} (h : Tab w a n A L C Z) (hB : w.heap.size ≤ B) (hb : Below B w w') : Tab w' a n A L C Z := by
  intro r hr
  obtain ⟨b, o, ha, hc, hd⟩ := h r hr
  exact ⟨b, o, ha, (hb.cell (p := ⟨b, o + r, none⟩) (Nat.lt_of_lt_of_le (World.block_lt_of_cell? _ _ hc) hB)).trans hc, hd.below hB hb⟩

theorem Tab.drewN {w : World} {a : Option Addr} {n : Nat} {A : Nat → Option Addr} {L C : Nat → Nat} {Z : Nat → Nat → Int} (h : Tab w a n A L C Z) (q : Nat) : Tab (w.drewN q) a n A L C Z := by
  intro r hr
  obtain ⟨b, o, ha, hc, hd⟩ := h r hr
  exact ⟨b, o, ha, by simpa using hc, hd.drewN q⟩

theorem below_chain {a b c : World} (h1 : Below a.heap.size a b) (h2 : Below b.heap.size b c) : Below a.heap.size a c := h1.trans (h2.mono h1.size)

/-- A new row is read. -/
theorem Rd.of_row {w : World} {b t n : Nat} {X : Nat → Int} (h : w.rowIs b t n (fun i => .int .i64 (X i))) : Rd w (some ⟨b, 0, none⟩) n X :=
  fun k hk => ⟨b, 0, rfl, by rw [Nat.zero_add]; exact h.cell hk⟩

/-- A new table: its top row at block B, a block a row behind it. -/
structure NewTab (tS tI : Nat) (w : World) (B n : Nat) (L : Nat → Nat) (Z : Nat → Nat → Int) : Prop where
  top : w.rowIs B tS n (fun r => .slice (some ⟨B + 1 + r, 0, none⟩) (L r) (L r))
  rows : ∀ r, r < n → w.rowIs (B + 1 + r) tI (L r) (fun i => .int .i64 (Z r i))

theorem NewTab.tab {tS tI : Nat} {w : World} {B n : Nat} {L : Nat → Nat} {Z : Nat → Nat → Int} (h : NewTab tS tI w B n L Z) : Tab w (some ⟨B, 0, none⟩) n (fun r => some ⟨B + 1 + r, 0, none⟩) L L Z :=
  fun r hr => ⟨B, 0, rfl, by rw [Nat.zero_add]; exact h.top.cell hr, Rd.of_row (h.rows r hr)⟩

theorem rowIs_below {w w' : World} {B b t n : Nat} {f : Nat → Value} (h : w.rowIs b t n f) (hB : b < B) (hb : Below B w w') : w'.rowIs b t n f := h.of_block (hb.block b hB)

theorem NewTab.below {tS tI : Nat} {w w' : World} {B n X : Nat} {L : Nat → Nat} {Z : Nat → Nat → Int} (h : NewTab tS tI w B n L Z) (hX : B + n < X) (hb : Below X w w') : NewTab tS tI w' B n L Z :=
  ⟨rowIs_below h.top (by omega) hb, fun r hr => rowIs_below (h.rows r hr) (by omega) hb⟩

/-- How many integers lie in the first k rows. -/
def tot (L : Nat → Nat) : Nat → Nat
  | 0 => 0
  | k + 1 => tot L k + L k
theorem tot_mono {L : Nat → Nat} {i j : Nat} (h : i ≤ j) : tot L i ≤ tot L j := by
  induction j with
  | zero => have : i = 0 := by omega
            subst this; exact Nat.le_refl _
  | succ j ih =>
    by_cases e : i = j + 1
    · subst e; exact Nat.le_refl _
    · exact Nat.le_trans (ih (by omega)) (Nat.le_add_right _ _)
theorem le_tot {L : Nat → Nat} {i n : Nat} (h : i < n) : L i ≤ tot L n := Nat.le_trans (Nat.le_add_left _ _) (tot_mono (L := L) (i := i + 1) (j := n) h)

/-- A condition as a bool, closed to the walk. -/
noncomputable def tt (p : Prop) : Bool := @decide p (Classical.propDecidable p)
theorem tt_iff {p : Prop} : tt p = true ↔ p := by unfold tt; exact @decide_eq_true_iff p (Classical.propDecidable p)
theorem tt_of {p : Prop} (h : p) : tt p = true := tt_iff.2 h
theorem tt_no {p : Prop} (h : ¬ p) : tt p = false := by rw [← Bool.not_eq_true, tt_iff]; exact h
theorem tt_eq {p : Prop} {b : Bool} (h : b = true ↔ p) : b = tt p := by
  cases b
  · exact (tt_no (fun hp => by simpa using h.2 hp)).symm
  · exact (tt_of (h.1 rfl)).symm
theorem tt_congr {p q : Prop} (h : p ↔ q) : tt p = tt q := tt_eq (tt_iff.trans h)

/-- A number of a range. -/
def InR (x lo hi : Int) : Prop := lo ≤ x ∧ x ≤ hi

/-- What is left of a budget behind t places: -1 if there are not so many. -/
def szF (left : Int) (t : Nat) : Int := if (t : Int) ≤ left then left - t else -1

theorem ret_bool {a b : Bool} (h : a = b) : Ending.returned (.bool a) = .returned (.bool b) := by rw [h]
theorem ret_int {k : IntKind} {a b : Int} (h : a = b) : Ending.returned (.int k a) = .returned (.int k b) := by rw [h]
end

section
open Go.RowKit
def IsRates (n : Nat) (L : Nat → Nat) (Z : Nat → Nat → Int) : Prop :=
  (2 ≤ n ∧ n ≤ 5) ∧ ∀ i, i < n → L i = n ∧ ∀ k, k < n → (1 ≤ Z i k ∧ Z i k ≤ 144) ∧ (i = k → Z i k = 12)
end
end

section
open Go.RowKit
section
theorem ofInt64_nat (a : Nat) (ha : a < 18446744073709551616) : (BitVec.ofInt 64 (a : Int)).toNat = a := by
  rw [BitVec.ofInt_natCast, BitVec.toNat_ofNat]; exact Nat.mod_eq_of_lt (by omega)

theorem bits_and_i64 (a b : Nat) (ha : a < 9223372036854775808) (hb : b < 9223372036854775808) : bits .and .i64 (a : Int) (b : Int) = ((a &&& b : Nat) : Int) := by
  have hx : a &&& b < 2 ^ 63 := Nat.and_lt_two_pow _ (by omega)
  show IntKind.i64.wrap ((BitVec.ofInt 64 (a : Int) &&& BitVec.ofInt 64 (b : Int)).toNat : Int) = _
  rw [BitVec.toNat_and, ofInt64_nat a (by omega), ofInt64_nat b (by omega), IntKind.wrap_i64]
  omega

theorem bits_or_i64 (a b : Nat) (ha : a < 9223372036854775808) (hb : b < 9223372036854775808) : bits .or .i64 (a : Int) (b : Int) = ((a ||| b : Nat) : Int) := by
  have hx : a ||| b < 2 ^ 63 := Nat.or_lt_two_pow (by omega) (by omega)
  show IntKind.i64.wrap ((BitVec.ofInt 64 (a : Int) ||| BitVec.ofInt 64 (b : Int)).toNat : Int) = _
  rw [BitVec.toNat_or, ofInt64_nat a (by omega), ofInt64_nat b (by omega), IntKind.wrap_i64]
  omega

theorem two_pow_lt {x n : Nat} (h : x < n) : 2 ^ x < 2 ^ n := Nat.pow_lt_pow_right (by omega) h

theorem wrap_pow {x : Nat} (h : x < 62) : wrap64 (2 ^ x) = ((2 ^ x : Nat) : Int) := by
  have := two_pow_lt h
  rw [IntWalk.wrap64_in _ ⟨by have : (0 : Int) ≤ 2 ^ x := Int.le_of_lt (Int.pow_pos (by omega)); omega, by
    have e : ((2 ^ x : Nat) : Int) = (2 : Int) ^ x := by simp
    have : ((2 ^ x : Nat) : Int) < ((2 ^ 62 : Nat) : Int) := by omega
    omega⟩]
  simp

/-- Is x in the set? As the walk asks. -/
theorem bit_has (S x : Nat) (hS : S < 2 ^ 62) : (bits .and .i64 ((S : Int) / 2 ^ x) 1 == 1) = S.testBit x := by
  have e : ((S : Int) / 2 ^ x) = ((S / 2 ^ x : Nat) : Int) := by simp
  have hle : S / 2 ^ x ≤ S := Nat.div_le_self _ _
  rw [e, show (1 : Int) = ((1 : Nat) : Int) from rfl, bits_and_i64 _ _ (by omega) (by omega)]
  rw [Nat.testBit, Nat.shiftRight_eq_div_pow, Nat.and_comm 1]
  have h2 : S / 2 ^ x &&& 1 = 0 ∨ S / 2 ^ x &&& 1 = 1 := by rw [Nat.and_one_is_mod]; omega
  rcases h2 with h | h <;> rw [h] <;> rfl

/-- x is put into the set. -/
theorem bit_put (S x : Nat) (hS : S < 2 ^ 62) (hx : x < 62) : bits .or .i64 (S : Int) (wrap64 (2 ^ x)) = ((S ||| 2 ^ x : Nat) : Int) := by
  have := two_pow_lt hx
  rw [wrap_pow hx, bits_or_i64 _ _ (by omega) (by omega)]

theorem bit_put_lt {S x n : Nat} (hS : S < 2 ^ n) (hx : x < n) : S ||| 2 ^ x < 2 ^ n := Nat.or_lt_two_pow hS (two_pow_lt hx)

theorem bit_put_has (S x y : Nat) : (S ||| 2 ^ x).testBit y = true ↔ (S.testBit y = true ∨ y = x) := by
  rw [Nat.testBit_or, Bool.or_eq_true, Nat.testBit_two_pow, decide_eq_true_iff]
  exact ⟨fun h => h.imp_right Eq.symm, fun h => h.imp_right Eq.symm⟩
end

section
open Go.RowKit
/-- m numbers from 0 to n - 1, none of them twice. -/
def IsDiff (n m : Nat) (X : Nat → Int) : Prop := (∀ i, i < m → 0 ≤ X i ∧ X i < n) ∧ ∀ i j, i < j → j < m → X i ≠ X j

/-- A way: different moneys, two at least. -/
def IsWay (n m : Nat) (X : Nat → Int) : Prop := IsDiff n m X ∧ 2 ≤ m ∧ m ≤ n

/-- The set of the first k numbers. -/
def SetOf (S k : Nat) (X : Nat → Int) : Prop := ∀ y : Nat, S.testBit y = true ↔ ∃ j, j < k ∧ X j = y

theorem SetOf.nil (X : Nat → Int) : SetOf 0 0 X := by
  intro y
  simp
theorem SetOf.put {S k x : Nat} {X : Nat → Int} (h : SetOf S k X) (hx : X k = x) : SetOf (S ||| 2 ^ x) (k + 1) X := by
  intro y
  rw [bit_put_has, h y]
  constructor
  · rintro (⟨j, hj, e⟩ | rfl)
    · exact ⟨j, by omega, e⟩
    · exact ⟨k, by omega, hx⟩
  · rintro ⟨j, hj, e⟩
    by_cases ek : j = k
    · subst ek; right; omega
    · exact .inl ⟨j, by omega, e⟩

theorem IsDiff.nil (n : Nat) (X : Nat → Int) : IsDiff n 0 X := ⟨fun i hi => absurd hi (Nat.not_lt_zero _), fun i j _ hj => absurd hj (Nat.not_lt_zero _)⟩
theorem IsDiff.snoc {n k S x : Nat} {X : Nat → Int} (h : IsDiff n k X) (hs : SetOf S k X) (hx : X k = x) (hlt : x < n) (hno : S.testBit x = false) : IsDiff n (k + 1) X := by
  refine ⟨fun i hi => ?_, fun i j hij hj => ?_⟩
  · by_cases e : i = k
    · subst e; omega
    · exact h.1 i (by omega)
  · by_cases e : j = k
    · subst e
      intro e'
      have := (hs x).2 ⟨i, hij, by rw [e', hx]⟩
      rw [hno] at this
      cases this
    · exact h.2 i j hij (by omega)
theorem not_diff_twice {n m k S x : Nat} {X : Nat → Int} (hs : SetOf S k X) (hk : k < m) (hx : X k = x) (hyes : S.testBit x = true) : ¬ IsDiff n m X := by
  intro h
  obtain ⟨j, hj, e⟩ := (hs x).1 hyes
  exact h.2 j k hj hk (by rw [e, hx])
theorem not_diff_range {n m k : Nat} {X : Nat → Int} (hk : k < m) (h : X k < 0 ∨ (n : Int) ≤ X k) : ¬ IsDiff n m X := by
  intro hd
  have := hd.1 k hk
  omega
end

section
open Go.RowKit
def p12 : Nat → Int
  | 0 => 1
  | k + 1 => p12 k * 12

theorem p12_le (k : Nat) (h : k ≤ 10) : 1 ≤ p12 k ∧ p12 k ≤ 61917364224 := by
  have : k = 0 ∨ k = 1 ∨ k = 2 ∨ k = 3 ∨ k = 4 ∨ k = 5 ∨ k = 6 ∨ k = 7 ∨ k = 8 ∨ k = 9 ∨ k = 10 := by omega
  rcases this with rfl | rfl | rfl | rfl | rfl | rfl | rfl | rfl | rfl | rfl | rfl <;> decide

/-- The value behind k changes along a list, begun with v. -/
def valF (Z : Nat → Nat → Int) (W : Nat → Int) (v : Int) : Nat → Int
  | 0 => v
  | k + 1 => valF Z W v k * Z (W k).toNat (W (k + 1)).toNat

theorem valF_le {Z : Nat → Nat → Int} {W : Nat → Int} {v : Int} (k : Nat) (hk : k ≤ 5) (hv : 0 ≤ v ∧ v ≤ 2985984) (h : ∀ j, j < k → 0 ≤ Z (W j).toNat (W (j + 1)).toNat ∧ Z (W j).toNat (W (j + 1)).toNat ≤ 144) :
    0 ≤ valF Z W v k ∧ valF Z W v k ≤ 2985984 * 144 ^ k := by
  induction k with
  | zero => exact ⟨hv.1, by simpa [valF] using hv.2⟩
  | succ k ih =>
    obtain ⟨h1, h2⟩ := ih (by omega) (fun j hj => h j (by omega))
    obtain ⟨h3, h4⟩ := h k (by omega)
    refine ⟨Int.mul_nonneg h1 h3, ?_⟩
    show valF Z W v k * Z (W k).toNat (W (k + 1)).toNat ≤ _
    calc valF Z W v k * Z (W k).toNat (W (k + 1)).toNat ≤ (2985984 * 144 ^ k) * 144 := Int.mul_le_mul h2 h4 h3 (Int.mul_nonneg (by decide) (Int.pow_nonneg (by decide)))
      _ = 2985984 * 144 ^ (k + 1) := by rw [Int.mul_assoc, Int.pow_succ]

theorem pow144_le (k : Nat) (h : k ≤ 5) : (144 : Int) ^ k ≤ 61917364224 := by
  have : k = 0 ∨ k = 1 ∨ k = 2 ∨ k = 3 ∨ k = 4 ∨ k = 5 := by omega
  rcases this with rfl | rfl | rfl | rfl | rfl | rfl <;> decide

theorem valF_bound {Z : Nat → Nat → Int} {W : Nat → Int} {v : Int} (k : Nat) (hk : k ≤ 5) (hv : 0 ≤ v ∧ v ≤ 2985984) (h : ∀ j, j < k → 0 ≤ Z (W j).toNat (W (j + 1)).toNat ∧ Z (W j).toNat (W (j + 1)).toNat ≤ 144) :
    0 ≤ valF Z W v k ∧ valF Z W v k ≤ 1000000000000000000 := by
  obtain ⟨h1, h2⟩ := valF_le k hk hv h
  have := pow144_le k hk
  exact ⟨h1, by omega⟩
theorem p12_small (k : Nat) (h : k ≤ 6) : 0 ≤ p12 k ∧ p12 k ≤ 2985984 := by
  have : k = 0 ∨ k = 1 ∨ k = 2 ∨ k = 3 ∨ k = 4 ∨ k = 5 ∨ k = 6 := by omega
  rcases this with rfl | rfl | rfl | rfl | rfl | rfl | rfl <;> decide
theorem valF_congr {Z Y : Nat → Nat → Int} {W : Nat → Int} {v : Int} (k : Nat) (h : ∀ j, j < k → Z (W j).toNat (W (j + 1)).toNat = Y (W j).toNat (W (j + 1)).toNat) : valF Z W v k = valF Y W v k := by
  induction k with
  | zero => rfl
  | succ k ih =>
    show valF Z W v k * _ = valF Y W v k * _
    rw [ih (fun j hj => h j (by omega)), h k (by omega)]
end

section
open Go.RowKit
/-- A round: a way that begins with its least money. -/
def IsRing (n m : Nat) (X : Nat → Int) : Prop := IsWay n m X ∧ ∀ i, 1 ≤ i → i < m → X 0 < X i
def RoundOk (n : Nat) (L : Nat → Nat) (Z : Nat → Nat → Int) (m : Nat) (X : Nat → Int) : Prop := IsRates n L Z ∧ IsRing n m X
/-- The round closed: its first money behind it. -/
def closeF (m : Nat) (X : Nat → Int) (k : Nat) : Int := if k < m then X k else X 0
def roundV (n : Nat) (Z : Nat → Nat → Int) (m : Nat) (X : Nat → Int) : Int := valF Z (closeF m X) (p12 ((n : Int) - (m + 1 : Nat) + 1).toNat) m
noncomputable def roundAns (n : Nat) (L : Nat → Nat) (Z : Nat → Nat → Int) (m : Nat) (X : Nat → Int) : Int := if tt (RoundOk n L Z m X) = true then roundV n Z m X else 0
theorem roundAns_no {n : Nat} {L : Nat → Nat} {Z : Nat → Nat → Int} {m : Nat} {X : Nat → Int} (h : ¬ RoundOk n L Z m X) : roundAns n L Z m X = 0 := by unfold roundAns; rw [tt_no h]; rfl
theorem roundAns_yes {n : Nat} {L : Nat → Nat} {Z : Nat → Nat → Int} {m : Nat} {X : Nat → Int} (h : RoundOk n L Z m X) : roundAns n L Z m X = roundV n Z m X := by unfold roundAns; rw [tt_of h]; rfl
theorem closeF_in {n m : Nat} {X : Nat → Int} (h : IsWay n m X) (i : Nat) : 0 ≤ closeF m X i ∧ closeF m X i < n := by
  have := h.2
  unfold closeF
  by_cases hi : i < m
  · rw [if_pos hi]; exact h.1.1 i hi
  · rw [if_neg hi]; exact h.1.1 0 (by omega)

/-- The least of X 0, .. X k. -/
def minF (X : Nat → Int) : Nat → Int
  | 0 => X 0
  | k + 1 => min (minF X k) (X (k + 1))
theorem minF_le (X : Nat → Int) (k : Nat) : ∀ i, i ≤ k → minF X k ≤ X i := by
  induction k with
  | zero => intro i hi; have : i = 0 := by omega
            subst this; exact Int.le_refl _
  | succ k ih =>
    intro i hi
    by_cases e : i = k + 1
    · subst e; exact Int.min_le_right _ _
    · exact Int.le_trans (Int.min_le_left _ _) (ih i (by omega))
theorem minF_first (X : Nat → Int) (k : Nat) (h : ∀ i, i ≤ k → X 0 ≤ X i) : minF X k = X 0 := by
  induction k with
  | zero => rfl
  | succ k ih =>
    show min (minF X k) (X (k + 1)) = X 0
    rw [ih (fun i hi => h i (by omega))]
    exact Int.min_eq_left (h (k + 1) (by omega))
theorem ring_iff {n m : Nat} {X : Nat → Int} (h : IsWay n m X) : X 0 = minF X (m - 1) ↔ IsRing n m X := by
  have hm := h.2
  constructor
  · intro e
    refine ⟨h, fun i h1 h2 => ?_⟩
    have h3 := minF_le X (m - 1) i (by omega)
    have h4 := h.1.2 0 i (by omega) h2
    omega
  · intro hr
    refine (minF_first X (m - 1) fun i hi => ?_).symm
    by_cases e : i = 0
    · subst e; exact Int.le_refl _
    · exact Int.le_of_lt (hr.2 i (by omega) (by omega))
end
end

section
open Go.RowKit
/-- What is held of the world in such a region: a cell, and that all that was there in w is as it was. -/
theorem keep_drew {w : World} {a : Addr} {v : Value} {W : World} (h : W.cell? a = some v ∧ Below w.heap.size w W) : W.drew.cell? a = some v ∧ Below w.heap.size w W.drew := ⟨by simpa using h.1, h.2.drew⟩
theorem keep_alloc {w : World} {a : Addr} {v : Value} {W : World} (h : W.cell? a = some v ∧ Below w.heap.size w W) (o : Obj) : (W.alloc o).cell? a = some v ∧ Below w.heap.size w (W.alloc o) :=
  ⟨by rw [World.cell?_of_block (w := W) (Below.heap_alloc W o a.block (World.block_lt_of_cell? _ _ h.1))]; exact h.1, h.2.alloc h.2.size o⟩
theorem keep_grown {w : World} {a : Addr} {v : Value} {W w1 : World} {row : Option Nat} (h : W.cell? a = some v ∧ Below w.heap.size w W) (ha : a.block < w.heap.size) (hg : W.grownBy w1 row) (hr : ∀ k, row = some k → w.heap.size ≤ k) : w1.cell? a = some v ∧ Below w.heap.size w w1 := by
  refine ⟨hg.cell h.1 ?_, h.2.grown hg h.2.size hr⟩
  intro e
  have := hr _ e.symm
  omega

theorem keep_below {w : World} {a : Addr} {v : Value} {W w1 : World} (h : W.cell? a = some v ∧ Below w.heap.size w W) (ha : a.block < w.heap.size) (hb : Below W.heap.size W w1) : w1.cell? a = some v ∧ Below w.heap.size w w1 :=
  ⟨(hb.cell (Nat.lt_of_lt_of_le ha h.2.size)).trans h.1, h.2.trans (hb.mono h.2.size)⟩
theorem below_alloc {w W : World} (h : Below w.heap.size w W) (o : Obj) : Below w.heap.size w (W.alloc o) := h.alloc h.size o
theorem owns_base {w : World} {base base' e size n : Nat} {v : Value} {xs : List Value} (h : w.ownsRow base e size v n xs) (hb : base' ≤ base) : w.ownsRow base' e size v n xs := by
  obtain ⟨h1, (h2 | ⟨g, cap, cur, hv, hg, hr⟩)⟩ := h
  · exact ⟨h1, .inl h2⟩
  · exact ⟨h1, .inr ⟨g, cap, cur, hv, Nat.le_trans hb hg, hr⟩⟩
theorem news_one {W : World} {g : Nat} {x : Value} (h : W.cell? ⟨g, 0, none⟩ = some x) : ∀ j u, [x][j]? = some u → W.cell? ((⟨g, 0, none⟩ : Addr).add j) = some u := by
  intro j u hu
  cases j with
  | zero =>
    simp only [List.getElem?_cons_zero, Option.some.injEq] at hu
    subst hu
    simpa [Addr.add] using h
  | succ j => simp at hu

/-- The cells of a row of integers, as an append asks for them. -/
def cellsL (n : Nat) (X : Nat → Int) : List Value := (List.range n).map fun k => .int .i64 (X k)
theorem cellsL_length (n : Nat) (X : Nat → Int) : (cellsL n X).length = n := by simp [cellsL]
theorem cellsL_get {n j : Nat} (X : Nat → Int) (h : j < n) : (cellsL n X)[j]? = some (.int .i64 (X j)) := by simp [cellsL, h]
theorem cellsL_one (n : Nat) (X : Nat → Int) : ∀ u ∈ cellsL n X, u.oneCell' = true := by
  intro u hu
  simp only [cellsL, List.mem_map] at hu
  obtain ⟨k, _, rfl⟩ := hu
  rfl
theorem Rd.news {w W : World} {b o n : Nat} {X : Nat → Int} (h : Rd w (some ⟨b, o, none⟩) n X) (hb : Below w.heap.size w W) : ∀ j u, (cellsL n X)[j]? = some u → W.cell? ((⟨b, o, none⟩ : Addr).add j) = some u := by
  intro j u hu
  have hj : j < n := by
    rcases Nat.lt_or_ge j n with h' | h'
    · exact h'
    · rw [List.getElem?_eq_none (by rw [cellsL_length]; exact h')] at hu; cases hu
  obtain ⟨b', o', ha, hc⟩ := (h.below (Nat.le_refl _) hb) j hj
  simp only [Option.some.injEq, Addr.mk.injEq] at ha
  obtain ⟨rfl, rfl, -⟩ := ha
  rw [Go.WideShapes.add_plain, hc, ← hu, cellsL_get X hj]

/-- What a call hands back that makes a slice of n integers X of its own, with room behind or none. -/
def RetList (tI n : Nat) (X : Nat → Int) (w : World) (e : Ending) (w' : World) : Prop :=
  ∃ g cap, e = .returned (.slice (some ⟨g, 0, none⟩) n cap) ∧ w'.ownsRow w.heap.size tI 1 (.slice (some ⟨g, 0, none⟩) n cap) n (cellsL n X) ∧ Below w.heap.size w w'

theorem owns_rd {w : World} {base tI n g cap : Nat} {X : Nat → Int} (h : w.ownsRow base tI 1 (.slice (some ⟨g, 0, none⟩) n cap) n (cellsL n X)) : Rd w (some ⟨g, 0, none⟩) n X := by
  intro k hk
  refine ⟨g, 0, rfl, ?_⟩
  have := h.cells (g := g) rfl k (.int .i64 (X k)) (cellsL_get X hk)
  rwa [Go.WideShapes.add_plain] at this
theorem owns_cap {w : World} {base tI n g cap : Nat} {xs : List Value} (h : w.ownsRow base tI 1 (.slice (some ⟨g, 0, none⟩) n cap) n xs) : n ≤ cap ∧ base ≤ g ∧ g < w.heap.size := by
  obtain ⟨_, (⟨he, _⟩ | ⟨g', cap', cur, hv, hb, hh, hn, _⟩)⟩ := h
  · cases he
  · cases hv
    exact ⟨hn, hb, (Array.getElem?_eq_some_iff.1 hh).1⟩
theorem cellsL_snoc (n : Nat) (X : Nat → Int) (x : Int) : cellsL n X ++ [.int .i64 x] = cellsL (n + 1) (fun k => if k < n then X k else x) := by
  unfold cellsL
  rw [List.range_succ, List.map_append, List.map_cons, List.map_nil]
  show _ = _ ++ [Value.int .i64 (if n < n then X n else x)]
  rw [if_neg (Nat.lt_irrefl _)]
  congr 1
  exact List.map_congr_left fun k hk => by show _ = Value.int .i64 (if k < n then X k else x); rw [if_pos (List.mem_range.1 hk)]
theorem cellsL_congr {n : Nat} {X Y : Nat → Int} (h : ∀ k, k < n → X k = Y k) : cellsL n X = cellsL n Y := List.map_congr_left fun k hk => by rw [h k (List.mem_range.1 hk)]
end

section
open Go.RowKit
/-- But for the blocks from lo to hi all is as it was. -/
structure Keeps (lo hi : Nat) (w w' : World) : Prop where
  os : w'.os = w.os
  tape : w'.tape = w.tape
  output : w'.output = w.output
  size : w'.heap.size = w.heap.size
  block : ∀ k, k < lo ∨ hi ≤ k → w'.heap[k]? = w.heap[k]?

namespace Keeps
variable {lo hi lo' hi' : Nat} {a b c : World}
theorem refl (lo hi : Nat) (w : World) : Keeps lo hi w w := ⟨rfl, rfl, rfl, rfl, fun _ _ => rfl⟩
theorem trans (h : Keeps lo hi a b) (k : Keeps lo hi b c) : Keeps lo hi a c :=
  ⟨k.os.trans h.os, k.tape.trans h.tape, k.output.trans h.output, k.size.trans h.size, fun i hi => (k.block i hi).trans (h.block i hi)⟩
theorem mono (h : Keeps lo hi a b) (h1 : lo' ≤ lo) (h2 : hi ≤ hi') : Keeps lo' hi' a b := ⟨h.os, h.tape, h.output, h.size, fun k hk => h.block k (by omega)⟩
theorem below (h : Keeps lo hi a b) : Below lo a b := ⟨h.os, h.tape, h.output, by rw [h.size]; exact Nat.le_refl _, fun k hk => h.block k (.inl hk)⟩
theorem setCell (h : Keeps lo hi a b) {p : Addr} (h1 : lo ≤ p.block) (h2 : p.block < hi) (v : Value) : Keeps lo hi a (b.setCell p v) :=
  h.trans ⟨rfl, rfl, rfl, by simp [World.setCell], fun k hk => Below.heap_setCell _ _ _ _ (by omega)⟩
theorem cell (h : Keeps lo hi a b) {p : Addr} (hp : p.block < lo ∨ hi ≤ p.block) : b.cell? p = a.cell? p := World.cell?_of_block (w := a) (h.block p.block hp)
theorem frozen (h : Keeps lo hi a b) {p : Addr} (hp : p.block < lo ∨ hi ≤ p.block) : b.frozen? p = a.frozen? p := World.frozen?_of_block (w := a) (h.block p.block hp)
end Keeps

/-- n integers X in block b, which may be written; or none at all. -/
def OwnR (w : World) (b : Nat) (a : Option Addr) (n : Nat) (X : Nat → Int) : Prop :=
  n = 0 ∨ ∃ o, a = some ⟨b, o, none⟩ ∧ ∀ k, k < n → w.cell? ⟨b, o + k, none⟩ = some (.int .i64 (X k)) ∧ w.frozen? ⟨b, o + k, none⟩ = false

namespace OwnR
variable {w w' : World} {b n : Nat} {a : Option Addr} {X Y : Nat → Int}
theorem rd (h : OwnR w b a n X) : Rd w a n X := by
  intro k hk
  rcases h with h0 | ⟨o, ha, hc⟩
  · omega
  · exact ⟨b, o, ha, (hc k hk).1⟩
theorem of_block (h : OwnR w b a n X) (e : w'.heap[b]? = w.heap[b]?) : OwnR w' b a n X := by
  rcases h with h0 | ⟨o, ha, hc⟩
  · exact .inl h0
  · refine .inr ⟨o, ha, fun k hk => ⟨?_, ?_⟩⟩
    · rw [World.cell?_of_block (w := w) e]; exact (hc k hk).1
    · rw [World.frozen?_of_block (w := w) e]; exact (hc k hk).2
theorem of_row {tI : Nat} (h : w.rowIs b tI n (fun i => .int .i64 (X i))) : OwnR w b (some ⟨b, 0, none⟩) n X :=
  .inr ⟨0, rfl, fun k hk => by rw [Nat.zero_add]; exact ⟨h.cell hk, h.frozen k⟩⟩
theorem of_owns {base tI cap : Nat} (h : w.ownsRow base tI 1 (.slice (some ⟨b, 0, none⟩) n cap) n (cellsL n X)) : OwnR w b (some ⟨b, 0, none⟩) n X := by
  refine .inr ⟨0, rfl, fun k hk => ?_⟩
  rw [Nat.zero_add]
  have h1 := h.cells (g := b) rfl k (.int .i64 (X k)) (cellsL_get X hk)
  rw [Go.WideShapes.add_plain, Nat.zero_add] at h1
  refine ⟨h1, ?_⟩
  obtain ⟨_, (⟨he, _⟩ | ⟨g', cap', cur, hv, _, hh, _⟩)⟩ := h
  · cases he
  · cases hv
    exact frozen_of_row _ _ _ _ _ hh
end OwnR

/-- A table of a call's own, its blocks from lo to hi, a block a row, none of them twice. -/
def OwnT (w : World) (lo hi : Nat) (a : Option Addr) (n : Nat) (A : Nat → Option Addr) (L C : Nat → Nat) (X : Nat → Nat → Int) : Prop :=
  n = 0 ∨ ∃ (b o : Nat) (K : Nat → Nat), a = some ⟨b, o, none⟩ ∧ lo ≤ b ∧ b < hi ∧ (∀ r, r < n → w.cell? ⟨b, o + r, none⟩ = some (.slice (A r) (L r) (C r))) ∧
    (∀ r, r < n → lo ≤ K r ∧ K r < hi ∧ K r ≠ b ∧ OwnR w (K r) (A r) (L r) (X r)) ∧ ∀ r s, r < n → s < n → r ≠ s → K r ≠ K s

namespace OwnT
variable {w w' : World} {lo hi n : Nat} {a : Option Addr} {A : Nat → Option Addr} {L C : Nat → Nat} {X : Nat → Nat → Int}
theorem tab (h : OwnT w lo hi a n A L C X) : Tab w a n A L C X := by
  intro r hr
  rcases h with h0 | ⟨b, o, K, ha, _, _, hc, hk, _⟩
  · omega
  · exact ⟨b, o, ha, hc r hr, (hk r hr).2.2.2.rd⟩
theorem of_blocks (h : OwnT w lo hi a n A L C X) (e : ∀ k, lo ≤ k → k < hi → w'.heap[k]? = w.heap[k]?) : OwnT w' lo hi a n A L C X := by
  rcases h with h0 | ⟨b, o, K, ha, h1, h2, hc, hk, hi⟩
  · exact .inl h0
  · refine .inr ⟨b, o, K, ha, h1, h2, fun r hr => ?_, fun r hr => ?_, hi⟩
    · rw [World.cell?_of_block (w := w) (a := ⟨b, o + r, none⟩) (e b h1 h2)]; exact hc r hr
    · obtain ⟨k1, k2, k3, k4⟩ := hk r hr
      exact ⟨k1, k2, k3, k4.of_block (e _ k1 k2)⟩
theorem below {B : Nat} (h : OwnT w lo hi a n A L C X) (hB : hi ≤ B) (hb : Below B w w') : OwnT w' lo hi a n A L C X := h.of_blocks fun k _ h2 => hb.block k (by omega)
theorem keeps {lo' hi' : Nat} (h : OwnT w lo hi a n A L C X) (hd : hi ≤ lo' ∨ hi' ≤ lo) (hk : Keeps lo' hi' w w') : OwnT w' lo hi a n A L C X := h.of_blocks fun k h1 h2 => hk.block k (by omega)
theorem of_new {tS tI B : Nat} {L : Nat → Nat} {X : Nat → Nat → Int} (h : NewTab tS tI w B n L X) : OwnT w B (B + 1 + n) (some ⟨B, 0, none⟩) n (fun r => some ⟨B + 1 + r, 0, none⟩) L L X :=
  .inr ⟨B, 0, fun r => B + 1 + r, rfl, Nat.le_refl _, by omega, fun r hr => by rw [Nat.zero_add]; exact h.top.cell hr, fun r hr => ⟨by show B ≤ B + 1 + r; omega, by show B + 1 + r < B + 1 + n; omega, by show B + 1 + r ≠ B; omega, OwnR.of_row (h.rows r hr)⟩,
    fun r s _ _ hrs => by show B + 1 + r ≠ B + 1 + s; omega⟩
end OwnT

/-- A row of a call's own, in some block from lo to hi; or none at all. -/
def OwnI (w : World) (lo hi : Nat) (a : Option Addr) (n : Nat) (X : Nat → Int) : Prop := n = 0 ∨ ∃ b, lo ≤ b ∧ b < hi ∧ OwnR w b a n X

namespace OwnI
variable {w w' : World} {lo hi n : Nat} {a : Option Addr} {X : Nat → Int}
theorem rd (h : OwnI w lo hi a n X) : Rd w a n X := by
  rcases h with h0 | ⟨b, _, _, h⟩
  · intro k hk; omega
  · exact h.rd
theorem of_blocks (h : OwnI w lo hi a n X) (e : ∀ k, lo ≤ k → k < hi → w'.heap[k]? = w.heap[k]?) : OwnI w' lo hi a n X := by
  rcases h with h0 | ⟨b, h1, h2, h⟩
  · exact .inl h0
  · exact .inr ⟨b, h1, h2, h.of_block (e b h1 h2)⟩
theorem below {B : Nat} (h : OwnI w lo hi a n X) (hB : hi ≤ B) (hb : Below B w w') : OwnI w' lo hi a n X := h.of_blocks fun k _ h2 => hb.block k (by omega)
theorem keeps {lo' hi' : Nat} (h : OwnI w lo hi a n X) (hd : hi ≤ lo' ∨ hi' ≤ lo) (hk : Keeps lo' hi' w w') : OwnI w' lo hi a n X := h.of_blocks fun k h1 h2 => hk.block k (by omega)
theorem of_row {tI b : Nat} (h : w.rowIs b tI n (fun i => .int .i64 (X i))) : OwnI w b (b + 1) (some ⟨b, 0, none⟩) n X := .inr ⟨b, Nat.le_refl _, Nat.lt_succ_self _, OwnR.of_row h⟩
end OwnI
theorem OwnT.sub {w : World} {lo hi lo' hi' n : Nat} {a : Option Addr} {A : Nat → Option Addr} {L C : Nat → Nat} {X : Nat → Nat → Int} (h : OwnT w lo hi a n A L C X) (h1 : lo' ≤ lo) (h2 : hi ≤ hi') : OwnT w lo' hi' a n A L C X := by
  rcases h with h0 | ⟨b, o, K, ha, hb1, hb2, hc, hk, hi⟩
  · exact .inl h0
  · exact .inr ⟨b, o, K, ha, by omega, by omega, hc, fun r hr => by obtain ⟨k1, k2, k3, k4⟩ := hk r hr; exact ⟨by omega, by omega, k3, k4⟩, hi⟩
theorem Keeps.none {lo hi : Nat} {w w' : World} (h : Keeps w.heap.size (w.heap.size + 1) w w') : Keeps lo hi w w' :=
  ⟨h.os, h.tape, h.output, h.size, fun k _ => by
    by_cases hk : k < w.heap.size
    · exact h.block k (.inl hk)
    · rw [Array.getElem?_eq_none (xs := w.heap) (by omega), Array.getElem?_eq_none (xs := w'.heap) (by rw [h.size]; omega)]⟩

/-- A table in the making: v is its top row, of i rows, each in a block of its own. -/
def Making (tS : Nat) (B : Nat) (w : World) (v : Value) (i : Nat) (G Cp : Nat → Nat) (L : Nat → Nat) (X : Nat → Nat → Int) : Prop :=
  w.ownsRow B tS 1 v i ((List.range i).map fun r => .slice (some ⟨G r, 0, none⟩) (L r) (Cp r)) ∧
    (∀ r, r < i → B ≤ G r ∧ G r < w.heap.size ∧ v.ownBlock ≠ some (G r) ∧ OwnR w (G r) (some ⟨G r, 0, none⟩) (L r) (X r)) ∧ ∀ r s, r < i → s < i → r ≠ s → G r ≠ G s

theorem Making.ownT {tS B : Nat} {w : World} {g cap i : Nat} {G Cp L : Nat → Nat} {X : Nat → Nat → Int} (h : Making tS B w (.slice (some ⟨g, 0, none⟩) i cap) i G Cp L X) :
    OwnT w B w.heap.size (some ⟨g, 0, none⟩) i (fun r => some ⟨G r, 0, none⟩) L Cp X := by
  obtain ⟨h1, h2, h3⟩ := h
  have hlt := h1.lt g rfl
  refine .inr ⟨g, 0, G, rfl, hlt.1, hlt.2, fun r hr => ?_, fun r hr => ⟨(h2 r hr).1, (h2 r hr).2.1, fun e => (h2 r hr).2.2.1 (by rw [e]; rfl), (h2 r hr).2.2.2⟩, h3⟩
  have := h1.cells (g := g) rfl r (.slice (some ⟨G r, 0, none⟩) (L r) (Cp r)) (by simp [hr])
  rwa [Go.WideShapes.add_plain] at this

theorem Making.start (tS B : Nat) (w : World) (v : Value) (G Cp L : Nat → Nat) (X : Nat → Nat → Int) (h : w.ownsRow B tS 1 v 0 []) : Making tS B w v 0 G Cp L X :=
  ⟨h, fun r hr => absurd hr (Nat.not_lt_zero _), fun r s hr => absurd hr (Nat.not_lt_zero _)⟩

/-- Later, what was made being as it was. -/
theorem Making.below {tS B i : Nat} {w w' : World} {v : Value} {G Cp L : Nat → Nat} {X : Nat → Nat → Int} (h : Making tS B w v i G Cp L X) (hb : Below w.heap.size w w') : Making tS B w' v i G Cp L X := by
  obtain ⟨h1, h2, h3⟩ := h
  refine ⟨?_, fun r hr => ⟨(h2 r hr).1, Nat.lt_of_lt_of_le (h2 r hr).2.1 hb.size, (h2 r hr).2.2.1, (h2 r hr).2.2.2.of_block (hb.block _ (h2 r hr).2.1)⟩, h3⟩
  obtain ⟨k1, (k2 | ⟨g, cap, cur, k3, k4, k5, k6⟩)⟩ := h1
  · exact ⟨k1, .inl k2⟩
  · exact ⟨k1, .inr ⟨g, cap, cur, k3, k4, (hb.block g (Array.getElem?_eq_some_iff.1 k5).1).trans k5, k6⟩⟩

/-- One row more, appended: the top row lies where it lay, or in a block that is new. -/
theorem Making.next {tS B i : Nat} {w w1 : World} {v : Value} {G Cp L : Nat → Nat} {X : Nat → Nat → Int} {g cap gr cr H : Nat} (h : Making tS B w v i G Cp L X)
    (hr : OwnR w gr (some ⟨gr, 0, none⟩) (L i) (X i)) (hr1 : B ≤ gr) (hr2 : gr < w.heap.size) (hr3 : v.ownBlock ≠ some gr) (hr4 : ∀ r, r < i → G r ≠ gr)
    (hown : w1.ownsRow B tS 1 (.slice (some ⟨g, 0, none⟩) (i + 1) cap) (i + 1) ((List.range i).map (fun r => Value.slice (some ⟨G r, 0, none⟩) (L r) (Cp r)) ++ [.slice (some ⟨gr, 0, none⟩) (L i) cr]))
    (hgrow : w.grownBy w1 v.ownBlock) (hat : v.ownBlock = some g ∨ g = H) (hH : w.heap.size ≤ H) :
    Making tS B w1 (.slice (some ⟨g, 0, none⟩) (i + 1) cap) (i + 1) (fun r => if r < i then G r else gr) (fun r => if r < i then Cp r else cr) L X := by
  obtain ⟨h1, h2, h3⟩ := h
  have hgne : ∀ x, x < w.heap.size → v.ownBlock ≠ some x → g ≠ x := by
    intro x hx hne e
    rcases hat with h' | h'
    · exact hne (by rw [h', e])
    · omega
  refine ⟨?_, fun r hri => ?_, fun r s hri hsi hrs => ?_⟩
  · rw [List.range_succ, List.map_append, List.map_cons, List.map_nil]
    have e1 : (List.range i).map (fun r => Value.slice (some ⟨if r < i then G r else gr, 0, none⟩) (L r) (if r < i then Cp r else cr)) = (List.range i).map (fun r => Value.slice (some ⟨G r, 0, none⟩) (L r) (Cp r)) :=
      List.map_congr_left fun r hr => by rw [if_pos (List.mem_range.1 hr), if_pos (List.mem_range.1 hr)]
    have e2 : Value.slice (some ⟨if i < i then G i else gr, 0, none⟩) (L i) (if i < i then Cp i else cr) = .slice (some ⟨gr, 0, none⟩) (L i) cr := by rw [if_neg (Nat.lt_irrefl _), if_neg (Nat.lt_irrefl _)]
    show w1.ownsRow B tS 1 _ (i + 1) (_ ++ [Value.slice (some ⟨if i < i then G i else gr, 0, none⟩) (L i) (if i < i then Cp i else cr)])
    rw [e2]
    rw [← e1] at hown
    exact hown
  · show B ≤ (if r < i then G r else gr) ∧ (if r < i then G r else gr) < w1.heap.size ∧ _ ≠ some (if r < i then G r else gr) ∧ OwnR w1 (if r < i then G r else gr) (some ⟨if r < i then G r else gr, 0, none⟩) (L r) (X r)
    by_cases e : r < i
    · rw [if_pos e]
      obtain ⟨k1, k2, k3, k4⟩ := h2 r e
      exact ⟨k1, Nat.lt_of_lt_of_le k2 hgrow.size, fun h => hgne _ k2 k3 (by simpa [Value.ownBlock] using h), k4.of_block (hgrow.block _ k2 (fun h => k3 h.symm))⟩
    · obtain rfl : r = i := by omega
      rw [if_neg e]
      exact ⟨hr1, Nat.lt_of_lt_of_le hr2 hgrow.size, fun h => hgne _ hr2 hr3 (by simpa [Value.ownBlock] using h), hr.of_block (hgrow.block _ hr2 (fun h => hr3 h.symm))⟩
  · show (if r < i then G r else gr) ≠ (if s < i then G s else gr)
    by_cases e1 : r < i
    · rw [if_pos e1]
      by_cases e2 : s < i
      · rw [if_pos e2]; exact h3 r s e1 e2 hrs
      · rw [if_neg e2]; exact hr4 r e1
    · rw [if_neg e1]
      have e2 : s < i := by omega
      rw [if_pos e2]; exact fun h => hr4 s e2 h.symm

/-- A row of a call's own that has something in it lies in a block. -/
theorem owns_form {w : World} {base e n : Nat} {v : Value} {xs : List Value} (h : w.ownsRow base e 1 v n xs) (hn : 0 < n) : ∃ g cap, v = .slice (some ⟨g, 0, none⟩) n cap := by
  obtain ⟨_, (⟨_, h0⟩ | ⟨g, cap, _, hv, _⟩)⟩ := h
  · omega
  · exact ⟨g, cap, hv⟩

/-- What a call hands back: a table of its own, and whether. -/
def RetTB (ok : Bool) (n : Nat) (L : Nat → Nat) (X : Nat → Nat → Int) (w : World) (e : Ending) (w' : World) : Prop :=
  ∃ a c A C, e = .returned (.tuple #[.slice a n c, .bool ok]) ∧ OwnT w' w.heap.size w'.heap.size a n A L C X ∧ Below w.heap.size w w'
/-- What a call hands back: a row of its own, and whether. -/
def RetIB (ok : Bool) (n : Nat) (X : Nat → Int) (w : World) (e : Ending) (w' : World) : Prop :=
  ∃ a c, e = .returned (.tuple #[.slice a n c, .bool ok]) ∧ OwnI w' w.heap.size w'.heap.size a n X ∧ Below w.heap.size w w'
/-- What a call hands back: a row of its own with its room, and whether. -/
def RetID (ok : Bool) (n : Nat) (X : Nat → Int) (w : World) (e : Ending) (w' : World) : Prop :=
  ∃ a c, e = .returned (.tuple #[.slice a n c, .bool ok]) ∧ n ≤ c ∧ OwnI w' w.heap.size w'.heap.size a n X ∧ Below w.heap.size w w'
end

section
open Go.RowKit
/-- n cells of integers. -/
def cellsV (n : Nat) (F : Nat → Int) : Array Value := ((List.range n).map fun j => Value.int .i64 (F j)).toArray

theorem cellsV_size (n : Nat) (F : Nat → Int) : (cellsV n F).size = n := by simp [cellsV]
theorem cellsV_get {n j : Nat} (F : Nat → Int) (h : j < n) : (cellsV n F)[j]? = some (.int .i64 (F j)) := by simp [cellsV, h]
theorem cellsV_one (n : Nat) (F : Nat → Int) : (cellsV n F).all (·.oneCell') = true := by
  rw [Array.all_eq_true_iff_forall_mem]
  intro x hx
  simp only [cellsV, List.mem_toArray, List.mem_map] at hx
  obtain ⟨j, _, rfl⟩ := hx
  rfl
theorem cellsV_congr {n : Nat} {F G : Nat → Int} (h : ∀ j, j < n → F j = G j) : cellsV n F = cellsV n G := by
  unfold cellsV
  congr 1
  exact List.map_congr_left fun j hj => by rw [h j (List.mem_range.1 hj)]
theorem cellsV_set (n k : Nat) (F : Nat → Int) (x : Int) : (cellsV n F).setIfInBounds k (.int .i64 x) = cellsV n (fun j => if j = k then x else F j) := by
  apply Array.ext_getElem?
  intro j
  rw [Array.getElem?_setIfInBounds]
  by_cases hj : j < n
  · rw [cellsV_get F hj, cellsV_get _ hj]
    by_cases e : k = j
    · subst e; rw [if_pos rfl, if_pos (by rw [cellsV_size]; exact hj), if_pos rfl]
    · rw [if_neg e, if_neg (fun h => e h.symm)]
  · have e1 : (cellsV n F)[j]? = none := by simp [cellsV_size]; omega
    have e2 : (cellsV n (fun j => if j = k then x else F j))[j]? = none := by simp [cellsV_size]; omega
    rw [e2]
    by_cases e : k = j
    · subst e; simp [cellsV_size, hj]
    · rw [if_neg e, e1]

/-- Block g is n cells F 0, F 1, .. of type t. -/
def ArrAt (w : World) (g t n : Nat) (F : Nat → Int) : Prop := w.heap[g]? = some (.cells (cellsV n F) t (0, 0))

namespace ArrAt
variable {w w' : World} {g t n : Nat} {F G : Nat → Int}
theorem cell (h : ArrAt w g t n F) {j : Nat} (hj : j < n) : w.cell? ⟨g, j, none⟩ = some (.int .i64 (F j)) := by rw [cell_of_row w g j _ t (0, 0) h]; exact cellsV_get F hj
theorem frozen (h : ArrAt w g t n F) (j : Nat) : w.frozen? ⟨g, j, none⟩ = false := frozen_of_row w g j _ t h
theorem lt (h : ArrAt w g t n F) : g < w.heap.size := (Array.getElem?_eq_some_iff.1 h).1
theorem of_block (h : ArrAt w g t n F) (e : w'.heap[g]? = w.heap[g]?) : ArrAt w' g t n F := e.trans h
theorem below {B : Nat} (h : ArrAt w g t n F) (hB : g < B) (hb : Below B w w') : ArrAt w' g t n F := h.of_block (hb.block g hB)
theorem congr (h : ArrAt w g t n F) (e : ∀ j, j < n → F j = G j) : ArrAt w g t n G := by unfold ArrAt; rw [← cellsV_congr e]; exact h
theorem alloc (h : ArrAt w g t n F) (o : Obj) : ArrAt (w.alloc o) g t n F := h.of_block (Below.heap_alloc w o g h.lt)
theorem new (w : World) (t n : Nat) (F : Nat → Int) : ArrAt (w.alloc (.cells (cellsV n F) t)) w.heap.size t n F := heap_alloc_last w _
theorem drewN (h : ArrAt w g t n F) (q : Nat) : ArrAt (w.drewN q) g t n F := by
  unfold ArrAt at *
  rw [show (w.drewN q).heap = w.heap from rfl]; exact h
theorem set (h : ArrAt w g t n F) (k : Nat) (x : Int) : ArrAt (w.setCell ⟨g, k, none⟩ (.int .i64 x)) g t n (fun j => if j = k then x else F j) := by
  have := heap_setCell_same w g k (cellsV n F) t (.int .i64 x) h
  rw [cellsV_set] at this
  exact this
theorem setOther (h : ArrAt w g t n F) {a : Addr} (ha : g ≠ a.block) (v : Value) : ArrAt (w.setCell a v) g t n F := h.of_block (Below.heap_setCell w a v g ha)
theorem row (h : ArrAt w g t n F) : w.rowIs g t n (fun i => .int .i64 (F i)) := ⟨_, h, cellsV_size n F, fun _ hi => cellsV_get F hi⟩
end ArrAt

theorem below_setRow {B g : Nat} (w : World) (cs : Array Value) (h : B ≤ g) : Below B w (w.setRow g cs) :=
  ⟨rfl, rfl, rfl, by simp, fun k hk => setRow_other w g k cs (by omega)⟩

section
variable {P : Program} {ops : Array Oper} {rest : List Oper} {a : Act} {w : World} {Q : Exit → Act → World → Prop} {d : Option Nat} {ot : TypeId} {pos : String} {aft : Array Edge}

/-- 'var x [n]int': a new block of zeros. -/
theorem arr_alloc (n ty : Nat) (hz : (zeroValue ty).run P w = .ok (.agg (cellsV n fun _ => 0)) w)
    (h : ∀ w1, ArrAt w1 w.heap.size ty n (fun _ => 0) → w1.heap.size = w.heap.size + 1 → Below w.heap.size w w1 → wpList P ops Q rest (a.put d (.pointer (some ⟨w.heap.size, 0, none⟩))) w1) :
    wpList P ops Q (⟨d, Op.alloc ty, ot, pos, aft, none⟩ :: rest) a w := by
  refine wpList_plain rfl fun K hK' => ?_
  have := h (w.alloc (.cells (cellsV n fun _ => 0) ty)) (ArrAt.new w ty n _) (by simp) ((Below.refl _ _).alloc (Nat.le_refl _) _)
  unfold Oper.wp execOp
  simp [Instr.alloc, hz, newVar, newRow, newObj, Value.cells]
  exact hK' _ _ this

/-- A parameter that is an array: a new block of its cells. -/
theorem arr_box (n ty : Nat) (x : Operand) (F : Nat → Int) (hx : a.eval x = .agg (cellsV n F))
    (h : ∀ w1, ArrAt w1 w.heap.size ty n F → w1.heap.size = w.heap.size + 1 → Below w.heap.size w w1 → wpList P ops Q rest (a.put d (.pointer (some ⟨w.heap.size, 0, none⟩))) w1) :
    wpList P ops Q (⟨d, Op.box ty x, ot, pos, aft, none⟩ :: rest) a w := by
  refine wpList_plain rfl fun K hK' => ?_
  have := h (w.alloc (.cells (cellsV n F) ty)) (ArrAt.new w ty n _) (by simp) ((Below.refl _ _).alloc (Nat.le_refl _) _)
  unfold Oper.wp execOp
  simp [Instr.box, hx, newVar, newRow, newObj, Value.cells]
  exact hK' _ _ this

/-- A whole array is loaded. -/
theorem arr_load (n ty m e t : Nat) (x : Operand) (g : Nat) (F : Nat → Int) (hx : a.eval x = .pointer (some ⟨g, 0, none⟩)) (hg : ArrAt w g t n F) (hu : P.underlying ty = some (.array m e)) (hi : (P.info? ty).map (·.size) = some n)
    (h : wpList P ops Q rest (a.put d (.agg (cellsV n F))) w) : wpList P ops Q (⟨d, Op.load ty x, ot, pos, aft, none⟩ :: rest) a w :=
  wpList_load_row rfl ty x rfl g hx t (cellsV n F) (0, 0) _ hg hu rfl (by rw [cellsV_size]; exact hi) h

/-- A whole array is loaded, behind a guard that let it. -/
theorem arr_load_g (n ty m e t : Nat) (x : Operand) (gd : Nat × Bool) (g : Nat) (F : Nat → Int) (hw : Region.wanted (⟨d, Op.load ty x, ot, pos, aft, some gd⟩ : Oper) (yielded ops a.tmps) = true) (hx : a.eval x = .pointer (some ⟨g, 0, none⟩)) (hg : ArrAt w g t n F) (hu : P.underlying ty = some (.array m e)) (hi : (P.info? ty).map (·.size) = some n)
    (h : wpList P ops Q rest (a.put d (.agg (cellsV n F))) w) : wpList P ops Q (⟨d, Op.load ty x, ot, pos, aft, some gd⟩ :: rest) a w :=
  wpList_step fun K hK => by
    rw [if_pos hw]
    exact wp_load_row ty x rfl g hx t (cellsV n F) (0, 0) _ hg hu rfl (by rw [cellsV_size]; exact hi) (hK _ _ h)

/-- A whole array is stored. -/
theorem arr_store (n ty t : Nat) (x y : Operand) (g : Nat) (F G : Nat → Int) (hx : a.eval x = .pointer (some ⟨g, 0, none⟩)) (hy : a.eval y = .agg (cellsV n G)) (hg : ArrAt w g t n F) (hi : (P.info? ty).map (·.size) = some n)
    (h : ∀ w1, ArrAt w1 g t n G → w1.heap.size = w.heap.size → (∀ k, k ≠ g → w1.heap[k]? = w.heap[k]?) → Below g w w1 → wpList P ops Q rest (a.put d undef) w1) : wpList P ops Q (⟨d, Op.store ty x y, ot, pos, aft, none⟩ :: rest) a w := by
  refine wpList_plain rfl fun K hK' => ?_
  refine wp_store_row ty x y rfl g (cellsV n G) hx hy t (cellsV n F) hg (by rw [cellsV_size]; exact hi) (by rw [cellsV_size, cellsV_size]) (cellsV_one n G) (hK' _ _ ?_)
  exact h _ (setRow_heap w g (cellsV n F) (cellsV n G) t (0, 0) hg) (by simp) (fun k hk => setRow_other w g k _ hk) (below_setRow w _ (Nat.le_refl _))

/-- A row of an array of rows, or an array's part, is loaded out of its block. -/
theorem arr_load_mid (n m ty l e t o : Nat) (x : Operand) (g : Nat) (F : Nat → Int) (hx : a.eval x = .pointer (some ⟨g, o, none⟩)) (hg : ArrAt w g t n F) (ho : o + m ≤ n) (hu : P.underlying ty = some (.array l e)) (hi : (P.info? ty).map (·.size) = some m)
    (h : wpList P ops Q rest (a.put d (.agg (cellsV m fun k => F (o + k)))) w) : wpList P ops Q (⟨d, Op.load ty x, ot, pos, aft, none⟩ :: rest) a w := by
  refine wpList_plain rfl fun K hK' => ?_
  have hr : w.rangeAt g o ((List.range m).map fun k => Value.int .i64 (F (o + k))) := by
    intro j v hv
    have hj : j < m := by
      rcases Nat.lt_or_ge j m with h' | h'
      · exact h'
      · rw [List.getElem?_eq_none (by simpa using h')] at hv; cases hv
    rw [hg.cell (show o + j < n by omega)]
    simpa [hj] using hv
  exact wp_load_mid ty x rfl g o hx _ _ hr hu rfl (by simpa using hi) (hK' _ _ h)

/-- A number out of an array by value. -/
theorem arr_index (n ty e : Nat) (x y : Operand) (F : Nat → Int) (k : IntKind) (i : Nat) (hx : a.eval x = .agg (cellsV n F)) (hy : a.eval y = .int k (i : Int)) (hin : i < n)
    (hu : P.underlying ty = some (.array n e)) (he : P.underlying e = some (.int .i64)) (hi : (P.info? e).map (·.size) = some 1)
    (h : wpList P ops Q rest (a.put d (.int .i64 (F i))) w) : wpList P ops Q (⟨d, Op.index ty x y, ot, pos, aft, none⟩ :: rest) a w := by
  refine wpList_plain rfl fun K hK' => ?_
  have hrun : (Instr.index ty (.agg (cellsV n F)) (.int k (i : Int))).run P w = .ok (.int .i64 (F i)) w := by
    have h2 : (underlying ty).run P w = .ok (.array n e) w := run_underlying hu w
    have h3 : (underlying e).run P w = .ok (.int .i64) w := run_underlying he w
    cases hq : P.info? e with
    | none => simp [hq] at hi
    | some inf =>
      have hs : inf.size = 1 := by simpa [hq] using hi
      have hc := cellsV_get F hin
      simp [Instr.index, asIntOf, h2, hin, sizeOf, typeInfo, hq, hs, part, isAgg, h3, hc]
  unfold Oper.wp execOp
  simp [hx, hy, hrun, Result.andThen]
  exact hK' _ _ h

/-- A row out of an array of rows by value. -/
theorem arr_index_row (n r m ty e e' : Nat) (x y : Operand) (F : Nat → Int) (k : IntKind) (i : Nat) (hx : a.eval x = .agg (cellsV n F)) (hy : a.eval y = .int k (i : Int)) (hin : i < r) (hn : i * m + m ≤ n)
    (hu : P.underlying ty = some (.array r e)) (he : P.underlying e = some (.array m e')) (hi : (P.info? e).map (·.size) = some m)
    (h : wpList P ops Q rest (a.put d (.agg (cellsV m fun j => F (i * m + j)))) w) : wpList P ops Q (⟨d, Op.index ty x y, ot, pos, aft, none⟩ :: rest) a w := by
  refine wpList_plain rfl fun K hK' => ?_
  have hex : (cellsV n F).extract (i * m) (i * m + m) = cellsV m fun j => F (i * m + j) := by
    apply Array.ext_getElem?
    intro j
    rw [Array.getElem?_extract]
    by_cases hj : j < m
    · rw [cellsV_get _ hj, if_pos (by rw [cellsV_size]; omega), cellsV_get F (by omega)]
    · rw [if_neg (by rw [cellsV_size]; omega)]
      simp [cellsV_size]; omega
  have hrun : (Instr.index ty (.agg (cellsV n F)) (.int k (i : Int))).run P w = .ok (.agg (cellsV m fun j => F (i * m + j))) w := by
    have h2 : (underlying ty).run P w = .ok (.array r e) w := run_underlying hu w
    have h3 : (underlying e).run P w = .ok (.array m e') w := run_underlying he w
    cases hq : P.info? e with
    | none => simp [hq] at hi
    | some inf =>
      have hs : inf.size = m := by simpa [hq] using hi
      simp [Instr.index, asIntOf, h2, hin, sizeOf, typeInfo, hq, hs, part, isAgg, h3, hex]
  unfold Oper.wp execOp
  simp [hx, hy, hrun, Result.andThen]
  exact hK' _ _ h

/-- The zero value of an array type is built. -/
theorem arr_build0 (n ty : Nat) (hb : P.built ty [] = some (cellsV n fun _ => 0)) (h : wpList P ops Q rest (a.put d (.agg (cellsV n fun _ => 0))) w) : wpList P ops Q (⟨d, Op.build ty #[], ot, pos, aft, none⟩ :: rest) a w :=
  wpList_build rfl ty #[] rfl (by simp [hb]) (by simpa [hb] using h)
end

/-- The first n numbers of an array of m that lies at ⟨g, o⟩, as a slice. -/
theorem run_slice_arr {P : Program} (ty e m n g o : Nat) (hu : P.underlying ty = some (.array m e)) (hi : (P.info? e).map (·.size) = some 1) (hm : 0 < m) (hn : n ≤ m) (w : World) :
    (Instr.sliceAt ty (.pointer (some ⟨g, o, none⟩)) none (some (.int .i64 (n : Int))) none).run P w = .ok (.slice (some ⟨g, o, none⟩) n m) w := by
  have h2 : (underlying ty).run P w = .ok (.array m e) w := run_underlying hu w
  have hb : (Instr.sliceBound (.int .i64 (n : Int)) m .sliceAlen).run P w = .ok n w := by
    simp [Instr.sliceBound, asIntOf]; omega
  cases hq : P.info? e with
  | none => simp [hq] at hi
  | some inf =>
    have hs : inf.size = 1 := by simpa [hq] using hi
    have hne : ¬ m = 0 := by omega
    simp [Instr.sliceAt, Instr.sureAddr, h2, Instr.sliceBounds, hb, sizeOf, typeInfo, hq, Addr.add]

/-- The results of a function that hands back an array and a plain value. -/
theorem results_arr_tmp {P : Program} {fn : Func} {p q : Tmp} {ty : TypeId} (h : fn.results = #[.cell p ty, .tmp q]) (tmps : Array Value) (w : World) (g t n m e : Nat) (F : Nat → Int)
    (hp : tmps.getD p undef = .pointer (some ⟨g, 0, none⟩)) (hg : ArrAt w g t n F) (hu : P.underlying ty = some (.array m e)) (hi : (P.info? ty).map (·.size) = some n) :
    (results fn tmps).run P w = .ok (.tuple #[.agg (cellsV n F), tmps.getD q undef]) w := by
  have hp' : tmps[p]?.getD undef = .pointer (some ⟨g, 0, none⟩) := by simpa using hp
  simp [results, h, hp', asAddr, run_loadVar_row w g t ty (cellsV n F) (0, 0) _ hg hu rfl (by rw [cellsV_size]; exact hi)]

/-- .. of one that hands back an array alone. -/
theorem results_arr {P : Program} {fn : Func} {p : Tmp} {ty : TypeId} (h : fn.results = #[.cell p ty]) (tmps : Array Value) (w : World) (g t n m e : Nat) (F : Nat → Int)
    (hp : tmps.getD p undef = .pointer (some ⟨g, 0, none⟩)) (hg : ArrAt w g t n F) (hu : P.underlying ty = some (.array m e)) (hi : (P.info? ty).map (·.size) = some n) :
    (results fn tmps).run P w = .ok (.agg (cellsV n F)) w :=
  results_cell_row h tmps w g t (cellsV n F) (0, 0) _ hp hg hu rfl (by rw [cellsV_size]; exact hi)
end

section
open Go.RowKit
noncomputable def turnN (n : Nat) (L : Nat → Nat) (Z : Nat → Nat → Int) : Nat := if tt (IsRates n L Z) = true then n else 0
theorem turnN_yes {n : Nat} {L : Nat → Nat} {Z : Nat → Nat → Int} (h : IsRates n L Z) : turnN n L Z = n := by unfold turnN; rw [tt_of h]; rfl
theorem turnN_no {n : Nat} {L : Nat → Nat} {Z : Nat → Nat → Int} (h : ¬ IsRates n L Z) : turnN n L Z = 0 := by unfold turnN; rw [tt_no h]; rfl
theorem tot_same (m : Nat) (k : Nat) : tot (fun _ => m) k = k * m := by
  induction k with
  | zero => simp [tot]
  | succ k ih => simp only [tot]; rw [ih, Nat.succ_mul]
theorem turn_small (n : Nat) (L : Nat → Nat) (Z : Nat → Nat → Int) : turnN n L Z ≤ 1048576 ∧ tot (fun _ => n) (turnN n L Z) ≤ 1048576 := by
  by_cases h : IsRates n L Z
  · rw [turnN_yes h, tot_same]
    have := h.1.2
    have h2 : n * n ≤ 5 * 5 := Nat.mul_le_mul this this
    omega
  · rw [turnN_no h]; simp [tot]
def turnX (Z : Nat → Nat → Int) (i k : Nat) : Int := Z k i
end

section
open Go.RowKit
theorem Rd.at {w : World} {ba oa n : Nat} {p : Nat → Int} (h : Rd w (some ⟨ba, oa, none⟩) n p) {k : Nat} (hk : k < n) : w.cell? ⟨ba, oa + k, none⟩ = some (.int .i64 (p k)) := by
  obtain ⟨b, o, e, hc⟩ := h k hk
  cases e
  exact hc

/-- The place of r among the first n numbers. -/
def invF (p : Nat → Int) : Nat → Nat → Nat
  | 0, _ => 0
  | n + 1, r => if p n = r then n else invF p n r

theorem inv_hit {p : Nat → Int} {r : Nat} : ∀ {n : Nat}, (∃ i, i < n ∧ p i = r) → invF p n r < n ∧ p (invF p n r) = r
  | 0, ⟨i, hi, _⟩ => absurd hi (Nat.not_lt_zero _)
  | n + 1, ⟨i, hi, e⟩ => by
    unfold invF
    by_cases h : p n = r
    · rw [if_pos h]; exact ⟨Nat.lt_succ_self _, h⟩
    · rw [if_neg h]
      have hne : i ≠ n := fun e' => h (by rw [← e']; exact e)
      have := inv_hit (p := p) (r := r) (n := n) ⟨i, by omega, e⟩
      exact ⟨by omega, this.2⟩

/-- n different numbers below n are all of them. -/
theorem surj_of_inj : ∀ (n : Nat) (q : Nat → Nat), (∀ i, i < n → q i < n) → (∀ i j, i < j → j < n → q i ≠ q j) → ∀ r, r < n → ∃ i, i < n ∧ q i = r
  | 0, _, _, _, r, hr => absurd hr (Nat.not_lt_zero _)
  | n + 1, q, hq, hi, r, hr => by
    have hi' : ∀ i j, i < n + 1 → j < n + 1 → i ≠ j → q i ≠ q j := fun i j h1 h2 h3 => by
      rcases Nat.lt_or_gt_of_ne h3 with h | h
      · exact hi i j h h2
      · exact fun e => hi j i h h1 e.symm
    by_cases h : ∃ i0, i0 < n + 1 ∧ q i0 = n
    · obtain ⟨i0, h0, e0⟩ := h
      by_cases hrn : r = n
      · exact ⟨i0, h0, by rw [e0, hrn]⟩
      · have hlt : ∀ i, i < n + 1 → i ≠ i0 → q i < n := fun i h1 h2 => by
          have := hq i h1
          have h3 := hi' i i0 h1 h0 h2
          omega
        obtain ⟨i, hin, e⟩ := surj_of_inj n (fun i => if i = i0 then q n else q i) (fun i h1 => by
          by_cases e : i = i0
          · simp only [if_pos e]; exact hlt n (by omega) (by omega)
          · simp only [if_neg e]; exact hlt i (by omega) e) (fun i j h1 h2 => by
          by_cases e1 : i = i0
          · by_cases e2 : j = i0
            · omega
            · simp only [if_pos e1, if_neg e2]; exact hi' n j (by omega) (by omega) (by omega)
          · by_cases e2 : j = i0
            · simp only [if_neg e1, if_pos e2]; exact hi' i n (by omega) (by omega) (by omega)
            · simp only [if_neg e1, if_neg e2]; exact hi' i j (by omega) (by omega) (by omega)) r (by omega)
        by_cases e1 : i = i0
        · simp only [if_pos e1] at e; exact ⟨n, by omega, e⟩
        · simp only [if_neg e1] at e; exact ⟨i, by omega, e⟩
    · have hlt : ∀ i, i < n + 1 → q i < n := fun i h1 => by
        have := hq i h1
        have h2 : q i ≠ n := fun e => h ⟨i, h1, e⟩
        omega
      obtain ⟨i, hin, e⟩ := surj_of_inj n q (fun i h1 => hlt i (by omega)) (fun i j h1 h2 => hi i j h1 (by omega)) (q n) (hlt n (by omega))
      exact absurd e (hi i n hin (by omega))

theorem IsDiff.all {n : Nat} {p : Nat → Int} (h : IsDiff n n p) {r : Nat} (hr : r < n) : ∃ i, i < n ∧ p i = r := by
  obtain ⟨i, hi, e⟩ := surj_of_inj n (fun i => (p i).toNat) (fun i hi => by have := h.1 i hi; show (p i).toNat < n; omega) (fun i j h1 h2 e => by
    have a := h.1 i (by omega)
    have b := h.1 j h2
    exact h.2 i j h1 h2 (by have e' : (p i).toNat = (p j).toNat := e; omega)) r hr
  have := h.1 i hi
  have e' : (p i).toNat = r := e
  exact ⟨i, hi, by omega⟩
theorem IsDiff.inv {n : Nat} {p : Nat → Int} (h : IsDiff n n p) {r : Nat} (hr : r < n) : invF p n r < n ∧ p (invF p n r) = r := inv_hit (h.all hr)
theorem IsDiff.inv_at {n i x : Nat} {p : Nat → Int} (h : IsDiff n n p) (hi : i < n) (hx : p i = x) : invF p n x = i := by
  have hxn := h.1 i hi
  have := h.inv (r := x) (by omega)
  by_cases e : invF p n x = i
  · exact e
  · rcases Nat.lt_or_gt_of_ne e with h1 | h1
    · exact absurd (this.2.trans hx.symm) (h.2 _ _ h1 hi)
    · exact absurd (hx.trans this.2.symm) (h.2 _ _ h1 this.1)
/-- n numbers below n that hit all are different. -/
theorem diff_of_all {n : Nat} {p : Nat → Int} (h : ∀ i, i < n → 0 ≤ p i ∧ p i < n) (ha : ∀ r, r < n → ∃ i, i < n ∧ p i = r) : IsDiff n n p := by
  refine ⟨h, fun i j h1 h2 e => ?_⟩
  have hg : ∀ r, r < n → invF p n r < n ∧ p (invF p n r) = r := fun r hr => inv_hit (ha r hr)
  have hs := surj_of_inj n (invF p n) (fun r hr => (hg r hr).1) (fun a b h3 h4 e' => by
    have h5 := (hg a (by omega)).2
    have h6 := (hg b h4).2
    rw [e'] at h5
    omega)
  obtain ⟨r, hr, er⟩ := hs i (by omega)
  obtain ⟨s, hs, es⟩ := hs j h2
  have h5 := (hg r hr).2
  have h6 := (hg s hs).2
  rw [er] at h5
  rw [es] at h6
  have : r = s := by omega
  subst this
  omega
theorem full_iff {S m : Nat} (hS : S < 2 ^ m) : S = 2 ^ m - 1 ↔ ∀ y, y < m → S.testBit y = true := by
  constructor
  · rintro rfl y hy
    rw [Nat.testBit_two_pow_sub_one]; simpa using hy
  · intro h
    apply Nat.eq_of_testBit_eq
    intro y
    rw [Nat.testBit_two_pow_sub_one]
    by_cases hy : y < m
    · rw [h y hy]; simp [hy]
    · rw [Nat.testBit_lt_two_pow (Nat.lt_of_lt_of_le hS (Nat.pow_le_pow_right (by omega) (by omega)))]; simp [hy]
theorem every_iff {S m : Nat} {p : Nat → Int} (hS : S < 2 ^ m) (hs : SetOf S m p) (hr : ∀ i, i < m → 0 ≤ p i ∧ p i < m) : S = 2 ^ m - 1 ↔ IsDiff m m p := by
  rw [full_iff hS]
  constructor
  · intro h
    exact diff_of_all hr fun r hr => (hs r).1 (h r hr)
  · intro h y hy
    exact (hs y).2 (h.all hy)

/-- May moneys be called so? -/
def NamedOk (n m : Nat) (L : Nat → Nat) (Z : Nat → Nat → Int) (p : Nat → Int) : Prop := IsRates n L Z ∧ m = n ∧ IsDiff n n p
noncomputable def namedN (n m : Nat) (L : Nat → Nat) (Z : Nat → Nat → Int) (p : Nat → Int) : Nat := if tt (NamedOk n m L Z p) = true then n else 0
theorem namedN_yes {n m : Nat} {L : Nat → Nat} {Z : Nat → Nat → Int} {p : Nat → Int} (h : NamedOk n m L Z p) : namedN n m L Z p = n := by unfold namedN; rw [tt_of h]; rfl
theorem namedN_no {n m : Nat} {L : Nat → Nat} {Z : Nat → Nat → Int} {p : Nat → Int} (h : ¬ NamedOk n m L Z p) : namedN n m L Z p = 0 := by unfold namedN; rw [tt_no h]; rfl
theorem named_small (n m : Nat) (L : Nat → Nat) (Z : Nat → Nat → Int) (p : Nat → Int) : namedN n m L Z p ≤ 1048576 ∧ tot (fun _ => n) (namedN n m L Z p) ≤ 1048576 := by
  by_cases h : NamedOk n m L Z p
  · rw [namedN_yes h, tot_same]
    have := h.1.1.2
    have h2 : n * n ≤ 5 * 5 := Nat.mul_le_mul this this
    omega
  · rw [namedN_no h]; simp [tot]

def namedX (n : Nat) (Z : Nat → Nat → Int) (p : Nat → Int) (r s : Nat) : Int := Z (invF p n r) (invF p n s)
/-- The table when i rows are done and k numbers of the next one. -/
def partN (n : Nat) (Z : Nat → Nat → Int) (p : Nat → Int) (i k r s : Nat) : Int := if invF p n r < i ∨ invF p n r = i ∧ invF p n s < k then namedX n Z p r s else 0
section
variable {n i k x y r s : Nat} {Z : Nat → Nat → Int} {p : Nat → Int}
theorem partN_zero (n : Nat) (Z : Nat → Nat → Int) (p : Nat → Int) (r s : Nat) : 0 = partN n Z p 0 0 r s := by unfold partN; rw [if_neg (by omega)]
theorem partN_step (h : IsDiff n n p) (hi : i < n) (hk : k < n) (hx : p i = x) (hy : p k = y) (hr : r < n) (hs : s < n) : (if r = x ∧ s = y then Z i k else partN n Z p i k r s) = partN n Z p i (k + 1) r s := by
  have e1 := h.inv_at hi hx
  have e2 := h.inv_at hk hy
  by_cases e : r = x ∧ s = y
  · rw [if_pos e]
    obtain ⟨rfl, rfl⟩ := e
    unfold partN namedX
    rw [e1, e2, if_pos (by omega)]
  · rw [if_neg e]
    have hne : ¬ (invF p n r = i ∧ invF p n s = k) := by
      rintro ⟨h1, h2⟩
      have h3 := (h.inv hr).2
      have h4 := (h.inv hs).2
      rw [h1] at h3
      rw [h2] at h4
      exact e ⟨by omega, by omega⟩
    unfold partN
    by_cases c : invF p n r < i ∨ invF p n r = i ∧ invF p n s < k
    · rw [if_pos c, if_pos (by omega)]
    · rw [if_neg c, if_neg (by omega)]
theorem partN_row (h : IsDiff n n p) (hs : s < n) : partN n Z p i n r s = partN n Z p (i + 1) 0 r s := by
  have := (h.inv hs).1
  unfold partN
  by_cases c : invF p n r < i ∨ invF p n r = i ∧ invF p n s < n
  · rw [if_pos c, if_pos (by omega)]
  · rw [if_neg c, if_neg (by omega)]
theorem partN_all (h : IsDiff n n p) (hr : r < n) : partN n Z p n 0 r s = namedX n Z p r s := by
  have := (h.inv hr).1
  unfold partN
  rw [if_pos (by omega)]
end

/-- The same in an array of five rows of five. -/
def partA (n : Nat) (Z : Nat → Nat → Int) (p : Nat → Int) (i k j : Nat) : Int := if j / 5 < n ∧ j % 5 < n then partN n Z p i k (j / 5) (j % 5) else 0
section
variable {n i k x y j : Nat} {Z : Nat → Nat → Int} {p : Nat → Int}
theorem partA_zero (n : Nat) (Z : Nat → Nat → Int) (p : Nat → Int) (j : Nat) : 0 = partA n Z p 0 0 j := by
  unfold partA; rw [← partN_zero]; simp
theorem partA_step (h : IsDiff n n p) (h5 : n ≤ 5) (hi : i < n) (hk : k < n) (hx : p i = x) (hy : p k = y) : (if j = x * 5 + y then Z i k else partA n Z p i k j) = partA n Z p i (k + 1) j := by
  have h1 := h.1 i hi
  have h2 := h.1 k hk
  by_cases hj : j / 5 < n ∧ j % 5 < n
  · unfold partA
    rw [if_pos hj, if_pos hj, ← partN_step h hi hk hx hy hj.1 hj.2]
    by_cases e : j = x * 5 + y
    · rw [if_pos e, if_pos (by omega)]
    · rw [if_neg e, if_neg (by omega)]
  · unfold partA
    rw [if_neg hj, if_neg hj, if_neg (by omega)]
theorem partA_row (h : IsDiff n n p) : partA n Z p i n j = partA n Z p (i + 1) 0 j := by
  unfold partA
  by_cases hj : j / 5 < n ∧ j % 5 < n
  · rw [if_pos hj, if_pos hj, partN_row h hj.2]
  · rw [if_neg hj, if_neg hj]
end
end

section
open Go.RowKit
/-- The list that begins so, and all that go on behind it with at most f numbers more below n, in order; of two at least. -/
def longer (n : Nat) : Nat → List Int → List (List Int)
  | 0, B => if 2 ≤ B.length then [B] else []
  | f + 1, B => (if 2 ≤ B.length then [B] else []) ++ (List.range n).flatMap fun (x : Nat) => if (x : Int) ∈ B then [] else longer n f (B ++ [(x : Int)])
/-- Those of them whose next number is below k. -/
def longerTo (n f : Nat) (B : List Int) (k : Nat) : List (List Int) := (if 2 ≤ B.length then [B] else []) ++ (List.range k).flatMap fun (x : Nat) => if (x : Int) ∈ B then [] else longer n f (B ++ [(x : Int)])
theorem longerTo_zero (n f : Nat) (B : List Int) : longerTo n f B 0 = if 2 ≤ B.length then [B] else [] := by simp [longerTo]
theorem longerTo_in {n f k : Nat} {B : List Int} (h : (k : Int) ∈ B) : longerTo n f B (k + 1) = longerTo n f B k := by
  unfold longerTo
  rw [List.range_succ, List.flatMap_append]
  simp [h]
theorem longerTo_new {n f k : Nat} {B : List Int} (h : ¬ (k : Int) ∈ B) : longerTo n f B (k + 1) = longerTo n f B k ++ longer n f (B ++ [(k : Int)]) := by
  unfold longerTo
  rw [List.range_succ, List.flatMap_append]
  simp [h]
theorem longer_succ (n f : Nat) (B : List Int) : longer n (f + 1) B = longerTo n f B n := rfl

/-- The k-th number of a list. -/
def nth (B : List Int) (k : Nat) : Int := B.getD k 0
theorem nth_snoc_lt {B : List Int} {x : Int} {k : Nat} (h : k < B.length) : nth (B ++ [x]) k = nth B k := by
  unfold nth; rw [List.getD_eq_getElem?_getD, List.getD_eq_getElem?_getD, List.getElem?_append_left h]
theorem nth_snoc {B : List Int} {x : Int} : nth (B ++ [x]) B.length = x := by
  unfold nth; rw [List.getD_eq_getElem?_getD, List.getElem?_append_right (Nat.le_refl _)]; simp
theorem mem_nth {B : List Int} {x : Int} : x ∈ B ↔ ∃ j, j < B.length ∧ nth B j = x := by
  rw [List.mem_iff_getElem]
  constructor
  · rintro ⟨j, hj, e⟩
    exact ⟨j, hj, by unfold nth; rw [List.getD_eq_getElem?_getD, List.getElem?_eq_getElem hj]; simpa using e⟩
  · rintro ⟨j, hj, e⟩
    refine ⟨j, hj, ?_⟩
    unfold nth at e
    rw [List.getD_eq_getElem?_getD, List.getElem?_eq_getElem hj] at e
    simpa using e

/-- Different numbers below n. -/
def Diff (n : Nat) (B : List Int) : Prop := IsDiff n B.length (nth B)
theorem Diff.nil (n : Nat) : Diff n [] := IsDiff.nil n _
theorem Diff.snoc_iff {n x : Nat} {B : List Int} (h : Diff n B) (hx : x < n) : Diff n (B ++ [(x : Int)]) ↔ ¬ (x : Int) ∈ B := by
  have hl : (B ++ [(x : Int)]).length = B.length + 1 := by simp
  constructor
  · intro hd hm
    obtain ⟨j, hj, e⟩ := mem_nth.1 hm
    refine hd.2 j B.length hj (by omega) ?_
    rw [nth_snoc_lt hj, nth_snoc, e]
  · intro hm
    refine ⟨fun i hi => ?_, fun i j hij hj => ?_⟩
    · by_cases e : i < B.length
      · rw [nth_snoc_lt e]; exact h.1 i e
      · have : i = B.length := by omega
        rw [this, nth_snoc]; omega
    · rw [nth_snoc_lt (show i < B.length by omega)]
      by_cases e : j < B.length
      · rw [nth_snoc_lt e]; exact h.2 i j hij e
      · have : j = B.length := by omega
        rw [this, nth_snoc]
        exact fun e' => hm (mem_nth.2 ⟨i, by omega, e'⟩)
/-- No more than n of them. -/
theorem diff_le {n m : Nat} {X : Nat → Int} (h : IsDiff n m X) : m ≤ n := by
  rcases Nat.lt_or_ge n m with h' | h'
  · have hn : IsDiff n n X := ⟨fun i hi => h.1 i (by omega), fun i j h1 h2 => h.2 i j h1 (by omega)⟩
    have h1 := h.1 n h'
    obtain ⟨x, hx⟩ := Int.eq_ofNat_of_zero_le h1.1
    obtain ⟨i, hi, e⟩ := hn.all (r := x) (by omega)
    exact absurd (e.trans hx.symm) (h.2 i n hi h')
  · exact h'
/-- n of them are all. -/
theorem Diff.full {n x : Nat} {B : List Int} (h : Diff n B) (hl : B.length = n) (hx : x < n) : (x : Int) ∈ B := by
  unfold Diff at h
  rw [hl] at h
  obtain ⟨i, hi, e⟩ := h.all hx
  exact mem_nth.2 ⟨i, by omega, e⟩
theorem longer_eq {n f : Nat} {B : List Int} (h : Diff n B) (hf : B.length + f = n) : longer n f B = longerTo n (f - 1) B n := by
  cases f with
  | succ f => rfl
  | zero =>
    have : ∀ k, k ≤ n → longerTo n 0 B k = longerTo n 0 B 0 := by
      intro k
      induction k with
      | zero => intro _; rfl
      | succ k ih => intro hk; rw [longerTo_in (h.full (by omega) (by omega)), ih (by omega)]
    show longer n 0 B = longerTo n 0 B n
    rw [this n (Nat.le_refl _), longerTo_zero]
    rfl

/-- They are not many. -/
theorem flat_le {c : Nat} {f : Nat → List (List Int)} (h : ∀ x, (f x).length ≤ c) (k : Nat) : ((List.range k).flatMap f).length ≤ k * c := by
  induction k with
  | zero => simp
  | succ k ih =>
    rw [List.range_succ, List.flatMap_append, List.length_append, Nat.succ_mul]
    have := h k
    simp only [List.flatMap_cons, List.flatMap_nil, List.append_nil]
    omega
theorem head_le (B : List Int) : (if 2 ≤ B.length then [B] else []).length ≤ 1 := by
  by_cases h : 2 ≤ B.length
  · rw [if_pos h]; simp
  · rw [if_neg h]; simp
theorem longer_le {n : Nat} (h5 : n ≤ 5) : ∀ (f : Nat) (B : List Int), (longer n f B).length ≤ 6 ^ f
  | 0, B => head_le B
  | f + 1, B => by
    have h1 := head_le B
    have h2 := flat_le (f := fun (x : Nat) => if (x : Int) ∈ B then [] else longer n f (B ++ [(x : Int)])) (c := 6 ^ f) (fun x => by
      by_cases e : (x : Int) ∈ B
      · simp [e]
      · simp only [if_neg e]; exact longer_le h5 f _) n
    have h3 : n * 6 ^ f ≤ 5 * 6 ^ f := Nat.mul_le_mul_right _ h5
    have h4 := Nat.pow_pos (n := f) (show 0 < 6 by omega)
    unfold longer
    rw [List.length_append, Nat.pow_succ]
    omega
theorem longerTo_le {n : Nat} (h5 : n ≤ 5) (f k : Nat) (B : List Int) (hk : k ≤ n) : (longerTo n f B k).length ≤ 6 ^ (f + 1) := by
  have h1 := head_le B
  have h2 := flat_le (f := fun (x : Nat) => if (x : Int) ∈ B then [] else longer n f (B ++ [(x : Int)])) (c := 6 ^ f) (fun x => by
    by_cases e : (x : Int) ∈ B
    · simp [e]
    · simp only [if_neg e]; exact longer_le h5 f _) k
  have h3 : k * 6 ^ f ≤ 5 * 6 ^ f := Nat.mul_le_mul_right _ (by omega)
  have h4 := Nat.pow_pos (n := f) (show 0 < 6 by omega)
  unfold longerTo
  rw [List.length_append, Nat.pow_succ]
  omega
/-- All that they tell of are different numbers, two at least, that begin so. -/
theorem mem_longer {n : Nat} : ∀ (f : Nat) (B : List Int), Diff n B → ∀ D, D ∈ longer n f B → Diff n D ∧ 2 ≤ D.length
  | 0, B, h, D, hD => by
    unfold longer at hD
    by_cases e : 2 ≤ B.length
    · rw [if_pos e] at hD; simp at hD; subst hD; exact ⟨h, e⟩
    · rw [if_neg e] at hD; simp at hD
  | f + 1, B, h, D, hD => by
    unfold longer at hD
    rw [List.mem_append] at hD
    rcases hD with hD | hD
    · by_cases e : 2 ≤ B.length
      · rw [if_pos e] at hD; simp at hD; subst hD; exact ⟨h, e⟩
      · rw [if_neg e] at hD; simp at hD
    · rw [List.mem_flatMap] at hD
      obtain ⟨x, hx, hD⟩ := hD
      rw [List.mem_range] at hx
      by_cases e : (x : Int) ∈ B
      · rw [if_pos e] at hD; simp at hD
      · rw [if_neg e] at hD
        exact mem_longer f _ ((h.snoc_iff hx).2 e) D hD
end

section
open Go.RowKit
/-- The greatest of f 0, .. f (k - 1), 0 at least. -/
def rmax (f : Nat → Int) : Nat → Int
  | 0 => 0
  | k + 1 => max (rmax f k) (f k)

theorem rmax_nonneg (f : Nat → Int) (k : Nat) : 0 ≤ rmax f k := by
  induction k with
  | zero => exact Int.le_refl _
  | succ k ih => exact Int.le_trans ih (Int.le_max_left _ _)
theorem rmax_le {f : Nat → Int} {b : Int} (k : Nat) (hb : 0 ≤ b) (h : ∀ j, j < k → f j ≤ b) : rmax f k ≤ b := by
  induction k with
  | zero => exact hb
  | succ k ih => exact Int.max_le.2 ⟨ih (fun j hj => h j (by omega)), h k (by omega)⟩
theorem rmax_congr {f g : Nat → Int} (k : Nat) (h : ∀ j, j < k → f j = g j) : rmax f k = rmax g k := by
  induction k with
  | zero => rfl
  | succ k ih =>
    show max (rmax f k) (f k) = max (rmax g k) (g k)
    rw [ih (fun j hj => h j (by omega)), h k (by omega)]
/-- What is 0 behind n counts for nothing. -/
theorem rmax_more {f : Nat → Int} {n : Nat} (d : Nat) (h : ∀ j, n ≤ j → j < n + d → f j = 0) : rmax f (n + d) = rmax f n := by
  induction d with
  | zero => rfl
  | succ d ih =>
    show max (rmax f (n + d)) (f (n + d)) = _
    rw [ih (fun j h1 h2 => h j h1 (by omega)), h (n + d) (by omega) (by omega)]
    exact Int.max_eq_left (rmax_nonneg _ _)

/-- The greatest value of money y behind s changes, from a unit of money i, over n moneys. -/
def stepV (T : Nat → Nat → Int) (n i : Nat) : Nat → Nat → Int
  | 0, y => if y = i then 1 else 0
  | s + 1, y => rmax (fun x => stepV T n i s x * T x y) n

theorem stepV_le {T : Nat → Nat → Int} {n i : Nat} (h : ∀ x y, x < n → y < n → 0 ≤ T x y ∧ T x y ≤ 144) (s y : Nat) (hy : y < n) : 0 ≤ stepV T n i s y ∧ stepV T n i s y ≤ 144 ^ s := by
  induction s generalizing y with
  | zero =>
    unfold stepV
    split <;> simp
  | succ s ih =>
    refine ⟨rmax_nonneg _ _, rmax_le _ (Int.pow_nonneg (by decide)) fun x hx => ?_⟩
    calc stepV T n i s x * T x y ≤ 144 ^ s * 144 := Int.mul_le_mul (ih x hx).2 (h x y hx hy).2 (h x y hx hy).1 (Int.pow_nonneg (by decide))
      _ = 144 ^ (s + 1) := by rw [Int.pow_succ]
theorem stepV_bound {T : Nat → Nat → Int} {n i : Nat} (h : ∀ x y, x < n → y < n → 0 ≤ T x y ∧ T x y ≤ 144) (s y : Nat) (hs : s ≤ 5) (hy : y < n) : 0 ≤ stepV T n i s y ∧ stepV T n i s y ≤ 61917364224 := by
  obtain ⟨h1, h2⟩ := stepV_le (n := n) (i := i) h s y hy
  have : s = 0 ∨ s = 1 ∨ s = 2 ∨ s = 3 ∨ s = 4 ∨ s = 5 := by omega
  rcases this with rfl | rfl | rfl | rfl | rfl | rfl <;> exact ⟨h1, by omega⟩
theorem prod_bound {a b : Int} (ha : 0 ≤ a ∧ a ≤ 61917364224) (hb : 0 ≤ b ∧ b ≤ 144) : 0 ≤ a * b ∧ a * b ≤ 8916100448256 := by
  refine ⟨Int.mul_nonneg ha.1 hb.1, ?_⟩
  calc a * b ≤ 61917364224 * 144 := Int.mul_le_mul ha.2 hb.2 hb.1 (by decide)
    _ = 8916100448256 := by decide

/-- Over five moneys, of which those from n on are none, it is the same. -/
theorem stepV_five {T U : Nat → Nat → Int} {n i : Nat} (hn : n ≤ 5) (hi : i < n) (hT : ∀ x y, x < n → y < n → T x y = U x y) (h0 : ∀ x y, x < 5 → y < 5 → n ≤ x ∨ n ≤ y → T x y = 0) (s y : Nat) (hy5 : y < 5) :
    (y < n → stepV T 5 i s y = stepV U n i s y) ∧ (n ≤ y → stepV T 5 i s y = 0) := by
  induction s generalizing y with
  | zero =>
    refine ⟨fun _ => rfl, fun hy => ?_⟩
    unfold stepV
    rw [if_neg (by omega)]
  | succ s ih =>
    have e5 : 5 = n + (5 - n) := by omega
    have hm : rmax (fun x => stepV T 5 i s x * T x y) 5 = rmax (fun x => stepV T 5 i s x * T x y) n := by
      have := rmax_more (f := fun x => stepV T 5 i s x * T x y) (n := n) (5 - n) fun x hx hx5 => by
        show stepV T 5 i s x * T x y = 0
        rw [(ih x (by omega)).2 hx, Int.zero_mul]
      rwa [← e5] at this
    refine ⟨fun hy => ?_, fun hy => ?_⟩
    · show rmax (fun x => stepV T 5 i s x * T x y) 5 = rmax (fun x => stepV U n i s x * U x y) n
      rw [hm]
      exact rmax_congr _ fun x hx => by
        show stepV T 5 i s x * T x y = stepV U n i s x * U x y
        rw [(ih x (by omega)).1 hx, hT x y hx hy]
    · show rmax (fun x => stepV T 5 i s x * T x y) 5 = 0
      rw [rmax_congr (g := fun _ => 0) 5 (fun x hx => by
        show stepV T 5 i s x * T x y = 0
        rw [h0 x y hx hy5 (.inr hy), Int.mul_zero])]
      rfl

/-- A rate table and two moneys. -/
def TwoOk (n : Nat) (L : Nat → Nat) (Z : Nat → Nat → Int) (i k : Int) : Prop := IsRates n L Z ∧ InR i 0 (n - 1) ∧ InR k 0 (n - 1)
noncomputable def stepAns (n : Nat) (L : Nat → Nat) (Z : Nat → Nat → Int) (i k : Int) : Int := if tt (TwoOk n L Z i k) = true then stepV Z n i.toNat (n - 1) k.toNat else 0
theorem stepAns_no {n : Nat} {L : Nat → Nat} {Z : Nat → Nat → Int} {i k : Int} (h : ¬ TwoOk n L Z i k) : stepAns n L Z i k = 0 := by unfold stepAns; rw [tt_no h]; rfl
theorem stepAns_yes {n : Nat} {L : Nat → Nat} {Z : Nat → Nat → Int} {i k : Int} (h : TwoOk n L Z i k) : stepAns n L Z i k = stepV Z n i.toNat (n - 1) k.toNat := by unfold stepAns; rw [tt_of h]; rfl
end

section
open Go.RowKit
section
/-- The greatest common divisor of the first k numbers. -/
def gcdT (X : Nat → Int) : Nat → Nat
  | 0 => 0
  | k + 1 => Nat.gcd (gcdT X k) (X k).toNat
/-- The numbers divided by it. -/
def leastF (X : Nat → Int) (n k : Nat) : Int := X k / (gcdT X n : Int)

theorem gcdT_le {X : Nat → Int} {M : Nat} (k : Nat) (h : ∀ j, j < k → 1 ≤ X j ∧ X j ≤ M) : gcdT X k ≤ M := by
  cases k with
  | zero => exact Nat.zero_le _
  | succ k =>
    have h1 := h k (by omega)
    have h2 := Nat.gcd_le_right (gcdT X k) (show 0 < (X k).toNat by omega)
    show Nat.gcd (gcdT X k) (X k).toNat ≤ M
    omega
theorem gcdT_pos {X : Nat → Int} {k : Nat} (hk : 1 ≤ k) (h : ∀ j, j < k → 1 ≤ X j) : 0 < gcdT X k := by
  cases k with
  | zero => omega
  | succ k =>
    have h1 := h k (by omega)
    exact Nat.gcd_pos_of_pos_right _ (by omega)
theorem gcdT_dvd {X : Nat → Int} {k j : Nat} (hj : j < k) : gcdT X k ∣ (X j).toNat := by
  induction k with
  | zero => omega
  | succ k ih =>
    by_cases e : j = k
    · subst e; exact Nat.gcd_dvd_right _ _
    · exact Nat.dvd_trans (Nat.gcd_dvd_left _ _) (ih (by omega))
theorem gcdT_congr {X Y : Nat → Int} (k : Nat) (h : ∀ j, j < k → X j = Y j) : gcdT X k = gcdT Y k := by
  induction k with
  | zero => rfl
  | succ k ih =>
    show Nat.gcd (gcdT X k) (X k).toNat = Nat.gcd (gcdT Y k) (Y k).toNat
    rw [ih (fun j hj => h j (by omega)), h k (by omega)]
theorem leastF_mul {X : Nat → Int} {n k : Nat} (hk : k < n) (h : 1 ≤ X k) : leastF X n k * (gcdT X n : Int) = X k := by
  have h1 : ((gcdT X n : Nat) : Int) ∣ X k := by
    have h2 := Int.natCast_dvd_natCast.2 (gcdT_dvd (X := X) hk)
    rwa [Int.toNat_of_nonneg (by omega)] at h2
  exact Int.ediv_mul_cancel h1
theorem leastF_range {X : Nat → Int} {n k : Nat} {M : Int} (hk : k < n) (h : ∀ j, j < n → 1 ≤ X j ∧ X j ≤ M) : 1 ≤ leastF X n k ∧ leastF X n k ≤ M := by
  have h0 := h k hk
  have h1 := leastF_mul hk h0.1
  have h2 := gcdT_pos (k := n) (by omega) (fun j hj => (h j hj).1)
  generalize leastF X n k = x at h1 ⊢
  have hx : 1 ≤ x := by
    rcases Int.lt_or_le x 1 with h' | h'
    · have : x * (gcdT X n : Int) ≤ 0 := Int.mul_nonpos_of_nonpos_of_nonneg (by omega) (by omega)
      omega
    · exact h'
  have h3 : x * 1 ≤ x * (gcdT X n : Int) := Int.mul_le_mul_of_nonneg_left (by omega) (by omega)
  exact ⟨hx, by omega⟩
theorem gcd_turn (a b : Nat) : Nat.gcd b (a % b) = Nat.gcd a b := by
  rw [Nat.gcd_comm a b, Nat.gcd_rec b a, Nat.gcd_comm]
end
end

section
open Go.RowKit
theorem rmax_ge {f : Nat → Int} {k j : Nat} (h : j < k) : f j ≤ rmax f k := by
  induction k with
  | zero => omega
  | succ k ih =>
    by_cases e : j = k
    · subst e; exact Int.le_max_right _ _
    · exact Int.le_trans (ih (by omega)) (Int.le_max_left _ _)
/-- Values of s changes, s at least 1, are at least 1; staying counts 12. -/
theorem stepV_stay {n : Nat} {L : Nat → Nat} {Z : Nat → Nat → Int} (h : IsRates n L Z) {i y s : Nat} (hi : i < n) (hy : y < n) : 12 * stepV Z n i s y ≤ stepV Z n i (s + 1) y := by
  have h1 : (fun x => stepV Z n i s x * Z x y) y ≤ rmax (fun x => stepV Z n i s x * Z x y) n := rmax_ge hy
  have h2 : Z y y = 12 := ((h.2 y hy).2 y hy).2 rfl
  show 12 * stepV Z n i s y ≤ rmax (fun x => stepV Z n i s x * Z x y) n
  have h3 : (fun x => stepV Z n i s x * Z x y) y = 12 * stepV Z n i s y := by show stepV Z n i s y * Z y y = _; rw [h2, Int.mul_comm]
  omega
theorem stepV_pos {n : Nat} {L : Nat → Nat} {Z : Nat → Nat → Int} (h : IsRates n L Z) {i y s : Nat} (hi : i < n) (hy : y < n) (hs : 1 ≤ s) : 1 ≤ stepV Z n i s y := by
  induction s with
  | zero => omega
  | succ s ih =>
    by_cases e : s = 0
    · subst e
      have h1 : (fun x => stepV Z n i 0 x * Z x y) i ≤ rmax (fun x => stepV Z n i 0 x * Z x y) n := rmax_ge hi
      have h2 := ((h.2 i hi).2 y hy).1.1
      show 1 ≤ rmax (fun x => stepV Z n i 0 x * Z x y) n
      have h3 : (fun x => stepV Z n i 0 x * Z x y) i = Z i y := by show (if i = i then (1 : Int) else 0) * Z i y = _; rw [if_pos rfl, Int.one_mul]
      omega
    · have := stepV_stay h (s := s) hi hy
      have := ih (by omega)
      omega
/-- For each money the value to money 0. -/
def foundF (Z : Nat → Nat → Int) (n : Nat) (i : Nat) : Int := stepV Z n i (n - 1) 0
theorem foundF_range {n : Nat} {L : Nat → Nat} {Z : Nat → Nat → Int} (h : IsRates n L Z) {i : Nat} (hi : i < n) : 1 ≤ foundF Z n i ∧ foundF Z n i ≤ 1000000000000000000 := by
  have h2 := h.1.1
  have h5 := h.1.2
  refine ⟨stepV_pos h hi (by omega) (by omega), ?_⟩
  have := (stepV_bound (T := Z) (n := n) (i := i) (fun x y hx hy => by have := ((h.2 x hx).2 y hy).1; omega) (n - 1) 0 (by omega) (by omega)).2
  unfold foundF
  omega
end

section
open Go.RowKit
/-- n prices. -/
def IsPrices (n : Nat) (X : Nat → Int) : Prop := (2 ≤ n ∧ n ≤ 5) ∧ ∀ k, k < n → 1 ≤ X k ∧ X k ≤ 1000000000
/-- A table of rates and prices for it. -/
def BothOk (n : Nat) (L : Nat → Nat) (Z : Nat → Nat → Int) (m : Nat) (W : Nat → Int) : Prop := (IsRates n L Z ∧ IsPrices m W) ∧ n = m
/-- The prices fit. -/
def FitsOk (n : Nat) (L : Nat → Nat) (Z : Nat → Nat → Int) (m : Nat) (W : Nat → Int) : Prop := BothOk n L Z m W ∧ ∀ i, i < n → ∀ k, k < n → Z i k * W k = 12 * W i
/-- The prices hold. -/
def HoldsOk (n : Nat) (L : Nat → Nat) (Z : Nat → Nat → Int) (m : Nat) (W : Nat → Int) : Prop := BothOk n L Z m W ∧ ∀ i, i < n → ∀ k, k < n → Z i k * W k ≤ 12 * W i
/-- Units for prices. -/
def WorthOk (m : Nat) (X : Nat → Int) (m' : Nat) (Y : Nat → Int) : Prop := (IsPrices m X ∧ m' = m) ∧ ∀ k, k < m → X k ≤ 1000000 ∧ 0 ≤ Y k ∧ Y k ≤ 1000
/-- The first k prices by their units. -/
def sumP (X Y : Nat → Int) : Nat → Int
  | 0 => 0
  | k + 1 => sumP X Y k + X k * Y k
noncomputable def worthAns (m : Nat) (X : Nat → Int) (m' : Nat) (Y : Nat → Int) : Int := if tt (WorthOk m X m' Y) = true then sumP X Y m else 0
theorem worthAns_yes {m m' : Nat} {X Y : Nat → Int} (h : WorthOk m X m' Y) : worthAns m X m' Y = sumP X Y m := by unfold worthAns; rw [tt_of h]; rfl
theorem worthAns_no {m m' : Nat} {X Y : Nat → Int} (h : ¬ WorthOk m X m' Y) : worthAns m X m' Y = 0 := by unfold worthAns; rw [tt_no h]; rfl
theorem sumP_le {X Y : Nat → Int} {m k : Nat} (h : ∀ j, j < m → (1 ≤ X j ∧ X j ≤ 1000000) ∧ 0 ≤ Y j ∧ Y j ≤ 1000) (hk : k ≤ m) : 0 ≤ sumP X Y k ∧ sumP X Y k ≤ 1000000000 * (k : Int) := by
  induction k with
  | zero => simp [sumP]
  | succ k ih =>
    have h1 := ih (by omega)
    obtain ⟨⟨h2, h3⟩, h4, h5⟩ := h k (by omega)
    have h6 : 0 ≤ X k * Y k := Int.mul_nonneg (by omega) h4
    have h7 : X k * Y k ≤ 1000000 * 1000 := Int.mul_le_mul h3 h5 h4 (by omega)
    show 0 ≤ sumP X Y k + X k * Y k ∧ sumP X Y k + X k * Y k ≤ 1000000000 * ((k + 1 : Nat) : Int)
    omega

/-- Changing there and back loses. -/
def lossB (Z : Nat → Nat → Int) (i k : Nat) : Bool := decide (Z i k * Z k i < 144)
/-- How many of the first k moneys lose with i. -/
def lossI (Z : Nat → Nat → Int) (i : Nat) : Nat → Nat
  | 0 => 0
  | k + 1 => lossI Z i k + (lossB Z i k).toNat
/-- How many pairs lose among the first n moneys. -/
def lossN (Z : Nat → Nat → Int) : Nat → Nat
  | 0 => 0
  | i + 1 => lossN Z i + lossI Z i i
theorem lossI_le (Z : Nat → Nat → Int) (i k : Nat) : lossI Z i k ≤ k := by
  induction k with
  | zero => exact Nat.le_refl _
  | succ k ih => show lossI Z i k + (lossB Z i k).toNat ≤ k + 1; have : (lossB Z i k).toNat ≤ 1 := by cases lossB Z i k <;> decide
                 omega
theorem lossN_le (Z : Nat → Nat → Int) (n : Nat) (hn : n ≤ 5) : lossN Z n ≤ 5 * n := by
  induction n with
  | zero => exact Nat.le_refl _
  | succ n ih => have := ih (by omega); have := lossI_le Z n n; show lossN Z n + lossI Z n n ≤ 5 * (n + 1); omega
noncomputable def spreadAns (n : Nat) (L : Nat → Nat) (Z : Nat → Nat → Int) : Int := if tt (IsRates n L Z) = true then (lossN Z n : Int) else 0
theorem spreadAns_yes {n : Nat} {L : Nat → Nat} {Z : Nat → Nat → Int} (h : IsRates n L Z) : spreadAns n L Z = lossN Z n := by unfold spreadAns; rw [tt_of h]; rfl
theorem spreadAns_no {n : Nat} {L : Nat → Nat} {Z : Nat → Nat → Int} (h : ¬ IsRates n L Z) : spreadAns n L Z = 0 := by unfold spreadAns; rw [tt_no h]; rfl
theorem prod_le {n m : Nat} {L : Nat → Nat} {Z : Nat → Nat → Int} {W : Nat → Int} (h : BothOk n L Z m W) {i k : Nat} (hi : i < n) (hk : k < n) : 0 ≤ Z i k * W k ∧ Z i k * W k ≤ 144000000000 := by
  obtain ⟨⟨hr, hp⟩, rfl⟩ := h
  obtain ⟨h1, h2⟩ := ((hr.2 i hi).2 k hk).1
  obtain ⟨h3, h4⟩ := hp.2 k hk
  have h5 : Z i k * W k ≤ 144 * 1000000000 := Int.mul_le_mul h2 h4 (by omega) (by omega)
  exact ⟨Int.mul_nonneg (by omega) (by omega), by omega⟩
theorem rates_le {n : Nat} {L : Nat → Nat} {Z : Nat → Nat → Int} (h : IsRates n L Z) {i k : Nat} (hi : i < n) (hk : k < n) : 0 ≤ Z i k * Z k i ∧ Z i k * Z k i ≤ 20736 := by
  obtain ⟨h1, h2⟩ := ((h.2 i hi).2 k hk).1
  obtain ⟨h3, h4⟩ := ((h.2 k hk).2 i hi).1
  have h5 : Z i k * Z k i ≤ 144 * 144 := Int.mul_le_mul h2 h4 (by omega) (by omega)
  exact ⟨Int.mul_nonneg (by omega) (by omega), by omega⟩
end

end Go.Proofs.YtabdbgnkiebcdaaDoor

namespace Go.Proofs.YtabdbgnkiebcdaaDoor
set_option linter.unusedVariables false
set_option linter.unusedSimpArgs false
open Go.RowKit

/-- What is in the first set and not in the second one. -/
theorem bits_andNot_i64 (a b : Nat) (ha : a < 2 ^ 62) (hb : b < 2 ^ 62) : ∃ r : Nat, bits .andNot .i64 (a : Int) (b : Int) = (r : Int) ∧ r ≤ a ∧ ∀ y, r.testBit y = (a.testBit y && !b.testBit y) := by
  have e : bits .andNot .i64 (a : Int) (b : Int) = IntKind.i64.wrap ((BitVec.ofInt 64 (a : Int) &&& ~~~ BitVec.ofInt 64 (b : Int)).toNat : Int) := rfl
  have ea := ofInt64_nat a (by omega)
  have eb := ofInt64_nat b (by omega)
  have hle : (BitVec.ofInt 64 (a : Int) &&& ~~~ BitVec.ofInt 64 (b : Int)).toNat ≤ a := by
    rw [BitVec.toNat_and, ea]; exact Nat.and_le_left
  refine ⟨(BitVec.ofInt 64 (a : Int) &&& ~~~ BitVec.ofInt 64 (b : Int)).toNat, ?_, hle, fun y => ?_⟩
  · rw [e, IntKind.wrap_i64]; omega
  · rw [BitVec.testBit_toNat, BitVec.getLsbD_and, BitVec.getLsbD_not, ← BitVec.testBit_toNat, ← BitVec.testBit_toNat, ea, eb]
    by_cases hy : y < 64
    · simp [hy]
    · rw [Nat.testBit_lt_two_pow (x := a) (Nat.lt_of_lt_of_le ha (Nat.pow_le_pow_right (by omega) (by omega)))]; simp

theorem diff_nat {n : Nat} {X : Nat → Int} (h : IsDiff n n X) {k : Nat} (hk : k < n) : ∃ x : Nat, X k = x ∧ x < n := by
  have h1 := h.1 k hk
  obtain ⟨x, hx⟩ := Int.eq_ofNat_of_zero_le h1.1
  exact ⟨x, hx, by omega⟩

end Go.Proofs.YtabdbgnkiebcdaaDoor

namespace Go.Proofs.YtabdbgnkiebcdaaDoor
set_option linter.unusedVariables false
set_option linter.unusedSimpArgs false
open Go.RowKit

def laysM171_ren : Go.Shelf.Ren := ⟨fun | 171 => 83 | 243 => 119 | 246 => 147 | 283 => 161 | 284 => 162 | 285 => 163 | 286 => 164 | 129 => 176 | 317 => 175 | 318 => 177 | 319 => 178 | 320 => 142 | 337 => 159 | 338 => 160 | n => n, fun | 3 => 3 | 9 => 9 | 2 => 2 | 4 => 4 | 171 => 151 | 0 => 0 | 53 => 150 | 37 => 38 | 5 => 5 | 173 => 153 | 212 => 168 | 51 => 148 | 20 => 20 | 213 => 169 | 46 => 138 | 232 => 165 | 233 => 166 | n => n, fun | 17 => 2 | 18 => 0 | 19 => 1 | n => n⟩
theorem laysM171 : Go.Proofs.LaysM.n171 Tryd.prog laysM171_ren := {
  mixed := by kernel_rfl
  f129 := Tryd.func176.trans (congrArg some (by kernel_rfl))
  f171 := Tryd.func83.trans (congrArg some (by kernel_rfl))
  f243 := Tryd.func119.trans (congrArg some (by kernel_rfl))
  f246 := Tryd.func147.trans (congrArg some (by kernel_rfl))
  f283 := Tryd.func161.trans (congrArg some (by kernel_rfl))
  f284 := Tryd.func162.trans (congrArg some (by kernel_rfl))
  f285 := Tryd.func163.trans (congrArg some (by kernel_rfl))
  f286 := Tryd.func164.trans (congrArg some (by kernel_rfl))
  f317 := Tryd.func175.trans (congrArg some (by kernel_rfl))
  f318 := Tryd.func177.trans (congrArg some (by kernel_rfl))
  f319 := Tryd.func178.trans (congrArg some (by kernel_rfl))
  f320 := Tryd.func142.trans (congrArg some (by kernel_rfl))
  f337 := Tryd.func159.trans (congrArg some (by kernel_rfl))
  f338 := Tryd.func160.trans (congrArg some (by kernel_rfl))
  t0 := Tryd.underlying0
  a0 := Tryd.isAgg0
  z0 := Tryd.sizeOf0
  v0 := Tryd.zeroValue0
  t2 := Tryd.underlying2
  a2 := Tryd.isAgg2
  z2 := Tryd.sizeOf2
  v2 := Tryd.zeroValue2
  t3 := Tryd.underlying3
  a3 := Tryd.isAgg3
  z3 := Tryd.sizeOf3
  v3 := Tryd.zeroValue3
  t4 := Tryd.underlying4
  a4 := Tryd.isAgg4
  z4 := Tryd.sizeOf4
  v4 := Tryd.zeroValue4
  t5 := Tryd.underlying5
  a5 := Tryd.isAgg5
  z5 := Tryd.sizeOf5
  v5 := Tryd.zeroValue5
  t9 := Tryd.underlying9
  a9 := Tryd.isAgg9
  z9 := Tryd.sizeOf9
  v9 := Tryd.zeroValue9
  t20 := Tryd.underlying20
  a20 := Tryd.isAgg20
  z20 := Tryd.sizeOf20
  v20 := Tryd.zeroValue20
  t37 := Tryd.underlying38
  a37 := Tryd.isAgg38
  z37 := Tryd.sizeOf38
  v37 := Tryd.zeroValue38
  t46 := Tryd.underlying138
  a46 := Tryd.isAgg138
  z46 := Tryd.sizeOf138
  v46 := Tryd.zeroValue138
  t51 := Tryd.underlying148
  a51 := Tryd.isAgg148
  z51 := Tryd.sizeOf148
  v51 := Tryd.zeroValue148
  t53 := Tryd.underlying150
  a53 := Tryd.isAgg150
  z53 := Tryd.sizeOf150
  v53 := Tryd.zeroValue150
  t171 := Tryd.underlying151
  a171 := Tryd.isAgg151
  z171 := Tryd.sizeOf151
  v171 := Tryd.zeroValue151
  t173 := Tryd.underlying153
  a173 := Tryd.isAgg153
  z173 := Tryd.sizeOf153
  v173 := Tryd.zeroValue153
  t212 := Tryd.underlying168
  a212 := Tryd.isAgg168
  z212 := Tryd.sizeOf168
  v212 := Tryd.zeroValue168
  t213 := Tryd.underlying169
  a213 := Tryd.isAgg169
  z213 := Tryd.sizeOf169
  t232 := Tryd.underlying165
  a232 := Tryd.isAgg165
  z232 := Tryd.sizeOf165
  v232 := Tryd.zeroValue165
  t233 := Tryd.underlying166
  a233 := Tryd.isAgg166
  z233 := Tryd.sizeOf166
  v233 := Tryd.zeroValue166
  g17 := by kernel_rfl
  g18 := by kernel_rfl
  g19 := by kernel_rfl
  i0 := by kernel_rfl
  i2 := by kernel_rfl
  i3 := by kernel_rfl
  i4 := by kernel_rfl
  i5 := by kernel_rfl
  i9 := by kernel_rfl
  i20 := by kernel_rfl
  i37 := by kernel_rfl
  i46 := by kernel_rfl
  i51 := by kernel_rfl
  i53 := by kernel_rfl
  i171 := by kernel_rfl
  i173 := by kernel_rfl
  i212 := by kernel_rfl
  i232 := by kernel_rfl
  i233 := by kernel_rfl
  m17 := by kernel_rfl
  m18 := by kernel_rfl
  m19 := by kernel_rfl }
/-- The library's powers of ten lie in their variable. -/
def PowAt (w : World) : Prop := Lib.TabIs Tryd.prog w "internal/strconv.uint64pow10" .u64 Lib.pow10Tab
theorem pow_g : Tryd.prog.globalNamed "internal/strconv.uint64pow10" = some 2 := by kernel_rfl
theorem PowAt.below {w w' : World} {B : Nat} (h : PowAt w) (hB : w.heap.size ≤ B) (hb : Below B w w') : PowAt w' := by
  unfold PowAt Lib.TabIs at h ⊢
  unfold World.var? at h ⊢
  rw [pow_g] at h ⊢
  simp only [Option.bind_some] at h ⊢
  have hl : 2 < w.heap.size := by
    rcases Nat.lt_or_ge 2 w.heap.size with h1 | h1
    · exact h1
    · rw [Array.getElem?_eq_none h1] at h; cases h
  rw [hb.block _ (Nat.lt_of_lt_of_le hl hB)]
  exact h
theorem itoa_any (x : Int) (w : World) (h0 : -9223372036854775808 ≤ x) (h1 : x ≤ 9223372036854775807) (hT : PowAt w) :
    Calls Tryd.prog 83 #[.int .i64 x] w fun e w' => e = .returned (.string ⟨(Lib.itoa x).toArray⟩) ∧ Below w.heap.size w w' := by
  refine (Any.strconv_Itoa laysM171 x h0 h1 w hT).mono ?_
  rintro e w' ⟨rfl, k, os, rfl⟩
  refine ⟨rfl, ?_⟩
  exact Lib.below_grow _ _ (Nat.le_refl _) k os
end Go.Proofs.YtabdbgnkiebcdaaDoor

namespace Go.Proofs.YtabdbgnkiebcdaaDoor
set_option linter.unusedVariables false
open Go.RowKit

theorem szInts_any (n c : Nat) (a : Option Addr) (left : Int) (w : World) (hn : n ≤ 9223372036854775807) (h0 : 0 ≤ left) (h1 : left ≤ 1048576) :
    Calls Tryd.prog 34 #[.slice a n c, .int .i64 left] w fun e w' => e = .returned (.int .i64 (szF left n)) ∧ w = w' := by
  by_cases h : (n : Int) ≤ left
  · have e1 : szF left n = left - n := by unfold szF; rw [if_pos h]
    have E1 := Lib.hid e1
    clear e1
    go_enter Tryd.func34, Tryd.ntmps34
    go_wp2
    go_ret
    exact ⟨by rw [E1.out]; rfl, rfl⟩
  · have e1 : szF left n = -1 := by unfold szF; rw [if_neg h]
    have E1 := Lib.hid e1
    clear e1
    go_enter Tryd.func34, Tryd.ntmps34
    go_wp2
    go_ret
    exact ⟨by rw [E1.out]; rfl, rfl⟩
end Go.Proofs.YtabdbgnkiebcdaaDoor

namespace Go.Proofs.YtabdbgnkiebcdaaDoor
set_option linter.unusedVariables false
open Go.RowKit

set_option maxHeartbeats 400000 in
theorem szTab_any (n c : Nat) (a : Option Addr) (A : Nat → Option Addr) (L C : Nat → Nat) (Z : Nat → Nat → Int) (w : World) (hn : n ≤ 9223372036854775807) (hL : ∀ r, r < n → L r ≤ 9223372036854775807) (ha : Tab w a n A L C Z) :
    Calls Tryd.prog 11 #[.slice a n c, .int .i64 1048576] w fun e w' => e = .returned (.int .i64 (szF 1048576 (n + tot L n))) ∧ w = w' := by
  by_cases h : (n : Int) ≤ 1048576
  · go_enter Tryd.func11, Tryd.ntmps11
    go_wp2
    go_loop [1, 4, 5] (fun l r i => ∃ k : Nat, k ≤ n ∧ i = .int .i64 k ∧ r = .int .i64 0 ∧ (n + tot L k : Int) ≤ 1048576 ∧ l = .int .i64 (1048576 - n - tot L k)) (fun _ _ i => n - (intOf i).toNat)
    case atStart => exact ⟨0, Nat.zero_le _, rfl, rfl, by simpa [tot] using h, by simp [tot]⟩
    case round =>
      obtain ⟨k, hk, rfl, rfl, hs, rfl⟩ := hrel
      by_cases hlt : k < n
      · obtain ⟨b, o, rfl, hc, -⟩ := ha k hlt
        have hLk := hL k hlt
        have ht : tot L (k + 1) = tot L k + L k := rfl
        clear ha hL
        by_cases hfit : (n + tot L (k + 1) : Int) ≤ 1048576
        · have e1 : szF (1048576 - n - tot L k) (L k) = 1048576 - n - tot L (k + 1) := by unfold szF; rw [if_pos (by omega)]; omega
          have E1 := Lib.hid e1
          have E2 := Lib.hid ht
          clear e1 ht
          go_wp2_with fail
          refine (szInts_any (L k) (C k) (A k) _ _ (by omega) (by omega) (by omega)).mono ?_
          rintro e w' ⟨rfl, rfl⟩
          rw [E1.out]
          go_wp2
          go_round
          case rel => exact ⟨k + 1, by omega, by go_num, rfl, by omega, rfl⟩
          case measure => simp [intOf]; omega
        · have e1 : szF (1048576 - n - tot L k) (L k) = -1 := by unfold szF; rw [if_neg (by omega)]
          have hm := tot_mono (L := L) (i := k + 1) (j := n) hlt
          have e2 : szF 1048576 (n + tot L n) = -1 := by unfold szF; rw [if_neg (by omega)]
          have E1 := Lib.hid e1
          have E2 := Lib.hid e2
          clear e1 e2 ht
          go_wp2_with fail
          refine (szInts_any (L k) (C k) (A k) _ _ (by omega) (by omega) (by omega)).mono ?_
          rintro e w' ⟨rfl, rfl⟩
          rw [E1.out]
          go_wp2
          go_ret
          exact ⟨by rw [E2.out]; rfl, rfl⟩
      · obtain rfl : k = n := by omega
        have e2 : szF 1048576 (k + tot L k) = 1048576 - k - tot L k := by unfold szF; rw [if_pos (by omega)]; omega
        have E2 := Lib.hid e2
        clear e2
        go_wp2
        go_ret
        exact ⟨by rw [E2.out]; rfl, rfl⟩
  · have e2 : szF 1048576 (n + tot L n) = -1 := by unfold szF; rw [if_neg (by omega)]
    have E2 := Lib.hid e2
    clear e2
    go_enter Tryd.func11, Tryd.ntmps11
    go_wp2
    go_ret
    exact ⟨by rw [E2.out]; rfl, rfl⟩
end Go.Proofs.YtabdbgnkiebcdaaDoor

namespace Go.Proofs.YtabdbgnkiebcdaaDoor
set_option linter.unusedVariables false

theorem Tryd.infoInt : (Tryd.prog.info? 3).map (fun i => (i.zero, i.size, i.bytes)) = some (some (.int .i64 0), 1, 8) := by kernel_rfl

theorem Tryd.infoInts : (Tryd.prog.info? 32).map (fun i => (i.zero, i.size, i.bytes)) = some (some (.slice none 0 0), 1, 24) := by kernel_rfl
end Go.Proofs.YtabdbgnkiebcdaaDoor

namespace Go.Proofs.YtabdbgnkiebcdaaDoor
set_option linter.unusedVariables false
open Go.RowKit

set_option maxHeartbeats 400000 in
theorem toInts_any (n c : Nat) (a : Option Addr) (X : Nat → Int) (w : World) (hn : n ≤ 1048576) (ha : Rd w a n X) :
    Calls Tryd.prog 19 #[.slice a n c] w fun e w' => e = .returned (.slice (some ⟨w.heap.size, 0, none⟩) n n) ∧
      w'.rowIs w.heap.size 3 n (fun i => .int .i64 (X i)) ∧ w'.heap.size = w.heap.size + 1 ∧ Below w.heap.size w w' := by
  have hmk := run_make_row' (P := Tryd.prog) 32 3 (.int .i64 0) 8 Tryd.underlying32 Tryd.infoInt rfl .i64 .i64 n (by omega) (by omega)
  go_enter Tryd.func19, Tryd.ntmps19
  go_wp2
  clear hmk
  go_loopw [4] (fun i wr => ∃ k : Nat, k ≤ n ∧ i = .int .i64 k ∧ wr.rowIs w.heap.size 3 n (fun i => .int .i64 (if i < k then X i else 0)) ∧ wr.heap.size = w.heap.size + 1 ∧ Below w.heap.size w wr) (fun i _ => n - (intOf i).toNat)
  case atStart => exact ⟨0, Nat.zero_le _, rfl, (World.rowIs_made w _ n 3).congr (fun j _ => by simp), by simp, (Below.refl _ _).alloc (Nat.le_refl _) _⟩
  case round =>
    obtain ⟨k, hk, rfl, hrow, hsz, hb⟩ := hrel
    by_cases hlt : k < n
    · obtain ⟨ba, oa, rfl, hca⟩ := ha k hlt
      have hca' : wr.cell? ⟨ba, oa + k, none⟩ = some (.int .i64 (X k)) := (hb.cell (p := ⟨ba, oa + k, none⟩) (World.block_lt_of_cell? _ _ hca)).trans hca
      have hc2 := hrow.cell hlt
      have hf2 := hrow.frozen k
      have H1 := Lib.hid hrow
      have H2 := Lib.hid hsz
      clear hrow hsz ha hca
      go_wp2
      go_roundw
      case rel =>
        refine ⟨k + 1, by omega, by go_num, (H1.out.set k _).congr (fun j _ => ?_), ?_, hb.setCell (Nat.le_refl _) _⟩
        · by_cases e : j = k
          · subst e; simp
          · rw [if_neg e]
            by_cases h' : j < k
            · rw [if_pos h', if_pos (by omega)]
            · rw [if_neg h', if_neg (by omega)]
        · rw [← H2.out]; simp [World.setCell]
      case measure => simp [intOf]; omega
    · have H1 := Lib.hid (hrow.congr (fun i hi => by rw [if_pos (show i < k by omega)]))
      have H2 := Lib.hid hsz
      clear hrow hsz ha
      go_wp2
      go_ret
      exact ⟨rfl, H1.out, H2.out, hb⟩
end Go.Proofs.YtabdbgnkiebcdaaDoor

namespace Go.Proofs.YtabdbgnkiebcdaaDoor
set_option linter.unusedVariables false
open Go.RowKit

set_option maxHeartbeats 400000 in
theorem toTab_any (n c : Nat) (a : Option Addr) (A : Nat → Option Addr) (L C : Nat → Nat) (Z : Nat → Nat → Int) (w : World) (hn : n ≤ 1048576) (hL : ∀ r, r < n → L r ≤ 1048576) (ha : Tab w a n A L C Z) :
    Calls Tryd.prog 13 #[.slice a n c] w fun e w' => e = .returned (.slice (some ⟨w.heap.size, 0, none⟩) n n) ∧
      NewTab 32 3 w' w.heap.size n L Z ∧ w'.heap.size = w.heap.size + 1 + n ∧ Below w.heap.size w w' := by
  have hmk := run_make_row' (P := Tryd.prog) 22 32 (.slice none 0 0) 24 Tryd.underlying22 Tryd.infoInts rfl .i64 .i64 n (by omega) (by omega)
  go_enter Tryd.func13, Tryd.ntmps13
  go_wp2
  clear hmk
  go_loopw [4] (fun i wr => ∃ k : Nat, k ≤ n ∧ i = .int .i64 k ∧ wr.rowIs w.heap.size 32 n (fun r => if r < k then .slice (some ⟨w.heap.size + 1 + r, 0, none⟩) (L r) (L r) else .slice none 0 0) ∧
      (∀ r, r < k → wr.rowIs (w.heap.size + 1 + r) 3 (L r) (fun i => .int .i64 (Z r i))) ∧ wr.heap.size = w.heap.size + 1 + k ∧ Below w.heap.size w wr) (fun i _ => n - (intOf i).toNat)
  case atStart => exact ⟨0, Nat.zero_le _, rfl, (World.rowIs_made w _ n 32).congr (fun j _ => by simp), fun r hr => absurd hr (Nat.not_lt_zero _), by simp, (Below.refl _ _).alloc (Nat.le_refl _) _⟩
  case round =>
    obtain ⟨k, hk, rfl, hrow, hdone, hsz, hb⟩ := hrel
    by_cases hlt : k < n
    · obtain ⟨ba, oa, rfl, hca, hra⟩ := ha k hlt
      have hlt1 := World.block_lt_of_cell? _ _ hca
      have hca' : wr.cell? ⟨ba, oa + k, none⟩ = some (.slice (A k) (L k) (C k)) := (hb.cell (p := ⟨ba, oa + k, none⟩) hlt1).trans hca
      have hra' : Rd wr (A k) (L k) (Z k) := hra.below (Nat.le_refl _) hb
      have hLk := hL k hlt
      have H1 := Lib.hid hrow
      have H2 := Lib.hid hsz
      have H3 := Lib.hid hdone
      have H4 := Lib.hid hra'
      clear hrow hsz ha hca hdone hL hra hra'
      go_wp2_with fail
      refine (toInts_any (L k) (C k) (A k) (Z k) _ hLk H4.out).mono ?_
      rintro e w1 ⟨rfl, hr1, hs1, hb1⟩
      have hrow1 := rowIs_below H1.out (by rw [H2.out]; omega) hb1
      have hc2 := hrow1.cell hlt
      have hf2 := hrow1.frozen k
      have H5 := Lib.hid hrow1
      have H6 := Lib.hid hr1
      have H7 := Lib.hid hs1
      have H8 := Lib.hid hb1
      clear hrow1 hr1 hs1 hb1 hca'
      rw [H2.out]
      simp only [Nat.lt_irrefl, if_false] at hc2
      go_wp2
      go_roundw
      case rel =>
        have hr1 := H6.out
        have hs1 := H7.out
        have hb1 := H8.out
        have hsz := H2.out
        rw [hsz] at hr1 hs1 hb1
        refine ⟨k + 1, by omega, by go_num, (H5.out.set k _).congr (fun j _ => ?_), fun r hr => ?_, ?_, (hb.trans (hb1.mono (by omega))).setCell (Nat.le_refl _) _⟩
        · by_cases e : j = k
          · subst e; simp
          · rw [if_neg e]
            by_cases h' : j < k
            · rw [if_pos h', if_pos (by omega)]
            · rw [if_neg h', if_neg (by omega)]
        · refine World.rowIs.setOther ?_ (by show w.heap.size + 1 + r ≠ w.heap.size; omega) _
          by_cases e : r = k
          · subst e; exact hr1
          · exact rowIs_below (H3.out r (by omega)) (by omega) hb1
        · simp [World.setCell]; omega
      case measure => simp [intOf]; omega
    · obtain rfl : k = n := by omega
      have H1 := Lib.hid (hrow.congr (fun i hi => by rw [if_pos (show i < k by omega)]))
      have H2 := Lib.hid hsz
      have H3 := Lib.hid hdone
      clear hrow hsz ha hdone hL
      go_wp2
      go_ret
      exact ⟨rfl, ⟨H1.out, H3.out⟩, H2.out, hb⟩
end Go.Proofs.YtabdbgnkiebcdaaDoor

namespace Go.Proofs.YtabdbgnkiebcdaaDoor
set_option linter.unusedVariables false

section
open Go.RowKit
def SameB (n m : Nat) (X Y : Nat → Int) : Prop := n = m ∧ ∀ k, k < n → X k = Y k
def SameT (n m : Nat) (L K : Nat → Nat) (X Y : Nat → Nat → Int) : Prop := n = m ∧ ∀ r, r < n → SameB (L r) (K r) (X r) (Y r)
end

end Go.Proofs.YtabdbgnkiebcdaaDoor

namespace Go.Proofs.YtabdbgnkiebcdaaDoor
set_option linter.unusedVariables false
open Go.RowKit

set_option maxHeartbeats 400000 in
theorem eqInts_any (n m ca cb : Nat) (a b : Option Addr) (X Y : Nat → Int) (w : World) (hn : n ≤ 9223372036854775807) (hm : m ≤ 9223372036854775807) (ha : Rd w a n X) (hb : Rd w b m Y) :
    Calls Tryd.prog 21 #[.slice a n ca, .slice b m cb] w fun e w' => e = .returned (.bool (tt (SameB n m X Y))) ∧ ∃ q, w' = w.drewN q := by
  by_cases hnm : n = m
  · subst hnm
    go_enter Tryd.func21, Tryd.ntmps21
    go_wp2
    go_loopw [4, 5] (fun r i wr => ∃ k : Nat, k ≤ n ∧ i = .int .i64 k ∧ r = .bool false ∧ (∀ j, j < k → X j = Y j) ∧ ∃ q, wr = w.drewN q) (fun _ i _ => n - (intOf i).toNat)
    case atStart => exact ⟨0, Nat.zero_le _, rfl, rfl, fun j hj => absurd hj (Nat.not_lt_zero _), 0, rfl⟩
    case round =>
      obtain ⟨k, hk, rfl, rfl, hs, q, rfl⟩ := hrel
      by_cases hlt : k < n
      · obtain ⟨ba, oa, rfl, hca⟩ := ha k hlt
        obtain ⟨bb, ob, rfl, hcb⟩ := hb k hlt
        have H1 := Lib.hid hs
        clear hs ha hb
        go_wp2
        go_quiet (fail)
        go_wp2
        · have ht : (X k != Y k) = true := by assumption
          have hf : ¬ SameB n n X Y := fun h => by have := h.2 k hlt; simp [this] at ht
          go_ret
          exact ⟨by rw [tt_no hf]; rfl, q + nq, by rw [World.drewN_drewN]⟩
        · have ht : (X k != Y k) = false := by assumption
          have he : X k = Y k := by simpa using ht
          go_roundw
          case rel =>
            exact ⟨k + 1, by omega, by go_num, rfl, fun j hj => by
              by_cases e : j = k
              · rw [e]; exact he
              · exact H1.out j (by omega), _, rfl⟩
          case measure => simp [intOf]; omega
      · have H1 := Lib.hid hs
        clear hs ha hb
        go_wp2
        go_ret
        exact ⟨by rw [tt_of ⟨rfl, fun j hj => H1.out j (by omega)⟩]; rfl, _, rfl⟩
  · go_enter Tryd.func21, Tryd.ntmps21
    have hne : ((n : Int) != (m : Int)) = true := by simp; omega
    go_wp2
    go_ret
    exact ⟨by rw [tt_no (fun h => hnm h.1)]; rfl, 0, rfl⟩
end Go.Proofs.YtabdbgnkiebcdaaDoor

namespace Go.Proofs.YtabdbgnkiebcdaaDoor
set_option linter.unusedVariables false
open Go.RowKit

set_option maxHeartbeats 400000 in
theorem eqTab_any (n m ca cb : Nat) (a b : Option Addr) (A B : Nat → Option Addr) (L K C D : Nat → Nat) (X Y : Nat → Nat → Int) (w : World) (hn : n ≤ 9223372036854775807) (hm : m ≤ 9223372036854775807)
    (hL : ∀ r, r < n → L r ≤ 9223372036854775807) (hK : ∀ r, r < m → K r ≤ 9223372036854775807) (ha : Tab w a n A L C X) (hb : Tab w b m B K D Y) :
    Calls Tryd.prog 15 #[.slice a n ca, .slice b m cb] w fun e w' => e = .returned (.bool (tt (SameT n m L K X Y))) ∧ ∃ q, w' = w.drewN q := by
  by_cases hnm : n = m
  · subst hnm
    go_enter Tryd.func15, Tryd.ntmps15
    go_wp2
    go_loopw [4, 5] (fun r i wr => ∃ k : Nat, k ≤ n ∧ i = .int .i64 k ∧ r = .bool false ∧ (∀ j, j < k → SameB (L j) (K j) (X j) (Y j)) ∧ ∃ q, wr = w.drewN q) (fun _ i _ => n - (intOf i).toNat)
    case atStart => exact ⟨0, Nat.zero_le _, rfl, rfl, fun j hj => absurd hj (Nat.not_lt_zero _), 0, rfl⟩
    case round =>
      obtain ⟨k, hk, rfl, rfl, hs, q, hq⟩ := hrel
      by_cases hlt : k < n
      · obtain ⟨ba, oa, rfl, hca, hra⟩ := (hq ▸ ha.drewN q : Tab wr a n A L C X) k hlt
        obtain ⟨bb, ob, rfl, hcb, hrb⟩ := (hq ▸ hb.drewN q : Tab wr b n B K D Y) k hlt
        have H0 := Lib.hid (fun W => eqInts_any (L k) (K k) (C k) (D k) (A k) (B k) (X k) (Y k) W (hL k hlt) (hK k hlt))
        have H1 := Lib.hid hs
        have H2 := Lib.hid hra
        have H3 := Lib.hid hrb
        have Hq := Lib.hid hq
        clear hs ha hb hL hK hra hrb hq
        go_wp2
        go_quiet ((go_at_call 21; exact Calls.quiet_of (H0.out _ (H2.out.drewN _) (H3.out.drewN _))))
        go_wp2
        · have ht : (!tt (SameB (L k) (K k) (X k) (Y k))) = true := by assumption
          have hf : ¬ SameT n n L K X Y := fun h => by have := tt_of (h.2 k hlt); simp [this] at ht
          go_ret
          exact ⟨by rw [tt_no hf]; rfl, q + nq, by rw [Hq.out, World.drewN_drewN]⟩
        · have ht : (!tt (SameB (L k) (K k) (X k) (Y k))) = false := by assumption
          have he : SameB (L k) (K k) (X k) (Y k) := tt_iff.1 (by simpa using ht)
          go_roundw
          case rel =>
            exact ⟨k + 1, by omega, by go_num, rfl, fun j hj => by
              by_cases e : j = k
              · rw [e]; exact he
              · exact H1.out j (by omega), q + nq, by rw [Hq.out, World.drewN_drewN]⟩
          case measure => simp [intOf]; omega
      · have H1 := Lib.hid hs
        clear hs ha hb hL hK
        have Hq := Lib.hid hq
        clear hq
        go_wp2
        go_ret
        exact ⟨by rw [tt_of ⟨rfl, fun j hj => H1.out j (by omega)⟩]; rfl, q, Hq.out⟩
  · go_enter Tryd.func15, Tryd.ntmps15
    have hne : ((n : Int) != (m : Int)) = true := by simp; omega
    go_wp2
    go_ret
    exact ⟨by rw [tt_no (fun h => hnm h.1)]; rfl, 0, rfl⟩
end Go.Proofs.YtabdbgnkiebcdaaDoor
