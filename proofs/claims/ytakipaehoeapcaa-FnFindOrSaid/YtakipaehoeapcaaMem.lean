/- Words for slices of integers in memory that is only read: a row of integers, a table of such rows. -/
/- What a table of rates is, in plain mathematics. -/
import Derived.WalkKit
import Derived.WalkSpells
import Derived.WalkLawsBesides
import Derived.BigQuiet
import Derived.BigGuardPart
import Derived.Deep.QuietTactic
import Derived.Deep.LoopGhost
import Derived.Lib.Hide
import Derived.Deep.DeepFit
import Derived.Deep.DeepMust
import Derived.Deep.OwnRows
namespace Go.Proofs.Ytakipaehoeapcaa
set_option linter.unusedVariables false

section
open Go.RowKit
/-- A number of 64 bits. -/
def I64 (x : Int) : Prop := -9223372036854775808 ≤ x ∧ x ≤ 9223372036854775807

/-- The slice at 'a' of n integers reads as X 0, X 1, .. -/
def Rd (w : World) (a : Option Addr) (n : Nat) (X : Nat → Int) : Prop :=
  ∀ k, k < n → ∃ b o, a = some ⟨b, o, none⟩ ∧ w.cell? ⟨b, o + k, none⟩ = some (.int .i64 (X k))

theorem Rd.lt {w : World} {a : Option Addr} {n : Nat} {X : Nat → Int} (h : Rd w a n X) {k : Nat} (hk : k < n) :
    ∃ b o, a = some ⟨b, o, none⟩ ∧ b < w.heap.size ∧ w.cell? ⟨b, o + k, none⟩ = some (.int .i64 (X k)) := by
  obtain ⟨b, o, ha, hc⟩ := h k hk
  exact ⟨b, o, ha, World.block_lt_of_cell? _ _ hc, hc⟩

theorem Rd.below {w w' : World} {B : Nat} {a : Option Addr} {n : Nat} {X : Nat → Int} (h : Rd w a n X) (hB : w.heap.size ≤ B) (hb : Below B w w') : Rd w' a n X := by
  intro k hk
  obtain ⟨b, o, ha, hlt, hc⟩ := h.lt hk
  exact ⟨b, o, ha, (hb.cell (p := ⟨b, o + k, none⟩) (Nat.lt_of_lt_of_le hlt hB)).trans hc⟩

theorem Rd.drewN {w : World} {a : Option Addr} {n : Nat} {X : Nat → Int} (h : Rd w a n X) (q : Nat) : Rd (w.drewN q) a n X := by
  intro k hk
  obtain ⟨b, o, ha, hc⟩ := h k hk
  exact ⟨b, o, ha, by simpa using hc⟩

/-- The table at 'a' of n rows, row r of L r integers, reads as Z r 0, Z r 1, .. -/
def Tab (w : World) (a : Option Addr) (n : Nat) (A : Nat → Option Addr) (L C : Nat → Nat) (Z : Nat → Nat → Int) : Prop :=
  ∀ r, r < n → ∃ b o, a = some ⟨b, o, none⟩ ∧ w.cell? ⟨b, o + r, none⟩ = some (.slice (A r) (L r) (C r)) ∧ Rd w (A r) (L r) (Z r)

theorem Tab.below {w w' : World} {B : Nat} {a : Option Addr} {n : Nat} {A : Nat → Option Addr} {L C : Nat → Nat} {Z : Nat → Nat → Int} (h : Tab w a n A L C Z) (hB : w.heap.size ≤ B) (hb : Below B w w') : Tab w' a n A L C Z := by
  intro r hr
  obtain ⟨b, o, ha, hc, hd⟩ := h r hr
  exact ⟨b, o, ha, (hb.cell (p := ⟨b, o + r, none⟩) (Nat.lt_of_lt_of_le (World.block_lt_of_cell? _ _ hc) hB)).trans hc, hd.below hB hb⟩

theorem Tab.drewN {w : World} {a : Option Addr} {n : Nat} {A : Nat → Option Addr} {L C : Nat → Nat} {Z : Nat → Nat → Int} (h : Tab w a n A L C Z) (q : Nat) : Tab (w.drewN q) a n A L C Z := by
  intro r hr
  obtain ⟨b, o, ha, hc, hd⟩ := h r hr
  exact ⟨b, o, ha, by simpa using hc, hd.drewN q⟩

theorem below_chain {a b c : World} (h1 : Below a.heap.size a b) (h2 : Below b.heap.size b c) : Below a.heap.size a c := h1.trans (h2.mono h1.size)

/-- A new row is read. -/
theorem Rd.of_row {w : World} {b t n : Nat} {X : Nat → Int} (h : w.rowIs b t n (fun i => .int .i64 (X i))) : Rd w (some ⟨b, 0, none⟩) n X :=
  fun k hk => ⟨b, 0, rfl, by rw [Nat.zero_add]; exact h.cell hk⟩

/-- A new table: its top row at block B, a block a row behind it. -/
structure NewTab (tS tI : Nat) (w : World) (B n : Nat) (L : Nat → Nat) (Z : Nat → Nat → Int) : Prop where
  top : w.rowIs B tS n (fun r => .slice (some ⟨B + 1 + r, 0, none⟩) (L r) (L r))
  rows : ∀ r, r < n → w.rowIs (B + 1 + r) tI (L r) (fun i => .int .i64 (Z r i))

theorem NewTab.tab {tS tI : Nat} {w : World} {B n : Nat} {L : Nat → Nat} {Z : Nat → Nat → Int} (h : NewTab tS tI w B n L Z) : Tab w (some ⟨B, 0, none⟩) n (fun r => some ⟨B + 1 + r, 0, none⟩) L L Z :=
  fun r hr => ⟨B, 0, rfl, by rw [Nat.zero_add]; exact h.top.cell hr, Rd.of_row (h.rows r hr)⟩

theorem rowIs_below {w w' : World} {B b t n : Nat} {f : Nat → Value} (h : w.rowIs b t n f) (hB : b < B) (hb : Below B w w') : w'.rowIs b t n f := h.of_block (hb.block b hB)

theorem NewTab.below {tS tI : Nat} {w w' : World} {B n X : Nat} {L : Nat → Nat} {Z : Nat → Nat → Int} (h : NewTab tS tI w B n L Z) (hX : B + n < X) (hb : Below X w w') : NewTab tS tI w' B n L Z :=
  ⟨rowIs_below h.top (by omega) hb, fun r hr => rowIs_below (h.rows r hr) (by omega) hb⟩

/-- How many integers lie in the first k rows. -/
def tot (L : Nat → Nat) : Nat → Nat
  | 0 => 0
  | k + 1 => tot L k + L k
theorem tot_mono {L : Nat → Nat} {i j : Nat} (h : i ≤ j) : tot L i ≤ tot L j := by
  induction j with
  | zero => have : i = 0 := by omega
            subst this; exact Nat.le_refl _
  | succ j ih =>
    by_cases e : i = j + 1
    · subst e; exact Nat.le_refl _
    · exact Nat.le_trans (ih (by omega)) (Nat.le_add_right _ _)
theorem le_tot {L : Nat → Nat} {i n : Nat} (h : i < n) : L i ≤ tot L n := Nat.le_trans (Nat.le_add_left _ _) (tot_mono (L := L) (i := i + 1) (j := n) h)

/-- A condition as a bool, closed to the walk. -/
noncomputable def tt (p : Prop) : Bool := @decide p (Classical.propDecidable p)
theorem tt_iff {p : Prop} : tt p = true ↔ p := by unfold tt; exact @decide_eq_true_iff p (Classical.propDecidable p)
theorem tt_of {p : Prop} (h : p) : tt p = true := tt_iff.2 h
theorem tt_no {p : Prop} (h : ¬ p) : tt p = false := by rw [← Bool.not_eq_true, tt_iff]; exact h
theorem tt_eq {p : Prop} {b : Bool} (h : b = true ↔ p) : b = tt p := by
  cases b
  · exact (tt_no (fun hp => by simpa using h.2 hp)).symm
  · exact (tt_of (h.1 rfl)).symm
theorem tt_congr {p q : Prop} (h : p ↔ q) : tt p = tt q := tt_eq (tt_iff.trans h)

/-- A number of a range. -/
def InR (x lo hi : Int) : Prop := lo ≤ x ∧ x ≤ hi

/-- What is left of a budget behind t places: -1 if there are not so many. -/
def szF (left : Int) (t : Nat) : Int := if (t : Int) ≤ left then left - t else -1

theorem ret_bool {a b : Bool} (h : a = b) : Ending.returned (.bool a) = .returned (.bool b) := by rw [h]
theorem ret_int {k : IntKind} {a b : Int} (h : a = b) : Ending.returned (.int k a) = .returned (.int k b) := by rw [h]
end

section
open Go.RowKit
def IsRates (n : Nat) (L : Nat → Nat) (Z : Nat → Nat → Int) : Prop :=
  (2 ≤ n ∧ n ≤ 5) ∧ ∀ i, i < n → L i = n ∧ ∀ k, k < n → (1 ≤ Z i k ∧ Z i k ≤ 144) ∧ (i = k → Z i k = 12)
end

end Go.Proofs.Ytakipaehoeapcaa
