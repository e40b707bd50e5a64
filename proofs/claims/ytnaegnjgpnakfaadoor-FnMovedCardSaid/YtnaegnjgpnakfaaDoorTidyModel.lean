/- Circles of givings, their texts, how often they lead back: in plain mathematics, tried over all givings of at most five people. -/
import Derived.Test.YtnaegnjgpnakfaaDoorTermModel
import Derived.Test.YtnaegnjgpnakfaaDoorGivsModel
import Derived.Test.YtnaegnjgpnakfaaDoorWantModel
namespace Go.Proofs.YtnaegnjgpnakfaaDoor
set_option linter.unusedVariables false
set_option linter.unusedSimpArgs false
open Go.RowKit

/-- Who has the house that a person gets. -/
def gD (D : List Int) (i : Nat) : Nat := (nth D i).toNat
/-- From a person on to those not seen: who comes, and who is seen then. -/
def walkF (G : Nat → Nat) : Nat → Nat → Nat → List Nat × Nat
  | 0, S, _ => ([], S)
  | f + 1, S, x => if S.testBit x then ([], S) else (x :: (walkF G f (S ||| 2 ^ x) (G x)).1, (walkF G f (S ||| 2 ^ x) (G x)).2)
/-- That comes to its end in so many steps. -/
def stopF (G : Nat → Nat) : Nat → Nat → Nat → Bool
  | 0, S, x => S.testBit x
  | f + 1, S, x => S.testBit x || stopF G f (S ||| 2 ^ x) (G x)
/-- The circles of the first k people, as the model makes them, and who is seen. -/
def outS (G : Nat → Nat) (n : Nat) : Nat → List (List Nat) × Nat
  | 0 => ([], 0)
  | k + 1 => if (outS G n k).2.testBit k || G k == k then outS G n k else ((outS G n k).1 ++ [(walkF G n (outS G n k).2 k).1], (walkF G n (outS G n k).2 k).2)
/-- .. as the program makes them. -/
def outP (G : Nat → Nat) (n : Nat) : Nat → List (List Nat) × Nat
  | 0 => ([], 0)
  | k + 1 => (if 1 < (walkF G n (outP G n k).2 k).1.length then (outP G n k).1 ++ [(walkF G n (outP G n k).2 k).1] else (outP G n k).1, (walkF G n (outP G n k).2 k).2)
def cycS (n : Nat) (D : List Int) : List (List Nat) := (outS (gD D) n n).1
def cycP (n : Nat) (D : List Int) : List (List Nat) := (outP (gD D) n n).1
def moveN (n : Nat) (D : List Int) : Nat := ((List.range n).filter fun i => gD D i != i).length
/-- So often one behind the other. -/
def iterD (n : Nat) (D : List Int) : Nat → Nat → Nat
  | 0, i => i
  | k + 1, i => gD D (iterD n D k i)
def isIdD (n : Nat) (D : List Int) (k : Nat) : Bool := (List.range n).all fun i => iterD n D k i == i
/-- How often a giving leads back first, if within six times. -/
def ordD (n : Nat) (D : List Int) : Nat := ((List.range 7).find? fun k => 1 ≤ k && isIdD n D k).getD 0
def sumLen : List (List Nat) → Nat
  | [] => 0
  | c :: l => c.length + sumLen l
/-- What is true of each giving of so many people. -/
def chkD (n : Nat) (D : List Int) : Bool :=
  ((List.range n).all fun k => stopF (gD D) n (outS (gD D) n k).2 k && stopF (gD D) n (outP (gD D) n k).2 k && gD D k < n) &&
  cycS n D == cycP n D &&
  (cycS n D).length ≤ 2 && ((cycS n D).all fun c => 2 ≤ c.length && c.length ≤ 5 && c.all (· < n)) &&
  sumLen (cycS n D) == moveN n D && (1 ≤ ordD n D && ordD n D ≤ 6 && isIdD n D (ordD n D)) && ((cycS n D).length == 0) == (moveN n D == 0) && 2 * (cycS n D).length ≤ moveN n D && moveN n D ≤ n
theorem chk2 : (givs 2 2 []).all (chkD 2) = true := by decide +kernel
theorem chk3 : (givs 3 3 []).all (chkD 3) = true := by decide +kernel
theorem chk4 : (givs 4 4 []).all (chkD 4) = true := by decide +kernel
theorem chk5 : (givs 5 5 []).all (chkD 5) = true := by decide +kernel
/-- A giving as a list. -/
def givD (n : Nat) (G : Nat → Int) : List Int := (List.range n).map G
theorem givD_nth {n : Nat} {G : Nat → Int} {i : Nat} (h : i < n) : nth (givD n G) i = G i := nth_map h
theorem givD_mem {n : Nat} {G : Nat → Int} (h : IsDiff n n G) : givD n G ∈ givs n n [] := by
  refine (mem_givs n [] (Diff.nil n) (by simp) _).2 ⟨?_, by simp [givD], List.nil_prefix⟩
  have hl : (givD n G).length = n := by simp [givD]
  unfold Diff
  rw [hl]
  exact (isDiff_congr (fun j hj => (givD_nth hj).symm)).1 h
theorem chk_all {n : Nat} {G : Nat → Int} (h2 : 2 ≤ n) (h5 : n ≤ 5) (h : IsDiff n n G) : chkD n (givD n G) = true := by
  have hm := givD_mem h
  rcases (by omega : n = 2 ∨ n = 3 ∨ n = 4 ∨ n = 5) with rfl | rfl | rfl | rfl
  · exact List.all_eq_true.1 chk2 _ hm
  · exact List.all_eq_true.1 chk3 _ hm
  · exact List.all_eq_true.1 chk4 _ hm
  · exact List.all_eq_true.1 chk5 _ hm
/-- What was tried, one by one. -/
structure ChkD (n : Nat) (D : List Int) : Prop where
  stopS : ∀ k, k < n → stopF (gD D) n (outS (gD D) n k).2 k = true
  stopP : ∀ k, k < n → stopF (gD D) n (outP (gD D) n k).2 k = true
  lt : ∀ k, k < n → gD D k < n
  same : cycS n D = cycP n D
  two : (cycS n D).length ≤ 2
  lens : ∀ c ∈ cycS n D, 2 ≤ c.length ∧ c.length ≤ 5 ∧ ∀ x ∈ c, x < n
  sum : sumLen (cycS n D) = moveN n D
  ord1 : 1 ≤ ordD n D ∧ ordD n D ≤ 6
  ordI : isIdD n D (ordD n D) = true
  none : (cycS n D).length = 0 ↔ moveN n D = 0
  twice : 2 * (cycS n D).length ≤ moveN n D ∧ moveN n D ≤ n
theorem chk_facts {n : Nat} {D : List Int} (h : chkD n D = true) : ChkD n D := by
  unfold chkD at h
  simp only [Bool.and_eq_true, decide_eq_true_eq, List.all_eq_true, List.mem_range, beq_iff_eq] at h
  obtain ⟨⟨⟨⟨⟨⟨⟨⟨h1, h2⟩, h3⟩, h4⟩, h5⟩, h6⟩, h7⟩, h8⟩, h9⟩ := h
  refine ⟨fun k hk => (h1 k hk).1.1, fun k hk => (h1 k hk).1.2, fun k hk => (h1 k hk).2, h2, h3, fun c hc => ⟨(h4 c hc).1.1, (h4 c hc).1.2, (h4 c hc).2⟩, h5, ⟨h6.1.1, h6.1.2⟩, h6.2, ?_, h8, h9⟩
  constructor
  · intro e
    have e1 : ((cycS n D).length == 0) = true := by simpa using e
    rw [e1] at h7
    simpa using h7.symm
  · intro e
    have e1 : (moveN n D == 0) = true := by simpa using e
    rw [e1] at h7
    simpa using h7
theorem ord_least {n : Nat} {D : List Int} {k : Nat} (h1 : 1 ≤ k) (h2 : k < ordD n D) (h6 : ordD n D ≤ 6) : isIdD n D k = false := by
  unfold ordD at h2 h6
  cases hf : (List.range 7).find? (fun k => 1 ≤ k && isIdD n D k) with
  | none => rw [hf] at h2; simp at h2
  | some m =>
    rw [hf] at h2 h6
    simp only [Option.getD_some] at h2 h6
    obtain ⟨_, as, bs, hab, has⟩ := List.find?_eq_some_iff_append.1 hf
    have hlen : as.length = m := by
      have h3 : (List.range 7)[as.length]? = some m := by rw [hab]; simp
      rw [List.getElem?_range (by
        have : (List.range 7).length = 7 := by simp
        rw [hab] at this
        simp at this
        omega)] at h3
      simpa using h3
    have hk : k ∈ as := by
      have h3 : (List.range 7)[k]? = some k := List.getElem?_range (by omega)
      rw [hab, List.getElem?_append_left (by omega)] at h3
      exact List.mem_of_getElem? h3
    have h4 := has k hk
    simp only [Bool.not_eq_true', Bool.and_eq_false_iff, decide_eq_false_iff_not] at h4
    rcases h4 with h4 | h4
    · exact absurd h1 h4
    · exact h4
end Go.Proofs.YtnaegnjgpnakfaaDoor
