/- Arguments of a law, opened: a table of integers, a row of integers; their words for the walk. -/
import Derived.Test.YtabdbgnkiebcdaaDoorPartR1
import Derived.ProofKit
import Derived.OpenShut
import Derived.Deep.Matrix
import Derived.Carry
namespace Go.Proofs.YtabdbgnkiebcdaaDoor
set_option linter.unusedVariables false
open Go.ChangeShapes Go.WideShapes Go.ChangeAt Go.RowKit Go.Deep

theorem i64_of_wf {x : Int} (h : (Lit.int .i64 x).wf = true) : I64 x := by
  simpa [Lit.wf, IntKind.min, IntKind.max, IntKind.signed, IntKind.bits, I64] using h

theorem addr_plain {w : World} {a : Addr} {v : Value} {k : Nat} (h0 : ∃ u, w.cell? (a.add 0) = some u) (h : w.cell? (a.add k) = some v) : ∃ b o, a = ⟨b, o, none⟩ ∧ w.cell? ⟨b, o + k, none⟩ = some v := by
  obtain ⟨b, o, spot⟩ := a
  obtain ⟨u, hu⟩ := h0
  have hspot : spot = none := by simpa [Addr.add] using World.cell?_spot hu
  subst hspot
  exact ⟨b, o, rfl, by rw [← Go.WideShapes.add_plain]; exact h⟩

section
variable {H : Type} {enc : TypeId × Value → H} {P : Program} {w : World} {base : Nat}

/-- A slice of slices of integers. -/
theorem open_tab {t e q : TypeId} {v : Value} {d : DataW H} {ps : List MemPlace} (ht : P.underlying t = some (.slice e)) (he : P.underlying e = some (.slice q)) (hq : P.underlying q = some (.int .i64))
    (ce : P.cellsOf e = 1) (cq : P.cellsOf q = 1) (ok : Value.okWide P w .any base t v) (h : DataW.Trod enc P w 0 (fun _ => true) true t v d ps) :
    ∃ (a : Option Addr) (n c : Nat) (A : Nat → Option Addr) (L C : Nat → Nat) (Z : Nat → Nat → Int), v = .slice a n c ∧ n ≤ 9223372036854775807 ∧ (∀ r, r < n → L r ≤ 9223372036854775807) ∧ Tab w a n A L C Z ∧ (∀ r, r < n → ∀ k, k < L r → I64 (Z r k)) := by
  obtain ⟨a0, len, cap, rfl⟩ := okWide_slice ht ok
  obtain ⟨fuel, hf⟩ := h
  rcases open_int_rows ht he hq ce cq hf with ⟨hcs0, _⟩ | ⟨a, len', cap', A, L, C, Z, hcs0, _, hl, hm, _, hrows⟩
  · simp [Value.cells] at hcs0
    obtain ⟨rfl, rfl, rfl⟩ := hcs0
    exact ⟨none, 0, 0, fun _ => none, fun _ => 0, fun _ => 0, fun _ _ => 0, rfl, by omega, fun r hr => absurd hr (Nat.not_lt_zero _), fun r hr => absurd hr (Nat.not_lt_zero _), fun r hr => absurd hr (Nat.not_lt_zero _)⟩
  · simp [Value.cells] at hcs0
    obtain ⟨rfl, rfl, rfl⟩ := hcs0
    unfold maxLen at hm
    refine ⟨some a, len, cap, A, L, C, fun r k => (Z r).getD k 0, rfl, by omega, fun r hr => ?_, fun r hr => ?_, fun r hr k hk => ?_⟩
    · obtain ⟨_, h1, h2, _⟩ := hrows r (by omega)
      unfold maxLen at h2
      omega
    · obtain ⟨hc, h1, h2, h3, _, h5, h6⟩ := hrows r (by omega)
      obtain ⟨b, o, rfl, hc'⟩ := addr_plain ⟨_, (hrows 0 (by omega)).1⟩ hc
      refine ⟨b, o, rfl, hc', fun k hk => ?_⟩
      cases hA : A r with
      | none => have := h5 hA; omega
      | some a' =>
        obtain ⟨_, h7⟩ := h6 a' hA
        obtain ⟨b', o', rfl, hc''⟩ := addr_plain ⟨_, h7 0 (by omega)⟩ (h7 k (by omega))
        exact ⟨b', o', rfl, hc''⟩
    · obtain ⟨_, h1, _, h3, h4, _⟩ := hrows r (by omega)
      refine i64_of_wf (h4 _ ?_)
      show (Z r).getD k 0 ∈ Z r
      rw [List.getD_eq_getElem?_getD, List.getElem?_eq_getElem (by omega)]
      exact List.getElem_mem _

/-- A slice of integers. -/
theorem open_row {t e : TypeId} {v : Value} {d : DataW H} {ps : List MemPlace} (ht : P.underlying t = some (.slice e)) (he : P.underlying e = some (.int .i64)) (ce : P.cellsOf e = 1)
    (ok : Value.okWide P w .any base t v) (h : DataW.Trod enc P w 0 (fun _ => true) true t v d ps) :
    ∃ (a : Option Addr) (n c : Nat) (X : Nat → Int), v = .slice a n c ∧ n ≤ 9223372036854775807 ∧ Rd w a n X ∧ (∀ k, k < n → I64 (X k)) := by
  obtain ⟨a0, len, cap, rfl⟩ := okWide_slice ht ok
  obtain ⟨fuel, hf⟩ := h
  rcases open_ints ht he ce hf with ⟨hcs, _⟩ | ⟨a, len', cap', zs, hcs, _, hl, hm, hz, _, hcell, hwz⟩
  · simp [Value.cells] at hcs
    obtain ⟨rfl, rfl, rfl⟩ := hcs
    exact ⟨none, 0, 0, fun _ => 0, rfl, by omega, fun k hk => absurd hk (Nat.not_lt_zero _), fun k hk => absurd hk (Nat.not_lt_zero _)⟩
  · simp [Value.cells] at hcs
    obtain ⟨rfl, rfl, rfl⟩ := hcs
    unfold maxLen at hm
    simp only [if_true] at hz
    refine ⟨some a, len, cap, fun k => zs.getD k 0, rfl, by omega, fun k hk => ?_, fun k hk => ?_⟩
    · obtain ⟨b', o', rfl, hc''⟩ := addr_plain ⟨_, hcell 0 (by omega)⟩ (hcell k (by omega))
      exact ⟨b', o', rfl, hc''⟩
    · refine i64_of_wf (hwz _ ?_)
      show zs.getD k 0 ∈ zs
      rw [List.getD_eq_getElem?_getD, List.getElem?_eq_getElem (by omega)]
      exact List.getElem_mem _

/-- A number. -/
theorem open_num {t : TypeId} {v : Value} {d : DataW H} {ps : List MemPlace} (ht : P.underlying t = some (.int .i64)) (ok : Value.okWide P w .any base t v) (h : DataW.Trod enc P w 0 (fun _ => true) true t v d ps) :
    ∃ x : Int, v = .int .i64 x ∧ I64 x := by
  obtain ⟨x, rfl, _, _, wx⟩ := open_int ht ok h
  exact ⟨x, rfl, i64_of_wf wx⟩
end
end Go.Proofs.YtabdbgnkiebcdaaDoor
