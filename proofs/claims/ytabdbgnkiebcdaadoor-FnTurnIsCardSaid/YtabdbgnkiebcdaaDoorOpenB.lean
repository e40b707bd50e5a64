/- A law's bytes, opened. -/
import Derived.Test.YtabdbgnkiebcdaaDoorOpen
import Derived.Test.YtabdbgnkiebcdaaDoorPartR2
namespace Go.Proofs.YtabdbgnkiebcdaaDoor
set_option linter.unusedVariables false
open Go.ChangeShapes Go.WideShapes Go.ChangeAt Go.RowKit Go.Deep

theorem u8_of_wf {x : Int} (h : (Lit.int .u8 x).wf = true) : 0 ≤ x ∧ x < 256 := by
  have : 0 ≤ x ∧ x ≤ 255 := by simpa [Lit.wf, IntKind.min, IntKind.max, IntKind.signed, IntKind.bits] using h
  omega

/-- A slice of bytes. -/
theorem open_bytes {H : Type} {enc : TypeId × Value → H} {P : Program} {w : World} {base : Nat} {t e : TypeId} {v : Value} {d : DataW H} {ps : List MemPlace} (ht : P.underlying t = some (.slice e)) (he : P.underlying e = some (.int .u8)) (ce : P.cellsOf e = 1)
    (ok : Value.okWide P w .any base t v) (h : DataW.Trod enc P w 0 (fun _ => true) true t v d ps) :
    ∃ (a : Option Addr) (n c : Nat) (X : Nat → Nat), v = .slice a n c ∧ n ≤ c ∧ RdB w a n X ∧ (0 < n → ∀ b o, a = some ⟨b, o, none⟩ → b < w.heap.size) := by
  obtain ⟨a0, len, cap, rfl⟩ := okWide_slice ht ok
  obtain ⟨fuel, hf⟩ := h
  rcases open_ints ht he ce hf with ⟨hcs, _⟩ | ⟨a, len', cap', zs, hcs, _, hl, hm, hz, _, hcell, hwz⟩
  · simp [Value.cells] at hcs
    obtain ⟨rfl, rfl, rfl⟩ := hcs
    exact ⟨none, 0, 0, fun _ => 0, rfl, by omega, fun k hk => absurd hk (Nat.not_lt_zero _), fun h => absurd h (Nat.lt_irrefl _)⟩
  · simp [Value.cells] at hcs
    obtain ⟨rfl, rfl, rfl⟩ := hcs
    unfold maxLen at hm
    simp only [if_true] at hz
    have hrd : RdB w (some a) len (fun k => (zs.getD k 0).toNat) := fun k hk => by
      have hw := u8_of_wf (hwz (zs.getD k 0) (by rw [List.getD_eq_getElem?_getD, List.getElem?_eq_getElem (by omega)]; exact List.getElem_mem _))
      obtain ⟨b', o', rfl, hc''⟩ := addr_plain ⟨_, hcell 0 (by omega)⟩ (hcell k (by omega))
      refine ⟨by show (zs.getD k 0).toNat < 256; omega, b', o', rfl, ?_⟩
      show w.cell? _ = some (.int .u8 (((zs.getD k 0).toNat : Nat) : Int))
      rw [Int.toNat_of_nonneg hw.1]
      exact hc''
    refine ⟨some a, len, cap, fun k => (zs.getD k 0).toNat, rfl, by omega, hrd, fun h0 b o e => ?_⟩
    obtain ⟨_, b', o', e', hc⟩ := hrd 0 h0
    rw [e'] at e
    cases e
    exact World.block_lt_of_cell? _ _ hc
end Go.Proofs.YtabdbgnkiebcdaaDoor
