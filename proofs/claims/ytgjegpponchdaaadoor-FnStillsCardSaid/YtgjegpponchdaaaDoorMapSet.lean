/- Maps of the program's whose keys are givings: sets. -/
import Derived.Test.YtgjegpponchdaaaDoorHeld
import Derived.Test.YtgjegpponchdaaaDoorBlockGiv
import Derived.Maps.OwnIn
import Derived.Maps.Views
import Derived.Sort.MapsRangeIn
import Derived.DeepKeys4
namespace Go.Proofs.YtgjegpponchdaaaDoor
set_option linter.unusedVariables false
set_option linter.unusedSimpArgs false
open Go.RowKit
open Go.Maps (Keyed)

theorem Tryd.laidOutH : laidOutB Tryd.prog = true := by kernel_rfl
set_option maxRecDepth 100000 in
theorem Tryd.rowHeld : (60 : TypeId) < Tryd.prog.types.size := of_decide_eq_true (by kernel_rfl)
theorem Tryd.wideHeld : (match Tryd.prog.underlying 60 with | some (.array _ _) | some (.struct _) => true | _ => false) = true := by kernel_rfl
set_option maxRecDepth 100000 in
theorem Tryd.lawHeld : Keyed Tryd.prog 60 := Keyed.of_law (deep_law_laid Tryd.laidOutH (m := 3) (by omega) Tryd.rowHeld (by kernel_rfl) Tryd.wideHeld)
set_option maxRecDepth 100000 in
theorem Tryd.keyTypeHeld : Tryd.prog.keyType 60 = true := by kernel_rfl
theorem Tryd.cellsHeld : Tryd.prog.cellsOf 60 = 6 := by kernel_rfl
theorem Tryd.cellsFive : Tryd.prog.cellsOf 58 = 5 := by kernel_rfl
theorem Tryd.cellsInt1 : Tryd.prog.cellsOf 3 = 1 := by kernel_rfl

theorem lits_int (m : Nat) (x : Int) (h : I64 x) : Tryd.prog.keyLits (m + 1) 3 [.int .i64 x] = some [.int .i64 x] := by
  unfold Program.keyLits
  rw [Tryd.underlying3]
  have hw : (Lit.int .i64 x).wf = true := WalkArith.wf_i64 h
  simp [hw]
theorem lits_five (m : Nat) (x0 x1 x2 x3 x4 : Int) (h0 : I64 x0) (h1 : I64 x1) (h2 : I64 x2) (h3 : I64 x3) (h4 : I64 x4) : Tryd.prog.keyLits (m + 2) 58 [.int .i64 x0, .int .i64 x1, .int .i64 x2, .int .i64 x3, .int .i64 x4] = some [.int .i64 x0, .int .i64 x1, .int .i64 x2, .int .i64 x3, .int .i64 x4] := by
  unfold Program.keyLits
  rw [Tryd.underlying58]
  have e : List.range 5 = [0, 1, 2, 3, 4] := rfl
  simp [Tryd.cellsFive, Tryd.cellsInt1, e, lits_int _ _ h0, lits_int _ _ h1, lits_int _ _ h2, lits_int _ _ h3, lits_int _ _ h4]
theorem key_some (F : Nat → Int) (h : ∀ j, j < 6 → I64 (F j)) : ∃ kl, keyOf Tryd.prog 60 (.agg (cellsV 6 F)) = some kl := by
  have e : cellsV 6 F = #[.int .i64 (F 0), .int .i64 (F 1), .int .i64 (F 2), .int .i64 (F 3), .int .i64 (F 4), .int .i64 (F 5)] := rfl
  have hs : ∃ m, Tryd.prog.types.size = m + 2 := ⟨Tryd.prog.types.size - 2, by have : 2 ≤ Tryd.prog.types.size := of_decide_eq_true (by kernel_rfl); omega⟩
  obtain ⟨m, hm⟩ := hs
  have hf : (Value.agg (cellsV 6 F)).formed Tryd.prog 60 = true := by
    simp [Value.formed, Tryd.underlying60, Tryd.cellsHeld, cellsV_size]
  have hl : Tryd.prog.keyLits (m + 2 + 1) 60 [.int .i64 (F 0), .int .i64 (F 1), .int .i64 (F 2), .int .i64 (F 3), .int .i64 (F 4), .int .i64 (F 5)] = some [.int .i64 (F 0), .int .i64 (F 1), .int .i64 (F 2), .int .i64 (F 3), .int .i64 (F 4), .int .i64 (F 5)] := by
    unfold Program.keyLits
    rw [Tryd.underlying60]
    simp [Tryd.cellsHeld, Tryd.cellsFive, Tryd.cellsInt1, lits_int _ _ (h 0 (by omega)), lits_five m _ _ _ _ _ (h 1 (by omega)) (h 2 (by omega)) (h 3 (by omega)) (h 4 (by omega)) (h 5 (by omega))]
  unfold keyOf
  rw [Tryd.underlying60]
  simp only [Tryd.keyTypeHeld, hf, hm, Bool.and_true, if_true]
  rw [e]
  rw [show (Value.agg #[.int .i64 (F 0), .int .i64 (F 1), .int .i64 (F 2), .int .i64 (F 3), .int .i64 (F 4), .int .i64 (F 5)]).cells.toList = [.int .i64 (F 0), .int .i64 (F 1), .int .i64 (F 2), .int .i64 (F 3), .int .i64 (F 4), .int .i64 (F 5)] from rfl, hl]
  exact ⟨_, rfl⟩

/-- A giving as a key. -/
def HeldK (n : Nat) (G : List Int) : Value := .agg (cellsV 6 (heldF n (nth G)))
theorem heldK_key {n : Nat} {G : List Int} (hn : n ≤ 5) (hG : G ∈ givs n n []) : ∃ kl, keyOf Tryd.prog 60 (HeldK n G) = some kl := by
  refine key_some _ fun j hj => ?_
  have hd := giv_diff hG
  unfold heldF
  by_cases h0 : j = 0
  · rw [if_pos h0]; exact ⟨by omega, by omega⟩
  · rw [if_neg h0]
    by_cases h1 : j - 1 < n
    · rw [if_pos h1]; have := hd.1 (j - 1) h1; exact ⟨by omega, by omega⟩
    · rw [if_neg h1]; exact ⟨by omega, by omega⟩
theorem heldK_inj {n : Nat} {G G' : List Int} (hn : n ≤ 5) (hG : G ∈ givs n n []) (hG' : G' ∈ givs n n []) (e : HeldK n G = HeldK n G') : G = G' := by
  have l1 := ((mem_givs n [] (Diff.nil n) (by simp) _).1 hG).2.1
  have l2 := ((mem_givs n [] (Diff.nil n) (by simp) _).1 hG').2.1
  unfold HeldK at e
  injection e with e
  apply List.ext_getElem (by omega)
  intro j h1 h2
  have hj : j < n := by omega
  have a1 := cellsV_get (n := 6) (heldF n (nth G)) (j := 1 + j) (by omega)
  have a2 := cellsV_get (n := 6) (heldF n (nth G')) (j := 1 + j) (by omega)
  rw [e, a2, heldF_at _ hj, heldF_at _ hj] at a1
  simp only [Option.some.injEq, Value.int.injEq, true_and] at a1
  unfold nth at a1
  rw [List.getD_eq_getElem?_getD, List.getD_eq_getElem?_getD, List.getElem?_eq_getElem h1, List.getElem?_eq_getElem h2] at a1
  exact a1.symm

theorem own_of_block {w w' : World} {b c : Nat} {R : Value → Option (DataW Unit × List MemPlace)} {D : DataW Unit} (h : w.ownsMap Tryd.prog 60 R b c D) (e : w'.heap[b]? = w.heap[b]?) : w'.ownsMap Tryd.prog 60 R b c D := by
  obtain ⟨es, clock, h1, h2⟩ := h
  exact ⟨es, clock, e.trans h1, h2⟩
/-- Block b is a map whose keys are the givings of S. -/
def SetAt (w : World) (b c n : Nat) (S : List Int → Prop) : Prop :=
  ∃ D : DataW Unit, w.ownsMap Tryd.prog 60 (plainElem Tryd.prog 4) b c D ∧ ∀ kl, Maps.has D kl = true ↔ ∃ G, S G ∧ keyOf Tryd.prog 60 (HeldK n G) = some kl
namespace SetAt
variable {w w' : World} {b c n : Nat} {S S' : List Int → Prop}
theorem congr (h : SetAt w b c n S) (e : ∀ G, S G ↔ S' G) : SetAt w b c n S' := by
  obtain ⟨D, h1, h2⟩ := h
  exact ⟨D, h1, fun kl => (h2 kl).trans ⟨fun ⟨G, a, b⟩ => ⟨G, (e G).1 a, b⟩, fun ⟨G, a, b⟩ => ⟨G, (e G).2 a, b⟩⟩⟩
theorem mono {c' : Nat} (h : SetAt w b c n S) (hc : c ≤ c') : SetAt w b c' n S := by
  obtain ⟨D, h1, h2⟩ := h
  exact ⟨D, h1.mono hc, h2⟩
theorem lt (h : SetAt w b c n S) : b < w.heap.size := by obtain ⟨D, h1, _⟩ := h; exact h1.lt
theorem of_block (h : SetAt w b c n S) (e : w'.heap[b]? = w.heap[b]?) : SetAt w' b c n S := by
  obtain ⟨D, ⟨es, clock, h1, h2⟩, h3⟩ := h
  exact ⟨D, ⟨es, clock, e.trans h1, h2⟩, h3⟩
theorem made (w : World) (n : Nat) : SetAt (w.alloc (.map #[] 0)) w.heap.size 0 n (fun _ => False) :=
  ⟨.map [], World.ownsMap_made w _ _ _, fun kl => ⟨fun h => by simp [Maps.has] at h, fun ⟨G, h, _⟩ => h.elim⟩⟩
/-- It is a map, of whatever. -/
theorem map (h : SetAt w b c n S) : ∃ es clock, w.heap[b]? = some (.map es clock) := by obtain ⟨D, ⟨es, clock, h1, _⟩, _⟩ := h; exact ⟨es, clock, h1⟩
theorem put {D : DataW Unit} {G : List Int} {kl : Lit} {d : DataW Unit} (h0 : w.ownsMap Tryd.prog 60 (plainElem Tryd.prog 4) b c D) (h : ∀ kl, Maps.has D kl = true ↔ ∃ G, S G ∧ keyOf Tryd.prog 60 (HeldK n G) = some kl) (hk : keyOf Tryd.prog 60 (HeldK n G) = some kl)
    (h' : w'.ownsMap Tryd.prog 60 (plainElem Tryd.prog 4) b (c + 1) (D.put kl d)) : SetAt w' b (c + 1) n (fun X => S X ∨ X = G) := by
  refine ⟨_, h', fun k' => ?_⟩
  by_cases e : k' = kl
  · subst e
    rw [Maps.has_put_same h0.isMap (Tryd.lawHeld.key hk)]
    exact ⟨fun _ => ⟨G, .inr rfl, hk⟩, fun _ => rfl⟩
  · rw [Maps.has_put_other e, h k']
    constructor
    · rintro ⟨X, h1, h2⟩; exact ⟨X, .inl h1, h2⟩
    · rintro ⟨X, (h1 | rfl), h2⟩
      · exact ⟨X, h1, h2⟩
      · rw [hk] at h2; exact absurd (Option.some.inj h2).symm e
theorem cleared (h : w.heap[b]? = some (.map #[] c)) (n : Nat) : SetAt w b 0 n (fun _ => False) := by
  refine ⟨.map [], ⟨#[], c, h, ⟨by simp, ⟨fun _ h => by simp at h, by simp, by simp⟩, fun _ h => by simp at h⟩, Nat.le_refl _, rfl⟩, fun kl => ⟨fun h => by simp [Maps.has] at h, fun ⟨G, h, _⟩ => h.elim⟩⟩
/-- How many keys there are: none just if there is none. -/
theorem size {D : DataW Unit} (h0 : w.ownsMap Tryd.prog 60 (plainElem Tryd.prog 4) b c D) (h : ∀ kl, Maps.has D kl = true ↔ ∃ G, S G ∧ keyOf Tryd.prog 60 (HeldK n G) = some kl) (hn : n ≤ 5) (hS : ∀ G, S G → G ∈ givs n n []) : Maps.size D = 0 ↔ ∀ G, ¬ S G := by
  obtain ⟨es, rfl, hp, hk⟩ := h0.entries Tryd.lawHeld
  constructor
  · intro e G hG
    obtain ⟨kl, hkl⟩ := heldK_key hn (hS G hG)
    have h1 := (h kl).2 ⟨G, hG, hkl⟩
    have : es = [] := List.length_eq_zero_iff.1 e
    subst this
    simp [Maps.has] at h1
  · intro e
    show es.length = 0
    cases es with
    | nil => rfl
    | cons p es =>
      have h1 : Maps.has (.map (p :: es)) p.1 = true := by
        show (p :: es).any (fun q => q.1.sameKey p.1) = true
        simp [WideAt.sameKey_self (hk p (by simp))]
      obtain ⟨G, hG, _⟩ := (h p.1).1 h1
      exact absurd hG (e G)
end SetAt
theorem ranges_of_blocks {w w' : World} {b r c : Nat} {D : DataW Unit} {left : Lit → Bool} {cnt : Nat} {R : Value → Option (DataW Unit × List MemPlace)} (h : w.ranges Tryd.prog 60 R b r c D left cnt) (e1 : w'.heap[b]? = w.heap[b]?) (e2 : w'.heap[r]? = w.heap[r]?) : w'.ranges Tryd.prog 60 R b r c D left cnt := by
  obtain ⟨es, clock, since, seen, c0, h1, h2, h3, h4, h5, h6⟩ := h
  exact ⟨es, clock, since, seen, c0, e1.trans h1, h2, h3, h4, e2.trans h5, h6⟩
theorem ranges_iter {w : World} {b r c : Nat} {D : DataW Unit} {left : Lit → Bool} {cnt : Nat} {R : Value → Option (DataW Unit × List MemPlace)} (h : w.ranges Tryd.prog 60 R b r c D left cnt) : ∃ s1 s2 s3, w.heap[r]? = some (.mapIter (some b) s1 s2 s3) := by
  obtain ⟨es, clock, since, seen, c0, h1, h2, h3, h4, h5, h6⟩ := h
  exact ⟨_, _, _, h5⟩
set_option maxRecDepth 100000 in
theorem ranges_left {w : World} {b r c : Nat} {D : DataW Unit} {left : Lit → Bool} {cnt : Nat} {R : Value → Option (DataW Unit × List MemPlace)} (h : w.ranges Tryd.prog 60 R b r c D left cnt) {kl : Lit} (hl : left kl = true) : Maps.has D kl = true := by
  obtain ⟨es, clock, since, seen, c0, h1, h2, h3, h4, h5, h6, h7, h8, h9, h10⟩ := h
  obtain ⟨x, hx, e⟩ := h9 kl hl
  subst h4
  show ((es.toList.map (WideElems.rg Tryd.prog 60 R)).foldr DataW.insert []).any (fun p => p.1.sameKey kl) = true
  rw [List.any_eq_true]
  refine ⟨WideElems.rg Tryd.prog 60 R x, mem_sorted.2 (List.mem_map.2 ⟨x, hx, rfl⟩), ?_⟩
  rw [e]
  refine WideAt.sameKey_self ?_
  rw [← e]
  exact (fun h : WideAt.IsKeyLit (WideElems.rg Tryd.prog 60 R x).1 => h) (by
    obtain ⟨v, hv⟩ := Maps.fit_keys h2 _ (List.mem_map.2 ⟨x, hx, rfl⟩)
    exact Tryd.lawHeld.key hv)
theorem run_clear {w : World} {b : Nat} {es : Array MapEntry} {clock : Nat} (hb : w.heap[b]? = some (.map es clock)) (ty : TypeId) : (Builtin.clear_ #[63] ty #[.map (some b)]).run Tryd.prog w = .ok (.tuple #[]) (Go.ChangeMaps.setBlock w b (.map #[] clock)) := by
  simp [Builtin.clear_, run_underlying Tryd.underlying63, Go.MapKept.run_getObj_map hb, Go.MapKept.run_setObj_map _ hb, Result.andThen]
  rfl
end Go.Proofs.YtgjegpponchdaaaDoor
