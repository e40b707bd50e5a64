/- errors.As at the program's own error: it is found. -/
import Derived.Test.YtnaegnjgpnakfaaDoorTermAs
namespace Go.Proofs.YtnaegnjgpnakfaaDoor
set_option linter.unusedVariables false
set_option linter.unusedSimpArgs false
open Go.RowKit Go.Extern.Stop Go.Stop Go.Extern

/-- The library's variable holds the handle of the type error. -/
def ErrAt (w : World) : Prop := w.cell? ⟨0, 0, none⟩ = some (.iface 122 (.agg #[.pointer (some ⟨1, 70, none⟩)]))
theorem ErrAt.below {w w' : World} (h : ErrAt w) (hb : Below w.heap.size w w') : ErrAt w' := (World.cell?_of_block (w := w) (hb.block _ (World.block_lt_of_cell? _ _ h))).trans h

set_option maxRecDepth 100000 in
set_option maxHeartbeats 4000000 in
theorem asHit (t : Nat) (q : Int) (old : Value) (w : World) (hg : ErrAt w) (ht0 : w.cell? ⟨t, 0, none⟩ = some old) (hf0 : w.frozen? ⟨t, 0, none⟩ = false) :
    Calls Tryd.prog 62 #[.iface 74 (.agg #[.int .i64 q]), .iface 76 (.pointer (some ⟨t, 0, none⟩))] w fun ev w' => ev = .returned (.bool true) ∧ Below t w w' := by
  have h6 := @run_callFunc_extern Tryd.prog 71 _ (fun args => ReflectliteValue.unpack (args.getD 0 (.tuple #[]))) Tryd.func71 (by kernel_rfl) (by kernel_rfl) (by kernel_rfl) (by kernel_rfl)
  have h7 := @run_callFunc_extern Tryd.prog 72 _ (ReflectliteValue.methodAny (ReflectliteValue.valueError "reflectlite.Value.Type" 0) (fun t _ _ _ => ReflectliteType.toType t)) Tryd.func72 (by kernel_rfl) (by kernel_rfl) (by kernel_rfl) (by kernel_rfl)
  have h8 := @run_callFunc_extern Tryd.prog 73 _ (ReflectliteValue.method (ReflectliteValue.valueError "reflectlite.Value.IsNil" 0) ReflectliteValue.isNil) Tryd.func73 (by kernel_rfl) (by kernel_rfl) (by kernel_rfl) (by kernel_rfl)
  have h27 := @run_callFunc_extern Tryd.prog 110 _ (ReflectliteType.abiMethod fun t => do pure (.int .u8 (← Rtype.kind t))) Tryd.func110 (by kernel_rfl) (by kernel_rfl) (by kernel_rfl) (by kernel_rfl)
  have h37 := @run_callFunc_extern Tryd.prog 125 _ (ReflectliteType.method ReflectliteType.elem) Tryd.func125 (by kernel_rfl) (by kernel_rfl) (by kernel_rfl) (by kernel_rfl)
  have h38 := @run_callFunc_extern Tryd.prog 126 _ (ReflectliteType.relation "Implements" ReflectliteType.implements_) Tryd.func126 (by kernel_rfl) (by kernel_rfl) (by kernel_rfl) (by kernel_rfl)
  have h10 := @run_callFunc_extern Tryd.prog 87 _ ReflectliteType.typeOf Tryd.func87 (by kernel_rfl) (by kernel_rfl) (by kernel_rfl) (by kernel_rfl)
  have h35 := @run_callFunc_extern Tryd.prog 123 _ (ReflectliteType.relation "AssignableTo" ReflectliteType.assignableTo) Tryd.func123 (by kernel_rfl) (by kernel_rfl) (by kernel_rfl) (by kernel_rfl)
  have h11 := @run_callFunc_extern Tryd.prog 88 _ (ReflectliteValue.method (ReflectliteValue.valueError "reflectlite.Value.Elem" 0) ReflectliteValue.elem) Tryd.func88 (by kernel_rfl) (by kernel_rfl) (by kernel_rfl) (by kernel_rfl)
  have h12 := @run_callFunc_extern Tryd.prog 89 _ ReflectliteValue.set Tryd.func89 (by kernel_rfl) (by kernel_rfl) (by kernel_rfl) (by kernel_rfl)
  have tO := as_typeOfN
  have mA := as_methodAssignableTo
  have a25 := as_assignableN
  have v25 := as_valueOfN
  have f6 := as_valueOfP
  have f7 := as_typeP
  have mK := as_methodKind
  have mE := as_methodElem
  have mI := as_methodImplements
  have k27 := as_kindP
  have k25 := as_kindN
  have e27 := as_elemP
  have i25 := as_implementsN
  have htl : t < w.heap.size := World.block_lt_of_cell? w ⟨t, 0, none⟩ ht0
  have hlt : 0 < w.heap.size := World.block_lt_of_cell? w ⟨0, 0, none⟩ hg
  obtain ⟨w1, hw1⟩ : ∃ w1, w1 = w.alloc (.cells #[.pointer (some ⟨t, 0, none⟩)] 76) := ⟨_, rfl⟩
  obtain ⟨w2, hw2⟩ : ∃ w2, w2 = w1.alloc (.cells #[hP, .pointer (some ⟨w.heap.size, 0, none⟩), .int .u64 150] 91) := ⟨_, rfl⟩
  obtain ⟨w3, hw3⟩ : ∃ w3, w3 = w2.alloc (.cells #[hP, .pointer (some ⟨w.heap.size, 0, none⟩), .int .u64 150] 91) := ⟨_, rfl⟩
  obtain ⟨w4, hw4⟩ : ∃ w4, w4 = w3.alloc (.cells #[.int .i64 q] 74) := ⟨_, rfl⟩
  have s1 : w1.heap.size = w.heap.size + 1 := by rw [hw1]; simp
  have s2 : w2.heap.size = w.heap.size + 2 := by rw [hw2, World.size_alloc, s1]
  have s3 : w3.heap.size = w.heap.size + 3 := by rw [hw3, World.size_alloc, s2]
  have p1 : w1.cell? ⟨w.heap.size, 0, none⟩ = some (.pointer (some ⟨t, 0, none⟩)) := by rw [hw1, World.cell?_alloc_at _ _ _ _ (by simp)]; rfl
  have p2 : w2.cell? ⟨w.heap.size, 0, none⟩ = some (.pointer (some ⟨t, 0, none⟩)) := by rw [hw2, World.cell?_alloc_lt _ _ _ (by show w.heap.size < _; omega)]; exact p1
  have p3 : w3.cell? ⟨w.heap.size, 0, none⟩ = some (.pointer (some ⟨t, 0, none⟩)) := by rw [hw3, World.cell?_alloc_lt _ _ _ (by show w.heap.size < _; omega)]; exact p2
  have hg2 : w2.cell? ⟨0, 0, none⟩ = some (.iface 122 (.agg #[.pointer (some ⟨1, 70, none⟩)])) := by
    rw [hw2, World.cell?_alloc_lt _ _ _ (by show 0 < _; omega), hw1, World.cell?_alloc_lt _ _ _ hlt]; exact hg
  have q4 : w4.cell? ⟨w3.heap.size, 0, none⟩ = some (.int .i64 q) := by rw [hw4, World.cell?_alloc_at _ _ _ _ (by simp)]; rfl
  have t4 : w4.cell? ⟨t, 0, none⟩ = some old := by
    rw [hw4, World.cell?_alloc_lt _ _ _ (by show t < _; omega), hw3, World.cell?_alloc_lt _ _ _ (by show t < _; omega), hw2, World.cell?_alloc_lt _ _ _ (by show t < _; omega), hw1, World.cell?_alloc_lt _ _ _ htl]; exact ht0
  have z4 : w4.frozen? ⟨t, 0, none⟩ = false := by
    rw [hw4, World.frozen?_alloc_old _ _ _ (by show t ≠ _; omega), hw3, World.frozen?_alloc_old _ _ _ (by show t ≠ _; omega), hw2, World.frozen?_alloc_old _ _ _ (by show t ≠ _; omega), hw1, World.frozen?_alloc_old _ _ _ (by show t ≠ _; omega)]; exact hf0
  have n8 := as_isNilP ⟨w.heap.size, 0, none⟩ ⟨t, 0, none⟩ w2 p2
  have el := as_elemVP ⟨w.heap.size, 0, none⟩ ⟨t, 0, none⟩ w3 p3
  have st := as_setN t w3.heap.size q old w4 q4 t4 z4
  have BX : Below t w (w4.setCell ⟨t, 0, none⟩ (.int .i64 q)) := by
    have b1 := (Below.refl t w).alloc (Nat.le_of_lt htl) (.cells #[.pointer (some ⟨t, 0, none⟩)] 76)
    rw [← hw1] at b1
    have b2 := b1.alloc (by omega) (.cells #[hP, .pointer (some ⟨w.heap.size, 0, none⟩), .int .u64 150] 91)
    rw [← hw2] at b2
    have b3 := b2.alloc (by omega) (.cells #[hP, .pointer (some ⟨w.heap.size, 0, none⟩), .int .u64 150] 91)
    rw [← hw3] at b3
    have b4 := b3.alloc (by omega) (.cells #[.int .i64 q] 74)
    rw [← hw4] at b4
    exact b4.setCell (p := ⟨t, 0, none⟩) (Nat.le_refl _) _
  have HB := Lib.hid BX
  subst hw4
  subst hw3
  subst hw2
  subst hw1
  clear BX p1 p2 p3 q4 t4 z4 s1 s2 s3 hg ht0 hf0
  rw [World.size_alloc, World.size_alloc, World.size_alloc] at st
  go_enter Tryd.func62, Tryd.ntmps62
  go_wp2
  refine wp_loop_rounds 1 ?_
  rw [rounds_succ]
  go_wp2
  go_ret
  exact ⟨rfl, HB.out⟩
end Go.Proofs.YtnaegnjgpnakfaaDoor
