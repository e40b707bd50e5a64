/- Small laws for ranges over functions: what lies in a set of blocks; results that lie in cells. -/
import Derived.Test.YtimkgplabbcklaaSeq
namespace Go.Proofs.Ytimkgplabbcklaa
set_option linter.unusedVariables false
set_option linter.unusedSimpArgs false
open Go.RowKit
attribute [local go_sem] Oper.semAt_some wide_fn wide_round_fn

theorem below_inside {n : Nat} {V : Nat → Prop} {a b c : World} (h : Below n a b) (hin : Inside V b c) (hv : ∀ k, k < n → V k) : Below n a c :=
  ⟨hin.os.trans h.os, hin.tape.trans h.tape, hin.output.trans h.output, Nat.le_trans h.size hin.size, fun k hk => (hin.block k (hv k hk)).trans (h.block k hk)⟩
theorem frozen_inside {V : Nat → Prop} {a b : World} (hin : Inside V a b) {p : Addr} (hv : V p.block) : b.frozen? p = a.frozen? p := World.frozen?_of_block (w := a) (hin.block p.block hv)
theorem run_loadVar_one {P : Program} (w : World) (ty : TypeId) (d : TypeDesc) (p : Addr) (v : Value) (hu : P.underlying ty = some d) (hd : (match d with | .struct _ | .array _ _ => true | _ => false) = false) (hc : w.cell? p = some v) : (loadVar ty p).run P w = .ok v w := by
  have hagg : (isAgg ty).run P w = .ok false w := by
    unfold isAgg
    rw [Sem.run_bind, run_underlying hu w]
    cases d <;> simp_all
  simp [loadVar, Sem.run_bind, hagg, hc]
theorem results_cells {P : Program} {fn : Func} {p q : Tmp} {ty ty' : TypeId} (h : fn.results = #[.cell p ty, .cell q ty']) (tmps : Array Value) (w : World) (g g' : Addr) (v u : Value) (d d' : TypeDesc)
    (hp : tmps.getD p undef = .pointer (some g)) (hq : tmps.getD q undef = .pointer (some g')) (hu : P.underlying ty = some d) (hd : (match d with | .struct _ | .array _ _ => true | _ => false) = false) (hu' : P.underlying ty' = some d') (hd' : (match d' with | .struct _ | .array _ _ => true | _ => false) = false)
    (h1 : w.cell? g = some v) (h2 : w.cell? g' = some u) : (results fn tmps).run P w = .ok (.tuple #[v, u]) w := by
  have hp' : tmps[p]?.getD undef = .pointer (some g) := by simpa using hp
  have hq' : tmps[q]?.getD undef = .pointer (some g') := by simpa using hq
  simp [results, h, hp', hq', asAddr, run_loadVar_one w ty d g v hu hd h1, run_loadVar_one w ty' d' g' u hu' hd' h2]

/-- What a row of one's own needs no room for: it has some. -/
theorem ownI_of_owns {w : World} {base tI n cap g lo : Nat} {X : Nat → Int} (h : w.ownsRow base tI 1 (.slice (some ⟨g, 0, none⟩) n cap) n (cellsL n X)) (hb : lo ≤ base) : OwnI w lo w.heap.size (some ⟨g, 0, none⟩) n X :=
  .inr ⟨g, Nat.le_trans hb (owns_cap h).2.1, (owns_cap h).2.2, OwnR.of_owns h⟩

theorem results_cell1 {P : Program} {fn : Func} {p : Tmp} {ty : TypeId} (h : fn.results = #[.cell p ty]) (tmps : Array Value) (w : World) (g : Addr) (v : Value) (d : TypeDesc)
    (hp : tmps.getD p undef = .pointer (some g)) (hu : P.underlying ty = some d) (hd : (match d with | .struct _ | .array _ _ => true | _ => false) = false) (h1 : w.cell? g = some v) : (results fn tmps).run P w = .ok v w := by
  have hp' : tmps[p]?.getD undef = .pointer (some g) := by simpa using hp
  simp [results, h, hp', asAddr, run_loadVar_one w ty d g v hu hd h1]
theorem frozen_set {w : World} {a b : Addr} {v : Value} (h : w.frozen? b = false) : (w.setCell a v).frozen? b = false := by rw [World.frozen?_setCell]; exact h
section
variable {P : Program} {N : Nat} {Fc : Fence} {ops : Array Oper} {rest : List Oper} {a : Act} {w : World} {Q : Exit → Act → World → Prop} {d : Option Nat} {ot : TypeId} {pos : String} {aft : Array Edge}
/-- A parameter that is an array or a struct: a new block of its cells, in a fenced walk. -/
theorem arrI_box (n ty : Nat) (x : Operand) (F : Nat → Int) (hx : a.eval x = .agg (cellsV n F))
    (h : ∀ w1, ArrAt w1 w.heap.size ty n F → w1.heap.size = w.heap.size + 1 → Below w.heap.size w w1 → wpListIn Fc N P ops Q rest (a.put d (.pointer (some ⟨w.heap.size, 0, none⟩))) w1) :
    wpListIn Fc N P ops Q (⟨d, Op.box ty x, ot, pos, aft, none⟩ :: rest) a w :=
  wpListIn_step fun K hK => by
    rw [if_pos (show Region.wanted (⟨d, Op.box ty x, ot, pos, aft, none⟩ : Oper) (yielded ops a.tmps) = true from rfl)]
    refine wpIn_of_run (by intro c hc; cases hc) (by simp [Oper.about]) (v := .pointer (some ⟨w.heap.size, 0, none⟩)) (w' := w.alloc (.cells (cellsV n F) ty)) ?_ (hK _ _ (h _ (ArrAt.new w ty n _) (by simp) ((Below.refl _ _).alloc (Nat.le_refl _) _)))
    unfold execOp
    simp [Instr.box, hx, newVar, newRow, newObj, Value.cells]
    rfl
theorem wpListIn_append_lies {o : Oper} {w : World} (hgd : o.guard = none) (s x : Operand) (t : TypeId)
    (ho : o.op = .call { callee := .builtin .append, args := #[s, x], argTypes := #[t, t] })
    (base : Nat) (e : TypeId) (i : TypeInfo) (z : Value) (size bytes : Nat) (ht : P.underlying t = some (.slice e)) (hi : P.info? e = some i) (hz : i.zero = some z)
    (hsize : i.size = size) (hby : i.bytes = bytes) (hzs : z.cells.size = size) (hsz : 0 < size)
    (v : Value) (n : Nat) (xs : List Value) (hs : a.eval s = v) (hown : w.ownsRow base e size v n xs)
    (ad : Addr) (m c : Nat) (news : List Value) (hx : a.eval x = .slice (some ad) m c) (hl : news.length = m * size) (hnews : ∀ j u, news[j]? = some u → w.cell? (ad.add j) = some u) (h1 : ∀ u ∈ news, u.oneCell' = true)
    (hm : 0 < m) (h63 : n + m ≤ maxLen) (hbytes : (n + m) * bytes ≤ 140737488355328) (hbase : base ≤ w.heap.size) (H : Nat) (hH : w.heap.size = H)
    (h : ∀ g cap w', w'.ownsRow base e size (.slice (some ⟨g, 0, none⟩) (n + m) cap) (n + m) (xs ++ news) → w.grownBy w' v.ownBlock → (v.ownBlock = some g ∨ g = H) → g < w'.heap.size → wpListIn Fc N P ops Q rest (a.put o.dst (.slice (some ⟨g, 0, none⟩) (n + m) cap)) w') :
    wpListIn Fc N P ops Q (o :: rest) a w := by
  refine wpListIn_plain hgd fun K hK => ?_
  obtain ⟨g, cap, w', hr, h2, h3, h4, h5⟩ := run_append_lies (P := P) (w := w) t o.type base e i z size bytes ht hi hz hsize hby hzs hsz v n xs hown ad m c news hl hnews h1 hm h63 hbytes hbase H hH
  unfold Oper.wpIn
  refine ⟨by simp [Oper.about, ho, resolve, Target.leads, Sem.run_pure], ?_⟩
  rw [Oper.semAt_plain Fc _ _ (by rw [ho]; intro c hc'; cases hc')]
  simp [execOp, ho, resolve, invoke, builtin, hs, hx, hr, Result.andThen]
  exact hK _ _ (h g cap w' h2 h3 h4 h5)
end
/-- The mark of a range over a function in a frame. -/
def markD (D : Nat) : Deferred := { target := .collected D, args := #[] }
/-- A frame leaves over marks whose rounds have deferred nothing. -/
theorem leaves_marks {F : Fence} {n : Nat} {P : Program} {fn : Func} {tmps : Array Value} {R : Ending → World → Prop} {u : FrameMode} {V : Nat → Prop} (hu : u ≠ .run) : ∀ (Ds : List Nat) (W : World), Ds.Nodup → (∀ D, D ∈ Ds → W.heap[D]? = some (.deferred (some []))) → (∀ D, D ∈ Ds → ¬ V D) →
    (∀ W', Inside V W W' → LeavesInM F n P fn tmps R [] u W') → LeavesInM F n P fn tmps R (Ds.map markD) u W
  | [], W, _, _, _, h => h W (Inside.refl _ _)
  | D :: Ds, W, hn, hW, hV, h => by
    rw [List.nodup_cons] at hn
    refine ⟨hu, .inl ⟨D, _, rfl, run_takeDeferred (hW D (by simp)), leaves_marks hu Ds _ hn.2 (fun E hE => ?_) (fun E hE => hV E (by simp [hE])) (fun W' hin => ?_)⟩⟩
    · exact (World.putObj_heap_other (fun e => hn.1 (by rw [← e]; exact hE))).trans (hW E (by simp [hE]))
    · exact h W' ((Inside.putObj (hV D (by simp)) _).trans hin)

end Go.Proofs.Ytimkgplabbcklaa
