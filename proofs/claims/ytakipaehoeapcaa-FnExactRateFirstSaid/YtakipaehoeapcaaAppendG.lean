/- append of one number to a row of a call's own, behind a guard that let it, in a fenced walk: the old row is still owned. -/
import Derived.Test.YtakipaehoeapcaaSeq
import Derived.ArgAppend
import Derived.OwnWalkIn
namespace Go.Proofs.Ytakipaehoeapcaa
set_option linter.unusedVariables false
open Go.RowKit

section
variable {P : Program} (w : World)

theorem run_append1 (tT tI : TypeId) (i : TypeInfo) (ht : P.underlying tT = some (.slice tI)) (hi : P.info? tI = some i) (hz : i.zero = some (.int .i64 0)) (hs : i.size = 1) (hb : i.bytes = 8)
    (base g n cap : Nat) (xs : List Value) (hown : w.ownsRow base tI 1 (.slice (some ⟨g, 0, none⟩) n cap) n xs) (ad : Addr) (c : Nat) (x : Value) (hx : w.cell? ad = some x) (h1 : x.oneCell' = true) (hn : n ≤ 1048576) :
    ∃ g' cap' w', (Builtin.append_ #[tT, tT] tT #[.slice (some ⟨g, 0, none⟩) n cap, .slice (some ad) 1 c]).run P w = .ok (.slice (some ⟨g', 0, none⟩) (n + 1) cap') w' ∧
      w'.ownsRow base tI 1 (.slice (some ⟨g', 0, none⟩) (n + 1) cap') (n + 1) (xs ++ [x]) ∧ w'.ownsRow base tI 1 (.slice (some ⟨g, 0, none⟩) n cap) n xs ∧ w.grownBy w' (some g) ∧ (g' = g ∧ cap' = cap ∨ w.heap.size ≤ g') := by
  have hnews : ∀ j u, [x][j]? = some u → w.cell? (ad.add j) = some u := by
    intro j u hu
    cases j with
    | zero =>
      simp only [List.getElem?_cons_zero, Option.some.injEq] at hu
      subst hu
      have : ad.add 0 = ad := by unfold Addr.add; cases ad with | mk b o k => cases k <;> simp
      rw [this]; exact hx
    | succ j => simp at hu
  have hlt := (owns_cap hown).2.2
  have hbase := (owns_cap hown).2.1
  have hcells := hown.cells (g := g) rfl
  obtain ⟨hl, (⟨he, _⟩ | ⟨g0, cap0, cur, hv, hbg, hg, hnc, hcm, hcs, htake⟩)⟩ := id hown
  · cases he
  · cases hv
    by_cases hroom : n + 1 ≤ cap
    · have hr := run_append_room (P := P) w tT tT tI i ht hi g n cap cur hg ad 1 c [x] (by simp [hs]) hnews (by simp [h1]) hroom (by rw [hs]; simp; omega)
      rw [hs] at hr
      simp only [Nat.mul_one, List.length_singleton] at hr
      simp only [Nat.mul_one] at htake
      have hh := setRow_heap w g cur (cur.toList.take n ++ [x] ++ cur.toList.drop (n + 1)).toArray tI (0, 0) hg
      have hsz : (cur.toList.take n ++ [x] ++ cur.toList.drop (n + 1)).toArray.size = cap * 1 := by
        simp only [List.size_toArray, List.length_append, List.length_take, List.length_drop, Array.length_toList, List.length_singleton]
        omega
      refine ⟨g, cap, _, hr, ⟨by simp at hl ⊢; omega, .inr ⟨g, cap, _, rfl, hbg, hh, hroom, hcm, hsz, ?_⟩⟩, ⟨hl, .inr ⟨g, cap, _, rfl, hbg, hh, hnc, hcm, hsz, ?_⟩⟩,
        ⟨rfl, rfl, rfl, by simp, fun k _ hk => setRow_other w g k _ (fun e => hk (by rw [e]))⟩, .inl ⟨rfl, rfl⟩⟩
      · rw [htake, Nat.mul_one]
        have e : (xs ++ [x]).length = n + 1 := by simp at hl ⊢; omega
        rw [← e]; exact List.take_left
      · rw [htake, Nat.mul_one, List.append_assoc]
        have e : xs.length = n := by omega
        rw [← e]; exact List.take_left
    · obtain ⟨v', w', hr, h2, h3⟩ := run_append_arg_grows (P := P) w tT tT tI i (.int .i64 0) 1 8 ht hi hz hs hb rfl (by decide) ⟨g, 0, none⟩ n cap xs hl hcells ad 1 c [x] rfl hnews (by omega) (by unfold maxLen; omega) (by omega)
      obtain ⟨g', cap', rfl⟩ := owns_form h2 (by omega)
      exact ⟨g', cap', w', hr, owns_base h2 (by omega), owns_at hown (h3.block g hlt (by simp)), ⟨h3.os, h3.tape, h3.output, h3.size, fun k hk _ => h3.block k hk (by simp)⟩, .inr (owns_cap h2).2.1⟩
end

variable {F : Fence} {m : Nat} {P : Program}
theorem wpListIn_append1_g (w : World) {ops : Array Oper} {rest : List Oper} {a : Act} {Q : Exit → Act → World → Prop} {d : Option Tmp} {tT : TypeId} {pos : String} {aft : Array Edge} (gd : Nat × Bool) (s x : Operand)
    (hw : Region.wanted (⟨d, Op.call { callee := Callee.builtin Builtin.append, args := #[s, x], argTypes := #[tT, tT] }, tT, pos, aft, some gd⟩ : Oper) (yielded ops a.tmps) = true)
    (tI : TypeId) (i : TypeInfo) (ht : P.underlying tT = some (.slice tI)) (hi : P.info? tI = some i) (hz : i.zero = some (.int .i64 0)) (hs : i.size = 1) (hb : i.bytes = 8)
    (base g n cap : Nat) (xs : List Value) (hsv : a.eval s = .slice (some ⟨g, 0, none⟩) n cap) (hown : w.ownsRow base tI 1 (.slice (some ⟨g, 0, none⟩) n cap) n xs) (ad : Addr) (c : Nat) (u : Value) (hxv : a.eval x = .slice (some ad) 1 c) (hx : w.cell? ad = some u) (h1 : u.oneCell' = true) (hn : n ≤ 1048576)
    (hK : ∀ g' cap' w', w'.ownsRow base tI 1 (.slice (some ⟨g', 0, none⟩) (n + 1) cap') (n + 1) (xs ++ [u]) → w'.ownsRow base tI 1 (.slice (some ⟨g, 0, none⟩) n cap) n xs → w.grownBy w' (some g) → (g' = g ∧ cap' = cap ∨ w.heap.size ≤ g') →
      wpListIn F m P ops Q rest (a.put d (.slice (some ⟨g', 0, none⟩) (n + 1) cap')) w') :
    wpListIn F m P ops Q (⟨d, Op.call { callee := Callee.builtin Builtin.append, args := #[s, x], argTypes := #[tT, tT] }, tT, pos, aft, some gd⟩ :: rest) a w := by
  refine wpListIn_step fun K hK' => ?_
  rw [if_pos hw]
  obtain ⟨g', cap', w', hr, h2, h3, h4, h5⟩ := run_append1 (P := P) w tT tI i ht hi hz hs hb base g n cap xs hown ad c u hx h1 hn
  unfold Oper.wpIn
  refine ⟨?_, ?_⟩
  · simp [Oper.about, resolve, Target.leads, Sem.run_pure]
  · rw [Oper.semAt_plain F _ _ (by intro c hc'; cases hc')]
    simp [execOp, resolve, invoke, builtin, hsv, hxv, hr, Result.andThen]
    exact hK' _ _ (hK g' cap' w' h2 h3 h4 h5)
end Go.Proofs.Ytakipaehoeapcaa
