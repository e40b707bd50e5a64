/- The walk of the law FnWants: it answers true at every code that can be read. -/
import Derived.Test.YtamglhpgdaoaoaaDrawWantIn
import Derived.Test.YtamglhpgdaoaoaaWantInP
import Derived.Test.YtamglhpgdaoaoaaSpecWantIn
import Derived.Test.YtamglhpgdaoaoaaWantTurn
import Derived.Test.YtamglhpgdaoaoaaTabK
namespace Go.Proofs.Ytamglhpgdaoaoaa
set_option linter.unusedVariables false
open Go.RowKit

/-- append(x, y...) in a plain region, behind a guard that holds: a row that is full grows. -/
theorem wpList_append_guard {P : Program} (w : World) {ops : Array Oper} {rest : List Oper} {o : Oper} {a : Act} {Q : Exit → Act → World → Prop}
    (hw : Region.wanted o (yielded ops a.tmps) = true) (s x : Operand) (t : TypeId) (hop : o.op = Op.call { callee := Callee.builtin Builtin.append, args := #[s, x], argTypes := #[t, t] })
    (e : TypeId) (i : TypeInfo) (z : Value) (size bytes : Nat) (h1 : P.underlying t = some (.slice e)) (h2 : P.info? e = some i) (h3 : i.zero = some z) (h4 : i.size = size) (h5 : i.bytes = bytes) (h6 : z.cells.size = size) (h7 : 0 < size)
    (b : Addr) (n cap : Nat) (olds : List Value) (hs : a.eval s = .slice (some b) n cap) (hlo : olds.length = n * size) (holds : ∀ j u, olds[j]? = some u → w.cell? (b.add j) = some u)
    (ad : Addr) (m c : Nat) (news : List Value) (hx : a.eval x = .slice (some ad) m c) (hn : news.length = m * size) (hc : ∀ j u, news[j]? = some u → w.cell? (ad.add j) = some u)
    (hfull : cap < n + m) (b1 : n + m ≤ maxLen) (b2 : (n + m) * bytes ≤ 140737488355328)
    (hK : ∀ v' w', w'.ownsRow w.heap.size e size v' (n + m) (olds ++ news) → w.grownBy w' none → wpList P ops Q rest (a.put o.dst v') w') :
    wpList P ops Q (o :: rest) a w := by
  refine wpList_step fun K hK' => ?_
  rw [if_pos hw]
  obtain ⟨v', w', hrun, r1, r2⟩ := run_append_arg_grows (P := P) w t o.type e i z size bytes h1 h2 h3 h4 h5 h6 h7 b n cap olds hlo holds ad m c news hn hc hfull b1 b2
  unfold Oper.wp
  simp [execOp, hop, resolve, invoke, builtin, hs, hx, hrun, Result.andThen]
  exact hK' _ _ (hK v' w' r1 r2)

/-- The first one wants nothing. -/
def zeroW (X : Nat → Int) (j : Nat) : Int := if j = 0 then 0 else X (1 + (j - 1))
theorem rd_tail {w : World} {g m : Nat} {X : Nat → Int} (h : Rd w (some ⟨g, 0, none⟩) m X) : Rd w (some ⟨g, 1, none⟩) (m - 1) (fun j => X (1 + j)) := by
  intro k hk
  obtain ⟨b, o, e, hc⟩ := h (1 + k) (by omega)
  cases e
  exact ⟨g, 1, rfl, by rw [Nat.zero_add] at hc; exact hc⟩
theorem zero_wants {m : Nat} {X : Nat → Int} (h : IsWants m X) : IsWants (1 + (m - 1)) (zeroW X) := by
  have h2 := h.1.1
  rw [show 1 + (m - 1) = m by omega]
  refine ⟨h.1, fun i hi => ?_⟩
  unfold WantsB zeroW
  by_cases e : i = 0
  · subst e
    exact ⟨Int.le_refl _, Int.natCast_pos.2 (Nat.two_pow_pos m), Nat.zero_testBit 0⟩
  · rw [if_neg e, show 1 + (i - 1) = i by omega]
    exact h.2 i hi
theorem zero_cells (m : Nat) (X : Nat → Int) : [Value.int .i64 0] ++ cellsL m (fun j => X (1 + j)) = cellsL (1 + m) (zeroW X) := by
  unfold cellsL
  rw [Nat.add_comm 1 m, List.range_succ_eq_map, List.map_cons, List.map_map]
  show Value.int .i64 0 :: _ = Value.int .i64 0 :: _
  congr 1

set_option maxHeartbeats 3200000 in
theorem fnWants_walk (n c : Nat) (a : Option Addr) (B : Nat → Nat) (w : World) (hc : n ≤ c) (hb : RdB w a n B) (hab : 0 < n → ∀ b o, a = some ⟨b, o, none⟩ → b < w.heap.size) :
    Calls Try.prog 3 #[.slice a n c] w fun e w' => e = .returned (.bool true) ∧ Below w.heap.size w w' := by
  by_cases hfit : n ≤ 1048576
  · have hd : ¬ (1048576 < n) := by omega
    have HD := Lib.hid (drawWantIn_any n c a B w hfit hc hb hab)
    clear hb hab
    go_enter Try.func3, Try.ntmps3
    go_wp2_with fail
    refine HD.out.mono ?_
    rintro e w1 ⟨ga, m, gc, X, rfl, ⟨hm2, hm6, hmc⟩, hX, hb1⟩
    have X1 := Lib.hid hX
    have B1 := Lib.hid hb1
    clear hX hb1 HD
    go_wp2_with fail
    refine (wantIn_any m gc _ X _ (by omega) hmc X1.out).mono ?_
    rintro e w2 ⟨rfl, hb2⟩
    have X2 := Lib.hid (X1.out.below (Nat.le_refl _) hb2)
    have B2 := Lib.hid (below_chain B1.out hb2)
    clear hb2 B1 X1
    go_wp2_with fail
    refine (specWantIn_any m gc _ X _ (by omega) X2.out).mono ?_
    rintro e w3 ⟨rfl, hb3⟩
    have X3 := Lib.hid (X2.out.below (Nat.le_refl _) hb3)
    have B3 := Lib.hid (below_chain B2.out hb3)
    clear hb3 B2 X2
    by_cases h : IsWants m X
    · have K1 := Lib.hid (tt_of h)
      have K2 := Lib.hid (wantN_yes h)
      have K3 := Lib.hid (tt_of (turn_is h))
      have K4 := Lib.hid (tt_of (zero_wants h))
      rw [K1.out]
      clear h
      go_wp2_with fail
      refine (wantTurn_all m gc _ X _ (by omega) X3.out).mono ?_
      rintro e w4 ⟨ta, tc, rfl, hO4, hb4⟩
      rw [K2.out] at hO4 ⊢
      rw [K1.out]
      have T4 := Lib.hid hO4.rd
      have X4 := Lib.hid (X3.out.below (Nat.le_refl _) hb4)
      have B4 := Lib.hid (below_chain B3.out hb4)
      clear hb4 B3 X3
      clear hO4
      go_wp2_with fail
      refine (wantIn_all m tc _ _ _ (by omega) T4.out).mono ?_
      rintro e w5 ⟨rfl, hb5⟩
      rw [K3.out]
      have X5 := Lib.hid (X4.out.below (Nat.le_refl _) hb5)
      have T5 := Lib.hid (T4.out.below (Nat.le_refl _) hb5)
      have B5 := Lib.hid (below_chain B4.out hb5)
      clear hb5 B4 X4 T4
      obtain ⟨i0, hi, hz0, hz1, hz2⟩ := info_parts Try.infoInt
      have X5' := Lib.hid (rd_tail X5.out)
      go_wp2_with (at_builtin; refine wpList_append_guard _ (by rfl) (.tmp 38) (.tmp 40) 23 (by rfl) 3 i0 (.int .i64 0) 1 8 Try.underlying23 hi hz0 hz1 hz2 (by rfl) (by decide) ⟨_, 0, none⟩ 1 1 [.int .i64 0] (by rfl) (by rfl) (news_one (by simp)) ⟨ga, 1, none⟩ (m - 1) (gc - 1) (cellsL (m - 1) (fun j => X (1 + j))) (by rfl) ((cellsL_length _ _).trans (Nat.mul_one _).symm) (X5'.out.news (by repeat (first | exact Below.refl _ _ | refine Below.drew ?_ | refine below_alloc ?_ _))) (by omega) (by unfold maxLen; omega) (by omega) ?_; intro v1 w6 hown6 hgrow6; rw [zero_cells] at hown6; obtain ⟨g6, c6, rfl, hg6, hs6, hc6⟩ := owns_shape hown6 (by omega); have O6 := Lib.hid (OwnR.of_owns hown6).rd; have B6 := Lib.hid (below_chain B5.out (Below.grown (a := w5) (by repeat (first | exact Below.refl _ _ | refine Below.drew ?_ | refine below_alloc ?_ _)) hgrow6 (by simp) (fun k h => by cases h))); clear hown6 hgrow6)
      refine (wantIn_any (1 + (m - 1)) c6 _ (zeroW X) _ (by omega) hc6 O6.out).mono ?_
      rintro e w7 ⟨rfl, hb7⟩
      rw [K4.out]
      have B7 := Lib.hid (below_chain B6.out hb7)
      clear hb7
      go_wp2_with fail
      go_ret
      exact ⟨rfl, B7.out⟩
    · have K1 := Lib.hid (tt_no h)
      rw [K1.out]
      clear h
      go_wp2_with fail
      go_ret
      exact ⟨rfl, B3.out⟩
  · have hd : 1048576 < n := by omega
    clear hb hab
    go_enter Try.func3, Try.ntmps3
    go_wp2
    go_ret
    exact ⟨rfl, Below.refl _ _⟩
end Go.Proofs.Ytamglhpgdaoaoaa
