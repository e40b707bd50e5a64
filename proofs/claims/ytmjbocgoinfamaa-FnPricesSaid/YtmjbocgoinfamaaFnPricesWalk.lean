/- The walk of the law FnPrices: it answers true at every code that can be read. -/
import Derived.Test.YtmjbocgoinfamaaDrawPriceIn
import Derived.Test.YtmjbocgoinfamaaSpecPriceIn
import Derived.Test.YtmjbocgoinfamaaPriceWorth
import Derived.ArgAppend
namespace Go.Proofs.Ytmjbocgoinfamaa
set_option linter.unusedVariables false
set_option linter.unusedSimpArgs false
open Go.RowKit

/-- append(x, y...) behind a guard, where x is new and empty. -/
theorem wpList_append_new_w {P : Program} (w : World) {ops : Array Oper} {rest : List Oper} {o : Oper} {a : Act} {Q : Exit → Act → World → Prop}
    (hw : Region.wanted o (yielded ops a.tmps) = true) (s x : Operand) (t : TypeId) (hop : o.op = Op.call { callee := Callee.builtin Builtin.append, args := #[s, x], argTypes := #[t, t] })
    (e : TypeId) (i : TypeInfo) (h1 : P.underlying t = some (.slice e)) (h2 : P.info? e = some i) (h3 : i.zero = some (.int .i64 0)) (h4 : i.size = 1) (h5 : i.bytes = 8)
    (ad0 : Addr) (hs : a.eval s = .slice (some ad0) 0 0) (ad : Addr) (m c : Nat) (news : List Value) (hx : a.eval x = .slice (some ad) m c) (hn : news.length = m) (hc : ∀ j u, news[j]? = some u → w.cell? (ad.add j) = some u) (hpos : 0 < m) (b1 : m ≤ 1048576)
    (hK : ∀ v' w', w'.ownsRow w.heap.size e 1 v' m news → w.grownBy w' none → wpList P ops Q rest (a.put o.dst v') w') : wpList P ops Q (o :: rest) a w := by
  refine wpList_step fun K hK' => ?_
  rw [if_pos hw]
  obtain ⟨v', w', hrun, r1, r2⟩ := run_append_arg_grows (P := P) w t o.type e i (.int .i64 0) 1 8 h1 h2 h3 h4 h5 rfl (by decide) ad0 0 0 [] rfl (fun j u h => by simp at h) ad m c news (by omega) hc (by omega) (by unfold maxLen; omega) (by omega)
  rw [Nat.zero_add, List.nil_append] at r1
  unfold Oper.wp
  simp [execOp, hop, resolve, invoke, builtin, hs, hx, hrun, Result.andThen]
  exact hK' _ _ (hK v' w' r1 r2)

theorem sumP_zero (X : Nat → Int) (k : Nat) : sumP X (fun _ => 0) k = 0 := by
  induction k with
  | zero => rfl
  | succ k ih => simp [sumP, ih]
theorem worth_zero {m m' : Nat} {X : Nat → Int} : worthAns m X m' (fun _ => 0) = 0 := by
  by_cases h : WorthOk m X m' (fun _ => 0)
  · rw [worthAns_yes h, sumP_zero]
  · rw [worthAns_no h]

set_option maxHeartbeats 3200000 in
theorem fnPrices_walk (n c : Nat) (a : Option Addr) (B : Nat → Nat) (w : World) (hc : n ≤ c) (hb : RdB w a n B) (hab : 0 < n → ∀ b o, a = some ⟨b, o, none⟩ → b < w.heap.size) :
    Calls Try.prog 10 #[.slice a n c] w fun e w' => e = .returned (.bool true) ∧ Below w.heap.size w w' := by
  by_cases hfit : n ≤ 1048576
  · have hd : ¬ (1048576 < n) := by omega
    have HD := Lib.hid (drawPriceIn_any n c a B w hfit hc hb hab)
    clear hb hab
    go_enter Try.func10, Try.ntmps10
    go_wp2_with fail
    refine HD.out.mono ?_
    rintro e w1 ⟨g, m, cap, X, rfl, ⟨hm1, hm5, hmc⟩, hX, hb1⟩
    have HX := Lib.hid hX
    have B1 := Lib.hid hb1
    clear hX hb1 HD
    by_cases hp : IsPrices m X
    · have K1 := Lib.hid (tt_of hp)
      have hm2 := hp.1.1
      have HP := Lib.hid hp
      obtain ⟨i0, hi, hz0, hz1, hz2⟩ := info_parts Try.infoInt
      have HI := Lib.hid hi
      have HZ0 := Lib.hid hz0
      have HZ1 := Lib.hid hz1
      have HZ2 := Lib.hid hz2
      have hmk := run_make_row' (P := Try.prog) 24 3 (.int .i64 0) 8 Try.underlying24 Try.infoInt rfl .i64 .i64 m (by omega) (by omega)
      obtain ⟨bu, hbu⟩ : ∃ bu, bu = tt (WorthOk m X m (fun _ => 0)) := ⟨_, rfl⟩
      have QU := Lib.hid hbu
      clear hp hbu hi hz0 hz1 hz2
      go_wp2_with fail
      refine (priceIn_any m cap _ X _ (by omega) hmc HX.out).mono ?_
      rintro e w2 ⟨rfl, hb2⟩
      rw [K1.out]
      have B2 := Lib.hid hb2
      clear hb2
      go_wp2_with fail
      refine (specPriceIn_any m cap _ X _ (by omega) (HX.out.below (Nat.le_refl _) B2.out)).mono ?_
      rintro e w3 ⟨rfl, hb3⟩
      rw [K1.out]
      have B3 := Lib.hid (below_chain B2.out hb3)
      clear hb3
      go_wp2_with fail
      refine (priceWorth_any m cap m m _ _ X (fun _ => 0) _ (by omega) hmc ?h1 (by omega) (Nat.le_refl _) ?h2).mono ?h3
      case h1 => exact (HX.out.below (Nat.le_refl _) B3.out).below (Nat.le_refl _) (below_alloc (Below.refl _ _) _)
      case h2 => exact fun k hk => ⟨w3.heap.size, 0, rfl, by rw [Nat.zero_add]; exact ((World.rowIs_made w3 (.int .i64 0) m 3).congr (g := fun _ => .int .i64 0) (fun j _ => by simp)).cell hk⟩
      rintro e w4 ⟨rfl, hb4⟩
      rw [worth_zero, ← QU.out]
      have B4 := Lib.hid (below_chain B3.out ((below_alloc (Below.refl _ _) _).trans (hb4.mono (by simp))))
      clear hb4 hmk
      by_cases h2 : m = 2
      · subst h2
        cases bu
        · go_wp2
          go_ret
          exact ⟨by first | rfl | simp, below_chain B1.out B4.out⟩
        · go_wp2
          go_ret
          exact ⟨by first | rfl | simp, below_chain B1.out B4.out⟩
      · have hne : ((m : Int) == 2) = false := beq_eq_false_iff_ne.2 (by omega)
        have hne2 : (m == 2) = false := beq_eq_false_iff_ne.2 h2
        obtain ⟨m', hm'⟩ : ∃ m' : Nat, m' = m - 1 := ⟨_, rfl⟩
        have hmm : (m : Int) - 1 = (m' : Int) := by omega
        have hm0 : 0 < m' := by omega
        have hle : m' ≤ cap := by omega
        have hm5' : m' ≤ 5 := by omega
        have K2 := Lib.hid (tt_of (show IsPrices m' X from ⟨by omega, fun k hk => HP.out.2 k (by omega)⟩))
        have HX4 := Lib.hid (show Rd w4 (some ⟨g, 0, none⟩) m' X from fun k hk => HX.out.below (Nat.le_refl _) B4.out k (by omega))
        clear hm'
        cases bu
        · go_wp2_with (first
            | (refine wpList_append_new_w _ (by rfl) (.tmp 39) (.tmp 44) 24 (by rfl) 3 i0 Try.underlying24 HI.out HZ0.out HZ1.out HZ2.out ⟨_, 0, none⟩ (by rfl) ⟨g, 0, none⟩ m' cap (cellsL m' X) (by rfl) ((cellsL_length m' X)) (HX4.out.news (by repeat (first | exact Below.refl _ _ | refine Below.drew ?_ | refine below_alloc ?_ _))) hm0 (by omega) ?_; intro v1 w5 hown5 hgrow5; obtain ⟨g5, cap5, rfl⟩ := owns_form hown5 hm0; have RD5 := Lib.hid (owns_rd hown5); have hcap5 := (owns_cap hown5).1; have B5 := Lib.hid (below_chain B4.out ((below_alloc (Below.refl _ _) _).grown hgrow5 (by simp) (fun k h => by cases h))); clear hown5 hgrow5)
            | (go_at_call 40; refine (priceIn_any m' cap5 _ X _ (by omega) hcap5 RD5.out).mono ?_; rintro e w6 ⟨rfl, hb6⟩; rw [K2.out]; have B6 := Lib.hid (below_chain B5.out hb6); clear hb6))
          go_ret
          exact ⟨by first | rfl | simp, below_chain B1.out B6.out⟩
        · go_wp2_with (first
            | (refine wpList_append_new_w _ (by rfl) (.tmp 39) (.tmp 44) 24 (by rfl) 3 i0 Try.underlying24 HI.out HZ0.out HZ1.out HZ2.out ⟨_, 0, none⟩ (by rfl) ⟨g, 0, none⟩ m' cap (cellsL m' X) (by rfl) ((cellsL_length m' X)) (HX4.out.news (by repeat (first | exact Below.refl _ _ | refine Below.drew ?_ | refine below_alloc ?_ _))) hm0 (by omega) ?_; intro v1 w5 hown5 hgrow5; obtain ⟨g5, cap5, rfl⟩ := owns_form hown5 hm0; have RD5 := Lib.hid (owns_rd hown5); have hcap5 := (owns_cap hown5).1; have B5 := Lib.hid (below_chain B4.out ((below_alloc (Below.refl _ _) _).grown hgrow5 (by simp) (fun k h => by cases h))); clear hown5 hgrow5)
            | (go_at_call 40; refine (priceIn_any m' cap5 _ X _ (by omega) hcap5 RD5.out).mono ?_; rintro e w6 ⟨rfl, hb6⟩; rw [K2.out]; have B6 := Lib.hid (below_chain B5.out hb6); clear hb6))
          go_ret
          exact ⟨by first | rfl | simp, below_chain B1.out B6.out⟩
    · have K1 := Lib.hid (tt_no hp)
      clear hp
      go_wp2_with fail
      refine (priceIn_any m cap _ X _ (by omega) hmc HX.out).mono ?_
      rintro e w2 ⟨rfl, hb2⟩
      rw [K1.out]
      have B2 := Lib.hid hb2
      clear hb2
      go_wp2_with fail
      refine (specPriceIn_any m cap _ X _ (by omega) (HX.out.below (Nat.le_refl _) B2.out)).mono ?_
      rintro e w3 ⟨rfl, hb3⟩
      rw [K1.out]
      have B3 := Lib.hid (below_chain B2.out hb3)
      clear hb3
      go_wp2
      go_ret
      exact ⟨by first | rfl | simp, below_chain B1.out B3.out⟩
  · have hd : 1048576 < n := by omega
    clear hb hab
    go_enter Try.func10, Try.ntmps10
    go_wp2_with fail
    go_ret
    exact ⟨rfl, Below.refl _ _⟩
end Go.Proofs.Ytmjbocgoinfamaa
