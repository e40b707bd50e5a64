/- The walk of the law FnCircle: it answers true at every code that can be read. -/
import Derived.Test.YtamglhpgdaoaoaaDrawWantCircle
import Derived.Test.YtamglhpgdaoaoaaWantCircle
import Derived.Test.YtamglhpgdaoaoaaSpecWantCircle
import Derived.Test.YtamglhpgdaoaoaaWantTurn
import Derived.Test.YtamglhpgdaoaoaaWantOn
namespace Go.Proofs.Ytamglhpgdaoaoaa
set_option linter.unusedVariables false
open Go.RowKit

section
variable {n : Nat} {W : Nat → Int}
theorem on_circ (hW : IsWants n W) {q : Nat} {Y : Nat → Int} (hc : IsCirc n W q Y) {i : Nat} (hi : i < q) : (onAns n W).testBit (Y i).toNat = true := by
  have hl : ((List.range q).map Y).length = q := by simp
  have hn : ∀ j, j < q → nth ((List.range q).map Y) j = Y j := fun j hj => nth_map hj
  have hc2 : IsCirc n W ((List.range q).map Y).length (nth ((List.range q).map Y)) := by rw [hl]; exact isCirc_congr (fun j hj => (hn j hj).symm) hc
  refine (onAns_bit hW).2 ⟨_, hc2, (setL_bit hc2).2 ⟨i, by rw [hl]; exact hi, ?_⟩⟩
  rw [hn i hi]
  have := (hc.1.1 i hi).1
  omega
theorem onAns_small (n : Nat) (W : Nat → Int) : onAns n W < 2 ^ n := by
  by_cases h : IsWants n W
  · rw [onAns_yes h]; exact onTo_lt
  · rw [onAns_no h]; exact Nat.two_pow_pos n
end

set_option maxHeartbeats 3200000 in
theorem fnCircle_walk (n c : Nat) (a : Option Addr) (B : Nat → Nat) (w : World) (hc : n ≤ c) (hb : RdB w a n B) (hab : 0 < n → ∀ b o, a = some ⟨b, o, none⟩ → b < w.heap.size) :
    Calls Try.prog 4 #[.slice a n c] w fun e w' => e = .returned (.bool true) ∧ Below w.heap.size w w' := by
  by_cases hfit : n ≤ 1048576
  · have hd : ¬ (1048576 < n) := by omega
    have HD := Lib.hid (drawWantCircle_any n c a B w hfit hc hb hab)
    clear hb hab
    go_enter Try.func4, Try.ntmps4
    go_wp2_with fail
    refine HD.out.mono ?_
    rintro e w1 ⟨ga, m, gc, X, ya, q, yc, Y, rfl, ⟨hm2, hm6, hmc⟩, hq, hX, hY, hb1⟩
    have X1 := Lib.hid hX
    have Y1 := Lib.hid hY
    have B1 := Lib.hid hb1
    clear hX hY hb1 HD
    go_wp2_with fail
    refine (wantCircle_all m gc _ X q yc _ Y _ (by omega) X1.out hq Y1.out).mono ?_
    rintro e w2 ⟨rfl, hb2⟩
    have X2 := Lib.hid (X1.out.below (Nat.le_refl _) hb2)
    have Y2 := Lib.hid (Y1.out.below (Nat.le_refl _) hb2)
    have B2 := Lib.hid (below_chain B1.out hb2)
    clear hb2 B1 X1 Y1
    go_wp2_with fail
    refine (specWantCircle_any m gc q yc _ _ X Y _ (by omega) X2.out hq Y2.out).mono ?_
    rintro e w3 ⟨rfl, hb3⟩
    have X3 := Lib.hid (X2.out.below (Nat.le_refl _) hb3)
    have Y3 := Lib.hid (Y2.out.below (Nat.le_refl _) hb3)
    have B3 := Lib.hid (below_chain B2.out hb3)
    clear hb3 B2 X2 Y2
    by_cases h : IsWants m X ∧ IsCirc m X q Y
    · have K1 := Lib.hid (tt_of h)
      have K2 := Lib.hid (wantN_yes h.1)
      have K3 := Lib.hid (tt_of h.1)
      have K4 := Lib.hid (tt_of (show IsWants m (turnW m X) ∧ IsCirc m (turnW m X) q (revF q Y) from ⟨turn_is h.1, rev_circ h.2⟩))
      obtain ⟨O, hO⟩ : ∃ O, O = onAns m X := ⟨_, rfl⟩
      have hOl : O < 2 ^ m := by rw [hO]; exact onAns_small m X
      have hO6 : O < 64 := Nat.lt_of_lt_of_le hOl (show 2 ^ m ≤ 2 ^ 6 from Nat.pow_le_pow_right (by omega) hm6)
      have KO := Lib.hid (fun i (hi : i < q) => show O.testBit (Y i).toNat = true by rw [hO]; exact on_circ h.1 h.2 hi)
      have KY := Lib.hid (fun i (hi : i < q) => show 0 ≤ Y i ∧ Y i < (m : Int) from h.2.1.1 i hi)
      have hq2 := h.2.2.2.2
      have K5 := Lib.hid hO.symm
      have hqm : q ≤ m := diff_le h.2.1
      obtain ⟨i0, hi, hz0, hz1, hz2⟩ := info_parts Try.infoInt
      rw [K1.out]
      clear h hO hOl
      go_wp2_with fail
      refine (wantTurn_all m gc _ X _ (by omega) X3.out).mono ?_
      rintro e w4 ⟨ta, tc, rfl, hO4, hb4⟩
      rw [K2.out] at hO4 ⊢
      rw [K3.out]
      have T4 := Lib.hid hO4.rd
      have X4 := Lib.hid (X3.out.below (Nat.le_refl _) hb4)
      have Y4 := Lib.hid (Y3.out.below (Nat.le_refl _) hb4)
      have B4 := Lib.hid (below_chain B3.out hb4)
      clear hb4 B3 X3 Y3
      clear hO4
      go_wp2_with fail
      refine (wantOn_all m gc _ X _ (by omega) X4.out).mono ?_
      rintro e w5 ⟨rfl, hb5⟩
      rw [K5.out]
      rw [K3.out]
      have X5 := Lib.hid (X4.out.below (Nat.le_refl _) hb5)
      have Y5 := Lib.hid (Y4.out.below (Nat.le_refl _) hb5)
      have T5 := Lib.hid (T4.out.below (Nat.le_refl _) hb5)
      have B5 := Lib.hid (below_chain B4.out hb5)
      clear hb5 B4 X4 Y4 T4
      go_wp2
      have R0 := Lib.hid (show (w5.alloc (.cells #[] 3)).ownsRow w5.heap.size 3 1 (.slice (some ⟨w5.heap.size, 0, none⟩) 0 0) 0 (cellsL 0 (revF q Y)) from World.ownsRow_made w5 #[] 0 (Nat.le_refl _) (Nat.zero_le _) (by simp))
      go_loopw [12, 13] (fun row s wi => ∃ k : Nat, k ≤ q ∧ s = .int .i64 k ∧ ∃ rv, rv = row ∧ wi.ownsRow w5.heap.size 3 1 rv k (cellsL k (revF q Y)) ∧ Below w5.heap.size w5 wi) (fun _ s _ => q - (intOf s).toNat)
      case atStart => exact ⟨0, Nat.zero_le _, rfl, _, rfl, R0.out, below_alloc (Below.refl _ _) _⟩
      case round =>
        obtain ⟨k, hk, rfl, rv, rfl, hown, hbw⟩ := hrel
        clear R0
        have HO := Lib.hid hown
        have Hb := Lib.hid hbw
        have hsz := hbw.size
        clear hbw
        by_cases hlt : k < q
        · clear hown
          obtain ⟨r, hr⟩ : ∃ r, r = (q - k) % q := ⟨_, rfl⟩
          have hrq : r < q := by rw [hr]; exact Nat.mod_lt _ (by omega)
          have hrv : revF q Y k = Y r := by rw [hr]; rfl
          have he : ((q : Int) - (k : Int)) % (q : Int) = (r : Int) := by rw [hr, show (q : Int) - (k : Int) = ((q - k : Nat) : Int) by omega]; first | exact (Int.natCast_emod _ _).symm | rfl | simp
          have hte : ((q : Int) - (k : Int)).tmod (q : Int) = (r : Int) := by rw [Int.tmod_eq_emod_of_nonneg (by omega)]; exact he
          obtain ⟨bb, ob, rfl, hc0⟩ := Y5.out r hrq
          obtain ⟨bb', ob', hbe, hc1⟩ := Y5.out k hlt
          simp only [Option.some.injEq, Addr.mk.injEq, and_true] at hbe
          obtain ⟨rfl, rfl⟩ := hbe
          have hbb : bb < w5.heap.size := World.block_lt_of_cell? _ _ hc0
          have hcb := (Hb.out.cell (p := ⟨bb, ob + r, none⟩) hbb).trans hc0
          obtain ⟨y, hy⟩ := Int.eq_ofNat_of_zero_le (KY.out k hlt).1
          have hym : y < m := by have := (KY.out k hlt).2; omega
          rw [hy] at hc1
          have hyb : O.testBit y = true := by have := KO.out k hlt; rwa [hy, Int.toNat_natCast] at this
          have hh := bit_hasnt O y (by omega)
          rw [hyb] at hh
          have r2 : (r : Int) < (q : Int) := by omega
          have r1 : (0 : Int) ≤ (r : Int) := by omega
          have k2 : (k : Int) < (q : Int) := by omega
          have hqne : (q : Int) ≠ 0 := by omega
          have HRV := Lib.hid hrv
          clear hyb hy hr hc0 hrv
          go_wp2_with (at_builtin; refine wpList_append_lies _ (by rfl) (.tmp 56) (.tmp 65) 23 (by rfl) w5.heap.size 3 i0 (.int .i64 0) 1 8 Try.underlying23 hi hz0 hz1 hz2 (by rfl) (by decide) rv k (cellsL k (revF q Y)) (by rfl) (HO.out.alloc _) ⟨_, 0, none⟩ 1 1 [.int .i64 (Y r)] (by rfl) (by rfl) (news_one (by simp)) (by simp [Value.oneCell']) (by omega) (by unfold maxLen; omega) (by omega) (by first | omega | (simp; omega)) _ rfl ?_; intro g2 cap2 w6 hown2 hgrow2 hat2 hlt2; have N2 := Lib.hid hown2; have B6 := Lib.hid ((Hb.out.alloc hsz (.cells #[.int .i64 (Y r)] 3)).grown hgrow2 (by simp; omega) (fun k hk => (HO.out.lt k hk).1)); have hcy := (B6.out.cell (p := ⟨bb, ob + k, none⟩) hbb).trans hc1; clear hown2 hgrow2 hat2)
          go_roundw
          case rel =>
            refine ⟨k + 1, by omega, by go_num, _, rfl, ?_, B6.out⟩
            have := N2.out
            rw [cellsL_snoc] at this
            rwa [cellsL_congr (Y := revF q Y) (fun j hj => by
              by_cases e : j < k
              · rw [if_pos e]
              · rw [if_neg e]; have : j = k := by omega
                subst this; exact HRV.out.symm)] at this
          case measure => simp [intOf]; omega
        · obtain rfl : q = k := by omega
          obtain ⟨gr, cr, rfl⟩ := owns_form hown (by omega)
          have RD := Lib.hid (owns_rd hown)
          have TI := Lib.hid (T5.out.below (Nat.le_refl _) Hb.out)
          have BI := Lib.hid (below_chain B5.out Hb.out)
          clear hown
          go_wp2_with fail
          refine (wantCircle_all m tc _ (turnW m X) q cr _ (revF q Y) _ (by omega) TI.out (by omega) RD.out).mono ?_
          rintro e w7 ⟨rfl, hb7⟩
          rw [K4.out]
          have B7 := Lib.hid (below_chain BI.out hb7)
          clear hb7
          go_wp2_with fail
          go_ret
          exact ⟨rfl, B7.out⟩
    · have K1 := Lib.hid (tt_no h)
      rw [K1.out]
      clear h
      go_wp2_with fail
      go_ret
      exact ⟨rfl, B3.out⟩
  · have hd : 1048576 < n := by omega
    clear hb hab
    go_enter Try.func4, Try.ntmps4
    go_wp2
    go_ret
    exact ⟨rfl, Below.refl _ _⟩
end Go.Proofs.Ytamglhpgdaoaoaa
