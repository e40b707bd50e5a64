/- The model's l5Take. -/
import Derived.Test.YtipfjblnanafnaaTakeModel
import Derived.Test.YtipfjblnanafnaaL3Point
import Derived.Test.YtipfjblnanafnaaBitsNot
import Derived.Test.YtipfjblnanafnaaLists
import Derived.Test.YtipfjblnanafnaaInfoInts
namespace Go.Proofs.Ytipfjblnanafnaa
set_option linter.unusedVariables false
set_option linter.unusedSimpArgs false
open Go.RowKit

/-- The set of those left without the one that is taken. -/
theorem takes_next {Z : Nat → Nat → Int} {n : Nat} {O : Nat → Int} {k M x : Nat} (hM : M < 2 ^ 62) (hx : x < 62) (hb : ∀ y, M.testBit y = tkS Z n O k y) (e : x = tkX Z n O k) :
    ∃ M' : Nat, bits .andNot .i64 (M : Int) (wrap64 (2 ^ x)) = (M' : Int) ∧ M' ≤ M ∧ ∀ y, M'.testBit y = tkS Z n O (k + 1) y := by
  obtain ⟨M', h1, h2, h3⟩ := bits_andNot_i64 M (2 ^ x) hM (two_pow_lt (by omega))
  rw [← wrap_pow hx] at h1
  refine ⟨M', h1, h2, fun y => ?_⟩
  rw [h3, Nat.testBit_two_pow, tkS_succ, hb, ← e]
  congr 2
  rw [decide_eq_decide]
  exact ⟨Eq.symm, Eq.symm⟩
theorem tkF_next {Z : Nat → Nat → Int} {n : Nat} {O : Nat → Int} {k p x : Nat} (hp : (O k).toNat = p) (e : x = tkX Z n O k) (y : Nat) : (if y = p then (x : Int) else tkF Z n O k y) = tkF Z n O (k + 1) y := by
  show _ = if y = (O k).toNat then (tkX Z n O k : Int) else tkF Z n O k y
  rw [hp, ← e]

set_option maxHeartbeats 1600000 in
theorem l5Take_any (n c d : Nat) (a b : Option Addr) (A : Nat → Option Addr) (L C : Nat → Nat) (Z : Nat → Nat → Int) (O : Nat → Int) (w : World) (hg : GivenOk n L Z n O) (ha0 : Tab w a n A L C Z) (hb0 : Rd w b n O) :
    Calls Try.prog 39 #[.slice a n c, .slice b n d] w (RetI n (tkF Z n O n) w) := by
  have hn5 := hg.1.1.2
  have hn2 := hg.1.1.1
  have HA := Lib.hid ha0
  have HBB := Lib.hid hb0
  have HG := Lib.hid hg
  have hmk := run_make_row' (P := Try.prog) 23 3 (.int .i64 0) 8 Try.underlying23 Try.infoInt rfl .i64 .i64 n (by omega) (by omega)
  obtain ⟨M0, hM0⟩ : ∃ M0, M0 = 2 ^ n - 1 := ⟨_, rfl⟩
  have hp : 2 ^ n ≤ 2 ^ 5 := Nat.pow_le_pow_right (by omega) hn5
  have hp1 := Nat.two_pow_pos n
  have hfull : wrap64 (wrap64 (2 ^ n) - 1) = (M0 : Int) := by
    rw [wrap_pow (show n < 62 by omega), IntWalk.wrap64_in _ (by omega)]; omega
  have HM0 := Lib.hid (show M0 ≤ 31 ∧ ∀ y, M0.testBit y = tkS Z n O 0 y from ⟨by omega, fun y => by rw [hM0, Nat.testBit_two_pow_sub_one]; rfl⟩)
  have HFl := Lib.hid hfull
  clear ha0 hb0 hg hM0 hp hp1 hfull
  go_enter Try.func39, Try.ntmps39
  go_wp2
  clear hmk
  have R0 := Lib.hid ((World.rowIs_made w (.int .i64 0) n 3).congr (g := fun y => .int .i64 (tkF Z n O 0 y)) (fun y _ => rfl))
  have B0 := Lib.hid (below_alloc (Below.refl _ w) (.cells (madeCells #[.int .i64 0] n) 3))
  go_loopw [6, 7, 8] (fun lf s _ wr => ∃ k M : Nat, k ≤ n ∧ s = .int .i64 k ∧ lf = .int .i64 M ∧ M ≤ 31 ∧ (∀ y, M.testBit y = tkS Z n O k y) ∧ wr.rowIs w.heap.size 3 n (fun y => .int .i64 (tkF Z n O k y)) ∧ Below w.heap.size w wr) (fun _ s _ _ => n - (intOf s).toNat)
  case atStart => exact ⟨0, M0, Nat.zero_le _, rfl, by rw [HFl.out], HM0.out.1, HM0.out.2, R0.out, B0.out⟩
  case round =>
    obtain ⟨k, M, hk, rfl, rfl, hM, hbit, hrow, hB⟩ := hrel
    clear R0 B0
    by_cases hlt : k < n
    · obtain ⟨bo, oo, rfl, hco⟩ := HBB.out.below (Nat.le_refl _) hB k hlt
      obtain ⟨p, hOp, hpn⟩ := diff_nat HG.out.2.2 hlt
      rw [hOp] at hco
      have hOn : (O k).toNat = p := by rw [hOp]; rfl
      obtain ⟨ba, oa, rfl, hca, hra⟩ := HA.out.below (Nat.le_refl _) hB p hpn
      rw [(HG.out.1.2 p hpn).1] at hca hra
      obtain ⟨x, hx⟩ : ∃ x, x = tkX Z n O k := ⟨_, rfl⟩
      have hxn : x < n := by rw [hx]; exact tkX_lt HG.out.1 (by omega) hlt
      obtain ⟨M', hand, hle, hbit'⟩ := takes_next (by omega) (show x < 62 by omega) hbit hx
      have HB' := Lib.hid hbit'
      have HP := Lib.hid (show Calls Try.prog 61 #[.slice (A p) n (C p), .int .i64 (M : Nat)] wr fun e w' => e = .returned (.int .i64 (x : Nat)) ∧ wr = w' from by
        have h := l3Point_any n (C p) M (A p) (Z p) wr hn5 (by omega) (HG.out.1.2 p hpn).2 hra
        have e : ptN (Z p) M.testBit n = x := by
          rw [hx]; unfold tkX ptS; rw [hOn, show M.testBit = tkS Z n O k from funext hbit]
        rwa [e] at h)
      have hc1 := hrow.cell hpn
      have hf1 := hrow.frozen p
      have HN := Lib.hid ((hrow.set p (.int .i64 (x : Nat))).congr (g := fun y => .int .i64 (tkF Z n O (k + 1) y)) (fun y _ => by
        rw [← tkF_next hOn hx y]
        by_cases e : y = p
        · rw [if_pos e, if_pos e]
        · rw [if_neg e, if_neg e]))
      have HBn := Lib.hid hB
      have i1 : (0 : Int) ≤ (p : Int) := by omega
      have i2 : (p : Int) < (n : Int) := by omega
      clear hbit hbit' hOp hOn hx hrow hB hra
      go_wp2_with (go_at_call 61; refine HP.out.mono ?_; rintro e w' ⟨rfl, rfl⟩)
      clear hand
      go_roundw
      case rel => exact ⟨k + 1, M', by omega, by go_num, rfl, by omega, HB'.out, HN.out, HBn.out.setCell (Nat.le_refl _) _⟩
      case measure => simp [intOf]; omega
    · obtain rfl : k = n := by omega
      have HR := Lib.hid hrow
      have HB := Lib.hid hB
      clear hrow hB
      go_wp2
      go_ret
      exact ⟨_, _, rfl, ⟨Nat.le_refl _, HR.out.lt, Nat.le_refl _⟩, OwnR.of_row HR.out, HB.out⟩
end Go.Proofs.Ytipfjblnanafnaa
