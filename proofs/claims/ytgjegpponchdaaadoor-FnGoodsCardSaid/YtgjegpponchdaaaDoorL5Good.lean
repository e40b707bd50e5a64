/- The model's l5Good. -/
import Derived.Test.YtgjegpponchdaaaDoorBlockGiv
import Derived.Test.YtgjegpponchdaaaDoorL3Blocks
namespace Go.Proofs.YtgjegpponchdaaaDoor
set_option linter.unusedVariables false
set_option linter.unusedSimpArgs false
open Go.RowKit

set_option maxHeartbeats 1600000 in
theorem l5Good_any (n c : Nat) (a : Option Addr) (A : Nat → Option Addr) (L C : Nat → Nat) (Z : Nat → Nat → Int) (M c2 : Nat) (a2 : Option Addr) (A2 : Nat → Option Addr) (C2 : Nat → Nat) (d : Nat) (g : Option Addr) (G : Nat → Int) (w : World) (hg : GivenOk n L Z n G) (hM2 : M = (givs n n []).length) (ha0 : Tab w a n A L C Z) (ht : Tab w a2 M A2 (lenL (givs n n [])) C2 (nthL (givs n n []))) (hb : Rd w g n G) :
    Calls Tryd.prog 34 #[.slice a n c, .slice a2 M c2, .slice g n d] w fun e w' => e = .returned (.bool (tt (GoodP n Z G))) ∧ Below w.heap.size w w' := by
  have hn2 := hg.1.1.1
  have hn5 := hg.1.1.2
  have HI := Lib.hid (good_iff hg)
  obtain ⟨LL, hLL⟩ : ∃ LL, LL = givs n n [] := ⟨_, rfl⟩
  rw [← hLL] at hM2 ht
  have QL := Lib.hid hLL
  have hM := Nat.le_trans (givs_le (n := n) hn5 n []) (Nat.pow_le_pow_right (show 0 < 6 by omega) hn5)
  rw [← hLL, ← hM2] at hM
  have QM := Lib.hid hM2
  have AT := Lib.hid (show ∀ x, x < M → LL.getD x [] ∈ givs n n [] ∧ lenL LL x = n ∧ IsDiff n n (nth (LL.getD x [])) from fun x hx => by
    rw [hM2] at hx
    have hm : LL.getD x [] ∈ LL := by
      rw [List.getD_eq_getElem?_getD, List.getElem?_eq_getElem hx]
      exact List.getElem_mem hx
    rw [hLL] at hm ⊢
    have h3 := (mem_givs n [] (Diff.nil n) (by simp) _).1 hm
    refine ⟨hm, h3.2.1, ?_⟩
    have h4 := h3.1
    unfold Diff at h4
    rwa [h3.2.1] at h4)
  have HA := Lib.hid ha0
  have HG := Lib.hid hg
  have HBB := Lib.hid hb
  have HO := Lib.hid ht
  have g2 : (2 : Nat) ^ n ≤ 32 := Nat.pow_le_pow_right (show 0 < 2 by omega) hn5
  have g1 : 1 ≤ (2 : Nat) ^ n := Nat.pow_pos (by omega)
  have hwp := wrap_pow (show n < 62 by omega)
  obtain ⟨E, hE⟩ : ∃ E, E = 2 ^ n := ⟨_, rfl⟩
  have QE := Lib.hid hE
  rw [← hE] at g1 g2 hwp
  clear hg ha0 hb ht hLL hM2 hE
  go_enter Tryd.func34, Tryd.ntmps34
  go_wp2
  go_loopw [7] (fun i wr => ∃ x : Nat, x ≤ M ∧ i = .int .i64 x ∧ Below w.heap.size w wr ∧ ∀ j, j < x → ¬ BetterP n Z (2 ^ n - 1) G (nth (LL.getD j []))) (fun i _ => M - (intOf i).toNat)
  case atStart => exact ⟨0, Nat.zero_le _, rfl, Below.refl _ _, fun j hj => by omega⟩
  case round =>
    obtain ⟨x, hx, rfl, hB, hno⟩ := hrel
    have BR := Lib.hid hB
    have NO := Lib.hid hno
    clear hB hno
    by_cases hlt : x < M
    · obtain ⟨hmem, hlen, hdd⟩ := AT.out x hlt
      obtain ⟨bt, ot, rfl, hct, hrow⟩ := (HO.out.below (Nat.le_refl _) BR.out) x hlt
      rw [hlen] at hct hrow
      have hrow2 : Rd wr _ n (nth (LL.getD x [])) := hrow
      have HC2 := Lib.hid (fun (r : Later wr) => (show Calls Tryd.prog 57 #[.slice a n c, .int .i64 ((E : Int) - 1), .slice g n d, .slice (A2 x) n (C2 x)] r.W fun e w' => e = .returned (.bool (tt (BetterP n Z (2 ^ n - 1) G (nth (LL.getD x []))))) ∧ Below r.W.heap.size r.W w' from by
        have hbw := BR.out.trans (r.h.mono BR.out.size)
        have h := l3Better_any (X := nth (LL.getD x [])) c a A L C d (C2 x) (A2 x) g r.W HG.out hdd (all_lt n) (HA.out.below (Nat.le_refl _) hbw) (HBB.out.below (Nat.le_refl _) hbw) (hrow2.below (Nat.le_refl _) r.h)
        rw [show ((2 ^ n - 1 : Nat) : Int) = (E : Int) - 1 by rw [← QE.out]; omega] at h
        exact h))
      have c1 : ∀ r : Later wr, r.W.cell? ⟨bt, ot + x, none⟩ = some (.slice (A2 x) n (C2 x)) := fun r => later_cell hct r
      have i1 : (0 : Int) ≤ (x : Int) := by omega
      have i2 : (x : Int) < (M : Int) := by omega
      have MEM := Lib.hid hmem
      clear hmem hlen hrow hrow2 hdd hct
      by_cases hb : BetterP n Z (2 ^ n - 1) G (nth (LL.getD x []))
      · have HF := Lib.hid (tt_no (show ¬ GoodP n Z G from fun h => HI.out.1 h _ MEM.out hb))
        have HC := Lib.hid (fun r : Later wr => (show Calls Tryd.prog 57 #[.slice a n c, .int .i64 ((E : Int) - 1), .slice g n d, .slice (A2 x) n (C2 x)] r.W fun e w' => e = .returned (.bool true) ∧ Below r.W.heap.size r.W w' from by
          have := HC2.out r
          rwa [tt_of hb] at this))
        clear hb HC2
        go_wp2
        refine wp_region_later (by kernel_rfl) (by kernel_rfl) ?_
        repeat go_big_quiet_step (((go_at_call 57; exact calls_later _ (HC.out _))))
        refine wpQuiet_nil ?_
        rintro _ ⟨r, rfl⟩
        have BL := Lib.hid (BR.out.trans (r.h.mono BR.out.size))
        clear HC c1
        go_wp2
        go_ret
        exact ⟨by rw [HF.out]; rfl, BL.out⟩
      · have HN := Lib.hid hb
        have HC := Lib.hid (fun r : Later wr => (show Calls Tryd.prog 57 #[.slice a n c, .int .i64 ((E : Int) - 1), .slice g n d, .slice (A2 x) n (C2 x)] r.W fun e w' => e = .returned (.bool false) ∧ Below r.W.heap.size r.W w' from by
          have := HC2.out r
          rwa [tt_no hb] at this))
        clear hb HC2
        go_wp2
        refine wp_region_later (by kernel_rfl) (by kernel_rfl) ?_
        repeat go_big_quiet_step (((go_at_call 57; exact calls_later _ (HC.out _))))
        refine wpQuiet_nil ?_
        rintro _ ⟨r, rfl⟩
        have BL := Lib.hid (BR.out.trans (r.h.mono BR.out.size))
        clear HC c1
        go_wp2
        go_roundw
        case rel => exact ⟨x + 1, by omega, by go_num, BL.out, fun j hj => by
          by_cases e : j = x
          · rw [e]; exact HN.out
          · exact NO.out j (by omega)⟩
        case measure => simp [intOf]; omega
    · obtain rfl : x = M := by omega
      have HF := Lib.hid (tt_of (HI.out.2 (fun D hD => by
        rw [← QL.out] at hD
        obtain ⟨j, hj, e⟩ := List.getElem_of_mem hD
        have := NO.out j (by rw [QM.out]; exact hj)
        rw [List.getD_eq_getElem?_getD, List.getElem?_eq_getElem hj, show (some LL[j]).getD [] = D from e] at this
        exact this)))
      go_wp2
      go_ret
      exact ⟨by rw [HF.out]; rfl, BR.out⟩
end Go.Proofs.YtgjegpponchdaaaDoor
