/- The program's everybody, blocks and firm. -/
import Derived.Test.YtfhkbjheleojmaaDoorImproves
namespace Go.Proofs.YtfhkbjheleojmaaDoor
set_option linter.unusedVariables false
set_option linter.unusedSimpArgs false
open Go.RowKit

theorem everybody_any (n c : Nat) (a : Option Addr) (w : World) (hn : n ≤ 5) :
    Calls Tryd.prog 37 #[.slice a n c] w fun e w' => e = .returned (.int .i64 (((2 ^ n : Nat) : Int) - 1)) ∧ w = w' := by
  have hw := wrap_pow (show n < 62 by omega)
  have h2 : (2 : Nat) ^ n ≤ 32 := Nat.pow_le_pow_right (show 0 < 2 by omega) hn
  have h1 : 1 ≤ (2 : Nat) ^ n := Nat.pow_pos (by omega)
  have e : ((2 ^ n : Nat) : Int) = (2 : Int) ^ n := by simp
  have hw1 := Lib.hid (show Ending.returned (Value.int .i64 (wrap64 (2 ^ n - 1))) = .returned (.int .i64 (((2 ^ n : Nat) : Int) - 1)) by
    rw [← e, IntWalk.wrap64_in _ ⟨by omega, by omega⟩])
  clear e
  go_enter Tryd.func37, Tryd.ntmps37
  go_wp2
  go_ret
  exact ⟨hw1.out, rfl⟩

theorem blocks_any (n c : Nat) (a : Option Addr) (A : Nat → Option Addr) (L C : Nat → Nat) (Z : Nat → Nat → Int) (d : Nat) (g : Option Addr) (G : Nat → Int) (S : Nat) (w : World) (hg : GivenOk n L Z n G) (hS : S < 2 ^ n) (ha : Tab w a n A L C Z) (hb : Rd w g n G) (hT : TzAt w) :
    Calls Tryd.prog 38 #[.slice a n c, .slice g n d, .int .i64 (S : Nat)] w fun e w' => e = .returned (.bool (tt (BlocksP n Z G S))) ∧ Below w.heap.size w w' := by
  have H := Lib.hid (improves_any n c a A L C Z d g G hg S S false w hS hS ha hb hT)
  clear hg ha hb hT
  go_enter Tryd.func38, Tryd.ntmps38
  go_wp2_with (go_at_call 60; refine H.out.mono ?_; rintro e w1 ⟨rfl, hb1⟩; have B1 := Lib.hid hb1; clear hb1)
  go_ret
  exact ⟨rfl, B1.out⟩

set_option maxHeartbeats 800000 in
theorem firm_any (n c : Nat) (a : Option Addr) (A : Nat → Option Addr) (L C : Nat → Nat) (Z : Nat → Nat → Int) (d : Nat) (g : Option Addr) (G : Nat → Int) (w : World) (hg : GivenOk n L Z n G) (ha : Tab w a n A L C Z) (hb : Rd w g n G) (hT : TzAt w) :
    Calls Tryd.prog 40 #[.slice a n c, .slice g n d] w fun e w' => e = .returned (.bool (tt (FirmP n Z G))) ∧ Below w.heap.size w w' := by
  have hn5 := hg.1.1.2
  have h2 : (2 : Nat) ^ n ≤ 32 := Nat.pow_le_pow_right (show 0 < 2 by omega) hn5
  have h1 : 1 ≤ (2 : Nat) ^ n := Nat.pow_pos (by omega)
  have HB := Lib.hid (fun (S : Nat) (hS : S < 2 ^ n) w1 (h : Below w.heap.size w w1) => blocks_any n c a A L C Z d g G S w1 hg hS (ha.below (Nat.le_refl _) h) (hb.below (Nat.le_refl _) h) (hT.below (Nat.le_refl _) h))
  obtain ⟨E, hE⟩ : ∃ E, E = 2 ^ n := ⟨_, rfl⟩
  have QE := Lib.hid hE
  rw [← hE] at h1 h2
  clear hg ha hb hT hE
  go_enter Tryd.func40, Tryd.ntmps40
  go_wp2
  go_loopw [5] (fun s wr => ∃ k : Nat, 1 ≤ k ∧ k ≤ E ∧ s = .int .i64 k ∧ Below w.heap.size w wr ∧ ∀ S, 1 ≤ S → S < k → ¬ BlocksP n Z G S) (fun s _ => E - (intOf s).toNat)
  case atStart => exact ⟨1, Nat.le_refl _, h1, rfl, Below.refl _ _, fun S h1 h2 => by omega⟩
  case round =>
    obtain ⟨k, hk1, hk2, rfl, hB, hno⟩ := hrel
    have BR := Lib.hid hB
    have NO := Lib.hid hno
    clear hB hno
    by_cases hlt : k < E
    · have d1 : decide ((k : Int) ≤ (E : Int) - 1) = true := by simp; omega
      have HC := Lib.hid (HB.out k (by rw [← QE.out]; exact hlt) _ BR.out)
      by_cases hbk : BlocksP n Z G k
      · have T1 := Lib.hid (tt_of hbk)
        have HF := Lib.hid (tt_no (show ¬ FirmP n Z G from fun h => h k hk1 (by rw [← QE.out]; exact hlt) hbk))
        clear hbk
        go_wp2_with (first
          | (go_at_call 37; refine (everybody_any n c a _ hn5).mono ?_; rintro e w' ⟨rfl, rfl⟩; rw [← QE.out])
          | (go_at_call 38; refine HC.out.mono ?_; rintro e w1 ⟨rfl, hb1⟩; rw [T1.out]; have B1 := Lib.hid (BR.out.trans (hb1.mono BR.out.size)); clear hb1))
        go_ret
        exact ⟨by rw [HF.out]; rfl, B1.out⟩
      · have T1 := Lib.hid (tt_no hbk)
        have HN := Lib.hid hbk
        clear hbk
        go_wp2_with (first
          | (go_at_call 37; refine (everybody_any n c a _ hn5).mono ?_; rintro e w' ⟨rfl, rfl⟩; rw [← QE.out])
          | (go_at_call 38; refine HC.out.mono ?_; rintro e w1 ⟨rfl, hb1⟩; rw [T1.out]; have B1 := Lib.hid (BR.out.trans (hb1.mono BR.out.size)); clear hb1))
        go_roundw
        case rel => exact ⟨k + 1, by omega, by omega, by go_num, B1.out, fun S h1 h2 => by
          by_cases e : S = k
          · rw [e]; exact HN.out
          · exact NO.out S h1 (by omega)⟩
        case measure => simp [intOf]; omega
    · obtain rfl : k = E := by omega
      have d1 : decide ((k : Int) ≤ (k : Int) - 1) = false := by simp; omega
      have HF := Lib.hid (tt_of (show FirmP n Z G from fun S h1 h2 => NO.out S h1 (by rw [QE.out]; exact h2)))
      go_wp2_with (go_at_call 37; refine (everybody_any n c a _ hn5).mono ?_; rintro e w' ⟨rfl, rfl⟩; rw [← QE.out])
      go_ret
      exact ⟨by rw [HF.out]; rfl, BR.out⟩
end Go.Proofs.YtfhkbjheleojmaaDoor
