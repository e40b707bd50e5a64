/- The model's l3Better. -/
import Derived.Test.YtfhkbjheleojmaaDoorL3Own
namespace Go.Proofs.YtfhkbjheleojmaaDoor
set_option linter.unusedVariables false
set_option linter.unusedSimpArgs false
open Go.RowKit

/-- One of the first k of S likes X better. -/
def SomeB (Z : Nat → Nat → Int) (n S : Nat) (G X : Nat → Int) (k : Nat) : Prop := ∃ i, i < k ∧ S.testBit i = true ∧ idxF (Z i) (X i) n < idxF (Z i) (G i) n
def NoneW (Z : Nat → Nat → Int) (n S : Nat) (G X : Nat → Int) (k : Nat) : Prop := ∀ i, i < k → S.testBit i = true → idxF (Z i) (X i) n ≤ idxF (Z i) (G i) n
variable {Z : Nat → Nat → Int} {n S k : Nat} {G X : Nat → Int}
theorem noneW_zero : NoneW Z n S G X 0 := fun i hi => by omega
theorem noneW_succ (h : NoneW Z n S G X k) (hk : S.testBit k = true → idxF (Z k) (X k) n ≤ idxF (Z k) (G k) n) : NoneW Z n S G X (k + 1) := fun i hi hs => by
  by_cases e : i = k
  · subst e; exact hk hs
  · exact h i (by omega) hs
theorem someB_zero : tt (SomeB Z n S G X 0) = false := tt_no (fun ⟨i, hi, _⟩ => by omega)
theorem someB_out (h : S.testBit k = false) : tt (SomeB Z n S G X (k + 1)) = tt (SomeB Z n S G X k) := tt_congr ⟨fun ⟨i, h1, h2, h3⟩ => ⟨i, by
    by_cases e : i = k
    · subst e; rw [h] at h2; cases h2
    · omega, h2, h3⟩, fun ⟨i, h1, h2, h3⟩ => ⟨i, by omega, h2, h3⟩⟩
theorem someB_in {pb pa : Int} (h : S.testBit k = true) (hb : pb = idxF (Z k) (X k) n) (ha : pa = idxF (Z k) (G k) n) : tt (SomeB Z n S G X (k + 1)) = (tt (SomeB Z n S G X k) || decide (pb < pa)) := by
  by_cases h1 : SomeB Z n S G X k
  · rw [tt_of h1, tt_of (show SomeB Z n S G X (k + 1) from by obtain ⟨i, h2, h3, h4⟩ := h1; exact ⟨i, by omega, h3, h4⟩)]; rfl
  · by_cases h2 : pb < pa
    · rw [tt_no h1, tt_of (show SomeB Z n S G X (k + 1) from ⟨k, by omega, h, by rw [← hb, ← ha]; exact h2⟩), decide_eq_true h2]; rfl
    · rw [tt_no h1, decide_eq_false h2, tt_no (show ¬ SomeB Z n S G X (k + 1) from fun ⟨i, h3, h4, h5⟩ => by
        by_cases e : i = k
        · subst e; rw [← hb, ← ha] at h5; exact h2 h5
        · exact h1 ⟨i, by omega, h4, h5⟩)]; rfl

set_option maxHeartbeats 3200000 in
theorem l3Better_any (c : Nat) (a : Option Addr) (A : Nat → Option Addr) (L C : Nat → Nat) (d e : Nat) (b g : Option Addr) (w : World) (hg : GivenOk n L Z n G) (hd : IsDiff n n X) (hS : S < 2 ^ n) (ha0 : Tab w a n A L C Z) (hb : Rd w g n G) (hx : Rd w b n X) :
    Calls Tryd.prog 58 #[.slice a n c, .int .i64 (S : Nat), .slice g n d, .slice b n e] w fun e w' => e = .returned (.bool (tt (BetterP n Z S G X))) ∧ Below w.heap.size w w' := by
  have hn5 := hg.1.1.2
  have HG := Lib.hid hg
  have HA := Lib.hid ha0
  have HB := Lib.hid hb
  have HX := Lib.hid hx
  have HD := Lib.hid hd
  have HS := Lib.hid hS
  clear hg ha0 hb hx hd hS
  go_enter Tryd.func58, Tryd.ntmps58
  go_wp2
  go_loopw [9, 10, 11, 12] (fun sm s _ _ wr => ∃ k : Nat, k ≤ n ∧ s = .int .i64 k ∧ sm = .bool (tt (SomeB Z n S G X k)) ∧ Below w.heap.size w wr ∧ NoneW Z n S G X k) (fun _ s _ _ _ => n - (intOf s).toNat)
  case atStart => exact ⟨0, Nat.zero_le _, rfl, by rw [someB_zero], Below.refl _ _, noneW_zero⟩
  case round =>
    obtain ⟨k, hk, rfl, rfl, hBw, hno⟩ := hrel
    have BR := Lib.hid hBw
    have NO := Lib.hid hno
    clear hBw hno
    by_cases hlt : k < n
    · have hhas := bit_none S k (Nat.lt_trans HS.out (two_pow_lt (by omega)))
      by_cases hbk : S.testBit k = true
      · rw [hbk] at hhas
        have hhas : (bits .and .i64 ((S : Int) / 2 ^ k) 1 == 0) = false := hhas
        obtain ⟨bg, og, rfl, hgc⟩ := (HB.out.below (Nat.le_refl _) BR.out) k hlt
        obtain ⟨bx, ox, rfl, hxc⟩ := (HX.out.below (Nat.le_refl _) BR.out) k hlt
        obtain ⟨ba, oa, rfl, hca, hra⟩ := (HA.out.below (Nat.le_refl _) BR.out) k hlt
        rw [(HG.out.1.2 k hlt).1] at hca hra
        have h1 := wishes_has HG.out.1 hlt (HG.out.at hlt)
        have h2 := wishes_has HG.out.1 hlt (show InR (X k) 0 ((n : Int) - 1) from by have := HD.out.1 k hlt; exact ⟨this.1, by have := this.2; omega⟩)
        obtain ⟨x, hxx⟩ : ∃ x, x = G k := ⟨_, rfl⟩
        obtain ⟨y, hyy⟩ : ∃ y, y = X k := ⟨_, rfl⟩
        rw [← hxx] at hgc h1
        rw [← hyy] at hxc h2
        obtain ⟨pa, hpa⟩ : ∃ p, p = idxF (Z k) x n := ⟨_, rfl⟩
        obtain ⟨pb, hpb⟩ : ∃ p, p = idxF (Z k) y n := ⟨_, rfl⟩
        have RA := Lib.hid hra
        have KA := Lib.hid (show ∀ (z p : Int), HasI n (Z k) z → p = idxF (Z k) z n → ∀ (w2 : World), Below wr.heap.size wr w2 → ∀ r : Later w2, Calls Tryd.prog 62 #[.slice (A k) n (C k), .int .i64 z] r.W fun e w' => e = .returned (.int .i64 p) ∧ Below r.W.heap.size r.W w' from fun z p hz hp w2 h2 r => by
          refine (l3At_any n (C k) (A k) (Z k) z _ (by omega) (RA.out.below (Nat.le_refl _) (h2.trans ((Later.h r).mono h2.size)))).mono ?_
          rintro e w' ⟨rfl, rfl⟩
          exact ⟨by rw [hp, atL_has hz], Below.refl _ _⟩)
        have I1 := Lib.hid (KA.out x pa h1 hpa)
        have I2 := Lib.hid (KA.out y pb h2 hpb)
        have c1 : ∀ r : Later wr, r.W.cell? ⟨ba, oa + k, none⟩ = some (.slice (A k) n (C k)) := fun r => later_cell hca r
        have c2 : ∀ r : Later wr, r.W.cell? ⟨bg, og + k, none⟩ = some (.int .i64 x) := fun r => later_cell hgc r
        have c3 := Lib.hid (show ∀ w2, Below wr.heap.size wr w2 → ∀ r : Later w2, r.W.cell? ⟨ba, oa + k, none⟩ = some (.slice (A k) n (C k)) from fun w2 h2 r => later_cell hca ⟨r.W, h2.trans (r.h.mono h2.size)⟩)
        have c4 := Lib.hid (show ∀ w2, Below wr.heap.size wr w2 → ∀ r : Later w2, r.W.cell? ⟨bx, ox + k, none⟩ = some (.int .i64 y) from fun w2 h2 r => later_cell hxc ⟨r.W, h2.trans (r.h.mono h2.size)⟩)
        have i1 : (0 : Int) ≤ (k : Int) := by omega
        have i2 : (k : Int) < (n : Int) := by omega
        have SI := Lib.hid (someB_in (Z := Z) (G := G) (X := X) hbk (show pb = idxF (Z k) (X k) n by rw [hpb, hyy]) (show pa = idxF (Z k) (G k) n by rw [hpa, hxx]))
        have HW := Lib.hid (show NoneW Z n S G X n → pb ≤ pa from fun h => by rw [hpb, hpa, hyy, hxx]; exact h k hlt hbk)
        have HNX := Lib.hid (show pb ≤ pa → NoneW Z n S G X (k + 1) from fun h => noneW_succ NO.out fun _ => by rw [← hyy, ← hxx, ← hpb, ← hpa]; exact h)
        clear hbk hgc hxc hca hra h1 h2 hxx hyy hpa hpb KA
        by_cases hle : pb ≤ pa
        · have d1 : decide (pa < pb) = false := decide_eq_false (by omega)
          have NX := Lib.hid (HNX.out hle)
          clear HNX HW
          by_cases hs : SomeB Z n S G X k
          · have T1 : tt (SomeB Z n S G X k) = true := tt_of hs
            rw [T1]
            rw [T1] at SI
            have SJ := Lib.hid (show tt (SomeB Z n S G X (k + 1)) = true by rw [SI.out]; rfl)
            go_wp2
            refine wp_region_later (by kernel_rfl) (by kernel_rfl) ?_
            repeat go_big_quiet_step ((go_at_call 62; exact calls_later _ (I1.out _ (Below.refl _ _) _)))
            refine wpQuiet_nil ?_
            rintro _ ⟨r, rfl⟩
            have J2 := Lib.hid (I2.out _ r.h)
            have c5 := c3.out _ r.h
            have c6 := c4.out _ r.h
            clear I1 I2 c1 c2 c3 c4
            go_wp2
            refine wp_region_later (by kernel_rfl) (by kernel_rfl) ?_
            repeat go_big_quiet_step ((go_at_call 62; exact calls_later _ (J2.out _)))
            refine wpQuiet_nil ?_
            rintro _ ⟨r2, rfl⟩
            have B2 := Lib.hid (BR.out.trans ((r.h.trans (r2.h.mono r.h.size)).mono BR.out.size))
            go_wp2
            go_roundw
            case rel => exact ⟨k + 1, by omega, by go_num, by rw [SJ.out], B2.out, NX.out⟩
            case measure => simp [intOf]; omega
          · have T1 : tt (SomeB Z n S G X k) = false := tt_no hs
            rw [T1]
            rw [T1] at SI
            have SJ := Lib.hid (show tt (SomeB Z n S G X (k + 1)) = decide (pb < pa) by rw [SI.out]; rfl)
            go_wp2
            refine wp_region_later (by kernel_rfl) (by kernel_rfl) ?_
            repeat go_big_quiet_step ((go_at_call 62; exact calls_later _ (I1.out _ (Below.refl _ _) _)))
            refine wpQuiet_nil ?_
            rintro _ ⟨r, rfl⟩
            have J2 := Lib.hid (I2.out _ r.h)
            have c5 := c3.out _ r.h
            have c6 := c4.out _ r.h
            clear I1 I2 c1 c2 c3 c4
            go_wp2
            refine wp_region_later (by kernel_rfl) (by kernel_rfl) ?_
            repeat go_big_quiet_step ((go_at_call 62; exact calls_later _ (J2.out _)))
            refine wpQuiet_nil ?_
            rintro _ ⟨r2, rfl⟩
            have B2 := Lib.hid (BR.out.trans ((r.h.trans (r2.h.mono r.h.size)).mono BR.out.size))
            go_wp2
            go_roundw
            case rel => exact ⟨k + 1, by omega, by go_num, by rw [SJ.out], B2.out, NX.out⟩
            case measure => simp [intOf]; omega
        · have d1 : decide (pa < pb) = true := decide_eq_true (by omega)
          have HF := Lib.hid (tt_no (show ¬ BetterP n Z S G X from fun h => hle (HW.out h.1)))
          clear HNX HW
          go_wp2
          refine wp_region_later (by kernel_rfl) (by kernel_rfl) ?_
          repeat go_big_quiet_step ((go_at_call 62; exact calls_later _ (I1.out _ (Below.refl _ _) _)))
          refine wpQuiet_nil ?_
          rintro _ ⟨r, rfl⟩
          have J2 := Lib.hid (I2.out _ r.h)
          have c5 := c3.out _ r.h
          have c6 := c4.out _ r.h
          clear I1 I2 c1 c2 c3 c4
          go_wp2
          refine wp_region_later (by kernel_rfl) (by kernel_rfl) ?_
          repeat go_big_quiet_step ((go_at_call 62; exact calls_later _ (J2.out _)))
          refine wpQuiet_nil ?_
          rintro _ ⟨r2, rfl⟩
          have B2 := Lib.hid (BR.out.trans ((r.h.trans (r2.h.mono r.h.size)).mono BR.out.size))
          go_wp2
          go_ret
          exact ⟨by rw [HF.out]; rfl, B2.out⟩
      · have hb' : S.testBit k = false := by simpa using hbk
        rw [hb'] at hhas
        have hhas : (bits .and .i64 ((S : Int) / 2 ^ k) 1 == 0) = true := hhas
        have HSM := Lib.hid (someB_out (Z := Z) (n := n) (G := G) (X := X) hb')
        have NX := Lib.hid (noneW_succ NO.out (fun h => absurd h hbk))
        clear hbk hb'
        go_wp2
        go_roundw
        case rel => exact ⟨k + 1, by omega, by go_num, by rw [HSM.out], BR.out, NX.out⟩
        case measure => simp [intOf]; omega
    · obtain rfl : k = n := by omega
      have HE := Lib.hid (show tt (SomeB Z k S G X k) = tt (BetterP k Z S G X) from tt_congr ⟨fun h => ⟨NO.out, h⟩, fun h => h.2⟩)
      go_wp2
      go_ret
      exact ⟨by rw [HE.out]; rfl, BR.out⟩
end Go.Proofs.YtfhkbjheleojmaaDoor
