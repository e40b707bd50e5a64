/- The model's l4May. -/
import Derived.Test.YtgjegpponchdaaaDoorWishes
import Derived.Test.YtgjegpponchdaaaDoorL3At
import Derived.Test.YtgjegpponchdaaaDoorSeq
namespace Go.Proofs.YtgjegpponchdaaaDoor
set_option linter.unusedVariables false
set_option linter.unusedSimpArgs false
open Go.RowKit

set_option maxHeartbeats 3200000 in
theorem l4May_any (n c i k : Nat) (a : Option Addr) (A : Nat → Option Addr) (L C : Nat → Nat) (Z : Nat → Nat → Int) (d : Nat) (b : Option Addr) (G : Nat → Int) (w : World) (hg : GivenOk n L Z n G) (ha0 : Tab w a n A L C Z) (hb : Rd w b n G) (hi : i < n) (hk : k < n) :
    Calls Tryd.prog 74 #[.slice a n c, .slice b n d, .int .i64 i, .int .i64 k] w fun e w' => e = .returned (.bool (tt (MayP n Z G i k))) ∧ Below w.heap.size w w' := by
  have hn5 := hg.1.1.2
  obtain ⟨ba, oa, rfl, hcai, hri⟩ := ha0 i hi
  obtain ⟨ba', oa', he, hcak, hrk⟩ := ha0 k hk
  simp only [Option.some.injEq, Addr.mk.injEq, and_true] at he
  obtain ⟨rfl, rfl⟩ := he
  rw [(hg.1.2 i hi).1] at hcai hri
  rw [(hg.1.2 k hk).1] at hcak hrk
  obtain ⟨bg, og, rfl, hgi⟩ := hb i hi
  obtain ⟨bg', og', he, hgk⟩ := hb k hk
  simp only [Option.some.injEq, Addr.mk.injEq, and_true] at he
  obtain ⟨rfl, rfl⟩ := he
  have hxi := wishes_has hg.1 hi (hg.at hi)
  have hyi := wishes_has hg.1 hi (hg.at hk)
  have hxk := wishes_has hg.1 hk (hg.at hi)
  have hyk := wishes_has hg.1 hk (hg.at hk)
  obtain ⟨x, hx⟩ : ∃ x, x = G i := ⟨_, rfl⟩
  obtain ⟨y, hy⟩ : ∃ y, y = G k := ⟨_, rfl⟩
  rw [← hx] at hgi hxi hxk
  rw [← hy] at hgk hyi hyk
  have RI := Lib.hid hri
  have RK := Lib.hid hrk
  obtain ⟨pyi, hpyi⟩ : ∃ p, p = idxF (Z i) y n := ⟨_, rfl⟩
  obtain ⟨pxi, hpxi⟩ : ∃ p, p = idxF (Z i) x n := ⟨_, rfl⟩
  obtain ⟨pxk, hpxk⟩ : ∃ p, p = idxF (Z k) x n := ⟨_, rfl⟩
  obtain ⟨pyk, hpyk⟩ : ∃ p, p = idxF (Z k) y n := ⟨_, rfl⟩
  have KI := Lib.hid (show ∀ (z p : Int), HasI n (Z i) z → p = idxF (Z i) z n → ∀ r : Later w, Calls Tryd.prog 58 #[.slice (A i) n (C i), .int .i64 z] r.W fun e w' => e = .returned (.int .i64 p) ∧ Below r.W.heap.size r.W w' from fun z p hz hp r => by
    refine (l3At_any n (C i) (A i) (Z i) z _ (by omega) (RI.out.below (Nat.le_refl _) (Later.h _))).mono ?_
    rintro e w' ⟨rfl, rfl⟩
    exact ⟨by rw [hp, atL_has hz], Below.refl _ _⟩)
  have KK := Lib.hid (show ∀ (z p : Int), HasI n (Z k) z → p = idxF (Z k) z n → ∀ r : Later w, Calls Tryd.prog 58 #[.slice (A k) n (C k), .int .i64 z] r.W fun e w' => e = .returned (.int .i64 p) ∧ Below r.W.heap.size r.W w' from fun z p hz hp r => by
    refine (l3At_any n (C k) (A k) (Z k) z _ (by omega) (RK.out.below (Nat.le_refl _) (Later.h _))).mono ?_
    rintro e w' ⟨rfl, rfl⟩
    exact ⟨by rw [hp, atL_has hz], Below.refl _ _⟩)
  have I1 := Lib.hid (KI.out y pyi hyi hpyi)
  have I2 := Lib.hid (KI.out x pxi hxi hpxi)
  have I3 := Lib.hid (KK.out x pxk hxk hpxk)
  have I4 := Lib.hid (KK.out y pyk hyk hpyk)
  have HM := Lib.hid (show MayP n Z G i k ↔ pyi < pxi ∧ pxk < pyk by rw [hpyi, hpxi, hpxk, hpyk, hx, hy]; exact Iff.rfl)
  have c1 : ∀ r : Later w, r.W.cell? ⟨ba, oa + i, none⟩ = some (.slice (A i) n (C i)) := fun r => later_cell hcai r
  have c2 : ∀ r : Later w, r.W.cell? ⟨ba, oa + k, none⟩ = some (.slice (A k) n (C k)) := fun r => later_cell hcak r
  have c3 : ∀ r : Later w, r.W.cell? ⟨bg, og + i, none⟩ = some (.int .i64 x) := fun r => later_cell hgi r
  have c4 : ∀ r : Later w, r.W.cell? ⟨bg, og + k, none⟩ = some (.int .i64 y) := fun r => later_cell hgk r
  have i1 : (0 : Int) ≤ (i : Int) := by omega
  have i2 : (i : Int) < (n : Int) := by omega
  have k1 : (0 : Int) ≤ (k : Int) := by omega
  have k2 : (k : Int) < (n : Int) := by omega
  clear hg ha0 hb hcai hcak hri hrk hgi hgk hxi hyi hxk hyk hx hy hpyi hpxi hpxk hpyk KI KK
  by_cases h1 : pyi < pxi
  · have d1 : decide (pyi < pxi) = true := decide_eq_true h1
    have HE := Lib.hid (show decide (pxk < pyk) = tt (MayP n Z G i k) from by
      by_cases h2 : pxk < pyk
      · rw [tt_of (HM.out.2 ⟨h1, h2⟩)]; exact decide_eq_true h2
      · rw [tt_no (fun h => h2 (HM.out.1 h).2)]; exact decide_eq_false h2)
    go_enter Tryd.func74, Tryd.ntmps74
    go_wp2
    refine wp_region_later (by kernel_rfl) (by kernel_rfl) ?_
    iterate 9 go_big_quiet_step ((go_at_call 58; exact calls_later _ (I1.out _)))
    clear I1
    iterate 9 go_big_quiet_step ((go_at_call 58; exact calls_later _ (I2.out _)))
    clear I2
    iterate 11 go_big_quiet_step ((go_at_call 58; exact calls_later _ (I3.out _)))
    clear I3
    repeat go_big_quiet_step ((go_at_call 58; exact calls_later _ (I4.out _)))
    refine wpQuiet_nil ?_
    rintro _ ⟨r, rfl⟩
    go_wp2
    go_ret
    exact ⟨by rw [← HE.out]; rfl, r.h⟩
  · have d1 : decide (pyi < pxi) = false := decide_eq_false h1
    have HE := Lib.hid (tt_no (show ¬ MayP n Z G i k from fun h => h1 (HM.out.1 h).1))
    go_enter Tryd.func74, Tryd.ntmps74
    go_wp2
    refine wp_region_later (by kernel_rfl) (by kernel_rfl) ?_
    iterate 9 go_big_quiet_step ((go_at_call 58; exact calls_later _ (I1.out _)))
    clear I1
    repeat go_big_quiet_step ((go_at_call 58; exact calls_later _ (I2.out _)))
    refine wpQuiet_nil ?_
    rintro _ ⟨r, rfl⟩
    go_wp2
    go_ret
    exact ⟨by rw [HE.out]; rfl, r.h⟩
end Go.Proofs.YtgjegpponchdaaaDoor
