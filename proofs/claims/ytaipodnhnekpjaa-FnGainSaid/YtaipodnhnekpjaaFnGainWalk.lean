/- The walk of the law FnGain: it answers true at every code that can be read. -/
import Derived.Test.YtaipodnhnekpjaaDrawFairGain
import Derived.Test.YtaipodnhnekpjaaFairGainF
import Derived.Test.YtaipodnhnekpjaaSpecFairGain
import Derived.Test.YtaipodnhnekpjaaFnBidModel
namespace Go.Proofs.Ytaipodnhnekpjaa
set_option linter.unusedVariables false
open Go.RowKit

set_option maxHeartbeats 3200000 in
theorem fnGain_walk (n c : Nat) (a : Option Addr) (B : Nat → Nat) (w : World) (hc : n ≤ c) (hb : RdB w a n B) (hab : 0 < n → ∀ b o, a = some ⟨b, o, none⟩ → b < w.heap.size) :
    Calls Try.prog 14 #[.slice a n c] w fun e w' => e = .returned (.bool true) ∧ Below w.heap.size w w' := by
  by_cases hfit : n ≤ 1048576
  · have hd : ¬ (1048576 < n) := by omega
    have HD := Lib.hid (drawFairGain_any n c a B w hfit hc hb hab)
    clear hb hab
    go_enter Try.func14, Try.ntmps14
    go_wp2_with fail
    refine HD.out.mono ?_
    rintro e w1 ⟨ga, N, gc, A, L, C, Z, b, q, d, P, i, rfl, ⟨hN1, hN4, hgc⟩, hq5, ⟨hi0, hi1⟩, hL, hT, hP, hb1⟩
    have V1 := Lib.hid hT
    have P1 := Lib.hid hP
    have B1 := Lib.hid hb1
    have hn0 : N ≤ 1048576 := by omega
    have hq0 : q ≤ 1048576 := by omega
    have hii : I64 i := by unfold I64; omega
    have HL := Lib.hid (show ∀ r, r < N → L r ≤ 1048576 from fun r hr => by have := hL r hr; omega)
    clear hL hT hP hb1 HD
    go_wp2_with fail
    refine (fairGain_all N gc ga A L C Z q d b P i _ hn0 HL.out V1.out hq0 P1.out).mono ?_
    rintro e w2 ⟨rfl, hb2⟩
    have V2 := Lib.hid (V1.out.below (Nat.le_refl _) hb2)
    have P2 := Lib.hid (P1.out.below (Nat.le_refl _) hb2)
    have B2 := Lib.hid (below_chain B1.out hb2)
    clear hb2 B1 V1 P1
    go_wp2_with fail
    refine (specFairGain_any N gc ga A L C Z q d b P i _ hn0 HL.out V2.out hq0 P2.out hii).mono ?_
    rintro e w3 ⟨rfl, hb3⟩
    have V3 := Lib.hid (V2.out.below (Nat.le_refl _) hb3)
    have P3 := Lib.hid (P2.out.below (Nat.le_refl _) hb3)
    have B3 := Lib.hid (below_chain B2.out hb3)
    clear hb3 B2 V2 P2
    by_cases h : GainOk N L Z q P i
    · have K1 := Lib.hid (tt_of h)
      have h2 : GainOk N L Z q (fun _ => 0) i := ⟨⟨h.1.1, ⟨fun k _ => ⟨Int.le_refl _, show (0 : Int) ≤ 20 by omega⟩, h.1.2.2⟩⟩, h.2⟩
      have K2 := Lib.hid (tt_of h2)
      obtain ⟨j, rfl⟩ := Int.eq_ofNat_of_zero_le h.2.1
      have hqm := h.1.2.2
      obtain ⟨x, hx⟩ : ∃ x, x = gainM Z P j (L 0) := ⟨_, rfl⟩
      obtain ⟨y, hy⟩ : ∃ y, y = gainM Z (fun _ => 0) j (L 0) := ⟨_, rfl⟩
      have hx0 : 0 ≤ x := by rw [hx]; exact gainM_nonneg _ _
      have hxy : x ≤ y := by rw [hx, hy]; exact gainM_mono fun k hk => (h.1.2.1 k (by rw [hqm]; exact hk)).1
      have K3 := Lib.hid (show ifT (GainOk N L Z q P ((j : Nat) : Int)) (gainM Z P ((j : Nat) : Int).toNat (L 0)) = x by rw [hx]; exact ifT_yes h)
      have K4 := Lib.hid (show ifT (GainOk N L Z q (fun _ => 0) ((j : Nat) : Int)) (gainM Z (fun _ => 0) ((j : Nat) : Int).toNat (L 0)) = y by rw [hy]; exact ifT_yes h2)
      rw [K1.out, K3.out]
      have d1 : decide (x ≥ 0) = true := by simp; omega
      have d2 : decide (x ≤ y) = true := by simp; omega
      have d3 : decide (0 ≤ x) = true := by simp; omega
      have hmk := run_make_row' (P := Try.prog) 23 3 (.int .i64 0) 8 Try.underlying23 Try.infoInt rfl .i64 .i64 q (by omega) (by omega)
      clear h h2 hx hy hqm
      go_wp2_with fail
      have RZ := Lib.hid (show Rd (w3.alloc (.cells (madeCells #[.int .i64 0] q) 3)) (some ⟨w3.heap.size, 0, none⟩) q (fun _ => 0) from fun k hk => by
        obtain ⟨cur, h1, h2, h3⟩ := World.rowIs_made w3 (.int .i64 0) q 3
        exact ⟨w3.heap.size, 0, rfl, by rw [Nat.zero_add]; exact (cell_of_row _ _ k _ _ _ h1).trans (h3 k hk)⟩)
      have B4 := Lib.hid (below_alloc (Below.refl w3.heap.size w3) (.cells (madeCells #[.int .i64 0] q) 3))
      clear hmk
      refine (fairGain_all N gc ga A L C Z q q (some ⟨w3.heap.size, 0, none⟩) (fun _ => 0) (j : Nat) _ hn0 HL.out (V3.out.below (Nat.le_refl _) B4.out) hq0 RZ.out).mono ?_
      rintro e w5 ⟨rfl, hb5⟩
      rw [K4.out, K2.out]
      have B5 := Lib.hid (below_chain B3.out (below_chain B4.out hb5))
      clear hb5 RZ
      go_wp2
      go_ret
      exact ⟨rfl, B5.out⟩
    · have K1 := Lib.hid (tt_no h)
      rw [K1.out, ifT_no h]
      clear h
      go_wp2_with fail
      go_ret
      exact ⟨rfl, B3.out⟩
  · have hd : 1048576 < n := by omega
    clear hb hab
    go_enter Try.func14, Try.ntmps14
    go_wp2
    go_ret
    exact ⟨rfl, Below.refl _ _⟩
end Go.Proofs.Ytaipodnhnekpjaa
