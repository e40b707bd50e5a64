/- The walk of the law FnBlockOr: it answers true at every code that can be read. -/
import Derived.Test.YtabdbgnkiebcdaaDoorPartR12
import Derived.Test.YtabdbgnkiebcdaaDoorPartR11
namespace Go.Proofs.YtabdbgnkiebcdaaDoor
set_option linter.unusedVariables false
set_option linter.unusedSimpArgs false
open Go.RowKit

set_option maxHeartbeats 3200000 in
theorem fnBlockOr_walk (n c : Nat) (a : Option Addr) (B : Nat → Nat) (w : World) (hPT : PowAt w) (hTZ : TzAt w) (hc : n ≤ c) (hb : RdB w a n B) (hab : 0 < n → ∀ b o, a = some ⟨b, o, none⟩ → b < w.heap.size) :
    Calls Tryd.prog 9 #[.slice a n c] w fun e w' => e = .returned (.bool true) ∧ Below w.heap.size w w' := by
  by_cases hfit : n ≤ 1048576
  · have hd : ¬ (1048576 < n) := by omega
    have HD := Lib.hid (drawHouseBlocks_any n c a B w hfit hc hb hab)
    have TZ := Lib.hid hTZ
    have PT := Lib.hid hPT
    clear hb hab hTZ hPT
    go_enter Tryd.func9, Tryd.ntmps9
    go_wp2_with fail
    refine HD.out.mono ?_
    rintro e w1 ⟨ga, N, gc, A, L, C, Z, b, m, d, X, x, rfl, ⟨⟨hN1, hN5⟩, hmd, hm6, hx1, hx2⟩, hL, hT, hX, hb1⟩
    have HT := Lib.hid hT
    have HX := Lib.hid hX
    have HL := Lib.hid (show ∀ r, r < N → L r ≤ 1048576 from fun r hr => by have := hL r hr; omega)
    have B1 := Lib.hid hb1
    have TZ1 := Lib.hid (TZ.out.below (Nat.le_refl _) hb1)
    have HI := Lib.hid (show I64 x from ⟨by omega, by omega⟩)
    clear hT hX hL hb1 HD TZ
    by_cases hok : BlocksOk N L Z m X x
    · have K1 := Lib.hid (tt_of hok)
      obtain rfl : m = N := hok.1.2.1
      have hnf : ¬ FirmP m Z X := fun h => h x.toNat (by
        rcases Nat.eq_zero_or_pos x.toNat with h0 | h0
        · have := hok.2.2
          rw [h0] at this
          exact absurd this blocks_pos
        · exact h0) (by have h3 := hok.2.1.2; have h4 := hok.2.1.1; omega) hok.2.2
      have KB := Lib.hid (tt_of ((hasB_firm hok.1).2 hnf))
      clear hok hnf
      go_wp2_with (first
        | (go_at_call 30; refine (houseBlocks_any m gc ga A L C Z m d b X x _ TZ1.out (by omega) HL.out HT.out (by omega) HX.out HI.out).mono ?_; rintro e w2 ⟨rfl, hb2⟩; rw [K1.out]; have B2 := Lib.hid hb2; clear hb2)
        | (go_at_call 31; refine (specHouseBlocks_any m gc ga A L C Z m d b X x _ (by omega) HL.out (HT.out.below (Nat.le_refl _) B2.out) (by omega) (HX.out.below (Nat.le_refl _) B2.out) HI.out).mono ?_; rintro e w3 ⟨rfl, hb3⟩; rw [K1.out]; have B3 := Lib.hid (below_chain B2.out hb3); clear hb3))
      go_wp2_with (go_at_call 20; refine (proofBlock_any m gc ga A L C Z m d b X _ (PT.out.below (Nat.le_refl _) (below_chain B1.out B3.out)) (by omega) HL.out (HT.out.below (Nat.le_refl _) B3.out) (by omega) (HX.out.below (Nat.le_refl _) B3.out)).mono ?_; rintro e w4 ⟨rfl, hb4⟩; rw [KB.out]; have B4 := Lib.hid (below_chain B3.out hb4); clear hb4)
      go_ret
      exact ⟨by first | rfl | simp, below_chain B1.out B4.out⟩
    · have K1 := Lib.hid (tt_no hok)
      clear hok
      go_wp2_with (first
        | (go_at_call 30; refine (houseBlocks_any N gc ga A L C Z m d b X x _ TZ1.out (by omega) HL.out HT.out (by omega) HX.out HI.out).mono ?_; rintro e w2 ⟨rfl, hb2⟩; rw [K1.out]; have B2 := Lib.hid hb2; clear hb2)
        | (go_at_call 31; refine (specHouseBlocks_any N gc ga A L C Z m d b X x _ (by omega) HL.out (HT.out.below (Nat.le_refl _) B2.out) (by omega) (HX.out.below (Nat.le_refl _) B2.out) HI.out).mono ?_; rintro e w3 ⟨rfl, hb3⟩; rw [K1.out]; have B3 := Lib.hid (below_chain B2.out hb3); clear hb3))
      go_ret
      exact ⟨by first | rfl | simp, below_chain B1.out B3.out⟩
  · have hd : 1048576 < n := by omega
    clear hb hab hTZ hPT
    go_enter Tryd.func9, Tryd.ntmps9
    go_wp2_with fail
    go_ret
    exact ⟨rfl, Below.refl _ _⟩
end Go.Proofs.YtabdbgnkiebcdaaDoor
