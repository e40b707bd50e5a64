/- The walk of the law FnLikes: it answers true at every code that can be read. -/
import Derived.Test.YtmjbocgoinfamaaDrawLikes
import Derived.Test.YtmjbocgoinfamaaHouseLikes
namespace Go.Proofs.Ytmjbocgoinfamaa
set_option linter.unusedVariables false
set_option linter.unusedSimpArgs false
open Go.RowKit

set_option maxHeartbeats 3200000 in
theorem fnLikes_walk (n c : Nat) (a : Option Addr) (B : Nat → Nat) (w : World) (hc : n ≤ c) (hb : RdB w a n B) (hab : 0 < n → ∀ b o, a = some ⟨b, o, none⟩ → b < w.heap.size) :
    Calls Try.prog 12 #[.slice a n c] w fun e w' => e = .returned (.bool true) ∧ Below w.heap.size w w' := by
  by_cases hfit : n ≤ 1048576
  · have hd : ¬ (1048576 < n) := by omega
    have HD := Lib.hid (drawHouseLikes_any n c a B w hfit hc hb hab)
    clear hb hab
    go_enter Try.func12, Try.ntmps12
    go_wp2_with fail
    refine HD.out.mono ?_
    rintro e w1 ⟨ga, N, gc, A, L, C, Z, p, x, y, rfl, ⟨hN1, hN5, ⟨hp1, hp2⟩, ⟨hx1, hx2⟩, hy1, hy2⟩, hL, hT, hb1⟩
    have HT := Lib.hid hT
    have HL := Lib.hid (show ∀ r, r < N → L r ≤ 1048576 from fun r hr => by have := hL r hr; omega)
    have B1 := Lib.hid hb1
    clear hT hL hb1 HD
    by_cases hok : LikesOk N L Z p x y
    · have K1 := Lib.hid (tt_of hok)
      have hlt := hok.2.2.2.2
      have hxy : x ≠ y := fun e => by rw [e] at hlt; omega
      have K2 := Lib.hid (tt_no (show ¬ LikesOk N L Z p y x from fun h => by have := h.2.2.2.2; omega))
      have hne : (x == y) = false := beq_eq_false_iff_ne.2 hxy
      have hbn : (x != y) = true := bne_iff_ne.2 hxy
      clear hok hlt hxy
      go_wp2_with fail
      refine (houseLikes_any N gc ga A L C Z p x y _ (by omega) HL.out HT.out ⟨by omega, by omega⟩ ⟨by omega, by omega⟩ ⟨by omega, by omega⟩).mono ?_
      rintro e w2 ⟨rfl, hb2⟩
      rw [K1.out]
      have B2 := Lib.hid hb2
      clear hb2
      go_wp2_with fail
      refine (specHouseLikes_any N gc ga A L C Z p x y _ (by omega) HL.out (HT.out.below (Nat.le_refl _) B2.out) ⟨by omega, by omega⟩ ⟨by omega, by omega⟩ ⟨by omega, by omega⟩).mono ?_
      rintro e w3 ⟨rfl, hb3⟩
      rw [K1.out]
      have B3 := Lib.hid (below_chain B2.out hb3)
      clear hb3
      go_wp2_with (go_at_call 47; refine (houseLikes_any N gc ga A L C Z p y x _ (by omega) HL.out (HT.out.below (Nat.le_refl _) B3.out) ⟨by omega, by omega⟩ ⟨by omega, by omega⟩ ⟨by omega, by omega⟩).mono ?_; rintro e w4 ⟨rfl, hb4⟩; rw [K2.out]; have B4 := Lib.hid (below_chain B3.out hb4); clear hb4)
      go_ret
      exact ⟨by first | rfl | simp, below_chain B1.out B4.out⟩
    · have K1 := Lib.hid (tt_no hok)
      clear hok
      go_wp2_with fail
      refine (houseLikes_any N gc ga A L C Z p x y _ (by omega) HL.out HT.out ⟨by omega, by omega⟩ ⟨by omega, by omega⟩ ⟨by omega, by omega⟩).mono ?_
      rintro e w2 ⟨rfl, hb2⟩
      rw [K1.out]
      have B2 := Lib.hid hb2
      clear hb2
      go_wp2_with fail
      refine (specHouseLikes_any N gc ga A L C Z p x y _ (by omega) HL.out (HT.out.below (Nat.le_refl _) B2.out) ⟨by omega, by omega⟩ ⟨by omega, by omega⟩ ⟨by omega, by omega⟩).mono ?_
      rintro e w3 ⟨rfl, hb3⟩
      rw [K1.out]
      have B3 := Lib.hid (below_chain B2.out hb3)
      clear hb3
      go_wp2
      go_ret
      exact ⟨by first | rfl | simp, below_chain B1.out B3.out⟩
  · have hd : 1048576 < n := by omega
    clear hb hab
    go_enter Try.func12, Try.ntmps12
    go_wp2_with fail
    go_ret
    exact ⟨rfl, Below.refl _ _⟩
end Go.Proofs.Ytmjbocgoinfamaa
