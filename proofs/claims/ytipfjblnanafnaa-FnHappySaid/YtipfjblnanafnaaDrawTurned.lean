/- The model's l92Turned: drawn wishes and a giving that often comes by turns. -/
import Derived.Test.YtipfjblnanafnaaDrawApart
import Derived.Test.YtipfjblnanafnaaL5Take
import Derived.Test.YtipfjblnanafnaaL3Both
namespace Go.Proofs.Ytipfjblnanafnaa
set_option linter.unusedVariables false
set_option linter.unusedSimpArgs false
open Go.RowKit

set_option maxHeartbeats 3200000 in
theorem l92Turned_any (r n c p q : Nat) (a : Option Addr) (B : Nat → Nat) (w : World) (hR : RdrAt w r a n c p) (hb : RdB w a n B) (hab : 0 < n → ∀ b o, a = some ⟨b, o, none⟩ → b < w.heap.size ∧ b ≠ r) (hn : n ≤ 2000) (hp : p ≤ 500) (hq2 : 2 ≤ q) (hq5 : q ≤ 5) :
    Calls Try.prog 44 #[.pointer (some ⟨r, 0, none⟩), .int .i64 q] w (DrewGiven r a n c p w) := by
  have hrl := hR.lt
  have HR := Lib.hid hR
  have HB := Lib.hid hb
  have HAL := Lib.hid hab
  have HAB := Lib.hid (show 0 < n → ∀ b o, a = some ⟨b, o, none⟩ → b ≠ r from fun h0 b o e => (hab h0 b o e).2)
  clear hR hb hab
  go_enter Try.func44, Try.ntmps44
  go_wp2_with fail
  refine (l91Wishes_any r n c p q a B w HR.out HB.out HAL.out hn (by omega) hq2 hq5).mono ?_
  rintro e w2 ⟨ga, N, gc, A, L, C, Z, p2, rfl, ⟨hN1, hN5⟩, ⟨hL, hAp⟩, hT, hR2, hp2, hU2⟩
  have HL := Lib.hid hL
  have HL2 := Lib.hid (show ∀ s, s < N → L s ≤ 1048576 from fun s hs => by have := hL s hs; omega)
  have HT2 := Lib.hid hT
  have HAp := Lib.hid hAp
  have HR2 := Lib.hid hR2
  have HU2 := Lib.hid hU2
  clear hL hAp hT hR2 hU2
  go_wp2_with fail
  refine (l91Order_any r n c p2 N a B _ HR2.out (HB.out.but HAL.out HU2.out) (fun h0 b o e => ⟨by have := HU2.out.size; have := (HAL.out h0 b o e).1; omega, HAB.out h0 b o e⟩) hn (by omega) hN5).mono ?_
  rintro e w4 ⟨g, m, cap, X, p4, rfl, ⟨hg1, hg2, hg3, hg4⟩, hX, hR4, hp4, hU4⟩
  have HX := Lib.hid hX
  have HR4 := Lib.hid hR4
  have HU4 := Lib.hid (HU2.out.trans (hU4.mono HU2.out.size))
  have HT4 := Lib.hid (tab_but HT2.out HAp.out hrl hU4)
  have HAi := Lib.hid (show ApartI w.heap.size m (some ⟨g, 0, none⟩) from fun _ g' o hg => by simp only [Option.some.injEq, Addr.mk.injEq] at hg; have := HU2.out.size; omega)
  have HI := Lib.hid (l3Both_any N gc ga A L C Z m cap (some ⟨g, 0, none⟩) X w4 (by omega) HL2.out HT4.out (by omega) hX)
  clear hX hR4 hU4
  by_cases hW : GivenOk N L Z m X
  · have T1 := Lib.hid (tt_of hW)
    obtain rfl : m = N := hW.2.1
    have HW := Lib.hid hW
    clear hW
    go_wp2_with (go_at_call 38; refine HI.out.mono ?_; rintro e w' ⟨rfl, rfl⟩; rw [T1.out])
    go_wp2_with fail
    refine (pick_any r n c p4 2 a B _ HR4.out (HB.out.but HAL.out HU4.out) HAB.out hn (by omega) (by omega) (by omega)).mono ?_
    rintro e w3 ⟨x, rfl, hx, hR3, hK3⟩
    have HR3 := Lib.hid hR3
    have HU3 := Lib.hid (HU4.out.trans (ButR.keeps hK3))
    have HT3 := Lib.hid (tab_but HT4.out HAp.out hrl (ButR.keeps hK3))
    have HX3 := Lib.hid (rdA_but HX.out HAi.out hrl (ButR.keeps hK3))
    clear hR3 hK3
    by_cases h0 : x = 0
    · have d1 : ((x : Int) == 0) = true := by subst h0; rfl
      clear h0
      go_wp2_with (go_at_call 39; refine (l5Take_any m gc cap ga _ A L C Z X _ HW.out HT3.out HX3.out).mono ?_; rintro e w5 ⟨g5, cap5, rfl, ⟨hg51, hg52, hg53⟩, hO, hb5⟩; have HO := Lib.hid hO; have HB5 := Lib.hid hb5; clear hO hb5)
      go_ret2
      refine ⟨ga, m, gc, A, L, C, Z, some ⟨g5, 0, none⟩, m, cap5, _, p4 + 1, rfl, ⟨⟨hN1, hN5⟩, hg53, by omega⟩, ⟨HL.out, HAp.out, fun _ g' o hg => by simp only [Option.some.injEq, Addr.mk.injEq] at hg; have := HU3.out.size; omega⟩, HT3.out.below (Nat.le_refl _) HB5.out, HO.out.rd, HR3.out.of_block (HB5.out.block _ (by have := HU3.out.size; omega)), by omega, HU3.out.trans (ButR.below (HB5.out.mono (HU3.out.size)))⟩
    · have d1 : ((x : Int) == 0) = false := by simp; omega
      clear h0
      go_wp2
      go_ret2
      exact ⟨ga, m, gc, A, L, C, Z, some ⟨g, 0, none⟩, m, cap, X, p4 + 1, rfl, ⟨⟨hN1, hN5⟩, hg3, by omega⟩, ⟨HL.out, HAp.out, HAi.out⟩, HT3.out, HX3.out, HR3.out, by omega, HU3.out⟩
  · have T1 := Lib.hid (tt_no hW)
    clear hW
    go_wp2_with (go_at_call 38; refine HI.out.mono ?_; rintro e w' ⟨rfl, rfl⟩; rw [T1.out])
    go_ret2
    exact ⟨ga, N, gc, A, L, C, Z, some ⟨g, 0, none⟩, m, cap, X, p4, rfl, ⟨⟨hN1, hN5⟩, hg3, by omega⟩, ⟨HL.out, HAp.out, HAi.out⟩, HT4.out, HX.out, HR4.out, by omega, HU4.out⟩
end Go.Proofs.Ytipfjblnanafnaa
