/- The model's l91Given: drawn wishes and a drawn row. -/
import Derived.Test.YtfhkbjheleojmaaDoorDrawWishes
import Derived.Test.YtfhkbjheleojmaaDoorDrawOrder
import Derived.Test.YtfhkbjheleojmaaDoorL3Trade
import Derived.Test.YtfhkbjheleojmaaDoorSpecHouseIn
namespace Go.Proofs.YtfhkbjheleojmaaDoor
set_option linter.unusedVariables false
set_option linter.unusedSimpArgs false
open Go.RowKit

/-- A row that lies from lo on, if it has something. -/
def ApartI (lo m : Nat) (b : Option Addr) : Prop := 0 < m → ∀ g o, b = some ⟨g, o, none⟩ → lo ≤ g
theorem rdA_but {r lo : Nat} {w w' : World} {b : Option Addr} {m : Nat} {X : Nat → Int} (h : Rd w b m X) (hA : ApartI lo m b) (hr : r < lo) (hk : ButR r w.heap.size w w') : Rd w' b m X := by
  intro k hkm
  obtain ⟨g, o, he, hc⟩ := h k hkm
  have h1 := hA (by omega) g o he
  have hl : g < w.heap.size := World.block_lt_of_cell? _ _ hc
  exact ⟨g, o, he, (World.cell?_of_block (w := w) (a := ⟨g, o + k, none⟩) (hk.block g hl (by omega))).trans hc⟩

/-- What l91Given hands back: a table of one to five rows, of five numbers at most, a row of six at most, the reader gone on. -/
def DrewGiven (r : Nat) (a : Option Addr) (n c p : Nat) (w : World) (e : Ending) (w' : World) : Prop :=
  ∃ ga N gc A L C Z b m d X p', e = .returned (.tuple #[.slice ga N gc, .slice b m d]) ∧ ((1 ≤ N ∧ N ≤ 5) ∧ m ≤ d ∧ m ≤ 6) ∧ ((∀ s, s < N → L s ≤ 5) ∧ Apart w.heap.size N ga A ∧ ApartI w.heap.size m b) ∧ Tab w' ga N A L C Z ∧ Rd w' b m X ∧ RdrAt w' r a n c p' ∧ p' ≤ p + 300 ∧ ButR r w.heap.size w w'

set_option maxHeartbeats 3200000 in
theorem l91Given_any (r n c p q : Nat) (a : Option Addr) (B : Nat → Nat) (w : World) (hR : RdrAt w r a n c p) (hb : RdB w a n B) (hab : 0 < n → ∀ b o, a = some ⟨b, o, none⟩ → b < w.heap.size ∧ b ≠ r) (hn : n ≤ 2000) (hp : p ≤ 500) (hq2 : 2 ≤ q) (hq5 : q ≤ 5) :
    Calls Tryd.prog 53 #[.pointer (some ⟨r, 0, none⟩), .int .i64 q] w (DrewGiven r a n c p w) := by
  have hrl := hR.lt
  have HR := Lib.hid hR
  have HB := Lib.hid hb
  have HAL := Lib.hid hab
  have HAB := Lib.hid (show 0 < n → ∀ b o, a = some ⟨b, o, none⟩ → b ≠ r from fun h0 b o e => (hab h0 b o e).2)
  clear hR hb hab
  go_enter Tryd.func53, Tryd.ntmps53
  go_wp2_with fail
  refine (l91Wishes_any r n c p q a B w HR.out HB.out HAL.out hn (by omega) hq2 hq5).mono ?_
  rintro e w2 ⟨ga, N, gc, A, L, C, Z, p2, rfl, ⟨hN1, hN5⟩, ⟨hL, hAp⟩, hT, hR2, hp2, hU2⟩
  have HL := Lib.hid hL
  have HL2 := Lib.hid (show ∀ s, s < N → L s ≤ 1048576 from fun s hs => by have := hL s hs; omega)
  have HT2 := Lib.hid hT
  have HAp := Lib.hid hAp
  have HR2 := Lib.hid hR2
  have HU2 := Lib.hid hU2
  have HI := Lib.hid (specHouseIn_any N gc ga A L C Z w2 (by omega) HL2.out hT)
  clear hL hAp hT hR2 hU2
  by_cases hW : IsWishes N L Z
  · have T1 := Lib.hid (tt_of hW)
    have HW := Lib.hid hW
    clear hW
    go_wp2_with (go_at_call 41; refine HI.out.mono ?_; rintro e w' ⟨rfl, rfl⟩; rw [T1.out])
    go_wp2_with fail
    refine (pick_any r n c p2 3 a B _ HR2.out (HB.out.but HAL.out HU2.out) HAB.out hn (by omega) (by omega) (by omega)).mono ?_
    rintro e w3 ⟨x, rfl, hx, hR3, hK3⟩
    have HR3 := Lib.hid hR3
    have HU3 := Lib.hid (HU2.out.trans (ButR.keeps hK3))
    have HT3 := Lib.hid (tab_but HT2.out HAp.out hrl (ButR.keeps hK3))
    clear hR3 hK3
    by_cases h0 : x = 0
    · have d1 : ((x : Int) == 0) = true := by subst h0; rfl
      clear h0
      go_wp2_with (go_at_call 49; refine (l3Trade_any N gc ga A L C Z _ HW.out HT3.out).mono ?_; rintro e w4 ⟨b, d, rfl, hbd, hO, hb4⟩; have HO := Lib.hid hO; have HB4 := Lib.hid hb4; clear hO hb4)
      go_ret2
      refine ⟨ga, N, gc, A, L, C, Z, b, N, d, _, p2 + 1, rfl, ⟨⟨hN1, hN5⟩, hbd, by omega⟩, ⟨HL.out, HAp.out, ?_⟩, HT3.out.below (Nat.le_refl _) HB4.out, HO.out.rd, HR3.out.of_block (HB4.out.block _ (by have := HU3.out.size; omega)), by omega, HU3.out.trans (ButR.below (HB4.out.mono (HU3.out.size)))⟩
      intro _ g o hg
      rcases HO.out with h | ⟨g', h1, h2, h3⟩
      · omega
      · rcases h3 with h | ⟨o', h4, _⟩
        · omega
        · rw [h4] at hg
          simp only [Option.some.injEq, Addr.mk.injEq] at hg
          have := HU3.out.size
          omega
    · have d1 : ((x : Int) == 0) = false := by simp; omega
      clear h0
      go_wp2_with (go_at_call 74; refine (l91Order_any r n c (p2 + 1) N a B _ HR3.out (HB.out.but HAL.out HU3.out) (fun h0 b o e => ⟨by have := HU3.out.size; have := (HAL.out h0 b o e).1; omega, HAB.out h0 b o e⟩) hn (by omega) hN5).mono ?_; rintro e w4 ⟨g, m, cap, X, p4, rfl, ⟨hg1, hg2, hg3, hg4⟩, hX, hR4, hp4, hU4⟩; have HX := Lib.hid hX; have HR4 := Lib.hid hR4; have HU4 := Lib.hid (HU3.out.trans (hU4.mono HU3.out.size)); have HT4 := Lib.hid (tab_but HT3.out HAp.out hrl hU4); clear hX hR4 hU4)
      go_ret2
      exact ⟨ga, N, gc, A, L, C, Z, some ⟨g, 0, none⟩, m, cap, X, p4, rfl, ⟨⟨hN1, hN5⟩, hg3, by omega⟩, ⟨HL.out, HAp.out, fun _ g' o hg => by simp only [Option.some.injEq, Addr.mk.injEq] at hg; have := HU3.out.size; omega⟩, HT4.out, HX.out, HR4.out, by omega, HU4.out⟩
  · have T1 := Lib.hid (tt_no hW)
    clear hW
    go_wp2_with (first
      | (go_at_call 41; refine HI.out.mono ?_; rintro e w' ⟨rfl, rfl⟩; rw [T1.out])
      | (go_at_call 74; refine (l91Order_any r n c p2 N a B _ HR2.out (HB.out.but HAL.out HU2.out) (fun h0 b o e => ⟨by have := HU2.out.size; have := (HAL.out h0 b o e).1; omega, HAB.out h0 b o e⟩) hn (by omega) hN5).mono ?_; rintro e w4 ⟨g, m, cap, X, p4, rfl, ⟨hg1, hg2, hg3, hg4⟩, hX, hR4, hp4, hU4⟩; have HX := Lib.hid hX; have HR4 := Lib.hid hR4; have HU4 := Lib.hid (HU2.out.trans (hU4.mono HU2.out.size)); have HT4 := Lib.hid (tab_but HT2.out HAp.out hrl hU4); clear hX hR4 hU4))
    go_ret2
    exact ⟨ga, N, gc, A, L, C, Z, some ⟨g, 0, none⟩, m, cap, X, p4, rfl, ⟨⟨hN1, hN5⟩, hg3, by omega⟩, ⟨HL.out, HAp.out, fun _ g' o hg => by simp only [Option.some.injEq, Addr.mk.injEq] at hg; have := HU2.out.size; omega⟩, HT4.out, HX.out, HR4.out, by omega, HU4.out⟩

/-- The same from a code: wishes and a row, at the top. -/
def DrewGivenTop (w : World) (e : Ending) (w' : World) : Prop :=
  ∃ ga N gc A L C Z b m d X, e = .returned (.tuple #[.slice ga N gc, .slice b m d]) ∧ ((1 ≤ N ∧ N ≤ 5) ∧ m ≤ d ∧ m ≤ 6) ∧ (∀ s, s < N → L s ≤ 5) ∧ Tab w' ga N A L C Z ∧ Rd w' b m X ∧ Below w.heap.size w w'
end Go.Proofs.YtfhkbjheleojmaaDoor
