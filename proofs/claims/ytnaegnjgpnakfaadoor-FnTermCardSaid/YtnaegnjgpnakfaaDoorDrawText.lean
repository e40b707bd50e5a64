/- The model's draws of numbers of people and terms. -/
import Derived.Test.YtnaegnjgpnakfaaDoorDrawTerm
namespace Go.Proofs.YtnaegnjgpnakfaaDoor
set_option linter.unusedVariables false
set_option linter.unusedSimpArgs false
open Go.RowKit

theorem eightS {w : World} {g t B0 : Nat} {x : Nat} {v0 v1 v2 v3 v4 v5 v6 v7 : ByteArray} (h : w.heap[g]? = some (.cells #[.string v0, .string v1, .string v2, .string v3, .string v4, .string v5, .string v6, .string v7] t (0, 0))) (hs : v0.size ≤ B0 ∧ v1.size ≤ B0 ∧ v2.size ≤ B0 ∧ v3.size ≤ B0 ∧ v4.size ≤ B0 ∧ v5.size ≤ B0 ∧ v6.size ≤ B0 ∧ v7.size ≤ B0) (hx : x < 8) :
    ∃ s : ByteArray, w.cell? ⟨g, x, none⟩ = some (.string s) ∧ s.size ≤ B0 := by
  rw [cell_of_row w g x _ t (0, 0) h]
  obtain ⟨h0, h1, h2, h3, h4, h5, h6, h7⟩ := hs
  have : x = 0 ∨ x = 1 ∨ x = 2 ∨ x = 3 ∨ x = 4 ∨ x = 5 ∨ x = 6 ∨ x = 7 := by omega
  rcases this with rfl | rfl | rfl | rfl | rfl | rfl | rfl | rfl
  · exact ⟨_, rfl, h0⟩
  · exact ⟨_, rfl, h1⟩
  · exact ⟨_, rfl, h2⟩
  · exact ⟨_, rfl, h3⟩
  · exact ⟨_, rfl, h4⟩
  · exact ⟨_, rfl, h5⟩
  · exact ⟨_, rfl, h6⟩
  · exact ⟨_, rfl, h7⟩
/-- A number of people and a text are drawn. -/
def DrewT (r : Nat) (a : Option Addr) (n c p K : Nat) (w : World) (e : Ending) (w' : World) : Prop :=
  ∃ (q : Nat) (s : ByteArray) (p' : Nat), e = .returned (.tuple #[.int .i64 (q : Nat), .string s]) ∧ q ≤ 6 ∧ s.size ≤ 49 ∧ p' ≤ p + K ∧ RdrAt w' r a n c p' ∧ ButR r w.heap.size w w'
def DrewW (w : World) (e : Ending) (w' : World) : Prop :=
  ∃ (q : Nat) (s : ByteArray), e = .returned (.tuple #[.int .i64 (q : Nat), .string s]) ∧ q ≤ 6 ∧ s.size ≤ 49 ∧ Below w.heap.size w w'

set_option maxRecDepth 100000 in
set_option maxHeartbeats 6400000 in
theorem l92Text_any (r n c p : Nat) (a : Option Addr) (B : Nat → Nat) (w : World) (hR : RdrAt w r a n c p) (hb : RdB w a n B) (hab : 0 < n → ∀ b o, a = some ⟨b, o, none⟩ → b < w.heap.size ∧ b ≠ r) (hn : n ≤ 2000) (hp : p ≤ 600) :
    Calls Tryd.prog 66 #[.pointer (some ⟨r, 0, none⟩)] w (DrewT r a n c p 69 w) := by
  have HB := Lib.hid hb
  have HAL := Lib.hid hab
  have HAB := Lib.hid (show 0 < n → ∀ b o, a = some ⟨b, o, none⟩ → b ≠ r from fun h0 b o e => (hab h0 b o e).2)
  have hrlt := hR.lt
  have R0 := Lib.hid hR
  clear hb hab hR
  go_enter Tryd.func66, Tryd.ntmps66
  go_wp2_with fail
  refine (pick_any r n c p 4 a B _ R0.out HB.out HAB.out hn (by omega) (by omega) (by omega)).mono ?_
  rintro e w1 ⟨x1, rfl, hx1, hR1, hK1⟩
  have R1 := Lib.hid hR1
  have U1 := Lib.hid (ButR.keeps (B := w.heap.size) hK1)
  clear hR1 hK1
  have hz1 := U1.out.size
  obtain ⟨q, hq⟩ : ∃ q, q = 2 + x1 := ⟨_, rfl⟩
  have hqw : IntKind.i64.wrap ((2 : Int) + (x1 : Int)) = (q : Int) := by rw [IntWalk.i64_in _ (by omega)]; omega
  have hqv : wrap64 ((2 : Int) + (x1 : Int)) = (q : Int) := by rw [IntWalk.wrap64_in _ (by omega)]; omega
  have hq5 : q ≤ 5 := by omega
  clear hq
  go_wp2_with fail
  clear hqw hqv
  refine (l92Term_two r n c (p + 1) q a B _ R1.out (HB.out.but HAL.out U1.out) (fun h0 b o e => ⟨by have := (HAL.out h0 b o e).1; omega, HAB.out h0 b o e⟩) hn (by omega) hq5).mono ?_
  rintro e w2 ⟨s, p1, rfl, hs, hp1, hR2, hU2⟩
  have R2 := Lib.hid hR2
  have U2 := Lib.hid (U1.out.trans (hU2.mono hz1))
  clear hR2 hU2
  go_wp2_with fail
  refine (pick_any r n c p1 24 a B _ R2.out (HB.out.but HAL.out U2.out) HAB.out hn (by omega) (by omega) (by omega)).mono ?_
  rintro e wq ⟨x, rfl, hx, hRq, hKq⟩
  have Rq := Lib.hid hRq
  have Uq := Lib.hid (U2.out.trans ((ButR.keeps (B := w.heap.size) hKq)))
  clear hRq hKq
  have hzq := Uq.out.size
  have hrq := Rq.out.lt
  by_cases e0 : x = 0
  · have q0 := (pick_eq x 0 e0).1
    have q0d := (pick_eq x 0 e0).2.1
    clear e0
    go_wp2_with fail
    refine (of_any r n c (p1 + 1) 3 3 1 wq.heap.size a B _ (Rq.out.alloc _) ((HB.out.but HAL.out Uq.out).below (Nat.le_refl _) (below_alloc (Below.refl _ _) _)) HAB.out hn (by omega) (by omega) (by omega) (by omega) (fun j hj => threeS (heap_alloc_new _ _) (by exact Nat.le_refl 1) (by exact Nat.le_refl 1) (by exact Nat.le_refl 1) hj)).mono ?_
    rintro e w3 ⟨v, p3, rfl, hv, hp3, hR3, hU3⟩
    have R3 := Lib.hid hR3
    have U3 := Lib.hid ((Uq.out.alloc hzq _).trans (hU3.mono (by rw [World.size_alloc]; omega)))
    clear hR3 hU3
    go_wp2_with fail
    go_ret2
    refine ⟨q, _, p3, rfl, by omega, Nat.le_trans (Nat.le_of_eq ByteArray.size_append) (by omega), by omega, R3.out, U3.out⟩
  have q0 := (pick_ne x 0 e0).1
  have q0d := (pick_ne x 0 e0).2.1
  by_cases e1 : x = 1
  · have q1 := (pick_eq x 1 e1).1
    have q1d := (pick_eq x 1 e1).2.1
    clear e0 e1
    go_wp2_with fail
    refine (of_any r n c (p1 + 1) 8 8 8 wq.heap.size a B _ (Rq.out.alloc _) ((HB.out.but HAL.out Uq.out).below (Nat.le_refl _) (below_alloc (Below.refl _ _) _)) HAB.out hn (by omega) (by omega) (by omega) (by omega) (fun j hj => eightS (heap_alloc_new _ _) (by exact (show 0 ≤ 8 ∧ 1 ≤ 8 ∧ 3 ≤ 8 ∧ 4 ≤ 8 ∧ 3 ≤ 8 ∧ 4 ≤ 8 ∧ 8 ≤ 8 ∧ 2 ≤ 8 by decide)) hj)).mono ?_
    rintro e w3 ⟨v, p3, rfl, hv, hp3, hR3, hU3⟩
    have R3 := Lib.hid hR3
    have U3 := Lib.hid ((Uq.out.alloc hzq _).trans (hU3.mono (by rw [World.size_alloc]; omega)))
    clear hR3 hU3
    go_wp2_with fail
    go_ret2
    refine ⟨q, _, p3, rfl, by omega, by omega, by omega, R3.out, U3.out⟩
  have q1 := (pick_ne x 1 e1).1
  have q1d := (pick_ne x 1 e1).2.1
  by_cases e2 : x = 2
  · have q2 := (pick_eq x 2 e2).1
    have q2d := (pick_eq x 2 e2).2.1
    clear e0 e1 e2
    go_wp2_with fail
    refine (pick_any r n c (p1 + 1) 7 a B _ Rq.out (HB.out.but HAL.out Uq.out) HAB.out hn (by omega) (by omega) (by omega)).mono ?_
    rintro e w3 ⟨y, rfl, hy, hR3, hK3⟩
    have R3 := Lib.hid hR3
    have U3 := Lib.hid (Uq.out.trans ((ButR.keeps (B := w.heap.size) hK3)))
    clear hR3 hK3
    go_wp2_with fail
    go_ret2
    refine ⟨y, _, p1 + 1 + 1, rfl, by omega, by omega, by omega, R3.out, U3.out⟩
  have q2 := (pick_ne x 2 e2).1
  have q2d := (pick_ne x 2 e2).2.1
  clear e0 e1 e2
  go_wp2_with fail
  go_ret2
  refine ⟨q, _, p1 + 1, rfl, by omega, by omega, by omega, Rq.out, Uq.out⟩

set_option maxHeartbeats 1600000 in
theorem l92Word_any (n c : Nat) (a : Option Addr) (B : Nat → Nat) (w : World) (hn : n ≤ 1048576) (hc : n ≤ c) (hb : RdB w a n B) (hab : 0 < n → ∀ b o, a = some ⟨b, o, none⟩ → b < w.heap.size) :
    Calls Tryd.prog 51 #[.slice a n c] w (DrewW w) := by
  have HB := Lib.hid hb
  have HAL := Lib.hid hab
  clear hb hab
  go_enter Tryd.func51, Tryd.ntmps51
  go_wp2_with fail
  refine (l6Open_any n c a _ hn hc).mono ?_
  rintro e w1 ⟨n', c', rfl, hn2, hnn, hR1, hs1, hb1⟩
  have HB1 := Lib.hid ((HB.out.below (Nat.le_refl _) hb1).sub hnn)
  have HR1 := Lib.hid hR1
  have Hb1 := Lib.hid hb1
  have hlt1 : w.heap.size < w1.heap.size := by omega
  have HAL1 := Lib.hid (show 0 < n' → ∀ b o, a = some ⟨b, o, none⟩ → b < w1.heap.size ∧ b ≠ w.heap.size from fun h0 b o e => by have := HAL.out (by omega) b o e; exact ⟨by omega, by omega⟩)
  clear hR1 hb1 hs1
  go_wp2_with fail
  refine (l92Text_any w.heap.size n' c' 0 a B _ HR1.out HB1.out HAL1.out hn2 (by omega)).mono ?_
  rintro e w2 ⟨q, s, p', rfl, hq, hs, hp, hR2, hU2⟩
  have U2 := Lib.hid hU2
  clear hR2 hU2
  go_wp2_with fail
  go_ret2
  exact ⟨q, s, rfl, hq, hs, (Hb1.out.trans (U2.out.toBelow (Nat.le_of_lt hlt1)))⟩
end Go.Proofs.YtnaegnjgpnakfaaDoor
