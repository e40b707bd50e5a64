/- The model's draws of terms. -/
import Derived.Test.YtnaegnjgpnakfaaDoorDrawCirc
namespace Go.Proofs.YtnaegnjgpnakfaaDoor
set_option linter.unusedVariables false
set_option linter.unusedSimpArgs false
open Go.RowKit

theorem threeS {w : World} {g t B0 : Nat} {x : Nat} {v0 v1 v2 : ByteArray} (h : w.heap[g]? = some (.cells #[.string v0, .string v1, .string v2] t (0, 0))) (h0 : v0.size ≤ B0) (h1 : v1.size ≤ B0) (h2 : v2.size ≤ B0) (hx : x < 3) :
    ∃ s : ByteArray, w.cell? ⟨g, x, none⟩ = some (.string s) ∧ s.size ≤ B0 := by
  rw [cell_of_row w g x _ t (0, 0) h]
  have : x = 0 ∨ x = 1 ∨ x = 2 := by omega
  rcases this with rfl | rfl | rfl
  · exact ⟨_, rfl, h0⟩
  · exact ⟨_, rfl, h1⟩
  · exact ⟨_, rfl, h2⟩
/-- How the tests of a drawn number come out. -/
theorem pick_eq (x k : Nat) (h : x = k) : ((x : Int) == (k : Int)) = true ∧ decide ((x : Int) = (k : Int)) = true ∧ decide (x = k) = true := by subst h; simp
theorem pick_ne (x k : Nat) (h : x ≠ k) : ((x : Int) == (k : Int)) = false ∧ decide ((x : Int) = (k : Int)) = false ∧ decide (x = k) = false := by
  have : (x : Int) ≠ (k : Int) := by omega
  simp [h, this]
theorem DrewS.mono {r n c p p' K K' B B' : Nat} {a : Option Addr} {w0 w : World} {e : Ending} {w' : World} (h : DrewS r a n c p' K' B' w e w') (hU : ButR r w0.heap.size w0 w) (hB : B' ≤ B) (hp : p' + K' ≤ p + K) : DrewS r a n c p K B w0 e w' := by
  obtain ⟨s, q, rfl, h1, h2, h3, h4⟩ := h
  exact ⟨s, q, rfl, by omega, by omega, h3, hU.trans (h4.mono hU.size)⟩


set_option maxRecDepth 100000 in
set_option maxHeartbeats 6400000 in
theorem l92Term_zero (r n c p m : Nat) (a : Option Addr) (B : Nat → Nat) (w : World) (hR : RdrAt w r a n c p) (hb : RdB w a n B) (hab : 0 < n → ∀ b o, a = some ⟨b, o, none⟩ → b < w.heap.size ∧ b ≠ r) (hn : n ≤ 2000) (hp : p ≤ 900) (hm : m ≤ 5) :
    Calls Tryd.prog 81 #[.pointer (some ⟨r, 0, none⟩), .int .i64 (m : Nat), .int .i64 0] w (DrewS r a n c p 9 9 w) := by
  have H := Lib.hid (l92Circle_any r n c p m a B w hR hb hab hn (by omega) hm)
  have HB := Lib.hid hb
  have HAL := Lib.hid hab
  have HAB := Lib.hid (show 0 < n → ∀ b o, a = some ⟨b, o, none⟩ → b ≠ r from fun h0 b o e => (hab h0 b o e).2)
  have hrlt := hR.lt
  clear hb hab hR
  go_enter Tryd.func81, Tryd.ntmps81
  go_wp2_with fail
  refine H.out.mono ?_
  rintro e w1 ⟨s, p1, rfl, hs, hp1, hR1, hU1⟩
  have R1 := Lib.hid hR1
  have U1 := Lib.hid hU1
  clear hR1 hU1
  go_wp2_with fail
  refine (pick_any r n c (p1) 8 a B _ R1.out (HB.out.but HAL.out U1.out) HAB.out hn (by omega) (by omega) (by omega)).mono ?_
  rintro e wq ⟨x, rfl, hx, hRq, hKq⟩
  have Rq := Lib.hid hRq
  have Uq := Lib.hid (U1.out.trans ((ButR.keeps (B := w.heap.size) hKq)))
  clear hRq hKq
  have hzq := Uq.out.size
  have hrq := Rq.out.lt
  by_cases e0 : x = 0
  · have q0 := (pick_eq x 0 e0).1
    have q0d := (pick_eq x 0 e0).2.1
    go_wp2_with fail
    go_ret
    refine ⟨_, p1 + 1, rfl, Nat.le_trans (Nat.le_of_eq ByteArray.size_append) (by show 1 + s.size ≤ _; omega), by omega, Rq.out, Uq.out⟩
  have q0 := (pick_ne x 0 e0).1
  have q0d := (pick_ne x 0 e0).2.1
  by_cases e1 : x = 1
  · have q1 := (pick_eq x 1 e1).1
    have q1d := (pick_eq x 1 e1).2.1
    clear e0 e1
    go_wp2_with fail
    refine (of_any r n c (p1 + 1) 3 3 1 wq.heap.size a B _ (Rq.out.alloc _) ((HB.out.but HAL.out Uq.out).below (Nat.le_refl _) (below_alloc (Below.refl _ _) _)) HAB.out hn (by omega) (by omega) (by omega) (by omega) (fun j hj => threeS (heap_alloc_new _ _) (by exact Nat.le_refl 1) (by exact Nat.le_refl 1) (by exact Nat.le_refl 1) hj)).mono ?_
    rintro e w3 ⟨v, p3, rfl, hv, hp3, hR3, hU3⟩
    have R3 := Lib.hid hR3
    have U3 := Lib.hid ((Uq.out.alloc hzq _).trans (hU3.mono (by rw [World.size_alloc]; omega)))
    clear hR3 hU3
    go_wp2_with fail
    go_ret
    refine ⟨_, p3, rfl, Nat.le_trans (Nat.le_of_eq ByteArray.size_append) (by omega), by omega, R3.out, U3.out⟩
  have q1 := (pick_ne x 1 e1).1
  have q1d := (pick_ne x 1 e1).2.1
  by_cases e2 : x = 2
  · have q2 := (pick_eq x 2 e2).1
    have q2d := (pick_eq x 2 e2).2.1
    clear e0 e1 e2
    go_wp2_with fail
    refine (of_any r n c (p1 + 1) 3 3 8 wq.heap.size a B _ (Rq.out.alloc _) ((HB.out.but HAL.out Uq.out).below (Nat.le_refl _) (below_alloc (Below.refl _ _) _)) HAB.out hn (by omega) (by omega) (by omega) (by omega) (fun j hj => threeS (heap_alloc_new _ _) (by exact (show 1 ≤ 8 by omega)) (by omega) (by omega) hj)).mono ?_
    rintro e w3 ⟨v, p3, rfl, hv, hp3, hR3, hU3⟩
    have R3 := Lib.hid hR3
    have U3 := Lib.hid ((Uq.out.alloc hzq _).trans (hU3.mono (by rw [World.size_alloc]; omega)))
    clear hR3 hU3
    go_wp2_with fail
    go_ret
    refine ⟨_, p3, rfl, by omega, by omega, R3.out, U3.out⟩
  have q2 := (pick_ne x 2 e2).1
  have q2d := (pick_ne x 2 e2).2.1
  clear e0 e1 e2
  go_wp2_with fail
  go_ret
  refine ⟨_, p1 + 1, rfl, by omega, by omega, Rq.out, Uq.out⟩

set_option maxRecDepth 100000 in
set_option maxHeartbeats 6400000 in
theorem l92Term_one (r n c p m : Nat) (a : Option Addr) (B : Nat → Nat) (w : World) (hR : RdrAt w r a n c p) (hb : RdB w a n B) (hab : 0 < n → ∀ b o, a = some ⟨b, o, none⟩ → b < w.heap.size ∧ b ≠ r) (hn : n ≤ 2000) (hp : p ≤ 800) (hm : m ≤ 5) :
    Calls Tryd.prog 81 #[.pointer (some ⟨r, 0, none⟩), .int .i64 (m : Nat), .int .i64 1] w (DrewS r a n c p 28 22 w) := by
  have H := Lib.hid (l92Circle_any r n c p m a B w hR hb hab hn (by omega) hm)
  have HB := Lib.hid hb
  have HAL := Lib.hid hab
  have HAB := Lib.hid (show 0 < n → ∀ b o, a = some ⟨b, o, none⟩ → b ≠ r from fun h0 b o e => (hab h0 b o e).2)
  have hrlt := hR.lt
  clear hb hab hR
  go_enter Tryd.func81, Tryd.ntmps81
  go_wp2_with fail
  refine H.out.mono ?_
  rintro e w1 ⟨s, p1, rfl, hs, hp1, hR1, hU1⟩
  have R1 := Lib.hid hR1
  have U1 := Lib.hid hU1
  clear hR1 hU1
  go_wp2_with fail
  refine (pick_any r n c p1 3 a B _ R1.out (HB.out.but HAL.out U1.out) HAB.out hn (by omega) (by omega) (by omega)).mono ?_
  rintro e w2 ⟨y, rfl, hy, hR2, hK2⟩
  have R2 := Lib.hid hR2
  have U2 := Lib.hid (U1.out.trans ((ButR.keeps (B := w.heap.size) hK2)))
  clear hR2 hK2
  have hz2 := U2.out.size
  have hr2 := R2.out.lt
  by_cases f0 : 0 < y
  · have q := decide_eq_true (show (0 : Int) < (y : Int) by omega)
    have qn := decide_eq_true f0
    go_wp2_with fail
    refine (l92Term_zero r n c (p1 + 1) m a B _ R2.out (HB.out.but HAL.out U2.out) (fun h0 b o e => ⟨by have := (HAL.out h0 b o e).1; omega, HAB.out h0 b o e⟩) hn (by omega) hm).mono ?_
    rintro e w4 ⟨s4, p4, rfl, hs4, hp4, hR4, hU4⟩
    have R4 := Lib.hid hR4
    have U4 := Lib.hid (U2.out.trans (hU4.mono hz2))
    clear hR4 hU4
    have hz4 := U4.out.size
    go_wp2_with fail
    refine (l92Term_zero r n c p4 m a B _ R4.out (HB.out.but HAL.out U4.out) (fun h0 b o e => ⟨by have := (HAL.out h0 b o e).1; omega, HAB.out h0 b o e⟩) hn (by omega) hm).mono ?_
    rintro e w5 ⟨s5, p5, rfl, hs5, hp5, hR5, hU5⟩
    have R5 := Lib.hid hR5
    have U5 := Lib.hid (U4.out.trans (hU5.mono hz4))
    clear hR5 hU5
    obtain ⟨z, hz⟩ : ∃ z, z = (⟨#[40]⟩ : ByteArray) ++ s4 ++ ⟨#[46]⟩ ++ s5 ++ ⟨#[41]⟩ := ⟨_, rfl⟩
    have hzz : z.size ≤ 21 := by
      rw [hz]; simp only [ByteArray.size_append]
      show 1 + s4.size + 1 + s5.size + 1 ≤ _
      omega
    go_wp2_with fail
    try rw [← hz]
    clear hz
    refine (pick_any r n c (p5) 8 a B _ R5.out (HB.out.but HAL.out U5.out) HAB.out hn (by omega) (by omega) (by omega)).mono ?_
    rintro e wq ⟨x, rfl, hx, hRq, hKq⟩
    have Rq := Lib.hid hRq
    have Uq := Lib.hid (U5.out.trans ((ButR.keeps (B := w.heap.size) hKq)))
    clear hRq hKq
    have hzq := Uq.out.size
    have hrq := Rq.out.lt
    by_cases e0 : x = 0
    · have q0 := (pick_eq x 0 e0).1
      have q0d := (pick_eq x 0 e0).2.1
      go_wp2_with fail
      go_ret
      refine ⟨_, p5 + 1, rfl, Nat.le_trans (Nat.le_of_eq ByteArray.size_append) (by show 1 + z.size ≤ _; omega), by omega, Rq.out, Uq.out⟩
    have q0 := (pick_ne x 0 e0).1
    have q0d := (pick_ne x 0 e0).2.1
    by_cases e1 : x = 1
    · have q1 := (pick_eq x 1 e1).1
      have q1d := (pick_eq x 1 e1).2.1
      clear e0 e1
      go_wp2_with fail
      refine (of_any r n c (p5 + 1) 3 3 1 wq.heap.size a B _ (Rq.out.alloc _) ((HB.out.but HAL.out Uq.out).below (Nat.le_refl _) (below_alloc (Below.refl _ _) _)) HAB.out hn (by omega) (by omega) (by omega) (by omega) (fun j hj => threeS (heap_alloc_new _ _) (by exact Nat.le_refl 1) (by exact Nat.le_refl 1) (by exact Nat.le_refl 1) hj)).mono ?_
      rintro e w3 ⟨v, p3, rfl, hv, hp3, hR3, hU3⟩
      have R3 := Lib.hid hR3
      have U3 := Lib.hid ((Uq.out.alloc hzq _).trans (hU3.mono (by rw [World.size_alloc]; omega)))
      clear hR3 hU3
      go_wp2_with fail
      go_ret
      refine ⟨_, p3, rfl, Nat.le_trans (Nat.le_of_eq ByteArray.size_append) (by omega), by omega, R3.out, U3.out⟩
    have q1 := (pick_ne x 1 e1).1
    have q1d := (pick_ne x 1 e1).2.1
    by_cases e2 : x = 2
    · have q2 := (pick_eq x 2 e2).1
      have q2d := (pick_eq x 2 e2).2.1
      clear e0 e1 e2
      go_wp2_with fail
      refine (of_any r n c (p5 + 1) 3 3 21 wq.heap.size a B _ (Rq.out.alloc _) ((HB.out.but HAL.out Uq.out).below (Nat.le_refl _) (below_alloc (Below.refl _ _) _)) HAB.out hn (by omega) (by omega) (by omega) (by omega) (fun j hj => threeS (heap_alloc_new _ _) (by exact (show 1 ≤ 21 by omega)) (by omega) (by omega) hj)).mono ?_
      rintro e w3 ⟨v, p3, rfl, hv, hp3, hR3, hU3⟩
      have R3 := Lib.hid hR3
      have U3 := Lib.hid ((Uq.out.alloc hzq _).trans (hU3.mono (by rw [World.size_alloc]; omega)))
      clear hR3 hU3
      go_wp2_with fail
      go_ret
      refine ⟨_, p3, rfl, by omega, by omega, R3.out, U3.out⟩
    have q2 := (pick_ne x 2 e2).1
    have q2d := (pick_ne x 2 e2).2.1
    clear e0 e1 e2
    go_wp2_with fail
    go_ret
    refine ⟨_, p5 + 1, rfl, by omega, by omega, Rq.out, Uq.out⟩
  · have q := decide_eq_false (show ¬ (0 : Int) < (y : Int) by omega)
    have qn := decide_eq_false f0
    go_wp2_with fail
    refine (pick_any r n c ((p1 + 1)) 8 a B _ R2.out (HB.out.but HAL.out U2.out) HAB.out hn (by omega) (by omega) (by omega)).mono ?_
    rintro e wq ⟨x, rfl, hx, hRq, hKq⟩
    have Rq := Lib.hid hRq
    have Uq := Lib.hid (U2.out.trans ((ButR.keeps (B := w.heap.size) hKq)))
    clear hRq hKq
    have hzq := Uq.out.size
    have hrq := Rq.out.lt
    by_cases e0 : x = 0
    · have q0 := (pick_eq x 0 e0).1
      have q0d := (pick_eq x 0 e0).2.1
      go_wp2_with fail
      go_ret
      refine ⟨_, (p1 + 1) + 1, rfl, Nat.le_trans (Nat.le_of_eq ByteArray.size_append) (by show 1 + s.size ≤ _; omega), by omega, Rq.out, Uq.out⟩
    have q0 := (pick_ne x 0 e0).1
    have q0d := (pick_ne x 0 e0).2.1
    by_cases e1 : x = 1
    · have q1 := (pick_eq x 1 e1).1
      have q1d := (pick_eq x 1 e1).2.1
      clear e0 e1
      go_wp2_with fail
      refine (of_any r n c ((p1 + 1) + 1) 3 3 1 wq.heap.size a B _ (Rq.out.alloc _) ((HB.out.but HAL.out Uq.out).below (Nat.le_refl _) (below_alloc (Below.refl _ _) _)) HAB.out hn (by omega) (by omega) (by omega) (by omega) (fun j hj => threeS (heap_alloc_new _ _) (by exact Nat.le_refl 1) (by exact Nat.le_refl 1) (by exact Nat.le_refl 1) hj)).mono ?_
      rintro e w3 ⟨v, p3, rfl, hv, hp3, hR3, hU3⟩
      have R3 := Lib.hid hR3
      have U3 := Lib.hid ((Uq.out.alloc hzq _).trans (hU3.mono (by rw [World.size_alloc]; omega)))
      clear hR3 hU3
      go_wp2_with fail
      go_ret
      refine ⟨_, p3, rfl, Nat.le_trans (Nat.le_of_eq ByteArray.size_append) (by omega), by omega, R3.out, U3.out⟩
    have q1 := (pick_ne x 1 e1).1
    have q1d := (pick_ne x 1 e1).2.1
    by_cases e2 : x = 2
    · have q2 := (pick_eq x 2 e2).1
      have q2d := (pick_eq x 2 e2).2.1
      clear e0 e1 e2
      go_wp2_with fail
      refine (of_any r n c ((p1 + 1) + 1) 3 3 8 wq.heap.size a B _ (Rq.out.alloc _) ((HB.out.but HAL.out Uq.out).below (Nat.le_refl _) (below_alloc (Below.refl _ _) _)) HAB.out hn (by omega) (by omega) (by omega) (by omega) (fun j hj => threeS (heap_alloc_new _ _) (by exact (show 1 ≤ 8 by omega)) (by omega) (by omega) hj)).mono ?_
      rintro e w3 ⟨v, p3, rfl, hv, hp3, hR3, hU3⟩
      have R3 := Lib.hid hR3
      have U3 := Lib.hid ((Uq.out.alloc hzq _).trans (hU3.mono (by rw [World.size_alloc]; omega)))
      clear hR3 hU3
      go_wp2_with fail
      go_ret
      refine ⟨_, p3, rfl, by omega, by omega, R3.out, U3.out⟩
    have q2 := (pick_ne x 2 e2).1
    have q2d := (pick_ne x 2 e2).2.1
    clear e0 e1 e2
    go_wp2_with fail
    go_ret
    refine ⟨_, (p1 + 1) + 1, rfl, by omega, by omega, Rq.out, Uq.out⟩

set_option maxRecDepth 100000 in
set_option maxHeartbeats 6400000 in
theorem l92Term_two (r n c p m : Nat) (a : Option Addr) (B : Nat → Nat) (w : World) (hR : RdrAt w r a n c p) (hb : RdB w a n B) (hab : 0 < n → ∀ b o, a = some ⟨b, o, none⟩ → b < w.heap.size ∧ b ≠ r) (hn : n ≤ 2000) (hp : p ≤ 700) (hm : m ≤ 5) :
    Calls Tryd.prog 81 #[.pointer (some ⟨r, 0, none⟩), .int .i64 (m : Nat), .int .i64 2] w (DrewS r a n c p 66 48 w) := by
  have H := Lib.hid (l92Circle_any r n c p m a B w hR hb hab hn (by omega) hm)
  have HB := Lib.hid hb
  have HAL := Lib.hid hab
  have HAB := Lib.hid (show 0 < n → ∀ b o, a = some ⟨b, o, none⟩ → b ≠ r from fun h0 b o e => (hab h0 b o e).2)
  have hrlt := hR.lt
  clear hb hab hR
  go_enter Tryd.func81, Tryd.ntmps81
  go_wp2_with fail
  refine H.out.mono ?_
  rintro e w1 ⟨s, p1, rfl, hs, hp1, hR1, hU1⟩
  have R1 := Lib.hid hR1
  have U1 := Lib.hid hU1
  clear hR1 hU1
  go_wp2_with fail
  refine (pick_any r n c p1 3 a B _ R1.out (HB.out.but HAL.out U1.out) HAB.out hn (by omega) (by omega) (by omega)).mono ?_
  rintro e w2 ⟨y, rfl, hy, hR2, hK2⟩
  have R2 := Lib.hid hR2
  have U2 := Lib.hid (U1.out.trans ((ButR.keeps (B := w.heap.size) hK2)))
  clear hR2 hK2
  have hz2 := U2.out.size
  have hr2 := R2.out.lt
  by_cases f0 : 0 < y
  · have q := decide_eq_true (show (0 : Int) < (y : Int) by omega)
    have qn := decide_eq_true f0
    go_wp2_with fail
    refine (l92Term_one r n c (p1 + 1) m a B _ R2.out (HB.out.but HAL.out U2.out) (fun h0 b o e => ⟨by have := (HAL.out h0 b o e).1; omega, HAB.out h0 b o e⟩) hn (by omega) hm).mono ?_
    rintro e w4 ⟨s4, p4, rfl, hs4, hp4, hR4, hU4⟩
    have R4 := Lib.hid hR4
    have U4 := Lib.hid (U2.out.trans (hU4.mono hz2))
    clear hR4 hU4
    have hz4 := U4.out.size
    go_wp2_with fail
    refine (l92Term_one r n c p4 m a B _ R4.out (HB.out.but HAL.out U4.out) (fun h0 b o e => ⟨by have := (HAL.out h0 b o e).1; omega, HAB.out h0 b o e⟩) hn (by omega) hm).mono ?_
    rintro e w5 ⟨s5, p5, rfl, hs5, hp5, hR5, hU5⟩
    have R5 := Lib.hid hR5
    have U5 := Lib.hid (U4.out.trans (hU5.mono hz4))
    clear hR5 hU5
    obtain ⟨z, hz⟩ : ∃ z, z = (⟨#[40]⟩ : ByteArray) ++ s4 ++ ⟨#[46]⟩ ++ s5 ++ ⟨#[41]⟩ := ⟨_, rfl⟩
    have hzz : z.size ≤ 47 := by
      rw [hz]; simp only [ByteArray.size_append]
      show 1 + s4.size + 1 + s5.size + 1 ≤ _
      omega
    go_wp2_with fail
    try rw [← hz]
    clear hz
    refine (pick_any r n c (p5) 8 a B _ R5.out (HB.out.but HAL.out U5.out) HAB.out hn (by omega) (by omega) (by omega)).mono ?_
    rintro e wq ⟨x, rfl, hx, hRq, hKq⟩
    have Rq := Lib.hid hRq
    have Uq := Lib.hid (U5.out.trans ((ButR.keeps (B := w.heap.size) hKq)))
    clear hRq hKq
    have hzq := Uq.out.size
    have hrq := Rq.out.lt
    by_cases e0 : x = 0
    · have q0 := (pick_eq x 0 e0).1
      have q0d := (pick_eq x 0 e0).2.1
      go_wp2_with fail
      go_ret
      refine ⟨_, p5 + 1, rfl, Nat.le_trans (Nat.le_of_eq ByteArray.size_append) (by show 1 + z.size ≤ _; omega), by omega, Rq.out, Uq.out⟩
    have q0 := (pick_ne x 0 e0).1
    have q0d := (pick_ne x 0 e0).2.1
    by_cases e1 : x = 1
    · have q1 := (pick_eq x 1 e1).1
      have q1d := (pick_eq x 1 e1).2.1
      clear e0 e1
      go_wp2_with fail
      refine (of_any r n c (p5 + 1) 3 3 1 wq.heap.size a B _ (Rq.out.alloc _) ((HB.out.but HAL.out Uq.out).below (Nat.le_refl _) (below_alloc (Below.refl _ _) _)) HAB.out hn (by omega) (by omega) (by omega) (by omega) (fun j hj => threeS (heap_alloc_new _ _) (by exact Nat.le_refl 1) (by exact Nat.le_refl 1) (by exact Nat.le_refl 1) hj)).mono ?_
      rintro e w3 ⟨v, p3, rfl, hv, hp3, hR3, hU3⟩
      have R3 := Lib.hid hR3
      have U3 := Lib.hid ((Uq.out.alloc hzq _).trans (hU3.mono (by rw [World.size_alloc]; omega)))
      clear hR3 hU3
      go_wp2_with fail
      go_ret
      refine ⟨_, p3, rfl, Nat.le_trans (Nat.le_of_eq ByteArray.size_append) (by omega), by omega, R3.out, U3.out⟩
    have q1 := (pick_ne x 1 e1).1
    have q1d := (pick_ne x 1 e1).2.1
    by_cases e2 : x = 2
    · have q2 := (pick_eq x 2 e2).1
      have q2d := (pick_eq x 2 e2).2.1
      clear e0 e1 e2
      go_wp2_with fail
      refine (of_any r n c (p5 + 1) 3 3 47 wq.heap.size a B _ (Rq.out.alloc _) ((HB.out.but HAL.out Uq.out).below (Nat.le_refl _) (below_alloc (Below.refl _ _) _)) HAB.out hn (by omega) (by omega) (by omega) (by omega) (fun j hj => threeS (heap_alloc_new _ _) (by exact (show 1 ≤ 47 by omega)) (by omega) (by omega) hj)).mono ?_
      rintro e w3 ⟨v, p3, rfl, hv, hp3, hR3, hU3⟩
      have R3 := Lib.hid hR3
      have U3 := Lib.hid ((Uq.out.alloc hzq _).trans (hU3.mono (by rw [World.size_alloc]; omega)))
      clear hR3 hU3
      go_wp2_with fail
      go_ret
      refine ⟨_, p3, rfl, by omega, by omega, R3.out, U3.out⟩
    have q2 := (pick_ne x 2 e2).1
    have q2d := (pick_ne x 2 e2).2.1
    clear e0 e1 e2
    go_wp2_with fail
    go_ret
    refine ⟨_, p5 + 1, rfl, by omega, by omega, Rq.out, Uq.out⟩
  · have q := decide_eq_false (show ¬ (0 : Int) < (y : Int) by omega)
    have qn := decide_eq_false f0
    go_wp2_with fail
    refine (pick_any r n c ((p1 + 1)) 8 a B _ R2.out (HB.out.but HAL.out U2.out) HAB.out hn (by omega) (by omega) (by omega)).mono ?_
    rintro e wq ⟨x, rfl, hx, hRq, hKq⟩
    have Rq := Lib.hid hRq
    have Uq := Lib.hid (U2.out.trans ((ButR.keeps (B := w.heap.size) hKq)))
    clear hRq hKq
    have hzq := Uq.out.size
    have hrq := Rq.out.lt
    by_cases e0 : x = 0
    · have q0 := (pick_eq x 0 e0).1
      have q0d := (pick_eq x 0 e0).2.1
      go_wp2_with fail
      go_ret
      refine ⟨_, (p1 + 1) + 1, rfl, Nat.le_trans (Nat.le_of_eq ByteArray.size_append) (by show 1 + s.size ≤ _; omega), by omega, Rq.out, Uq.out⟩
    have q0 := (pick_ne x 0 e0).1
    have q0d := (pick_ne x 0 e0).2.1
    by_cases e1 : x = 1
    · have q1 := (pick_eq x 1 e1).1
      have q1d := (pick_eq x 1 e1).2.1
      clear e0 e1
      go_wp2_with fail
      refine (of_any r n c ((p1 + 1) + 1) 3 3 1 wq.heap.size a B _ (Rq.out.alloc _) ((HB.out.but HAL.out Uq.out).below (Nat.le_refl _) (below_alloc (Below.refl _ _) _)) HAB.out hn (by omega) (by omega) (by omega) (by omega) (fun j hj => threeS (heap_alloc_new _ _) (by exact Nat.le_refl 1) (by exact Nat.le_refl 1) (by exact Nat.le_refl 1) hj)).mono ?_
      rintro e w3 ⟨v, p3, rfl, hv, hp3, hR3, hU3⟩
      have R3 := Lib.hid hR3
      have U3 := Lib.hid ((Uq.out.alloc hzq _).trans (hU3.mono (by rw [World.size_alloc]; omega)))
      clear hR3 hU3
      go_wp2_with fail
      go_ret
      refine ⟨_, p3, rfl, Nat.le_trans (Nat.le_of_eq ByteArray.size_append) (by omega), by omega, R3.out, U3.out⟩
    have q1 := (pick_ne x 1 e1).1
    have q1d := (pick_ne x 1 e1).2.1
    by_cases e2 : x = 2
    · have q2 := (pick_eq x 2 e2).1
      have q2d := (pick_eq x 2 e2).2.1
      clear e0 e1 e2
      go_wp2_with fail
      refine (of_any r n c ((p1 + 1) + 1) 3 3 8 wq.heap.size a B _ (Rq.out.alloc _) ((HB.out.but HAL.out Uq.out).below (Nat.le_refl _) (below_alloc (Below.refl _ _) _)) HAB.out hn (by omega) (by omega) (by omega) (by omega) (fun j hj => threeS (heap_alloc_new _ _) (by exact (show 1 ≤ 8 by omega)) (by omega) (by omega) hj)).mono ?_
      rintro e w3 ⟨v, p3, rfl, hv, hp3, hR3, hU3⟩
      have R3 := Lib.hid hR3
      have U3 := Lib.hid ((Uq.out.alloc hzq _).trans (hU3.mono (by rw [World.size_alloc]; omega)))
      clear hR3 hU3
      go_wp2_with fail
      go_ret
      refine ⟨_, p3, rfl, by omega, by omega, R3.out, U3.out⟩
    have q2 := (pick_ne x 2 e2).1
    have q2d := (pick_ne x 2 e2).2.1
    clear e0 e1 e2
    go_wp2_with fail
    go_ret
    refine ⟨_, (p1 + 1) + 1, rfl, by omega, by omega, Rq.out, Uq.out⟩
end Go.Proofs.YtnaegnjgpnakfaaDoor
