/- The model's draws of circles, terms, texts. -/
import Derived.Test.YtnaegnjgpnakfaaDoorDrawDifferent
import Derived.Test.YtnaegnjgpnakfaaDoorSpecText
/- The model's draws of terms: circles. -/
namespace Go.Proofs.YtnaegnjgpnakfaaDoor
set_option linter.unusedVariables false
set_option linter.unusedSimpArgs false
open Go.RowKit

/-- A text is drawn, of at most so many bytes. -/
def DrewS (r : Nat) (a : Option Addr) (n c p K B : Nat) (w : World) (e : Ending) (w' : World) : Prop :=
  ∃ (s : ByteArray) (p' : Nat), e = .returned (.string s) ∧ s.size ≤ B ∧ p' ≤ p + K ∧ RdrAt w' r a n c p' ∧ ButR r w.heap.size w w'
theorem u8_nat (v : Int) : ∃ b : Nat, IntKind.u8.wrap v = (b : Int) := by
  have h : 0 ≤ IntKind.u8.wrap v := by
    simp only [IntKind.wrap]
    first | exact Int.emod_nonneg _ (by decide) | (simp; omega) | omega
  exact ⟨(IntKind.u8.wrap v).toNat, (Int.toNat_of_nonneg h).symm⟩

set_option maxRecDepth 100000 in
set_option maxHeartbeats 3200000 in
theorem l92Circle_any (r n c p m : Nat) (a : Option Addr) (B : Nat → Nat) (w : World) (hR : RdrAt w r a n c p) (hb : RdB w a n B) (hab : 0 < n → ∀ b o, a = some ⟨b, o, none⟩ → b < w.heap.size ∧ b ≠ r) (hn : n ≤ 2000) (hp : p ≤ 1000) (hm : m ≤ 5) :
    Calls Tryd.prog 92 #[.pointer (some ⟨r, 0, none⟩), .int .i64 (m : Nat)] w (DrewS r a n c p 7 8 w) := by
  obtain ⟨i0, hi, hz0, hz1, hz2⟩ := info_parts Tryd.infoByte
  have H := Lib.hid (l91Different_any r n c p m a B w hR hb hab hn hp (by omega))
  clear hb hab hn hp
  go_enter Tryd.func92, Tryd.ntmps92
  go_wp2_with fail
  refine H.out.mono ?_
  rintro e w1 ⟨g0, k0, cap0, X, p1, rfl, hg0, hX, hR1, hp1, hU1⟩
  have HX := Lib.hid (And.intro hX (And.intro hR1 hU1))
  have HG0 := Lib.hid hg0
  have hk6 : k0 ≤ 6 := by omega
  clear hX hR1 hU1
  go_wp2_with fail
  have HO2 := Lib.hid (show (w1.alloc (.cells #[.int .u8 91] 5)).ownsRow w1.heap.size 5 1 (.slice (some ⟨w1.heap.size, 0, none⟩) 1 1) 1 (cellsB [91]) from ⟨by simp [cellsB], .inr ⟨w1.heap.size, 1, #[.int .u8 91], rfl, Nat.le_refl _, heap_alloc_new w1 _, Nat.le_refl _, by unfold maxLen; omega, by simp, by simp [cellsB]⟩⟩)
  have HB2 := Lib.hid (below_alloc (Below.refl w1.heap.size w1) (.cells #[.int .u8 91] 5))
  go_loopw [6, 7] (fun crow i wi => ∃ (k : Nat) (bs : List Nat) (g cap : Nat), k ≤ k0 ∧ i = .int .i64 (k : Nat) ∧ bs.length = k + 1 ∧ crow = .slice (some ⟨g, 0, none⟩) (k + 1) cap ∧ wi.ownsRow w1.heap.size 5 1 (.slice (some ⟨g, 0, none⟩) (k + 1) cap) (k + 1) (cellsB bs) ∧ Below w1.heap.size w1 wi) (fun _ i _ => k0 - (intOf i).toNat)
  case atStart => exact ⟨0, [91], w1.heap.size, 1, Nat.zero_le _, rfl, rfl, rfl, HO2.out, HB2.out⟩
  case round =>
    obtain ⟨k, bs, g, cap, hk, rfl, hlen, rfl, hown, hbw⟩ := hrel
    rename World => wi
    clear HO2 HB2
    have J2 := Lib.hid hown
    have JB := Lib.hid hbw
    have hwsz := hbw.size
    have hgl := hown.lt g rfl
    have JL := Lib.hid hlen
    by_cases hlt : k < k0
    · obtain ⟨bb, ob, he, hcx⟩ := (HX.out.1.below (Nat.le_refl _) hbw) k hlt
      cases he
      rw [Nat.zero_add] at hcx
      obtain ⟨x, hx⟩ : ∃ x, x = X k := ⟨_, rfl⟩
      rw [← hx] at hcx
      obtain ⟨y, hy⟩ : ∃ y, IntKind.i64.wrap (97 + x) = y := ⟨_, rfl⟩
      obtain ⟨bn, hbn⟩ := u8_nat y
      clear hown hbw hlen hx
      go_wp2_with (at_builtin; refine wpList_append_lies _ (by rfl) (.tmp 18) (.tmp 25) 35 (by rfl) w1.heap.size 5 i0 (.int .u8 0) 1 1 Tryd.underlying35 hi hz0 hz1 hz2 (by rfl) (by decide) _ (k + 1) (cellsB bs) (by rfl) (J2.out.alloc _) ⟨_, 0, none⟩ 1 1 [.int .u8 (bn : Nat)] (by rfl) (by rfl) (news_one (by simp)) (by simp [Value.oneCell']) (by omega) (by unfold maxLen; omega) (by omega) (by simp; omega) _ rfl ?_; intro g2 cap2 w2 hown2 hgrow2 hat2 hlt2; have N2 := Lib.hid hown2; have G2 := Lib.hid hgrow2; clear hown2 hgrow2 hat2)
      go_roundw
      case rel =>
        have hB3 : Below w1.heap.size w1 w2 := (below_alloc JB.out (.cells #[.int .u8 (bn : Nat)] 5)).grown G2.out (by simp; omega) (fun j hj => by cases hj; exact hgl.1)
        refine ⟨k + 1, bs ++ [bn], g2, cap2, by omega, by go_num, by simp; exact JL.out, rfl, ?_, hB3⟩
        have h := N2.out
        rw [cellsB_snoc] at h
        exact h
      case measure => simp [intOf]; omega
    · obtain rfl : k = k0 := by omega
      clear hown hbw hlen
      go_wp2_with (at_builtin; refine wpList_append_lies _ (by rfl) (.tmp 27) (.tmp 28) 35 (by rfl) w1.heap.size 5 i0 (.int .u8 0) 1 1 Tryd.underlying35 hi hz0 hz1 hz2 (by rfl) (by decide) _ (k + 1) (cellsB bs) (by rfl) (J2.out.alloc _) ⟨_, 0, none⟩ 1 1 [.int .u8 93] (by rfl) (by rfl) (news_one (by simp)) (by simp [Value.oneCell']) (by omega) (by unfold maxLen; omega) (by omega) (by simp; omega) _ rfl ?_; intro g2 cap2 w2 hown2 hgrow2 hat2 hlt2; have N2 := Lib.hid hown2; have G2 := Lib.hid hgrow2; have hcv := bytes_str' (ns := bs ++ [93]) (m := k + 1 + 1) (by simp; exact JL.out.symm) (by have h := hown2; rw [cellsB_93] at h; exact h); clear hown2 hgrow2 hat2)
      go_ret
      have hB3 : Below w1.heap.size w1 w2 := (below_alloc JB.out (.cells #[.int .u8 93] 5)).grown G2.out (by simp; omega) (fun j hj => by cases hj; exact hgl.1)
      refine ⟨_, p1, rfl, by rw [strN_size]; simp; have := JL.out; omega, by omega, HX.out.2.1.of_block (hB3.block r HX.out.2.1.lt), HX.out.2.2.trans (ButR.below (hB3.mono HX.out.2.2.size))⟩

set_option maxHeartbeats 1600000 in
theorem of_any (r n c p m k B0 : Nat) (g : Nat) (a : Option Addr) (B : Nat → Nat) (w : World) (hR : RdrAt w r a n c p) (hb : RdB w a n B) (hab : 0 < n → ∀ b o, a = some ⟨b, o, none⟩ → b ≠ r) (hn : n ≤ 2000) (hp : p ≤ 1000000) (hm1 : 1 ≤ m) (hm : m ≤ 8) (hgr : g ≠ r)
    (hS : ∀ j, j < m → ∃ s : ByteArray, w.cell? ⟨g, j, none⟩ = some (.string s) ∧ s.size ≤ B0) :
    Calls Tryd.prog 82 #[.pointer (some ⟨r, 0, none⟩), .slice (some ⟨g, 0, none⟩) m k] w (DrewS r a n c p 1 B0 w) := by
  have H := Lib.hid (pick_any r n c p m a B w hR hb hab hn hp hm1 (by omega))
  have HS := Lib.hid hS
  have HGR := Lib.hid hgr
  clear hR hb hab hn hp hS hgr hm1
  go_enter Tryd.func82, Tryd.ntmps82
  go_wp2_with fail
  refine H.out.mono ?_
  rintro e w1 ⟨x, rfl, hx, hR1, hK1⟩
  obtain ⟨s, hs, hsB⟩ := HS.out x hx
  have hs1 : w1.cell? ⟨g, x, none⟩ = some (.string s) := (hK1.cell (p := ⟨g, x, none⟩) (by have := HGR.out; show g < r ∨ r + 1 ≤ g; omega)).trans hs
  have X := Lib.hid (And.intro hR1 (And.intro (ButR.keeps (B := w.heap.size) hK1) hsB))
  clear hR1 hK1 hs hsB
  go_wp2_with fail
  go_ret
  exact ⟨s, p + 1, rfl, X.out.2.2, Nat.le_refl _, X.out.1, X.out.2.1⟩
end Go.Proofs.YtnaegnjgpnakfaaDoor

/- The model's draws of terms. -/
namespace Go.Proofs.YtnaegnjgpnakfaaDoor
set_option linter.unusedVariables false
set_option linter.unusedSimpArgs false
open Go.RowKit

theorem threeS {w : World} {g t B0 : Nat} {x : Nat} {v0 v1 v2 : ByteArray} (h : w.heap[g]? = some (.cells #[.string v0, .string v1, .string v2] t (0, 0))) (h0 : v0.size ≤ B0) (h1 : v1.size ≤ B0) (h2 : v2.size ≤ B0) (hx : x < 3) :
    ∃ s : ByteArray, w.cell? ⟨g, x, none⟩ = some (.string s) ∧ s.size ≤ B0 := by
  rw [cell_of_row w g x _ t (0, 0) h]
  have : x = 0 ∨ x = 1 ∨ x = 2 := by omega
  rcases this with rfl | rfl | rfl
  · exact ⟨_, rfl, h0⟩
  · exact ⟨_, rfl, h1⟩
  · exact ⟨_, rfl, h2⟩
/-- How the tests of a drawn number come out. -/
theorem pick_eq (x k : Nat) (h : x = k) : ((x : Int) == (k : Int)) = true ∧ decide ((x : Int) = (k : Int)) = true ∧ decide (x = k) = true := by subst h; simp
theorem pick_ne (x k : Nat) (h : x ≠ k) : ((x : Int) == (k : Int)) = false ∧ decide ((x : Int) = (k : Int)) = false ∧ decide (x = k) = false := by
  have : (x : Int) ≠ (k : Int) := by omega
  simp [h, this]
theorem DrewS.mono {r n c p p' K K' B B' : Nat} {a : Option Addr} {w0 w : World} {e : Ending} {w' : World} (h : DrewS r a n c p' K' B' w e w') (hU : ButR r w0.heap.size w0 w) (hB : B' ≤ B) (hp : p' + K' ≤ p + K) : DrewS r a n c p K B w0 e w' := by
  obtain ⟨s, q, rfl, h1, h2, h3, h4⟩ := h
  exact ⟨s, q, rfl, by omega, by omega, h3, hU.trans (h4.mono hU.size)⟩


set_option maxRecDepth 100000 in
set_option maxHeartbeats 6400000 in
theorem l92Term_zero (r n c p m : Nat) (a : Option Addr) (B : Nat → Nat) (w : World) (hR : RdrAt w r a n c p) (hb : RdB w a n B) (hab : 0 < n → ∀ b o, a = some ⟨b, o, none⟩ → b < w.heap.size ∧ b ≠ r) (hn : n ≤ 2000) (hp : p ≤ 900) (hm : m ≤ 5) :
    Calls Tryd.prog 81 #[.pointer (some ⟨r, 0, none⟩), .int .i64 (m : Nat), .int .i64 0] w (DrewS r a n c p 9 9 w) := by
  have H := Lib.hid (l92Circle_any r n c p m a B w hR hb hab hn (by omega) hm)
  have HB := Lib.hid hb
  have HAL := Lib.hid hab
  have HAB := Lib.hid (show 0 < n → ∀ b o, a = some ⟨b, o, none⟩ → b ≠ r from fun h0 b o e => (hab h0 b o e).2)
  have hrlt := hR.lt
  clear hb hab hR
  go_enter Tryd.func81, Tryd.ntmps81
  go_wp2_with fail
  refine H.out.mono ?_
  rintro e w1 ⟨s, p1, rfl, hs, hp1, hR1, hU1⟩
  have R1 := Lib.hid hR1
  have U1 := Lib.hid hU1
  clear hR1 hU1
  go_wp2_with fail
  refine (pick_any r n c (p1) 8 a B _ R1.out (HB.out.but HAL.out U1.out) HAB.out hn (by omega) (by omega) (by omega)).mono ?_
  rintro e wq ⟨x, rfl, hx, hRq, hKq⟩
  have Rq := Lib.hid hRq
  have Uq := Lib.hid (U1.out.trans ((ButR.keeps (B := w.heap.size) hKq)))
  clear hRq hKq
  have hzq := Uq.out.size
  have hrq := Rq.out.lt
  by_cases e0 : x = 0
  · have q0 := (pick_eq x 0 e0).1
    have q0d := (pick_eq x 0 e0).2.1
    go_wp2_with fail
    go_ret
    refine ⟨_, p1 + 1, rfl, Nat.le_trans (Nat.le_of_eq ByteArray.size_append) (by show 1 + s.size ≤ _; omega), by omega, Rq.out, Uq.out⟩
  have q0 := (pick_ne x 0 e0).1
  have q0d := (pick_ne x 0 e0).2.1
  by_cases e1 : x = 1
  · have q1 := (pick_eq x 1 e1).1
    have q1d := (pick_eq x 1 e1).2.1
    clear e0 e1
    go_wp2_with fail
    refine (of_any r n c (p1 + 1) 3 3 1 wq.heap.size a B _ (Rq.out.alloc _) ((HB.out.but HAL.out Uq.out).below (Nat.le_refl _) (below_alloc (Below.refl _ _) _)) HAB.out hn (by omega) (by omega) (by omega) (by omega) (fun j hj => threeS (heap_alloc_new _ _) (by exact Nat.le_refl 1) (by exact Nat.le_refl 1) (by exact Nat.le_refl 1) hj)).mono ?_
    rintro e w3 ⟨v, p3, rfl, hv, hp3, hR3, hU3⟩
    have R3 := Lib.hid hR3
    have U3 := Lib.hid ((Uq.out.alloc hzq _).trans (hU3.mono (by rw [World.size_alloc]; omega)))
    clear hR3 hU3
    go_wp2_with fail
    go_ret
    refine ⟨_, p3, rfl, Nat.le_trans (Nat.le_of_eq ByteArray.size_append) (by omega), by omega, R3.out, U3.out⟩
  have q1 := (pick_ne x 1 e1).1
  have q1d := (pick_ne x 1 e1).2.1
  by_cases e2 : x = 2
  · have q2 := (pick_eq x 2 e2).1
    have q2d := (pick_eq x 2 e2).2.1
    clear e0 e1 e2
    go_wp2_with fail
    refine (of_any r n c (p1 + 1) 3 3 8 wq.heap.size a B _ (Rq.out.alloc _) ((HB.out.but HAL.out Uq.out).below (Nat.le_refl _) (below_alloc (Below.refl _ _) _)) HAB.out hn (by omega) (by omega) (by omega) (by omega) (fun j hj => threeS (heap_alloc_new _ _) (by exact (show 1 ≤ 8 by omega)) (by omega) (by omega) hj)).mono ?_
    rintro e w3 ⟨v, p3, rfl, hv, hp3, hR3, hU3⟩
    have R3 := Lib.hid hR3
    have U3 := Lib.hid ((Uq.out.alloc hzq _).trans (hU3.mono (by rw [World.size_alloc]; omega)))
    clear hR3 hU3
    go_wp2_with fail
    go_ret
    refine ⟨_, p3, rfl, by omega, by omega, R3.out, U3.out⟩
  have q2 := (pick_ne x 2 e2).1
  have q2d := (pick_ne x 2 e2).2.1
  clear e0 e1 e2
  go_wp2_with fail
  go_ret
  refine ⟨_, p1 + 1, rfl, by omega, by omega, Rq.out, Uq.out⟩

set_option maxRecDepth 100000 in
set_option maxHeartbeats 6400000 in
theorem l92Term_one (r n c p m : Nat) (a : Option Addr) (B : Nat → Nat) (w : World) (hR : RdrAt w r a n c p) (hb : RdB w a n B) (hab : 0 < n → ∀ b o, a = some ⟨b, o, none⟩ → b < w.heap.size ∧ b ≠ r) (hn : n ≤ 2000) (hp : p ≤ 800) (hm : m ≤ 5) :
    Calls Tryd.prog 81 #[.pointer (some ⟨r, 0, none⟩), .int .i64 (m : Nat), .int .i64 1] w (DrewS r a n c p 28 22 w) := by
  have H := Lib.hid (l92Circle_any r n c p m a B w hR hb hab hn (by omega) hm)
  have HB := Lib.hid hb
  have HAL := Lib.hid hab
  have HAB := Lib.hid (show 0 < n → ∀ b o, a = some ⟨b, o, none⟩ → b ≠ r from fun h0 b o e => (hab h0 b o e).2)
  have hrlt := hR.lt
  clear hb hab hR
  go_enter Tryd.func81, Tryd.ntmps81
  go_wp2_with fail
  refine H.out.mono ?_
  rintro e w1 ⟨s, p1, rfl, hs, hp1, hR1, hU1⟩
  have R1 := Lib.hid hR1
  have U1 := Lib.hid hU1
  clear hR1 hU1
  go_wp2_with fail
  refine (pick_any r n c p1 3 a B _ R1.out (HB.out.but HAL.out U1.out) HAB.out hn (by omega) (by omega) (by omega)).mono ?_
  rintro e w2 ⟨y, rfl, hy, hR2, hK2⟩
  have R2 := Lib.hid hR2
  have U2 := Lib.hid (U1.out.trans ((ButR.keeps (B := w.heap.size) hK2)))
  clear hR2 hK2
  have hz2 := U2.out.size
  have hr2 := R2.out.lt
  by_cases f0 : 0 < y
  · have q := decide_eq_true (show (0 : Int) < (y : Int) by omega)
    have qn := decide_eq_true f0
    go_wp2_with fail
    refine (l92Term_zero r n c (p1 + 1) m a B _ R2.out (HB.out.but HAL.out U2.out) (fun h0 b o e => ⟨by have := (HAL.out h0 b o e).1; omega, HAB.out h0 b o e⟩) hn (by omega) hm).mono ?_
    rintro e w4 ⟨s4, p4, rfl, hs4, hp4, hR4, hU4⟩
    have R4 := Lib.hid hR4
    have U4 := Lib.hid (U2.out.trans (hU4.mono hz2))
    clear hR4 hU4
    have hz4 := U4.out.size
    go_wp2_with fail
    refine (l92Term_zero r n c p4 m a B _ R4.out (HB.out.but HAL.out U4.out) (fun h0 b o e => ⟨by have := (HAL.out h0 b o e).1; omega, HAB.out h0 b o e⟩) hn (by omega) hm).mono ?_
    rintro e w5 ⟨s5, p5, rfl, hs5, hp5, hR5, hU5⟩
    have R5 := Lib.hid hR5
    have U5 := Lib.hid (U4.out.trans (hU5.mono hz4))
    clear hR5 hU5
    obtain ⟨z, hz⟩ : ∃ z, z = (⟨#[40]⟩ : ByteArray) ++ s4 ++ ⟨#[46]⟩ ++ s5 ++ ⟨#[41]⟩ := ⟨_, rfl⟩
    have hzz : z.size ≤ 21 := by
      rw [hz]; simp only [ByteArray.size_append]
      show 1 + s4.size + 1 + s5.size + 1 ≤ _
      omega
    go_wp2_with fail
    try rw [← hz]
    clear hz
    refine (pick_any r n c (p5) 8 a B _ R5.out (HB.out.but HAL.out U5.out) HAB.out hn (by omega) (by omega) (by omega)).mono ?_
    rintro e wq ⟨x, rfl, hx, hRq, hKq⟩
    have Rq := Lib.hid hRq
    have Uq := Lib.hid (U5.out.trans ((ButR.keeps (B := w.heap.size) hKq)))
    clear hRq hKq
    have hzq := Uq.out.size
    have hrq := Rq.out.lt
    by_cases e0 : x = 0
    · have q0 := (pick_eq x 0 e0).1
      have q0d := (pick_eq x 0 e0).2.1
      go_wp2_with fail
      go_ret
      refine ⟨_, p5 + 1, rfl, Nat.le_trans (Nat.le_of_eq ByteArray.size_append) (by show 1 + z.size ≤ _; omega), by omega, Rq.out, Uq.out⟩
    have q0 := (pick_ne x 0 e0).1
    have q0d := (pick_ne x 0 e0).2.1
    by_cases e1 : x = 1
    · have q1 := (pick_eq x 1 e1).1
      have q1d := (pick_eq x 1 e1).2.1
      clear e0 e1
      go_wp2_with fail
      refine (of_any r n c (p5 + 1) 3 3 1 wq.heap.size a B _ (Rq.out.alloc _) ((HB.out.but HAL.out Uq.out).below (Nat.le_refl _) (below_alloc (Below.refl _ _) _)) HAB.out hn (by omega) (by omega) (by omega) (by omega) (fun j hj => threeS (heap_alloc_new _ _) (by exact Nat.le_refl 1) (by exact Nat.le_refl 1) (by exact Nat.le_refl 1) hj)).mono ?_
      rintro e w3 ⟨v, p3, rfl, hv, hp3, hR3, hU3⟩
      have R3 := Lib.hid hR3
      have U3 := Lib.hid ((Uq.out.alloc hzq _).trans (hU3.mono (by rw [World.size_alloc]; omega)))
      clear hR3 hU3
      go_wp2_with fail
      go_ret
      refine ⟨_, p3, rfl, Nat.le_trans (Nat.le_of_eq ByteArray.size_append) (by omega), by omega, R3.out, U3.out⟩
    have q1 := (pick_ne x 1 e1).1
    have q1d := (pick_ne x 1 e1).2.1
    by_cases e2 : x = 2
    · have q2 := (pick_eq x 2 e2).1
      have q2d := (pick_eq x 2 e2).2.1
      clear e0 e1 e2
      go_wp2_with fail
      refine (of_any r n c (p5 + 1) 3 3 21 wq.heap.size a B _ (Rq.out.alloc _) ((HB.out.but HAL.out Uq.out).below (Nat.le_refl _) (below_alloc (Below.refl _ _) _)) HAB.out hn (by omega) (by omega) (by omega) (by omega) (fun j hj => threeS (heap_alloc_new _ _) (by exact (show 1 ≤ 21 by omega)) (by omega) (by omega) hj)).mono ?_
      rintro e w3 ⟨v, p3, rfl, hv, hp3, hR3, hU3⟩
      have R3 := Lib.hid hR3
      have U3 := Lib.hid ((Uq.out.alloc hzq _).trans (hU3.mono (by rw [World.size_alloc]; omega)))
      clear hR3 hU3
      go_wp2_with fail
      go_ret
      refine ⟨_, p3, rfl, by omega, by omega, R3.out, U3.out⟩
    have q2 := (pick_ne x 2 e2).1
    have q2d := (pick_ne x 2 e2).2.1
    clear e0 e1 e2
    go_wp2_with fail
    go_ret
    refine ⟨_, p5 + 1, rfl, by omega, by omega, Rq.out, Uq.out⟩
  · have q := decide_eq_false (show ¬ (0 : Int) < (y : Int) by omega)
    have qn := decide_eq_false f0
    go_wp2_with fail
    refine (pick_any r n c ((p1 + 1)) 8 a B _ R2.out (HB.out.but HAL.out U2.out) HAB.out hn (by omega) (by omega) (by omega)).mono ?_
    rintro e wq ⟨x, rfl, hx, hRq, hKq⟩
    have Rq := Lib.hid hRq
    have Uq := Lib.hid (U2.out.trans ((ButR.keeps (B := w.heap.size) hKq)))
    clear hRq hKq
    have hzq := Uq.out.size
    have hrq := Rq.out.lt
    by_cases e0 : x = 0
    · have q0 := (pick_eq x 0 e0).1
      have q0d := (pick_eq x 0 e0).2.1
      go_wp2_with fail
      go_ret
      refine ⟨_, (p1 + 1) + 1, rfl, Nat.le_trans (Nat.le_of_eq ByteArray.size_append) (by show 1 + s.size ≤ _; omega), by omega, Rq.out, Uq.out⟩
    have q0 := (pick_ne x 0 e0).1
    have q0d := (pick_ne x 0 e0).2.1
    by_cases e1 : x = 1
    · have q1 := (pick_eq x 1 e1).1
      have q1d := (pick_eq x 1 e1).2.1
      clear e0 e1
      go_wp2_with fail
      refine (of_any r n c ((p1 + 1) + 1) 3 3 1 wq.heap.size a B _ (Rq.out.alloc _) ((HB.out.but HAL.out Uq.out).below (Nat.le_refl _) (below_alloc (Below.refl _ _) _)) HAB.out hn (by omega) (by omega) (by omega) (by omega) (fun j hj => threeS (heap_alloc_new _ _) (by exact Nat.le_refl 1) (by exact Nat.le_refl 1) (by exact Nat.le_refl 1) hj)).mono ?_
      rintro e w3 ⟨v, p3, rfl, hv, hp3, hR3, hU3⟩
      have R3 := Lib.hid hR3
      have U3 := Lib.hid ((Uq.out.alloc hzq _).trans (hU3.mono (by rw [World.size_alloc]; omega)))
      clear hR3 hU3
      go_wp2_with fail
      go_ret
      refine ⟨_, p3, rfl, Nat.le_trans (Nat.le_of_eq ByteArray.size_append) (by omega), by omega, R3.out, U3.out⟩
    have q1 := (pick_ne x 1 e1).1
    have q1d := (pick_ne x 1 e1).2.1
    by_cases e2 : x = 2
    · have q2 := (pick_eq x 2 e2).1
      have q2d := (pick_eq x 2 e2).2.1
      clear e0 e1 e2
      go_wp2_with fail
      refine (of_any r n c ((p1 + 1) + 1) 3 3 8 wq.heap.size a B _ (Rq.out.alloc _) ((HB.out.but HAL.out Uq.out).below (Nat.le_refl _) (below_alloc (Below.refl _ _) _)) HAB.out hn (by omega) (by omega) (by omega) (by omega) (fun j hj => threeS (heap_alloc_new _ _) (by exact (show 1 ≤ 8 by omega)) (by omega) (by omega) hj)).mono ?_
      rintro e w3 ⟨v, p3, rfl, hv, hp3, hR3, hU3⟩
      have R3 := Lib.hid hR3
      have U3 := Lib.hid ((Uq.out.alloc hzq _).trans (hU3.mono (by rw [World.size_alloc]; omega)))
      clear hR3 hU3
      go_wp2_with fail
      go_ret
      refine ⟨_, p3, rfl, by omega, by omega, R3.out, U3.out⟩
    have q2 := (pick_ne x 2 e2).1
    have q2d := (pick_ne x 2 e2).2.1
    clear e0 e1 e2
    go_wp2_with fail
    go_ret
    refine ⟨_, (p1 + 1) + 1, rfl, by omega, by omega, Rq.out, Uq.out⟩

set_option maxRecDepth 100000 in
set_option maxHeartbeats 6400000 in
theorem l92Term_two (r n c p m : Nat) (a : Option Addr) (B : Nat → Nat) (w : World) (hR : RdrAt w r a n c p) (hb : RdB w a n B) (hab : 0 < n → ∀ b o, a = some ⟨b, o, none⟩ → b < w.heap.size ∧ b ≠ r) (hn : n ≤ 2000) (hp : p ≤ 700) (hm : m ≤ 5) :
    Calls Tryd.prog 81 #[.pointer (some ⟨r, 0, none⟩), .int .i64 (m : Nat), .int .i64 2] w (DrewS r a n c p 66 48 w) := by
  have H := Lib.hid (l92Circle_any r n c p m a B w hR hb hab hn (by omega) hm)
  have HB := Lib.hid hb
  have HAL := Lib.hid hab
  have HAB := Lib.hid (show 0 < n → ∀ b o, a = some ⟨b, o, none⟩ → b ≠ r from fun h0 b o e => (hab h0 b o e).2)
  have hrlt := hR.lt
  clear hb hab hR
  go_enter Tryd.func81, Tryd.ntmps81
  go_wp2_with fail
  refine H.out.mono ?_
  rintro e w1 ⟨s, p1, rfl, hs, hp1, hR1, hU1⟩
  have R1 := Lib.hid hR1
  have U1 := Lib.hid hU1
  clear hR1 hU1
  go_wp2_with fail
  refine (pick_any r n c p1 3 a B _ R1.out (HB.out.but HAL.out U1.out) HAB.out hn (by omega) (by omega) (by omega)).mono ?_
  rintro e w2 ⟨y, rfl, hy, hR2, hK2⟩
  have R2 := Lib.hid hR2
  have U2 := Lib.hid (U1.out.trans ((ButR.keeps (B := w.heap.size) hK2)))
  clear hR2 hK2
  have hz2 := U2.out.size
  have hr2 := R2.out.lt
  by_cases f0 : 0 < y
  · have q := decide_eq_true (show (0 : Int) < (y : Int) by omega)
    have qn := decide_eq_true f0
    go_wp2_with fail
    refine (l92Term_one r n c (p1 + 1) m a B _ R2.out (HB.out.but HAL.out U2.out) (fun h0 b o e => ⟨by have := (HAL.out h0 b o e).1; omega, HAB.out h0 b o e⟩) hn (by omega) hm).mono ?_
    rintro e w4 ⟨s4, p4, rfl, hs4, hp4, hR4, hU4⟩
    have R4 := Lib.hid hR4
    have U4 := Lib.hid (U2.out.trans (hU4.mono hz2))
    clear hR4 hU4
    have hz4 := U4.out.size
    go_wp2_with fail
    refine (l92Term_one r n c p4 m a B _ R4.out (HB.out.but HAL.out U4.out) (fun h0 b o e => ⟨by have := (HAL.out h0 b o e).1; omega, HAB.out h0 b o e⟩) hn (by omega) hm).mono ?_
    rintro e w5 ⟨s5, p5, rfl, hs5, hp5, hR5, hU5⟩
    have R5 := Lib.hid hR5
    have U5 := Lib.hid (U4.out.trans (hU5.mono hz4))
    clear hR5 hU5
    obtain ⟨z, hz⟩ : ∃ z, z = (⟨#[40]⟩ : ByteArray) ++ s4 ++ ⟨#[46]⟩ ++ s5 ++ ⟨#[41]⟩ := ⟨_, rfl⟩
    have hzz : z.size ≤ 47 := by
      rw [hz]; simp only [ByteArray.size_append]
      show 1 + s4.size + 1 + s5.size + 1 ≤ _
      omega
    go_wp2_with fail
    try rw [← hz]
    clear hz
    refine (pick_any r n c (p5) 8 a B _ R5.out (HB.out.but HAL.out U5.out) HAB.out hn (by omega) (by omega) (by omega)).mono ?_
    rintro e wq ⟨x, rfl, hx, hRq, hKq⟩
    have Rq := Lib.hid hRq
    have Uq := Lib.hid (U5.out.trans ((ButR.keeps (B := w.heap.size) hKq)))
    clear hRq hKq
    have hzq := Uq.out.size
    have hrq := Rq.out.lt
    by_cases e0 : x = 0
    · have q0 := (pick_eq x 0 e0).1
      have q0d := (pick_eq x 0 e0).2.1
      go_wp2_with fail
      go_ret
      refine ⟨_, p5 + 1, rfl, Nat.le_trans (Nat.le_of_eq ByteArray.size_append) (by show 1 + z.size ≤ _; omega), by omega, Rq.out, Uq.out⟩
    have q0 := (pick_ne x 0 e0).1
    have q0d := (pick_ne x 0 e0).2.1
    by_cases e1 : x = 1
    · have q1 := (pick_eq x 1 e1).1
      have q1d := (pick_eq x 1 e1).2.1
      clear e0 e1
      go_wp2_with fail
      refine (of_any r n c (p5 + 1) 3 3 1 wq.heap.size a B _ (Rq.out.alloc _) ((HB.out.but HAL.out Uq.out).below (Nat.le_refl _) (below_alloc (Below.refl _ _) _)) HAB.out hn (by omega) (by omega) (by omega) (by omega) (fun j hj => threeS (heap_alloc_new _ _) (by exact Nat.le_refl 1) (by exact Nat.le_refl 1) (by exact Nat.le_refl 1) hj)).mono ?_
      rintro e w3 ⟨v, p3, rfl, hv, hp3, hR3, hU3⟩
      have R3 := Lib.hid hR3
      have U3 := Lib.hid ((Uq.out.alloc hzq _).trans (hU3.mono (by rw [World.size_alloc]; omega)))
      clear hR3 hU3
      go_wp2_with fail
      go_ret
      refine ⟨_, p3, rfl, Nat.le_trans (Nat.le_of_eq ByteArray.size_append) (by omega), by omega, R3.out, U3.out⟩
    have q1 := (pick_ne x 1 e1).1
    have q1d := (pick_ne x 1 e1).2.1
    by_cases e2 : x = 2
    · have q2 := (pick_eq x 2 e2).1
      have q2d := (pick_eq x 2 e2).2.1
      clear e0 e1 e2
      go_wp2_with fail
      refine (of_any r n c (p5 + 1) 3 3 47 wq.heap.size a B _ (Rq.out.alloc _) ((HB.out.but HAL.out Uq.out).below (Nat.le_refl _) (below_alloc (Below.refl _ _) _)) HAB.out hn (by omega) (by omega) (by omega) (by omega) (fun j hj => threeS (heap_alloc_new _ _) (by exact (show 1 ≤ 47 by omega)) (by omega) (by omega) hj)).mono ?_
      rintro e w3 ⟨v, p3, rfl, hv, hp3, hR3, hU3⟩
      have R3 := Lib.hid hR3
      have U3 := Lib.hid ((Uq.out.alloc hzq _).trans (hU3.mono (by rw [World.size_alloc]; omega)))
      clear hR3 hU3
      go_wp2_with fail
      go_ret
      refine ⟨_, p3, rfl, by omega, by omega, R3.out, U3.out⟩
    have q2 := (pick_ne x 2 e2).1
    have q2d := (pick_ne x 2 e2).2.1
    clear e0 e1 e2
    go_wp2_with fail
    go_ret
    refine ⟨_, p5 + 1, rfl, by omega, by omega, Rq.out, Uq.out⟩
  · have q := decide_eq_false (show ¬ (0 : Int) < (y : Int) by omega)
    have qn := decide_eq_false f0
    go_wp2_with fail
    refine (pick_any r n c ((p1 + 1)) 8 a B _ R2.out (HB.out.but HAL.out U2.out) HAB.out hn (by omega) (by omega) (by omega)).mono ?_
    rintro e wq ⟨x, rfl, hx, hRq, hKq⟩
    have Rq := Lib.hid hRq
    have Uq := Lib.hid (U2.out.trans ((ButR.keeps (B := w.heap.size) hKq)))
    clear hRq hKq
    have hzq := Uq.out.size
    have hrq := Rq.out.lt
    by_cases e0 : x = 0
    · have q0 := (pick_eq x 0 e0).1
      have q0d := (pick_eq x 0 e0).2.1
      go_wp2_with fail
      go_ret
      refine ⟨_, (p1 + 1) + 1, rfl, Nat.le_trans (Nat.le_of_eq ByteArray.size_append) (by show 1 + s.size ≤ _; omega), by omega, Rq.out, Uq.out⟩
    have q0 := (pick_ne x 0 e0).1
    have q0d := (pick_ne x 0 e0).2.1
    by_cases e1 : x = 1
    · have q1 := (pick_eq x 1 e1).1
      have q1d := (pick_eq x 1 e1).2.1
      clear e0 e1
      go_wp2_with fail
      refine (of_any r n c ((p1 + 1) + 1) 3 3 1 wq.heap.size a B _ (Rq.out.alloc _) ((HB.out.but HAL.out Uq.out).below (Nat.le_refl _) (below_alloc (Below.refl _ _) _)) HAB.out hn (by omega) (by omega) (by omega) (by omega) (fun j hj => threeS (heap_alloc_new _ _) (by exact Nat.le_refl 1) (by exact Nat.le_refl 1) (by exact Nat.le_refl 1) hj)).mono ?_
      rintro e w3 ⟨v, p3, rfl, hv, hp3, hR3, hU3⟩
      have R3 := Lib.hid hR3
      have U3 := Lib.hid ((Uq.out.alloc hzq _).trans (hU3.mono (by rw [World.size_alloc]; omega)))
      clear hR3 hU3
      go_wp2_with fail
      go_ret
      refine ⟨_, p3, rfl, Nat.le_trans (Nat.le_of_eq ByteArray.size_append) (by omega), by omega, R3.out, U3.out⟩
    have q1 := (pick_ne x 1 e1).1
    have q1d := (pick_ne x 1 e1).2.1
    by_cases e2 : x = 2
    · have q2 := (pick_eq x 2 e2).1
      have q2d := (pick_eq x 2 e2).2.1
      clear e0 e1 e2
      go_wp2_with fail
      refine (of_any r n c ((p1 + 1) + 1) 3 3 8 wq.heap.size a B _ (Rq.out.alloc _) ((HB.out.but HAL.out Uq.out).below (Nat.le_refl _) (below_alloc (Below.refl _ _) _)) HAB.out hn (by omega) (by omega) (by omega) (by omega) (fun j hj => threeS (heap_alloc_new _ _) (by exact (show 1 ≤ 8 by omega)) (by omega) (by omega) hj)).mono ?_
      rintro e w3 ⟨v, p3, rfl, hv, hp3, hR3, hU3⟩
      have R3 := Lib.hid hR3
      have U3 := Lib.hid ((Uq.out.alloc hzq _).trans (hU3.mono (by rw [World.size_alloc]; omega)))
      clear hR3 hU3
      go_wp2_with fail
      go_ret
      refine ⟨_, p3, rfl, by omega, by omega, R3.out, U3.out⟩
    have q2 := (pick_ne x 2 e2).1
    have q2d := (pick_ne x 2 e2).2.1
    clear e0 e1 e2
    go_wp2_with fail
    go_ret
    refine ⟨_, (p1 + 1) + 1, rfl, by omega, by omega, Rq.out, Uq.out⟩
end Go.Proofs.YtnaegnjgpnakfaaDoor

/- The model's draws of numbers of people and terms. -/
namespace Go.Proofs.YtnaegnjgpnakfaaDoor
set_option linter.unusedVariables false
set_option linter.unusedSimpArgs false
open Go.RowKit

theorem eightS {w : World} {g t B0 : Nat} {x : Nat} {v0 v1 v2 v3 v4 v5 v6 v7 : ByteArray} (h : w.heap[g]? = some (.cells #[.string v0, .string v1, .string v2, .string v3, .string v4, .string v5, .string v6, .string v7] t (0, 0))) (hs : v0.size ≤ B0 ∧ v1.size ≤ B0 ∧ v2.size ≤ B0 ∧ v3.size ≤ B0 ∧ v4.size ≤ B0 ∧ v5.size ≤ B0 ∧ v6.size ≤ B0 ∧ v7.size ≤ B0) (hx : x < 8) :
    ∃ s : ByteArray, w.cell? ⟨g, x, none⟩ = some (.string s) ∧ s.size ≤ B0 := by
  rw [cell_of_row w g x _ t (0, 0) h]
  obtain ⟨h0, h1, h2, h3, h4, h5, h6, h7⟩ := hs
  have : x = 0 ∨ x = 1 ∨ x = 2 ∨ x = 3 ∨ x = 4 ∨ x = 5 ∨ x = 6 ∨ x = 7 := by omega
  rcases this with rfl | rfl | rfl | rfl | rfl | rfl | rfl | rfl
  · exact ⟨_, rfl, h0⟩
  · exact ⟨_, rfl, h1⟩
  · exact ⟨_, rfl, h2⟩
  · exact ⟨_, rfl, h3⟩
  · exact ⟨_, rfl, h4⟩
  · exact ⟨_, rfl, h5⟩
  · exact ⟨_, rfl, h6⟩
  · exact ⟨_, rfl, h7⟩
/-- A number of people and a text are drawn. -/
def DrewT (r : Nat) (a : Option Addr) (n c p K : Nat) (w : World) (e : Ending) (w' : World) : Prop :=
  ∃ (q : Nat) (s : ByteArray) (p' : Nat), e = .returned (.tuple #[.int .i64 (q : Nat), .string s]) ∧ q ≤ 6 ∧ s.size ≤ 49 ∧ p' ≤ p + K ∧ RdrAt w' r a n c p' ∧ ButR r w.heap.size w w'
def DrewW (w : World) (e : Ending) (w' : World) : Prop :=
  ∃ (q : Nat) (s : ByteArray), e = .returned (.tuple #[.int .i64 (q : Nat), .string s]) ∧ q ≤ 6 ∧ s.size ≤ 49 ∧ Below w.heap.size w w'

set_option maxRecDepth 100000 in
set_option maxHeartbeats 6400000 in
theorem l92Text_any (r n c p : Nat) (a : Option Addr) (B : Nat → Nat) (w : World) (hR : RdrAt w r a n c p) (hb : RdB w a n B) (hab : 0 < n → ∀ b o, a = some ⟨b, o, none⟩ → b < w.heap.size ∧ b ≠ r) (hn : n ≤ 2000) (hp : p ≤ 600) :
    Calls Tryd.prog 66 #[.pointer (some ⟨r, 0, none⟩)] w (DrewT r a n c p 69 w) := by
  have HB := Lib.hid hb
  have HAL := Lib.hid hab
  have HAB := Lib.hid (show 0 < n → ∀ b o, a = some ⟨b, o, none⟩ → b ≠ r from fun h0 b o e => (hab h0 b o e).2)
  have hrlt := hR.lt
  have R0 := Lib.hid hR
  clear hb hab hR
  go_enter Tryd.func66, Tryd.ntmps66
  go_wp2_with fail
  refine (pick_any r n c p 4 a B _ R0.out HB.out HAB.out hn (by omega) (by omega) (by omega)).mono ?_
  rintro e w1 ⟨x1, rfl, hx1, hR1, hK1⟩
  have R1 := Lib.hid hR1
  have U1 := Lib.hid (ButR.keeps (B := w.heap.size) hK1)
  clear hR1 hK1
  have hz1 := U1.out.size
  obtain ⟨q, hq⟩ : ∃ q, q = 2 + x1 := ⟨_, rfl⟩
  have hqw : IntKind.i64.wrap ((2 : Int) + (x1 : Int)) = (q : Int) := by rw [IntWalk.i64_in _ (by omega)]; omega
  have hqv : wrap64 ((2 : Int) + (x1 : Int)) = (q : Int) := by rw [IntWalk.wrap64_in _ (by omega)]; omega
  have hq5 : q ≤ 5 := by omega
  clear hq
  go_wp2_with fail
  clear hqw hqv
  refine (l92Term_two r n c (p + 1) q a B _ R1.out (HB.out.but HAL.out U1.out) (fun h0 b o e => ⟨by have := (HAL.out h0 b o e).1; omega, HAB.out h0 b o e⟩) hn (by omega) hq5).mono ?_
  rintro e w2 ⟨s, p1, rfl, hs, hp1, hR2, hU2⟩
  have R2 := Lib.hid hR2
  have U2 := Lib.hid (U1.out.trans (hU2.mono hz1))
  clear hR2 hU2
  go_wp2_with fail
  refine (pick_any r n c p1 24 a B _ R2.out (HB.out.but HAL.out U2.out) HAB.out hn (by omega) (by omega) (by omega)).mono ?_
  rintro e wq ⟨x, rfl, hx, hRq, hKq⟩
  have Rq := Lib.hid hRq
  have Uq := Lib.hid (U2.out.trans ((ButR.keeps (B := w.heap.size) hKq)))
  clear hRq hKq
  have hzq := Uq.out.size
  have hrq := Rq.out.lt
  by_cases e0 : x = 0
  · have q0 := (pick_eq x 0 e0).1
    have q0d := (pick_eq x 0 e0).2.1
    clear e0
    go_wp2_with fail
    refine (of_any r n c (p1 + 1) 3 3 1 wq.heap.size a B _ (Rq.out.alloc _) ((HB.out.but HAL.out Uq.out).below (Nat.le_refl _) (below_alloc (Below.refl _ _) _)) HAB.out hn (by omega) (by omega) (by omega) (by omega) (fun j hj => threeS (heap_alloc_new _ _) (by exact Nat.le_refl 1) (by exact Nat.le_refl 1) (by exact Nat.le_refl 1) hj)).mono ?_
    rintro e w3 ⟨v, p3, rfl, hv, hp3, hR3, hU3⟩
    have R3 := Lib.hid hR3
    have U3 := Lib.hid ((Uq.out.alloc hzq _).trans (hU3.mono (by rw [World.size_alloc]; omega)))
    clear hR3 hU3
    go_wp2_with fail
    go_ret2
    refine ⟨q, _, p3, rfl, by omega, Nat.le_trans (Nat.le_of_eq ByteArray.size_append) (by omega), by omega, R3.out, U3.out⟩
  have q0 := (pick_ne x 0 e0).1
  have q0d := (pick_ne x 0 e0).2.1
  by_cases e1 : x = 1
  · have q1 := (pick_eq x 1 e1).1
    have q1d := (pick_eq x 1 e1).2.1
    clear e0 e1
    go_wp2_with fail
    refine (of_any r n c (p1 + 1) 8 8 8 wq.heap.size a B _ (Rq.out.alloc _) ((HB.out.but HAL.out Uq.out).below (Nat.le_refl _) (below_alloc (Below.refl _ _) _)) HAB.out hn (by omega) (by omega) (by omega) (by omega) (fun j hj => eightS (heap_alloc_new _ _) (by exact (show 0 ≤ 8 ∧ 1 ≤ 8 ∧ 3 ≤ 8 ∧ 4 ≤ 8 ∧ 3 ≤ 8 ∧ 4 ≤ 8 ∧ 8 ≤ 8 ∧ 2 ≤ 8 by decide)) hj)).mono ?_
    rintro e w3 ⟨v, p3, rfl, hv, hp3, hR3, hU3⟩
    have R3 := Lib.hid hR3
    have U3 := Lib.hid ((Uq.out.alloc hzq _).trans (hU3.mono (by rw [World.size_alloc]; omega)))
    clear hR3 hU3
    go_wp2_with fail
    go_ret2
    refine ⟨q, _, p3, rfl, by omega, by omega, by omega, R3.out, U3.out⟩
  have q1 := (pick_ne x 1 e1).1
  have q1d := (pick_ne x 1 e1).2.1
  by_cases e2 : x = 2
  · have q2 := (pick_eq x 2 e2).1
    have q2d := (pick_eq x 2 e2).2.1
    clear e0 e1 e2
    go_wp2_with fail
    refine (pick_any r n c (p1 + 1) 7 a B _ Rq.out (HB.out.but HAL.out Uq.out) HAB.out hn (by omega) (by omega) (by omega)).mono ?_
    rintro e w3 ⟨y, rfl, hy, hR3, hK3⟩
    have R3 := Lib.hid hR3
    have U3 := Lib.hid (Uq.out.trans ((ButR.keeps (B := w.heap.size) hK3)))
    clear hR3 hK3
    go_wp2_with fail
    go_ret2
    refine ⟨y, _, p1 + 1 + 1, rfl, by omega, by omega, by omega, R3.out, U3.out⟩
  have q2 := (pick_ne x 2 e2).1
  have q2d := (pick_ne x 2 e2).2.1
  clear e0 e1 e2
  go_wp2_with fail
  go_ret2
  refine ⟨q, _, p1 + 1, rfl, by omega, by omega, by omega, Rq.out, Uq.out⟩

set_option maxHeartbeats 1600000 in
theorem l92Word_any (n c : Nat) (a : Option Addr) (B : Nat → Nat) (w : World) (hn : n ≤ 1048576) (hc : n ≤ c) (hb : RdB w a n B) (hab : 0 < n → ∀ b o, a = some ⟨b, o, none⟩ → b < w.heap.size) :
    Calls Tryd.prog 51 #[.slice a n c] w (DrewW w) := by
  have HB := Lib.hid hb
  have HAL := Lib.hid hab
  clear hb hab
  go_enter Tryd.func51, Tryd.ntmps51
  go_wp2_with fail
  refine (l6Open_any n c a _ hn hc).mono ?_
  rintro e w1 ⟨n', c', rfl, hn2, hnn, hR1, hs1, hb1⟩
  have HB1 := Lib.hid ((HB.out.below (Nat.le_refl _) hb1).sub hnn)
  have HR1 := Lib.hid hR1
  have Hb1 := Lib.hid hb1
  have hlt1 : w.heap.size < w1.heap.size := by omega
  have HAL1 := Lib.hid (show 0 < n' → ∀ b o, a = some ⟨b, o, none⟩ → b < w1.heap.size ∧ b ≠ w.heap.size from fun h0 b o e => by have := HAL.out (by omega) b o e; exact ⟨by omega, by omega⟩)
  clear hR1 hb1 hs1
  go_wp2_with fail
  refine (l92Text_any w.heap.size n' c' 0 a B _ HR1.out HB1.out HAL1.out hn2 (by omega)).mono ?_
  rintro e w2 ⟨q, s, p', rfl, hq, hs, hp, hR2, hU2⟩
  have U2 := Lib.hid hU2
  clear hR2 hU2
  go_wp2_with fail
  go_ret2
  exact ⟨q, s, rfl, hq, hs, (Hb1.out.trans (U2.out.toBelow (Nat.le_of_lt hlt1)))⟩
end Go.Proofs.YtnaegnjgpnakfaaDoor
