/- The program's fraction, lessThanOne and sum. -/
import Derived.Test.YtimkgplabbcklaaCountMap
import Derived.Test.YtimkgplabbcklaaLowest
namespace Go.Proofs.Ytimkgplabbcklaa
set_option linter.unusedVariables false
set_option linter.unusedSimpArgs false
open Go.RowKit
open Go.Maps (Keyed)

/-- The sum of one over each number that is no longer to come. -/
def pastS (X : Nat → Int) (left : Lit → Bool) : Nat → Nat
  | 0 => 0
  | k + 1 => pastS X left k + (if left (.int .i64 (X k)) = true then 0 else pieceN (X k))
theorem pastS_none {X : Nat → Int} {left : Lit → Bool} : ∀ {k : Nat}, (∀ j, j < k → left (.int .i64 (X j)) = true) → pastS X left k = 0
  | 0, _ => rfl
  | k + 1, h => by
    show pastS X left k + (if left (.int .i64 (X k)) = true then 0 else pieceN (X k)) = 0
    rw [pastS_none (k := k) fun j hj => h j (by omega), if_pos (h k (by omega))]
theorem pastS_all {X : Nat → Int} {left : Lit → Bool} (h : ∀ kl, left kl = false) : ∀ {k : Nat}, pastS X left k = pieceS X k
  | 0 => rfl
  | k + 1 => by
    show pastS X left k + (if left (.int .i64 (X k)) = true then 0 else pieceN (X k)) = pieceS X k + pieceN (X k)
    rw [pastS_all h (k := k), h, if_neg (by simp)]
theorem pastS_next {X : Nat → Int} {left : Lit → Bool} {x : Int} (hx : left (.int .i64 x) = true) : ∀ {k : Nat}, pastS X (fun z => left z && !z.sameKey (.int .i64 x)) k = pastS X left k + timesN X k x * pieceN x
  | 0 => by simp [pastS, timesN]
  | k + 1 => by
    show pastS X (fun z => left z && !z.sameKey (.int .i64 x)) k + (if (left (.int .i64 (X k)) && !(Lit.int .i64 (X k)).sameKey (.int .i64 x)) = true then 0 else pieceN (X k)) = pastS X left k + (if left (.int .i64 (X k)) = true then 0 else pieceN (X k)) + (timesN X k x + (if X k = x then 1 else 0)) * pieceN x
    rw [pastS_next hx (k := k)]
    by_cases e : X k = x
    · subst e
      have h1 : (Lit.int .i64 (X k)).sameKey (.int .i64 (X k)) = true := by simp [Lit.sameKey]
      rw [if_pos hx, if_pos rfl, h1, hx]
      simp [Nat.add_mul]
      omega
    · have h1 : (Lit.int .i64 (X k)).sameKey (.int .i64 x) = false := Maps.sameKey_ne (fun e' => e (by injection e'))
      rw [if_neg e, h1]
      simp
      omega
theorem pastS_le {X : Nat → Int} {left : Lit → Bool} : ∀ {k : Nat}, pastS X left k ≤ pieceS X k
  | 0 => Nat.le_refl _
  | k + 1 => by
    have := pastS_le (X := X) (left := left) (k := k)
    show pastS X left k + (if left (.int .i64 (X k)) = true then 0 else pieceN (X k)) ≤ pieceS X k + pieceN (X k)
    split <;> omega

set_option maxRecDepth 100000 in
theorem ranges_leftI {w : World} {b r c : Nat} {D : DataW Unit} {left : Lit → Bool} {cnt : Nat} {R : Value → Option (DataW Unit × List MemPlace)} (h : w.ranges Try.prog 3 R b r c D left cnt) {kl : Lit} (hl : left kl = true) : Maps.has D kl = true := by
  obtain ⟨es, clock, since, seen, c0, h1, h2, h3, h4, h5, h6, h7, h8, h9, h10⟩ := h
  obtain ⟨x, hx, e⟩ := h9 kl hl
  subst h4
  show ((es.toList.map (WideElems.rg Try.prog 3 R)).foldr DataW.insert []).any (fun p => p.1.sameKey kl) = true
  rw [List.any_eq_true]
  refine ⟨WideElems.rg Try.prog 3 R x, mem_sorted.2 (List.mem_map.2 ⟨x, hx, rfl⟩), ?_⟩
  rw [e]
  refine WideAt.sameKey_self ?_
  rw [← e]
  exact (fun h : WideAt.IsKeyLit (WideElems.rg Try.prog 3 R x).1 => h) (by
    obtain ⟨v, hv⟩ := Maps.fit_keys h2 _ (List.mem_map.2 ⟨x, hx, rfl⟩)
    exact Try.lawInt.key hv)

/-- Two numbers. -/
def pairN (u l : Nat) (j : Nat) : Int := if j = 0 then (u : Int) else (l : Int)
theorem pair_gcd (u l : Nat) : gcdT (pairN u l) 2 = Nat.gcd u l := by
  show Nat.gcd (Nat.gcd 0 (pairN u l 0).toNat) (pairN u l 1).toNat = _
  rw [show pairN u l 0 = (u : Int) from rfl, show pairN u l 1 = (l : Int) from rfl, Int.toNat_natCast, Int.toNat_natCast, Nat.gcd_zero_left]
theorem upper_step {u l S x t P : Nat} (h : u * LC = l * S) (hP : P * x = LC) : (u * x + t * l) * LC = (l * x) * (S + t * P) := by
  rw [Nat.add_mul, Nat.mul_add]
  have e1 : u * x * LC = l * x * S := by rw [Nat.mul_assoc, Nat.mul_comm x, ← Nat.mul_assoc, h, Nat.mul_assoc, Nat.mul_comm S, ← Nat.mul_assoc]
  have e2 : t * l * LC = l * x * (t * P) := by
    rw [← hP]
    simp [Nat.mul_comm, Nat.mul_left_comm]
  rw [e1, e2]
theorem upper_le {u l S : Nat} (h : u * LC = l * S) (hS : S ≤ 6 * LC) : u ≤ 6 * l := by
  have h1 : u * LC ≤ 6 * l * LC := by
    rw [h, Nat.mul_assoc, Nat.mul_comm l LC, ← Nat.mul_assoc, Nat.mul_comm (6 * LC) l]
    exact Nat.mul_le_mul_left _ hS
  exact Nat.le_of_mul_le_mul_right h1 lc_pos

set_option maxRecDepth 100000 in
set_option maxHeartbeats 3200000 in
theorem fraction_any (b m : Nat) (X : Nat → Int) (w : World) (hm1 : 1 ≤ m) (hm6 : m ≤ 6) (hX : ∀ j, j < m → 1 ≤ X j ∧ X j ≤ 20) (hC : CountAt w b X m) :
    Calls Try.prog 39 #[.map (some b)] w fun e w' => e = .returned (.tuple #[.int .i64 (topN (pieceS X m) : Nat), .int .i64 (botN (pieceS X m) : Nat)]) ∧ Below w.heap.size w w' := by
  obtain ⟨D, hown, hD⟩ := hC
  have HD := Lib.hid hD
  have HX := Lib.hid hX
  have hsz := hown.size_le
  have hbl := hown.lt
  have hS6 : pieceS X m ≤ 6 * LC := Nat.le_trans (pieceS_le hX) (Nat.mul_le_mul_right _ hm6)
  have hSp := pieceS_pos hm1 hX
  have HS6 := Lib.hid hS6
  have HSP := Lib.hid hSp
  clear hD hX hS6 hSp
  go_enter Try.func39, Try.ntmps39
  go_wp2_with (first
    | (at_range; refine wpList_range_own _ rfl _ 42 rfl 3 3 Try.lawInt Try.underlying42 _ b m D rfl hown ?_; intro w0 hrg0 hg0 hs0)
    | go_in)
  go_frame
  have RG0 := Lib.hid hrg0
  have B0 := Lib.hid (show Below w.heap.size w w0 from ⟨hg0.os, hg0.tape, hg0.output, hg0.size, fun k hk => hg0.block k hk (by simp)⟩)
  have HB := Lib.hid hbl
  clear hrg0 hg0 hs0 hown
  go_loopw [4, 5, 6, 7] (fun u l _ _ wr => ∃ (left : Lit → Bool) (cnt up lo p : Nat), u = .int .i64 up ∧ l = .int .i64 lo ∧ wr.ranges Try.prog 3 (plainElem Try.prog 3) b w.heap.size m D left cnt ∧ (up * LC = lo * pastS X left m ∧ p + cnt ≤ m ∧ 1 ≤ lo ∧ lo ≤ 20 ^ p) ∧ Below w.heap.size w wr)
    (fun _ _ _ _ wr => wr.rangeLeft b w.heap.size)
  case atStart => exact ⟨_, _, 0, 1, 0, rfl, rfl, RG0.out, ⟨by rw [pastS_none fun j hj => (HD.out.1 _).2 ⟨j, hj, rfl⟩, Nat.zero_mul, Nat.mul_zero], by omega, Nat.le_refl _, Nat.le_refl _⟩, B0.out⟩
  case round =>
    obtain ⟨left, cnt, up, lo, p, rfl, rfl, hrg, ⟨hul, hp, hl1, hl2⟩, hB⟩ := hrel
    have HUL := Lib.hid hul
    have HBw := Lib.hid hB
    have HRG := Lib.hid hrg
    have hp6 : p ≤ 6 := by omega
    have h20 : 20 ^ p ≤ 64000000 := Nat.le_trans (Nat.pow_le_pow_right (by omega) hp6) (by decide)
    have hup := upper_le hul (Nat.le_trans pastS_le HS6.out)
    have HP2 := Lib.hid hl2
    have hlo : lo ≤ 64000000 := by omega
    clear hul hB RG0 B0 hl2 h20
    go_wp2_with (first
      | (at_next; refine wpList_next_ranges_ii _ rfl _ rfl 3 3 .i64 .i64 Try.lawInt Try.underlying3 Try.underlying3 b w.heap.size m _ _ _ rfl hrg ?_ ?_)
      | go_in)
    · intro hc0 hl0
      clear hrg
      have hq := HUL.out
      rw [pastS_all hl0] at hq
      have hlow := low_terms (u := up) (l := lo) (S := pieceS X m) (by omega) hq
      have hu1 : 1 ≤ up := by
        rcases Nat.eq_zero_or_pos up with e | e
        · rw [e, Nat.zero_mul] at hq
          have := Nat.mul_pos hl1 (show 0 < pieceS X m from HSP.out)
          omega
        · exact e
      have hgp : 0 < Nat.gcd up lo := Nat.gcd_pos_of_pos_right _ (by omega)
      have QP := Lib.hid (pair_gcd up lo)
      have K1 := Lib.hid hlow.1
      have K2 := Lib.hid hlow.2
      obtain ⟨g, hg⟩ : ∃ g, g = Nat.gcd up lo := ⟨_, rfl⟩
      rw [← hg] at hgp
      have QG := Lib.hid hg
      have hq1 : 0 ≤ (up : Int) / (g : Int) := Int.ediv_nonneg (by omega) (by omega)
      have hq2 : (up : Int) / (g : Int) ≤ up := Int.ediv_le_self _ (by omega)
      have hq3 : 0 ≤ (lo : Int) / (g : Int) := Int.ediv_nonneg (by omega) (by omega)
      have hq4 : (lo : Int) / (g : Int) ≤ lo := Int.ediv_le_self _ (by omega)
      have hne1 : ((g : Int) == 0) = false := by simp; omega
      have hne2 : ¬ (g : Int) = 0 := by omega
      have HDV := Lib.hid (fun W gg (hr : Rd W (some ⟨gg, 0, none⟩) 2 (pairN up lo)) => divisor_any6 2 2 (some ⟨gg, 0, none⟩) (pairN up lo) W (by omega) hr (fun k hk => by unfold pairN; split <;> omega))
      clear hq hlow hg
      go_wp2_with (go_at_call 53; refine (HDV.out _ _ (fun k hk => ⟨_, 0, rfl, by
          rcases (show k = 0 ∨ k = 1 by omega) with rfl | rfl <;> simp [pairN]⟩)).mono ?_; rintro e w2 ⟨rfl, q, rfl⟩; rw [QP.out, ← QG.out])
      go_quiet (fail)
      go_wp2
      go_ret2
      refine ⟨?_, ?_⟩
      · rw [← K1.out, ← K2.out, ← QG.out, Int.natCast_ediv, Int.natCast_ediv]; rfl
      · have B2 := (below_alloc HBw.out (.cells #[.int .i64 (up : Int), .int .i64 (lo : Int)] 3))
        first
          | exact below_drewN B2 _
          | exact (below_drewN B2 _).drew
          | (refine B2.trans ?_; repeat (first | exact Below.refl _ _ | exact below_drewN (Below.refl _ _) _ | refine Below.drew ?_ | refine below_drewN ?_ _))
    · intro x c' w1 cnt1 hwx hwc hlx hat hrg1 hlt hg1 hs1 hen
      obtain ⟨j, hj, ej⟩ := (HD.out.1 _).1 (ranges_leftI HRG.out hlx)
      have ej' : x = X j := by injection ej
      have hx := HX.out j hj
      rw [← ej'] at hx
      have hct : c' = (timesN X m x : Nat) := by
        have h1 := (hat (.lit (.int .i64 0))).symm.trans (HD.out.2 x)
        injection h1 with h1
        injection h1
      have htm := timesN_le X x m
      have hps := pastS_next (X := X) hlx (k := m)
      obtain ⟨t, ht⟩ : ∃ t, t = timesN X m x := ⟨_, rfl⟩
      rw [← ht] at hct htm hps
      subst hct
      obtain ⟨y, hy⟩ := Int.eq_ofNat_of_zero_le (show 0 ≤ x by omega)
      have hpm := piece_mul hx
      subst hy
      rw [Int.toNat_natCast] at hpm
      have HST := Lib.hid (upper_step (t := t) HUL.out hpm)
      have HPS := Lib.hid hps
      have RG1 := Lib.hid hrg1
      have B1 := Lib.hid (HBw.out.grown hg1 HBw.out.size (fun k hk => by cases hk; exact Nat.le_refl _))
      have hL1 := hrg1.left_eq
      have hL0 := HRG.out.left_eq
      have HM := Lib.hid (show w1.rangeLeft b w.heap.size < wr.rangeLeft b w.heap.size by rw [hL1, hL0]; exact hlt)
      have hy1 : 1 ≤ y := by omega
      have hy2 : y ≤ 20 := by omega
      have hup2 : up ≤ 384000000 := by omega
      have hp1 : 0 ≤ (up : Int) * (y : Int) := Int.mul_nonneg (by omega) (by omega)
      have hp2 : (up : Int) * (y : Int) ≤ 384000000 * 20 := Int.mul_le_mul (by omega) (by omega) (by omega) (by omega)
      have hp3 : 0 ≤ (t : Int) * (lo : Int) := Int.mul_nonneg (by omega) (by omega)
      have hp4 : (t : Int) * (lo : Int) ≤ 6 * 64000000 := Int.mul_le_mul (by omega) (by omega) (by omega) (by omega)
      have hp5 : 0 ≤ (lo : Int) * (y : Int) := Int.mul_nonneg (by omega) (by omega)
      have hp7 : (lo : Int) * (y : Int) ≤ 64000000 * 20 := Int.mul_le_mul (by omega) (by omega) (by omega) (by omega)
      clear hrg1 hg1 hps hpm hat hwx hwc hlx ej ej' hL1 hL0 hrg ht
      go_wp2
      go_roundw
      case rel => exact ⟨_, cnt1, up * y + t * lo, lo * y, p + 1, by rw [Int.natCast_add, Int.natCast_mul, Int.natCast_mul], by rw [Int.natCast_mul], RG1.out, ⟨by rw [HPS.out]; exact HST.out, by omega, Nat.mul_pos hl1 hy1, by rw [Nat.pow_succ]; exact Nat.mul_le_mul HP2.out hy2⟩, B1.out⟩
      case measure => exact HM.out

theorem lessThanOne_any (b m : Nat) (X : Nat → Int) (w : World) (h : IsOdds m X) (hC : CountAt w b X m) :
    Calls Try.prog 29 #[.map (some b)] w fun e w' => e = .returned (.bool (tt (SureP m X))) ∧ Below w.heap.size w w' := by
  have H := fraction_any b m X w (by have := h.1; omega) h.1.2 h.2 hC
  obtain ⟨t, ht⟩ : ∃ t, t = topN (pieceS X m) := ⟨_, rfl⟩
  obtain ⟨l, hl⟩ : ∃ l, l = botN (pieceS X m) := ⟨_, rfl⟩
  have E := Lib.hid (show decide (t < l) = tt (SureP m X) from by
    rw [ht, hl]
    by_cases e : topN (pieceS X m) < botN (pieceS X m)
    · rw [tt_of (show SureP m X from ⟨h, (top_lt_bot _).1 e⟩)]; simpa using e
    · rw [tt_no (show ¬ SureP m X from fun h' => e ((top_lt_bot _).2 h'.2))]; simpa using e)
  rw [← ht, ← hl] at H
  have H := Lib.hid H
  clear ht hl h hC
  go_enter Try.func29, Try.ntmps29
  go_wp2_with (go_at_call 39; refine H.out.mono ?_; rintro e w' ⟨rfl, hb⟩; have B1 := Lib.hid hb; clear hb)
  go_ret
  exact ⟨by rw [← E.out]; rfl, B1.out⟩

theorem sum_any (m c : Nat) (a : Option Addr) (X : Nat → Int) (w : World) (hm : m ≤ 8) (ha : Rd w a m X) (hX : ∀ j, j < m → 1 ≤ X j ∧ X j ≤ 20) :
    Calls Try.prog 28 #[.slice a m c] w fun e w' => ∃ b, e = .returned (.map (some b)) ∧ CountAt w' b X m ∧ Below w.heap.size w w' := by
  have hmm := @run_makeMap Try.prog
  have H := Lib.hid (keep_any w.heap.size m c a X (w.alloc (.map #[] 0)) hm (ha.below (Nat.le_refl _) (below_alloc (Below.refl _ _) _)) hX ⟨#[], 0, heap_alloc_last _ _⟩)
  clear ha hX
  go_enter Try.func28, Try.ntmps28
  go_wp2_with (go_at_call 43; refine H.out.mono ?_; rintro e w2 ⟨rfl, hc, hg⟩; have C2 := Lib.hid hc; have B2 := Lib.hid ((below_alloc (Below.refl w.heap.size w) (.map #[] 0)).grown hg (by simp) (fun k hk => by cases hk; exact Nat.le_refl _)); clear hc hg)
  go_ret
  exact ⟨_, rfl, C2.out, B2.out⟩
end Go.Proofs.Ytimkgplabbcklaa
