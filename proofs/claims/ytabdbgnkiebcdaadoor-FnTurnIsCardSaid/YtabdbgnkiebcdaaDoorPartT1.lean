/- Texts joined: DrawTurned, DrawOf, L4Place, SpecTurnOrder, DrawProofTurnIs, TurnGood, TurnGoodM. -/
import Derived.Test.YtabdbgnkiebcdaaDoorPartR11
import Derived.Test.YtabdbgnkiebcdaaDoorPartR12
import Derived.Test.YtabdbgnkiebcdaaDoorPartR10
import Derived.Test.YtabdbgnkiebcdaaDoorPartR2
import Derived.Test.YtabdbgnkiebcdaaDoorPartR9
import Derived.Test.YtabdbgnkiebcdaaDoorPartR3
import Derived.Test.YtabdbgnkiebcdaaDoorProg
namespace Go.Proofs.YtabdbgnkiebcdaaDoor
set_option linter.unusedVariables false
set_option linter.unusedSimpArgs false
open Go.RowKit

set_option maxHeartbeats 3200000 in
theorem l92Turned_any (r n c p q : Nat) (a : Option Addr) (B : Nat → Nat) (w : World) (hR : RdrAt w r a n c p) (hb : RdB w a n B) (hab : 0 < n → ∀ b o, a = some ⟨b, o, none⟩ → b < w.heap.size ∧ b ≠ r) (hn : n ≤ 2000) (hp : p ≤ 500) (hq2 : 2 ≤ q) (hq5 : q ≤ 5) :
    Calls Tryd.prog 72 #[.pointer (some ⟨r, 0, none⟩), .int .i64 q] w (DrewGiven r a n c p w) := by
  have hrl := hR.lt
  have HR := Lib.hid hR
  have HB := Lib.hid hb
  have HAL := Lib.hid hab
  have HAB := Lib.hid (show 0 < n → ∀ b o, a = some ⟨b, o, none⟩ → b ≠ r from fun h0 b o e => (hab h0 b o e).2)
  clear hR hb hab
  go_enter Tryd.func72, Tryd.ntmps72
  go_wp2_with fail
  refine (l91Wishes_any r n c p q a B w HR.out HB.out HAL.out hn (by omega) hq2 hq5).mono ?_
  rintro e w2 ⟨ga, N, gc, A, L, C, Z, p2, rfl, ⟨hN1, hN5⟩, ⟨hL, hAp⟩, hT, hR2, hp2, hU2⟩
  have HL := Lib.hid hL
  have HL2 := Lib.hid (show ∀ s, s < N → L s ≤ 1048576 from fun s hs => by have := hL s hs; omega)
  have HT2 := Lib.hid hT
  have HAp := Lib.hid hAp
  have HR2 := Lib.hid hR2
  have HU2 := Lib.hid hU2
  clear hL hAp hT hR2 hU2
  go_wp2_with fail
  refine (l91Order_any r n c p2 N a B _ HR2.out (HB.out.but HAL.out HU2.out) (fun h0 b o e => ⟨by have := HU2.out.size; have := (HAL.out h0 b o e).1; omega, HAB.out h0 b o e⟩) hn (by omega) hN5).mono ?_
  rintro e w4 ⟨g, m, cap, X, p4, rfl, ⟨hg1, hg2, hg3, hg4⟩, hX, hR4, hp4, hU4⟩
  have HX := Lib.hid hX
  have HR4 := Lib.hid hR4
  have HU4 := Lib.hid (HU2.out.trans (hU4.mono HU2.out.size))
  have HT4 := Lib.hid (tab_but HT2.out HAp.out hrl hU4)
  have HAi := Lib.hid (show ApartI w.heap.size m (some ⟨g, 0, none⟩) from fun _ g' o hg => by simp only [Option.some.injEq, Addr.mk.injEq] at hg; have := HU2.out.size; omega)
  have HI := Lib.hid (l3Both_any N gc ga A L C Z m cap (some ⟨g, 0, none⟩) X w4 (by omega) HL2.out HT4.out (by omega) hX)
  clear hX hR4 hU4
  by_cases hW : GivenOk N L Z m X
  · have T1 := Lib.hid (tt_of hW)
    obtain rfl : m = N := hW.2.1
    have HW := Lib.hid hW
    clear hW
    go_wp2_with (go_at_call 52; refine HI.out.mono ?_; rintro e w' ⟨rfl, rfl⟩; rw [T1.out])
    go_wp2_with fail
    refine (pick_any r n c p4 2 a B _ HR4.out (HB.out.but HAL.out HU4.out) HAB.out hn (by omega) (by omega) (by omega)).mono ?_
    rintro e w3 ⟨x, rfl, hx, hR3, hK3⟩
    have HR3 := Lib.hid hR3
    have HU3 := Lib.hid (HU4.out.trans (ButR.keeps hK3))
    have HT3 := Lib.hid (tab_but HT4.out HAp.out hrl (ButR.keeps hK3))
    have HX3 := Lib.hid (rdA_but HX.out HAi.out hrl (ButR.keeps hK3))
    clear hR3 hK3
    by_cases h0 : x = 0
    · have d1 : ((x : Int) == 0) = true := by subst h0; rfl
      clear h0
      go_wp2_with (go_at_call 60; refine (l5Take_any m gc cap ga _ A L C Z X _ HW.out HT3.out HX3.out).mono ?_; rintro e w5 ⟨g5, cap5, rfl, ⟨hg51, hg52, hg53⟩, hO, hb5⟩; have HO := Lib.hid hO; have HB5 := Lib.hid hb5; clear hO hb5)
      go_ret2
      refine ⟨ga, m, gc, A, L, C, Z, some ⟨g5, 0, none⟩, m, cap5, _, p4 + 1, rfl, ⟨⟨hN1, hN5⟩, hg53, by omega⟩, ⟨HL.out, HAp.out, fun _ g' o hg => by simp only [Option.some.injEq, Addr.mk.injEq] at hg; have := HU3.out.size; omega⟩, HT3.out.below (Nat.le_refl _) HB5.out, HO.out.rd, HR3.out.of_block (HB5.out.block _ (by have := HU3.out.size; omega)), by omega, HU3.out.trans (ButR.below (HB5.out.mono (HU3.out.size)))⟩
    · have d1 : ((x : Int) == 0) = false := by simp; omega
      clear h0
      go_wp2
      go_ret2
      exact ⟨ga, m, gc, A, L, C, Z, some ⟨g, 0, none⟩, m, cap, X, p4 + 1, rfl, ⟨⟨hN1, hN5⟩, hg3, by omega⟩, ⟨HL.out, HAp.out, HAi.out⟩, HT3.out, HX3.out, HR3.out, by omega, HU3.out⟩
  · have T1 := Lib.hid (tt_no hW)
    clear hW
    go_wp2_with (go_at_call 52; refine HI.out.mono ?_; rintro e w' ⟨rfl, rfl⟩; rw [T1.out])
    go_ret2
    exact ⟨ga, N, gc, A, L, C, Z, some ⟨g, 0, none⟩, m, cap, X, p4, rfl, ⟨⟨hN1, hN5⟩, hg3, by omega⟩, ⟨HL.out, HAp.out, HAi.out⟩, HT4.out, HX.out, HR4.out, by omega, HU4.out⟩
end Go.Proofs.YtabdbgnkiebcdaaDoor

namespace Go.Proofs.YtabdbgnkiebcdaaDoor
set_option linter.unusedVariables false
set_option linter.unusedSimpArgs false
open Go.RowKit

theorem RdrAt.setP {w : World} {r : Nat} {a : Option Addr} {n c p : Nat} (h : RdrAt w r a n c p) (q : Nat) : RdrAt (w.setCell ⟨r, 1, none⟩ (.int .i64 (q : Int))) r a n c q := by
  have := heap_setCell_same w r 1 _ _ (.int .i64 (q : Int)) h
  unfold RdrAt
  rw [this]
  rfl

/-- A text is drawn. -/
def DrewOf (r : Nat) (a : Option Addr) (n c p B0 : Nat) (w : World) (e : Ending) (w' : World) : Prop :=
  ∃ (s : ByteArray), e = .returned (.string s) ∧ s.size ≤ B0 ∧ RdrAt w' r a n c (p + 1) ∧ Keeps r (r + 1) w w'

theorem strs_at {w : World} {g t B0 : Nat} (ss : List ByteArray) (h : w.heap[g]? = some (.cells (ss.map Value.string).toArray t (0, 0))) (hB : ∀ s, s ∈ ss → s.size ≤ B0) :
    ∀ j, j < ss.length → ∃ s : ByteArray, w.cell? ⟨g, j, none⟩ = some (.string s) ∧ s.size ≤ B0 := by
  intro j hj
  refine ⟨ss[j], ?_, hB _ (List.getElem_mem hj)⟩
  rw [cell_of_row w g j _ t (0, 0) h]
  simp [hj]

theorem strs_cells {w : World} {g t B0 m : Nat} {cs : Array Value} (h : w.heap[g]? = some (.cells cs t (0, 0))) (hB : ∀ j, j < m → ∃ s : ByteArray, cs[j]? = some (.string s) ∧ s.size ≤ B0) :
    ∀ j, j < m → ∃ s : ByteArray, w.cell? ⟨g, j, none⟩ = some (.string s) ∧ s.size ≤ B0 := by
  intro j hj
  obtain ⟨s, h1, h2⟩ := hB j hj
  exact ⟨s, by rw [cell_of_row w g j _ t (0, 0) h]; exact h1, h2⟩

set_option maxHeartbeats 1600000 in
theorem ofOne_any (r n c p m k B0 : Nat) (g : Nat) (a : Option Addr) (B : Nat → Nat) (w : World) (hR : RdrAt w r a n c p) (hb : RdB w a n B) (hab : 0 < n → ∀ b o, a = some ⟨b, o, none⟩ → b ≠ r) (hn : n ≤ 2000) (hp : p ≤ 1000000) (hm1 : 1 ≤ m) (hm : m ≤ 100) (hgr : g ≠ r)
    (hS : ∀ j, j < m → ∃ s : ByteArray, w.cell? ⟨g, j, none⟩ = some (.string s) ∧ s.size ≤ B0) :
    Calls Tryd.prog 74 #[.pointer (some ⟨r, 0, none⟩), .slice (some ⟨g, 0, none⟩) m k] w (DrewOf r a n c p B0 w) := by
  have H := Lib.hid (pick_any r n c p m a B w hR hb hab hn hp hm1 (by omega))
  have HS := Lib.hid hS
  have HGR := Lib.hid hgr
  clear hR hb hab hn hp hS hgr hm1
  go_enter Tryd.func74, Tryd.ntmps74
  go_wp2_with fail
  refine H.out.mono ?_
  rintro e w1 ⟨x, rfl, hx, hR1, hK1⟩
  obtain ⟨s, hs, hsB⟩ := HS.out x hx
  have hs1 : w1.cell? ⟨g, x, none⟩ = some (.string s) := (hK1.cell (p := ⟨g, x, none⟩) (by have := HGR.out; show g < r ∨ r + 1 ≤ g; omega)).trans hs
  have X := Lib.hid (And.intro hR1 (And.intro hK1 hsB))
  clear hR1 hK1 hs hsB
  go_wp2_with fail
  go_ret
  exact ⟨s, rfl, X.out.2.2, X.out.1, X.out.2.1⟩
end Go.Proofs.YtabdbgnkiebcdaaDoor

namespace Go.Proofs.YtabdbgnkiebcdaaDoor
set_option linter.unusedVariables false
set_option linter.unusedSimpArgs false
open Go.RowKit

/-- The first k numbers of row i are G's. -/
def EqTo (LL : List (List Int)) (G : Nat → Int) (i k : Nat) : Prop := ∀ j, j < k → nthL LL i j = G j
theorem eqTo_next {LL : List (List Int)} {G : Nat → Int} {i k : Nat} (h : EqTo LL G i k) (e : nthL LL i k = G k) : EqTo LL G i (k + 1) := fun j hj => by
  by_cases h' : j = k
  · subst h'; exact e
  · exact h j (by omega)

set_option maxHeartbeats 1600000 in
theorem l4Place_any (n M c d x : Nat) (a b : Option Addr) (A : Nat → Option Addr) (C : Nat → Nat) (LL : List (List Int)) (G : Nat → Int) (w : World) (hn : n ≤ 5) (hM : M = LL.length) (hM2 : M ≤ 7776) (hl : ∀ r, r < M → lenL LL r = n) (hnd : LL.Nodup) (hx : x < M) (hG : ∀ j, j < n → nthL LL x j = G j)
    (ha : Tab w a M A (lenL LL) C (nthL LL)) (hb : Rd w b n G) :
    Calls Tryd.prog 143 #[.slice a M c, .slice b n d] w fun e w' => e = .returned (.int .i64 (x : Nat)) ∧ Below w.heap.size w w' := by
  have HA := Lib.hid ha
  have HB := Lib.hid hb
  have HL := Lib.hid hl
  have HX := Lib.hid (show EqTo LL G x n from hG)
  have HN := Lib.hid (show ∀ i, i < x → ¬ EqTo LL G i n from fun i hi h => by
    have := place_one hnd (fun r hr => hl r (by omega)) (i := i) (x := x) (by omega) (by omega) (fun j hj => (h j hj).trans (hG j hj).symm)
    omega)
  clear ha hb hl hnd hG hM
  go_enter Tryd.func143, Tryd.ntmps143
  go_wp2
  go_loopw [5, 6, 7] (fun s _ _ wr => ∃ i : Nat, i ≤ x ∧ s = .int .i64 i ∧ Below w.heap.size w wr) (fun s _ _ _ => x + 1 - (intOf s).toNat)
  case atStart => exact ⟨0, Nat.zero_le _, rfl, Below.refl _ _⟩
  case round =>
    obtain ⟨i, hi, rfl, hB⟩ := hrel
    have BR := Lib.hid hB
    have hiM : i < M := by omega
    clear hB
    go_wp2
    go_loopw [6, 7] (fun sm s wr => ∃ k : Nat, k ≤ n ∧ s = .int .i64 k ∧ sm = .bool (tt (EqTo LL G i k)) ∧ Below w.heap.size w wr) (fun _ s _ => n - (intOf s).toNat)
    case atStart => exact ⟨0, Nat.zero_le _, rfl, by rw [tt_of (show EqTo LL G i 0 from fun j hj => by omega)], BR.out⟩
    case round =>
      obtain ⟨k, hk, rfl, rfl, hB⟩ := hrel
      have BQ := Lib.hid hB
      clear hB BR
      by_cases hkn : k < n
      · by_cases hE : EqTo LL G i k
        · rw [tt_of hE]
          obtain ⟨ba, oa, rfl, hca, hra⟩ := (HA.out.below (Nat.le_refl _) BQ.out) i hiM
          rw [HL.out i hiM] at hca hra
          obtain ⟨bi, oi, hAi, hci⟩ := hra k hkn
          rw [hAi] at hca
          obtain ⟨bg, og, rfl, hcg⟩ := (HB.out.below (Nat.le_refl _) BQ.out) k hkn
          obtain ⟨p, hp⟩ : ∃ p, p = nthL LL i k := ⟨_, rfl⟩
          obtain ⟨q, hq⟩ : ∃ q, q = G k := ⟨_, rfl⟩
          rw [← hp] at hci
          rw [← hq] at hcg
          have c1 : ∀ r : Later wr, r.W.cell? ⟨ba, oa + i, none⟩ = some (.slice (some ⟨bi, oi, none⟩) n (C i)) := fun r => later_cell hca r
          have c2 : ∀ r : Later wr, r.W.cell? ⟨bi, oi + k, none⟩ = some (.int .i64 p) := fun r => later_cell hci r
          have c3 : ∀ r : Later wr, r.W.cell? ⟨bg, og + k, none⟩ = some (.int .i64 q) := fun r => later_cell hcg r
          have HE := Lib.hid (show (p == q) = tt (EqTo LL G i (k + 1)) by
            by_cases e : p = q
            · rw [tt_of (eqTo_next hE (by rw [← hp, ← hq, e]))]; simpa using e
            · rw [tt_no (show ¬ EqTo LL G i (k + 1) from fun h => e (by rw [hp, hq]; exact h k (by omega)))]; simpa using e)
          have i1 : (0 : Int) ≤ (i : Int) := by omega
          have i2 : (i : Int) < (M : Int) := by omega
          have k1 : (0 : Int) ≤ (k : Int) := by omega
          have k2 : (k : Int) < (n : Int) := by omega
          clear hE hp hq hca hra hci hcg hAi
          go_wp2
          refine wp_region_later (by kernel_rfl) (by kernel_rfl) ?_
          repeat go_big_quiet_step (fail)
          refine wpQuiet_nil ?_
          rintro _ ⟨r, rfl⟩
          go_wp2
          go_roundw
          case rel => exact ⟨k + 1, by omega, by go_num, by rw [← HE.out], BQ.out.trans (r.h.mono BQ.out.size)⟩
          case measure => simp [intOf]; omega
        · rw [tt_no hE]
          have HE := Lib.hid (tt_no (show ¬ EqTo LL G i (k + 1) from fun h => hE (fun j hj => h j (by omega))))
          clear hE
          go_wp2
          refine wp_region_later (by kernel_rfl) (by kernel_rfl) ?_
          repeat go_big_quiet_step (fail)
          refine wpQuiet_nil ?_
          rintro _ ⟨r, rfl⟩
          go_wp2
          go_roundw
          case rel => exact ⟨k + 1, by omega, by go_num, by rw [HE.out], BQ.out.trans (r.h.mono BQ.out.size)⟩
          case measure => simp [intOf]; omega
      · obtain rfl : k = n := by omega
        by_cases hix : i = x
        · have T1 : tt (EqTo LL G i k) = true := by rw [hix]; exact tt_of HX.out
          rw [T1]
          have HI := Lib.hid hix
          clear T1 hix
          go_wp2
          go_ret
          exact ⟨by rw [HI.out]; rfl, BQ.out⟩
        · have T1 : tt (EqTo LL G i k) = false := tt_no (HN.out i (by omega))
          rw [T1]
          clear T1
          go_wp2
          go_roundw
          case rel => exact ⟨i + 1, by omega, by go_num, BQ.out⟩
          case measure => simp [intOf]; omega
end Go.Proofs.YtabdbgnkiebcdaaDoor

namespace Go.Proofs.YtabdbgnkiebcdaaDoor
set_option linter.unusedVariables false
set_option linter.unusedSimpArgs false
open Go.RowKit

/-- Some row of numbers of few digits, and whether it was found. -/
def RetOrder (w : World) (e : Ending) (w' : World) : Prop :=
  ∃ (a : Option Addr) (m c : Nat) (X : Nat → Int) (b : Bool), e = .returned (.tuple #[.slice a m c, .bool b]) ∧ m ≤ 1000 ∧ (∀ k, k < m → FewDig (X k)) ∧ Rd w' a m X ∧ Below w.heap.size w w'

/-- A giving of all is one of the list. -/
theorem giv_at {n : Nat} {K : Nat → Int} (h : IsEach n n K) : ∃ x, x < (givs n n []).length ∧ ∀ j, j < n → nthL (givs n n []) x j = K j := by
  have hl := numsL_len n K
  have hm : numsL n K ∈ givs n n [] := (mem_givs n [] (Diff.nil n) (by simp) _).2 ⟨by
    show IsDiff n (numsL n K).length (nth (numsL n K))
    rw [hl]
    refine ⟨fun i hi => by rw [nth_nums hi]; exact h.2.1 i hi, fun i j hij hj => by rw [nth_nums (show i < n by omega), nth_nums hj]; exact h.2.2 i j hij hj⟩, hl, List.nil_prefix⟩
  obtain ⟨x, hx, e⟩ := List.getElem_of_mem hm
  refine ⟨x, hx, fun j hj => ?_⟩
  unfold nthL
  rw [List.getD_eq_getElem?_getD, List.getElem?_eq_getElem hx]
  rw [show (some (givs n n [])[x]).getD [] = numsL n K from e]
  exact nth_nums hj

set_option maxRecDepth 100000 in
set_option maxHeartbeats 3200000 in
theorem specTurnOrder_some (n c : Nat) (a : Option Addr) (A : Nat → Option Addr) (L C : Nat → Nat) (Z : Nat → Nat → Int) (m d : Nat) (b : Option Addr) (G : Nat → Int) (w : World) (hn0 : n ≤ 1048576) (hL0 : ∀ r, r < n → L r ≤ 1048576) (ha0 : Tab w a n A L C Z) (hm1 : m ≤ 1048576) (hb1 : Rd w b m G) :
    Calls Tryd.prog 115 #[.slice a n c, .slice b m d] w (RetOrder w) := by
  have H := Lib.hid (l3Both_any n c a A L C Z m d b G w hn0 hL0 ha0 hm1 hb1)
  by_cases hg : GivenOk n L Z m G
  · have T1 := Lib.hid (tt_of hg)
    obtain rfl : m = n := hg.2.1
    have hn2 := hg.1.1.1
    have hn5 := hg.1.1.2
    obtain ⟨y, hy, hyG⟩ := giv_at hg.2
    obtain ⟨LL, hLL⟩ : ∃ LL, LL = givs m m [] := ⟨_, rfl⟩
    have QL := Lib.hid hLL
    have hM := Nat.le_trans (givs_le (n := m) hn5 m []) (Nat.pow_le_pow_right (show 0 < 6 by omega) hn5)
    have hM6 : (givs m m []).length ≤ 7776 := by simpa using hM
    rw [← hLL] at hM hy hyG hM6
    obtain ⟨M, hM2⟩ : ∃ M, M = LL.length := ⟨_, rfl⟩
    rw [← hM2] at hM hy hM6
    have QM := Lib.hid hM2
    have HLN := Lib.hid (show ∀ r, r < M → lenL LL r = m from fun r hr => by rw [hLL]; exact (givs_at (by rw [← hLL, ← hM2]; exact hr)).2)
    have HND := Lib.hid (show LL.Nodup by rw [hLL]; exact givs_nodup m [] (Diff.nil m) (by simp))
    have AT := Lib.hid (show ∀ x, x < M → IsEach m m (nth (LL.getD x [])) from fun x hx => by
      rw [hM2] at hx
      have hm : LL.getD x [] ∈ LL := by
        rw [List.getD_eq_getElem?_getD, List.getElem?_eq_getElem hx]
        exact List.getElem_mem hx
      rw [hLL] at hm
      have h1 := givs_each hm
      have h2 := h1.1
      rw [hLL]
      rwa [h2] at h1)
    have GA := Lib.hid (show ∀ K : Nat → Int, IsEach m m K → ∃ x, x < M ∧ ∀ j, j < m → nthL LL x j = K j from fun K hK => by rw [hM2, hLL]; exact giv_at hK)
    have HG := Lib.hid hg
    have HY := Lib.hid hyG
    have HA := Lib.hid ha0
    have HB := Lib.hid hb1
    clear hg ha0 hb1 hL0 hLL hM2 hyG
    go_enter Tryd.func115, Tryd.ntmps115
    go_wp2_with (first
      | (go_at_call 52; refine H.out.mono ?_; rintro e w' ⟨rfl, rfl⟩; rw [T1.out])
      | (go_at_call 53; refine (l3GivingsAll_any m hn2 hn5 _ 0 _ (by simp)).mono ?_; rintro e w1 ⟨v, G', Cp, rfl, hMk, hb⟩; rw [← QL.out, ← QM.out] at hMk; obtain ⟨a1, c1, rfl, hO⟩ := hMk.slice; have HO := Lib.hid hO.tab; have HB0 := Lib.hid ((below_alloc (Below.refl w.heap.size w) _).trans (hb.mono (by simp))); clear hb hO hMk)
      | (go_at_call 143; refine (l4Place_any m M _ d y _ b _ Cp LL G _ hn5 QM.out hM6 HLN.out HND.out hy HY.out HO.out (HB.out.below (Nat.le_refl _) HB0.out)).mono ?_; rintro e w2 ⟨rfl, hb2⟩; have B2 := Lib.hid hb2; clear hb2))
    go_loopw [8] (fun i wr => ∃ x : Nat, x ≤ M ∧ i = .int .i64 x ∧ Below w1.heap.size w1 wr) (fun i _ => M - (intOf i).toNat)
    case atStart => exact ⟨0, Nat.zero_le _, rfl, B2.out⟩
    case round =>
      obtain ⟨x, hx, rfl, hB⟩ := hrel
      have BR := Lib.hid hB
      clear hB
      by_cases hlt : x < M
      · have hea := AT.out x hlt
        have hlen := HLN.out x hlt
        obtain ⟨bt, ot, rfl, hct, hrow⟩ := (HO.out.below (Nat.le_refl _) BR.out) x hlt
        rw [hlen] at hct hrow
        obtain ⟨O, hO⟩ : ∃ O, O = nth (LL.getD x []) := ⟨_, rfl⟩
        have hrow2 : Rd wr (some ⟨G' x, 0, none⟩) m O := by rw [hO]; exact hrow
        rw [← hO] at hea
        have BW := Lib.hid (HB0.out.trans (BR.out.mono HB0.out.size))
        obtain ⟨z, hz, hzK⟩ := GA.out (tkF Z m O m) (take_each HG.out.1 hea.2)
        have HT := Lib.hid (fun (e : Nat) => l5Take_any m c e a (some ⟨G' x, 0, none⟩) A L C Z O wr ⟨HG.out.1, hea⟩ (HA.out.below (Nat.le_refl _) BW.out) hrow2)
        have HP := Lib.hid (fun (g4 c4 : Nat) (w4 : World) (h4 : Below wr.heap.size wr w4) (hr : Rd w4 (some ⟨g4, 0, none⟩) m (tkF Z m O m)) => l4Place_any m M c1 c4 z (some ⟨bt, ot, none⟩) (some ⟨g4, 0, none⟩) (fun r => some ⟨G' r, 0, none⟩) Cp LL (tkF Z m O m) w4 hn5 QM.out hM6 HLN.out HND.out hz hzK (HO.out.below (Nat.le_refl _) (BR.out.trans (h4.mono BR.out.size))) hr)
        have FW := Lib.hid (show ∀ k, k < m → FewDig (O k) from fun k hk => by have := hea.2.1 k hk; exact ⟨this.1, by have := this.2; omega⟩)
        have RW := Lib.hid hrow2
        have hltb := World.block_lt_of_cell? _ _ hct
        have i1 : (0 : Int) ≤ (x : Int) := by omega
        have i2 : (x : Int) < (M : Int) := by omega
        clear hea hlen hrow hrow2 hO hzK hz
        by_cases hzy : z = y
        · have d1 : ((z : Int) == (y : Int)) = true := by rw [hzy]; simp
          have d2 : (z == y) = true := by rw [hzy]; simp
          clear hzy
          go_wp2_with (first
            | (go_at_call 60; refine (HT.out _).mono ?_; rintro e w4 ⟨g4, c4, rfl, _, hO4, hb4⟩; have O4 := Lib.hid hO4.rd; have B4 := Lib.hid hb4; clear hO4 hb4)
            | (go_at_call 143; refine (HP.out _ _ _ B4.out O4.out).mono ?_; rintro e w5 ⟨rfl, hb5⟩; have B5 := Lib.hid (below_chain B4.out hb5); have hct5 := ((below_chain B4.out hb5).cell hltb).trans hct; clear hb5))
          go_ret2
          exact ⟨_, m, _, O, true, rfl, by omega, FW.out, RW.out.below (Nat.le_refl _) B5.out, BW.out.trans (B5.out.mono BW.out.size)⟩
        · have d1 : ((z : Int) == (y : Int)) = false := by simp; omega
          have d2 : (z == y) = false := by simp; omega
          clear hzy
          go_wp2_with (first
            | (go_at_call 60; refine (HT.out _).mono ?_; rintro e w4 ⟨g4, c4, rfl, _, hO4, hb4⟩; have O4 := Lib.hid hO4.rd; have B4 := Lib.hid hb4; clear hO4 hb4)
            | (go_at_call 143; refine (HP.out _ _ _ B4.out O4.out).mono ?_; rintro e w5 ⟨rfl, hb5⟩; have B5 := Lib.hid (below_chain B4.out hb5); clear hb5))
          go_roundw
          case rel => exact ⟨x + 1, by omega, by go_num, BR.out.trans (B5.out.mono BR.out.size)⟩
          case measure => simp [intOf]; omega
      · obtain rfl : x = M := by omega
        have BW := Lib.hid (HB0.out.trans (BR.out.mono HB0.out.size))
        go_wp2
        go_ret2
        exact ⟨_, 0, 0, fun _ => 0, false, rfl, by omega, fun k hk => absurd hk (Nat.not_lt_zero _), fun k hk => absurd hk (Nat.not_lt_zero _), below_chain BW.out (below_alloc (Below.refl _ _) _)⟩
  · have T1 := Lib.hid (tt_no hg)
    clear hg ha0 hL0 hb1
    go_enter Tryd.func115, Tryd.ntmps115
    go_wp2_with (go_at_call 52; refine H.out.mono ?_; rintro e w' ⟨rfl, rfl⟩; rw [T1.out])
    go_ret2
    exact ⟨_, 0, 0, fun _ => 0, false, rfl, by omega, fun k hk => absurd hk (Nat.not_lt_zero _), fun k hk => absurd hk (Nat.not_lt_zero _), below_alloc (Below.refl _ _) _⟩

set_option maxRecDepth 100000 in
theorem specProofTurn_some (n c : Nat) (a : Option Addr) (A : Nat → Option Addr) (L C : Nat → Nat) (Z : Nat → Nat → Int) (m d : Nat) (b : Option Addr) (G : Nat → Int) (w : World) (hn0 : n ≤ 1048576) (hL0 : ∀ r, r < n → L r ≤ 1048576) (ha0 : Tab w a n A L C Z) (hm1 : m ≤ 1048576) (hb1 : Rd w b m G) :
    Calls Tryd.prog 73 #[.slice a n c, .slice b m d] w fun e w' => ∃ (s : ByteArray) (ok : Bool), e = .returned (.tuple #[.string s, .bool ok]) ∧ s.size ≤ 20000 ∧ Below w.heap.size w w' := by
  have H := Lib.hid (specTurnOrder_some n c a A L C Z m d b G w hn0 hL0 ha0 hm1 hb1)
  clear ha0 hb1
  go_enter Tryd.func73, Tryd.ntmps73
  go_wp2_with fail
  refine H.out.mono ?_
  rintro e w1 ⟨oa, q, oc, X, ok, rfl, hq, hX, hr, hb⟩
  have HX := Lib.hid hX
  have HR := Lib.hid hr
  have HB := Lib.hid hb
  clear hX hr hb
  cases ok with
  | false =>
    go_wp2
    go_ret2
    exact ⟨⟨#[]⟩, false, rfl, by decide, HB.out⟩
  | true =>
    go_wp2_with (go_at_call 37; refine (l11Words_any turnsB q oc oa X _ (by decide) hq HX.out HR.out).mono ?_; rintro e w2 ⟨rfl, hb2⟩; have B2 := Lib.hid (below_chain HB.out hb2); clear hb2)
    go_ret2
    refine ⟨_, true, rfl, ?_, B2.out⟩
    rw [strU_size]
    have h1 := words_len turnsB _ (numsL_few HX.out)
    rw [numsL_len] at h1
    have h2 : turnsB.length = 5 := rfl
    omega
end Go.Proofs.YtabdbgnkiebcdaaDoor

namespace Go.Proofs.YtabdbgnkiebcdaaDoor
set_option linter.unusedVariables false
set_option linter.unusedSimpArgs false
open Go.RowKit

theorem results_three' {fn : Func} {t u v : Tmp} (h : fn.results = #[.tmp t, .tmp u, .tmp v]) (tmps : Array Value) (P : Program) (w : World) :
    (results fn tmps).run P w = .ok (.tuple #[tmps.getD t undef, tmps.getD u undef, tmps.getD v undef]) w := by
  simp [results, h]
/-- Wishes, a row and a text. -/
def DrewGivenText (w : World) (e : Ending) (w' : World) : Prop :=
  ∃ ga N gc A L C Z b m d X t, e = .returned (.tuple #[.slice ga N gc, .slice b m d, .string t]) ∧ ((1 ≤ N ∧ N ≤ 5) ∧ m ≤ d ∧ m ≤ 6) ∧ (∀ s, s < N → L s ≤ 5) ∧ Tab w' ga N A L C Z ∧ Rd w' b m X ∧ t.size ≤ 1048576 ∧ Below w.heap.size w w'

set_option maxRecDepth 100000 in
set_option maxHeartbeats 3200000 in
theorem drawProofTurnIs_any (n c : Nat) (a : Option Addr) (B : Nat → Nat) (w : World) (hn : n ≤ 1048576) (hc : n ≤ c) (hb : RdB w a n B) (hab : 0 < n → ∀ b o, a = some ⟨b, o, none⟩ → b < w.heap.size) :
    Calls Tryd.prog 32 #[.slice a n c] w (DrewGivenText w) := by
  have HB := Lib.hid hb
  have HAL := Lib.hid hab
  clear hb hab
  go_enter Tryd.func32, Tryd.ntmps32
  go_wp2_with fail
  refine (l6Open_any n c a _ hn hc).mono ?_
  rintro e w0 ⟨n0, c0, rfl, hn20, hnn0, hR0, hs0, hb0⟩
  have HB0 := Lib.hid ((HB.out.below (Nat.le_refl _) hb0).sub hnn0)
  have HR0 := Lib.hid hR0
  have Hb0 := Lib.hid hb0
  have hlt0 : w.heap.size < w0.heap.size := by omega
  have HAL0 := Lib.hid (show 0 < n0 → ∀ b o, a = some ⟨b, o, none⟩ → b < w0.heap.size ∧ b ≠ w.heap.size from fun h0 b o e => by have := HAL.out (by omega) b o e; exact ⟨by omega, by omega⟩)
  clear hR0 hb0 hs0
  go_wp2_with fail
  refine (l92Turned_any w.heap.size n0 c0 0 4 a B _ HR0.out HB0.out HAL0.out hn20 (by omega) (by omega) (by omega)).mono ?_
  rintro e w1 ⟨ga, N, gc, A, L, C, Z, b, m, d, X, p2, rfl, ⟨⟨hN1, hN5⟩, hmd, hm6⟩, ⟨hL, hAp, hAi⟩, hT, hX, hR2, hp2, hU2⟩
  have HL := Lib.hid hL
  have HT := Lib.hid hT
  have HX := Lib.hid hX
  have B1 := Lib.hid (Hb0.out.trans (hU2.toBelow (Nat.le_of_lt hlt0)))
  clear hL hAp hAi hT hX hR2 hU2 HB0 HR0 Hb0 HAL0 hlt0 hn20 hnn0 hp2
  go_wp2_with fail
  refine (specProofTurn_some N gc ga A L C Z m d b X _ (by omega) (fun r hr => by have := HL.out r hr; omega) HT.out (by omega) HX.out).mono ?_
  rintro e w2 ⟨S, ok, rfl, hS, hb2⟩
  have B2 := Lib.hid hb2
  have SZ := Lib.hid (show S.size ≤ 1048576 by omega)
  clear hb2 hS
  go_wp2_with fail
  refine (l6Open_any n c a _ hn hc).mono ?_
  rintro e w3 ⟨n', c', rfl, hn2, hnn, hR3, hs3, hb3⟩
  have c1 := hR3.cell1
  have f1 := hR3.frozen 1
  have R3 := Lib.hid hR3
  have B3 := Lib.hid hb3
  have hlt3 : w2.heap.size < w3.heap.size := by omega
  have hw2 := (below_chain B1.out B2.out).size
  have HAB := Lib.hid (show 0 < n' → ∀ b o, a = some ⟨b, o, none⟩ → b ≠ w2.heap.size from fun h0 b o e => by have := HAL.out (by omega) b o e; omega)
  clear hR3 hb3 hs3
  obtain ⟨w4, hw4⟩ : ∃ w4, w3.setCell ⟨w2.heap.size, 1, none⟩ (.int .i64 61) = w4 := ⟨_, rfl⟩
  have R4 := Lib.hid (show RdrAt w4 w2.heap.size a n' c' 61 by rw [← hw4]; exact R3.out.setP 61)
  have U4 := Lib.hid (show Below w2.heap.size w2 w4 by rw [← hw4]; exact B3.out.setCell (p := ⟨w2.heap.size, 1, none⟩) (Nat.le_refl _) _)
  have HB4 := Lib.hid (show RdB w4 a n' B from (HB.out.below (Nat.le_refl _) ((below_chain B1.out B2.out).trans (U4.out.mono hw2))).sub hnn)
  clear R3
  cases ok with
  | false =>
    go_wp2_with fail
    clear hw4 c1 f1
    refine (ofOne_any w2.heap.size n' c' 61 8 8 100 w4.heap.size a B _ (R4.out.of_block (Below.heap_alloc _ _ _ R4.out.lt)) (HB4.out.below (Nat.le_refl _) (below_alloc (Below.refl _ _) _)) HAB.out hn2 (by omega) (by omega) (by omega) (Nat.ne_of_gt R4.out.lt) (strs_cells (heap_alloc_last w4 _) ?hS1)).mono ?_
    case hS1 =>
      intro j hj
      rcases (show j = 0 ∨ j = 1 ∨ j = 2 ∨ j = 3 ∨ j = 4 ∨ j = 5 ∨ j = 6 ∨ j = 7 by omega) with rfl | rfl | rfl | rfl | rfl | rfl | rfl | rfl
      all_goals exact ⟨_, rfl, by decide⟩
    rintro e w9 ⟨t, rfl, ht, _, hK9⟩
    have B9 := Lib.hid (below_chain B2.out ((U4.out.trans (below_alloc (Below.refl _ _) _ |>.mono U4.out.size)).trans (hK9.below)))
    clear hK9
    go_wp2
    (try simp only [Exit.inBlock, Exit.then])
    refine bodyPost_ret (results_three' rfl _ _ _) rfl ?_
    exact ⟨ga, N, gc, A, L, C, Z, b, m, d, X, t, rfl, ⟨⟨hN1, hN5⟩, hmd, hm6⟩, HL.out, HT.out.below (Nat.le_refl _) B9.out, HX.out.below (Nat.le_refl _) B9.out, by omega, below_chain B1.out B9.out⟩
  | true =>
    go_wp2_with fail
    clear hw4 c1 f1
    refine (pick_any w2.heap.size n' c' 61 5 a B _ R4.out HB4.out HAB.out hn2 (by omega) (by omega) (by omega)).mono ?_
    rintro e w5 ⟨x, rfl, hx, hR5, hK5⟩
    have R5 := Lib.hid hR5
    have U5 := Lib.hid (show Below w2.heap.size w2 w5 from U4.out.trans hK5.below)
    have HB5 := Lib.hid (HB.out.below (Nat.le_refl _) ((below_chain B1.out B2.out).trans (U5.out.mono hw2)) |>.sub hnn)
    clear hR5 hK5
    rcases Nat.eq_zero_or_pos x with rfl | hpos
    · go_wp2_with fail
      refine (ofOne_any w2.heap.size n' c' (61 + 1) 8 8 100 w5.heap.size a B _ (R5.out.of_block (Below.heap_alloc _ _ _ R5.out.lt)) (HB5.out.below (Nat.le_refl _) (below_alloc (Below.refl _ _) _)) HAB.out hn2 (by omega) (by omega) (by omega) (Nat.ne_of_gt R5.out.lt) (strs_cells (heap_alloc_last w5 _) ?hS2)).mono ?_
      case hS2 =>
        intro j hj
        rcases (show j = 0 ∨ j = 1 ∨ j = 2 ∨ j = 3 ∨ j = 4 ∨ j = 5 ∨ j = 6 ∨ j = 7 by omega) with rfl | rfl | rfl | rfl | rfl | rfl | rfl | rfl
        all_goals exact ⟨_, rfl, by decide⟩
      rintro e w9 ⟨t, rfl, ht, _, hK9⟩
      have B9 := Lib.hid (below_chain B2.out ((U5.out.trans (below_alloc (Below.refl _ _) _ |>.mono U5.out.size)).trans (hK9.below)))
      clear hK9
      go_wp2
      (try simp only [Exit.inBlock, Exit.then])
      refine bodyPost_ret (results_three' rfl _ _ _) rfl ?_
      exact ⟨ga, N, gc, A, L, C, Z, b, m, d, X, t, rfl, ⟨⟨hN1, hN5⟩, hmd, hm6⟩, HL.out, HT.out.below (Nat.le_refl _) B9.out, HX.out.below (Nat.le_refl _) B9.out, by omega, below_chain B1.out B9.out⟩
    · have e1 : ((x : Int) == 0) = false := by simp; omega
      have e2 : (x == 0) = false := by simp; omega
      have B9 := Lib.hid (below_chain B2.out U5.out)
      go_wp2
      (try simp only [Exit.inBlock, Exit.then])
      refine bodyPost_ret (results_three' rfl _ _ _) rfl ?_
      exact ⟨ga, N, gc, A, L, C, Z, b, m, d, X, S, rfl, ⟨⟨hN1, hN5⟩, hmd, hm6⟩, HL.out, HT.out.below (Nat.le_refl _) B9.out, HX.out.below (Nat.le_refl _) B9.out, SZ.out, below_chain B1.out B9.out⟩
end Go.Proofs.YtabdbgnkiebcdaaDoor

namespace Go.Proofs.YtabdbgnkiebcdaaDoor
set_option linter.unusedVariables false
set_option linter.unusedSimpArgs false
open Go.RowKit

theorem good_any (n c : Nat) (a : Option Addr) (A : Nat → Option Addr) (L C : Nat → Nat) (Z : Nat → Nat → Int) (d : Nat) (g : Option Addr) (G : Nat → Int) (w : World) (hg : GivenOk n L Z n G) (ha : Tab w a n A L C Z) (hb : Rd w g n G) (hT : TzAt w) :
    Calls Tryd.prog 75 #[.slice a n c, .slice g n d] w fun e w' => e = .returned (.bool (tt (GoodP n Z G))) ∧ Below w.heap.size w w' := by
  have hn5 := hg.1.1.2
  have H := Lib.hid (show Calls Tryd.prog 69 #[.slice a n c, .slice g n d, .int .i64 (((2 ^ n : Nat) : Int) - 1)] w fun e w' => e = .returned (.bool (tt (BlocksP n Z G (2 ^ n - 1)))) ∧ Below w.heap.size w w' from by
    have h := blocks_any n c a A L C Z d g G (2 ^ n - 1) w hg (all_lt n) ha hb hT
    rw [show ((2 ^ n - 1 : Nat) : Int) = ((2 ^ n : Nat) : Int) - 1 by have := Nat.two_pow_pos n; omega] at h
    exact h)
  have g1 : 1 ≤ (2 : Nat) ^ n := Nat.pow_pos (by omega)
  have g2 : (2 : Nat) ^ n ≤ 32 := Nat.pow_le_pow_right (show 0 < 2 by omega) hn5
  obtain ⟨E, hE⟩ : ∃ E, E = 2 ^ n := ⟨_, rfl⟩
  rw [← hE] at g1 g2
  have QE := Lib.hid hE
  have H2 := H.out
  rw [← hE] at H2
  have H3 := Lib.hid H2
  clear hg ha hb hT H H2 hE
  by_cases h1 : BlocksP n Z G (E - 1)
  · have T1 := Lib.hid (tt_of h1)
    have HE := Lib.hid (tt_no (show ¬ GoodP n Z G from fun h => h (by rw [← QE.out]; exact h1)))
    clear h1
    go_enter Tryd.func75, Tryd.ntmps75
    go_wp2_with (first
      | (go_at_call 68; refine (everybody_any n c a _ hn5).mono ?_; rintro e w' ⟨rfl, rfl⟩; rw [← QE.out])
      | (go_at_call 69; refine H3.out.mono ?_; rintro e w1 ⟨rfl, hb1⟩; rw [T1.out]; have B1 := Lib.hid hb1; clear hb1))
    go_ret
    exact ⟨by rw [HE.out]; rfl, B1.out⟩
  · have T1 := Lib.hid (tt_no h1)
    have HE := Lib.hid (tt_of (show GoodP n Z G from fun h => h1 (by rw [QE.out]; exact h)))
    clear h1
    go_enter Tryd.func75, Tryd.ntmps75
    go_wp2_with (first
      | (go_at_call 68; refine (everybody_any n c a _ hn5).mono ?_; rintro e w' ⟨rfl, rfl⟩; rw [← QE.out])
      | (go_at_call 69; refine H3.out.mono ?_; rintro e w1 ⟨rfl, hb1⟩; rw [T1.out]; have B1 := Lib.hid hb1; clear hb1))
    go_ret
    exact ⟨by rw [HE.out]; rfl, B1.out⟩

theorem turnGood_any (n c : Nat) (a : Option Addr) (A : Nat → Option Addr) (L C : Nat → Nat) (Z : Nat → Nat → Int) (m d : Nat) (b : Option Addr) (G : Nat → Int) (w : World) (hT : TzAt w) (hn0 : n ≤ 1048576) (hL0 : ∀ r, r < n → L r ≤ 1048576) (ha0 : Tab w a n A L C Z) (hm1 : m ≤ 1048576) (hb1 : Rd w b m G) :
    Calls Tryd.prog 33 #[.slice a n c, .slice b m d] w fun e w' => e = .returned (.bool (tt (GoodOk n L Z m G))) ∧ Below w.heap.size w w' := by
  have H := Lib.hid (readGiven_any n c a A L C Z m d b G w hn0 hL0 ha0 hm1 hb1)
  by_cases h1 : GivenOk n L Z m G
  · have T1 := Lib.hid (tt_of h1)
    obtain rfl : m = n := h1.2.1
    have HE := Lib.hid (tt_congr (show GoodP m Z G ↔ GoodOk m L Z m G from ⟨fun h => ⟨h1, h⟩, fun h => h.2⟩))
    have HM := Lib.hid (good_any m c a A L C Z d b G w h1 ha0 hb1 hT)
    clear h1 ha0 hL0 hb1 hT
    go_enter Tryd.func33, Tryd.ntmps33
    go_wp2_with (first
      | (go_at_call 67; refine H.out.mono ?_; rintro e w' ⟨rfl, rfl⟩; rw [T1.out])
      | (go_at_call 75; refine HM.out.mono ?_; rintro e w1 ⟨rfl, hb⟩; rw [HE.out]; have HB := Lib.hid hb; clear hb))
    go_ret
    exact ⟨rfl, HB.out⟩
  · have T1 := Lib.hid (tt_no h1)
    have HE := Lib.hid (tt_no (show ¬ GoodOk n L Z m G from fun h => h1 h.1))
    clear h1 ha0 hL0 hb1 hT
    go_enter Tryd.func33, Tryd.ntmps33
    go_wp2_with (first
      | (go_at_call 67; refine H.out.mono ?_; rintro e w' ⟨rfl, rfl⟩; rw [T1.out]))
    go_ret
    exact ⟨by rw [HE.out]; rfl, Below.refl _ _⟩
end Go.Proofs.YtabdbgnkiebcdaaDoor

namespace Go.Proofs.YtabdbgnkiebcdaaDoor
set_option linter.unusedVariables false
open Go.RowKit

section
variable {n : Nat} {L : Nat → Nat} {Z : Nat → Nat → Int} {G O : Nat → Int}
/-- What is no longer left was taken. -/
theorem tkS_gone : ∀ {k y : Nat}, y < n → tkS Z n O k y = false → ∃ i, i < k ∧ y = tkX Z n O i
  | 0, y, hy, h => by unfold tkS at h; simp [hy] at h
  | k + 1, y, hy, h => by
    by_cases h1 : tkS Z n O k y = true
    · rw [tkS_succ, h1] at h
      exact ⟨k, by omega, by simpa using h⟩
    · obtain ⟨i, hi, e⟩ := tkS_gone hy (by simpa using h1)
      exact ⟨i, by omega, e⟩
theorem idx_here {W : Nat → Int} (hd : IsDiff n n W) {j : Nat} (hj : j < n) : idxF W (W j) n = j := idxF_some (fun i hi e => hd.2 i j hi hj e) rfl hj

theorem turn_good (hg : GivenOk n L Z n G) (hd : IsDiff n n O) (h : ∀ k, k < n → tkF Z n O n k = G k) : GoodP n Z G := by
  have hW := hg.1
  refine (good_iff hg).2 fun D hD hb => ?_
  have hX := giv_diff hD
  obtain ⟨X, hXe⟩ : ∃ X, X = nth D := ⟨_, rfl⟩
  rw [← hXe] at hX hb
  have hO : ∀ k, k < n → (O k).toNat < n := fun k hk => by have := hd.1 k hk; omega
  have key : ∀ k, k < n → X (O k).toNat = (tkX Z n O k : Int) := by
    intro k
    induction k using Nat.strongRecOn with
    | ind k ih =>
      intro hk
      obtain ⟨p, hp⟩ : ∃ p, p = (O k).toNat := ⟨_, rfl⟩
      have hpn : p < n := by rw [hp]; exact hO k hk
      obtain ⟨j, hj, hin, hmin, e⟩ := tkX_spec hW (hO k hk) hk
      rw [← hp] at hin hmin e ⊢
      have hZ := (hW.2 p hpn).2
      have hxr := hX.1 p hpn
      obtain ⟨x, hx⟩ := Int.eq_ofNat_of_zero_le hxr.1
      obtain ⟨q, hq, eq⟩ := hZ.all (show x < n by omega)
      have hGp : G p = Z p j := by
        rw [← h p hpn, hp, tkF_at hd hk (Nat.le_refl _), e, ← hp]
        have := hZ.1 j hj
        omega
      have hle := hb.1 p hpn (by rw [all_bit]; simpa using hpn)
      rw [hGp, idx_here hZ hj, hx, ← eq, idx_here hZ hq] at hle
      by_cases hqj : q = j
      · subst hqj
        rw [hx, e, eq]
        simp
      · have hlt : q < j := by omega
        have hno := hmin q hlt
        rw [eq] at hno
        obtain ⟨i, hi, ei⟩ := tkS_gone (Z := Z) (n := n) (O := O) (k := k) (y := x) (by omega) (by simpa using hno)
        have h1 := ih i hi (by omega)
        have h2 : X (O i).toNat = X p := by rw [h1, hx, ← ei]
        have h3 : (O i).toNat ≠ p := fun h4 => by
          have := diff_toNat hd (show i < n by omega) hk (by rw [h4, hp])
          omega
        rcases Nat.lt_or_gt_of_ne h3 with h4 | h4
        · exact absurd h2 (hX.2 _ _ h4 hpn)
        · exact absurd h2.symm (hX.2 _ _ h4 (hO i (by omega)))
  obtain ⟨i, hi, _, hlt⟩ := hb.2
  obtain ⟨k, hk, ek⟩ := hd.all hi
  have e' : (O k).toNat = i := by rw [ek]; rfl
  have h1 := key k hk
  rw [e'] at h1
  have h2 := h i hi
  rw [← e', tkF_at hd hk (Nat.le_refl _), e'] at h2
  rw [h1, ← h2] at hlt
  exact absurd hlt (Int.lt_irrefl _)
end
end Go.Proofs.YtabdbgnkiebcdaaDoor
