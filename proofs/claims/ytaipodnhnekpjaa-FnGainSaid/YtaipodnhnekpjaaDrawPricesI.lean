/- The draw of item prices. -/
import Derived.Test.YtaipodnhnekpjaaDrawBids
import Derived.Test.YtaipodnhnekpjaaSpecFairLow
import Derived.Test.YtaipodnhnekpjaaAppendAny
import Derived.Deep.RegionHeld3
/- The draw of item prices. -/
namespace Go.Proofs.Ytaipodnhnekpjaa
set_option linter.unusedVariables false
set_option linter.unusedSimpArgs false
open Go.RowKit

theorem keepP_drew {a b : Addr} {v u : Value} {W : World} (h : W.cell? a = some v ∧ W.cell? b = some u) : W.drew.cell? a = some v ∧ W.drew.cell? b = some u := ⟨by simpa using h.1, by simpa using h.2⟩
theorem keepP_alloc {a b : Addr} {v u : Value} {W : World} (h : W.cell? a = some v ∧ W.cell? b = some u) (o : Obj) : (W.alloc o).cell? a = some v ∧ (W.alloc o).cell? b = some u :=
  ⟨(World.cell?_of_block (w := W) (a := a) (Below.heap_alloc W o _ (World.block_lt_of_cell? _ _ h.1))).trans h.1, (World.cell?_of_block (w := W) (a := b) (Below.heap_alloc W o _ (World.block_lt_of_cell? _ _ h.2))).trans h.2⟩
theorem keepP_grown {a b : Addr} {v u : Value} {W W' : World} {row : Option Nat} (h : W.cell? a = some v ∧ W.cell? b = some u) (hg : W.grownBy W' row) (hr : ∀ k, row = some k → a.block ≠ k ∧ b.block ≠ k) : W'.cell? a = some v ∧ W'.cell? b = some u :=
  ⟨hg.cell h.1 (fun e => (hr _ e.symm).1 rfl), hg.cell h.2 (fun e => (hr _ e.symm).2 rfl)⟩
theorem keepP_keeps {a b : Addr} {v u : Value} {W W' : World} {r : Nat} (h : W.cell? a = some v ∧ W.cell? b = some u) (ha : a.block ≠ r) (hb : b.block ≠ r) (hk : Keeps r (r + 1) W W') : W'.cell? a = some v ∧ W'.cell? b = some u :=
  ⟨(hk.cell (by omega)).trans h.1, (hk.cell (by omega)).trans h.2⟩

/-- What l92Prices hands back: a row of at most five numbers, the reader gone on. -/
def DrewPrices (r : Nat) (a : Option Addr) (n c p : Nat) (w : World) (e : Ending) (w' : World) : Prop :=
  ∃ (b : Option Addr) (q d : Nat) (P : Nat → Int) (p' : Nat), e = .returned (.slice b q d) ∧ q ≤ 5 ∧ Rd w' b q P ∧ (∀ bb oo, 0 < q → b = some ⟨bb, oo, none⟩ → w.heap.size ≤ bb) ∧ RdrAt w' r a n c p' ∧ p' ≤ p + 20 ∧ ButR r w.heap.size w w'

set_option maxRecDepth 100000 in
set_option maxHeartbeats 12800000 in
theorem l92Prices_any (r n c p N gc : Nat) (a ga : Option Addr) (B : Nat → Nat) (A : Nat → Option Addr) (L C : Nat → Nat) (Z : Nat → Nat → Int) (w : World) (hR : RdrAt w r a n c p) (hb : RdB w a n B) (hab : 0 < n → ∀ b o, a = some ⟨b, o, none⟩ → b < w.heap.size ∧ b ≠ r) (hn : n ≤ 2000) (hp : p ≤ 1000)
    (hN1 : 1 ≤ N) (hN4 : N ≤ 4) (hLs : ∀ s, s < N → 1 ≤ L s ∧ L s ≤ 5) (hT : Tab w ga N A L C Z) (hne : ∀ bb oo, ga = some ⟨bb, oo, none⟩ → bb ≠ r) :
    Calls Try.prog 82 #[.pointer (some ⟨r, 0, none⟩), .slice ga N gc] w (DrewPrices r a n c p w) := by
  obtain ⟨i0, hi, hz0, hz1', hz2'⟩ := info_parts Try.infoInt
  have hrl := hR.lt
  have HR := Lib.hid hR
  have HB := Lib.hid hb
  have HAL := Lib.hid hab
  have HAB := Lib.hid (show 0 < n → ∀ b o, a = some ⟨b, o, none⟩ → b ≠ r from fun h0 b o e => (hab h0 b o e).2)
  have H1 := Lib.hid (specFairLow_any N gc ga A L C Z w (by omega) (fun s hs => by have := hLs s hs; omega) hT)
  have H2 := Lib.hid (fun W (hb : Below w.heap.size w W) => specFairHigh_any N gc ga A L C Z W (by omega) (fun s hs => by have := hLs s hs; omega) (hT.below (Nat.le_refl _) hb))
  have hL0 := hLs 0 (by omega)
  obtain ⟨b0, o0, rfl, hc0, _⟩ := hT 0 hN1
  rw [Nat.add_zero] at hc0
  have hb0r : b0 ≠ r := hne b0 o0 rfl
  have hb0l : b0 < w.heap.size := World.block_lt_of_cell? _ _ hc0
  have HC0 := Lib.hid (fun W (hU : ButR r w.heap.size w W) => show W.cell? ⟨b0, o0, none⟩ = some (.slice (A 0) (L 0) (C 0)) from (World.cell?_of_block (w := w) (a := ⟨b0, o0, none⟩) (hU.block b0 hb0l hb0r)).trans hc0)
  have hNz : (0 : Int) < (N : Int) := by omega
  clear hR hb hab hT hne hc0 hb0r hb0l
  by_cases hok : IsBids N L Z
  · rw [tt_of hok, itemsN_yes hok] at H1
    rw [tt_of hok, itemsN_yes hok] at H2
    have HLH0 := Lib.hid (fun i (hi : i < L 0) => show (0 ≤ lowP N (L 0) Z i ∧ lowP N (L 0) Z i ≤ 20) ∧ (0 ≤ highP N (L 0) Z i ∧ highP N (L 0) Z i ≤ 20) ∧ lowP N (L 0) Z i ≤ highP N (L 0) Z i from ⟨(low_item hok.cells).1 i hi, (high_item hok.cells).1 i hi, low_high hi⟩)
    obtain ⟨m, hm⟩ : ∃ m, m = L 0 := ⟨_, rfl⟩
    rw [← hm] at H1 H2 HC0 HLH0 hL0
    clear hok hm hLs
    go_enter Try.func82, Try.ntmps82
    go_wp2_with fail
    refine H1.out.mono ?_
    rintro e w1 ⟨a1, c1, rfl, hO1, hb1⟩
    have hI1 : OwnI w1 w.heap.size w1.heap.size a1 m (lowP N m Z) := hO1
    obtain ⟨g1, hg1, hg1', hO1⟩ : ∃ b, w.heap.size ≤ b ∧ b < w1.heap.size ∧ OwnR w1 b a1 m (lowP N m Z) := by
      rcases hI1 with h | h
      · omega
      · exact h
    obtain ⟨o1, rfl, hQ1⟩ : ∃ o, a1 = some ⟨g1, o, none⟩ ∧ ∀ k, k < m → w1.cell? ⟨g1, o + k, none⟩ = some (.int .i64 (lowP N m Z k)) ∧ w1.frozen? ⟨g1, o + k, none⟩ = false := by
      rcases hO1 with h | h
      · omega
      · exact h
    have HO1 := Lib.hid hQ1
    have B1 := Lib.hid hb1
    clear hQ1 hO1 hb1 hI1
    go_wp2_with fail
    refine (H2.out _ B1.out).mono ?_
    rintro e w2 ⟨a2, c2, rfl, hO2, hb2⟩
    have hI2 : OwnI w2 w1.heap.size w2.heap.size a2 m (highP N m Z) := hO2
    obtain ⟨g2, hg2, hg2', hO2⟩ : ∃ b, w1.heap.size ≤ b ∧ b < w2.heap.size ∧ OwnR w2 b a2 m (highP N m Z) := by
      rcases hI2 with h | h
      · omega
      · exact h
    obtain ⟨o2, rfl, hQ2⟩ : ∃ o, a2 = some ⟨g2, o, none⟩ ∧ ∀ k, k < m → w2.cell? ⟨g2, o + k, none⟩ = some (.int .i64 (highP N m Z k)) ∧ w2.frozen? ⟨g2, o + k, none⟩ = false := by
      rcases hO2 with h | h
      · omega
      · exact h
    have HO2 := Lib.hid hQ2
    have B2 := Lib.hid hb2
    have HR2 := Lib.hid ((HR.out.of_block (B1.out.block _ hrl)).of_block (hb2.block _ (by have := B1.out.size; omega)))
    have HU2 := Lib.hid (show ButR r w.heap.size w w2 from ButR.below (B1.out.trans (hb2.mono B1.out.size)))
    clear hQ2 hO2 hb2 hI2
    go_wp2_with fail
    refine (pick_any r n c p 5 a B _ HR2.out (HB.out.but HAL.out HU2.out) HAB.out hn (by omega) (by omega) (by omega)).mono ?_
    rintro e w3 ⟨yy, rfl, hyy, hR3, hK3⟩
    have hs3 := hK3.size
    have hs1 := B1.out.size
    have hs2 := B2.out.size
    have HR3 := Lib.hid hR3
    have HU3 := Lib.hid (HU2.out.trans (ButR.keeps hK3))
    have hg1l : g1 < w3.heap.size := by omega
    have hg2l : g2 < w3.heap.size := by omega
    have hrlt3 : r < w3.heap.size := by omega
    have HL1 := Lib.hid (fun i (hi : i < m) => show w3.cell? ⟨g1, o1 + i, none⟩ = some (.int .i64 (lowP N m Z i)) from (hK3.cell (by show g1 < r ∨ r + 1 ≤ g1; omega)).trans ((B2.out.cell (p := ⟨g1, o1 + i, none⟩) hg1').trans (HO1.out i hi).1))
    have HL2 := Lib.hid (fun i (hi : i < m) => show w3.cell? ⟨g2, o2 + i, none⟩ = some (.int .i64 (highP N m Z i)) from (hK3.cell (by show g2 < r ∨ r + 1 ≤ g2; omega)).trans (HO2.out i hi).1)
    have HLo := Lib.hid (fun i (hi : i < m) => show ∃ x, w3.cell? ⟨g1, o1 + i, none⟩ = some (.int .i64 x) ∧ 0 ≤ x ∧ x ≤ 20 from ⟨_, HL1.out i hi, (HLH0.out i hi).1.1, (HLH0.out i hi).1.2⟩)
    have HHi := Lib.hid (fun i (hi : i < m) => show ∃ x, w3.cell? ⟨g2, o2 + i, none⟩ = some (.int .i64 x) ∧ 0 ≤ x ∧ x ≤ 20 from ⟨_, HL2.out i hi, (HLH0.out i hi).2.1.1, (HLH0.out i hi).2.1.2⟩)
    have HLH := Lib.hid (fun i (hi : i < m) (x y : Int) (h1 : w3.cell? ⟨g1, o1 + i, none⟩ = some (.int .i64 x)) (h2 : w3.cell? ⟨g2, o2 + i, none⟩ = some (.int .i64 y)) => show x ≤ y from by
      rw [HL1.out i hi] at h1
      rw [HL2.out i hi] at h2
      cases h1
      cases h2
      exact (HLH0.out i hi).2.2)
    have G1 := Lib.hid (And.intro hg1 (And.intro hg2 hs1))
    clear hR3 hK3 HO1 HO2 hs1 hs2 hs3
    have hy5 : yy = 0 ∨ yy = 1 ∨ yy = 2 ∨ yy = 3 ∨ yy = 4 := by omega
    rcases hy5 with rfl | rfl | rfl | rfl | rfl
    · go_wp2
      go_ret
      exact ⟨_, m, _, lowP N m Z, p + 1, rfl, by omega, fun k hk => ⟨g1, o1, rfl, HL1.out k hk⟩, fun bb oo _ e => by cases e; have := G1.out; omega, HR3.out, by omega, HU3.out⟩
    · go_wp2
      go_ret
      exact ⟨_, m, _, lowP N m Z, p + 1, rfl, by omega, fun k hk => ⟨g1, o1, rfl, HL1.out k hk⟩, fun bb oo _ e => by cases e; have := G1.out; omega, HR3.out, by omega, HU3.out⟩
    · go_wp2
      go_ret
      exact ⟨_, m, _, highP N m Z, p + 1, rfl, by omega, fun k hk => ⟨g2, o2, rfl, HL2.out k hk⟩, fun bb oo _ e => by cases e; have := G1.out; omega, HR3.out, by omega, HU3.out⟩
    · clear HL1 HL2 HLH0
      have hsw : w.heap.size ≤ w3.heap.size := HU3.out.size
      go_wp2
      have O0 := Lib.hid (show (w3.alloc (.cells #[] 3)).ownsRow w3.heap.size 3 1 (.slice (some ⟨w3.heap.size, 0, none⟩) 0 0) 0 (cellsL 0 (fun _ => 0)) from World.ownsRow_made w3 #[] 0 (Nat.le_refl _) (Nat.zero_le _) (by simp))
      have HRa := Lib.hid (HR3.out.alloc (.cells #[] 3))
      have HUa := Lib.hid (HU3.out.alloc (by have := HU3.out.size; omega) (.cells #[] 3))
      have HVa := Lib.hid ((ButR.refl r w3.heap.size w3).alloc (Nat.le_refl _) (.cells #[] 3))
      go_loopw [9, 10] (fun o s wr => ∃ (i : Nat) (g cap : Nat) (Y : Nat → Int) (pi : Nat), i ≤ m ∧ s = .int .i64 i ∧ o = .slice (some ⟨g, 0, none⟩) i cap ∧ wr.ownsRow w3.heap.size 3 1 (.slice (some ⟨g, 0, none⟩) i cap) i (cellsL i Y) ∧ RdrAt wr r a n c pi ∧ pi ≤ p + 1 + 2 * i ∧ ButR r w3.heap.size w3 wr ∧ ButR r w.heap.size w wr) (fun _ s _ => m - (intOf s).toNat)
      case atStart => exact ⟨0, _, _, _, p + 1, Nat.zero_le _, rfl, rfl, O0.out, HRa.out, by omega, HVa.out, HUa.out⟩
      case round =>
        obtain ⟨i, g, cap, Y, pi, hiN, rfl, rfl, hO, hRi, hpi, hV, hU⟩ := hrel
        have HO := Lib.hid hO
        have HRi := Lib.hid hRi
        have HU := Lib.hid hU
        have HV := Lib.hid hV
        have hsz := hU.size
        have hszv := hV.size
        clear hO hRi hU hV O0 HRa HUa HVa
        by_cases hlt : i < m
        · obtain ⟨x, hlo, hx0, hx20⟩ := HLo.out i hlt
          obtain ⟨y, hhi, hy0, hy20⟩ := HHi.out i hlt
          have hloW := (World.cell?_of_block (w := w3) (a := ⟨g1, o1 + i, none⟩) (HV.out.block g1 hg1l (by have := G1.out; omega))).trans hlo
          have hhiW := (World.cell?_of_block (w := w3) (a := ⟨g2, o2 + i, none⟩) (HV.out.block g2 hg2l (by have := G1.out; omega))).trans hhi
          have hxy : x ≤ y := by have := HLH.out i hlt x y hlo hhi; exact this
          obtain ⟨M, hM⟩ := Int.eq_ofNat_of_zero_le (show 0 ≤ y - x + 1 by omega)
          have hw1 : IntKind.i64.wrap (y - x) = y - x := by rw [IntKind.wrap_i64]; omega
          have hw2 : IntKind.i64.wrap (y - x + 1) = (M : Int) := by rw [IntKind.wrap_i64]; omega
          have hwm : IntKind.i64.wrap (M : Int) = (M : Int) := by rw [IntKind.wrap_i64]; omega
          have hv1 : wrap64 (y - x) = y - x := IntWalk.wrap64_in _ (by omega)
          have hv2 : wrap64 (y - x + 1) = (M : Int) := by rw [IntWalk.wrap64_in _ (by omega)]; omega
          have i1 : (0 : Int) ≤ (i : Int) := by omega
          have i2 : (i : Int) < (m : Int) := by omega
          have h1r : g1 ≠ r := by have := G1.out; omega
          have h2r : g2 ≠ r := by have := G1.out; omega
          have h1n : g1 < w3.heap.size := hg1l
          have h2n : g2 < w3.heap.size := hg2l
          have HOd := Lib.hid (show wr.drew.ownsRow w3.heap.size 3 1 (.slice (some ⟨g, 0, none⟩) i cap) i (cellsL i Y) from HO.out)
          have HRd := Lib.hid (show RdrAt wr.drew r a n c pi from HRi.out)
          have HUd := Lib.hid (show ButR r w.heap.size w wr.drew from HU.out.trans (ButR.below ((Below.refl _ _).drew)))
          have HVd := Lib.hid (show ButR r w3.heap.size w3 wr.drew from HV.out.trans (ButR.below ((Below.refl _ _).drew)))
          clear hlo hhi
          go_wp2
          have tk : True := trivial
          go_region_held3 (fun W => W.cell? ⟨g1, o1 + i, none⟩ = some (.int .i64 x) ∧ W.cell? ⟨g2, o2 + i, none⟩ = some (.int .i64 y))
            (first | exact keepP_drew ⟨hloW, hhiW⟩ | exact keepP_drew (by assumption) | exact hk6 | exact keepP_alloc (by assumption) _ | exact keepP_grown (by assumption) hgrow7 (fun k hk => by cases hk; have := (HO6.out.lt g rfl).1; exact ⟨by show g1 ≠ g; omega, by show g2 ≠ g; omega⟩))
            ((first
              | (go_at_call 81; refine (pick_any r n c pi M a B _ HRd.out (HB.out.but HAL.out HUd.out) HAB.out hn (by omega) (by omega) (by omega)).mono ?_; rintro e w6 ⟨z, rfl, hz, hR6, hK6⟩; have HR6 := Lib.hid hR6; have HU6 := Lib.hid (HUd.out.trans (ButR.keeps hK6)); have HV6 := Lib.hid (HVd.out.trans (ButR.keeps hK6)); have HO6 := Lib.hid (owns_but HOd.out hrlt3 hK6); have S6 := Lib.hid (show w6.heap.size = wr.heap.size from hK6.size); have hk6 := keepP_keeps (W := wr.drew) (keepP_drew ⟨hloW, hhiW⟩) h1r h2r hK6; have hw3 : IntKind.i64.wrap (x + (z : Int)) = x + (z : Int) := (by rw [IntKind.wrap_i64]; omega); clear hR6 hK6)
              | (have _t := tk; refine step_append_any _ (by rfl) (.tmp 47) (.tmp 65) 23 (by rfl) w3.heap.size 3 i0 Try.underlying23 hi hz0 hz1' hz2' g i cap (cellsL i Y) (by rfl) (HO6.out.alloc _) ⟨_, 0, none⟩ 1 1 [.int .i64 (x + (z : Int))] (by rfl) (by rfl) (news_one (by simp)) (by simp [Value.oneCell']) (by omega) (by have := S6.out; simp; omega) ?_; clear tk; intro g7 cap7 w7 hown7 hgrow7)))
          all_goals (
            have O7 := Lib.hid hown7
            have G7 := Lib.hid hgrow7
            clear hown7 hgrow7
            go_wp2
            go_roundw
            case rel =>
              have hs6 := S6.out
              have h7 := O7.out
              rw [cellsL_snoc] at h7
              have hg7 := G7.out.size
              simp at hg7
              exact ⟨i + 1, g7, cap7, _, pi + 1, by omega, by go_num, rfl, h7, (HR6.out.alloc _).grown G7.out (fun e => by have := (HO6.out.lt r (by rw [← e]; rfl)).1; omega), by omega, (HV6.out.alloc (by omega) _).grown G7.out (by simp; omega) (fun x hx => by cases hx; exact (HO6.out.lt g rfl).1), (HU6.out.alloc (by omega) _).grown G7.out (by simp; omega) (fun x hx => by cases hx; have := (HO6.out.lt g rfl).1; omega)⟩
            case measure => simp [intOf]; omega)
        · obtain rfl : i = m := by omega
          go_wp2
          go_ret
          obtain ⟨k1, k2⟩ := HO.out.lt g rfl
          exact ⟨some ⟨g, 0, none⟩, i, cap, Y, pi, rfl, by omega, owns_rd HO.out, fun bb oo _ e => by cases e; omega, HRi.out, by omega, HU.out⟩
    · clear HL1 HL2 HLH0 HLH
      have hsw : w.heap.size ≤ w3.heap.size := HU3.out.size
      clear HLo HHi
      go_wp2
      have O0 := Lib.hid (show (w3.alloc (.cells #[] 3)).ownsRow w3.heap.size 3 1 (.slice (some ⟨w3.heap.size, 0, none⟩) 0 0) 0 (cellsL 0 (fun _ => 0)) from World.ownsRow_made w3 #[] 0 (Nat.le_refl _) (Nat.zero_le _) (by simp))
      have HRa := Lib.hid (HR3.out.alloc (.cells #[] 3))
      have HUa := Lib.hid (HU3.out.alloc (by have := HU3.out.size; omega) (.cells #[] 3))
      go_loopw [11, 12] (fun o s wr => ∃ (i : Nat) (v : Value) (Y : Nat → Int) (pi : Nat), i ≤ m ∧ s = .int .i64 i ∧ v = o ∧ wr.ownsRow w3.heap.size 3 1 v i (cellsL i Y) ∧ RdrAt wr r a n c pi ∧ pi ≤ p + 1 + 2 * i ∧ w3.heap.size ≤ wr.heap.size ∧ ButR r w.heap.size w wr) (fun _ s _ => m - (intOf s).toNat)
      case atStart => exact ⟨0, _, _, p + 1, Nat.zero_le _, rfl, rfl, O0.out, HRa.out, by omega, by simp, HUa.out⟩
      case round =>
        obtain ⟨i, v, Y, pi, hiN, rfl, rfl, hO, hRi, hpi, hsz3, hU⟩ := hrel
        have HO := Lib.hid hO
        have HRi := Lib.hid hRi
        have HU := Lib.hid hU
        have hsz := hU.size
        have hc0 := HC0.out wr hU
        clear hO hRi hU O0 HRa HUa
        by_cases hlt : i < m
        · go_wp2_with fail
          refine (pick_any r n c pi 8 a B _ HRi.out (HB.out.but HAL.out HU.out) HAB.out hn (by omega) (by omega) (by omega)).mono ?_
          rintro e w5 ⟨y, rfl, hy, hR5, hK5⟩
          have HR5 := Lib.hid hR5
          have HU5 := Lib.hid (HU.out.trans (ButR.keeps hK5))
          have HO5 := Lib.hid (owns_but HO.out hrlt3 hK5)
          have S5 := Lib.hid hK5.size
          clear hR5 hK5 hc0
          go_wp2_with fail
          refine (pick_any r n c (pi + 1) 60 a B _ HR5.out (HB.out.but HAL.out HU5.out) HAB.out hn (by omega) (by omega) (by omega)).mono ?_
          rintro e w6 ⟨z, rfl, hz, hR6, hK6⟩
          have HR6 := Lib.hid hR6
          have HU6 := Lib.hid (HU5.out.trans (ButR.keeps hK6))
          have HO6 := Lib.hid (owns_but HO5.out hrlt3 hK6)
          have S6 := Lib.hid (show w6.heap.size = wr.heap.size from hK6.size.trans S5.out)
          have hdz : (z : Int).tdiv 59 = (z : Int) / 59 := Int.tdiv_eq_ediv_of_nonneg (by omega)
          have hz1 : 0 ≤ (z : Int) / 59 := by omega
          have hz2 : (z : Int) / 59 ≤ 1 := by omega
          clear hR6 hK6
          go_wp2_with (at_builtin; refine wpList_append_gen _ (by rfl) (.tmp 77) (.tmp 85) 23 (by rfl) w3.heap.size 3 i0 (.int .i64 0) 8 Try.underlying23 hi hz0 hz1' hz2' (by rfl) v i _ (by rfl) (HO6.out.alloc _) ⟨_, 0, none⟩ 1 1 [.int .i64 ((y : Int) + (z : Int) / 59 * 20)] (by rfl) (by rfl) (news_one (by simp)) (by simp [Value.oneCell']) (by unfold maxLen; omega) (by omega) (by have := S6.out; simp; omega) ?_; intro v3 w7 hown7 hgrow7 hat7; have O7 := Lib.hid hown7; have G7 := Lib.hid hgrow7; clear hown7 hgrow7 hat7)
          go_roundw
          case rel =>
            have hs6 := S6.out
            have h7 := O7.out
            rw [cellsL_snoc] at h7
            have hg7 := G7.out.size
            simp at hg7
            exact ⟨i + 1, v3, _, pi + 1 + 1, by omega, by go_num, rfl, h7, (HR6.out.alloc _).grown G7.out (fun e => by have := (HO6.out.lt r e).1; omega), by omega, by omega, (HU6.out.alloc (by omega) _).grown G7.out (by simp; omega) (fun x hx => by have := (HO6.out.lt x hx).1; omega)⟩
          case measure => simp [intOf]; omega
        · obtain rfl : i = m := by omega
          obtain ⟨g, cap, rfl⟩ := owns_form HO.out (by omega)
          go_wp2
          go_ret
          obtain ⟨k1, k2⟩ := HO.out.lt g rfl
          exact ⟨some ⟨g, 0, none⟩, i, cap, Y, pi, rfl, by omega, owns_rd HO.out, fun bb oo _ e => by cases e; omega, HRi.out, by omega, HU.out⟩
  · rw [tt_no hok, itemsN_no hok] at H1
    rw [tt_no hok, itemsN_no hok] at H2
    obtain ⟨m, hm⟩ : ∃ m, m = L 0 := ⟨_, rfl⟩
    rw [← hm] at H1 H2 HC0 hL0
    clear hok hm hLs
    have HLo := Lib.hid trivial
    have HHi := Lib.hid trivial
    go_enter Try.func82, Try.ntmps82
    go_wp2_with fail
    refine H1.out.mono ?_
    rintro e w1 ⟨a1, c1, rfl, hO1, hb1⟩
    have B1 := Lib.hid hb1
    clear hO1 hb1
    go_wp2_with fail
    refine (H2.out _ B1.out).mono ?_
    rintro e w2 ⟨a2, c2, rfl, hO2, hb2⟩
    have B2 := Lib.hid hb2
    have HR2 := Lib.hid ((HR.out.of_block (B1.out.block _ hrl)).of_block (hb2.block _ (by have := B1.out.size; omega)))
    have HU2 := Lib.hid (show ButR r w.heap.size w w2 from ButR.below (B1.out.trans (hb2.mono B1.out.size)))
    clear hO2 hb2
    go_wp2_with fail
    refine (pick_any r n c p 5 a B _ HR2.out (HB.out.but HAL.out HU2.out) HAB.out hn (by omega) (by omega) (by omega)).mono ?_
    rintro e w3 ⟨yy, rfl, hyy, hR3, hK3⟩
    have hs3 := hK3.size
    have hs1 := B1.out.size
    have hs2 := B2.out.size
    have HR3 := Lib.hid hR3
    have HU3 := Lib.hid (HU2.out.trans (ButR.keeps hK3))
    have hrlt3 : r < w3.heap.size := by omega
    clear hR3 hK3 hs1 hs2 hs3
    have hy5 : yy = 0 ∨ yy = 1 ∨ yy = 2 ∨ yy = 3 ∨ yy = 4 := by omega
    rcases hy5 with rfl | rfl | rfl | rfl | rfl
    · have _t := trivial
      have hsw : w.heap.size ≤ w3.heap.size := HU3.out.size
      clear HLo HHi
      go_wp2
      have O0 := Lib.hid (show (w3.alloc (.cells #[] 3)).ownsRow w3.heap.size 3 1 (.slice (some ⟨w3.heap.size, 0, none⟩) 0 0) 0 (cellsL 0 (fun _ => 0)) from World.ownsRow_made w3 #[] 0 (Nat.le_refl _) (Nat.zero_le _) (by simp))
      have HRa := Lib.hid (HR3.out.alloc (.cells #[] 3))
      have HUa := Lib.hid (HU3.out.alloc (by have := HU3.out.size; omega) (.cells #[] 3))
      go_loopw [11, 12] (fun o s wr => ∃ (i : Nat) (v : Value) (Y : Nat → Int) (pi : Nat), i ≤ m ∧ s = .int .i64 i ∧ v = o ∧ wr.ownsRow w3.heap.size 3 1 v i (cellsL i Y) ∧ RdrAt wr r a n c pi ∧ pi ≤ p + 1 + 2 * i ∧ w3.heap.size ≤ wr.heap.size ∧ ButR r w.heap.size w wr) (fun _ s _ => m - (intOf s).toNat)
      case atStart => exact ⟨0, _, _, p + 1, Nat.zero_le _, rfl, rfl, O0.out, HRa.out, by omega, by simp, HUa.out⟩
      case round =>
        obtain ⟨i, v, Y, pi, hiN, rfl, rfl, hO, hRi, hpi, hsz3, hU⟩ := hrel
        have HO := Lib.hid hO
        have HRi := Lib.hid hRi
        have HU := Lib.hid hU
        have hsz := hU.size
        have hc0 := HC0.out wr hU
        clear hO hRi hU O0 HRa HUa
        by_cases hlt : i < m
        · go_wp2_with fail
          refine (pick_any r n c pi 8 a B _ HRi.out (HB.out.but HAL.out HU.out) HAB.out hn (by omega) (by omega) (by omega)).mono ?_
          rintro e w5 ⟨y, rfl, hy, hR5, hK5⟩
          have HR5 := Lib.hid hR5
          have HU5 := Lib.hid (HU.out.trans (ButR.keeps hK5))
          have HO5 := Lib.hid (owns_but HO.out hrlt3 hK5)
          have S5 := Lib.hid hK5.size
          clear hR5 hK5 hc0
          go_wp2_with fail
          refine (pick_any r n c (pi + 1) 60 a B _ HR5.out (HB.out.but HAL.out HU5.out) HAB.out hn (by omega) (by omega) (by omega)).mono ?_
          rintro e w6 ⟨z, rfl, hz, hR6, hK6⟩
          have HR6 := Lib.hid hR6
          have HU6 := Lib.hid (HU5.out.trans (ButR.keeps hK6))
          have HO6 := Lib.hid (owns_but HO5.out hrlt3 hK6)
          have S6 := Lib.hid (show w6.heap.size = wr.heap.size from hK6.size.trans S5.out)
          have hdz : (z : Int).tdiv 59 = (z : Int) / 59 := Int.tdiv_eq_ediv_of_nonneg (by omega)
          have hz1 : 0 ≤ (z : Int) / 59 := by omega
          have hz2 : (z : Int) / 59 ≤ 1 := by omega
          clear hR6 hK6
          go_wp2_with (at_builtin; refine wpList_append_gen _ (by rfl) (.tmp 77) (.tmp 85) 23 (by rfl) w3.heap.size 3 i0 (.int .i64 0) 8 Try.underlying23 hi hz0 hz1' hz2' (by rfl) v i _ (by rfl) (HO6.out.alloc _) ⟨_, 0, none⟩ 1 1 [.int .i64 ((y : Int) + (z : Int) / 59 * 20)] (by rfl) (by rfl) (news_one (by simp)) (by simp [Value.oneCell']) (by unfold maxLen; omega) (by omega) (by have := S6.out; simp; omega) ?_; intro v3 w7 hown7 hgrow7 hat7; have O7 := Lib.hid hown7; have G7 := Lib.hid hgrow7; clear hown7 hgrow7 hat7)
          go_roundw
          case rel =>
            have hs6 := S6.out
            have h7 := O7.out
            rw [cellsL_snoc] at h7
            have hg7 := G7.out.size
            simp at hg7
            exact ⟨i + 1, v3, _, pi + 1 + 1, by omega, by go_num, rfl, h7, (HR6.out.alloc _).grown G7.out (fun e => by have := (HO6.out.lt r e).1; omega), by omega, by omega, (HU6.out.alloc (by omega) _).grown G7.out (by simp; omega) (fun x hx => by have := (HO6.out.lt x hx).1; omega)⟩
          case measure => simp [intOf]; omega
        · obtain rfl : i = m := by omega
          obtain ⟨g, cap, rfl⟩ := owns_form HO.out (by omega)
          go_wp2
          go_ret
          obtain ⟨k1, k2⟩ := HO.out.lt g rfl
          exact ⟨some ⟨g, 0, none⟩, i, cap, Y, pi, rfl, by omega, owns_rd HO.out, fun bb oo _ e => by cases e; omega, HRi.out, by omega, HU.out⟩
    · have _t := trivial
      have hsw : w.heap.size ≤ w3.heap.size := HU3.out.size
      clear HLo HHi
      go_wp2
      have O0 := Lib.hid (show (w3.alloc (.cells #[] 3)).ownsRow w3.heap.size 3 1 (.slice (some ⟨w3.heap.size, 0, none⟩) 0 0) 0 (cellsL 0 (fun _ => 0)) from World.ownsRow_made w3 #[] 0 (Nat.le_refl _) (Nat.zero_le _) (by simp))
      have HRa := Lib.hid (HR3.out.alloc (.cells #[] 3))
      have HUa := Lib.hid (HU3.out.alloc (by have := HU3.out.size; omega) (.cells #[] 3))
      go_loopw [11, 12] (fun o s wr => ∃ (i : Nat) (v : Value) (Y : Nat → Int) (pi : Nat), i ≤ m ∧ s = .int .i64 i ∧ v = o ∧ wr.ownsRow w3.heap.size 3 1 v i (cellsL i Y) ∧ RdrAt wr r a n c pi ∧ pi ≤ p + 1 + 2 * i ∧ w3.heap.size ≤ wr.heap.size ∧ ButR r w.heap.size w wr) (fun _ s _ => m - (intOf s).toNat)
      case atStart => exact ⟨0, _, _, p + 1, Nat.zero_le _, rfl, rfl, O0.out, HRa.out, by omega, by simp, HUa.out⟩
      case round =>
        obtain ⟨i, v, Y, pi, hiN, rfl, rfl, hO, hRi, hpi, hsz3, hU⟩ := hrel
        have HO := Lib.hid hO
        have HRi := Lib.hid hRi
        have HU := Lib.hid hU
        have hsz := hU.size
        have hc0 := HC0.out wr hU
        clear hO hRi hU O0 HRa HUa
        by_cases hlt : i < m
        · go_wp2_with fail
          refine (pick_any r n c pi 8 a B _ HRi.out (HB.out.but HAL.out HU.out) HAB.out hn (by omega) (by omega) (by omega)).mono ?_
          rintro e w5 ⟨y, rfl, hy, hR5, hK5⟩
          have HR5 := Lib.hid hR5
          have HU5 := Lib.hid (HU.out.trans (ButR.keeps hK5))
          have HO5 := Lib.hid (owns_but HO.out hrlt3 hK5)
          have S5 := Lib.hid hK5.size
          clear hR5 hK5 hc0
          go_wp2_with fail
          refine (pick_any r n c (pi + 1) 60 a B _ HR5.out (HB.out.but HAL.out HU5.out) HAB.out hn (by omega) (by omega) (by omega)).mono ?_
          rintro e w6 ⟨z, rfl, hz, hR6, hK6⟩
          have HR6 := Lib.hid hR6
          have HU6 := Lib.hid (HU5.out.trans (ButR.keeps hK6))
          have HO6 := Lib.hid (owns_but HO5.out hrlt3 hK6)
          have S6 := Lib.hid (show w6.heap.size = wr.heap.size from hK6.size.trans S5.out)
          have hdz : (z : Int).tdiv 59 = (z : Int) / 59 := Int.tdiv_eq_ediv_of_nonneg (by omega)
          have hz1 : 0 ≤ (z : Int) / 59 := by omega
          have hz2 : (z : Int) / 59 ≤ 1 := by omega
          clear hR6 hK6
          go_wp2_with (at_builtin; refine wpList_append_gen _ (by rfl) (.tmp 77) (.tmp 85) 23 (by rfl) w3.heap.size 3 i0 (.int .i64 0) 8 Try.underlying23 hi hz0 hz1' hz2' (by rfl) v i _ (by rfl) (HO6.out.alloc _) ⟨_, 0, none⟩ 1 1 [.int .i64 ((y : Int) + (z : Int) / 59 * 20)] (by rfl) (by rfl) (news_one (by simp)) (by simp [Value.oneCell']) (by unfold maxLen; omega) (by omega) (by have := S6.out; simp; omega) ?_; intro v3 w7 hown7 hgrow7 hat7; have O7 := Lib.hid hown7; have G7 := Lib.hid hgrow7; clear hown7 hgrow7 hat7)
          go_roundw
          case rel =>
            have hs6 := S6.out
            have h7 := O7.out
            rw [cellsL_snoc] at h7
            have hg7 := G7.out.size
            simp at hg7
            exact ⟨i + 1, v3, _, pi + 1 + 1, by omega, by go_num, rfl, h7, (HR6.out.alloc _).grown G7.out (fun e => by have := (HO6.out.lt r e).1; omega), by omega, by omega, (HU6.out.alloc (by omega) _).grown G7.out (by simp; omega) (fun x hx => by have := (HO6.out.lt x hx).1; omega)⟩
          case measure => simp [intOf]; omega
        · obtain rfl : i = m := by omega
          obtain ⟨g, cap, rfl⟩ := owns_form HO.out (by omega)
          go_wp2
          go_ret
          obtain ⟨k1, k2⟩ := HO.out.lt g rfl
          exact ⟨some ⟨g, 0, none⟩, i, cap, Y, pi, rfl, by omega, owns_rd HO.out, fun bb oo _ e => by cases e; omega, HRi.out, by omega, HU.out⟩
    · have _t := trivial
      have hsw : w.heap.size ≤ w3.heap.size := HU3.out.size
      clear HLo HHi
      go_wp2
      have O0 := Lib.hid (show (w3.alloc (.cells #[] 3)).ownsRow w3.heap.size 3 1 (.slice (some ⟨w3.heap.size, 0, none⟩) 0 0) 0 (cellsL 0 (fun _ => 0)) from World.ownsRow_made w3 #[] 0 (Nat.le_refl _) (Nat.zero_le _) (by simp))
      have HRa := Lib.hid (HR3.out.alloc (.cells #[] 3))
      have HUa := Lib.hid (HU3.out.alloc (by have := HU3.out.size; omega) (.cells #[] 3))
      go_loopw [11, 12] (fun o s wr => ∃ (i : Nat) (v : Value) (Y : Nat → Int) (pi : Nat), i ≤ m ∧ s = .int .i64 i ∧ v = o ∧ wr.ownsRow w3.heap.size 3 1 v i (cellsL i Y) ∧ RdrAt wr r a n c pi ∧ pi ≤ p + 1 + 2 * i ∧ w3.heap.size ≤ wr.heap.size ∧ ButR r w.heap.size w wr) (fun _ s _ => m - (intOf s).toNat)
      case atStart => exact ⟨0, _, _, p + 1, Nat.zero_le _, rfl, rfl, O0.out, HRa.out, by omega, by simp, HUa.out⟩
      case round =>
        obtain ⟨i, v, Y, pi, hiN, rfl, rfl, hO, hRi, hpi, hsz3, hU⟩ := hrel
        have HO := Lib.hid hO
        have HRi := Lib.hid hRi
        have HU := Lib.hid hU
        have hsz := hU.size
        have hc0 := HC0.out wr hU
        clear hO hRi hU O0 HRa HUa
        by_cases hlt : i < m
        · go_wp2_with fail
          refine (pick_any r n c pi 8 a B _ HRi.out (HB.out.but HAL.out HU.out) HAB.out hn (by omega) (by omega) (by omega)).mono ?_
          rintro e w5 ⟨y, rfl, hy, hR5, hK5⟩
          have HR5 := Lib.hid hR5
          have HU5 := Lib.hid (HU.out.trans (ButR.keeps hK5))
          have HO5 := Lib.hid (owns_but HO.out hrlt3 hK5)
          have S5 := Lib.hid hK5.size
          clear hR5 hK5 hc0
          go_wp2_with fail
          refine (pick_any r n c (pi + 1) 60 a B _ HR5.out (HB.out.but HAL.out HU5.out) HAB.out hn (by omega) (by omega) (by omega)).mono ?_
          rintro e w6 ⟨z, rfl, hz, hR6, hK6⟩
          have HR6 := Lib.hid hR6
          have HU6 := Lib.hid (HU5.out.trans (ButR.keeps hK6))
          have HO6 := Lib.hid (owns_but HO5.out hrlt3 hK6)
          have S6 := Lib.hid (show w6.heap.size = wr.heap.size from hK6.size.trans S5.out)
          have hdz : (z : Int).tdiv 59 = (z : Int) / 59 := Int.tdiv_eq_ediv_of_nonneg (by omega)
          have hz1 : 0 ≤ (z : Int) / 59 := by omega
          have hz2 : (z : Int) / 59 ≤ 1 := by omega
          clear hR6 hK6
          go_wp2_with (at_builtin; refine wpList_append_gen _ (by rfl) (.tmp 77) (.tmp 85) 23 (by rfl) w3.heap.size 3 i0 (.int .i64 0) 8 Try.underlying23 hi hz0 hz1' hz2' (by rfl) v i _ (by rfl) (HO6.out.alloc _) ⟨_, 0, none⟩ 1 1 [.int .i64 ((y : Int) + (z : Int) / 59 * 20)] (by rfl) (by rfl) (news_one (by simp)) (by simp [Value.oneCell']) (by unfold maxLen; omega) (by omega) (by have := S6.out; simp; omega) ?_; intro v3 w7 hown7 hgrow7 hat7; have O7 := Lib.hid hown7; have G7 := Lib.hid hgrow7; clear hown7 hgrow7 hat7)
          go_roundw
          case rel =>
            have hs6 := S6.out
            have h7 := O7.out
            rw [cellsL_snoc] at h7
            have hg7 := G7.out.size
            simp at hg7
            exact ⟨i + 1, v3, _, pi + 1 + 1, by omega, by go_num, rfl, h7, (HR6.out.alloc _).grown G7.out (fun e => by have := (HO6.out.lt r e).1; omega), by omega, by omega, (HU6.out.alloc (by omega) _).grown G7.out (by simp; omega) (fun x hx => by have := (HO6.out.lt x hx).1; omega)⟩
          case measure => simp [intOf]; omega
        · obtain rfl : i = m := by omega
          obtain ⟨g, cap, rfl⟩ := owns_form HO.out (by omega)
          go_wp2
          go_ret
          obtain ⟨k1, k2⟩ := HO.out.lt g rfl
          exact ⟨some ⟨g, 0, none⟩, i, cap, Y, pi, rfl, by omega, owns_rd HO.out, fun bb oo _ e => by cases e; omega, HRi.out, by omega, HU.out⟩
    · have _t := trivial
      have hsw : w.heap.size ≤ w3.heap.size := HU3.out.size
      clear HLo HHi
      go_wp2
      have O0 := Lib.hid (show (w3.alloc (.cells #[] 3)).ownsRow w3.heap.size 3 1 (.slice (some ⟨w3.heap.size, 0, none⟩) 0 0) 0 (cellsL 0 (fun _ => 0)) from World.ownsRow_made w3 #[] 0 (Nat.le_refl _) (Nat.zero_le _) (by simp))
      have HRa := Lib.hid (HR3.out.alloc (.cells #[] 3))
      have HUa := Lib.hid (HU3.out.alloc (by have := HU3.out.size; omega) (.cells #[] 3))
      go_loopw [11, 12] (fun o s wr => ∃ (i : Nat) (v : Value) (Y : Nat → Int) (pi : Nat), i ≤ m ∧ s = .int .i64 i ∧ v = o ∧ wr.ownsRow w3.heap.size 3 1 v i (cellsL i Y) ∧ RdrAt wr r a n c pi ∧ pi ≤ p + 1 + 2 * i ∧ w3.heap.size ≤ wr.heap.size ∧ ButR r w.heap.size w wr) (fun _ s _ => m - (intOf s).toNat)
      case atStart => exact ⟨0, _, _, p + 1, Nat.zero_le _, rfl, rfl, O0.out, HRa.out, by omega, by simp, HUa.out⟩
      case round =>
        obtain ⟨i, v, Y, pi, hiN, rfl, rfl, hO, hRi, hpi, hsz3, hU⟩ := hrel
        have HO := Lib.hid hO
        have HRi := Lib.hid hRi
        have HU := Lib.hid hU
        have hsz := hU.size
        have hc0 := HC0.out wr hU
        clear hO hRi hU O0 HRa HUa
        by_cases hlt : i < m
        · go_wp2_with fail
          refine (pick_any r n c pi 8 a B _ HRi.out (HB.out.but HAL.out HU.out) HAB.out hn (by omega) (by omega) (by omega)).mono ?_
          rintro e w5 ⟨y, rfl, hy, hR5, hK5⟩
          have HR5 := Lib.hid hR5
          have HU5 := Lib.hid (HU.out.trans (ButR.keeps hK5))
          have HO5 := Lib.hid (owns_but HO.out hrlt3 hK5)
          have S5 := Lib.hid hK5.size
          clear hR5 hK5 hc0
          go_wp2_with fail
          refine (pick_any r n c (pi + 1) 60 a B _ HR5.out (HB.out.but HAL.out HU5.out) HAB.out hn (by omega) (by omega) (by omega)).mono ?_
          rintro e w6 ⟨z, rfl, hz, hR6, hK6⟩
          have HR6 := Lib.hid hR6
          have HU6 := Lib.hid (HU5.out.trans (ButR.keeps hK6))
          have HO6 := Lib.hid (owns_but HO5.out hrlt3 hK6)
          have S6 := Lib.hid (show w6.heap.size = wr.heap.size from hK6.size.trans S5.out)
          have hdz : (z : Int).tdiv 59 = (z : Int) / 59 := Int.tdiv_eq_ediv_of_nonneg (by omega)
          have hz1 : 0 ≤ (z : Int) / 59 := by omega
          have hz2 : (z : Int) / 59 ≤ 1 := by omega
          clear hR6 hK6
          go_wp2_with (at_builtin; refine wpList_append_gen _ (by rfl) (.tmp 77) (.tmp 85) 23 (by rfl) w3.heap.size 3 i0 (.int .i64 0) 8 Try.underlying23 hi hz0 hz1' hz2' (by rfl) v i _ (by rfl) (HO6.out.alloc _) ⟨_, 0, none⟩ 1 1 [.int .i64 ((y : Int) + (z : Int) / 59 * 20)] (by rfl) (by rfl) (news_one (by simp)) (by simp [Value.oneCell']) (by unfold maxLen; omega) (by omega) (by have := S6.out; simp; omega) ?_; intro v3 w7 hown7 hgrow7 hat7; have O7 := Lib.hid hown7; have G7 := Lib.hid hgrow7; clear hown7 hgrow7 hat7)
          go_roundw
          case rel =>
            have hs6 := S6.out
            have h7 := O7.out
            rw [cellsL_snoc] at h7
            have hg7 := G7.out.size
            simp at hg7
            exact ⟨i + 1, v3, _, pi + 1 + 1, by omega, by go_num, rfl, h7, (HR6.out.alloc _).grown G7.out (fun e => by have := (HO6.out.lt r e).1; omega), by omega, by omega, (HU6.out.alloc (by omega) _).grown G7.out (by simp; omega) (fun x hx => by have := (HO6.out.lt x hx).1; omega)⟩
          case measure => simp [intOf]; omega
        · obtain rfl : i = m := by omega
          obtain ⟨g, cap, rfl⟩ := owns_form HO.out (by omega)
          go_wp2
          go_ret
          obtain ⟨k1, k2⟩ := HO.out.lt g rfl
          exact ⟨some ⟨g, 0, none⟩, i, cap, Y, pi, rfl, by omega, owns_rd HO.out, fun bb oo _ e => by cases e; omega, HRi.out, by omega, HU.out⟩
    · have _t := trivial
      have hsw : w.heap.size ≤ w3.heap.size := HU3.out.size
      clear HLo HHi
      go_wp2
      have O0 := Lib.hid (show (w3.alloc (.cells #[] 3)).ownsRow w3.heap.size 3 1 (.slice (some ⟨w3.heap.size, 0, none⟩) 0 0) 0 (cellsL 0 (fun _ => 0)) from World.ownsRow_made w3 #[] 0 (Nat.le_refl _) (Nat.zero_le _) (by simp))
      have HRa := Lib.hid (HR3.out.alloc (.cells #[] 3))
      have HUa := Lib.hid (HU3.out.alloc (by have := HU3.out.size; omega) (.cells #[] 3))
      go_loopw [11, 12] (fun o s wr => ∃ (i : Nat) (v : Value) (Y : Nat → Int) (pi : Nat), i ≤ m ∧ s = .int .i64 i ∧ v = o ∧ wr.ownsRow w3.heap.size 3 1 v i (cellsL i Y) ∧ RdrAt wr r a n c pi ∧ pi ≤ p + 1 + 2 * i ∧ w3.heap.size ≤ wr.heap.size ∧ ButR r w.heap.size w wr) (fun _ s _ => m - (intOf s).toNat)
      case atStart => exact ⟨0, _, _, p + 1, Nat.zero_le _, rfl, rfl, O0.out, HRa.out, by omega, by simp, HUa.out⟩
      case round =>
        obtain ⟨i, v, Y, pi, hiN, rfl, rfl, hO, hRi, hpi, hsz3, hU⟩ := hrel
        have HO := Lib.hid hO
        have HRi := Lib.hid hRi
        have HU := Lib.hid hU
        have hsz := hU.size
        have hc0 := HC0.out wr hU
        clear hO hRi hU O0 HRa HUa
        by_cases hlt : i < m
        · go_wp2_with fail
          refine (pick_any r n c pi 8 a B _ HRi.out (HB.out.but HAL.out HU.out) HAB.out hn (by omega) (by omega) (by omega)).mono ?_
          rintro e w5 ⟨y, rfl, hy, hR5, hK5⟩
          have HR5 := Lib.hid hR5
          have HU5 := Lib.hid (HU.out.trans (ButR.keeps hK5))
          have HO5 := Lib.hid (owns_but HO.out hrlt3 hK5)
          have S5 := Lib.hid hK5.size
          clear hR5 hK5 hc0
          go_wp2_with fail
          refine (pick_any r n c (pi + 1) 60 a B _ HR5.out (HB.out.but HAL.out HU5.out) HAB.out hn (by omega) (by omega) (by omega)).mono ?_
          rintro e w6 ⟨z, rfl, hz, hR6, hK6⟩
          have HR6 := Lib.hid hR6
          have HU6 := Lib.hid (HU5.out.trans (ButR.keeps hK6))
          have HO6 := Lib.hid (owns_but HO5.out hrlt3 hK6)
          have S6 := Lib.hid (show w6.heap.size = wr.heap.size from hK6.size.trans S5.out)
          have hdz : (z : Int).tdiv 59 = (z : Int) / 59 := Int.tdiv_eq_ediv_of_nonneg (by omega)
          have hz1 : 0 ≤ (z : Int) / 59 := by omega
          have hz2 : (z : Int) / 59 ≤ 1 := by omega
          clear hR6 hK6
          go_wp2_with (at_builtin; refine wpList_append_gen _ (by rfl) (.tmp 77) (.tmp 85) 23 (by rfl) w3.heap.size 3 i0 (.int .i64 0) 8 Try.underlying23 hi hz0 hz1' hz2' (by rfl) v i _ (by rfl) (HO6.out.alloc _) ⟨_, 0, none⟩ 1 1 [.int .i64 ((y : Int) + (z : Int) / 59 * 20)] (by rfl) (by rfl) (news_one (by simp)) (by simp [Value.oneCell']) (by unfold maxLen; omega) (by omega) (by have := S6.out; simp; omega) ?_; intro v3 w7 hown7 hgrow7 hat7; have O7 := Lib.hid hown7; have G7 := Lib.hid hgrow7; clear hown7 hgrow7 hat7)
          go_roundw
          case rel =>
            have hs6 := S6.out
            have h7 := O7.out
            rw [cellsL_snoc] at h7
            have hg7 := G7.out.size
            simp at hg7
            exact ⟨i + 1, v3, _, pi + 1 + 1, by omega, by go_num, rfl, h7, (HR6.out.alloc _).grown G7.out (fun e => by have := (HO6.out.lt r e).1; omega), by omega, by omega, (HU6.out.alloc (by omega) _).grown G7.out (by simp; omega) (fun x hx => by have := (HO6.out.lt x hx).1; omega)⟩
          case measure => simp [intOf]; omega
        · obtain rfl : i = m := by omega
          obtain ⟨g, cap, rfl⟩ := owns_form HO.out (by omega)
          go_wp2
          go_ret
          obtain ⟨k1, k2⟩ := HO.out.lt g rfl
          exact ⟨some ⟨g, 0, none⟩, i, cap, Y, pi, rfl, by omega, owns_rd HO.out, fun bb oo _ e => by cases e; omega, HRi.out, by omega, HU.out⟩
end Go.Proofs.Ytaipodnhnekpjaa

/- Words for drawn bids and item prices. -/
namespace Go.Proofs.Ytaipodnhnekpjaa
set_option linter.unusedVariables false
set_option linter.unusedSimpArgs false
open Go.RowKit

theorem rd_ap {w w' : World} {r lo q : Nat} {b : Option Addr} {P : Nat → Int} (h : Rd w b q P) (ha : ∀ bb oo, 0 < q → b = some ⟨bb, oo, none⟩ → lo ≤ bb) (hr : r < lo) (hk : Keeps r (r + 1) w w') : Rd w' b q P := fun k hkq => by
  obtain ⟨bb, oo, e, hc⟩ := h k hkq
  have := ha bb oo (by omega) e
  exact ⟨bb, oo, e, (hk.cell (by show bb < r ∨ r + 1 ≤ bb; omega)).trans hc⟩
/-- Drawn bids and item prices. -/
def DrewPriced (w : World) (e : Ending) (w' : World) : Prop :=
  ∃ (ga : Option Addr) (N gc : Nat) (A : Nat → Option Addr) (L C : Nat → Nat) (Z : Nat → Nat → Int) (b : Option Addr) (q d : Nat) (P : Nat → Int), e = .returned (.tuple #[.slice ga N gc, .slice b q d]) ∧ (1 ≤ N ∧ N ≤ 4 ∧ N ≤ gc) ∧ q ≤ 5 ∧ (∀ s, s < N → 1 ≤ L s ∧ L s ≤ 5) ∧ Tab w' ga N A L C Z ∧ Rd w' b q P ∧ Below w.heap.size w w'
/-- .. and a number. -/
def DrewPricedN (w : World) (e : Ending) (w' : World) : Prop :=
  ∃ (ga : Option Addr) (N gc : Nat) (A : Nat → Option Addr) (L C : Nat → Nat) (Z : Nat → Nat → Int) (b : Option Addr) (q d : Nat) (P : Nat → Int) (i : Int), e = .returned (.tuple #[.slice ga N gc, .slice b q d, .int .i64 i]) ∧ (1 ≤ N ∧ N ≤ 4 ∧ N ≤ gc) ∧ q ≤ 5 ∧ (-100 ≤ i ∧ i ≤ 100) ∧ (∀ s, s < N → 1 ≤ L s ∧ L s ≤ 5) ∧ Tab w' ga N A L C Z ∧ Rd w' b q P ∧ Below w.heap.size w w'
/-- .. and a deal. -/
def DrewPricedD (w : World) (e : Ending) (w' : World) : Prop :=
  ∃ (ga : Option Addr) (N gc : Nat) (A : Nat → Option Addr) (L C : Nat → Nat) (Z : Nat → Nat → Int) (b : Option Addr) (q d : Nat) (P : Nat → Int) (g : Option Addr) (r e' : Nat) (D : Nat → Int), e = .returned (.tuple #[.slice ga N gc, .slice b q d, .slice g r e']) ∧ (1 ≤ N ∧ N ≤ 4 ∧ N ≤ gc) ∧ (q ≤ 5 ∧ r ≤ 4) ∧ (∀ s, s < N → 1 ≤ L s ∧ L s ≤ 5) ∧ Tab w' ga N A L C Z ∧ Rd w' b q P ∧ Rd w' g r D ∧ Below w.heap.size w w'
end Go.Proofs.Ytaipodnhnekpjaa
