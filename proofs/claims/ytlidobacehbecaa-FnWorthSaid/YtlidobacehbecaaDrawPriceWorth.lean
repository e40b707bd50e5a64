/- The draw of prices and units. -/
import Derived.Test.YtlidobacehbecaaDrawPrices
namespace Go.Proofs.Ytlidobacehbecaa
set_option linter.unusedVariables false
open Go.RowKit

/-- What it hands back: two rows, the second one of small numbers. -/
def DrewTwo (w : World) (e : Ending) (w' : World) : Prop :=
  ∃ a m c X b m' c' Y, e = .returned (.tuple #[.slice a m c, .slice b m' c']) ∧ ((2 ≤ m ∧ m ≤ 5 ∧ m ≤ c) ∧ m' ≤ 5 ∧ m' ≤ c') ∧ Rd w' a m X ∧ Rd w' b m' Y ∧ (∀ k, k < m' → -100 ≤ Y k ∧ Y k ≤ 100) ∧ Below w.heap.size w w'

set_option maxHeartbeats 3200000 in
theorem drawPriceWorth_any (n c : Nat) (a : Option Addr) (B : Nat → Nat) (w : World) (hn : n ≤ 1048576) (hc : n ≤ c) (hb : RdB w a n B) (hab : 0 < n → ∀ b o, a = some ⟨b, o, none⟩ → b < w.heap.size) :
    Calls Try.prog 15 #[.slice a n c] w (DrewTwo w) := by
  obtain ⟨i0, hi, hz0, hz1, hz2⟩ := info_parts Try.infoInt
  have HB := Lib.hid hb
  have HAL := Lib.hid hab
  clear hb hab
  go_enter Try.func15, Try.ntmps15
  go_wp2_with fail
  refine (l6Open_any n c a _ hn hc).mono ?_
  rintro e w1 ⟨n', c', rfl, hn2, hnn, hR1, hs1, hb1⟩
  have HB1 := Lib.hid ((HB.out.below (Nat.le_refl _) hb1).sub hnn)
  have HR1 := Lib.hid hR1
  have Hb1 := Lib.hid hb1
  have HAB := Lib.hid (show 0 < n' → ∀ b o, a = some ⟨b, o, none⟩ → b ≠ w.heap.size from fun h0 b o e => Nat.ne_of_lt (HAL.out (by omega) b o e))
  have HAL1 := Lib.hid (show 0 < n' → ∀ b o, a = some ⟨b, o, none⟩ → b < w1.heap.size ∧ b ≠ w.heap.size from fun h0 b o e => ⟨by have := HAL.out (by omega) b o e; omega, HAB.out h0 b o e⟩)
  have hs1' : w1.heap.size = w.heap.size + 1 := hs1
  have HS1 := Lib.hid hs1
  have hlt1 : w.heap.size < w1.heap.size := by omega
  clear hR1 hb1 hs1 hs1'
  go_wp2_with fail
  refine (pick_any w.heap.size n' c' 0 4 a B _ HR1.out HB1.out HAB.out hn2 (by omega) (by omega) (by omega)).mono ?_
  rintro e w2 ⟨x, rfl, hx, hR2, hK2⟩
  have HR2 := Lib.hid hR2
  have HU2 := Lib.hid (ButR.keeps (B := w1.heap.size) hK2)
  have hs2 : w2.heap.size ≤ w1.heap.size ∧ w1.heap.size ≤ w2.heap.size := ⟨Nat.le_of_eq hK2.size, Nat.le_of_eq hK2.size.symm⟩
  have HE2 := Lib.hid hK2.size
  clear hR2 hK2
  go_wp2_with fail
  rw [show ((2 : Int) + (x : Int)) = ((2 + x : Nat) : Int) by omega]
  refine (l91Prices_any w.heap.size n' c' (0 + 1) (2 + x) a B _ HR2.out (HB1.out.but HAL1.out HU2.out) (fun h0 b o e => by rw [HE2.out]; exact HAL1.out h0 b o e) hn2 (by omega) (by omega) (by omega)).mono ?_
  rintro e w3 ⟨g, cap, X, p3, rfl, ⟨hg1, hg2, hg3⟩, hX, hR3, hp3, hU3⟩
  obtain ⟨m, hm⟩ : ∃ m, m = 2 + x := ⟨_, rfl⟩
  rw [← hm] at hX hg3 ⊢
  have hm2 : 2 ≤ m := by omega
  have hm5 : m ≤ 5 := by omega
  have HX := Lib.hid hX
  have HR3 := Lib.hid hR3
  have HU3 := Lib.hid (HU2.out.trans (hU3.mono (by omega)))
  have hs3 := hU3.size
  have hgr : g ≠ w.heap.size := by omega
  clear hX hR3 hU3 hm
  go_wp2_with fail
  refine (pick_any w.heap.size n' c' p3 24 a B _ (HR3.out.alloc _) ((HB1.out.but HAL1.out (HU3.out.alloc (by omega) _))) HAB.out hn2 (by omega) (by omega) (by omega)).mono ?_
  rintro e w4 ⟨y, rfl, hy, hR4, hK4⟩
  have HR4 := Lib.hid hR4
  have HU4 := Lib.hid ((HU3.out.alloc (by omega) (.cells #[] 3)).trans (ButR.keeps hK4))
  have hs4 : w3.heap.size + 1 ≤ w4.heap.size := by rw [hK4.size, World.size_alloc]; exact Nat.le_refl _
  have HX4 := Lib.hid (show Rd w4 (some ⟨g, 0, none⟩) m X from fun k hk => by
    obtain ⟨b', o', he, hc⟩ := HX.out k hk
    refine ⟨b', o', he, ?_⟩
    simp only [Option.some.injEq, Addr.mk.injEq, and_true] at he
    obtain ⟨rfl, rfl⟩ := he
    rw [World.cell?_of_block (w := w3.alloc (.cells #[] 3)) (a := ⟨g, 0 + k, none⟩) (hK4.block g (by omega)), World.cell?_of_block (w := w3) (a := ⟨g, 0 + k, none⟩) (Below.heap_alloc _ _ _ hg2)]
    exact hc)
  have R0 := Lib.hid (owns_but (show (w3.alloc (.cells #[] 3)).ownsRow w3.heap.size 3 1 (.slice (some ⟨w3.heap.size, 0, none⟩) 0 0) 0 (cellsL 0 (fun _ => 0)) from World.ownsRow_made w3 #[] 0 (Nat.le_refl _) (Nat.zero_le _) (by simp)) (by omega) hK4)
  clear hR4 hK4
  obtain ⟨d, hd⟩ : ∃ d : Nat, d = y / 23 := ⟨_, rfl⟩
  have hd1 : d ≤ 1 := by omega
  have hdy : ((y : Int) / 23) = (d : Int) := by omega
  obtain ⟨m', hm'⟩ : ∃ m' : Nat, m' = m - d := ⟨_, rfl⟩
  have hmm : (m : Int) - (d : Int) = (m' : Int) := by omega
  have hm5' : m' ≤ 5 := by omega
  have HM := Lib.hid hmm
  clear hd hm'
  go_wp2
  try rw [HM.out]
  clear hdy hmm
  go_loopw [6, 8] (fun row s wi => ∃ k : Nat, k ≤ m' ∧ s = .int .i64 k ∧ ∃ rv Y p', rv = row ∧ wi.ownsRow w3.heap.size 3 1 rv k (cellsL k Y) ∧ (∀ j, j < k → -100 ≤ Y j ∧ Y j ≤ 100) ∧ RdrAt wi w.heap.size a n' c' p' ∧ p' ≤ 20 + 2 * k ∧ Rd wi (some ⟨g, 0, none⟩) m X ∧ wi.heap.size ≥ w3.heap.size ∧ ButR w.heap.size w1.heap.size w1 wi) (fun _ s _ => m' - (intOf s).toNat)
  case atStart => exact ⟨0, Nat.zero_le _, rfl, _, fun _ => 0, p3 + 1, rfl, R0.out, fun j hj => absurd hj (Nat.not_lt_zero _), HR4.out, by omega, HX4.out, by omega, HU4.out⟩
  case round =>
    obtain ⟨k, hk, rfl, rv, Y, p', rfl, hown, hY, hR, hp', hX, hsz, hU⟩ := hrel
    clear R0 HR4 HX4 HU4
    have HO := Lib.hid hown
    have HY := Lib.hid hY
    have HR := Lib.hid hR
    have HX5 := Lib.hid hX
    have HU := Lib.hid hU
    have hsz' : w3.heap.size ≤ wr.heap.size := hsz
    clear hown hY hR hX hU hsz
    by_cases hlt : k < m'
    · go_wp2_with fail
      refine (pick_any w.heap.size n' c' p' 100 a B _ HR.out (HB1.out.but HAL1.out HU.out) HAB.out hn2 (by omega) (by omega) (by omega)).mono ?_
      rintro e w5 ⟨u, rfl, hu, hR5, hK5⟩
      have HR5 := Lib.hid hR5
      have HK5 := Lib.hid hK5
      have HU5 := Lib.hid (HU.out.trans (ButR.keeps hK5))
      have hs5 : wr.heap.size ≤ w5.heap.size := Nat.le_of_eq hK5.size.symm
      clear hR5 hK5
      go_wp2_with fail
      refine (pick_any w.heap.size n' c' (p' + 1) 60 a B _ HR5.out (HB1.out.but HAL1.out HU5.out) HAB.out hn2 (by omega) (by omega) (by omega)).mono ?_
      rintro e w6 ⟨v, rfl, hv, hR6, hK6⟩
      have HR6 := Lib.hid hR6
      have HK6 := Lib.hid (HK5.out.trans hK6)
      have HU6 := Lib.hid (HU5.out.trans (ButR.keeps hK6))
      have hs6 : w5.heap.size ≤ w6.heap.size := Nat.le_of_eq hK6.size.symm
      have O6 := Lib.hid (owns_but HO.out (by omega) HK6.out)
      clear hR6 hK6
      obtain ⟨z, hz⟩ : ∃ z : Int, z = (u : Int) - (v : Int) / 59 * 100 := ⟨_, rfl⟩
      have hz1' : -100 ≤ z ∧ z ≤ 100 := by omega
      have HZ := Lib.hid hz1'
      have QZ := Lib.hid hz
      have HG6 := Lib.hid (show g < w6.heap.size by omega)
      have hv1 : 0 ≤ (v : Int) / 59 := by omega
      have hv2 : (v : Int) / 59 ≤ 1 := by omega
      clear hz hz1'
      go_wp2_with (at_builtin; refine wpList_append_lies _ (by rfl) (.tmp 28) (.tmp 36) 23 (by rfl) w3.heap.size 3 i0 (.int .i64 0) 1 8 Try.underlying23 hi hz0 hz1 hz2 (by rfl) (by decide) rv k (cellsL k Y) (by rfl) (O6.out.alloc _) ⟨_, 0, none⟩ 1 1 [.int .i64 ((u : Int) - (v : Int) / 59 * 100)] (by rfl) (by rfl) (news_one (by simp)) (by simp [Value.oneCell']) (by omega) (by unfold maxLen; omega) (by omega) (by first | omega | (simp; omega)) _ rfl ?_; intro g2 cap2 w7 hown2 hgrow2 hat2 hlt2; have N2 := Lib.hid hown2; have G2 := Lib.hid hgrow2; clear hown2 hgrow2 hat2)
      go_roundw
      case rel =>
        refine ⟨k + 1, by omega, by go_num, _, _, p' + 1 + 1, rfl, by have := N2.out; rwa [cellsL_snoc] at this, fun j hj => ?_, (HR6.out.alloc _).grown G2.out (fun e => by have := (O6.out.lt w.heap.size e).1; omega), by omega, ?_, ?_, (HU6.out.alloc (by omega) _).grown G2.out (by simp; omega) (fun k hk => by have := (O6.out.lt k hk).1; omega)⟩
        · show -100 ≤ (if j < k then Y j else _) ∧ (if j < k then Y j else _) ≤ 100
          by_cases e : j < k
          · rw [if_pos e]; exact HY.out j e
          · rw [if_neg e, ← QZ.out]; exact HZ.out
        · intro j hj
          obtain ⟨b', o', he, hc⟩ := HX5.out j hj
          refine ⟨b', o', he, ?_⟩
          simp only [Option.some.injEq, Addr.mk.injEq, and_true] at he
          obtain ⟨rfl, rfl⟩ := he
          have h6 : w6.cell? ⟨g, 0 + j, none⟩ = some (.int .i64 (X j)) := by
            rw [World.cell?_of_block (w := wr) (a := ⟨g, 0 + j, none⟩) (HK6.out.block g (by omega))]; exact hc
          have h7 : (w6.alloc (.cells #[.int .i64 ((u : Int) - (v : Int) / 59 * 100)] 3)).cell? ⟨g, 0 + j, none⟩ = some (.int .i64 (X j)) := by
            rw [World.cell?_of_block (w := w6) (a := ⟨g, 0 + j, none⟩) (Below.heap_alloc _ _ _ HG6.out)]; exact h6
          exact G2.out.cell h7 (fun e => by have := (O6.out.lt g e.symm).1; omega)
        · have := G2.out.size; simp at this; omega
      case measure => simp [intOf]; omega
    · obtain rfl : k = m' := by omega
      have hrv : ∃ b cb, rv = .slice b k cb ∧ k ≤ cb := by
        obtain ⟨_, (⟨h1, h2⟩ | ⟨gg, cc, _, h1, h2, h3, h4, _⟩)⟩ := HO.out
        · exact ⟨none, 0, by rw [h1, h2], by omega⟩
        · exact ⟨_, cc, h1, h4⟩
      obtain ⟨bv, cv, rfl, hcv⟩ := hrv
      have HRd := Lib.hid (show Rd wr bv k Y from fun j hj => by
        obtain ⟨gg, cc, e⟩ := owns_form HO.out (by omega)
        cases e
        exact owns_rd HO.out j hj)
      go_wp2
      go_ret2
      exact ⟨_, m, cap, X, _, k, cv, Y, rfl, ⟨⟨hm2, hm5, hg3⟩, hm5', hcv⟩, HX5.out, HRd.out, HY.out, Hb1.out.trans ((HU.out.toBelow (by omega)).mono (Nat.le_refl _))⟩
end Go.Proofs.Ytlidobacehbecaa
