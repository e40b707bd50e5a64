/- The model's draws of terms: circles. -/
import Derived.Test.YtnaegnjgpnakfaaDoorDrawDifferent
import Derived.Test.YtnaegnjgpnakfaaDoorSpecText
namespace Go.Proofs.YtnaegnjgpnakfaaDoor
set_option linter.unusedVariables false
set_option linter.unusedSimpArgs false
open Go.RowKit

/-- A text is drawn, of at most so many bytes. -/
def DrewS (r : Nat) (a : Option Addr) (n c p K B : Nat) (w : World) (e : Ending) (w' : World) : Prop :=
  ∃ (s : ByteArray) (p' : Nat), e = .returned (.string s) ∧ s.size ≤ B ∧ p' ≤ p + K ∧ RdrAt w' r a n c p' ∧ ButR r w.heap.size w w'
theorem u8_nat (v : Int) : ∃ b : Nat, IntKind.u8.wrap v = (b : Int) := by
  have h : 0 ≤ IntKind.u8.wrap v := by
    simp only [IntKind.wrap]
    first | exact Int.emod_nonneg _ (by decide) | (simp; omega) | omega
  exact ⟨(IntKind.u8.wrap v).toNat, (Int.toNat_of_nonneg h).symm⟩

set_option maxRecDepth 100000 in
set_option maxHeartbeats 3200000 in
theorem l92Circle_any (r n c p m : Nat) (a : Option Addr) (B : Nat → Nat) (w : World) (hR : RdrAt w r a n c p) (hb : RdB w a n B) (hab : 0 < n → ∀ b o, a = some ⟨b, o, none⟩ → b < w.heap.size ∧ b ≠ r) (hn : n ≤ 2000) (hp : p ≤ 1000) (hm : m ≤ 5) :
    Calls Tryd.prog 92 #[.pointer (some ⟨r, 0, none⟩), .int .i64 (m : Nat)] w (DrewS r a n c p 7 8 w) := by
  obtain ⟨i0, hi, hz0, hz1, hz2⟩ := info_parts Tryd.infoByte
  have H := Lib.hid (l91Different_any r n c p m a B w hR hb hab hn hp (by omega))
  clear hb hab hn hp
  go_enter Tryd.func92, Tryd.ntmps92
  go_wp2_with fail
  refine H.out.mono ?_
  rintro e w1 ⟨g0, k0, cap0, X, p1, rfl, hg0, hX, hR1, hp1, hU1⟩
  have HX := Lib.hid (And.intro hX (And.intro hR1 hU1))
  have HG0 := Lib.hid hg0
  have hk6 : k0 ≤ 6 := by omega
  clear hX hR1 hU1
  go_wp2_with fail
  have HO2 := Lib.hid (show (w1.alloc (.cells #[.int .u8 91] 5)).ownsRow w1.heap.size 5 1 (.slice (some ⟨w1.heap.size, 0, none⟩) 1 1) 1 (cellsB [91]) from ⟨by simp [cellsB], .inr ⟨w1.heap.size, 1, #[.int .u8 91], rfl, Nat.le_refl _, heap_alloc_new w1 _, Nat.le_refl _, by unfold maxLen; omega, by simp, by simp [cellsB]⟩⟩)
  have HB2 := Lib.hid (below_alloc (Below.refl w1.heap.size w1) (.cells #[.int .u8 91] 5))
  go_loopw [6, 7] (fun crow i wi => ∃ (k : Nat) (bs : List Nat) (g cap : Nat), k ≤ k0 ∧ i = .int .i64 (k : Nat) ∧ bs.length = k + 1 ∧ crow = .slice (some ⟨g, 0, none⟩) (k + 1) cap ∧ wi.ownsRow w1.heap.size 5 1 (.slice (some ⟨g, 0, none⟩) (k + 1) cap) (k + 1) (cellsB bs) ∧ Below w1.heap.size w1 wi) (fun _ i _ => k0 - (intOf i).toNat)
  case atStart => exact ⟨0, [91], w1.heap.size, 1, Nat.zero_le _, rfl, rfl, rfl, HO2.out, HB2.out⟩
  case round =>
    obtain ⟨k, bs, g, cap, hk, rfl, hlen, rfl, hown, hbw⟩ := hrel
    rename World => wi
    clear HO2 HB2
    have J2 := Lib.hid hown
    have JB := Lib.hid hbw
    have hwsz := hbw.size
    have hgl := hown.lt g rfl
    have JL := Lib.hid hlen
    by_cases hlt : k < k0
    · obtain ⟨bb, ob, he, hcx⟩ := (HX.out.1.below (Nat.le_refl _) hbw) k hlt
      cases he
      rw [Nat.zero_add] at hcx
      obtain ⟨x, hx⟩ : ∃ x, x = X k := ⟨_, rfl⟩
      rw [← hx] at hcx
      obtain ⟨y, hy⟩ : ∃ y, IntKind.i64.wrap (97 + x) = y := ⟨_, rfl⟩
      obtain ⟨bn, hbn⟩ := u8_nat y
      clear hown hbw hlen hx
      go_wp2_with (at_builtin; refine wpList_append_lies _ (by rfl) (.tmp 18) (.tmp 25) 35 (by rfl) w1.heap.size 5 i0 (.int .u8 0) 1 1 Tryd.underlying35 hi hz0 hz1 hz2 (by rfl) (by decide) _ (k + 1) (cellsB bs) (by rfl) (J2.out.alloc _) ⟨_, 0, none⟩ 1 1 [.int .u8 (bn : Nat)] (by rfl) (by rfl) (news_one (by simp)) (by simp [Value.oneCell']) (by omega) (by unfold maxLen; omega) (by omega) (by simp; omega) _ rfl ?_; intro g2 cap2 w2 hown2 hgrow2 hat2 hlt2; have N2 := Lib.hid hown2; have G2 := Lib.hid hgrow2; clear hown2 hgrow2 hat2)
      go_roundw
      case rel =>
        have hB3 : Below w1.heap.size w1 w2 := (below_alloc JB.out (.cells #[.int .u8 (bn : Nat)] 5)).grown G2.out (by simp; omega) (fun j hj => by cases hj; exact hgl.1)
        refine ⟨k + 1, bs ++ [bn], g2, cap2, by omega, by go_num, by simp; exact JL.out, rfl, ?_, hB3⟩
        have h := N2.out
        rw [cellsB_snoc] at h
        exact h
      case measure => simp [intOf]; omega
    · obtain rfl : k = k0 := by omega
      clear hown hbw hlen
      go_wp2_with (at_builtin; refine wpList_append_lies _ (by rfl) (.tmp 27) (.tmp 28) 35 (by rfl) w1.heap.size 5 i0 (.int .u8 0) 1 1 Tryd.underlying35 hi hz0 hz1 hz2 (by rfl) (by decide) _ (k + 1) (cellsB bs) (by rfl) (J2.out.alloc _) ⟨_, 0, none⟩ 1 1 [.int .u8 93] (by rfl) (by rfl) (news_one (by simp)) (by simp [Value.oneCell']) (by omega) (by unfold maxLen; omega) (by omega) (by simp; omega) _ rfl ?_; intro g2 cap2 w2 hown2 hgrow2 hat2 hlt2; have N2 := Lib.hid hown2; have G2 := Lib.hid hgrow2; have hcv := bytes_str' (ns := bs ++ [93]) (m := k + 1 + 1) (by simp; exact JL.out.symm) (by have h := hown2; rw [cellsB_93] at h; exact h); clear hown2 hgrow2 hat2)
      go_ret
      have hB3 : Below w1.heap.size w1 w2 := (below_alloc JB.out (.cells #[.int .u8 93] 5)).grown G2.out (by simp; omega) (fun j hj => by cases hj; exact hgl.1)
      refine ⟨_, p1, rfl, by rw [strN_size]; simp; have := JL.out; omega, by omega, HX.out.2.1.of_block (hB3.block r HX.out.2.1.lt), HX.out.2.2.trans (ButR.below (hB3.mono HX.out.2.2.size))⟩

set_option maxHeartbeats 1600000 in
theorem of_any (r n c p m k B0 : Nat) (g : Nat) (a : Option Addr) (B : Nat → Nat) (w : World) (hR : RdrAt w r a n c p) (hb : RdB w a n B) (hab : 0 < n → ∀ b o, a = some ⟨b, o, none⟩ → b ≠ r) (hn : n ≤ 2000) (hp : p ≤ 1000000) (hm1 : 1 ≤ m) (hm : m ≤ 8) (hgr : g ≠ r)
    (hS : ∀ j, j < m → ∃ s : ByteArray, w.cell? ⟨g, j, none⟩ = some (.string s) ∧ s.size ≤ B0) :
    Calls Tryd.prog 82 #[.pointer (some ⟨r, 0, none⟩), .slice (some ⟨g, 0, none⟩) m k] w (DrewS r a n c p 1 B0 w) := by
  have H := Lib.hid (pick_any r n c p m a B w hR hb hab hn hp hm1 (by omega))
  have HS := Lib.hid hS
  have HGR := Lib.hid hgr
  clear hR hb hab hn hp hS hgr hm1
  go_enter Tryd.func82, Tryd.ntmps82
  go_wp2_with fail
  refine H.out.mono ?_
  rintro e w1 ⟨x, rfl, hx, hR1, hK1⟩
  obtain ⟨s, hs, hsB⟩ := HS.out x hx
  have hs1 : w1.cell? ⟨g, x, none⟩ = some (.string s) := (hK1.cell (p := ⟨g, x, none⟩) (by have := HGR.out; show g < r ∨ r + 1 ≤ g; omega)).trans hs
  have X := Lib.hid (And.intro hR1 (And.intro (ButR.keeps (B := w.heap.size) hK1) hsB))
  clear hR1 hK1 hs hsB
  go_wp2_with fail
  go_ret
  exact ⟨s, p + 1, rfl, X.out.2.2, Nat.le_refl _, X.out.1, X.out.2.1⟩
end Go.Proofs.YtnaegnjgpnakfaaDoor
