/- The model's l92Deal: a drawn deal, or another list. -/
import Derived.Test.YtbmkgkiochhdmaaDrawBids
namespace Go.Proofs.Ytbmkgkiochhdmaa
set_option linter.unusedVariables false
set_option linter.unusedSimpArgs false
open Go.RowKit

/-- What l92Deal hands back: a row of N numbers, the reader gone on. -/
def DrewDeal (r N : Nat) (a : Option Addr) (n c p : Nat) (w : World) (e : Ending) (w' : World) : Prop :=
  ∃ (g cap : Nat) (Y : Nat → Int) (p' : Nat), e = .returned (.slice (some ⟨g, 0, none⟩) N cap) ∧ (N ≤ cap ∧ w.heap.size ≤ g ∧ g < w'.heap.size) ∧ Rd w' (some ⟨g, 0, none⟩) N Y ∧ RdrAt w' r a n c p' ∧ p' ≤ p + 20 ∧ ButR r w.heap.size w w'

set_option maxHeartbeats 6400000 in
set_option maxRecDepth 100000 in
theorem l92Deal_any (r n c p lo N gc : Nat) (a ga : Option Addr) (B : Nat → Nat) (A : Nat → Option Addr) (L C : Nat → Nat) (Z : Nat → Nat → Int) (w : World) (hR : RdrAt w r a n c p) (hb : RdB w a n B) (hab : 0 < n → ∀ b o, a = some ⟨b, o, none⟩ → b < w.heap.size ∧ b ≠ r) (hn : n ≤ 2000) (hp : p ≤ 1000)
    (hN1 : 1 ≤ N) (hN4 : N ≤ 4) (hL1 : 1 ≤ L 0) (hL5 : L 0 ≤ 5) (hT : Tab w ga N A L C Z) (hA : Apart lo N ga A) (hrlo : r < lo) :
    Calls Try.prog 68 #[.pointer (some ⟨r, 0, none⟩), .slice ga N gc] w (DrewDeal r N a n c p w) := by
  obtain ⟨i0, hi, hz0, hz1, hz2⟩ := info_parts Try.infoInt
  have hrl := hR.lt
  have HR0 := Lib.hid (hR.alloc (.cells #[] 3))
  have HB := Lib.hid hb
  have HAL := Lib.hid hab
  have HAB := Lib.hid (show 0 < n → ∀ b o, a = some ⟨b, o, none⟩ → b ≠ r from fun h0 b o e => (hab h0 b o e).2)
  obtain ⟨b0, o0, rfl, hc0, _⟩ := hT 0 hN1
  rw [Nat.add_zero] at hc0
  have hb0 := hA.1 b0 o0 rfl
  obtain ⟨m, hm⟩ : ∃ m, m = L 0 := ⟨_, rfl⟩
  rw [← hm] at hc0 hL1 hL5
  have hb0r : b0 ≠ r := by omega
  have hb0l : b0 < w.heap.size := World.block_lt_of_cell? _ _ hc0
  have HC0 := Lib.hid (fun W (hU : ButR r w.heap.size w W) => show W.cell? ⟨b0, o0, none⟩ = some (.slice (A 0) m (C 0)) from (World.cell?_of_block (w := w) (a := ⟨b0, o0, none⟩) (hU.block b0 hb0l hb0r)).trans hc0)
  have U0 := Lib.hid ((ButR.refl r w.heap.size w).alloc (Nat.le_refl _) (.cells #[] 3))
  have O0 := Lib.hid (show (w.alloc (.cells #[] 3)).ownsRow w.heap.size 3 1 (.slice (some ⟨w.heap.size, 0, none⟩) 0 0) 0 (cellsL 0 (fun _ => 0)) from World.ownsRow_made w #[] 0 (Nat.le_refl _) (Nat.zero_le _) (by simp))
  have hNz : (0 : Int) < (N : Int) := by omega
  have hmw : IntKind.i64.wrap ((m : Int) + 1) = ((m + 1 : Nat) : Int) := by rw [IntWalk.i64_in _ (by omega)]; omega
  have HMW := Lib.hid hmw
  clear hR hb hab hT hA hm hc0 hb0 hmw
  go_enter Try.func68, Try.ntmps68
  go_wp2
  go_loopw [5, 6, 7] (fun o u s wr => ∃ (i S : Nat) (v : Value) (Y : Nat → Int) (pi : Nat), i ≤ N ∧ s = .int .i64 i ∧ u = .int .i64 S ∧ S < 2 ^ 5 ∧ v = o ∧ wr.ownsRow w.heap.size 3 1 v i (cellsL i Y) ∧ RdrAt wr r a n c pi ∧ pi ≤ p + 2 * i ∧ ButR r w.heap.size w wr) (fun _ _ s _ => N - (intOf s).toNat)
  case atStart => exact ⟨0, 0, _, _, p, Nat.zero_le _, rfl, rfl, by omega, rfl, O0.out, HR0.out, by omega, U0.out⟩
  case round =>
    obtain ⟨i, S, v, Y, pi, hiN, rfl, rfl, hS, rfl, hO, hRi, hpi, hU⟩ := hrel
    have HO := Lib.hid hO
    have HRi := Lib.hid hRi
    have HU := Lib.hid hU
    have HS := Lib.hid hS
    have hS62 : S < 2 ^ 62 := Nat.lt_of_lt_of_le hS (Nat.pow_le_pow_right (by omega) (by omega))
    have hsz := hU.size
    clear hO hRi hU hS O0 HR0 U0
    by_cases hlt : i < N
    · have hc0 := HC0.out wr HU.out
      have hmw := HMW.out
      go_wp2_with fail
      refine (pick_any r n c pi (m + 1) a B _ HRi.out (HB.out.but HAL.out HU.out) HAB.out hn (by omega) (by omega) (by omega)).mono ?_
      rintro e w5 ⟨y, rfl, hy, hR5, hK5⟩
      have HR5 := Lib.hid hR5
      have HU5 := Lib.hid (HU.out.trans (ButR.keeps hK5))
      have HO5 := Lib.hid (owns_but HO.out hrl hK5)
      have S5 := Lib.hid hK5.size
      clear hR5 hK5 hc0 hmw
      by_cases hy0 : y = 0
      · subst hy0
        clear hS62
        go_wp2_with (at_builtin; refine wpList_append_gen _ (by rfl) (.tmp 44) (.tmp 46) 26 (by rfl) w.heap.size 3 i0 (.int .i64 0) 8 Try.underlying26 hi hz0 hz1 hz2 (by rfl) v i _ (by rfl) (HO5.out.alloc _) ⟨_, 0, none⟩ 1 1 [.int .i64 (-1)] (by rfl) (by rfl) (news_one (by simp)) (by simp [Value.oneCell']) (by unfold maxLen; omega) (by omega) (by have := S5.out; simp; omega) ?_; intro v3 w6 hown6 hgrow6 hat6; have O6 := Lib.hid hown6; have G6 := Lib.hid hgrow6; clear hown6 hgrow6 hat6)
        go_roundw
        case rel =>
          have hs5 := S5.out
          have h6 := O6.out
          rw [cellsL_snoc] at h6
          exact ⟨i + 1, S, v3, _, pi + 1, by omega, by go_num, rfl, HS.out, rfl, h6, (HR5.out.alloc _).grown G6.out (fun e => by have := (HO5.out.lt r e).1; omega), by omega, (HU5.out.alloc (by omega) _).grown G6.out (by simp; omega) (fun x hx => (HO5.out.lt x hx).1)⟩
        case measure => simp [intOf]; omega
      · obtain ⟨x, hx⟩ : ∃ x, y = x + 1 := ⟨y - 1, by omega⟩
        have hx5 : x < 5 := by omega
        have hyw : IntKind.i64.wrap ((y : Int) - 1) = (x : Int) := by rw [IntWalk.i64_in _ (by omega)]; omega
        have hx64 : min x 64 = x := by omega
        have f1 := bit_has S x hS62
        have f2 := bit_put S x hS62 (by omega)
        have hx0 : (0 : Int) ≤ (x : Int) := by omega
        have d1 : decide ((x : Int) ≥ 0) = true := by simp
        have SK := Lib.hid (bit_put_lt HS.out hx5)
        clear hS62 hx hy hy0
        cases hbit : S.testBit x with
        | true =>
          rw [hbit] at f1
          clear hbit
          go_wp2_with fail
          refine (pick_any r n c (pi + 1) 30 a B _ HR5.out (HB.out.but HAL.out HU5.out) HAB.out hn (by omega) (by omega) (by omega)).mono ?_
          rintro e w7 ⟨z, rfl, hz, hR7, hK7⟩
          have HR7 := Lib.hid hR7
          have HU7 := Lib.hid (HU5.out.trans (ButR.keeps hK7))
          have HO7 := Lib.hid (owns_but HO5.out hrl hK7)
          have S7 := Lib.hid (hK7.size.trans S5.out)
          clear hR7 hK7
          by_cases hzz : z = 0
          · subst hzz
            go_wp2_with (at_builtin; refine wpList_append_gen _ (by rfl) (.tmp 44) (.tmp 46) 26 (by rfl) w.heap.size 3 i0 (.int .i64 0) 8 Try.underlying26 hi hz0 hz1 hz2 (by rfl) v i _ (by rfl) (HO7.out.alloc _) ⟨_, 0, none⟩ 1 1 [.int .i64 x] (by rfl) (by rfl) (news_one (by simp)) (by simp [Value.oneCell']) (by unfold maxLen; omega) (by omega) (by have := S7.out; simp; omega) ?_; intro v3 w8 hown8 hgrow8 hat8; have O8 := Lib.hid hown8; have G8 := Lib.hid hgrow8; clear hown8 hgrow8 hat8)
            go_roundw
            case rel =>
              have hs7 := S7.out
              have h8 := O8.out
              rw [cellsL_snoc] at h8
              exact ⟨i + 1, S ||| 2 ^ x, v3, _, pi + 1 + 1, by omega, by go_num, rfl, SK.out, rfl, h8, (HR7.out.alloc _).grown G8.out (fun e => by have := (HO7.out.lt r e).1; omega), by omega, (HU7.out.alloc (by omega) _).grown G8.out (by simp; omega) (fun x hx => (HO7.out.lt x hx).1)⟩
            case measure => simp [intOf]; omega
          · have d2 : decide ((z : Int) > 0) = true := by simp; omega
            have d3 : decide (0 < z) = true := by simp; omega
            have d4 : 0 < z := by omega
            clear hzz
            go_wp2_with (at_builtin; refine wpList_append_gen _ (by rfl) (.tmp 44) (.tmp 46) 26 (by rfl) w.heap.size 3 i0 (.int .i64 0) 8 Try.underlying26 hi hz0 hz1 hz2 (by rfl) v i _ (by rfl) (HO7.out.alloc _) ⟨_, 0, none⟩ 1 1 [.int .i64 (-1)] (by rfl) (by rfl) (news_one (by simp)) (by simp [Value.oneCell']) (by unfold maxLen; omega) (by omega) (by have := S7.out; simp; omega) ?_; intro v3 w8 hown8 hgrow8 hat8; have O8 := Lib.hid hown8; have G8 := Lib.hid hgrow8; clear hown8 hgrow8 hat8)
            go_roundw
            case rel =>
              have hs7 := S7.out
              have h8 := O8.out
              rw [cellsL_snoc] at h8
              exact ⟨i + 1, S, v3, _, pi + 1 + 1, by omega, by go_num, rfl, HS.out, rfl, h8, (HR7.out.alloc _).grown G8.out (fun e => by have := (HO7.out.lt r e).1; omega), by omega, (HU7.out.alloc (by omega) _).grown G8.out (by simp; omega) (fun x hx => (HO7.out.lt x hx).1)⟩
            case measure => simp [intOf]; omega
        | false =>
          rw [hbit] at f1
          clear hbit
          go_wp2_with (at_builtin; refine wpList_append_gen _ (by rfl) (.tmp 44) (.tmp 46) 26 (by rfl) w.heap.size 3 i0 (.int .i64 0) 8 Try.underlying26 hi hz0 hz1 hz2 (by rfl) v i _ (by rfl) (HO5.out.alloc _) ⟨_, 0, none⟩ 1 1 [.int .i64 x] (by rfl) (by rfl) (news_one (by simp)) (by simp [Value.oneCell']) (by unfold maxLen; omega) (by omega) (by have := S5.out; simp; omega) ?_; intro v3 w8 hown8 hgrow8 hat8; have O8 := Lib.hid hown8; have G8 := Lib.hid hgrow8; clear hown8 hgrow8 hat8)
          go_roundw
          case rel =>
            have hs5 := S5.out
            have h8 := O8.out
            rw [cellsL_snoc] at h8
            exact ⟨i + 1, S ||| 2 ^ x, v3, _, pi + 1, by omega, by go_num, rfl, SK.out, rfl, h8, (HR5.out.alloc _).grown G8.out (fun e => by have := (HO5.out.lt r e).1; omega), by omega, (HU5.out.alloc (by omega) _).grown G8.out (by simp; omega) (fun x hx => (HO5.out.lt x hx).1)⟩
          case measure => simp [intOf]; omega
    · obtain rfl : i = N := by omega
      obtain ⟨g, cap, rfl⟩ := owns_form HO.out (by omega)
      clear hS62
      go_wp2
      go_ret
      obtain ⟨k1, k2⟩ := HO.out.lt g rfl
      exact ⟨g, cap, Y, pi, rfl, ⟨(owns_fits HO.out).1, k1, k2⟩, owns_rd HO.out, HRi.out, by omega, HU.out⟩
end Go.Proofs.Ytbmkgkiochhdmaa
