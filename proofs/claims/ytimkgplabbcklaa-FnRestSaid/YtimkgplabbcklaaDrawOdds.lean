/- The model's l92Odds: drawn numbers. -/
import Derived.Test.YtimkgplabbcklaaDrawKit
import Derived.Test.YtimkgplabbcklaaInfoInts
import Derived.Test.YtimkgplabbcklaaAppendRows
import Derived.Test.YtimkgplabbcklaaTabK
import Derived.Test.YtimkgplabbcklaaDelKit
namespace Go.Proofs.Ytimkgplabbcklaa
set_option linter.unusedVariables false
set_option linter.unusedSimpArgs false
open Go.RowKit

/-- What l92Odds hands back: a row of q numbers, the reader gone on. -/
def DrewOdds (r q : Nat) (a : Option Addr) (n c p : Nat) (w : World) (e : Ending) (w' : World) : Prop :=
  ∃ (g d : Nat) (X : Nat → Int) (p' : Nat), e = .returned (.slice (some ⟨g, 0, none⟩) q d) ∧ (w.heap.size ≤ g ∧ g < w'.heap.size ∧ q ≤ d) ∧ Rd w' (some ⟨g, 0, none⟩) q X ∧ RdrAt w' r a n c p' ∧ p' ≤ p + q + 4 ∧ ButR r w.heap.size w w'

set_option maxRecDepth 100000 in
set_option maxHeartbeats 6400000 in
theorem l92Odds_any (r n c p q : Nat) (a : Option Addr) (B : Nat → Nat) (w : World) (hR : RdrAt w r a n c p) (hb : RdB w a n B) (hab : 0 < n → ∀ b o, a = some ⟨b, o, none⟩ → b < w.heap.size ∧ b ≠ r) (hn : n ≤ 2000) (hp : p ≤ 1000) (hq1 : 1 ≤ q) (hq7 : q ≤ 7) :
    Calls Try.prog 46 #[.pointer (some ⟨r, 0, none⟩), .int .i64 q] w (DrewOdds r q a n c p w) := by
  obtain ⟨i0, hi, hz0, hz1, hz2⟩ := info_parts Try.infoInt
  have hrl := hR.lt
  have HR0 := Lib.hid (hR.alloc (.cells #[] 3))
  have HB := Lib.hid hb
  have HAL := Lib.hid hab
  have HAB := Lib.hid (show 0 < n → ∀ b o, a = some ⟨b, o, none⟩ → b ≠ r from fun h0 b o e => (hab h0 b o e).2)
  have HU0 := Lib.hid ((ButR.refl r w.heap.size w).alloc (Nat.le_refl _) (.cells #[] 3))
  have O0 := Lib.hid (show (w.alloc (.cells #[] 3)).ownsRow w.heap.size 3 1 (.slice (some ⟨w.heap.size, 0, none⟩) 0 0) 0 (cellsL 0 (fun _ => 0)) from World.ownsRow_made w #[] 0 (Nat.le_refl _) (Nat.zero_le _) (by simp))
  clear hR hb hab
  go_enter Try.func46, Try.ntmps46
  go_wp2_with fail
  refine (pick_any r n c p 5 a B _ HR0.out (HB.out.but HAL.out HU0.out) HAB.out hn (by omega) (by omega) (by omega)).mono ?_
  rintro e w1 ⟨x, rfl, hx, hR1, hK1⟩
  have HR1 := Lib.hid hR1
  have HU1 := Lib.hid (HU0.out.trans (ButR.keeps hK1))
  have O1 := Lib.hid (owns_but O0.out hrl hK1)
  have S1 := Lib.hid (show w1.heap.size = w.heap.size + 1 from by rw [hK1.size]; simp)
  obtain ⟨l, hl⟩ : ∃ l, l = 1 + x := ⟨_, rfl⟩
  have hl1 : 1 ≤ l := by omega
  have hl5 : l ≤ 5 := by omega
  have hlx : IntKind.i64.wrap ((1 : Int) + (x : Int)) = (l : Int) := by rw [IntWalk.i64_in _ (by omega)]; omega
  clear hR1 hK1 hl HR0 HU0 O0
  go_wp2
  clear hlx
  go_loopw [5, 7] (fun o s wr => ∃ (i : Nat) (v : Value) (Y : Nat → Int) (pi : Nat), i ≤ q ∧ s = .int .i64 i ∧ v = o ∧ wr.ownsRow w.heap.size 3 1 v i (cellsL i Y) ∧ RdrAt wr r a n c pi ∧ pi ≤ p + 1 + i ∧ ButR r w.heap.size w wr) (fun _ s _ => q - (intOf s).toNat)
  case atStart => exact ⟨0, _, _, p + 1, Nat.zero_le _, rfl, rfl, O1.out, HR1.out, by omega, HU1.out⟩
  case round =>
    obtain ⟨i, v, Y, pi, hik, rfl, rfl, hO, hRi, hpi, hU⟩ := hrel
    have HO := Lib.hid hO
    have HRi := Lib.hid hRi
    have HU := Lib.hid hU
    have hsz := hU.size
    clear hO hRi hU O1 HR1 HU1
    by_cases hlt : i < q
    · obtain ⟨M, hM⟩ : ∃ M, M = 21 - l := ⟨_, rfl⟩
      have hMw : IntKind.i64.wrap ((21 : Int) - (l : Int)) = (M : Int) := by rw [IntWalk.i64_in _ (by omega)]; omega
      have hMv : wrap64 ((21 : Int) - (l : Int)) = (M : Int) := by rw [IntWalk.wrap64_in _ (by omega)]; omega
      have hMm : IntKind.i64.wrap (M : Int) = (M : Int) := IntWalk.i64_in _ (by omega)
      have hlM : l + M ≤ 21 := by omega
      have hM1 : 1 ≤ M := by omega
      clear hM
      go_wp2_with (first
        | (go_at_call 47; refine (pick_any r n c pi M a B _ HRi.out (HB.out.but HAL.out HU.out) HAB.out hn (by omega) (by omega) (by omega)).mono ?_; rintro e w6 ⟨z, rfl, hz, hR6, hK6⟩; have HR6 := Lib.hid hR6; have HU6 := Lib.hid (HU.out.trans (ButR.keeps hK6)); have HO6 := Lib.hid (owns_but HO.out hrl hK6); have S6 := Lib.hid hK6.size; clear hR6 hK6)
        | (at_builtin; refine wpList_append_gen _ (by rfl) (.tmp 17) (.tmp 24) 23 (by rfl) w.heap.size 3 i0 (.int .i64 0) 8 Try.underlying23 hi hz0 hz1 hz2 (by rfl) v i _ (by rfl) (HO6.out.alloc _) ⟨_, 0, none⟩ 1 1 [.int .i64 ((l : Int) + (z : Int))] (by rfl) (by rfl) (news_one (by simp)) (by simp [Value.oneCell']) (by unfold maxLen; omega) (by omega) (by have := S6.out; simp; omega) ?_; intro v7 w7 hown7 hgrow7 hat7; have O7 := Lib.hid hown7; have G7 := Lib.hid hgrow7; clear hown7 hgrow7 hat7))
      go_roundw
      case rel =>
        have hs6 := S6.out
        have h7 := O7.out
        rw [cellsL_snoc] at h7
        exact ⟨i + 1, v7, _, pi + 1, by omega, by go_num, rfl, h7, (HR6.out.alloc _).grown G7.out (fun e => by have := (HO6.out.lt r e).1; omega), by omega, (HU6.out.alloc (by omega) _).grown G7.out (by simp; omega) (fun x hx => (HO6.out.lt x hx).1)⟩
      case measure => simp [intOf]; omega
    · obtain rfl : i = q := by omega
      obtain ⟨g, d, rfl⟩ := owns_form HO.out (by omega)
      have hgl := HO.out.lt g rfl
      have hcap := (owns_cap HO.out).1
      go_wp2_with fail
      refine (pick_any r n c pi 40 a B _ HRi.out (HB.out.but HAL.out HU.out) HAB.out hn (by omega) (by omega) (by omega)).mono ?_
      rintro e w7 ⟨x7, rfl, hx7, hR7, hK7⟩
      have HR7 := Lib.hid hR7
      have HU7 := Lib.hid (HU.out.trans (ButR.keeps hK7))
      have O7 := Lib.hid (owns_but HO.out hrl hK7)
      have S7 := Lib.hid hK7.size
      clear hR7 hK7
      by_cases hx0 : x7 = 0
      · have d1 : ((x7 : Int) == 0) = true := by simp [hx0]
        have HX0 := Lib.hid hx0
        clear hx0
        go_wp2_with fail
        refine (pick_any r n c (pi + 1) 2 a B _ HR7.out (HB.out.but HAL.out HU7.out) HAB.out hn (by omega) (by omega) (by omega)).mono ?_
        rintro e w8 ⟨x8, rfl, hx8, hR8, hK8⟩
        have HR8 := Lib.hid hR8
        have HU8 := Lib.hid (HU7.out.trans (ButR.keeps hK8))
        have O8 := Lib.hid (OwnR.of_owns (owns_but O7.out hrl hK8))
        have S8 := Lib.hid hK8.size
        clear hR8 hK8
        obtain ⟨hck, hfk⟩ := O8.out.at (show 0 < i by omega)
        have hi0 : 0 < i := by omega
        go_wp2
        go_ret
        refine ⟨g, d, _, pi + 1 + 1, rfl, ⟨hgl.1, by have := S7.out; have := S8.out; simp [World.setCell]; omega, hcap⟩, (O8.out.set hi0 _).rd, ?_, by omega, HU8.out.setCell hgl.1 _⟩
        exact HR8.out.of_block (Below.heap_setCell _ _ _ _ (by show r ≠ g; have := hgl.1; omega))
      · have d1 : ((x7 : Int) == 0) = false := by simp; omega
        have HX0 := Lib.hid hx0
        clear hx0
        go_wp2
        go_ret
        exact ⟨g, d, Y, pi + 1, rfl, ⟨hgl.1, by have := S7.out; omega, hcap⟩, owns_rd O7.out, HR7.out, by omega, HU7.out⟩

/-- What a draw of odds hands back: a row of one to seven numbers. -/
def DrewO (w : World) (e : Ending) (w' : World) : Prop :=
  ∃ (g q d : Nat) (X : Nat → Int), e = .returned (.slice (some ⟨g, 0, none⟩) q d) ∧ (1 ≤ q ∧ q ≤ 7 ∧ q ≤ d) ∧ Rd w' (some ⟨g, 0, none⟩) q X ∧ Below w.heap.size w w'
/-- What a draw of two such rows hands back. -/
def DrewOO (w : World) (e : Ending) (w' : World) : Prop :=
  ∃ (g q d : Nat) (X : Nat → Int) (ab : Option Addr) (q' d' : Nat) (Y : Nat → Int), e = .returned (.tuple #[.slice (some ⟨g, 0, none⟩) q d, .slice ab q' d']) ∧ (1 ≤ q ∧ q ≤ 7 ∧ q ≤ d) ∧ q' ≤ 7 ∧ Rd w' (some ⟨g, 0, none⟩) q X ∧ Rd w' ab q' Y ∧ Below w.heap.size w w'
end Go.Proofs.Ytimkgplabbcklaa
