/- The model's l92One: drawn wants. -/
import Derived.Test.YtamglhpgdaoaoaaDrawKit
import Derived.Test.YtamglhpgdaoaoaaReadWants
namespace Go.Proofs.Ytamglhpgdaoaoaa
set_option linter.unusedVariables false
set_option linter.unusedSimpArgs false
open Go.RowKit

/-- What l92Wants hands back: two to six numbers of its own, the reader gone on. -/
def DrewWants (r : Nat) (a : Option Addr) (n c p : Nat) (w : World) (e : Ending) (w' : World) : Prop :=
  ∃ g m cap X p', e = .returned (.slice (some ⟨g, 0, none⟩) m cap) ∧ (2 ≤ m ∧ m ≤ 6) ∧ (w.heap.size ≤ g ∧ g < w'.heap.size ∧ m ≤ cap) ∧ Rd w' (some ⟨g, 0, none⟩) m X ∧ RdrAt w' r a n c p' ∧ p' ≤ p + 30 ∧ ButR r w.heap.size w w'

theorem owns_formW {w : World} {B tI n : Nat} {v : Value} {xs : List Value} (h : w.ownsRow B tI 1 v n xs) (hn : 0 < n) : ∃ g cap, v = .slice (some ⟨g, 0, none⟩) n cap := by
  obtain ⟨_, (⟨_, h0⟩ | ⟨g, cap, cur, h1, _⟩)⟩ := h
  · omega
  · exact ⟨g, cap, h1⟩
theorem owns_baseW {w : World} {B tI g n cap : Nat} {xs : List Value} (h : w.ownsRow B tI 1 (.slice (some ⟨g, 0, none⟩) n cap) n xs) : B ≤ g ∧ g < w.heap.size ∧ n ≤ cap := by
  obtain ⟨_, (⟨h1, _⟩ | ⟨g', cap', cur, h1, h2, h3, h4, _⟩)⟩ := h
  · cases h1
  · cases h1
    exact ⟨h2, (Array.getElem?_eq_some_iff.1 h3).1, h4⟩
set_option maxRecDepth 100000 in
set_option maxHeartbeats 6400000 in
theorem l92Wants_any (r n c p q : Nat) (a : Option Addr) (B : Nat → Nat) (w : World) (hR : RdrAt w r a n c p) (hb : RdB w a n B) (hab : 0 < n → ∀ b o, a = some ⟨b, o, none⟩ → b < w.heap.size ∧ b ≠ r) (hn : n ≤ 2000) (hp : p ≤ 1000) (hq2 : 2 ≤ q) (hq6 : q ≤ 6) :
    Calls Try.prog 49 #[.pointer (some ⟨r, 0, none⟩), .int .i64 (q : Nat)] w (DrewWants r a n c p w) := by
  obtain ⟨i0, hi, hz0, hz1, hz2⟩ := info_parts Try.infoInt
  have hrl := hR.lt
  have HRd := Lib.hid hR
  have HB := Lib.hid hb
  have HAB := Lib.hid hab
  have hq1 : IntKind.i64.wrap ((q : Int) - 1) = ((q - 1 : Nat) : Int) := by rw [IntWalk.i64_in _ (by omega)]; omega
  have hq12 : (q : Int) - 1 = ((q - 1 : Nat) : Int) := by omega
  have HPK := Lib.hid (fun (w' : World) (h1 : RdrAt w' r a n c p) (h2 : RdB w' a n B) => (show Calls Try.prog 50 #[.pointer (some ⟨r, 0, none⟩), .int .i64 ((q : Int) - 1)] w' (Picked r a n c p (q - 1) w') from by rw [hq12]; exact pick_any r n c p (q - 1) a B w' h1 h2 (fun h0 b o e => (HAB.out h0 b o e).2) hn (by omega) (by omega) (by omega)))
  clear hR hb hab hq1 hq12
  go_enter Try.func49, Try.ntmps49
  go_wp2_with fail
  refine (HPK.out _ HRd.out HB.out).mono ?_
  rintro e w1 ⟨x0, rfl, hx0, hR1, hK1⟩
  have hs1 : w1.heap.size = w.heap.size := hK1.size
  have U1 := Lib.hid (show ButR r w.heap.size w w1 from ButR.keeps hK1)
  have R1 := Lib.hid hR1
  have HS1 := Lib.hid hs1
  have hx04 : x0 ≤ 4 := by omega
  clear hR1 hK1 hs1 hx0
  go_wp2_with fail
  obtain ⟨m, hm⟩ : ∃ m, m = 2 + x0 := ⟨_, rfl⟩
  have hm2 : 2 ≤ m := by omega
  have hm6 : m ≤ 6 := by omega
  rw [show (2 : Int) + (x0 : Int) = (m : Int) by omega]
  clear hm hx04
  obtain ⟨w2, hw2⟩ : ∃ w2, w2 = w1.alloc (.cells #[] 3) := ⟨_, rfl⟩
  rw [← hw2]
  have hs2 : w2.heap.size = w.heap.size + 1 := by rw [hw2, World.size_alloc, HS1.out]
  have R2 := Lib.hid (show RdrAt w2 r a n c (p + 1) by rw [hw2]; exact R1.out.alloc _)
  have U2 := Lib.hid (show ButR r w.heap.size w w2 by rw [hw2]; exact U1.out.alloc (by rw [HS1.out]; exact Nat.le_refl _) _)
  have O2 := Lib.hid (show w2.ownsRow w.heap.size 3 1 (.slice (some ⟨w1.heap.size, 0, none⟩) 0 0) 0 (cellsL 0 (fun _ => 0)) by rw [hw2]; exact World.ownsRow_made w1 #[] 0 (by rw [HS1.out]; exact Nat.le_refl _) (Nat.zero_le _) (by simp))
  have HS2 := Lib.hid hs2
  have g1eq : w1.heap.size = w.heap.size := HS1.out
  have HG1 := Lib.hid g1eq
  clear hw2 hs2 g1eq
  refine (pick_any r n c (p + 1) 2 a B w2 R2.out (HB.out.but HAB.out U2.out) (fun h0 b o e => (HAB.out h0 b o e).2) hn (by omega) (by omega) (by omega)).mono ?_
  rintro e w3 ⟨x1, rfl, hx1, hR3, hK3⟩
  have R3 := Lib.hid hR3
  have U3 := Lib.hid (U2.out.trans (ButR.keeps hK3))
  have O3 := Lib.hid (owns_but O2.out (show r < w.heap.size from hrl) hK3)
  have HS3 := Lib.hid (show w3.heap.size = w.heap.size + 1 by rw [hK3.size, HS2.out])
  obtain ⟨gs, hgs⟩ : ∃ gs, gs = w1.heap.size := ⟨_, rfl⟩
  rw [← hgs] at O3
  have hx12 : x1 ≤ 1 := by omega
  clear hR3 hK3 hx1
  go_wp2_with fail
  rw [← hgs]
  clear hgs
  obtain ⟨th, hth⟩ : ∃ th, th = 1 + x1 := ⟨_, rfl⟩
  have hth2 : th ≤ 2 := by omega
  rw [show (1 : Int) + (x1 : Int) = (th : Int) by omega]
  clear hth hx12
  go_loopw [6, 8, 9, 10] (fun row s _ _ wi => ∃ k : Nat, k ≤ m ∧ s = .int .i64 k ∧ ∃ rv X p', rv = row ∧ wi.ownsRow w.heap.size 3 1 rv k (cellsL k X) ∧ RdrAt wi r a n c p' ∧ p' ≤ p + 2 + 3 * k ∧ ButR r w.heap.size w wi) (fun _ s _ _ _ => m - (intOf s).toNat)
  case atStart => exact ⟨0, Nat.zero_le _, rfl, _, fun _ => 0, p + 1 + 1, rfl, O3.out, R3.out, by omega, U3.out⟩
  case round =>
    obtain ⟨k, hk, rfl, rv, X, p', rfl, hown, hR, hp', hBu⟩ := hrel
    obtain ⟨wo, rfl⟩ : ∃ wo, wo = wr := ⟨_, rfl⟩
    clear O3 R3 U3
    have hsz := hBu.size
    by_cases hlt : k < m
    · have HO := Lib.hid hown
      have HR := Lib.hid hR
      have HU := Lib.hid hBu
      clear hown hR hBu
      go_wp2_with fail
      go_loopw [9, 10] (fun st t wi => ∃ (j S p2 : Nat), j ≤ th ∧ t = .int .i64 j ∧ st = .int .i64 S ∧ S < 2 ^ m ∧ wi.ownsRow w.heap.size 3 1 rv k (cellsL k X) ∧ RdrAt wi r a n c p2 ∧ p2 ≤ p' + j ∧ ButR r w.heap.size w wi ∧ wo.heap.size ≤ wi.heap.size) (fun _ t _ => th - (intOf t).toNat)
      case atStart => exact ⟨0, 0, p', Nat.zero_le _, rfl, rfl, Nat.two_pow_pos m, HO.out, HR.out, by omega, HU.out, Nat.le_refl _⟩
      case round =>
        obtain ⟨j, S, p2, hj', rfl, rfl, hS, hown, hR, hp2, hBu, hso⟩ := hrel
        clear HO HR HU
        have HO := Lib.hid hown
        have HR := Lib.hid hR
        have HU := Lib.hid hBu
        have HSS := Lib.hid hS
        have hp6 : 2 ^ m ≤ 2 ^ 6 := Nat.pow_le_pow_right (by omega) hm6
        have hS64 : S < 64 := by omega
        have hszr := hBu.size
        clear hown hR hBu hS hp6
        by_cases hjl : j < th
        · have hq12 : (m : Int) - 1 = ((m - 1 : Nat) : Int) := by omega
          have HPM := Lib.hid (show Calls Try.prog 50 #[.pointer (some ⟨r, 0, none⟩), .int .i64 ((m : Int) - 1)] wr (Picked r a n c p2 (m - 1) wr) from by rw [hq12]; exact pick_any r n c p2 (m - 1) a B wr HR.out (HB.out.but HAB.out HU.out) (fun h0 b o e => (HAB.out h0 b o e).2) hn (by omega) (by omega) (by omega))
          clear hq12
          go_wp2_with fail
          refine HPM.out.mono ?_
          rintro e w5 ⟨x, rfl, hx, hR5, hK5⟩
          have R5 := Lib.hid hR5
          have O5 := Lib.hid (owns_but HO.out hrl hK5)
          have U5 := Lib.hid (HU.out.trans (ButR.keeps hK5))
          have HS5 := Lib.hid (Nat.le_of_eq hK5.size.symm)
          clear hR5 hK5
          obtain ⟨y, hy⟩ : ∃ y, y = (k + 1 + x) % m := ⟨_, rfl⟩
          have hym : y < m := by rw [hy]; exact Nat.mod_lt _ (by omega)
          have htm : ((k : Int) + 1 + (x : Int)).tmod (m : Int) = (y : Int) := by rw [Int.tmod_eq_emod_of_nonneg (by omega), hy, Int.natCast_emod]; rfl
          have hput := bit_put S y (by omega) (by omega)
          obtain ⟨S', hS'⟩ : ∃ S', S' = S ||| 2 ^ y := ⟨_, rfl⟩
          rw [← hS'] at hput
          have HS' := Lib.hid (show S' < 2 ^ m by rw [hS']; exact bit_put_lt HSS.out hym)
          have e64 : min y 64 = y := by omega
          have hz : ((m : Int) == 0) = false := by simp; omega
          have hz2 : ¬ (m : Int) = 0 := by omega
          have hz3 : ¬ m = 0 := by omega
          have hny : (0 : Int) ≤ (y : Int) := by omega
          clear hy hS'
          go_wp2_with fail
          go_roundw
          case rel => exact ⟨j + 1, S', p2 + 1, by omega, by go_num, rfl, HS'.out, O5.out, R5.out, by omega, U5.out, Nat.le_trans hso HS5.out⟩
          case measure => simp [intOf]; omega
        · obtain rfl : j = th := by omega
          go_wp2_with fail
          refine (pick_any r n c p2 8 a B wr HR.out (HB.out.but HAB.out HU.out) (fun h0 b o e => (HAB.out h0 b o e).2) hn (by omega) (by omega) (by omega)).mono ?_
          rintro e w5 ⟨x, rfl, hx, hR5, hK5⟩
          have R5 := Lib.hid hR5
          have O5 := Lib.hid (owns_but HO.out hrl hK5)
          have U5 := Lib.hid (HU.out.trans (ButR.keeps hK5))
          clear hR5 hK5
          by_cases h0 : x = 0
          · subst h0
            have hd : (((0 : Nat) : Int) == 0) = true := by decide
            have tk : True := trivial
            go_wp2_with (at_builtin; refine wpList_append_lies _ (by rfl) (.tmp 45) (.tmp 47) 23 (by rfl) w.heap.size 3 i0 (.int .i64 0) 1 8 Try.underlying23 hi hz0 hz1 hz2 (by rfl) (by decide) rv k (cellsL k X) (by rfl) (O5.out.alloc _) ⟨_, 0, none⟩ 1 1 [.int .i64 0] (by rfl) (by rfl) (news_one (by simp)) (by simp [Value.oneCell']) (by omega) (by unfold maxLen; omega) (by omega) (by have := U5.out.size; simp; omega) _ rfl ?_; intro g2 cap2 w6 hown6 hgrow6 hat6 hlt6; have N6 := Lib.hid hown6; have G6 := Lib.hid hgrow6; clear hown6 hgrow6 hat6)
            go_roundw
            case rel => exact ⟨k + 1, by omega, by go_num, _, _, p2 + 1, rfl, by have := N6.out; rwa [cellsL_snoc] at this, (R5.out.alloc _).grown G6.out (fun e => by have := (O5.out.lt r e).1; omega), by omega, (U5.out.alloc (by have := U5.out.size; omega) _).grown G6.out (by have := U5.out.size; simp; omega) (fun z hz => (O5.out.lt z hz).1)⟩
            case measure => simp [intOf]; omega
          · have hd : ((x : Int) == 0) = false := by simp; omega
            have tk : True := trivial
            clear h0
            go_wp2_with (at_builtin; refine wpList_append_lies _ (by rfl) (.tmp 45) (.tmp 47) 23 (by rfl) w.heap.size 3 i0 (.int .i64 0) 1 8 Try.underlying23 hi hz0 hz1 hz2 (by rfl) (by decide) rv k (cellsL k X) (by rfl) (O5.out.alloc _) ⟨_, 0, none⟩ 1 1 [.int .i64 S] (by rfl) (by rfl) (news_one (by simp)) (by simp [Value.oneCell']) (by omega) (by unfold maxLen; omega) (by omega) (by have := U5.out.size; simp; omega) _ rfl ?_; intro g2 cap2 w6 hown6 hgrow6 hat6 hlt6; have N6 := Lib.hid hown6; have G6 := Lib.hid hgrow6; clear hown6 hgrow6 hat6)
            go_roundw
            case rel => exact ⟨k + 1, by omega, by go_num, _, _, p2 + 1, rfl, by have := N6.out; rwa [cellsL_snoc] at this, (R5.out.alloc _).grown G6.out (fun e => by have := (O5.out.lt r e).1; omega), by omega, (U5.out.alloc (by have := U5.out.size; omega) _).grown G6.out (by have := U5.out.size; simp; omega) (fun z hz => (O5.out.lt z hz).1)⟩
            case measure => simp [intOf]; omega
    · obtain rfl : k = m := by omega
      obtain ⟨gr, cr, rfl⟩ := owns_formW hown (by omega)
      obtain ⟨q1, q2, q3⟩ := owns_baseW hown
      have HO := Lib.hid (OwnR.of_owns hown)
      have HR := Lib.hid hR
      have HU := Lib.hid hBu
      have hgr : r ≠ gr := by omega
      have HRD := Lib.hid (OwnR.of_owns hown).rd
      clear hown hR hBu
      go_wp2_with fail
      refine (pick_any r n c p' 50 a B wo HR.out (HB.out.but HAB.out HU.out) (fun h0 b o e => (HAB.out h0 b o e).2) hn (by omega) (by omega) (by omega)).mono ?_
      rintro e w5 ⟨x, rfl, hx, hR5, hK5⟩
      have R5 := Lib.hid hR5
      have O5 := Lib.hid (HO.out.of_block (hK5.block gr (by omega)))
      have U5 := Lib.hid (HU.out.trans (ButR.keeps hK5))
      have hs5 : gr < w5.heap.size := by rw [hK5.size]; exact q2
      have hi0 : 0 < k := by omega
      have hi0i : (0 : Int) < (k : Int) := by omega
      obtain ⟨hc0, hf0⟩ := O5.out.at hi0
      clear hR5 hK5
      by_cases h0 : x = 0
      · subst h0
        have hd : (((0 : Nat) : Int) == 0) = true := by decide
        go_wp2_with fail
        go_ret
        exact ⟨gr, k, cr, _, p' + 1, rfl, ⟨hm2, hm6⟩, ⟨q1, by simpa [World.setCell] using hs5, q3⟩, (O5.out.set hi0 1).rd, R5.out.of_block (Below.heap_setCell _ _ _ _ hgr), by omega, U5.out.setCell (p := ⟨gr, 0, none⟩) q1 _⟩
      · have hd : ((x : Int) == 0) = false := by simp; omega
        by_cases h1 : x = 1
        · subst h1
          have hd1 : (((1 : Nat) : Int) == 1) = true := by decide
          obtain ⟨Z, hZ⟩ : ∃ Z, Z = 2 ^ k := ⟨_, rfl⟩
          have hsh : wrap64 (2 ^ min k 64) = (Z : Int) := by rw [hZ, show min k 64 = k by omega]; exact wrap_pow (show k < 62 by omega)
          have hsh2 : wrap64 (2 ^ k) = (Z : Int) := by rw [hZ]; exact wrap_pow (show k < 62 by omega)
          clear hZ h0
          go_wp2_with fail
          go_ret
          exact ⟨gr, k, cr, _, p' + 1, rfl, ⟨hm2, hm6⟩, ⟨q1, by simpa [World.setCell] using hs5, q3⟩, (O5.out.set hi0 Z).rd, R5.out.of_block (Below.heap_setCell _ _ _ _ hgr), by omega, U5.out.setCell (p := ⟨gr, 0, none⟩) q1 _⟩
        · have hd1 : ((x : Int) == 1) = false := by simp; omega
          clear h0 h1 hc0 hf0
          go_wp2_with fail
          go_ret
          exact ⟨gr, k, cr, _, p' + 1, rfl, ⟨hm2, hm6⟩, ⟨q1, hs5, q3⟩, O5.out.rd, R5.out, by omega, U5.out⟩
end Go.Proofs.Ytamglhpgdaoaoaa
namespace Go.Proofs.Ytamglhpgdaoaoaa
set_option linter.unusedVariables false
set_option linter.unusedSimpArgs false
open Go.RowKit

/-- What a draw of wants hands back. -/
def DrewW (w : World) (e : Ending) (w' : World) : Prop :=
  ∃ g m cap X, e = .returned (.slice (some ⟨g, 0, none⟩) m cap) ∧ (2 ≤ m ∧ m ≤ 6 ∧ m ≤ cap) ∧ Rd w' (some ⟨g, 0, none⟩) m X ∧ Below w.heap.size w w'

set_option maxHeartbeats 800000 in
theorem l92One_any (n c : Nat) (a : Option Addr) (B : Nat → Nat) (w : World) (hn : n ≤ 1048576) (hc : n ≤ c) (hb : RdB w a n B) (hab : 0 < n → ∀ b o, a = some ⟨b, o, none⟩ → b < w.heap.size) :
    Calls Try.prog 44 #[.slice a n c] w (DrewW w) := by
  have HB := Lib.hid hb
  have HAL := Lib.hid hab
  clear hb hab
  go_enter Try.func44, Try.ntmps44
  go_wp2_with fail
  refine (l6Open_any n c a _ hn hc).mono ?_
  rintro e w1 ⟨n', c', rfl, hn2, hnn, hR1, hs1, hb1⟩
  have HB1 := Lib.hid ((HB.out.below (Nat.le_refl _) hb1).sub hnn)
  have HR1 := Lib.hid hR1
  have Hb1 := Lib.hid hb1
  have hlt1 : w.heap.size < w1.heap.size := by omega
  have HAL1 := Lib.hid (show 0 < n' → ∀ b o, a = some ⟨b, o, none⟩ → b < w1.heap.size ∧ b ≠ w.heap.size from fun h0 b o e => by have := HAL.out (by omega) b o e; exact ⟨by omega, by omega⟩)
  clear hR1 hb1 hs1
  go_wp2_with fail
  refine (l92Wants_any w.heap.size n' c' 0 6 a B _ HR1.out HB1.out HAL1.out hn2 (by omega) (by omega) (by omega)).mono ?_
  rintro e w2 ⟨g, m, cap, X, p2, rfl, ⟨hm1, hm2⟩, ⟨_, _, hm3⟩, hX, hR2, hp2, hU2⟩
  have HX := Lib.hid hX
  have HU := Lib.hid (Hb1.out.trans (hU2.toBelow (Nat.le_of_lt hlt1)))
  clear hX hR2 hU2
  go_wp2
  go_ret
  exact ⟨g, m, cap, X, rfl, ⟨hm1, hm2, hm3⟩, HX.out, HU.out⟩
end Go.Proofs.Ytamglhpgdaoaoaa
