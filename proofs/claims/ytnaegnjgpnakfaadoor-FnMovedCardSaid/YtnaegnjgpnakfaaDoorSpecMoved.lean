/- How many a trade moves, and its circles; the model's TermMoved. -/
import Derived.Test.YtnaegnjgpnakfaaDoorTermGives
import Derived.Test.YtnaegnjgpnakfaaDoorSpecText
import Derived.Test.YtnaegnjgpnakfaaDoorTidyMore
import Derived.Test.YtnaegnjgpnakfaaDoorMovedS
import Derived.OwnWalk
namespace Go.Proofs.YtnaegnjgpnakfaaDoor
set_option linter.unusedVariables false
set_option linter.unusedSimpArgs false
open Go.RowKit

/-- How many people a term moves. -/
noncomputable def movedA (n : Int) (s : ByteArray) : Nat := match termN n s with
  | none => 0
  | some t => movedN (giv n.toNat t) n.toNat
/-- How many circles it has. -/
noncomputable def cyclesA (n : Int) (s : ByteArray) : Nat := match termN n s with
  | none => 0
  | some t => (cycS n.toNat (givD n.toNat (giv n.toNat t))).length
theorem moved_none {n : Int} {s : ByteArray} (h : termN n s = none) : movedA n s = 0 ∧ cyclesA n s = 0 := by
  refine ⟨?_, ?_⟩
  · unfold movedA; rw [h]
  · unfold cyclesA; rw [h]
theorem moved_some {n : Int} {s : ByteArray} {t : Tm} (h : termN n s = some t) : movedA n s = movedN (giv n.toNat t) n.toNat ∧ cyclesA n s = (cycS n.toNat (givD n.toNat (giv n.toNat t))).length := by
  refine ⟨?_, ?_⟩
  · unfold movedA; rw [h]
  · unfold cyclesA; rw [h]
theorem trade_perm {n : Int} {s : ByteArray} {t : Tm} (h : termN n s = some t) : ∃ N : Nat, n = N ∧ (2 ≤ N ∧ N ≤ 5) ∧ IsDiff N N (giv N t) := by
  have hs := termN_some h
  obtain ⟨N, hN⟩ := Int.eq_ofNat_of_zero_le (show 0 ≤ n by have := hs.1.1; omega)
  subst hN
  exact ⟨N, rfl, ⟨by have := hs.1.1; omega, by have := hs.1.2; omega⟩, giv_perm (termN_wf h) (by have := hs.2.2; omega)⟩
theorem strs_slice {w : World} {base e n : Nat} {v : Value} {xs : List Value} (h : w.ownsRow base e 1 v n xs) : ∃ a c, v = .slice a n c := by
  obtain ⟨_, (⟨h1, h0⟩ | ⟨g, cap, _, hv, _⟩)⟩ := h
  · exact ⟨none, 0, by rw [h1, h0]⟩
  · exact ⟨_, cap, hv⟩

set_option maxHeartbeats 1600000 in
theorem specTermMoved_any (n : Int) (s : ByteArray) (w : World) (hx0 : I64 n) : Calls Tryd.prog 27 #[.int .i64 n, .string s] w fun e w' => e = .returned (.tuple #[.int .i64 (movedA n s : Nat), .int .i64 (cyclesA n s : Nat), .bool (termB n s)]) ∧ Below w.heap.size w w' := by
  have H := Lib.hid (specTermGives_any n s w hx0)
  clear hx0
  cases ho : termN n s with
  | none =>
    have E := Lib.hid (term_none ho)
    have E2 := Lib.hid (moved_none ho)
    rw [E.out.1, E.out.2] at H
    clear ho
    go_enter Tryd.func27, Tryd.ntmps27
    go_wp2_with (go_at_call 16; refine H.out.mono ?_; rintro e w1 ⟨a, c, rfl, ho, hb⟩; have X := Lib.hid hb; clear ho hb)
    go_ret3
    rw [E2.out.1, E2.out.2, E.out.1]
    exact ⟨rfl, X.out⟩
  | some t =>
    have E := Lib.hid (term_some ho)
    have E2 := Lib.hid (moved_some ho)
    obtain ⟨N, rfl, hN, hP⟩ := trade_perm ho
    have HP := Lib.hid (And.intro hN hP)
    rw [E.out.1, E.out.2.1, E.out.2.2, Int.toNat_natCast] at H
    rw [Int.toNat_natCast] at E2
    obtain ⟨G, hG⟩ : ∃ G, G = giv N t := ⟨_, rfl⟩
    rw [← hG] at H HP E2
    have HN5 : N ≤ 1048576 := by have := hN.2; omega
    clear ho hP hN hG
    go_enter Tryd.func27, Tryd.ntmps27
    go_wp2_with (first
      | (go_at_call 16; refine H.out.mono ?_; rintro e w1 ⟨a, c, rfl, ho, hb⟩; have X := Lib.hid (And.intro ho.rd hb); clear ho hb)
      | (go_at_call 48; refine (l6wMoved_any N c a G w1 HN5 X.out.1).mono ?_; rintro e w2 ⟨rfl, rfl⟩)
      | (go_at_call 49; refine (l10Circles_any N c a G _ HP.out.1.1 HP.out.1.2 HP.out.2 X.out.1).mono ?_; rintro e w3 ⟨rv, rfl, hown, hb3⟩; rw [List.length_map] at hown; obtain ⟨ra, rc, rfl⟩ := strs_slice hown; have V := Lib.hid hb3; clear hown hb3))
    go_ret3
    rw [E2.out.1, E2.out.2, E.out.1]
    exact ⟨rfl, below_chain X.out.2 V.out⟩
end Go.Proofs.YtnaegnjgpnakfaaDoor
