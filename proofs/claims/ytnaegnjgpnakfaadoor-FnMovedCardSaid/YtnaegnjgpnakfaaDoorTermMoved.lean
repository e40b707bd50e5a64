/- The program's TermMoved. -/
import Derived.Test.YtnaegnjgpnakfaaDoorSpecMoved
import Derived.Test.YtnaegnjgpnakfaaDoorTradeCircs
import Derived.Test.YtnaegnjgpnakfaaDoorGiveP
namespace Go.Proofs.YtnaegnjgpnakfaaDoor
set_option linter.unusedVariables false
set_option linter.unusedSimpArgs false
open Go.RowKit

theorem circsI_len {n : Nat} {G : Nat → Int} (h2 : 2 ≤ n) (h5 : n ≤ 5) (hG : IsDiff n n G) : (circsI n (givD n G)).length = (cycS n (givD n G)).length := by
  unfold circsI
  rw [List.length_map, (chk_facts (chk_all h2 h5 hG)).same]

set_option maxHeartbeats 1600000 in
theorem termMoved_any (n : Int) (s : ByteArray) (w : World) (hE : ErrAt w) (hx0 : I64 n) : Calls Tryd.prog 28 #[.int .i64 n, .string s] w fun e w' => e = .returned (.tuple #[.int .i64 (movedA n s : Nat), .int .i64 (cyclesA n s : Nat), .bool (termB n s)]) ∧ Below w.heap.size w w' := by
  have H := Lib.hid (readTrade_any n s w hE hx0)
  clear hx0 hE
  cases ho : termN n s with
  | none =>
    have E := Lib.hid (term_none ho)
    have E2 := Lib.hid (moved_none ho)
    rw [E.out.1, E.out.2] at H
    clear ho
    go_enter Tryd.func28, Tryd.ntmps28
    go_wp2_with (go_at_call 41; refine H.out.mono ?_; rintro e w1 ⟨a, c, rfl, ho, hb⟩; have X := Lib.hid hb; clear ho hb)
    go_ret3
    rw [E2.out.1, E2.out.2, E.out.1]
    exact ⟨rfl, X.out⟩
  | some t =>
    have E := Lib.hid (term_some ho)
    have E2 := Lib.hid (moved_some ho)
    obtain ⟨N, rfl, hN, hP⟩ := trade_perm ho
    have HP := Lib.hid (And.intro hN hP)
    rw [E.out.1, E.out.2.1, E.out.2.2, Int.toNat_natCast] at H
    rw [Int.toNat_natCast] at E2
    obtain ⟨G, hG⟩ : ∃ G, G = giv N t := ⟨_, rfl⟩
    rw [← hG] at H HP E2
    rw [← circsI_len HP.out.1.1 HP.out.1.2 HP.out.2] at E2
    have HN5 : N ≤ 1048576 := by have := hN.2; omega
    have HN2 := hN.2
    clear ho hP hN hG
    go_enter Tryd.func28, Tryd.ntmps28
    go_wp2_with (first
      | (go_at_call 41; refine H.out.mono ?_; rintro e w1 ⟨a, c, rfl, ho, hb⟩; have X := Lib.hid (And.intro ho.rd hb); clear ho hb)
      | (go_at_call 46; refine (takers_any N c a G w1 (by omega) X.out.1).mono ?_; rintro e w2 ⟨rfl, rfl⟩)
      | (go_at_call 50; refine (tradeCircles_any N c a G _ HP.out.1.1 HP.out.1.2 HP.out.2 X.out.1).mono ?_; rintro e w3 ⟨rv, rg, rcp, rfl, hown, hb3⟩; obtain ⟨ra, rc, rfl⟩ := slice_of hown.1; have V := Lib.hid hb3; clear hown hb3))
    go_ret3
    rw [E2.out.1, E2.out.2, E.out.1]
    exact ⟨rfl, below_chain X.out.2 V.out⟩
end Go.Proofs.YtnaegnjgpnakfaaDoor
