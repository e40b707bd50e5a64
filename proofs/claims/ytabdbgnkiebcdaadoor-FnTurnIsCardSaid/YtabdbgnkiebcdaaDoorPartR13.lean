/- Texts joined: ProofTurnIs. -/
import Derived.Test.YtabdbgnkiebcdaaDoorPartR12
namespace Go.Proofs.YtabdbgnkiebcdaaDoor
set_option linter.unusedVariables false
set_option linter.unusedSimpArgs false
open Go.RowKit

set_option maxRecDepth 100000 in
set_option maxHeartbeats 3200000 in
theorem proofTurnIs_any (n c : Nat) (a : Option Addr) (A : Nat → Option Addr) (L C : Nat → Nat) (Z : Nat → Nat → Int) (m d : Nat) (b : Option Addr) (G : Nat → Int) (t : ByteArray) (w : World) (hT : PowAt w) (hE : NumErrAt w) (hn0 : n ≤ 1048576) (hL0 : ∀ r, r < n → L r ≤ 1048576) (ha0 : Tab w a n A L C Z) (hm1 : m ≤ 1048576) (hb1 : Rd w b m G) (ht : t.size ≤ 1048576) :
    Calls Tryd.prog 25 #[.slice a n c, .slice b m d, .string t] w fun e w' => e = .returned (.bool (tt (PrO n L Z m G t))) ∧ Below w.heap.size w w' := by
  have H1 := Lib.hid (readGivenHouses_any n c a A L C Z m d b G w hn0 hL0 ha0 hm1 hb1)
  by_cases hg : GivenOk n L Z m G
  · have T1 := Lib.hid (tt_of hg)
    have hmn := hg.2.1
    subst hmn
    have hn2 := hg.1.1.1
    have hn5 := hg.1.1.2
    have PB := Lib.hid (fun (w1 : World) (h : Below w.heap.size w w1) => isProof_any 61 103 (.agg #[.slice a m c, .slice b m d]) turnsB (TurnQ m Z G) t w1 rfl (enters_of Tryd.func61 (by kernel_rfl) rfl) (enters_of Tryd.func103 (by kernel_rfl) rfl) (makesTurns _ _ rfl rfl w1) (showsTurn m c a A L C Z d b G w1 hg (ha0.below (Nat.le_refl _) h) (hb1.below (Nat.le_refl _) h)) turnsB_ok (by decide) (fun D h => turn_few (by omega) hn5 h) ht (hE.below (Nat.le_refl _) h) (hT.below (Nat.le_refl _) h))
    have E := Lib.hid (show tt (ProofP turnsB (TurnQ m Z G) t) = tt (PrO m L Z m G t) from tt_congr ⟨fun h => ⟨hg, h⟩, fun h => h.2⟩)
    clear hg ha0 hb1 hT hE
    go_enter Tryd.func25, Tryd.ntmps25
    go_wp2_with (first
      | (go_at_call 55; refine H1.out.mono ?_; rw [T1.out]; rintro e w0 ⟨rfl, hb0⟩; have B0 := Lib.hid (below_alloc hb0 (.cells #[.slice a m c, .slice b m d] 71)); clear hb0)
      | (go_at_call 51; refine (PB.out _ B0.out).mono ?_; rintro e w1 ⟨rfl, hb1⟩; rw [E.out]; have B1 := Lib.hid (below_chain B0.out hb1); clear hb1))
    go_ret
    exact ⟨rfl, B1.out⟩
  · have T1 := Lib.hid (tt_no hg)
    have E := Lib.hid (tt_no (show ¬ PrO n L Z m G t from fun h => hg h.1))
    clear hg ha0 hb1 hT hE
    go_enter Tryd.func25, Tryd.ntmps25
    go_wp2_with (go_at_call 55; refine H1.out.mono ?_; rw [T1.out]; rintro e w0 ⟨rfl, hb0⟩; have B0 := Lib.hid hb0; clear hb0)
    go_ret
    exact ⟨by rw [E.out]; rfl, below_alloc B0.out _⟩
end Go.Proofs.YtabdbgnkiebcdaaDoor
