/- The program's OddsSum. -/
import Derived.Test.YtamgckmkebpgjaaReadOdds
import Derived.Test.YtamgckmkebpgjaaFraction
namespace Go.Proofs.Ytamgckmkebpgjaa
set_option linter.unusedVariables false
set_option linter.unusedSimpArgs false
open Go.RowKit

set_option maxRecDepth 100000 in
set_option maxHeartbeats 1600000 in
theorem oddsSum_all (m c : Nat) (a : Option Addr) (X : Nat → Int) (w : World) (hm0 : m ≤ 1048576) (hb0 : Rd w a m X) :
    Calls Try.prog 21 #[.slice a m c] w fun e w' => e = .returned (.tuple #[.int .i64 (sumTop m X), .int .i64 (sumBot m X), .bool (tt (IsOdds m X))]) ∧ Below w.heap.size w w' := by
  have H := Lib.hid (readOdds_any m c a X w hm0 hb0)
  by_cases h : IsOdds m X
  · have T1 := Lib.hid (tt_of h)
    have HS := Lib.hid (sum_any m c a X w (by have := h.1; omega) hb0 h.2)
    have HF := fun W b (hc : CountAt W b X m) => fraction_any b m X W (by have := h.1; omega) h.1.2 h.2 hc
    rw [sumTop_yes h, sumBot_yes h, T1.out]
    obtain ⟨t, ht⟩ : ∃ t, t = topN (pieceS X m) := ⟨_, rfl⟩
    obtain ⟨l, hl⟩ : ∃ l, l = botN (pieceS X m) := ⟨_, rfl⟩
    rw [← ht, ← hl] at HF ⊢
    have HF := Lib.hid HF
    clear ht hl h hb0
    go_enter Try.func21, Try.ntmps21
    go_wp2_with (first
      | (go_at_call 42; refine H.out.mono ?_; rintro e w' ⟨rfl, rfl⟩; rw [T1.out, show ∀ a : Option Addr, oddsV true a m c = .slice a m c from fun _ => rfl])
      | (go_at_call 46; refine HS.out.mono ?_; rintro e w2 ⟨b, rfl, hc, hb⟩; have C2 := Lib.hid hc; have B2 := Lib.hid hb; clear hc hb)
      | (go_at_call 47; refine (HF.out _ _ C2.out).mono ?_; rintro e w3 ⟨rfl, hb⟩; have B3 := Lib.hid (B2.out.trans (hb.mono B2.out.size)); clear hb))
    go_ret3
    exact ⟨rfl, B3.out⟩
  · have T1 := Lib.hid (tt_no h)
    rw [sumTop_no h, sumBot_no h, T1.out]
    clear h hb0
    go_enter Try.func21, Try.ntmps21
    go_wp2_with (go_at_call 42; refine H.out.mono ?_; rintro e w' ⟨rfl, rfl⟩; rw [T1.out, show ∀ a : Option Addr, oddsV false a m c = .slice none 0 0 from fun _ => rfl])
    go_ret3
    exact ⟨rfl, Below.refl _ _⟩
theorem oddsSum_any (m c : Nat) (a : Option Addr) (X : Nat → Int) (w : World) (hm0 : m ≤ 1048576) (hmd0 : m ≤ c) (hb0 : Rd w a m X) :
    Calls Try.prog 21 #[.slice a m c] w fun e w' => e = .returned (.tuple #[.int .i64 (sumTop m X), .int .i64 (sumBot m X), .bool (tt (IsOdds m X))]) ∧ Below w.heap.size w w' := oddsSum_all m c a X w hm0 hb0
end Go.Proofs.Ytamgckmkebpgjaa
