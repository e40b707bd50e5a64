/- The program's BidDeals. -/
import Derived.Test.YtbmkgkiochhdmaaBidMost
namespace Go.Proofs.Ytbmkgkiochhdmaa
set_option linter.unusedVariables false
set_option linter.unusedSimpArgs false
open Go.RowKit

set_option maxHeartbeats 800000 in
theorem bidDealsN_any (n c : Nat) (a : Option Addr) (A : Nat → Option Addr) (L C : Nat → Nat) (Z : Nat → Nat → Int) (w : World) (hn0 : n ≤ 1048576) (hL0 : ∀ r, r < n → L r ≤ 1048576) (ha0 : Tab w a n A L C Z) :
    Calls Try.prog 21 #[.slice a n c] w fun e w' => e = .returned (.tuple #[.int .i64 (ifT (IsBids n L Z) ((bestsL n Z (dealsP (L 0) n)).length : Nat)), .bool (tt (IsBids n L Z))]) ∧ Below w.heap.size w w' := by
  have H := Lib.hid (readBids_any n c a A L C Z w hn0 hL0 ha0)
  by_cases h1 : IsBids n L Z
  · have T1 := Lib.hid (tt_of h1)
    have T2 := Lib.hid (ifT_yes (x := ((bestsL n Z (dealsP (L 0) n)).length : Nat)) h1)
    have HB := Lib.hid (best_any n c (L 0) a A L C Z w h1.1.1.1 h1.1.1.2 (by have := h1.1.2.2; omega) h1.rows h1.cells ha0 _ #[] (enters_of Try.func37 (by kernel_rfl) rfl) (fun _ => true) (fun W D aD cD _ _ _ => anyDeal_gives _ W) rfl)
    rw [show (dealsP (L 0) n).filter (fun _ => true) = dealsP (L 0) n from List.filter_eq_self.2 fun _ _ => rfl] at HB
    clear h1 ha0
    go_enter Try.func21, Try.ntmps21
    go_wp2_with (go_at_call 34; refine H.out.mono ?_; rintro e w' ⟨rfl, rfl⟩; rw [T1.out, show bidsV true a n c = .slice a n c from rfl])
    refine HB.out.mono ?_
    intro e w1 hret
    obtain ⟨g, cap, M, G, c2, rfl, hM0, hMe, hc, hG1, hG2, hown, hin, hb⟩ := hret.first (dealsP_none n)
    have BB := Lib.hid hb
    have QM := Lib.hid hMe
    clear hret hown hin hb hG1 hG2 HB hMe hc
    go_wp2
    go_ret2
    exact ⟨by rw [T1.out, T2.out, ← QM.out]; rfl, BB.out⟩
  · have T1 := Lib.hid (tt_no h1)
    have T2 := Lib.hid (ifT_no (x := ((bestsL n Z (dealsP (L 0) n)).length : Nat)) h1)
    clear h1 ha0
    go_enter Try.func21, Try.ntmps21
    go_wp2_with (go_at_call 34; refine H.out.mono ?_; rintro e w' ⟨rfl, rfl⟩; rw [T1.out, show bidsV false a n c = .slice none 0 0 from rfl])
    go_ret2
    exact ⟨by rw [T1.out, T2.out]; rfl, Below.refl _ _⟩
end Go.Proofs.Ytbmkgkiochhdmaa
