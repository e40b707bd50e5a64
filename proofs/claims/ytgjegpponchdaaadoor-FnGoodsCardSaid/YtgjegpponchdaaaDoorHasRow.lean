/- The laws' hasRow. -/
import Derived.Test.YtgjegpponchdaaaDoorSameInts
namespace Go.Proofs.YtgjegpponchdaaaDoor
set_option linter.unusedVariables false
set_option linter.unusedSimpArgs false
open Go.RowKit

/-- One of the rows is this list. -/
def HasRowP (n m : Nat) (L : Nat → Nat) (X : Nat → Nat → Int) (Y : Nat → Int) : Prop := ∃ i, i < n ∧ SameB (L i) m (X i) Y

set_option maxHeartbeats 800000 in
theorem hasRow_any (n m ca cb : Nat) (a b : Option Addr) (A : Nat → Option Addr) (L C : Nat → Nat) (X : Nat → Nat → Int) (Y : Nat → Int) (w : World) (hn : n ≤ 9223372036854775807) (hm : m ≤ 9223372036854775807) (hL : ∀ r, r < n → L r ≤ 9223372036854775807) (ha : Tab w a n A L C X) (hb : Rd w b m Y) :
    Calls Tryd.prog 23 #[.slice a n ca, .slice b m cb] w fun e w' => e = .returned (.bool (tt (HasRowP n m L X Y))) ∧ ∃ q, w' = w.drewN q := by
  have HA := Lib.hid ha
  have HB := Lib.hid hb
  have HL := Lib.hid hL
  clear ha hb hL
  go_enter Tryd.func23, Tryd.ntmps23
  go_wp2
  go_loopw [5] (fun s wr => ∃ k : Nat, k ≤ n ∧ s = .int .i64 k ∧ (∃ q, wr = w.drewN q) ∧ ∀ j, j < k → ¬ SameB (L j) m (X j) Y) (fun s _ => n - (intOf s).toNat)
  case atStart => exact ⟨0, Nat.zero_le _, rfl, ⟨0, rfl⟩, fun j hj => absurd hj (Nat.not_lt_zero _)⟩
  case round =>
    obtain ⟨k, hk, rfl, ⟨q, hq⟩, hno⟩ := hrel
    have NO := Lib.hid hno
    have HQ := Lib.hid hq
    clear hno
    by_cases hlt : k < n
    · have HT := (HA.out.drewN q)
      rw [← hq] at HT
      obtain ⟨ba, oa, rfl, hca, hra⟩ := HT k hlt
      have hbr := HB.out.drewN q
      rw [← hq] at hbr
      have HC := Lib.hid (sameInts_any (L k) m (C k) cb (A k) b (X k) Y wr (HL.out k hlt) hm hra hbr)
      clear hra hbr hq HT
      by_cases hs : SameB (L k) m (X k) Y
      · have T1 := Lib.hid (tt_of hs)
        have HE := Lib.hid (tt_of (show HasRowP n m L X Y from ⟨k, hlt, hs⟩))
        clear hs
        go_wp2_with (go_at_call 31; refine HC.out.mono ?_; rintro e w2 ⟨rfl, q2, rfl⟩; rw [T1.out])
        go_ret
        exact ⟨by rw [HE.out]; rfl, q + q2, by rw [HQ.out]; simp [World.drewN, Nat.add_assoc]⟩
      · have T1 := Lib.hid (tt_no hs)
        have HN := Lib.hid hs
        clear hs
        go_wp2_with (go_at_call 31; refine HC.out.mono ?_; rintro e w2 ⟨rfl, q2, rfl⟩; rw [T1.out])
        go_roundw
        case rel => exact ⟨k + 1, by omega, by go_num, ⟨q + q2, by rw [HQ.out]; simp [World.drewN, Nat.add_assoc]⟩, fun j hj => by
          by_cases e : j = k
          · rw [e]; exact HN.out
          · exact NO.out j (by omega)⟩
        case measure => simp [intOf]; omega
    · obtain rfl : k = n := by omega
      have HE := Lib.hid (tt_no (show ¬ HasRowP k m L X Y from fun ⟨j, hj, h⟩ => NO.out j hj h))
      clear hq
      go_wp2
      go_ret
      exact ⟨by rw [HE.out]; rfl, q, HQ.out⟩
end Go.Proofs.YtgjegpponchdaaaDoor
