/- The model's BidIn. -/
import Derived.Test.YtaipodnhnekpjaaDealsWay
import Derived.Test.YtaipodnhnekpjaaL6In
import Derived.BigQuiet
namespace Go.Proofs.Ytaipodnhnekpjaa
set_option linter.unusedVariables false
set_option linter.unusedSimpArgs false
open Go.RowKit

set_option maxRecDepth 100000 in
set_option maxHeartbeats 1600000 in
theorem specBidIn_any (n c : Nat) (a : Option Addr) (A : Nat → Option Addr) (L C : Nat → Nat) (Z : Nat → Nat → Int) (w : World) (hn0 : n ≤ 1048576) (hL0 : ∀ r, r < n → L r ≤ 1048576) (ha0 : Tab w a n A L C Z) :
    Calls Try.prog 45 #[.slice a n c] w fun e w' => e = .returned (.bool (tt (IsBids n L Z))) ∧ Below w.heap.size w w' := by
  have HA := Lib.hid ha0
  clear ha0
  by_cases h1 : InR (n : Int) 1 4
  · have T1 := Lib.hid (tt_of h1)
    have hn1 : 0 < n := by have := h1.1; omega
    have hn4 : n ≤ 4 := by have := h1.2; omega
    clear h1
    obtain ⟨ba, oa, rfl, hc0, _⟩ := HA.out 0 hn1
    rw [Nat.add_zero] at hc0
    have HC0 := Lib.hid hc0
    obtain ⟨m, hm⟩ : ∃ m, m = L 0 := ⟨_, rfl⟩
    rw [← hm] at hc0 HC0
    have QM := Lib.hid hm
    clear hm
    by_cases h2 : InR (m : Int) 1 4
    · have T2 := Lib.hid (tt_of h2)
      have hm1 : 1 ≤ m := by have := h2.1; omega
      have hm4 : m ≤ 4 := by have := h2.2; omega
      clear h2
      go_enter Try.func45, Try.ntmps45
      go_wp2_with (first
        | (go_at_call 74; refine (l6In_any _ _ _ _).mono ?_; rintro e w' ⟨rfl, rfl⟩; rw [T1.out])
        | (go_at_call 74; refine (l6In_any _ _ _ _).mono ?_; rintro e w' ⟨rfl, rfl⟩; rw [T2.out]))
      clear hc0
      go_loopw [3] (fun i wr => ∃ k : Nat, k ≤ n ∧ i = .int .i64 k ∧ (∀ j, j < k → L j = m ∧ ∀ x, x < m → 0 ≤ Z j x ∧ Z j x ≤ 20) ∧ Below w.heap.size w wr) (fun i _ => n - (intOf i).toNat)
      case atStart => exact ⟨0, Nat.zero_le _, rfl, fun j hj => absurd hj (Nat.not_lt_zero _), Below.refl _ _⟩
      case round =>
        obtain ⟨k, hk, rfl, hall, hB⟩ := hrel
        have HAll := Lib.hid hall
        have HB := Lib.hid hB
        clear hall hB
        by_cases hlt : k < n
        · obtain ⟨bk, ok, hbk, hck0, hrk⟩ := HA.out k hlt
          obtain ⟨rfl, rfl⟩ : ba = bk ∧ oa = ok := by simpa using hbk
          clear hbk
          obtain ⟨l, hl⟩ : ∃ l, l = L k := ⟨_, rfl⟩
          rw [← hl] at hck0 hrk
          have QL := Lib.hid hl
          have hc0 := (HB.out.cell (p := ⟨ba, oa, none⟩) (World.block_lt_of_cell? _ _ HC0.out)).trans HC0.out
          have hck := (HB.out.cell (p := ⟨ba, oa + k, none⟩) (World.block_lt_of_cell? _ _ hck0)).trans hck0
          have HR := Lib.hid hrk
          have HCK := Lib.hid hck0
          have hkn : (k : Int) < (n : Int) := by omega
          clear hl hrk hck0
          by_cases he : l = m
          · have d1 : ((l : Int) != (m : Int)) = false := by simp [he]
            have QE := Lib.hid he
            clear he
            obtain ⟨wo, rfl⟩ : ∃ wo, wo = wr := ⟨_, rfl⟩
            go_wp2
            go_quiet (fail)
            have BQ := Lib.hid (below_drewN HB.out nq)
            clear hc0 hck
            obtain ⟨wq, hwq⟩ : ∃ wq, wq = wo.drewN nq := ⟨_, rfl⟩
            rw [← hwq] at BQ ⊢
            clear hwq
            go_wp2
            go_loopw [4] (fun i wx => ∃ x : Nat, x ≤ m ∧ i = .int .i64 x ∧ (∀ y, y < x → 0 ≤ Z k y ∧ Z k y ≤ 20) ∧ Below w.heap.size w wx) (fun i _ => m - (intOf i).toNat)
            case atStart => exact ⟨0, Nat.zero_le _, rfl, fun j hj => absurd hj (Nat.not_lt_zero _), BQ.out⟩
            case round =>
              obtain ⟨x, hx, rfl, hall, hB⟩ := hrel
              have HX := Lib.hid hall
              have BX := Lib.hid hB
              clear hall hB
              have hck := (BX.out.cell (p := ⟨ba, oa + k, none⟩) (World.block_lt_of_cell? _ _ HCK.out)).trans HCK.out
              by_cases hxl : x < m
              · obtain ⟨bx, ox, hax, hcx⟩ := (HR.out.below (Nat.le_refl _) BX.out) x (by have := QE.out; omega)
                rw [hax] at hck
                have hll : x < l := by have := QE.out; omega
                clear hax
                by_cases hin : InR (Z k x) 0 20
                · have T3 := Lib.hid (tt_of hin)
                  have HI := Lib.hid hin
                  clear hin
                  go_wp2_with (go_at_call 74; refine (l6In_any _ _ _ _).mono ?_; rintro e w' ⟨rfl, rfl⟩; rw [T3.out])
                  go_roundw
                  case rel => exact ⟨x + 1, by omega, by go_num, fun y hy => by
                    by_cases e : y = x
                    · subst e; exact HI.out
                    · exact HX.out y (by omega), BX.out⟩
                  case measure => simp [intOf]; omega
                · have T3 := Lib.hid (tt_no hin)
                  have NO := Lib.hid (tt_no (show ¬ IsBids n L Z from fun h => hin ((h.2 k hlt).2 x (by rw [← QM.out]; exact hxl))))
                  clear hin
                  go_wp2_with (go_at_call 74; refine (l6In_any _ _ _ _).mono ?_; rintro e w' ⟨rfl, rfl⟩; rw [T3.out])
                  go_ret
                  exact ⟨by rw [NO.out]; rfl, BX.out⟩
              · have hll : ¬ (x < l) := by have := QE.out; omega
                obtain rfl : x = m := by omega
                go_wp2
                go_roundw
                case rel => exact ⟨k + 1, by omega, by go_num, fun j hj => by
                  by_cases e : j = k
                  · subst e; exact ⟨by rw [← QL.out]; exact QE.out, HX.out⟩
                  · exact HAll.out j (by omega), BX.out⟩
                case measure => simp [intOf]; omega
          · have d1 : ((l : Int) != (m : Int)) = true := bne_iff_ne.2 (by omega)
            have NO := Lib.hid (tt_no (show ¬ IsBids n L Z from fun h => he (by rw [QL.out, QM.out]; exact (h.2 k hlt).1)))
            clear he
            go_wp2
            go_quiet (fail)
            go_wp2
            go_ret
            exact ⟨by rw [NO.out]; rfl, below_drewN HB.out _⟩
        · obtain rfl : k = n := by omega
          have YES := Lib.hid (tt_of (show IsBids k L Z from ⟨⟨⟨by omega, by omega⟩, by rw [← QM.out]; omega⟩, fun r hr => by rw [← QM.out]; exact HAll.out r hr⟩))
          go_wp2
          go_ret
          exact ⟨by rw [YES.out]; rfl, HB.out⟩
    · have T2 := Lib.hid (tt_no h2)
      have NO := Lib.hid (tt_no (show ¬ IsBids n L Z from fun h => h2 ⟨by rw [QM.out]; have := h.1.2; omega, by rw [QM.out]; have := h.1.2; omega⟩))
      clear h2
      go_enter Try.func45, Try.ntmps45
      go_wp2_with (first
        | (go_at_call 74; refine (l6In_any _ _ _ _).mono ?_; rintro e w' ⟨rfl, rfl⟩; rw [T1.out])
        | (go_at_call 74; refine (l6In_any _ _ _ _).mono ?_; rintro e w' ⟨rfl, rfl⟩; rw [T2.out]))
      go_ret
      exact ⟨by rw [NO.out]; rfl, Below.refl _ _⟩
  · have T1 := Lib.hid (tt_no h1)
    have NO := Lib.hid (tt_no (show ¬ IsBids n L Z from fun h => h1 ⟨by have := h.1.1; omega, by have := h.1.1; omega⟩))
    clear h1
    go_enter Try.func45, Try.ntmps45
    go_wp2_with (go_at_call 74; refine (l6In_any _ _ _ _).mono ?_; rintro e w' ⟨rfl, rfl⟩; rw [T1.out])
    go_ret
    exact ⟨by rw [NO.out]; rfl, Below.refl _ _⟩
end Go.Proofs.Ytaipodnhnekpjaa
