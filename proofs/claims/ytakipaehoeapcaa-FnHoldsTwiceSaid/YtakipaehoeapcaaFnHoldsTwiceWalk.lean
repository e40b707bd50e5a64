/- The walk of the law FnHoldsTwice: it answers true at every code that can be read. -/
import Derived.Test.YtakipaehoeapcaaDrawHolds
import Derived.Test.YtakipaehoeapcaaPriceHolds
import Derived.Test.YtakipaehoeapcaaSpecPriceHolds
import Derived.Test.YtakipaehoeapcaaReadPrices
namespace Go.Proofs.Ytakipaehoeapcaa
set_option linter.unusedVariables false
set_option linter.unusedSimpArgs false
open Go.RowKit

theorem holds_twice {n : Nat} {L : Nat → Nat} {Z : Nat → Nat → Int} {W : Nat → Int} (h : HoldsOk n L Z n W) : tt (HoldsOk n L Z n fun j => 2 * W j) = tt (IsPrices n fun j => 2 * W j) := by
  refine tt_congr ⟨fun k => k.1.1.2, fun k => ⟨⟨⟨h.1.1.1, k⟩, rfl⟩, fun i hi j hj => ?_⟩⟩
  have e := h.2 i hi j hj
  show Z i j * (2 * W j) ≤ 12 * (2 * W i)
  rw [Int.mul_left_comm]
  omega

set_option maxHeartbeats 3200000 in
theorem fnHoldsTwice_walk (n c : Nat) (a : Option Addr) (B : Nat → Nat) (w : World) (hc : n ≤ c) (hb : RdB w a n B) (hab : 0 < n → ∀ b o, a = some ⟨b, o, none⟩ → b < w.heap.size) :
    Calls Try.prog 9 #[.slice a n c] w fun e w' => e = .returned (.bool true) ∧ Below w.heap.size w w' := by
  by_cases hfit : n ≤ 1048576
  · have hd : ¬ (1048576 < n) := by omega
    have HD := Lib.hid (drawPriceHolds_any n c a B w hfit hc hb hab)
    clear hb hab
    go_enter Try.func9, Try.ntmps9
    go_wp2_with fail
    refine HD.out.mono ?_
    rintro e w1 ⟨ga, N, gc, A, L, C, Z, pa, pc, W, rfl, ⟨hN1, hN5, hcap⟩, hL, hT, hW, hb1⟩
    obtain ⟨i0, hi, hz0, hz1, hz2⟩ := info_parts Try.infoInt
    have HT := Lib.hid hT
    have HW := Lib.hid hW
    have HL := Lib.hid (show ∀ r, r < N → L r ≤ 1048576 from fun r hr => by have := hL r hr; omega)
    have B1 := Lib.hid hb1
    clear hT hW hL hb1 HD
    go_wp2_with fail
    refine (priceHolds_any N gc N pc ga pa A L C Z W _ (by omega) HL.out HT.out (by omega) hcap HW.out).mono ?_
    rintro e w2 ⟨rfl, hb2⟩
    have B2 := Lib.hid hb2
    clear hb2
    by_cases hr : HoldsOk N L Z N W
    · have K1 := Lib.hid (tt_of hr)
      have KT := Lib.hid (holds_twice hr)
      have KB := Lib.hid (show ∀ j, j < N → 1 ≤ W j ∧ W j ≤ 1000000000 from hr.1.1.2.2)
      rw [K1.out]
      clear hr
      go_wp2_with fail
      refine (specPriceHolds_any N gc N pc ga pa A L C Z W _ (by omega) HL.out (HT.out.below (Nat.le_refl _) B2.out) (by omega) (HW.out.below (Nat.le_refl _) B2.out)).mono ?_
      rintro e w3 ⟨rfl, hb3⟩
      rw [K1.out]
      have B3 := Lib.hid (below_chain B2.out hb3)
      clear hb3
      go_wp2
      have R0 := Lib.hid (show (w3.alloc (.cells #[] 3)).ownsRow w3.heap.size 3 1 (.slice (some ⟨w3.heap.size, 0, none⟩) 0 0) 0 (cellsL 0 (fun j => 2 * W j)) from World.ownsRow_made w3 #[] 0 (Nat.le_refl _) (Nat.zero_le _) (by simp))
      go_loopw [7, 8] (fun row s wi => ∃ k : Nat, k ≤ N ∧ s = .int .i64 k ∧ ∃ rv, rv = row ∧ wi.ownsRow w3.heap.size 3 1 rv k (cellsL k (fun j => 2 * W j)) ∧ Below w3.heap.size w3 wi) (fun _ s _ => N - (intOf s).toNat)
      case atStart => exact ⟨0, Nat.zero_le _, rfl, _, rfl, R0.out, below_alloc (Below.refl _ _) _⟩
      case round =>
        obtain ⟨k, hk, rfl, rv, rfl, hown, hbw⟩ := hrel
        clear R0
        have HO := Lib.hid hown
        have Hb := Lib.hid hbw
        have hsz := hbw.size
        clear hbw
        by_cases hlt : k < N
        · clear hown
          obtain ⟨bb, ob, rfl, hcb1⟩ := HW.out k hlt
          have hbb : bb < w1.heap.size := World.block_lt_of_cell? _ _ hcb1
          have hbb3 := B3.out.size
          have hcb := ((below_chain B3.out Hb.out).cell (p := ⟨bb, ob + k, none⟩) hbb).trans hcb1
          have hy := KB.out k hlt
          have hy1 := hy.1
          have hy2 := hy.2
          clear hy hcb1
          go_wp2_with (at_builtin; refine wpList_append_lies _ (by rfl) (.tmp 40) (.tmp 46) 31 (by rfl) w3.heap.size 3 i0 (.int .i64 0) 1 8 Try.underlying31 hi hz0 hz1 hz2 (by rfl) (by decide) rv k (cellsL k (fun j => 2 * W j)) (by rfl) (HO.out.alloc _) ⟨_, 0, none⟩ 1 1 [.int .i64 (2 * W k)] (by rfl) (by rfl) (news_one (by simp)) (by simp [Value.oneCell']) (by omega) (by unfold maxLen; omega) (by omega) (by first | omega | (simp; omega)) _ rfl ?_; intro g2 cap2 w5 hown2 hgrow2 hat2 hlt2; have N2 := Lib.hid hown2; have G2 := Lib.hid hgrow2; clear hown2 hgrow2 hat2)
          go_roundw
          case rel =>
            refine ⟨k + 1, by omega, by go_num, _, rfl, ?_, (Hb.out.alloc hsz _).grown G2.out (by simp; omega) (fun k hk => (HO.out.lt k hk).1)⟩
            have := N2.out
            rw [cellsL_snoc] at this
            rwa [cellsL_congr (Y := fun j => 2 * W j) (fun j hj => by
              by_cases e : j < k
              · rw [if_pos e]
              · rw [if_neg e]; have : j = k := by omega
                subst this; rfl)] at this
          case measure => simp [intOf]; omega
        · obtain rfl : k = N := by omega
          obtain ⟨gr, cr, rfl⟩ := owns_form hown (by omega)
          have RD := Lib.hid (owns_rd hown)
          have hcr := (owns_cap hown).1
          have B4 := Lib.hid (below_chain B3.out Hb.out)
          clear hown
          go_wp2_with (first
            | (go_at_call 30; refine (priceHolds_any k gc k cr ga _ A L C Z (fun j => 2 * W j) _ (by omega) HL.out (HT.out.below (Nat.le_refl _) B4.out) (by omega) hcr RD.out).mono ?_; rintro e w6 ⟨rfl, hb6⟩; rw [KT.out]; have B6 := Lib.hid hb6; clear hb6)
            | (go_at_call 37; refine (priceIn_any k cr _ (fun j => 2 * W j) _ (by omega) hcr (RD.out.below (Nat.le_refl _) B6.out)).mono ?_; rintro e w7 ⟨rfl, hb7⟩; have B7 := Lib.hid (below_chain B6.out hb7); clear hb7))
          go_ret
          exact ⟨by simp, below_chain B1.out (below_chain B4.out B7.out)⟩
    · have K1 := Lib.hid (tt_no hr)
      rw [K1.out]
      clear hr
      go_wp2_with fail
      refine (specPriceHolds_any N gc N pc ga pa A L C Z W _ (by omega) HL.out (HT.out.below (Nat.le_refl _) B2.out) (by omega) (HW.out.below (Nat.le_refl _) B2.out)).mono ?_
      rintro e w3 ⟨rfl, hb3⟩
      rw [K1.out]
      have B3 := Lib.hid (below_chain B2.out hb3)
      clear hb3
      go_wp2
      go_ret
      exact ⟨rfl, below_chain B1.out B3.out⟩
  · have hd : 1048576 < n := by omega
    clear hb hab
    go_enter Try.func9, Try.ntmps9
    go_wp2_with fail
    go_ret
    exact ⟨rfl, Below.refl _ _⟩
end Go.Proofs.Ytakipaehoeapcaa
