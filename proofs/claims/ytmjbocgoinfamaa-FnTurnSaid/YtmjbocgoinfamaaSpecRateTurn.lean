/- The model's RateTurn. -/
import Derived.Test.YtmjbocgoinfamaaSpecRateIn
import Derived.Test.YtmjbocgoinfamaaInfoInts
import Derived.Test.YtmjbocgoinfamaaMem
namespace Go.Proofs.Ytmjbocgoinfamaa
set_option linter.unusedVariables false
open Go.RowKit

set_option maxHeartbeats 1600000 in
theorem specRateTurn_any (n c : Nat) (a : Option Addr) (A : Nat → Option Addr) (L C : Nat → Nat) (Z : Nat → Nat → Int) (w : World) (hn0 : n ≤ 1048576) (hL0 : ∀ r, r < n → L r ≤ 1048576) (ha0 : Tab w a n A L C Z) :
    Calls Try.prog 34 #[.slice a n c] w (RetTB (tt (IsRates n L Z)) (turnN n L Z) (fun _ => n) (turnX Z) w) := by
  obtain ⟨i0, hi, hz0, hz1, hz2⟩ := info_parts Try.infoInt
  obtain ⟨i1, hj, hy0, hy1, hy2⟩ := info_parts Try.infoInts
  have HL := Lib.hid hL0
  have HA := Lib.hid ha0
  clear hL0 ha0
  by_cases hr : IsRates n L Z
  · have T1 := Lib.hid (tt_of hr)
    have T2 := Lib.hid (turnN_yes hr)
    have HR := Lib.hid hr
    have hn5 := hr.1.2
    clear hr
    go_enter Try.func34, Try.ntmps34
    go_wp2_with fail
    refine (specRateIn_any n c a A L C Z _ hn0 HL.out (HA.out.below (Nat.le_refl _) (below_alloc (Below.refl _ _) _))).mono ?_
    rintro e w' ⟨rfl, rfl⟩
    rw [T1.out]
    go_wp2
    have M0 := Lib.hid (Making.start 24 w.heap.size (w.alloc (.cells #[] 24)) (.slice (some ⟨w.heap.size, 0, none⟩) 0 0) (fun _ => 0) (fun _ => 0) (fun _ => n) (turnX Z) (World.ownsRow_made w #[] 0 (Nat.le_refl _) (Nat.zero_le _) (by simp)))
    go_loopw [4, 5, 6, 7] (fun out s _ _ wr => ∃ i : Nat, i ≤ n ∧ s = .int .i64 i ∧ ∃ v G Cp, v = out ∧ Making 24 w.heap.size wr v i G Cp (fun _ => n) (turnX Z) ∧ Below w.heap.size w wr) (fun _ s _ _ _ => n - (intOf s).toNat)
    case atStart => exact ⟨0, Nat.zero_le _, rfl, _, _, _, rfl, M0.out, below_alloc (Below.refl _ _) _⟩
    case round =>
      obtain ⟨i, hin, rfl, v, G, Cp, rfl, hM, hB⟩ := hrel
      have HM := Lib.hid hM
      have HB := Lib.hid hB
      clear hM hB M0
      by_cases hlt : i < n
      · go_wp2
        obtain ⟨wo, rfl⟩ : ∃ wo : World, wo = wr := ⟨_, rfl⟩
        have R0 := Lib.hid (show (wo.alloc (.cells #[] 3)).ownsRow wo.heap.size 3 1 (.slice (some ⟨wo.heap.size, 0, none⟩) 0 0) 0 (cellsL 0 (turnX Z i)) from World.ownsRow_made wo #[] 0 (Nat.le_refl _) (Nat.zero_le _) (by simp))
        go_loopw [6, 7] (fun row s wi => ∃ k : Nat, k ≤ n ∧ s = .int .i64 k ∧ ∃ rv, rv = row ∧ wi.ownsRow wo.heap.size 3 1 rv k (cellsL k (turnX Z i)) ∧ Below wo.heap.size wo wi) (fun _ s _ => n - (intOf s).toNat)
        case atStart => exact ⟨0, Nat.zero_le _, rfl, _, rfl, R0.out, below_alloc (Below.refl _ _) _⟩
        case round =>
          obtain ⟨k, hkn, rfl, rv, rfl, hown, hb⟩ := hrel
          clear R0
          by_cases hklt : k < n
          · have hT := (HA.out.below (Nat.le_refl _) HB.out).below (Nat.le_refl _) hb
            obtain ⟨ba, oa, rfl, hca, hra⟩ := hT k hklt
            have hLk := (HR.out.2 k hklt).1
            have hiL : i < L k := by omega
            obtain ⟨bc, oc, hAk, hcc⟩ := hra i hiL
            rw [hAk] at hca
            have HO := Lib.hid hown
            have Hb := Lib.hid hb
            have hsz := hb.size
            clear hT hra hAk hLk hown hb
            go_wp2_with (at_builtin; refine wpList_append_lies _ (by rfl) (.tmp 26) (.tmp 34) 24 (by rfl) wo.heap.size 3 i0 (.int .i64 0) 1 8 Try.underlying24 hi hz0 hz1 hz2 (by rfl) (by decide) rv k (cellsL k (turnX Z i)) (by rfl) (HO.out.alloc _) ⟨_, 0, none⟩ 1 1 [.int .i64 (Z k i)] (by rfl) (by rfl) (news_one (by simp)) (by simp [Value.oneCell']) (by omega) (by unfold maxLen; omega) (by omega) (by simp; omega) _ rfl ?_; intro g2 cap2 w2 hown2 hgrow2 hat2 hlt2; have N2 := Lib.hid hown2; have G2 := Lib.hid hgrow2; clear hown2 hgrow2 hat2)
            go_roundw
            case rel =>
              refine ⟨k + 1, by omega, by go_num, _, rfl, ?_, (Hb.out.alloc hsz _).grown G2.out (by simp; omega) (fun k hk => (HO.out.lt k hk).1)⟩
              have := N2.out
              rw [cellsL_snoc] at this
              rwa [cellsL_congr (Y := turnX Z i) (fun j hj => by
                by_cases e : j < k
                · rw [if_pos e]
                · rw [if_neg e]; have : j = k := by omega
                  subst this; rfl)] at this
            case measure => simp [intOf]; omega
          · obtain rfl : k = n := by omega
            obtain ⟨gr, cr, rfl⟩ := owns_form hown (by omega)
            have hrow := OwnR.of_owns hown
            have hltr := hown.lt gr rfl
            have hM2 := HM.out.below hb
            have hvlt := fun x hx => (HM.out.1.lt x hx)
            have HO := Lib.hid hown
            have Hb := Lib.hid hb
            have HR2 := Lib.hid hrow
            have HM2 := Lib.hid hM2
            have HV := Lib.hid hvlt
            have hsz := hb.size
            have hsz0 := HB.out.size
            clear hown hb hrow hM2 hvlt
            go_wp2_with (at_builtin; refine wpList_append_lies _ (by rfl) (.tmp 36) (.tmp 38) 23 (by rfl) w.heap.size 24 i1 (.slice none 0 0) 1 24 Try.underlying23 hj hy0 hy1 hy2 (by rfl) (by decide) v i ((List.range i).map fun r => .slice (some ⟨G r, 0, none⟩) k (Cp r)) (by rfl) (HM2.out.1.alloc _) ⟨_, 0, none⟩ 1 1 [.slice (some ⟨gr, 0, none⟩) k cr] (by rfl) (by rfl) (news_one (by simp)) (by simp [Value.oneCell']) (by omega) (by unfold maxLen; omega) (by omega) (by simp; omega) _ rfl ?_; intro g2 cap2 w2 hown2 hgrow2 hat2 hlt2; have N2 := Lib.hid hown2; have G2 := Lib.hid hgrow2; have A2 := Lib.hid hat2; clear hown2 hgrow2 hat2)
            go_roundw
            case rel =>
              refine ⟨i + 1, by omega, by go_num, _, (fun r => if r < i then G r else gr), (fun r => if r < i then Cp r else cr), rfl, ?_, ?_⟩
              · refine Making.next (w := wr.alloc _) (HM2.out.below (below_alloc (Below.refl _ _) _)) (HR2.out.of_block (Below.heap_alloc _ _ _ hltr.2)) (by omega) (by simp; omega) (fun h => by have := HV.out gr h; omega) (fun r hr e => by have := (HM.out.2.1 r hr).2.1; omega) N2.out G2.out A2.out (Nat.le_refl _)
              · exact (HB.out.trans (Hb.out.mono HB.out.size)).alloc (by have := HB.out.size; have := Hb.out.size; omega) _ |>.grown G2.out (by have := HB.out.size; have := Hb.out.size; simp; omega) (fun x hx => (HV.out x hx).1)
            case measure => simp [intOf]; omega
      · obtain rfl : i = n := by omega
        obtain ⟨g, cap, rfl⟩ := owns_form HM.out.1 (by have := HR.out.1.1; omega)
        go_wp2
        go_ret2
        exact ⟨_, _, _, _, by rw [T1.out, T2.out]; rfl, by rw [T2.out]; exact HM.out.ownT, HB.out⟩
  · have T1 := Lib.hid (tt_no hr)
    have T2 := Lib.hid (turnN_no hr)
    clear hr
    go_enter Try.func34, Try.ntmps34
    go_wp2_with fail
    refine (specRateIn_any n c a A L C Z _ hn0 HL.out (HA.out.below (Nat.le_refl _) (below_alloc (Below.refl _ _) _))).mono ?_
    rintro e w' ⟨rfl, rfl⟩
    rw [T1.out]
    go_wp2
    go_ret2
    exact ⟨_, _, fun _ => none, fun _ => 0, by rw [T1.out, T2.out]; rfl, .inl T2.out, below_alloc (Below.refl _ _) _⟩
end Go.Proofs.Ytmjbocgoinfamaa
