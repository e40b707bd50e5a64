/- The model's PriceTable. -/
import Derived.Test.YtakipaehoeapcaaL2Prices
import Derived.Test.YtakipaehoeapcaaTableModel
import Derived.Test.YtakipaehoeapcaaToTab
import Derived.Test.YtakipaehoeapcaaMem
namespace Go.Proofs.Ytakipaehoeapcaa
set_option linter.unusedVariables false
open Go.RowKit

set_option maxHeartbeats 3200000 in
theorem specPriceTable_any (m d : Nat) (b : Option Addr) (W : Nat → Int) (w : World) (hm0 : m ≤ 1048576) (hb0 : Rd w b m W) :
    Calls Try.prog 92 #[.slice b m d] w (RetTB (tt (TableOk m W)) (tableN m W) (fun _ => m) (quoP W) w) := by
  obtain ⟨i0, hi, hz0, hz1, hz2⟩ := info_parts Try.infoInt
  obtain ⟨i1, hj, hy0, hy1, hy2⟩ := info_parts Try.infoInts
  have HB := Lib.hid hb0
  have H1 := Lib.hid (l2Prices_any m d b W w hm0 hb0)
  clear hb0
  by_cases hp : IsPrices m W
  · have T0 := Lib.hid (tt_of hp)
    have HP := Lib.hid hp
    have h5 := hp.1.2
    have h2 := hp.1.1
    clear hp
    go_enter Try.func92, Try.ntmps92
    go_wp2_with (go_at_call 94; refine H1.out.mono ?_; rintro e w' ⟨rfl, rfl⟩; rw [T0.out])
    have M0 := Lib.hid (Making.start 31 w.heap.size (w.alloc (.cells #[] 31)) (.slice (some ⟨w.heap.size, 0, none⟩) 0 0) (fun _ => 0) (fun _ => 0) (fun _ => m) (quoP W) (World.ownsRow_made w #[] 0 (Nat.le_refl _) (Nat.zero_le _) (by simp)))
    go_loopw [2, 3, 4, 5, 6, 7, 8] (fun r q out s _ _ _ wr => ∃ i : Nat, i ≤ m ∧ s = .int .i64 i ∧ r = .slice none 0 0 ∧ q = .bool false ∧ ∃ v G Cp, v = out ∧ Making 31 w.heap.size wr v i G Cp (fun _ => m) (quoP W) ∧ (∀ i', i' < i → ∀ k, k < m → 12 * W i' % W k = 0) ∧ Below w.heap.size w wr) (fun _ _ _ s _ _ _ _ => m - (intOf s).toNat)
    case atStart => exact ⟨0, Nat.zero_le _, rfl, rfl, rfl, _, _, _, rfl, M0.out, fun j hj => absurd hj (Nat.not_lt_zero _), below_alloc (Below.refl _ _) _⟩
    case round =>
      obtain ⟨i, hin, rfl, rfl, rfl, v, G, Cp, rfl, hM, hall, hB⟩ := hrel
      have HM := Lib.hid hM
      have HBw := Lib.hid hB
      have G1 := Lib.hid hall
      clear hM hB M0 hall
      by_cases hlt : i < m
      · go_wp2
        obtain ⟨wo, rfl⟩ : ∃ wo : World, wo = wr := ⟨_, rfl⟩
        have R0 := Lib.hid (show (wo.alloc (.cells #[] 3)).ownsRow wo.heap.size 3 1 (.slice (some ⟨wo.heap.size, 0, none⟩) 0 0) 0 (cellsL 0 (quoP W i)) from World.ownsRow_made wo #[] 0 (Nat.le_refl _) (Nat.zero_le _) (by simp))
        go_loopw [2, 3, 6, 7, 8] (fun r q row s _ wi => ∃ k : Nat, k ≤ m ∧ s = .int .i64 k ∧ r = .slice none 0 0 ∧ q = .bool false ∧ ∃ rv, rv = row ∧ wi.ownsRow wo.heap.size 3 1 rv k (cellsL k (quoP W i)) ∧ (∀ k', k' < k → 12 * W i % W k' = 0) ∧ Below wo.heap.size wo wi) (fun _ _ _ s _ _ => m - (intOf s).toNat)
        case atStart => exact ⟨0, Nat.zero_le _, rfl, rfl, rfl, _, rfl, R0.out, fun j hj => absurd hj (Nat.not_lt_zero _), below_alloc (Below.refl _ _) _⟩
        case round =>
          obtain ⟨k, hkn, rfl, rfl, rfl, rv, rfl, hown, hall, hb⟩ := hrel
          have G2 := Lib.hid hall
          clear R0 hall
          by_cases hklt : k < m
          · have hR := (HB.out.below (Nat.le_refl _) HBw.out).below (Nat.le_refl _) hb
            obtain ⟨ba, oa, rfl, hca⟩ := hR i hlt
            have hcb : wr.cell? ⟨ba, oa + k, none⟩ = some (.int .i64 (W k)) := by
              obtain ⟨b', o', he, hc'⟩ := hR k hklt
              cases he; exact hc'
            have hu := HP.out.2 i hlt
            have hu1 := hu.1
            have hu2 := hu.2
            have hv := HP.out.2 k hklt
            have hv1 := hv.1
            have hv2 := hv.2
            have HO := Lib.hid hown
            have Hb := Lib.hid hb
            have hsz := hb.size
            clear hR hown hb hu hv
            by_cases hq : 12 * W i % W k = 0
            · have hd : (12 * W i % W k != 0) = false := by simpa using hq
              have HQ := Lib.hid hq
              clear hq
              have hb1 : 0 ≤ 12 * W i / W k := Int.ediv_nonneg (by omega) (by omega)
              have hb2 : 12 * W i / W k ≤ 12 * W i := Int.ediv_le_self _ (by omega)
              obtain ⟨X, hX⟩ : ∃ X, X = 12 * W i / W k := ⟨_, rfl⟩
              by_cases hr : InR (12 * W i / W k) 1 144
              · have B1 := Lib.hid (tt_of hr)
                clear hr
                go_wp2_with (first
                  | (go_at_call 85; refine (l6In_any _ _ _ _).mono ?_; rintro e w' ⟨rfl, rfl⟩; rw [B1.out])
                  | (at_builtin; refine wpList_append_lies _ (by rfl) (.tmp 50) (.tmp 57) 31 (by rfl) wo.heap.size 3 i0 (.int .i64 0) 1 8 Try.underlying31 hi hz0 hz1 hz2 (by rfl) (by decide) rv k (cellsL k (quoP W i)) (by rfl) (HO.out.alloc _) ⟨_, 0, none⟩ 1 1 [.int .i64 (12 * W i / W k)] (by rfl) (by rfl) (news_one (by simp)) (by simp [Value.oneCell']) (by omega) (by unfold maxLen; omega) (by omega) (by simp; omega) _ rfl ?_; intro g2 cap2 w2 hown2 hgrow2 hat2 hlt2; have N2 := Lib.hid hown2; have G2' := Lib.hid hgrow2; clear hown2 hgrow2 hat2))
                go_roundw
                case rel =>
                  refine ⟨k + 1, by omega, by go_num, rfl, rfl, _, rfl, ?_, fun k' hk' => ?_, (Hb.out.alloc hsz _).grown G2'.out (by simp; omega) (fun k hk => (HO.out.lt k hk).1)⟩
                  · have := N2.out
                    rw [cellsL_snoc] at this
                    rwa [cellsL_congr (Y := quoP W i) (fun j hj => by
                      by_cases e : j < k
                      · rw [if_pos e]
                      · rw [if_neg e]; have : j = k := by omega
                        subst this; rfl)] at this
                  · by_cases e : k' = k
                    · subst e; exact HQ.out
                    · exact G2.out k' (by omega)
                case measure => simp [intOf]; omega
              · have B1 := Lib.hid (tt_no hr)
                have hno := Lib.hid (show ¬ TableOk m W from fun h => hr (quoP_range h hlt hklt))
                have T1 := Lib.hid (tt_no hno.out)
                have T2 := Lib.hid (tableN_no hno.out)
                clear hr
                go_wp2_with (go_at_call 85; refine (l6In_any _ _ _ _).mono ?_; rintro e w' ⟨rfl, rfl⟩; rw [B1.out])
                go_ret2
                exact ⟨_, _, fun _ => none, fun _ => 0, by rw [T1.out, T2.out]; rfl, .inl T2.out, below_alloc (below_chain HBw.out Hb.out) _⟩
            · have hd : (12 * W i % W k != 0) = true := by simpa using hq
              have hno := Lib.hid (show ¬ TableOk m W from fun h => hq (h.2 i hlt k hklt))
              have T1 := Lib.hid (tt_no hno.out)
              have T2 := Lib.hid (tableN_no hno.out)
              clear hq
              go_wp2
              go_ret2
              exact ⟨_, _, fun _ => none, fun _ => 0, by rw [T1.out, T2.out]; rfl, .inl T2.out, below_alloc (below_chain HBw.out Hb.out) _⟩
          · obtain rfl : k = m := by omega
            obtain ⟨gr, cr, rfl⟩ := owns_form hown (by omega)
            have hrow := OwnR.of_owns hown
            have hltr := hown.lt gr rfl
            have hM2 := HM.out.below hb
            have hvlt := fun x hx => (HM.out.1.lt x hx)
            have HO := Lib.hid hown
            have Hb := Lib.hid hb
            have HR2 := Lib.hid hrow
            have HM2 := Lib.hid hM2
            have HV := Lib.hid hvlt
            have hsz := hb.size
            have hsz0 := HBw.out.size
            clear hown hb hrow hM2 hvlt
            go_wp2_with (at_builtin; refine wpList_append_lies _ (by rfl) (.tmp 59) (.tmp 61) 23 (by rfl) w.heap.size 31 i1 (.slice none 0 0) 1 24 Try.underlying23 hj hy0 hy1 hy2 (by rfl) (by decide) v i ((List.range i).map fun r => .slice (some ⟨G r, 0, none⟩) k (Cp r)) (by rfl) (HM2.out.1.alloc _) ⟨_, 0, none⟩ 1 1 [.slice (some ⟨gr, 0, none⟩) k cr] (by rfl) (by rfl) (news_one (by simp)) (by simp [Value.oneCell']) (by omega) (by unfold maxLen; omega) (by omega) (by simp; omega) _ rfl ?_; intro g2 cap2 w2 hown2 hgrow2 hat2 hlt2; have N2 := Lib.hid hown2; have G2' := Lib.hid hgrow2; have A2 := Lib.hid hat2; clear hown2 hgrow2 hat2)
            go_roundw
            case rel =>
              refine ⟨i + 1, by omega, by go_num, rfl, rfl, _, (fun r => if r < i then G r else gr), (fun r => if r < i then Cp r else cr), rfl, ?_, fun i' hi' => ?_, ?_⟩
              · refine Making.next (w := wr.alloc _) (HM2.out.below (below_alloc (Below.refl _ _) _)) (HR2.out.of_block (Below.heap_alloc _ _ _ hltr.2)) (by omega) (by simp; omega) (fun h => by have := HV.out gr h; omega) (fun r hr e => by have := (HM.out.2.1 r hr).2.1; omega) N2.out G2'.out A2.out (Nat.le_refl _)
              · by_cases e : i' = i
                · subst e; exact G2.out
                · exact G1.out i' (by omega)
              · exact (HBw.out.trans (Hb.out.mono HBw.out.size)).alloc (by have := HBw.out.size; have := Hb.out.size; omega) _ |>.grown G2'.out (by have := HBw.out.size; have := Hb.out.size; simp; omega) (fun x hx => (HV.out x hx).1)
            case measure => simp [intOf]; omega
      · obtain rfl : i = m := by omega
        have hok : TableOk i W := ⟨HP.out, G1.out⟩
        have T1 := Lib.hid (tt_of hok)
        have T2 := Lib.hid (tableN_yes hok)
        clear hok
        obtain ⟨g, cap, rfl⟩ := owns_form HM.out.1 (by omega)
        go_wp2
        go_ret2
        exact ⟨_, _, _, _, by rw [T1.out, T2.out]; rfl, by rw [T2.out]; exact HM.out.ownT, HBw.out⟩
  · have T0 := Lib.hid (tt_no hp)
    have hno : ¬ TableOk m W := fun h => hp h.1
    have T1 := Lib.hid (tt_no hno)
    have T2 := Lib.hid (tableN_no hno)
    clear hp hno
    go_enter Try.func92, Try.ntmps92
    go_wp2_with (go_at_call 94; refine H1.out.mono ?_; rintro e w' ⟨rfl, rfl⟩; rw [T0.out])
    go_ret2
    exact ⟨_, _, fun _ => none, fun _ => 0, by rw [T1.out, T2.out]; rfl, .inl T2.out, below_alloc (Below.refl _ _) _⟩
end Go.Proofs.Ytakipaehoeapcaa
