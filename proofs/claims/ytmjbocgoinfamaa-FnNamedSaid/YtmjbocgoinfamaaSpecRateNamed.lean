/- The model's RateNamed. -/
import Derived.Test.YtmjbocgoinfamaaSpecRateIn
import Derived.Test.YtmjbocgoinfamaaL1Every
import Derived.Test.YtmjbocgoinfamaaInfoInts
import Derived.Test.YtmjbocgoinfamaaMem
import Derived.StillTailTactics
namespace Go.Proofs.Ytmjbocgoinfamaa
set_option linter.unusedVariables false
open Go.RowKit

/-- A table of n rows of n, its top row in block g, row r in block G r: all of it may be written. -/
structure Grid (lo : Nat) (w : World) (g n : Nat) (G Cp : Nat → Nat) (X : Nat → Nat → Int) : Prop where
  top : ∀ r, r < n → w.cell? ⟨g, r, none⟩ = some (.slice (some ⟨G r, 0, none⟩) n (Cp r))
  base : lo ≤ g ∧ g < w.heap.size
  rows : ∀ r, r < n → lo ≤ G r ∧ G r < w.heap.size ∧ G r ≠ g
  cell : ∀ r s, r < n → s < n → w.cell? ⟨G r, s, none⟩ = some (.int .i64 (X r s)) ∧ w.frozen? ⟨G r, s, none⟩ = false
  apart : ∀ r s, r < n → s < n → r ≠ s → G r ≠ G s

namespace Grid
variable {lo g n : Nat} {w w' : World} {G Cp : Nat → Nat} {X Y : Nat → Nat → Int}
theorem congr (h : Grid lo w g n G Cp X) (e : ∀ r s, r < n → s < n → X r s = Y r s) : Grid lo w g n G Cp Y :=
  ⟨h.top, h.base, h.rows, fun r s hr hs => by rw [← e r s hr hs]; exact h.cell r s hr hs, h.apart⟩
theorem drew (h : Grid lo w g n G Cp X) : Grid lo w.drew g n G Cp X := ⟨h.top, h.base, h.rows, h.cell, h.apart⟩
theorem set (h : Grid lo w g n G Cp X) {x y : Nat} (hx : x < n) (hy : y < n) (v : Int) : Grid lo (w.setCell ⟨G x, y, none⟩ (.int .i64 v)) g n G Cp (fun r s => if r = x ∧ s = y then v else X r s) := by
  have hsz : (w.setCell ⟨G x, y, none⟩ (.int .i64 v)).heap.size = w.heap.size := by simp [World.setCell]
  refine ⟨fun r hr => ?_, by rw [hsz]; exact h.base, by rw [hsz]; exact h.rows, fun r s hr hs => ?_, h.apart⟩
  · rw [World.cell?_setCell_other _ _ _ _ (fun e => (h.rows x hx).2.2 (by injection e))]
    exact h.top r hr
  · rw [World.frozen?_setCell]
    refine ⟨?_, (h.cell r s hr hs).2⟩
    by_cases e : r = x ∧ s = y
    · obtain ⟨rfl, rfl⟩ := e
      simp only [and_self, if_true]
      exact World.cell?_setCell_same _ _ _ (h.cell r s hr hs).1
    · simp only [if_neg e]
      rw [World.cell?_setCell_other _ _ _ _ (fun e' => e ?_)]
      · exact (h.cell r s hr hs).1
      · injection e' with e1 e2
        by_cases hrx : r = x
        · exact ⟨hrx, e2.symm⟩
        · exact absurd e1 (h.apart x r hx hr (fun e3 => hrx e3.symm))
theorem ownT (h : Grid lo w g n G Cp X) : OwnT w lo w.heap.size (some ⟨g, 0, none⟩) n (fun r => some ⟨G r, 0, none⟩) (fun _ => n) Cp X :=
  .inr ⟨g, 0, G, rfl, h.base.1, h.base.2, fun r hr => by rw [Nat.zero_add]; exact h.top r hr, fun r hr => by
    obtain ⟨h1, h2, h3⟩ := h.rows r hr
    exact ⟨h1, h2, h3, .inr ⟨0, rfl, fun k hk => by rw [Nat.zero_add]; exact h.cell r k hr hk⟩⟩, h.apart⟩
theorem of_making {tS cap : Nat} (h : Making tS lo w (.slice (some ⟨g, 0, none⟩) n cap) n G Cp (fun _ => n) X) : Grid lo w g n G Cp X := by
  obtain ⟨h1, h2, h3⟩ := h
  have hlt := h1.lt g rfl
  refine ⟨fun r hr => ?_, hlt, fun r hr => ⟨(h2 r hr).1, (h2 r hr).2.1, fun e => (h2 r hr).2.2.1 (by rw [e]; rfl)⟩, fun r s hr hs => ?_, h3⟩
  · have := h1.cells (g := g) rfl r (.slice (some ⟨G r, 0, none⟩) n (Cp r)) (by simp [hr])
    rwa [Go.WideShapes.add_plain, Nat.zero_add] at this
  · rcases (h2 r hr).2.2.2 with h0 | ⟨o, ha, hc⟩
    · have := Nat.lt_of_le_of_lt (Nat.zero_le s) hs
      have h0' : n = 0 := h0
      omega
    · cases ha
      have := hc s hs
      rwa [Nat.zero_add] at this
end Grid

set_option maxRecDepth 100000 in
set_option maxHeartbeats 1600000 in
theorem specRateNamed_any (n c m d : Nat) (a b : Option Addr) (A : Nat → Option Addr) (L C : Nat → Nat) (Z : Nat → Nat → Int) (W : Nat → Int) (w : World) (hn0 : n ≤ 1048576) (hL0 : ∀ r, r < n → L r ≤ 1048576) (ha0 : Tab w a n A L C Z) (hm1 : m ≤ 1048576) (hb1 : Rd w b m W) :
    Calls Try.prog 38 #[.slice a n c, .slice b m d] w (RetTB (tt (NamedOk n m L Z W)) (namedN n m L Z W) (fun _ => n) (namedX n Z W) w) := by
  obtain ⟨i1, hj, hy0, hy1, hy2⟩ := info_parts Try.infoInts
  have HL := Lib.hid hL0
  have HA := Lib.hid ha0
  have HP := Lib.hid hb1
  clear hL0 ha0 hb1
  by_cases hr : IsRates n L Z
  · have T1 := Lib.hid (tt_of hr)
    have HR := Lib.hid hr
    have hn5 := hr.1.2
    have hn2 := hr.1.1
    clear hr
    by_cases hmn : m = n
    · subst hmn
      by_cases hd : IsDiff m m W
      · have T2 := Lib.hid (tt_of hd)
        have HD := Lib.hid hd
        have T3 := Lib.hid (tt_of (show NamedOk m m L Z W from ⟨HR.out, rfl, hd⟩))
        have T4 := Lib.hid (namedN_yes (show NamedOk m m L Z W from ⟨HR.out, rfl, hd⟩))
        have hq : ((m : Int) != m) = false := by simp
        clear hd
        go_enter Try.func38, Try.ntmps38
        go_wp2_with (first
          | (go_at_call 55; refine (specRateIn_any m c a A L C Z _ hn0 HL.out (HA.out.below (Nat.le_refl _) (below_alloc (Below.refl _ _) _))).mono ?_; rintro e w' ⟨rfl, rfl⟩; rw [T1.out])
          | (go_at_call 84; refine (l1Every_any m d b W _ (by omega) (HP.out.below (Nat.le_refl _) (below_alloc (Below.refl _ _) _))).mono ?_; rintro e w' ⟨rfl, rfl⟩; rw [T2.out]))
        obtain ⟨ba, oa, rfl, _, _⟩ := HA.out 0 (by omega)
        obtain ⟨bb, ob, rfl, _⟩ := HP.out 0 (by omega)
        have hmk := run_make_row' (P := Try.prog) 24 3 (.int .i64 0) 8 Try.underlying24 Try.infoInt rfl .i64 .i64 m (by omega) (by omega)
        have M0 := Lib.hid (Making.start 24 w.heap.size (w.alloc (.cells #[] 24)) (.slice (some ⟨w.heap.size, 0, none⟩) 0 0) (fun _ => 0) (fun _ => 0) (fun _ => m) (fun _ _ => 0) (World.ownsRow_made w #[] 0 (Nat.le_refl _) (Nat.zero_le _) (by simp)))
        go_loopw [6, 7] (fun out s wr => ∃ i : Nat, i ≤ m ∧ s = .int .i64 i ∧ ∃ v G Cp, v = out ∧ Making 24 w.heap.size wr v i G Cp (fun _ => m) (fun _ _ => 0) ∧ Below w.heap.size w wr) (fun _ s _ => m - (intOf s).toNat)
        case atStart => exact ⟨0, Nat.zero_le _, rfl, _, _, _, rfl, M0.out, below_alloc (Below.refl _ _) _⟩
        case round =>
          obtain ⟨i, him, rfl, v, G, Cp, rfl, hM, hB⟩ := hrel
          clear M0
          by_cases hlt : i < m
          · have hvlt := fun x hx => (hM.1.lt x hx)
            have HM := Lib.hid hM
            have HM2 := Lib.hid (hM.below (below_alloc (Below.refl wr.heap.size wr) (.cells (madeCells #[.int .i64 0] m) 3)))
            have HR2 := Lib.hid (OwnR.of_row (X := fun _ => 0) (World.rowIs_made wr (.int .i64 0) m 3))
            have HB := Lib.hid hB
            have HV := Lib.hid hvlt
            have hsz := hB.size
            clear hM hB hvlt
            go_wp2_with (at_builtin; refine wpList_append_lies _ (by rfl) (.tmp 33) (.tmp 37) 23 (by rfl) w.heap.size 24 i1 (.slice none 0 0) 1 24 Try.underlying23 hj hy0 hy1 hy2 (by rfl) (by decide) v i ((List.range i).map fun r => .slice (some ⟨G r, 0, none⟩) m (Cp r)) (by rfl) (HM2.out.1.alloc _) ⟨_, 0, none⟩ 1 1 [.slice (some ⟨wr.heap.size, 0, none⟩) m m] (by rfl) (by rfl) (news_one (by simp)) (by simp [Value.oneCell']) (by omega) (by unfold maxLen; omega) (by omega) (by simp; omega) _ rfl ?_; intro g2 cap2 w2 hown2 hgrow2 hat2 hlt2; have N2 := Lib.hid hown2; have G2 := Lib.hid hgrow2; have A2 := Lib.hid hat2; clear hown2 hgrow2 hat2)
            go_roundw
            case rel =>
              refine ⟨i + 1, by omega, by go_num, _, (fun r => if r < i then G r else wr.heap.size), (fun r => if r < i then Cp r else m), rfl, ?_, ?_⟩
              · refine Making.next (w := (wr.alloc (.cells (madeCells #[.int .i64 0] m) 3)).alloc _) (HM2.out.below (below_alloc (Below.refl _ _) _)) (HR2.out.of_block (Below.heap_alloc _ _ _ (by simp))) (by omega) (by simp; omega) (fun h => by have := HV.out wr.heap.size h; omega) (fun r hr e => by have := (HM.out.2.1 r hr).2.1; omega) N2.out G2.out A2.out (Nat.le_refl _)
              · exact (below_alloc (below_alloc HB.out _) _).grown G2.out (by have := HB.out.size; simp; omega) (fun x hx => (HV.out x hx).1)
            case measure => simp [intOf]; omega
          · obtain rfl : i = m := by omega
            obtain ⟨g, cap, rfl⟩ := owns_form hM.1 (by omega)
            have Gr := Lib.hid ((Grid.of_making hM).congr fun r s _ _ => partN_zero i Z W r s)
            have HB := Lib.hid hB
            clear hM hB hmk
            go_wp2
            go_loopw [8, 9] (fun s _ wr => ∃ p : Nat, p ≤ i ∧ s = .int .i64 p ∧ Grid w.heap.size wr g i G Cp (partN i Z W p 0) ∧ Below w.heap.size w wr) (fun s _ _ => i - (intOf s).toNat)
            case atStart => exact ⟨0, Nat.zero_le _, rfl, Gr.out, HB.out⟩
            case round =>
              obtain ⟨p, hp, rfl, hG, hB⟩ := hrel
              clear Gr HB
              have Gr := Lib.hid hG
              have HB := Lib.hid hB
              clear hG hB
              by_cases hplt : p < i
              · go_wp2
                go_loopw [9] (fun s wr => ∃ q : Nat, q ≤ i ∧ s = .int .i64 q ∧ Grid w.heap.size wr g i G Cp (partN i Z W p q) ∧ Below w.heap.size w wr) (fun s _ => i - (intOf s).toNat)
                case atStart => exact ⟨0, Nat.zero_le _, rfl, Gr.out, HB.out⟩
                case round =>
                  obtain ⟨q, hq2, rfl, hG, hB⟩ := hrel
                  clear Gr HB
                  by_cases hqlt : q < i
                  · obtain ⟨x, hx⟩ := Int.eq_ofNat_of_zero_le (HD.out.1 p hplt).1
                    obtain ⟨y, hy⟩ := Int.eq_ofNat_of_zero_le (HD.out.1 q hqlt).1
                    have hxn : x < i := by have := (HD.out.1 p hplt).2; omega
                    have hyn : y < i := by have := (HD.out.1 q hqlt).2; omega
                    have hc1 := (HP.out.below (Nat.le_refl _) hB).at hplt
                    have hc2 := (HP.out.below (Nat.le_refl _) hB).at hqlt
                    rw [hx] at hc1
                    rw [hy] at hc2
                    obtain ⟨ba', oa', e, hca, hra⟩ := (HA.out.below (Nat.le_refl _) hB) p hplt
                    cases e
                    have hLp := (HR.out.2 p hplt).1
                    have hqL : q < L p := by omega
                    obtain ⟨bc, oc, hA, hcc⟩ := hra q hqL
                    rw [hA] at hca
                    have hc3 := hG.top x hxn
                    have hc4 := (hG.cell x y hxn hyn).1
                    have hf4 := (hG.cell x y hxn hyn).2
                    have hgx := (hG.rows x hxn).1
                    have HX := Lib.hid hx
                    have HY := Lib.hid hy
                    have Gr := Lib.hid hG
                    have HB := Lib.hid hB
                    clear hx hy hG hB hra hA hLp
                    go_wp2
                    go_still_tail 19, (by kernel_rfl)
                    go_wp2
                    go_roundw
                    case rel =>
                      refine ⟨q + 1, by omega, by go_num, ((Gr.out.set hxn hyn (Z p q)).congr fun r s hr hs => partN_step HD.out hplt hqlt HX.out HY.out hr hs).drew, (HB.out.setCell (p := ⟨G x, y, none⟩) (by show w.heap.size ≤ G x; exact hgx) _).drew⟩
                    case measure => simp [intOf]; omega
                  · obtain rfl : q = i := by omega
                    have Gr := Lib.hid hG
                    have HB := Lib.hid hB
                    clear hG hB
                    go_wp2
                    go_roundw
                    case rel => exact ⟨p + 1, by omega, by go_num, Gr.out.congr (fun r s hr hs => partN_row HD.out hs), HB.out⟩
                    case measure => simp [intOf]; omega
              · obtain rfl : p = i := by omega
                go_wp2
                go_ret2
                exact ⟨_, _, _, _, by rw [T3.out, T4.out]; rfl, by rw [T4.out]; exact (Gr.out.congr fun r s hr hs => partN_all HD.out hr).ownT, HB.out⟩
      · have T2 := Lib.hid (tt_no hd)
        have T3 := Lib.hid (tt_no (show ¬ NamedOk m m L Z W from fun h => hd h.2.2))
        have T4 := Lib.hid (namedN_no (show ¬ NamedOk m m L Z W from fun h => hd h.2.2))
        have hq : ((m : Int) != m) = false := by simp
        clear hd
        go_enter Try.func38, Try.ntmps38
        go_wp2_with (first
          | (go_at_call 55; refine (specRateIn_any m c a A L C Z _ hn0 HL.out (HA.out.below (Nat.le_refl _) (below_alloc (Below.refl _ _) _))).mono ?_; rintro e w' ⟨rfl, rfl⟩; rw [T1.out])
          | (go_at_call 84; refine (l1Every_any m d b W _ (by omega) (HP.out.below (Nat.le_refl _) (below_alloc (Below.refl _ _) _))).mono ?_; rintro e w' ⟨rfl, rfl⟩; rw [T2.out]))
        go_ret2
        exact ⟨_, _, fun _ => none, fun _ => 0, by rw [T3.out, T4.out]; rfl, .inl T4.out, below_alloc (Below.refl _ _) _⟩
    · have T3 := Lib.hid (tt_no (show ¬ NamedOk n m L Z W from fun h => hmn h.2.1))
      have T4 := Lib.hid (namedN_no (show ¬ NamedOk n m L Z W from fun h => hmn h.2.1))
      have hq : ((m : Int) != n) = true := by simp only [bne_iff_ne, ne_eq]; omega
      go_enter Try.func38, Try.ntmps38
      go_wp2_with (go_at_call 55; refine (specRateIn_any n c a A L C Z _ hn0 HL.out (HA.out.below (Nat.le_refl _) (below_alloc (Below.refl _ _) _))).mono ?_; rintro e w' ⟨rfl, rfl⟩; rw [T1.out])
      go_ret2
      exact ⟨_, _, fun _ => none, fun _ => 0, by rw [T3.out, T4.out]; rfl, .inl T4.out, below_alloc (Below.refl _ _) _⟩
  · have T1 := Lib.hid (tt_no hr)
    have T3 := Lib.hid (tt_no (show ¬ NamedOk n m L Z W from fun h => hr h.1))
    have T4 := Lib.hid (namedN_no (show ¬ NamedOk n m L Z W from fun h => hr h.1))
    clear hr
    go_enter Try.func38, Try.ntmps38
    go_wp2_with (go_at_call 55; refine (specRateIn_any n c a A L C Z _ hn0 HL.out (HA.out.below (Nat.le_refl _) (below_alloc (Below.refl _ _) _))).mono ?_; rintro e w' ⟨rfl, rfl⟩; rw [T1.out])
    go_ret2
    exact ⟨_, _, fun _ => none, fun _ => 0, by rw [T3.out, T4.out]; rfl, .inl T4.out, below_alloc (Below.refl _ _) _⟩
end Go.Proofs.Ytmjbocgoinfamaa
