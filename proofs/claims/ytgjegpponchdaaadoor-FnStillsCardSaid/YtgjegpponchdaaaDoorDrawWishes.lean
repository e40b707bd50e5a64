/- The draw of wishes. -/
import Derived.Test.YtgjegpponchdaaaDoorAppendAny
import Derived.Test.YtgjegpponchdaaaDoorDrawTab
import Derived.Laws.OwnMore
namespace Go.Proofs.YtgjegpponchdaaaDoor
set_option linter.unusedVariables false
open Go.RowKit

set_option maxHeartbeats 6400000 in
set_option maxRecDepth 100000 in
theorem l91Wishes_any (r n c p q : Nat) (a : Option Addr) (B : Nat → Nat) (w : World) (hR : RdrAt w r a n c p) (hb : RdB w a n B) (hab : 0 < n → ∀ b o, a = some ⟨b, o, none⟩ → b < w.heap.size ∧ b ≠ r) (hn : n ≤ 2000) (hp : p ≤ 1000) (hq2 : 2 ≤ q) (hq5 : q ≤ 5) :
    Calls Tryd.prog 43 #[.pointer (some ⟨r, 0, none⟩), .int .i64 q] w (DrewTab r a n c p w) := by
  obtain ⟨i0, hi, hz0, hz1, hz2⟩ := info_parts Tryd.infoInt
  obtain ⟨i1, hj, hy0, hy1, hy2⟩ := info_parts Tryd.infoInts
  have hrl := hR.lt
  have HR0 := Lib.hid hR
  have HB := Lib.hid hb
  have HAL := Lib.hid hab
  have HAB := Lib.hid (show 0 < n → ∀ b o, a = some ⟨b, o, none⟩ → b ≠ r from fun h0 b o e => (hab h0 b o e).2)
  clear hR hb hab
  go_enter Tryd.func43, Tryd.ntmps43
  go_wp2_with fail
  rw [show ((q : Int) - 1) = ((q - 1 : Nat) : Int) by omega]
  refine (pick_any r n c p (q - 1) a B _ HR0.out HB.out HAB.out hn (by omega) (by omega) (by omega)).mono ?_
  rintro e w1 ⟨x, rfl, hx, hR1, hK1⟩
  have HR1 := Lib.hid (hR1.alloc (.cells #[] 23))
  have hs1 : w1.heap.size = w.heap.size := hK1.size
  have HU1 := Lib.hid ((ButR.keeps (B := w.heap.size) hK1).alloc (by omega) (.cells #[] 23))
  have hrl1 : r < w1.heap.size := by omega
  have S1 := Lib.hid hs1
  clear hR1 hK1 hs1
  obtain ⟨N, hN⟩ : ∃ N, N = 2 + x := ⟨_, rfl⟩
  have hN2 : 2 ≤ N := by omega
  have hN5 : N ≤ 5 := by omega
  have hNx : (2 : Int) + (x : Int) = (N : Int) := by omega
  clear hN
  go_wp2
  clear hNx
  have M0 := Lib.hid (Making.start 23 w1.heap.size (w1.alloc (.cells #[] 23)) (.slice (some ⟨w1.heap.size, 0, none⟩) 0 0) (fun _ => 0) (fun _ => 0) (fun _ => N) (fun _ _ => 0) (World.ownsRow_made w1 #[] 0 (Nat.le_refl _) (Nat.zero_le _) (by simp)))
  go_loopw [6, 7] (fun out s wr => ∃ i : Nat, i ≤ N ∧ s = .int .i64 i ∧ ∃ v G Cp XX pi, v = out ∧ Making 23 w1.heap.size wr v i G Cp (fun _ => N) XX ∧ (∀ s, s < i → N ≤ Cp s) ∧ RdrAt wr r a n c pi ∧ pi ≤ p + 1 + 10 * i ∧ w1.heap.size ≤ wr.heap.size ∧ ButR r w.heap.size w wr) (fun _ s _ => N - (intOf s).toNat)
  case atStart => exact ⟨0, Nat.zero_le _, rfl, _, _, _, _, p + 1, rfl, M0.out, fun s hs => absurd hs (Nat.not_lt_zero _), HR1.out, by omega, by simp, HU1.out⟩
  case round =>
    obtain ⟨i, hik, rfl, ov, G, Cp, XX, pi, rfl, hM, hCp, hRi, hpi, hsi, hUi⟩ := hrel
    clear M0 HR1 HU1
    have HM := Lib.hid hM
    have HCp := Lib.hid hCp
    have HRi := Lib.hid hRi
    have HUi := Lib.hid hUi
    clear hM hCp hRi hUi
    by_cases hil : i < N
    · go_wp2
      obtain ⟨wo, rfl⟩ : ∃ wo : World, wo = wr := ⟨_, rfl⟩
      have hwo : w.heap.size ≤ wo.heap.size := by have := S1.out; omega
      have hrwo : r < wo.heap.size := by omega
      have R0 := Lib.hid (show (wo.alloc (.cells #[] 3)).ownsRow wo.heap.size 3 1 (.slice (some ⟨wo.heap.size, 0, none⟩) 0 0) 0 (cellsL 0 (fun _ => 0)) from World.ownsRow_made wo #[] 0 (Nat.le_refl _) (Nat.zero_le _) (by simp))
      have HRr := Lib.hid (HRi.out.alloc (.cells #[] 3))
      have U0 := Lib.hid ((ButR.refl r wo.heap.size wo).alloc (Nat.le_refl _) (.cells #[] 3))
      go_loopw [8, 9, 10] (fun row s _ wi => ∃ k : Nat, k ≤ N ∧ s = .int .i64 k ∧ ∃ g cap Y pk, row = .slice (some ⟨g, 0, none⟩) k cap ∧ wi.ownsRow wo.heap.size 3 1 (.slice (some ⟨g, 0, none⟩) k cap) k (cellsL k Y) ∧ RdrAt wi r a n c pk ∧ pk ≤ pi + k ∧ ButR r wo.heap.size wo wi) (fun _ s _ _ => N - (intOf s).toNat)
      case atStart => exact ⟨0, Nat.zero_le _, rfl, wo.heap.size, 0, fun _ => 0, pi, rfl, R0.out, HRr.out, by omega, U0.out⟩
      case round =>
        obtain ⟨k, hk, rfl, g, cap, Y, pk, rfl, hown, hR, hpk, hU⟩ := hrel
        clear R0 HRr U0
        have HO := Lib.hid hown
        have HR := Lib.hid hR
        have HU := Lib.hid hU
        have hsz := hU.size
        obtain ⟨hkc, hgb, hglt⟩ := owns_cap hown
        clear hown hR hU
        by_cases hlt : k < N
        · go_wp2_with fail
          rw [show ((k : Int) + 1) = ((k + 1 : Nat) : Int) by omega]
          refine (pick_any r n c pk (k + 1) a B _ HR.out (HB.out.but HAL.out (HUi.out.trans (HU.out.mono hwo))) HAB.out hn (by omega) (by omega) (by omega)).mono ?_
          rintro e w5 ⟨x, rfl, hx, hR5, hK5⟩
          have HR5 := Lib.hid hR5
          have hs5 : w5.heap.size = wr.heap.size := hK5.size
          have HU5 := Lib.hid (HU.out.trans (ButR.keeps hK5))
          have O5 := Lib.hid (owns_but HO.out hrwo hK5)
          have RX := Lib.hid (show Rd w5 (some ⟨g, 0, none⟩) x Y from fun j hj => owns_rd O5.out j (by omega))
          obtain ⟨o', hif, ho'⟩ : ∃ o' : Nat, (if cap = x then some (⟨g, 0, none⟩ : Addr) else some ⟨g, x, none⟩) = some ⟨g, o', none⟩ ∧ (cap = x ∨ o' = x) := by
            by_cases e : cap = x
            · exact ⟨0, by rw [if_pos e], .inl e⟩
            · exact ⟨x, by rw [if_neg e], .inr rfl⟩
          have RY := Lib.hid (show Rd w5 (some ⟨g, o', none⟩) (k - x) (fun j => Y (x + j)) from fun j hj => by
            obtain ⟨b', q', he, hc⟩ := owns_rd O5.out (x + j) (by omega)
            simp only [Option.some.injEq, Addr.mk.injEq, and_true] at he
            obtain ⟨rfl, rfl⟩ := he
            rw [Nat.zero_add] at hc
            have e : o' = x := by omega
            subst e
            exact ⟨g, o', rfl, hc⟩)
          clear ho'
          have hx1 : (x : Int) ≤ (k : Int) := by omega
          have hx2 : (x : Int) ≤ (cap : Int) := by omega
          have hx3 : x ≤ k := by omega
          have hx4 : x ≤ cap := by omega
          have S5 := Lib.hid hs5
          clear hR5 hK5 hs5
          go_wp2
          go_region_law (first
            | (refine step_append_any _ (by rfl) (.tmp 33) (.tmp 36) 23 (by rfl) w5.heap.size 3 i0 Tryd.underlying23 hi hz0 hz1 hz2 _ 0 0 [] (by rfl) (owns_empty (by first | exact heap_alloc_last _ _ | exact (Below.heap_alloc _ _ _ (by simp)).trans (heap_alloc_last _ _) | exact (by have h := heap_alloc_last (w5.alloc (.cells #[.int .i64 k] 3)) (.cells #[] 3); rw [World.size_alloc] at h; exact h)) (by first | exact Nat.le_refl _ | (simp; done) | (simp; omega) | omega)) ⟨g, 0, none⟩ x cap (cellsL x Y) (by rfl) (cellsL_length x Y) (RX.out.news (by repeat (first | assumption | exact Below.refl _ _ | refine Below.drew ?_ | refine below_alloc ?_ _))) (cellsL_one x Y) (by omega) (by first | exact Nat.le_refl _ | (simp; done) | (simp; omega) | omega) ?_; intro g1 cap1 w6 hown1 hgrow1; simp only [Nat.zero_add, List.nil_append] at hown1; have hb1 : Below w5.heap.size w5 w6 := Below.grown (by repeat (first | assumption | exact Below.refl _ _ | refine Below.drew ?_ | refine below_alloc ?_ _)) hgrow1 (by first | exact Nat.le_refl _ | (simp; done) | (simp; omega) | omega) (fun k h => by cases h; first | exact Nat.le_refl _ | simp | omega))
            | (refine step_append_any _ (by rfl) (.tmp 37) (.tmp 39) 23 (by rfl) w5.heap.size 3 i0 Tryd.underlying23 hi hz0 hz1 hz2 g1 x cap1 (cellsL x Y) (by rfl) (by first | exact hown1 | exact hown1.alloc _) ⟨_, 0, none⟩ 1 1 [.int .i64 k] (by rfl) (by rfl) (news_one (by first | (simp; done) | exact hgrow1.cell (by simp) (fun e => by simp at e))) (by simp [Value.oneCell']) (by omega) (by have := hb1.size; first | omega | (simp; omega)) ?_; intro g2 cap2 w7 hown2 hgrow2; have hb2 : Below w5.heap.size w5 w7 := Below.grown (by repeat (first | assumption | exact Below.refl _ _ | refine Below.drew ?_ | refine below_alloc ?_ _)) hgrow2 (by have := hb1.size; first | omega | (simp; omega)) (fun k h => by cases h; exact (owns_cap hown1).2.1))
            | (refine step_append_any _ (by rfl) (.tmp 40) (.tmp 43) 23 (by rfl) w5.heap.size 3 i0 Tryd.underlying23 hi hz0 hz1 hz2 g2 (x + 1) cap2 (cellsL x Y ++ [.int .i64 k]) (by rfl) (by first | exact hown2 | exact hown2.alloc _) ⟨g, o', none⟩ (k - x) _ (cellsL (k - x) fun j => Y (x + j)) (by rfl) (cellsL_length _ _) (RY.out.news (by repeat (first | assumption | exact Below.refl _ _ | refine Below.drew ?_ | refine below_alloc ?_ _))) (cellsL_one _ _) (by omega) (by have := hb2.size; first | omega | (simp; omega)) ?_; intro g3 cap3 w8 hown3 hgrow3; have hb3 : Below w5.heap.size w5 w8 := Below.grown (by repeat (first | assumption | exact Below.refl _ _ | refine Below.drew ?_ | refine below_alloc ?_ _)) hgrow3 (by have := hb2.size; first | omega | (simp; omega)) (fun k h => by cases h; exact (owns_cap hown2).2.1)))
          all_goals
            have el : x + 1 + (k - x) = k + 1 := by omega
            rw [el] at hown3
            obtain ⟨Y', hq⟩ := owns_cells hown3 (by
              intro u hu
              simp only [List.mem_append, cellsL, List.mem_map, List.mem_singleton] at hu
              rcases hu with (⟨_, _, rfl⟩ | rfl) | ⟨_, _, rfl⟩ <;> exact ⟨_, rfl⟩)
            have H3 := Lib.hid hq
            have B3 := Lib.hid hb3
            have EL := Lib.hid el
            clear hown1 hgrow1 hb1 hown2 hgrow2 hb2 hown3 hgrow3 hb3 hq el
            go_wp2
            go_roundw
            case rel =>
              have hs5 := S5.out
              refine ⟨k + 1, by omega, by go_num, g3, cap3, Y', pk + 1, by rw [EL.out], owns_base H3.out (by omega), HR5.out.of_block (B3.out.block r (by omega)), by omega, HU5.out.trans (ButR.below (B3.out.mono (by omega)))⟩
            case measure => simp [intOf]; omega
        · obtain rfl : N = k := by omega
          have hs1 := S1.out
          have HM2 := Lib.hid (making_butR HM.out hrl1 HU.out)
          have HUw := Lib.hid (HUi.out.trans (HU.out.mono hwo))
          have HV := Lib.hid (fun x hx => HM.out.1.lt x hx)
          clear hs1
          by_cases hi0 : i = 0
          · have hd : decide (0 < (i : Int)) = false := by simp; omega
            have hd2 : decide (0 < i) = false := by simp; omega
            clear hi0
            have HROW := Lib.hid (OwnR.of_owns HO.out)
            have hltr := HO.out.lt g rfl
            go_wp2_with (at_builtin; refine wpList_append_lies _ (by rfl) (.tmp 59) (.tmp 61) 22 (by rfl) w1.heap.size 23 i1 (.slice none 0 0) 1 24 Tryd.underlying22 hj hy0 hy1 hy2 (by rfl) (by decide) ov i ((List.range i).map fun r => .slice (some ⟨G r, 0, none⟩) N (Cp r)) (by rfl) (HM2.out.1.alloc _) ⟨_, 0, none⟩ 1 1 [.slice (some ⟨g, 0, none⟩) N cap] (by rfl) (by rfl) (news_one (by simp)) (by simp [Value.oneCell']) (by omega) (by unfold maxLen; omega) (by omega) (by first | omega | (simp; omega)) _ rfl ?_; intro g2 cap2 w2 hown2 hgrow2 hat2 hlt2; have N2 := Lib.hid hown2; have G2' := Lib.hid hgrow2; have A2 := Lib.hid hat2; clear hown2 hgrow2 hat2)
            have hs1 := S1.out
            go_roundw
            case rel =>
              refine ⟨i + 1, by omega, by go_num, _, (fun s => if s < i then G s else g), (fun s => if s < i then Cp s else cap), (fun s => if s < i then XX s else Y), pk, rfl, ?_, ?_, (HR.out.alloc _).grown G2'.out (fun e => by have := (HV.out r e).1; omega), by omega, by have := G2'.out.size; simp at this; omega, (HUw.out.alloc (by omega) _).grown G2'.out (by simp; omega) (fun x hx => by have := (HV.out x hx).1; omega)⟩
              · refine Making.next (w := wr.alloc _) ((making_same HM2.out (fun s hs => by show XX s = (if s < i then XX s else Y); rw [if_pos hs])).below (below_alloc (Below.refl _ _) _)) (by show OwnR _ g _ N (if i < i then XX i else Y); rw [if_neg (Nat.lt_irrefl _)]; exact HROW.out.of_block (Below.heap_alloc _ _ _ hltr.2)) (by omega) (by simp; omega) (fun h => by have := HV.out g h; omega) (fun s hs e => by have := (HM.out.2.1 s hs).2.1; omega) N2.out G2'.out A2.out (Nat.le_refl _)
              · intro s hs
                show N ≤ (if s < i then Cp s else cap)
                by_cases e : s < i
                · rw [if_pos e]; exact HCp.out s e
                · rw [if_neg e]; omega
            case measure => simp [intOf]; omega
          · have hd : decide (0 < (i : Int)) = true := by simp; omega
            have hd2 : decide (0 < i) = true := by simp; omega
            have hi1 : 0 < i := by omega
            clear hi0
            go_wp2_with fail
            refine (pick_any r n c pk 4 a B _ HR.out (HB.out.but HAL.out HUw.out) HAB.out hn (by omega) (by omega) (by omega)).mono ?_
            rintro e w6 ⟨y, rfl, hy, hR6, hK6⟩
            have HR6 := Lib.hid hR6
            have HM6 := Lib.hid (making_but HM2.out hrl1 hK6)
            have O6 := Lib.hid (owns_but HO.out hrwo hK6)
            have HU6 := Lib.hid (HUw.out.trans (ButR.keeps hK6))
            have hs6 : w6.heap.size = wr.heap.size := hK6.size
            have S6 := Lib.hid hs6
            clear hR6 hK6 hs6
            by_cases hyz : y = 0
            · subst hyz
              obtain ⟨j, hj1⟩ : ∃ j, i = j + 1 := ⟨i - 1, by omega⟩
              obtain ⟨go, co, hov⟩ := owns_form HM6.out.1 hi1
              have HM6' := HM6.out
              rw [hov] at HM6'
              obtain ⟨b', o', e', hcj, hrj⟩ := HM6'.ownT.tab j (by omega)
              simp only [Option.some.injEq, Addr.mk.injEq, and_true] at e'
              obtain ⟨rfl, rfl⟩ := e'
              rw [Nat.zero_add] at hcj
              have RQ := Lib.hid hrj
              have hcj2 : (w6.alloc (.cells #[] 3)).cell? ⟨go, j, none⟩ = some (.slice (some ⟨G j, 0, none⟩) N (Cp j)) := (World.cell?_of_block (w := w6) (a := ⟨go, j, none⟩) (Below.heap_alloc _ _ _ (World.block_lt_of_cell? _ _ hcj))).trans hcj
              clear hcj
              have hjw : IntKind.i64.wrap ((i : Int) - 1) = (j : Int) := by rw [IntWalk.i64_in _ (by omega)]; omega
              have hjj : (i : Int) - 1 = (j : Int) := by omega
              have hji : (j : Int) < (i : Int) := by omega
              have hji2 : j < i := by omega
              have HOV := Lib.hid hov
              have HJ := Lib.hid hj1
              clear HM6' hrj hj1
              subst hov
              go_wp2_with (first
                | (at_builtin; refine wpList_append_any _ (by rfl) (.tmp 52) (.tmp 57) 23 (by rfl) w6.heap.size 3 i0 Tryd.underlying23 hi hz0 hz1 hz2 _ 0 0 [] (by rfl) (owns_empty (heap_alloc_last _ _) (by first | exact Nat.le_refl _ | (simp; done) | (simp; omega) | omega)) ⟨G j, 0, none⟩ N (Cp j) (cellsL N (XX j)) (by rfl) (cellsL_length _ _) (RQ.out.news (by repeat (first | assumption | exact Below.refl _ _ | refine Below.drew ?_ | refine below_alloc ?_ _))) (cellsL_one _ _) (by omega) (by first | exact Nat.le_refl _ | (simp; done) | (simp; omega) | omega) ?_; intro g1 cap1 w7 hown1 hgrow1; simp only [Nat.zero_add, List.nil_append] at hown1; have hb1 : Below w6.heap.size w6 w7 := Below.grown (by repeat (first | assumption | exact Below.refl _ _ | refine Below.drew ?_ | refine below_alloc ?_ _)) hgrow1 (by first | exact Nat.le_refl _ | (simp; done) | (simp; omega) | omega) (fun k h => by cases h; first | exact Nat.le_refl _ | simp | omega); have O7 := Lib.hid hown1; have HB7 := Lib.hid hb1; have HM7 := Lib.hid (HM6.out.below hb1); have HROW := Lib.hid (OwnR.of_owns hown1); have hltr := hown1.lt g1 rfl; have hcp1 := (owns_cap hown1).1; have hs7 := hb1.size; have hle7 : w1.heap.size ≤ w7.heap.size := (by have h2 := S6.out; omega); clear hown1 hgrow1 hb1)
                | (at_builtin; refine wpList_append_lies _ (by rfl) (.tmp 59) (.tmp 61) 22 (by rfl) w1.heap.size 23 i1 (.slice none 0 0) 1 24 Tryd.underlying22 hj hy0 hy1 hy2 (by rfl) (by decide) (.slice (some ⟨go, 0, none⟩) i co) i ((List.range i).map fun r => .slice (some ⟨G r, 0, none⟩) N (Cp r)) (by rfl) (HM7.out.1.alloc _) ⟨_, 0, none⟩ 1 1 [.slice (some ⟨g1, 0, none⟩) N cap1] (by rfl) (by rfl) (news_one (by simp)) (by simp [Value.oneCell']) (by omega) (by unfold maxLen; omega) (by omega) (by first | omega | (simp; omega)) _ rfl ?_; intro g2 cap2 w2 hown2 hgrow2 hat2 hlt2; have N2 := Lib.hid hown2; have G2' := Lib.hid hgrow2; have A2 := Lib.hid hat2; clear hown2 hgrow2 hat2))
              have hs6 := S6.out
              have hs1 := S1.out
              have HR7 := Lib.hid (HR6.out.of_block (HB7.out.block r (by omega)))
              have HU7 := Lib.hid (HU6.out.trans (ButR.below (HB7.out.mono (by omega))))
              go_roundw
              case rel =>
                refine ⟨i + 1, by omega, by go_num, _, (fun s => if s < i then G s else g1), (fun s => if s < i then Cp s else cap1), (fun s => if s < i then XX s else (XX j)), pk + 1, rfl, ?_, ?_, (HR7.out.alloc _).grown G2'.out (fun e => by have := (HV.out r e).1; omega), by omega, by have := G2'.out.size; simp at this; omega, (HU7.out.alloc (by omega) _).grown G2'.out (by simp; omega) (fun x hx => by have := (HV.out x hx).1; omega)⟩
                · refine Making.next (w := w7.alloc _) ((making_same HM7.out (fun s hs => by show XX s = (if s < i then XX s else (XX j)); rw [if_pos hs])).below (below_alloc (Below.refl _ _) _)) (by show OwnR _ g1 _ N (if i < i then XX i else (XX j)); rw [if_neg (Nat.lt_irrefl _)]; exact HROW.out.of_block (Below.heap_alloc _ _ _ hltr.2)) (by omega) (by simp; omega) (fun h => by have := HV.out g1 h; omega) (fun s hs e => by have := (HM.out.2.1 s hs).2.1; omega) N2.out G2'.out A2.out (Nat.le_refl _)
                · intro s hs
                  show N ≤ (if s < i then Cp s else cap1)
                  by_cases e : s < i
                  · rw [if_pos e]; exact HCp.out s e
                  · rw [if_neg e]; omega
              case measure => simp [intOf]; omega
            · have hne : ((y : Int) == 0) = false := beq_eq_false_iff_ne.2 (by omega)
              have HROW := Lib.hid (OwnR.of_owns O6.out)
              have hltr := O6.out.lt g rfl
              go_wp2_with (at_builtin; refine wpList_append_lies _ (by rfl) (.tmp 59) (.tmp 61) 22 (by rfl) w1.heap.size 23 i1 (.slice none 0 0) 1 24 Tryd.underlying22 hj hy0 hy1 hy2 (by rfl) (by decide) ov i ((List.range i).map fun r => .slice (some ⟨G r, 0, none⟩) N (Cp r)) (by rfl) (HM6.out.1.alloc _) ⟨_, 0, none⟩ 1 1 [.slice (some ⟨g, 0, none⟩) N cap] (by rfl) (by rfl) (news_one (by simp)) (by simp [Value.oneCell']) (by omega) (by unfold maxLen; omega) (by omega) (by first | omega | (simp; omega)) _ rfl ?_; intro g2 cap2 w2 hown2 hgrow2 hat2 hlt2; have N2 := Lib.hid hown2; have G2' := Lib.hid hgrow2; have A2 := Lib.hid hat2; clear hown2 hgrow2 hat2)
              have hs1 := S1.out
              have hs6 := S6.out
              go_roundw
              case rel =>
                refine ⟨i + 1, by omega, by go_num, _, (fun s => if s < i then G s else g), (fun s => if s < i then Cp s else cap), (fun s => if s < i then XX s else Y), pk + 1, rfl, ?_, ?_, (HR6.out.alloc _).grown G2'.out (fun e => by have := (HV.out r e).1; omega), by omega, by have := G2'.out.size; simp at this; omega, (HU6.out.alloc (by omega) _).grown G2'.out (by simp; omega) (fun x hx => by have := (HV.out x hx).1; omega)⟩
                · refine Making.next (w := w6.alloc _) ((making_same HM6.out (fun s hs => by show XX s = (if s < i then XX s else Y); rw [if_pos hs])).below (below_alloc (Below.refl _ _) _)) (by show OwnR _ g _ N (if i < i then XX i else Y); rw [if_neg (Nat.lt_irrefl _)]; exact HROW.out.of_block (Below.heap_alloc _ _ _ hltr.2)) (by omega) (by simp; omega) (fun h => by have := HV.out g h; omega) (fun s hs e => by have := (HM.out.2.1 s hs).2.1; omega) N2.out G2'.out A2.out (Nat.le_refl _)
                · intro s hs
                  show N ≤ (if s < i then Cp s else cap)
                  by_cases e : s < i
                  · rw [if_pos e]; exact HCp.out s e
                  · rw [if_neg e]; omega
              case measure => simp [intOf]; omega
    · obtain rfl : N = i := by omega
      obtain ⟨go, co, rfl⟩ := owns_form HM.out.1 (by omega)
      have hcapo := (owns_cap HM.out.1).1
      go_wp2_with fail
      refine (pick_any r n c pi 50 a B _ HRi.out (HB.out.but HAL.out HUi.out) HAB.out hn (by omega) (by omega) (by omega)).mono ?_
      rintro e w7 ⟨u, rfl, hu, hR7, hK7⟩
      have M7 := Lib.hid (making_but HM.out hrl1 hK7)
      have HR7 := Lib.hid hR7
      have U7 := Lib.hid (HUi.out.trans (ButR.keeps hK7))
      have T7 := Lib.hid M7.out.ownT.tab
      have hgo := M7.out.1.lt go rfl
      have AG7 := Lib.hid (show w.heap.size ≤ go by have := S1.out; have := hgo.1; omega)
      have AP7 := Lib.hid (show ∀ s, s < N → w.heap.size ≤ G s from fun s hs => by have := S1.out; have := (M7.out.2.1 s hs).1; omega)
      clear hR7 hK7 hgo
      by_cases hu0 : u = 0
      · subst hu0
        have hd : (((0 : Nat) : Int) == 0) = true := by decide
        have hct := M7.out.1.cells (g := go) rfl 0 (.slice (some ⟨G 0, 0, none⟩) N (Cp 0)) (by simp [show 0 < N by omega])
        rw [Go.WideShapes.add_plain, Nat.zero_add] at hct
        obtain ⟨hG1, hG2, hG3, hG4⟩ := M7.out.2.1 0 (by omega)
        have hne : go ≠ G 0 := fun e => hG3 (by rw [← e]; rfl)
        have hrG : r ≠ G 0 := by omega
        obtain ⟨hc1, hf1⟩ : w7.cell? ⟨G 0, 0, none⟩ = some (.int .i64 (XX 0 0)) ∧ w7.frozen? ⟨G 0, 0, none⟩ = false := by
          rcases hG4 with h0 | ⟨o, ha, hc⟩
          · have h0' : N = 0 := h0
            omega
          · simp only [Option.some.injEq, Addr.mk.injEq, true_and, and_true] at ha
            subst ha
            exact hc 0 (show 0 < N by omega)
        have HC1 := Lib.hid hc1
        clear hG3 hG4
        go_wp2
        go_ret
        refine ⟨some ⟨go, 0, none⟩, N, co, fun s => some ⟨G s, 0, none⟩, fun _ => N, Cp, (fun s k => if s = 0 ∧ k = 0 then (N : Int) else XX s k), pi + 1, rfl, ⟨by omega, by omega⟩, ⟨fun s hs => by show N ≤ 5; omega, fun b o e => by cases e; exact AG7.out, fun s hs b o e => by cases e; exact AP7.out s hs⟩, ?_, HR7.out.of_block (Below.heap_setCell _ _ _ _ hrG), by omega, U7.out.setCell (p := ⟨G 0, 0, none⟩) (by show w.heap.size ≤ G 0; exact AP7.out 0 (by omega)) _⟩
        intro s hs
        obtain ⟨b', o', e', hc', hr'⟩ := T7.out s hs
        cases e'
        refine ⟨go, 0, rfl, ?_, fun k hk => ?_⟩
        · rw [World.cell?_of_block (w := w7) (a := ⟨go, 0 + s, none⟩) (Below.heap_setCell _ _ _ _ hne)]; exact hc'
        · obtain ⟨b2, o2, e2, hc2⟩ := hr' k hk
          refine ⟨b2, o2, e2, ?_⟩
          cases e2
          rw [Nat.zero_add] at hc2 ⊢
          show _ = some (Value.int .i64 (if s = 0 ∧ k = 0 then (N : Int) else XX s k))
          by_cases hs0 : s = 0 ∧ k = 0
          · obtain ⟨rfl, rfl⟩ := hs0
            rw [if_pos ⟨rfl, rfl⟩]
            exact World.cell?_setCell_same _ _ _ HC1.out
          · rw [if_neg hs0, World.cell?_setCell_other _ _ _ _ (fun e' => hs0 ?_)]
            · exact hc2
            · injection e' with e1 e2'
              refine ⟨?_, e2'.symm⟩
              rcases Nat.eq_zero_or_pos s with h' | h'
              · exact h'
              · exact absurd e1 (M7.out.2.2 0 s (by omega) hs (by omega))
      · have hd0 : ((u : Int) == 0) = false := by simp; omega
        by_cases hu1 : u = 1
        · subst hu1
          have hd1 : (((1 : Nat) : Int) == 1) = true := by decide
          obtain ⟨j, hj1⟩ : ∃ j, N = j + 1 := ⟨N - 1, by omega⟩
          have hjN : j < N := by omega
          have hji : (j : Int) < (N : Int) := by omega
          have hjw : IntKind.i64.wrap ((N : Int) - 1) = (j : Int) := by rw [IntWalk.i64_in _ (by omega)]; omega
          have hjj : (N : Int) - 1 = (j : Int) := by omega
          have hcpj := HCp.out j hjN
          have hcp2 : 2 ≤ Cp j := by omega
          obtain ⟨b', o', e', hcj, hrj⟩ := T7.out j hjN
          simp only [Option.some.injEq, Addr.mk.injEq, and_true] at e'
          obtain ⟨rfl, rfl⟩ := e'
          rw [Nat.zero_add] at hcj
          have hfj : w7.frozen? ⟨go, j, none⟩ = false := World.ownsRow.frozenAt M7.out.1 j
          have RJ := Lib.hid hrj
          have HCJ := Lib.hid hcj
          have hneG : ∀ s, s < N → go ≠ G s := fun s hs e => (M7.out.2.1 s hs).2.2.1 (by rw [← e]; rfl)
          have HNG := Lib.hid hneG
          have HJ := Lib.hid hj1
          have hrgo : r ≠ go := fun e => by have := AG7.out; omega
          clear hrj hneG hj1
          go_wp2
          go_ret
          refine ⟨some ⟨go, 0, none⟩, N, co, (fun s => if s = j then some ⟨G j, 1, none⟩ else some ⟨G s, 0, none⟩), (fun s => if s = j then N - 1 else N), (fun s => if s = j then Cp j - 1 else Cp s), (fun s k => if s = j then XX j (k + 1) else XX s k), pi + 1, rfl, ⟨by omega, by omega⟩, ⟨fun s hs => by show (if s = j then N - 1 else N) ≤ 5; split <;> omega, fun b o e => by cases e; exact AG7.out, fun s hs b o e => ?_⟩, ?_, HR7.out.of_block (Below.heap_setCell _ _ _ _ hrgo), by omega, U7.out.setCell (p := ⟨go, j, none⟩) (by show w.heap.size ≤ go; exact AG7.out) _⟩
          · have e' : (if s = j then some (⟨G j, 1, none⟩ : Addr) else some ⟨G s, 0, none⟩) = some ⟨b, o, none⟩ := e
            by_cases h : s = j
            · rw [if_pos h] at e'; cases e'; exact AP7.out j hjN
            · rw [if_neg h] at e'; cases e'; exact AP7.out s hs
          · intro s hs
            by_cases h : s = j
            · subst h
              refine ⟨go, 0, rfl, ?_, fun k hk => ?_⟩
              · rw [Nat.zero_add]
                show _ = some (Value.slice (if s = s then some ⟨G s, 1, none⟩ else some ⟨G s, 0, none⟩) (if s = s then N - 1 else N) (if s = s then Cp s - 1 else Cp s))
                rw [if_pos rfl, if_pos rfl, if_pos rfl]
                exact World.cell?_setCell_same _ _ _ HCJ.out
              · have hk' : k < (if s = s then N - 1 else N) := hk
                rw [if_pos rfl] at hk'
                obtain ⟨b2, o2, e2, hc2⟩ := RJ.out (k + 1) (by omega)
                cases e2
                refine ⟨G s, 1, by show (if s = s then some (⟨G s, 1, none⟩ : Addr) else some ⟨G s, 0, none⟩) = _; rw [if_pos rfl], ?_⟩
                show _ = some (Value.int .i64 (if s = s then XX s (k + 1) else XX s k))
                rw [if_pos rfl, World.cell?_of_block (w := w7) (a := ⟨G s, 1 + k, none⟩) (Below.heap_setCell _ _ _ _ (fun e => HNG.out s hs e.symm)), ← hc2, Nat.zero_add, Nat.add_comm 1 k]
            · obtain ⟨b', o', e', hc', hr'⟩ := T7.out s hs
              cases e'
              refine ⟨go, 0, rfl, ?_, fun k hk => ?_⟩
              · show _ = some (Value.slice (if s = j then some ⟨G j, 1, none⟩ else some ⟨G s, 0, none⟩) (if s = j then N - 1 else N) (if s = j then Cp j - 1 else Cp s))
                rw [if_neg h, if_neg h, if_neg h, World.cell?_setCell_other _ _ _ _ (fun e' => h (by injection e' with e1 e2'; omega))]
                exact hc'
              · have hk' : k < (if s = j then N - 1 else N) := hk
                rw [if_neg h] at hk'
                obtain ⟨b2, o2, e2, hc2⟩ := hr' k hk'
                cases e2
                refine ⟨G s, 0, by show (if s = j then some (⟨G j, 1, none⟩ : Addr) else some ⟨G s, 0, none⟩) = _; rw [if_neg h], ?_⟩
                show _ = some (Value.int .i64 (if s = j then XX j (k + 1) else XX s k))
                rw [if_neg h, World.cell?_of_block (w := w7) (a := ⟨G s, 0 + k, none⟩) (Below.heap_setCell _ _ _ _ (fun e => HNG.out s hs e.symm))]
                exact hc2
        · have hd1 : ((u : Int) == 1) = false := by simp; omega
          go_wp2
          go_ret
          exact ⟨some ⟨go, 0, none⟩, N, co, fun s => some ⟨G s, 0, none⟩, fun _ => N, Cp, XX, pi + 1, rfl, ⟨by omega, by omega⟩, ⟨fun s hs => by show N ≤ 5; omega, fun b o e => by cases e; exact AG7.out, fun s hs b o e => by cases e; exact AP7.out s hs⟩, T7.out, HR7.out, by omega, U7.out⟩
end Go.Proofs.YtgjegpponchdaaaDoor
