/- The model's WantCircles. -/
import Derived.Test.YtamglhpgdaoaoaaWantCircles
import Derived.Test.YtamglhpgdaoaoaaL6wCircle
import Derived.Test.YtamglhpgdaoaoaaInfoInts
import Derived.Test.YtamglhpgdaoaoaaOnModel
namespace Go.Proofs.Ytamglhpgdaoaoaa
set_option linter.unusedVariables false
set_option linter.unusedSimpArgs false
open Go.RowKit

set_option maxRecDepth 100000 in
set_option maxHeartbeats 3200000 in
theorem l6wCircles_any (n cw : Nat) (aw : Option Addr) (W : Nat → Int) (k : Nat) (hW : IsWants n W) (hk6 : k ≤ n) (f : Nat) : ∀ (B : List Int) (m c ba oa : Nat) (w : World), Diff n B → m = B.length → m + f = k → Rd w aw n W → ba < w.heap.size → Rd w (some ⟨ba, oa, none⟩) m (nth B) →
    Calls Try.prog 51 #[.slice aw n cw, .int .i64 k, .slice (some ⟨ba, oa, none⟩) m c] w (RetLS 23 (circs n W f B) w) := by
  have hn2 := hW.1.1
  have hn6 := hW.1.2
  have HW := Lib.hid hW
  clear hW
  obtain ⟨i0, hi, hz0, hz1, hz2⟩ := info_parts Try.infoInt
  obtain ⟨i1, hj, hy0, hy1, hy2⟩ := info_parts Try.infoInts
  induction f using Nat.strongRecOn with
  | ind f ih =>
    intro B m c ba oa w hd hm hf haw hba ha
    subst hm
    have IH := Lib.hid ih
    have HD := Lib.hid hd
    have HA := Lib.hid ha
    have HAW := Lib.hid haw
    have HC := Lib.hid (fun w' (hb : Below w.heap.size w w') => l6wCircle_any n cw B.length c aw (some ⟨ba, oa, none⟩) W (nth B) w' HW.out (by omega) (haw.below (Nat.le_refl _) hb) (ha.below (Nat.le_refl _) hb))
    have M0 := Lib.hid (Making.start 23 w.heap.size (w.alloc (.cells #[] 23)) (.slice (some ⟨w.heap.size, 0, none⟩) 0 0) (fun _ => 0) (fun _ => 0) (lenL []) (nthL []) (World.ownsRow_made w #[] 0 (Nat.le_refl _) (Nat.zero_le _) (by simp)))
    clear hd ha haw ih
    by_cases hf0 : f = 0
    · have hz : ((B.length : Int) == (k : Int)) = true := by simp; omega
      have HE := Lib.hid (show circs n W f B = circ1 n W B by rw [hf0]; rfl)
      clear hf0
      by_cases hc : IsCirc n W B.length (nth B)
      case' pos =>
        have T1 := Lib.hid (tt_of hc)
        have E1 := Lib.hid (show circ1 n W B = [B] by unfold circ1; rw [T1.out]; rfl)
        clear hc
        go_enter Try.func51, Try.ntmps51
        go_wp2_with (first
          | (go_at_call 58; refine (HC.out _ (below_alloc (Below.refl _ _) _)).mono ?_; rintro e w1 ⟨rfl, hb1⟩; rw [T1.out]; have M1 := Lib.hid (M0.out.below hb1); have B1 := Lib.hid ((below_alloc (Below.refl w.heap.size w) (.cells #[] 23)).trans (hb1.mono (by simp))); clear hb1)
          | (at_builtin; refine wpList_append_rows _ (by rfl) (.tmp 16) (.tmp 17) 23 (by rfl) w1.heap.size 3 i0 (.int .i64 0) 8 Try.underlying23 hi hz0 hz1 hz2 (by rfl) w1.heap.size 0 0 [] (by rfl) (World.ownsRow_made w1 #[] 0 (Nat.le_refl _) (Nat.zero_le _) (by simp)) ⟨ba, oa, none⟩ B.length c (cellsL B.length (nth B)) (by rfl) (cellsL_length _ _) (HA.out.news (below_alloc B1.out _)) (cellsL_one _ _) (by unfold maxLen; omega) (by omega) (by simp) _ rfl ?_; intro g1 cap1 w2 hown1 hgrow1 hat1; simp only [Nat.zero_add, List.nil_append] at hown1 ⊢; have hl1 := hown1.lt g1 rfl; have O1 := Lib.hid (OwnR.of_owns hown1); have hb2 := (below_alloc (Below.refl w1.heap.size w1) (.cells #[] 3)).grown hgrow1 (by simp) (fun k h => by cases h; exact Nat.le_refl _); have M2 := Lib.hid (M1.out.below hb2); have B2 := Lib.hid (B1.out.trans (hb2.mono B1.out.size)); have S1 := Lib.hid B1.out.size; clear hown1 hgrow1 hat1 hb2)
          | (at_builtin; refine wpList_append_rows _ (by rfl) (.tmp 15) (.tmp 19) 35 (by rfl) w.heap.size 23 i1 (.slice none 0 0) 24 Try.underlying35 hj hy0 hy1 hy2 (by rfl) w.heap.size 0 0 [] (by rfl) (M2.out.1.alloc _) ⟨_, 0, none⟩ 1 1 [.slice (some ⟨g1, 0, none⟩) B.length cap1] (by rfl) (by rfl) (news_one (by simp)) (by simp [Value.oneCell']) (by unfold maxLen; omega) (by omega) (by have := B2.out.size; simp; omega) _ rfl ?_; intro g2 cap2 w4 hown2 hgrow2 hat2; have N2 := Lib.hid hown2; have G2 := Lib.hid hgrow2; have A2 := Lib.hid hat2; clear hown2 hgrow2 hat2))
        have MS := Lib.hid (Making.next (w := w2.alloc _) (v := .slice (some ⟨w.heap.size, 0, none⟩) 0 0) (L := lenL [B]) (X := nthL [B]) ((M2.out.below (below_alloc (Below.refl _ _) _)).congr (fun r hr => absurd hr (Nat.not_lt_zero _))) (O1.out.of_block (Below.heap_alloc _ _ _ hl1.2)) (by have := S1.out; omega) (by simp; omega) (fun h => by have h3 := M1.out.1.lt w.heap.size rfl; have h4 : w.heap.size = g1 := Option.some.inj h; omega) (fun r hr => absurd hr (Nat.not_lt_zero _)) N2.out G2.out (by rcases A2.out with h | h; exact .inl (congrArg some h); exact .inr h) (Nat.le_refl _))
        have BS := Lib.hid ((below_alloc B2.out (.cells #[.slice (some ⟨g1, 0, none⟩) B.length cap1] 23)).grown G2.out (by have := B2.out.size; simp; omega) (fun x hx => by cases hx; exact Nat.le_refl _))
        have HS := Lib.hid (show ∃ go co G Cp, Value.slice (some ⟨g2, 0, none⟩) 1 cap2 = .slice (some ⟨go, 0, none⟩) (circ1 n W B).length co ∧ Making 23 w.heap.size w4 (.slice (some ⟨go, 0, none⟩) (circ1 n W B).length co) (circ1 n W B).length G Cp (lenL (circ1 n W B)) (nthL (circ1 n W B)) from ⟨g2, cap2, _, _, by rw [E1.out]; rfl, by rw [E1.out]; exact MS.out⟩)
        clear M0 M1 M2 O1 B1 B2 N2 G2 A2 MS S1 HC hl1
      case' neg =>
        have T1 := Lib.hid (tt_no hc)
        have E1 := Lib.hid (show circ1 n W B = [] by unfold circ1; rw [T1.out]; rfl)
        clear hc
        go_enter Try.func51, Try.ntmps51
        go_wp2_with (go_at_call 58; refine (HC.out _ (below_alloc (Below.refl _ _) _)).mono ?_; rintro e w4 ⟨rfl, hb1⟩; rw [T1.out]; have M1 := Lib.hid (M0.out.below hb1); have BS := Lib.hid ((below_alloc (Below.refl w.heap.size w) (.cells #[] 23)).trans (hb1.mono (by simp))); clear hb1)
        have HS := Lib.hid (show ∃ go co G Cp, Value.slice (some ⟨w.heap.size, 0, none⟩) 0 0 = .slice (some ⟨go, 0, none⟩) (circ1 n W B).length co ∧ Making 23 w.heap.size w4 (.slice (some ⟨go, 0, none⟩) (circ1 n W B).length co) (circ1 n W B).length G Cp (lenL (circ1 n W B)) (nthL (circ1 n W B)) from ⟨w.heap.size, 0, _, _, by rw [E1.out]; rfl, by rw [E1.out]; exact M1.out⟩)
        clear M0 M1 HC
      all_goals (
        go_ret
        obtain ⟨go, co, G, Cp, e1, e2⟩ := HS.out
        exact ⟨go, co, G, Cp, by rw [HE.out]; exact congrArg Ending.returned e1, by rw [HE.out]; exact e2, BS.out⟩)
    · have hz : ((B.length : Int) == (k : Int)) = false := by simp; omega
      have HE := Lib.hid (show circs n W f B = circsTo n W (f - 1) B n by obtain ⟨f', rfl⟩ : ∃ f', f = f' + 1 := ⟨f - 1, by omega⟩; exact circs_succ)
      have HLE := Lib.hid (fun q (hq : q ≤ n) => Nat.le_trans (circsTo_le (n := n) (W := W) (B := B) (f := f - 1) hn6 hq) (Nat.pow_le_pow_right (show 0 < 7 by omega) (show f - 1 + 1 ≤ 6 by omega)))
      by_cases hc : IsCirc n W B.length (nth B)
      case' pos =>
        have T1 := Lib.hid (tt_of hc)
        have E1 := Lib.hid (show circ1 n W B = [B] by unfold circ1; rw [T1.out]; rfl)
        clear hc
        go_enter Try.func51, Try.ntmps51
        go_wp2_with (first
          | (go_at_call 58; refine (HC.out _ (below_alloc (Below.refl _ _) _)).mono ?_; rintro e w1 ⟨rfl, hb1⟩; rw [T1.out]; have M1 := Lib.hid (M0.out.below hb1); have B1 := Lib.hid ((below_alloc (Below.refl w.heap.size w) (.cells #[] 23)).trans (hb1.mono (by simp))); clear hb1)
          | (at_builtin; refine wpList_append_rows _ (by rfl) (.tmp 16) (.tmp 17) 23 (by rfl) w1.heap.size 3 i0 (.int .i64 0) 8 Try.underlying23 hi hz0 hz1 hz2 (by rfl) w1.heap.size 0 0 [] (by rfl) (World.ownsRow_made w1 #[] 0 (Nat.le_refl _) (Nat.zero_le _) (by simp)) ⟨ba, oa, none⟩ B.length c (cellsL B.length (nth B)) (by rfl) (cellsL_length _ _) (HA.out.news (below_alloc B1.out _)) (cellsL_one _ _) (by unfold maxLen; omega) (by omega) (by simp) _ rfl ?_; intro g1 cap1 w2 hown1 hgrow1 hat1; simp only [Nat.zero_add, List.nil_append] at hown1 ⊢; have hl1 := hown1.lt g1 rfl; have O1 := Lib.hid (OwnR.of_owns hown1); have hb2 := (below_alloc (Below.refl w1.heap.size w1) (.cells #[] 3)).grown hgrow1 (by simp) (fun k h => by cases h; exact Nat.le_refl _); have M2 := Lib.hid (M1.out.below hb2); have B2 := Lib.hid (B1.out.trans (hb2.mono B1.out.size)); have S1 := Lib.hid B1.out.size; clear hown1 hgrow1 hat1 hb2)
          | (at_builtin; refine wpList_append_rows _ (by rfl) (.tmp 15) (.tmp 19) 35 (by rfl) w.heap.size 23 i1 (.slice none 0 0) 24 Try.underlying35 hj hy0 hy1 hy2 (by rfl) w.heap.size 0 0 [] (by rfl) (M2.out.1.alloc _) ⟨_, 0, none⟩ 1 1 [.slice (some ⟨g1, 0, none⟩) B.length cap1] (by rfl) (by rfl) (news_one (by simp)) (by simp [Value.oneCell']) (by unfold maxLen; omega) (by omega) (by have := B2.out.size; simp; omega) _ rfl ?_; intro g2 cap2 w4 hown2 hgrow2 hat2; have N2 := Lib.hid hown2; have G2 := Lib.hid hgrow2; have A2 := Lib.hid hat2; clear hown2 hgrow2 hat2))
        have MS := Lib.hid (Making.next (w := w2.alloc _) (v := .slice (some ⟨w.heap.size, 0, none⟩) 0 0) (L := lenL [B]) (X := nthL [B]) ((M2.out.below (below_alloc (Below.refl _ _) _)).congr (fun r hr => absurd hr (Nat.not_lt_zero _))) (O1.out.of_block (Below.heap_alloc _ _ _ hl1.2)) (by have := S1.out; omega) (by simp; omega) (fun h => by have h3 := M1.out.1.lt w.heap.size rfl; have h4 : w.heap.size = g1 := Option.some.inj h; omega) (fun r hr => absurd hr (Nat.not_lt_zero _)) N2.out G2.out (by rcases A2.out with h | h; exact .inl (congrArg some h); exact .inr h) (Nat.le_refl _))
        have BS := Lib.hid ((below_alloc B2.out (.cells #[.slice (some ⟨g1, 0, none⟩) B.length cap1] 23)).grown G2.out (by have := B2.out.size; simp; omega) (fun x hx => by cases hx; exact Nat.le_refl _))
        have HS := Lib.hid (show ∃ go co G Cp, Value.slice (some ⟨g2, 0, none⟩) 1 cap2 = .slice (some ⟨go, 0, none⟩) (circ1 n W B).length co ∧ Making 23 w.heap.size w4 (.slice (some ⟨go, 0, none⟩) (circ1 n W B).length co) (circ1 n W B).length G Cp (lenL (circ1 n W B)) (nthL (circ1 n W B)) from ⟨g2, cap2, _, _, by rw [E1.out]; rfl, by rw [E1.out]; exact MS.out⟩)
        clear M0 M1 M2 O1 B1 B2 N2 G2 A2 MS S1 HC hl1
      case' neg =>
        have T1 := Lib.hid (tt_no hc)
        have E1 := Lib.hid (show circ1 n W B = [] by unfold circ1; rw [T1.out]; rfl)
        clear hc
        go_enter Try.func51, Try.ntmps51
        go_wp2_with (go_at_call 58; refine (HC.out _ (below_alloc (Below.refl _ _) _)).mono ?_; rintro e w4 ⟨rfl, hb1⟩; rw [T1.out]; have M1 := Lib.hid (M0.out.below hb1); have BS := Lib.hid ((below_alloc (Below.refl w.heap.size w) (.cells #[] 23)).trans (hb1.mono (by simp))); clear hb1)
        have HS := Lib.hid (show ∃ go co G Cp, Value.slice (some ⟨w.heap.size, 0, none⟩) 0 0 = .slice (some ⟨go, 0, none⟩) (circ1 n W B).length co ∧ Making 23 w.heap.size w4 (.slice (some ⟨go, 0, none⟩) (circ1 n W B).length co) (circ1 n W B).length G Cp (lenL (circ1 n W B)) (nthL (circ1 n W B)) from ⟨w.heap.size, 0, _, _, by rw [E1.out]; rfl, by rw [E1.out]; exact M1.out⟩)
        clear M0 M1 HC
      all_goals (
        go_loopw [7, 8] (fun out s wr => ∃ q : Nat, q ≤ n ∧ s = .int .i64 q ∧ ∃ go co G Cp, out = .slice (some ⟨go, 0, none⟩) (circsTo n W (f - 1) B q).length co ∧ Making 23 w.heap.size wr (.slice (some ⟨go, 0, none⟩) (circsTo n W (f - 1) B q).length co) (circsTo n W (f - 1) B q).length G Cp (lenL (circsTo n W (f - 1) B q)) (nthL (circsTo n W (f - 1) B q)) ∧ Below w.heap.size w wr) (fun _ s _ => n - (intOf s).toNat)
        case atStart =>
          obtain ⟨go, co, G, Cp, e1, e2⟩ := HS.out
          exact ⟨0, Nat.zero_le _, rfl, go, co, G, Cp, by rw [circsTo_zero]; exact e1, by rw [circsTo_zero]; exact e2, BS.out⟩
        case round =>
          obtain ⟨q, hq, rfl, go, co, G, Cp, rfl, hM, hB⟩ := hrel
          clear HS BS
          by_cases hlt : q < n
          · obtain ⟨N, hN⟩ : ∃ N, N = (circsTo n W (f - 1) B q).length := ⟨_, rfl⟩
            have hN6 : N ≤ 117649 := by rw [hN]; exact HLE.out q hq
            rw [← hN] at hM
            rw [← hN]
            have QN := Lib.hid hN
            have HMk := Lib.hid hM
            have BO := Lib.hid hB
            clear hM hB hN
            obtain ⟨wo, rfl⟩ : ∃ wo, wo = wr := ⟨_, rfl⟩
            go_wp2
            go_loopw [9, 10] (fun o s wx => ∃ i : Nat, i ≤ B.length ∧ s = .int .i64 i ∧ o = .bool (tt (∀ j, j < i → nth B j ≠ q ∧ nth B 0 < q)) ∧ Below wo.heap.size wo wx) (fun _ s _ => B.length - (intOf s).toNat)
            case atStart => exact ⟨0, Nat.zero_le _, rfl, by rw [tt_of (fun j hj => absurd hj (Nat.not_lt_zero _))], Below.refl _ _⟩
            case round =>
              obtain ⟨i, hib, rfl, rfl, hB⟩ := hrel
              have BI := Lib.hid hB
              have BW := Lib.hid (BO.out.trans (hB.mono BO.out.size))
              clear hB
              by_cases hil : i < B.length
              · obtain ⟨b1, o1, h1, hc1⟩ := (HA.out.below (Nat.le_refl _) BW.out) i hil
                cases h1
                obtain ⟨b2, o2, h2, hc0⟩ := (HA.out.below (Nat.le_refl _) BW.out) 0 (by omega)
                cases h2
                rw [Nat.add_zero] at hc0
                obtain ⟨y, hy⟩ : ∃ y, y = nth B i := ⟨_, rfl⟩
                obtain ⟨y0, hy0'⟩ : ∃ y0, y0 = nth B 0 := ⟨_, rfl⟩
                rw [← hy] at hc1
                rw [← hy0'] at hc0
                have HY := Lib.hid hy
                have HY0 := Lib.hid hy0'
                have j1 : (0 : Int) ≤ (i : Int) := by omega
                have j2 : (i : Int) < (B.length : Int) := by omega
                have j3 : (0 : Int) < (B.length : Int) := by omega
                clear hy hy0'
                have STEP := Lib.hid (show (∀ j, j < i + 1 → nth B j ≠ q ∧ nth B 0 < q) ↔ (∀ j, j < i → nth B j ≠ q ∧ nth B 0 < q) ∧ y ≠ q ∧ y0 < q from ⟨fun h => ⟨fun j hj => h j (by omega), by rw [HY.out, HY0.out]; exact h i (by omega)⟩, fun ⟨h, h'⟩ j hj => by
                  by_cases e : j = i
                  · subst e; rw [← HY.out, ← HY0.out]; exact h'
                  · exact h j (by omega)⟩)
                by_cases hok : ∀ j, j < i → nth B j ≠ q ∧ nth B 0 < q
                · rw [tt_of hok]
                  by_cases hne : y = (q : Int)
                  · have d1 : (y != (q : Int)) = false := by simp [hne]
                    have E := Lib.hid (tt_no (show ¬ ∀ j, j < i + 1 → nth B j ≠ q ∧ nth B 0 < q from fun h => (STEP.out.1 h).2.1 hne))
                    clear hok hne
                    go_wp2
                    go_roundw
                    case rel => exact ⟨i + 1, by omega, by go_num, by rw [E.out], BI.out⟩
                    case measure => simp [intOf]; omega
                  · have d1 : (y != (q : Int)) = true := by simp [hne]
                    by_cases hl0 : y0 < (q : Int)
                    · have d2 : decide (y0 < (q : Int)) = true := by simpa using hl0
                      have E := Lib.hid (tt_of (STEP.out.2 ⟨hok, hne, hl0⟩))
                      clear hok hne hl0
                      go_wp2
                      go_roundw
                      case rel => exact ⟨i + 1, by omega, by go_num, by rw [E.out], BI.out⟩
                      case measure => simp [intOf]; omega
                    · have d2 : decide (y0 < (q : Int)) = false := by simpa using hl0
                      have E := Lib.hid (tt_no (show ¬ ∀ j, j < i + 1 → nth B j ≠ q ∧ nth B 0 < q from fun h => hl0 (STEP.out.1 h).2.2))
                      clear hok hne hl0
                      go_wp2
                      go_roundw
                      case rel => exact ⟨i + 1, by omega, by go_num, by rw [E.out], BI.out⟩
                      case measure => simp [intOf]; omega
                · rw [tt_no hok]
                  have E := Lib.hid (tt_no (show ¬ ∀ j, j < i + 1 → nth B j ≠ q ∧ nth B 0 < q from fun h => hok (STEP.out.1 h).1))
                  clear hok
                  go_wp2
                  go_roundw
                  case rel => exact ⟨i + 1, by omega, by go_num, by rw [E.out], BI.out⟩
                  case measure => simp [intOf]; omega
              · obtain rfl : i = B.length := by omega
                by_cases hok : ∀ j, j < B.length → nth B j ≠ q ∧ nth B 0 < q
                · rw [tt_of hok]
                  by_cases hb0 : B.length = 0
                  · have d0 : ((B.length : Int) == 0) = true := by simp [hb0]
                    have GO := Lib.hid (show GoesOn W B q from ⟨hok, .inl hb0⟩)
                    clear hok hb0
                    have hgo := goes_new GO.out
                    have hnd := (HD.out.snoc_iff hlt).2 hgo
                    have hle := diff_le hnd
                    rw [List.length_append] at hle
                    simp only [List.length_cons, List.length_nil] at hle
                    have ND := Lib.hid hnd
                    obtain ⟨M, hM⟩ : ∃ M, M = (circs n W (f - 1) (B ++ [(q : Int)])).length := ⟨_, rfl⟩
                    have hM6 : M ≤ 117649 := by rw [hM]; exact Nat.le_trans (circs_le hn6 _ _) (Nat.pow_le_pow_right (show 0 < 7 by omega) (show f - 1 ≤ 6 by omega))
                    have QM := Lib.hid hM
                    clear hM hgo hnd
                    go_wp2_with (first
                      | (at_builtin; refine wpList_append_rows _ (by rfl) (.tmp 78) (.tmp 79) 23 (by rfl) wr.heap.size 3 i0 (.int .i64 0) 8 Try.underlying23 hi hz0 hz1 hz2 (by rfl) wr.heap.size 0 0 [] (by rfl) (World.ownsRow_made wr #[] 0 (Nat.le_refl _) (Nat.zero_le _) (by simp)) ⟨ba, oa, none⟩ B.length c (cellsL B.length (nth B)) (by rfl) (cellsL_length _ _) (HA.out.news (below_alloc BW.out _)) (cellsL_one _ _) (by unfold maxLen; omega) (by omega) (by simp) _ rfl ?_; intro g1 cap1 w3 hown1 hgrow1 hat1; simp only [Nat.zero_add, List.nil_append] at hown1 ⊢; have hl1 := hown1.lt g1 rfl; have HO1 := Lib.hid hown1; have B3 := Lib.hid ((below_alloc (Below.refl wr.heap.size wr) (.cells #[] 3)).grown hgrow1 (by simp) (fun k h => by cases h; exact Nat.le_refl _)); have S3 := Lib.hid hgrow1.size; clear hown1 hgrow1 hat1)
                      | (at_builtin; refine wpList_append_rows _ (by rfl) (.tmp 80) (.tmp 82) 23 (by rfl) wr.heap.size 3 i0 (.int .i64 0) 8 Try.underlying23 hi hz0 hz1 hz2 (by rfl) g1 B.length cap1 (cellsL B.length (nth B)) (by rfl) (HO1.out.alloc _) ⟨_, 0, none⟩ 1 1 [.int .i64 q] (by rfl) (by rfl) (news_one (by simp)) (by simp [Value.oneCell']) (by unfold maxLen; omega) (by omega) (by have := B3.out.size; simp; omega) _ rfl ?_; intro g2 cap2 w4 hown2 hgrow2 hat2; have hl2 := hown2.lt g2 rfl; have B4 := Lib.hid ((below_alloc B3.out (.cells #[.int .i64 q] 3)).grown hgrow2 (by have := B3.out.size; simp; omega) (fun x hx => by cases hx; exact hl1.1)); rw [cellsL_snoc] at hown2; have RD := Lib.hid (owns_rd hown2); clear hown2 hgrow2 hat2 HO1)
                      | (go_at_call 51; refine (IH.out (f - 1) (by omega) (B ++ [(q : Int)]) (B.length + 1) _ g2 0 _ ND.out (by simp) (by omega) (HAW.out.below (Nat.le_refl _) (BW.out.trans (B4.out.mono BW.out.size))) hl2.2 (RD.out.congr fun j hj => (snoc_nth hj).symm)).mono ?_; rintro e w5 ⟨g', cap', G', Cp', rfl, hM', hB'⟩; rw [← QM.out] at hM' ⊢; have M5 := Lib.hid hM'; have B5 := Lib.hid (B4.out.trans (hB'.mono B4.out.size)); have hs5 := hB'.size; have hs4 := B4.out.size; clear hM' hB')
                      | (at_builtin; refine wpList_append_rows _ (by rfl) (.tmp 75) (.tmp 84) 35 (by rfl) w.heap.size 23 i1 (.slice none 0 0) 24 Try.underlying35 hj hy0 hy1 hy2 (by rfl) go N co ((List.range N).map fun r => .slice (some ⟨G r, 0, none⟩) (lenL (circsTo n W (f - 1) B q) r) (Cp r)) (by rfl) (HMk.out.below (BI.out.trans (B5.out.mono BI.out.size))).1 ⟨g', 0, none⟩ M cap' ((List.range M).map fun r => .slice (some ⟨G' r, 0, none⟩) (lenL (circs n W (f - 1) (B ++ [(q : Int)])) r) (Cp' r)) (by rfl) (by simp) (fun j u hu => M5.out.1.cells (g := g') rfl j u hu) (fun u hu => by obtain ⟨r, _, rfl⟩ := List.mem_map.1 hu; rfl) (by unfold maxLen; omega) (by omega) (by have := BW.out.size; omega) _ rfl ?_; intro g6 cap6 w6 hown6 hgrow6 hat6; have N6 := Lib.hid hown6; have G6 := Lib.hid hgrow6; have A6 := Lib.hid hat6; clear hown6 hgrow6 hat6))
                    go_roundw
                    case rel =>
                      have hv := HMk.out.1.lt go rfl
                      have hsI := BI.out.size
                      refine ⟨q + 1, by omega, by go_num, g6, cap6, (fun r => if r < N then G r else G' (r - N)), (fun r => if r < N then Cp r else Cp' (r - N)), ?_, ?_, (BW.out.trans (B5.out.mono BW.out.size)).grown G6.out (by have := BW.out.size; omega) (fun x hx => by cases hx; exact hv.1)⟩
                      · rw [circsTo_yes GO.out, List.length_append, ← QN.out, ← QM.out]
                      · rw [circsTo_yes GO.out, List.length_append, ← QN.out, ← QM.out]
                        exact Making.join (HMk.out.below (BI.out.trans (B5.out.mono BI.out.size))) M5.out (by have := BW.out.size; omega) (fun r hr => by have := (HMk.out.2.1 r hr).2.1; omega) (fun x hx => by have hgx : go = x := Option.some.inj hx; omega) (fun r hr => lists_left (by rw [← QN.out]; exact hr)) (fun r hr => by rw [QN.out]; exact lists_right) N6.out G6.out (by rcases A6.out with h | h; exact .inl (congrArg some h); exact .inr h) (Nat.le_refl _)
                    case measure => simp [intOf]; omega
                  · have d0 : ((B.length : Int) == 0) = false := by simp only [beq_eq_false_iff_ne, ne_eq]; omega
                    obtain ⟨b1, o1, h1, hcl⟩ := (HA.out.below (Nat.le_refl _) BW.out) (B.length - 1) (by omega)
                    cases h1
                    have hdl : 0 ≤ nth B (B.length - 1) ∧ nth B (B.length - 1) < n := HD.out.1 (B.length - 1) (by omega)
                    obtain ⟨y, hy⟩ := Int.eq_ofNat_of_zero_le hdl.1
                    have hyn : y < n := by have := hdl.2; omega
                    obtain ⟨bw, ow, h2, hcw⟩ := (HAW.out.below (Nat.le_refl _) BW.out) y hyn
                    have hwy := HW.out.lt hyn
                    obtain ⟨z, hz'⟩ := Int.eq_ofNat_of_zero_le hwy.1
                    have f1 := bit_has z q (by have := hwy.2; omega)
                    have WB := Lib.hid (show WantsB W (nth B (B.length - 1)).toNat q = z.testBit q by unfold WantsB; rw [hy, Int.toNat_natCast, hz', Int.toNat_natCast])
                    rw [hy] at hcl
                    rw [hz'] at hcw
                    clear hy hz' hwy hdl
                    have t1 : ((B.length : Int) - 1).toNat = B.length - 1 := by omega
                    have t2 : (0 : Int) ≤ (B.length : Int) - 1 := by omega
                    have t3 : (B.length : Int) - 1 < (B.length : Int) := by omega
                    have t4 : (y : Int) < (n : Int) := by omega
                    cases h2
                    cases hzq : z.testBit q with
                    | true =>
                      rw [hzq] at f1
                      have GO := Lib.hid (show GoesOn W B q from ⟨hok, .inr (by rw [WB.out]; exact hzq)⟩)
                      clear hok hb0 hzq
                      have hgo := goes_new GO.out
                      have hnd := (HD.out.snoc_iff hlt).2 hgo
                      have hle := diff_le hnd
                      rw [List.length_append] at hle
                      simp only [List.length_cons, List.length_nil] at hle
                      have ND := Lib.hid hnd
                      obtain ⟨M, hM⟩ : ∃ M, M = (circs n W (f - 1) (B ++ [(q : Int)])).length := ⟨_, rfl⟩
                      have hM6 : M ≤ 117649 := by rw [hM]; exact Nat.le_trans (circs_le hn6 _ _) (Nat.pow_le_pow_right (show 0 < 7 by omega) (show f - 1 ≤ 6 by omega))
                      have QM := Lib.hid hM
                      clear hM hgo hnd
                      go_wp2_with (first
                        | (at_builtin; refine wpList_append_rows _ (by rfl) (.tmp 78) (.tmp 79) 23 (by rfl) wr.heap.size 3 i0 (.int .i64 0) 8 Try.underlying23 hi hz0 hz1 hz2 (by rfl) wr.heap.size 0 0 [] (by rfl) (World.ownsRow_made wr #[] 0 (Nat.le_refl _) (Nat.zero_le _) (by simp)) ⟨ba, oa, none⟩ B.length c (cellsL B.length (nth B)) (by rfl) (cellsL_length _ _) (HA.out.news (below_alloc BW.out _)) (cellsL_one _ _) (by unfold maxLen; omega) (by omega) (by simp) _ rfl ?_; intro g1 cap1 w3 hown1 hgrow1 hat1; simp only [Nat.zero_add, List.nil_append] at hown1 ⊢; have hl1 := hown1.lt g1 rfl; have HO1 := Lib.hid hown1; have B3 := Lib.hid ((below_alloc (Below.refl wr.heap.size wr) (.cells #[] 3)).grown hgrow1 (by simp) (fun k h => by cases h; exact Nat.le_refl _)); have S3 := Lib.hid hgrow1.size; clear hown1 hgrow1 hat1)
                        | (at_builtin; refine wpList_append_rows _ (by rfl) (.tmp 80) (.tmp 82) 23 (by rfl) wr.heap.size 3 i0 (.int .i64 0) 8 Try.underlying23 hi hz0 hz1 hz2 (by rfl) g1 B.length cap1 (cellsL B.length (nth B)) (by rfl) (HO1.out.alloc _) ⟨_, 0, none⟩ 1 1 [.int .i64 q] (by rfl) (by rfl) (news_one (by simp)) (by simp [Value.oneCell']) (by unfold maxLen; omega) (by omega) (by have := B3.out.size; simp; omega) _ rfl ?_; intro g2 cap2 w4 hown2 hgrow2 hat2; have hl2 := hown2.lt g2 rfl; have B4 := Lib.hid ((below_alloc B3.out (.cells #[.int .i64 q] 3)).grown hgrow2 (by have := B3.out.size; simp; omega) (fun x hx => by cases hx; exact hl1.1)); rw [cellsL_snoc] at hown2; have RD := Lib.hid (owns_rd hown2); clear hown2 hgrow2 hat2 HO1)
                        | (go_at_call 51; refine (IH.out (f - 1) (by omega) (B ++ [(q : Int)]) (B.length + 1) _ g2 0 _ ND.out (by simp) (by omega) (HAW.out.below (Nat.le_refl _) (BW.out.trans (B4.out.mono BW.out.size))) hl2.2 (RD.out.congr fun j hj => (snoc_nth hj).symm)).mono ?_; rintro e w5 ⟨g', cap', G', Cp', rfl, hM', hB'⟩; rw [← QM.out] at hM' ⊢; have M5 := Lib.hid hM'; have B5 := Lib.hid (B4.out.trans (hB'.mono B4.out.size)); have hs5 := hB'.size; have hs4 := B4.out.size; clear hM' hB')
                        | (at_builtin; refine wpList_append_rows _ (by rfl) (.tmp 75) (.tmp 84) 35 (by rfl) w.heap.size 23 i1 (.slice none 0 0) 24 Try.underlying35 hj hy0 hy1 hy2 (by rfl) go N co ((List.range N).map fun r => .slice (some ⟨G r, 0, none⟩) (lenL (circsTo n W (f - 1) B q) r) (Cp r)) (by rfl) (HMk.out.below (BI.out.trans (B5.out.mono BI.out.size))).1 ⟨g', 0, none⟩ M cap' ((List.range M).map fun r => .slice (some ⟨G' r, 0, none⟩) (lenL (circs n W (f - 1) (B ++ [(q : Int)])) r) (Cp' r)) (by rfl) (by simp) (fun j u hu => M5.out.1.cells (g := g') rfl j u hu) (fun u hu => by obtain ⟨r, _, rfl⟩ := List.mem_map.1 hu; rfl) (by unfold maxLen; omega) (by omega) (by have := BW.out.size; omega) _ rfl ?_; intro g6 cap6 w6 hown6 hgrow6 hat6; have N6 := Lib.hid hown6; have G6 := Lib.hid hgrow6; have A6 := Lib.hid hat6; clear hown6 hgrow6 hat6))
                      go_roundw
                      case rel =>
                        have hv := HMk.out.1.lt go rfl
                        have hsI := BI.out.size
                        refine ⟨q + 1, by omega, by go_num, g6, cap6, (fun r => if r < N then G r else G' (r - N)), (fun r => if r < N then Cp r else Cp' (r - N)), ?_, ?_, (BW.out.trans (B5.out.mono BW.out.size)).grown G6.out (by have := BW.out.size; omega) (fun x hx => by cases hx; exact hv.1)⟩
                        · rw [circsTo_yes GO.out, List.length_append, ← QN.out, ← QM.out]
                        · rw [circsTo_yes GO.out, List.length_append, ← QN.out, ← QM.out]
                          exact Making.join (HMk.out.below (BI.out.trans (B5.out.mono BI.out.size))) M5.out (by have := BW.out.size; omega) (fun r hr => by have := (HMk.out.2.1 r hr).2.1; omega) (fun x hx => by have hgx : go = x := Option.some.inj hx; omega) (fun r hr => lists_left (by rw [← QN.out]; exact hr)) (fun r hr => by rw [QN.out]; exact lists_right) N6.out G6.out (by rcases A6.out with h | h; exact .inl (congrArg some h); exact .inr h) (Nat.le_refl _)
                      case measure => simp [intOf]; omega
                    | false =>
                      rw [hzq] at f1
                      have NG := Lib.hid (show ¬ GoesOn W B q from fun h => by
                        rcases h.2 with h' | h'
                        · exact hb0 h'
                        · rw [WB.out, hzq] at h'; cases h')
                      clear hok hb0 hzq
                      go_wp2
                      go_roundw
                      case rel => exact ⟨q + 1, by omega, by go_num, go, co, G, Cp, by rw [circsTo_no NG.out, ← QN.out], by rw [circsTo_no NG.out, ← QN.out]; exact HMk.out.below BI.out, BW.out⟩
                      case measure => simp [intOf]; omega
                · rw [tt_no hok]
                  have NG := Lib.hid (show ¬ GoesOn W B q from fun h => hok h.1)
                  clear hok
                  go_wp2
                  go_roundw
                  case rel => exact ⟨q + 1, by omega, by go_num, go, co, G, Cp, by rw [circsTo_no NG.out, ← QN.out], by rw [circsTo_no NG.out, ← QN.out]; exact HMk.out.below BI.out, BW.out⟩
                  case measure => simp [intOf]; omega
          · obtain rfl : q = n := by omega
            go_wp2
            go_ret
            exact ⟨go, co, G, Cp, by rw [HE.out]; rfl, by rw [HE.out]; exact hM, hB⟩)
end Go.Proofs.Ytamglhpgdaoaoaa
namespace Go.Proofs.Ytamglhpgdaoaoaa
set_option linter.unusedVariables false
set_option linter.unusedSimpArgs false
open Go.RowKit

/-- All circles, out of nothing. -/
theorem l6wAll_any (n c f : Nat) (a : Option Addr) (W : Nat → Int) (w : World) (hW : IsWants n W) (hf : f ≤ n) (ha : Rd w a n W) (ba cb : Nat) (hba : ba < w.heap.size) :
    Calls Try.prog 51 #[.slice a n c, .int .i64 (f : Nat), .slice (some ⟨ba, 0, none⟩) 0 cb] w (RetLS 23 (circs n W f []) w) :=
  l6wCircles_any n c a W f hW hf f [] 0 cb ba 0 w (Diff.nil n) rfl (by omega) ha hba (fun j hj => absurd hj (Nat.not_lt_zero _))

set_option maxHeartbeats 800000 in
theorem specWantCircles_any (n c : Nat) (a : Option Addr) (W : Nat → Int) (k : Int) (w : World) (hm0 : n ≤ 1048576) (hb0 : Rd w a n W) (hx1 : I64 k) :
    Calls Try.prog 29 #[.slice a n c, .int .i64 k] w (RetTB (tt (WantK n W k)) (circsA n W k).length (lenL (circsA n W k)) (nthL (circsA n W k)) w) := by
  have H := Lib.hid (l6wGiven_any n c a W k w hm0 hb0)
  by_cases h : WantK n W k
  · have T1 := Lib.hid (tt_of h)
    have TA := Lib.hid (circsA_yes h)
    obtain ⟨f, rfl⟩ := Int.eq_ofNat_of_zero_le (show 0 ≤ k by have := h.2.1; omega)
    have hfn : f ≤ n := by have := h.2.2; omega
    have HC := Lib.hid (fun w' (hb : Below w.heap.size w w') ba cb (hba : ba < w'.heap.size) => l6wAll_any n c f a W w' h.1 hfn (hb0.below (Nat.le_refl _) hb) ba cb hba)
    rw [Int.toNat_natCast] at TA
    clear hb0 h
    go_enter Try.func29, Try.ntmps29
    go_wp2_with (first
      | (go_at_call 62; refine H.out.mono ?_; rintro e w1 ⟨rfl, hb1⟩; rw [T1.out]; have B1 := Lib.hid hb1; clear hb1)
      | (go_at_call 51; refine (HC.out _ (below_alloc B1.out _) _ _ (by simp)).mono ?_; rintro e w2 ⟨g, cap, G, Cp, rfl, hM, hb2⟩; have HM := Lib.hid hM; have B2 := Lib.hid ((below_alloc B1.out (.cells #[] 3)).trans (hb2.mono (Nat.le_trans B1.out.size (by simp)))); have S2 := Lib.hid (show w.heap.size ≤ (w1.alloc (.cells #[] 3)).heap.size from Nat.le_trans B1.out.size (by simp)); clear hM hb2))
    go_ret2
    exact ⟨_, _, _, _, by rw [T1.out, TA.out]; rfl, by rw [TA.out]; exact HM.out.ownT.sub S2.out (Nat.le_refl _), B2.out⟩
  · have T1 := Lib.hid (tt_no h)
    have TA := Lib.hid (circsA_no h)
    clear hb0 h
    go_enter Try.func29, Try.ntmps29
    go_wp2_with (go_at_call 62; refine H.out.mono ?_; rintro e w1 ⟨rfl, hb1⟩; rw [T1.out]; have B1 := Lib.hid hb1; clear hb1)
    go_ret2
    exact ⟨_, _, fun _ => none, fun _ => 0, by rw [T1.out, TA.out]; rfl, by rw [TA.out]; exact .inl rfl, below_alloc B1.out _⟩
end Go.Proofs.Ytamglhpgdaoaoaa
