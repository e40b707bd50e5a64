/- The model's l6wBest: the first list with most people. -/
import Derived.Test.YteigenmagifplaaL6wTakes
import Derived.Test.YteigenmagifplaaL6wMoved
import Derived.Test.YteigenmagifplaaSpecWantCircs
import Derived.Test.YteigenmagifplaaMostModel
namespace Go.Proofs.Yteigenmagifplaa
set_option linter.unusedVariables false
set_option linter.unusedSimpArgs false
open Go.RowKit

/-- What a call hands back: a row of its own. -/
def RetO (n : Nat) (X : Nat → Int) (w : World) (e : Ending) (w' : World) : Prop :=
  ∃ g cap, e = .returned (.slice (some ⟨g, 0, none⟩) n cap) ∧ (w.heap.size ≤ g ∧ g < w'.heap.size) ∧ OwnR w' g (some ⟨g, 0, none⟩) n X ∧ Below w.heap.size w w'
theorem ownF_nth {n i : Nat} (h : i < n) : nth (ownF n) i = i := nth_map h
theorem bestIn_take {n k : Nat} {b : List Int} {TL : List (List Int)} (h : k < TL.length) : bestIn n b (TL.take (k + 1)) = betterL n (bestIn n b (TL.take k)) (TL.getD k []) := by
  unfold bestIn
  rw [take_snoc h, List.foldl_append]; rfl
theorem takes_len {n f : Nat} {W : Nat → Int} (hW : IsWants n W) {r : Nat} (hr : r < (takesL (circs n W f []) (ownF n) 0).length) : ((takesL (circs n W f []) (ownF n) 0).getD r []).length = n := by
  obtain ⟨P, U, _, _, h, _⟩ := unpacked hW (k := f) (T := (takesL (circs n W f []) (ownF n) 0).getD r []) (by rw [List.getD_eq_getElem?_getD, List.getElem?_eq_getElem hr]; exact List.getElem_mem hr)
  exact h.1
theorem cells_own {n k : Nat} (h : k < n) : cellsL k (nth (ownF n)) ++ [.int .i64 (k : Nat)] = cellsL (k + 1) (nth (ownF n)) := by
  rw [cellsL_snoc]
  unfold cellsL
  refine List.map_congr_left fun j hj => ?_
  have := List.mem_range.1 hj
  dsimp only
  by_cases e : j < k
  · rw [if_pos e]
  · rw [if_neg e, ownF_nth (show j < n by omega), show j = k by omega]
set_option maxRecDepth 100000 in
set_option maxHeartbeats 3200000 in
theorem l6wBest_any (n c f : Nat) (a : Option Addr) (W : Nat → Int) (w : World) (hW : IsWants n W) (hf : f ≤ n) (ha : Rd w a n W) :
    Calls Try.prog 50 #[.slice a n c, .int .i64 (f : Nat)] w (RetO n (nth (bestL n W f)) w) := by
  have hn2 := hW.1.1
  have hn6 := hW.1.2
  have HW := Lib.hid hW
  have HA := Lib.hid ha
  have HC := Lib.hid (fun w' (hb : Below w.heap.size w w') ba cb (hba : ba < w'.heap.size) => l6wAll_any n c f a W w' hW hf (ha.below (Nat.le_refl _) hb) ba cb hba)
  obtain ⟨i0, hi, hz0, hz1, hz2⟩ := info_parts Try.infoInt
  clear hW ha
  go_enter Try.func50, Try.ntmps50
  go_wp2_with fail
  obtain ⟨s, hs⟩ : ∃ s, s = w.heap.size := ⟨_, rfl⟩
  obtain ⟨w0, hw0⟩ : ∃ w0, w0 = w.alloc (.cells #[] 3) := ⟨_, rfl⟩
  have O0 := Lib.hid (show w0.ownsRow s 3 1 (.slice (some ⟨s, 0, none⟩) 0 0) 0 (cellsL 0 (nth (ownF n))) by rw [hw0, hs]; exact World.ownsRow_made w #[] 0 (Nat.le_refl _) (Nat.zero_le _) (by simp))
  have B0 := Lib.hid (show Below w.heap.size w w0 by rw [hw0]; exact below_alloc (Below.refl _ w) _)
  have HS := Lib.hid hs
  rw [← hw0, ← hs]
  clear hw0 hs
  go_loopw [5, 6] (fun o i wr => ∃ (k go co : Nat), k ≤ n ∧ i = .int .i64 k ∧ o = .slice (some ⟨go, 0, none⟩) k co ∧ wr.ownsRow s 3 1 (.slice (some ⟨go, 0, none⟩) k co) k (cellsL k (nth (ownF n))) ∧ Below w.heap.size w wr) (fun _ i _ => n - (intOf i).toNat)
  case atStart => exact ⟨0, s, 0, Nat.zero_le _, rfl, rfl, O0.out, B0.out⟩
  case round =>
    obtain ⟨k, go, co, hk, rfl, rfl, hown, hB⟩ := hrel
    clear O0 B0
    have HO := Lib.hid hown
    have BW := Lib.hid hB
    have hss : s ≤ wr.heap.size := by rw [HS.out]; exact hB.size
    clear hown hB
    by_cases hlt : k < n
    · go_wp2_with (at_builtin; refine wpList_append_rows _ (by rfl) (.tmp 18) (.tmp 20) 23 (by rfl) s 3 i0 (.int .i64 0) 8 Try.underlying23 hi hz0 hz1 hz2 (by rfl) go k co (cellsL k (nth (ownF n))) (by rfl) (HO.out.alloc _) ⟨_, 0, none⟩ 1 1 [.int .i64 k] (by rfl) (by rfl) (news_one (by simp)) (by simp [Value.oneCell']) (by unfold maxLen; omega) (by omega) (by simp; omega) _ rfl ?_; intro g2 cap2 w2 hown2 hgrow2 hat2; obtain ⟨q1, q2, q3⟩ := owns_base1 hown2; have O2 := Lib.hid hown2; have B2 := Lib.hid ((below_alloc BW.out (.cells #[.int .i64 k] 3)).grown hgrow2 (by have := BW.out.size; simp; omega) (fun x hx => by cases hx; have := (owns_base1 HO.out).1; have := HS.out; omega)); clear hown2 hgrow2 hat2)
      go_roundw
      case rel => exact ⟨k + 1, g2, cap2, by omega, by go_num, rfl, by rw [← cells_own hlt]; exact O2.out, B2.out⟩
      case measure => simp [intOf]; omega
    · obtain rfl : k = n := by omega
      obtain ⟨q1, q2, q3⟩ := owns_base1 HO.out
      have OO := Lib.hid (OwnR.of_owns HO.out)
      obtain ⟨wo, rfl⟩ : ∃ wo, wo = wr := ⟨_, rfl⟩
      obtain ⟨CC, hCC⟩ : ∃ CC, CC = circs k W f [] := ⟨_, rfl⟩
      have hlen : CC.length ≤ 1957 := by rw [hCC]; exact circs_small hn6 f
      have HCM := Lib.hid (show ∀ c, c ∈ CC → IsCirc k W c.length (nth c) from fun c hc => by rw [hCC] at hc; exact (mem_circs.1 hc).1)
      rw [← hCC] at HC
      obtain ⟨TL, hTL⟩ : ∃ TL, TL = takesL CC (ownF k) 0 := ⟨_, rfl⟩
      have hTLs : TL.length ≤ 7506509912 := by rw [hTL]; exact takes_small hn6 0 _ _ hlen HCM.out
      have HTL := Lib.hid (show ∀ r, r < TL.length → lenL TL r = k from fun r hr => by rw [hTL, hCC] at hr ⊢; exact takes_len HW.out hr)
      have HTK := Lib.hid (fun (ca : Nat) (aa : Option Addr) (A : Nat → Option Addr) (Cp : Nat → Nat) (at' : Option Addr) (ct : Nat) (w' : World) (h1 : Tab w' aa CC.length A (lenL CC) Cp (nthL CC)) (h2 : Rd w' at' k (nth (ownF k))) => (show Calls Try.prog 65 #[.slice aa CC.length ca, .int .i64 0, .slice at' k ct, .int .i64 0] w' (RetLS 23 TL w') from by
        rw [hTL]
        exact l6wTakes_any k ca aa A Cp W CC HW.out hlen HCM.out CC.length 0 (ownF k) 0 at' ct w' (by omega) (by unfold ownF; simp) (Nat.two_pow_pos k) h1 h2))
      have HBE := Lib.hid (show bestL k W f = bestIn k (ownF k) (TL.take TL.length) by rw [List.take_length, hTL, hCC]; rfl)
      obtain ⟨N, hN⟩ : ∃ N, N = TL.length := ⟨_, rfl⟩
      rw [← hN] at hTLs HTL HBE
      have QN := Lib.hid hN
      clear hCC hTL hN
      go_wp2_with (first
        | (go_at_call 36; refine (HC.out _ (below_alloc BW.out _) _ _ (by simp)).mono ?_; rintro e w2 ⟨g, cap, G, Cp, rfl, hM, hb2⟩; have HM := Lib.hid hM.ownT.tab; have B2 := Lib.hid ((below_alloc (Below.refl wo.heap.size wo) (.cells #[] 3)).trans (hb2.mono (by simp))); clear hM hb2)
        | (go_at_call 65; refine (HTK.out _ _ _ _ _ _ _ HM.out (OO.out.of_block (B2.out.block go q2)).rd).mono ?_; rintro e w3 ⟨g3, cap3, G3, Cp3, rfl, hM3, hb3⟩; have HM3 := Lib.hid hM3; have B3 := Lib.hid (B2.out.trans (hb3.mono B2.out.size)); have S3 := Lib.hid (Nat.le_trans B2.out.size hb3.size); have S2 := Lib.hid B2.out.size; clear hM3 hb3))
      have OO3 := Lib.hid (OO.out.of_block (B3.out.block go q2))
      have TT := Lib.hid HM3.out.ownT.tab
      rw [← QN.out] at HM3 TT ⊢
      go_loopw [8, 9, 10] (fun b i _ wr => ∃ (j gb cb : Nat), j ≤ N ∧ i = .int .i64 j ∧ b = .slice (some ⟨gb, 0, none⟩) k cb ∧ (w.heap.size ≤ gb ∧ gb < w3.heap.size) ∧ OwnR w3 gb (some ⟨gb, 0, none⟩) k (nth (bestIn k (ownF k) (TL.take j))) ∧ Below w3.heap.size w3 wr) (fun _ i _ _ => N - (intOf i).toNat)
      case atStart => exact ⟨0, go, co, Nat.zero_le _, rfl, rfl, ⟨by rw [← HS.out]; exact q1, Nat.lt_of_lt_of_le q2 S3.out⟩, OO3.out, Below.refl _ _⟩
      case round =>
        obtain ⟨j, gb, cb, hj, rfl, rfl, ⟨hg1, hg2⟩, ho, hB3⟩ := hrel
        have OB := Lib.hid ho
        have BR := Lib.hid hB3
        clear ho hB3
        by_cases hjl : j < N
        · obtain ⟨bt, ot, hbt, hct, hrt⟩ := (TT.out.below (Nat.le_refl _) BR.out) j hjl
          cases hbt
          rw [Nat.zero_add] at hct
          have hln := HTL.out j hjl
          rw [hln] at hct hrt
          obtain ⟨Bst, hBst⟩ : ∃ Bst, Bst = bestIn k (ownF k) (TL.take j) := ⟨_, rfl⟩
          rw [← hBst] at OB
          have HRT := Lib.hid hrt
          obtain ⟨k1, k2, k3, k4⟩ := HM3.out.2.1 j hjl
          have HOW := Lib.hid k4
          have hnl : nthL TL j = nth (TL.getD j []) := rfl
          obtain ⟨TT', hTT⟩ : ∃ TT', TT' = TL.getD j [] := ⟨_, rfl⟩
          rw [hnl, ← hTT] at HRT HOW
          rw [hln] at HOW
          have HNX := Lib.hid (show bestIn k (ownF k) (TL.take (j + 1)) = betterL k Bst TT' by rw [bestIn_take (by rw [← QN.out]; exact hjl), hBst, hTT])
          obtain ⟨mB, hmB⟩ : ∃ mB, mB = movedN (nth Bst) k := ⟨_, rfl⟩
          obtain ⟨mT, hmT⟩ : ∃ mT, mT = movedN (nth TT') k := ⟨_, rfl⟩
          have hmBn : mB ≤ k := by rw [hmB]; exact movedN_le _ _
          have hmTn : mT ≤ k := by rw [hmT]; exact movedN_le _ _
          have HMT := Lib.hid (show Calls Try.prog 49 #[.slice (some ⟨G3 j, 0, none⟩) k (Cp3 j)] wr fun e w' => e = .returned (.int .i64 (mT : Nat)) ∧ wr = w' by rw [hmT]; exact l6wMoved_any k (Cp3 j) _ (nth TT') wr (by omega) HRT.out)
          have OBr := Lib.hid (show Rd wr (some ⟨gb, 0, none⟩) k (nth Bst) from (OB.out.of_block (BR.out.block gb hg2)).rd)
          have HMB := Lib.hid (show Calls Try.prog 49 #[.slice (some ⟨gb, 0, none⟩) k cb] wr fun e w' => e = .returned (.int .i64 (mB : Nat)) ∧ wr = w' by rw [hmB]; exact l6wMoved_any k cb _ (nth Bst) wr (by omega) OBr.out)
          have HL := Lib.hid (l6wLess_any k (Cp3 j) cb (some ⟨G3 j, 0, none⟩) (some ⟨gb, 0, none⟩) (nth TT') (nth Bst) wr (by omega) HRT.out OBr.out)
          have QB := Lib.hid hmB
          have QT := Lib.hid hmT
          have QBst := Lib.hid hBst
          have i1c : (j : Int) < (N : Int) := by omega
          have tk : True := trivial
          clear hrt k3 k4 hnl hTT hmB hmT hBst hln
          by_cases h1 : mB < mT
          · have d1 : decide ((mB : Int) < (mT : Int)) = true := by simp; omega
            have d2 : decide (mB < mT) = true := by simp; omega
            have HX := Lib.hid (show bestIn k (ownF k) (TL.take (j + 1)) = TT' by rw [HNX.out]; exact better_yes1 (by rw [← QB.out, ← QT.out]; exact h1))
            clear h1
            go_wp2_with (first
              | (have _t := tk; go_at_call 49; refine HMT.out.mono ?_; clear tk; rintro e w' ⟨rfl, rfl⟩)
              | (go_at_call 49; refine HMB.out.mono ?_; rintro e w' ⟨rfl, rfl⟩))
            go_roundw
            case rel => exact ⟨j + 1, G3 j, Cp3 j, by omega, by go_num, rfl, ⟨by have := S2.out; have := BW.out.size; omega, k2⟩, by rw [HX.out]; exact HOW.out, BR.out⟩
            case measure => simp [intOf]; omega
          · have d1 : decide ((mB : Int) < (mT : Int)) = false := by simp; omega
            have d2 : decide (mB < mT) = false := by simp; omega
            by_cases h2 : mT = mB
            · have d3 : ((mT : Int) == (mB : Int)) = true := by simp; omega
              by_cases h3 : LessP k (nth TT') (nth Bst)
              · have T3 := Lib.hid (tt_of h3)
                have HX := Lib.hid (show bestIn k (ownF k) (TL.take (j + 1)) = TT' by rw [HNX.out]; exact better_tie (by rw [← QB.out, ← QT.out]; exact h2) h3)
                clear h1 h2 h3
                go_wp2_with (first
                  | (have _t := tk; go_at_call 49; refine HMT.out.mono ?_; clear tk; rintro e w' ⟨rfl, rfl⟩)
                  | (go_at_call 49; refine HMB.out.mono ?_; rintro e w' ⟨rfl, rfl⟩)
                  | (go_at_call 66; refine HL.out.mono ?_; rintro e w9 ⟨rfl, hb9⟩; rw [T3.out]; have hct9 := (hb9.cell (p := ⟨g3, j, none⟩) (World.block_lt_of_cell? _ _ hct)).trans hct; have B9 := Lib.hid (BR.out.trans (hb9.mono BR.out.size)); clear hb9))
                go_roundw
                case rel => exact ⟨j + 1, G3 j, Cp3 j, by omega, by go_num, rfl, ⟨by have := S2.out; have := BW.out.size; omega, k2⟩, by rw [HX.out]; exact HOW.out, B9.out⟩
                case measure => simp [intOf]; omega
              · have T3 := Lib.hid (tt_no h3)
                have HX := Lib.hid (show bestIn k (ownF k) (TL.take (j + 1)) = Bst by rw [HNX.out]; exact better_no (by rw [← QB.out, ← QT.out]; exact h1) (fun _ => h3))
                clear h1 h2 h3
                go_wp2_with (first
                  | (have _t := tk; go_at_call 49; refine HMT.out.mono ?_; clear tk; rintro e w' ⟨rfl, rfl⟩)
                  | (go_at_call 49; refine HMB.out.mono ?_; rintro e w' ⟨rfl, rfl⟩)
                  | (go_at_call 66; refine HL.out.mono ?_; rintro e w9 ⟨rfl, hb9⟩; rw [T3.out]; have hct9 := (hb9.cell (p := ⟨g3, j, none⟩) (World.block_lt_of_cell? _ _ hct)).trans hct; have B9 := Lib.hid (BR.out.trans (hb9.mono BR.out.size)); clear hb9))
                go_roundw
                case rel => exact ⟨j + 1, gb, cb, by omega, by go_num, rfl, ⟨hg1, hg2⟩, by rw [HX.out]; exact OB.out, B9.out⟩
                case measure => simp [intOf]; omega
            · have d3 : ((mT : Int) == (mB : Int)) = false := by simp; omega
              have HX := Lib.hid (show bestIn k (ownF k) (TL.take (j + 1)) = Bst by rw [HNX.out]; exact better_no (by rw [← QB.out, ← QT.out]; exact h1) (fun h => absurd (by rw [QT.out, QB.out]; exact h) h2))
              clear h1 h2
              go_wp2_with (first
                | (have _t := tk; go_at_call 49; refine HMT.out.mono ?_; clear tk; rintro e w' ⟨rfl, rfl⟩)
                | (go_at_call 49; refine HMB.out.mono ?_; rintro e w' ⟨rfl, rfl⟩))
              go_roundw
              case rel => exact ⟨j + 1, gb, cb, by omega, by go_num, rfl, ⟨hg1, hg2⟩, by rw [HX.out]; exact OB.out, BR.out⟩
              case measure => simp [intOf]; omega
        · obtain rfl : j = N := by omega
          go_wp2_with fail
          go_ret
          exact ⟨gb, cb, rfl, ⟨hg1, Nat.lt_of_lt_of_le hg2 BR.out.size⟩, by rw [HBE.out]; exact OB.out.of_block (BR.out.block gb hg2), BW.out.trans ((B3.out.trans (BR.out.mono S3.out)).mono BW.out.size)⟩
end Go.Proofs.Yteigenmagifplaa
