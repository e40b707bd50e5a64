/- The model's l6wBest: the first list with most people. -/
import Derived.Test.YteigenmagifplaaPacksModel
import Derived.Test.YteigenmagifplaaOnModel
import Derived.Test.YteigenmagifplaaL6wSet
import Derived.Test.YteigenmagifplaaInfoInts
import Derived.StillTailTactics
import Derived.Test.YteigenmagifplaaL6wMoved
import Derived.Test.YteigenmagifplaaSpecWantCircs
import Derived.Test.YteigenmagifplaaMostModel
namespace Go.Proofs.Yteigenmagifplaa
set_option linter.unusedVariables false
set_option linter.unusedSimpArgs false
open Go.RowKit

theorem owns_base1 {w : World} {B tI g n cap : Nat} {xs : List Value} (h : w.ownsRow B tI 1 (.slice (some ⟨g, 0, none⟩) n cap) n xs) : B ≤ g ∧ g < w.heap.size ∧ n ≤ cap := by
  obtain ⟨_, (⟨h1, _⟩ | ⟨g', cap', cur, h1, h2, h3, h4, _⟩)⟩ := h
  · cases h1
  · cases h1
    exact ⟨h2, (Array.getElem?_eq_some_iff.1 h3).1, h4⟩
/-- A table of one row, as a statement builds it. -/
theorem Making.one {tS B : Nat} {w : World} {g cap : Nat} {T : List Int} (hg : g < w.heap.size) (hB : B ≤ g) (hr : OwnR w g (some ⟨g, 0, none⟩) T.length (nth T)) :
    Making tS B (w.alloc (.cells #[.slice (some ⟨g, 0, none⟩) T.length cap] tS)) (.slice (some ⟨w.heap.size, 0, none⟩) 1 1) 1 (fun _ => g) (fun _ => cap) (lenL [T]) (nthL [T]) := by
  refine ⟨⟨rfl, .inr ⟨w.heap.size, 1, _, rfl, by omega, heap_alloc_last w _, Nat.le_refl _, by unfold maxLen; omega, rfl, rfl⟩⟩, fun r hr' => ?_, fun r s h1 h2 h3 => by omega⟩
  obtain rfl : r = 0 := by omega
  refine ⟨hB, by simp; omega, fun e => ?_, hr.of_block (Below.heap_alloc _ _ _ hg)⟩
  have : w.heap.size = g := Option.some.inj e
  omega
theorem drop_at {CC : List (List Int)} {i : Nat} (h : i < CC.length) : CC.drop i = CC.getD i [] :: CC.drop (i + 1) := by
  rw [List.drop_eq_getElem_cons h, List.getD_eq_getElem?_getD, List.getElem?_eq_getElem h]; rfl
theorem takes_le {LA LB : List (List Int)} {cs : List (List Int)} {T : List Int} {U M : Nat} (e : takesL cs T U = LA ++ LB) (h : (takesL cs T U).length ≤ M) : LA.length + LB.length ≤ M := by
  rw [e, List.length_append] at h; exact h

set_option maxRecDepth 100000 in
set_option maxHeartbeats 3200000 in
theorem l6wTakes_any (n ca : Nat) (aa : Option Addr) (A : Nat → Option Addr) (Cp : Nat → Nat) (W : Nat → Int) (CC : List (List Int)) (hW : IsWants n W) (hsm : CC.length ≤ 1957) (hcc : ∀ c, c ∈ CC → IsCirc n W c.length (nth c)) (f : Nat) :
    ∀ (i0 : Nat) (T : List Int) (U : Nat) (at' : Option Addr) (ct : Nat) (w : World), i0 + f = CC.length → T.length = n → U < 2 ^ n → Tab w aa CC.length A (lenL CC) Cp (nthL CC) → Rd w at' n (nth T) →
      Calls Try.prog 65 #[.slice aa CC.length ca, .int .i64 (i0 : Nat), .slice at' n ct, .int .i64 (U : Nat)] w (RetLS 23 (takesL (CC.drop i0) T U) w) := by
  have hn2 := hW.1.1
  have hn6 := hW.1.2
  have HCC := Lib.hid hcc
  have HGET := Lib.hid (show ∀ i, i < CC.length → IsCirc n W (CC.getD i []).length (nth (CC.getD i [])) from fun i hi => hcc _ (by rw [List.getD_eq_getElem?_getD, List.getElem?_eq_getElem hi]; exact List.getElem_mem hi))
  have HW := Lib.hid hW
  clear hW hcc
  obtain ⟨ii0, hi, hz0, hz1, hz2⟩ := info_parts Try.infoInt
  obtain ⟨ii1, hj, hy0, hy1, hy2⟩ := info_parts Try.infoInts
  induction f using Nat.strongRecOn with
  | ind f ih =>
    intro i0 T U at' ct w hif hTn hU htab ht
    obtain ⟨ba, oa, rfl, hc0⟩ := ht 0 (by omega)
    have IH := Lib.hid ih
    have HTAB := Lib.hid htab
    have HT := Lib.hid ht
    have hp6 : 2 ^ n ≤ 2 ^ 6 := Nat.pow_le_pow_right (by omega) hn6
    have HSM := Lib.hid (fun i T' U' => takes_small (n := n) (W := W) hn6 0 T' U' (cs := CC.drop i) (by rw [List.length_drop]; omega) (fun c hc => HCC.out c (List.mem_of_mem_drop hc)))
    have hU64 : U < 64 := by omega
    have HU := Lib.hid hU
    clear ih htab ht hc0 hU hp6
    go_enter Try.func65, Try.ntmps65
    go_wp2_with (at_builtin; refine wpList_append_rows _ (by rfl) (.tmp 14) (.tmp 15) 23 (by rfl) w.heap.size 3 ii0 (.int .i64 0) 8 Try.underlying23 hi hz0 hz1 hz2 (by rfl) w.heap.size 0 0 [] (by rfl) (World.ownsRow_made w #[] 0 (Nat.le_refl _) (Nat.zero_le _) (by simp)) ⟨ba, oa, none⟩ n ct (cellsL n (nth T)) (by rfl) (cellsL_length _ _) (HT.out.news (below_alloc (Below.refl _ _) _)) (cellsL_one _ _) (by unfold maxLen; omega) (by omega) (by simp) _ rfl ?_; intro g1 cap1 w1 hown1 hgrow1 hat1; simp only [Nat.zero_add, List.nil_append] at hown1 ⊢; obtain ⟨q1, q2, q3⟩ := owns_base1 hown1; have O1 := Lib.hid (OwnR.of_owns hown1); have B1 := Lib.hid ((below_alloc (Below.refl w.heap.size w) (.cells #[] 3)).grown hgrow1 (by simp) (fun k h => by cases h; exact Nat.le_refl _)); clear hown1 hgrow1 hat1)
    have M0 := Lib.hid (Making.one (tS := 23) (B := w.heap.size) (cap := cap1) (T := T) q2 q1 (by rw [hTn]; exact O1.out))
    rw [hTn] at M0
    obtain ⟨w2, hw2⟩ : ∃ w2, w2 = w1.alloc (.cells #[.slice (some ⟨g1, 0, none⟩) n cap1] 23) := ⟨_, rfl⟩
    have B2 := Lib.hid (show Below w.heap.size w w2 by rw [hw2]; exact below_alloc B1.out _)
    rw [← hw2] at M0 ⊢
    clear hw2 O1 B1
    obtain ⟨s1, hs1⟩ : ∃ s1, s1 = w1.heap.size := ⟨_, rfl⟩
    rw [← hs1] at M0 ⊢
    clear hs1
    go_loopw [9, 10, 11, 12, 13] (fun o i _ _ _ wr => ∃ (i1 go co : Nat) (G Cq : Nat → Nat) (LA : List (List Int)), i0 ≤ i1 ∧ i1 ≤ CC.length ∧ i = .int .i64 i1 ∧ o = .slice (some ⟨go, 0, none⟩) LA.length co ∧ takesL (CC.drop i0) T U = LA ++ takesR (CC.drop i1) T U ∧ Making 23 w.heap.size wr (.slice (some ⟨go, 0, none⟩) LA.length co) LA.length G Cq (lenL LA) (nthL LA) ∧ Below w.heap.size w wr) (fun _ i _ _ _ _ => CC.length - (intOf i).toNat)
    case atStart => exact ⟨i0, s1, 1, _, _, [T], Nat.le_refl _, by omega, rfl, rfl, rfl, M0.out, B2.out⟩
    case round =>
      obtain ⟨i1, go, co, G, Cq, LA, h01, h1N, rfl, rfl, heq, hM, hB⟩ := hrel
      obtain ⟨wo, rfl⟩ : ∃ wo, wo = wr := ⟨_, rfl⟩
      clear M0 B2
      have HE := Lib.hid heq
      have HM := Lib.hid hM
      have BW := Lib.hid hB
      have hLAN := takes_le heq (HSM.out i0 T U)
      obtain ⟨NL, hNL⟩ : ∃ NL, NL = LA.length := ⟨_, rfl⟩
      rw [← hNL] at hLAN ⊢
      have QN := Lib.hid hNL
      clear heq hM hB hNL
      by_cases hlt : i1 < CC.length
      · obtain ⟨bt, ot, hbt, hct, hrt⟩ := (HTAB.out.below (Nat.le_refl _) BW.out) i1 hlt
        subst hbt
        obtain ⟨c, hc⟩ : ∃ c, c = CC.getD i1 [] := ⟨_, rfl⟩
        obtain ⟨m, hm⟩ : ∃ m, m = c.length := ⟨_, rfl⟩
        have QMM := Lib.hid hm
        have HCI := Lib.hid (show IsCirc n W m (nth c) by rw [hm, hc]; exact HGET.out i1 hlt)
        have hm6 : m ≤ n := diff_le HCI.out.1
        have hm2 : 2 ≤ m := HCI.out.2.2.2
        have hlc : lenL CC i1 = m := by unfold lenL; rw [hm, hc]
        have hnc : nthL CC i1 = nth c := by funext k; unfold nthL; rw [hc]
        rw [hlc] at hct hrt
        rw [hnc] at hrt
        have HD := Lib.hid (show CC.drop i1 = c :: CC.drop (i1 + 1) by rw [hc]; exact drop_at hlt)
        have HRT := Lib.hid hrt
        have HSET := Lib.hid (fun w' (h : Rd w' (A i1) m (nth c)) => l6wSet_any n m (Cp i1) (A i1) (nth c) w' hn6 (by omega) h HCI.out.1.1)
        have hS : setN (nth c) m < 2 ^ n := setN_lt fun j hj => HCI.out.1.1 j hj
        have hp6 : 2 ^ n ≤ 2 ^ 6 := Nat.pow_le_pow_right (by omega) hn6
        obtain ⟨S, hSe⟩ : ∃ S, S = setN (nth c) m := ⟨_, rfl⟩
        have hS2 : S < 2 ^ n := by rw [hSe]; exact hS
        rw [← hSe] at HSET
        have hand := bits_and_i64 U S (by omega) (by omega)
        have hor := bits_or_i64 U S (by omega) (by omega)
        obtain ⟨D, hDe⟩ : ∃ D, D = U &&& S := ⟨_, rfl⟩
        obtain ⟨V, hVe⟩ : ∃ V, V = U ||| S := ⟨_, rfl⟩
        rw [← hDe] at hand
        rw [← hVe] at hor
        have HV := Lib.hid (show V < 2 ^ n ∧ V = U ||| setL c by rw [hVe]; exact ⟨Nat.or_lt_two_pow HU.out hS2, by rw [hSe, hm]; rfl⟩)
        have HDS := Lib.hid (show D = U &&& setL c by rw [hDe, hSe, hm]; rfl)
        have i1c : (i1 : Int) < (CC.length : Int) := by omega
        clear hrt hlc hnc hc hS hp6 hSe hS2 hDe hVe hm
        by_cases hD0 : D = 0
        · have dd : ((D : Int) != 0) = false := by simp [hD0]
          have HZ := Lib.hid (show U &&& setL c = 0 by rw [← HDS.out]; exact hD0)
          clear hD0
          go_wp2_with (first
            | (go_at_call 46; refine (HSET.out wo HRT.out).mono ?_; rintro e w' ⟨rfl, rfl⟩)
            | (at_builtin; refine wpList_append_rows _ (by rfl) (.tmp 34) (.tmp 35) 23 (by rfl) wo.heap.size 3 ii0 (.int .i64 0) 8 Try.underlying23 hi hz0 hz1 hz2 (by rfl) wo.heap.size 0 0 [] (by rfl) (World.ownsRow_made wo #[] 0 (Nat.le_refl _) (Nat.zero_le _) (by simp)) ⟨ba, oa, none⟩ n ct (cellsL n (nth T)) (by rfl) (cellsL_length _ _) (HT.out.news (below_alloc BW.out _)) (cellsL_one _ _) (by unfold maxLen; omega) (by omega) (by simp) _ rfl ?_; intro g3 cap3 w3 hown3 hgrow3 hat3; simp only [Nat.zero_add, List.nil_append] at hown3 ⊢; obtain ⟨q4, q5, q6⟩ := owns_base1 hown3; have O3 := Lib.hid (OwnR.of_owns hown3); have B3 := Lib.hid ((below_alloc (Below.refl wo.heap.size wo) (.cells #[] 3)).grown hgrow3 (by simp) (fun k h => by cases h; exact Nat.le_refl _)); clear hown3 hgrow3 hat3))
          go_loopw [13] (fun x wi => ∃ j : Nat, j ≤ m ∧ x = .int .i64 j ∧ OwnR wi g3 (some ⟨g3, 0, none⟩) n (nextF (nth T) (nth c) m j) ∧ Below wo.heap.size wo wi ∧ g3 < wi.heap.size) (fun x _ => m - (intOf x).toNat)
          case atStart => exact ⟨0, Nat.zero_le _, rfl, O3.out, B3.out, q5⟩
          case round =>
            obtain ⟨j, hj', rfl, ho, hbi, hgi⟩ := hrel
            clear O3 B3
            have OI := Lib.hid ho
            have BI := Lib.hid hbi
            clear ho hbi
            by_cases hjl : j < m
            · obtain ⟨bb, ob, hbe, hcb⟩ := (HRT.out.below (Nat.le_refl _) BI.out) j hjl
              obtain ⟨q2', hq2⟩ : ∃ q2', q2' = (j + 1) % m := ⟨_, rfl⟩
              have hq2m : q2' < m := by rw [hq2]; exact Nat.mod_lt _ (by omega)
              have htm : ((j : Int) + 1).tmod (m : Int) = (q2' : Int) := by rw [Int.tmod_eq_emod_of_nonneg (by omega), hq2, Int.natCast_emod]; rfl
              have hwj : IntKind.i64.wrap ((j : Int) + 1) = (j : Int) + 1 := IntWalk.i64_in _ (by omega)
              obtain ⟨b2, o2, he2, hcb2⟩ := (HRT.out.below (Nat.le_refl _) BI.out) q2' hq2m
              rw [hbe] at he2
              cases he2
              obtain ⟨x, hx⟩ := Int.eq_ofNat_of_zero_le (HCI.out.1.1 j hjl).1
              have hxn : x < n := by have := (HCI.out.1.1 j hjl).2; omega
              obtain ⟨hc0, hf0⟩ := OI.out.at hxn
              rw [hx] at hcb
              obtain ⟨v, hv⟩ : ∃ v, v = nth c q2' := ⟨_, rfl⟩
              rw [← hv] at hcb2
              have HX := Lib.hid hx
              have HVV := Lib.hid (show v = nth c ((j + 1) % m) by rw [hv, hq2])
              have k1 : (0 : Int) ≤ (x : Int) := by omega
              have k2 : (x : Int) < (n : Int) := by omega
              have k3 : (q2' : Int) < (m : Int) := by omega
              have k4 : (0 : Int) ≤ (q2' : Int) := by omega
              have k5 : (j : Int) < (m : Int) := by omega
              have hz : ((m : Int) == 0) = false := by simp; omega
              have hzz : ¬ (m : Int) = 0 := by omega
              have hz3 : ¬ m = 0 := by omega
              rw [hbe]
              clear hx hv hq2
              go_wp2_with fail
              go_still_tail 14, (by kernel_rfl)
              go_wp2_with fail
              go_roundw
              case rel =>
                refine ⟨j + 1, by omega, by go_num, (OI.out.set hxn v).congr (fun y _ => ?_), (BI.out.setCell (p := ⟨g3, x, none⟩) (by show wo.heap.size ≤ g3; omega) _).drew, by simpa [World.setCell] using hgi⟩
                show _ = (if (y : Int) = nth c j then nth c ((j + 1) % m) else nextF (nth T) (nth c) m j y)
                by_cases e : y = x
                · rw [if_pos e, if_pos (by rw [HX.out, e]), HVV.out]
                · rw [if_neg e, if_neg (by rw [HX.out]; omega)]
              case measure => simp [intOf]; omega
            · obtain rfl : j = m := by omega
              have RN := Lib.hid (show Rd wr (some ⟨g3, 0, none⟩) n (nth (nextL T c)) from OI.out.rd.congr fun y hy => by rw [nextL_nth (by omega), ← QMM.out])
              have HSE2 := Lib.hid (HSET.out wr (HRT.out.below (Nat.le_refl _) BI.out))
              have hbr := BW.out.trans (BI.out.mono BW.out.size)
              have HBR := Lib.hid hbr
              obtain ⟨TL, hTL⟩ : ∃ TL, TL = takesL (CC.drop (i1 + 1)) (nextL T c) V := ⟨_, rfl⟩
              have hTLs : TL.length ≤ 7506509912 := by rw [hTL]; exact HSM.out (i1 + 1) (nextL T c) V
              have HI := Lib.hid (show Calls Try.prog 65 #[.slice (some ⟨bt, ot, none⟩) CC.length ca, .int .i64 ((i1 : Int) + 1), .slice (some ⟨g3, 0, none⟩) n cap3, .int .i64 (V : Nat)] wr (RetLS 23 TL wr) from by
                rw [hTL]
                exact IH.out (CC.length - (i1 + 1)) (by omega) (i1 + 1) (nextL T c) V (some ⟨g3, 0, none⟩) cap3 wr (by omega) (by rw [nextL_len]; exact hTn) HV.out.1 (HTAB.out.below (Nat.le_refl _) hbr) RN.out)
              obtain ⟨M, hMl⟩ : ∃ M, M = TL.length := ⟨_, rfl⟩
              rw [← hMl] at hTLs
              have QM := Lib.hid hMl
              have QTL := Lib.hid hTL
              clear hMl hTL hbr
              go_wp2_with (first
                | (go_at_call 46; refine HSE2.out.mono ?_; rintro e w' ⟨rfl, rfl⟩)
                | (go_at_call 65; refine HI.out.mono ?_; rintro e w5 ⟨g', cap', G', Cp', rfl, hM', hB'⟩; rw [← QM.out] at hM' ⊢; have M5 := Lib.hid hM'; have B5 := Lib.hid hB'; have hs5 := hB'.size; have hsI := BI.out.size; clear hM' hB')
                | (at_builtin; refine wpList_append_rows _ (by rfl) (.tmp 57) (.tmp 66) 26 (by rfl) w.heap.size 23 ii1 (.slice none 0 0) 24 Try.underlying26 hj hy0 hy1 hy2 (by rfl) go NL co ((List.range NL).map fun r => .slice (some ⟨G r, 0, none⟩) (lenL LA r) (Cq r)) (by rfl) (by rw [QN.out]; exact (HM.out.below (BI.out.trans (B5.out.mono BI.out.size))).1) ⟨g', 0, none⟩ M cap' ((List.range M).map fun r => .slice (some ⟨G' r, 0, none⟩) (lenL TL r) (Cp' r)) (by rfl) (by simp) (fun j u hu => M5.out.1.cells (g := g') rfl j u hu) (fun u hu => by obtain ⟨r, _, rfl⟩ := List.mem_map.1 hu; rfl) (by unfold maxLen; omega) (by omega) (by have := BW.out.size; omega) _ rfl ?_; intro g6 cap6 w6 hown6 hgrow6 hat6; have N6 := Lib.hid hown6; have G6 := Lib.hid hgrow6; have A6 := Lib.hid hat6; clear hown6 hgrow6 hat6))
              go_roundw
              case rel =>
                have hv := HM.out.1.lt go rfl
                have HMJ : Making 23 w.heap.size w5 (.slice (some ⟨go, 0, none⟩) NL co) NL G Cq (lenL LA) (nthL LA) := by rw [QN.out]; exact HM.out.below (BI.out.trans (B5.out.mono BI.out.size))
                refine ⟨i1 + 1, g6, cap6, (fun r => if r < NL then G r else G' (r - NL)), (fun r => if r < NL then Cq r else Cp' (r - NL)), LA ++ TL, by omega, by omega, by go_num, ?_, ?_, ?_, (HBR.out.trans (B5.out.mono HBR.out.size)).grown G6.out (by have := HBR.out.size; omega) (fun x hx => by cases hx; exact hv.1)⟩
                · rw [List.length_append, ← QN.out, ← QM.out]
                · rw [HE.out, HD.out, takesR_yes HZ.out, List.append_assoc, QTL.out, HV.out.2]
                · rw [List.length_append, ← QN.out, ← QM.out]
                  exact Making.join HMJ M5.out (by have := HBR.out.size; omega) (fun r hr => by have := (HM.out.2.1 r (by rw [← QN.out]; exact hr)).2.1; omega) (fun x hx => by have hgx : go = x := Option.some.inj hx; omega) (fun r hr => lists_left (by rw [← QN.out]; exact hr)) (fun r hr => by rw [QN.out]; exact lists_right) N6.out G6.out (by rcases A6.out with h | h; exact .inl (congrArg some h); exact .inr h) (Nat.le_refl _)
              case measure => simp [intOf]; omega
        · have dd : ((D : Int) != 0) = true := by simp; omega
          have HZ := Lib.hid (show ¬ U &&& setL c = 0 by rw [← HDS.out]; exact hD0)
          clear hD0
          go_wp2_with (go_at_call 46; refine (HSET.out wo HRT.out).mono ?_; rintro e w' ⟨rfl, rfl⟩)
          go_roundw
          case rel => exact ⟨i1 + 1, go, co, G, Cq, LA, by omega, by omega, by go_num, by rw [QN.out], by rw [HE.out, HD.out, takesR_no HZ.out], HM.out, BW.out⟩
          case measure => simp [intOf]; omega
      · obtain rfl : i1 = CC.length := by omega
        go_wp2_with fail
        go_ret
        have e : takesL (CC.drop i0) T U = LA := by
          rw [HE.out, List.drop_length]
          show LA ++ [] = LA
          rw [List.append_nil]
        exact ⟨go, co, G, Cq, by rw [e, QN.out]; rfl, by rw [e]; exact HM.out, BW.out⟩
end Go.Proofs.Yteigenmagifplaa
namespace Go.Proofs.Yteigenmagifplaa
set_option linter.unusedVariables false
set_option linter.unusedSimpArgs false
open Go.RowKit

/-- What a call hands back: a row of its own. -/
def RetO (n : Nat) (X : Nat → Int) (w : World) (e : Ending) (w' : World) : Prop :=
  ∃ g cap, e = .returned (.slice (some ⟨g, 0, none⟩) n cap) ∧ (w.heap.size ≤ g ∧ g < w'.heap.size) ∧ OwnR w' g (some ⟨g, 0, none⟩) n X ∧ Below w.heap.size w w'
theorem ownF_nth {n i : Nat} (h : i < n) : nth (ownF n) i = i := nth_map h
theorem bestIn_take {n k : Nat} {b : List Int} {TL : List (List Int)} (h : k < TL.length) : bestIn n b (TL.take (k + 1)) = betterL n (bestIn n b (TL.take k)) (TL.getD k []) := by
  unfold bestIn
  rw [take_snoc h, List.foldl_append]; rfl
theorem takes_len {n f : Nat} {W : Nat → Int} (hW : IsWants n W) {r : Nat} (hr : r < (takesL (circs n W f []) (ownF n) 0).length) : ((takesL (circs n W f []) (ownF n) 0).getD r []).length = n := by
  obtain ⟨P, U, _, _, h, _⟩ := unpacked hW (k := f) (T := (takesL (circs n W f []) (ownF n) 0).getD r []) (by rw [List.getD_eq_getElem?_getD, List.getElem?_eq_getElem hr]; exact List.getElem_mem hr)
  exact h.1
theorem cells_own {n k : Nat} (h : k < n) : cellsL k (nth (ownF n)) ++ [.int .i64 (k : Nat)] = cellsL (k + 1) (nth (ownF n)) := by
  rw [cellsL_snoc]
  unfold cellsL
  refine List.map_congr_left fun j hj => ?_
  have := List.mem_range.1 hj
  dsimp only
  by_cases e : j < k
  · rw [if_pos e]
  · rw [if_neg e, ownF_nth (show j < n by omega), show j = k by omega]
set_option maxRecDepth 100000 in
set_option maxHeartbeats 3200000 in
theorem l6wBest_any (n c f : Nat) (a : Option Addr) (W : Nat → Int) (w : World) (hW : IsWants n W) (hf : f ≤ n) (ha : Rd w a n W) :
    Calls Try.prog 50 #[.slice a n c, .int .i64 (f : Nat)] w (RetO n (nth (bestL n W f)) w) := by
  have hn2 := hW.1.1
  have hn6 := hW.1.2
  have HW := Lib.hid hW
  have HA := Lib.hid ha
  have HC := Lib.hid (fun w' (hb : Below w.heap.size w w') ba cb (hba : ba < w'.heap.size) => l6wAll_any n c f a W w' hW hf (ha.below (Nat.le_refl _) hb) ba cb hba)
  obtain ⟨i0, hi, hz0, hz1, hz2⟩ := info_parts Try.infoInt
  clear hW ha
  go_enter Try.func50, Try.ntmps50
  go_wp2_with fail
  obtain ⟨s, hs⟩ : ∃ s, s = w.heap.size := ⟨_, rfl⟩
  obtain ⟨w0, hw0⟩ : ∃ w0, w0 = w.alloc (.cells #[] 3) := ⟨_, rfl⟩
  have O0 := Lib.hid (show w0.ownsRow s 3 1 (.slice (some ⟨s, 0, none⟩) 0 0) 0 (cellsL 0 (nth (ownF n))) by rw [hw0, hs]; exact World.ownsRow_made w #[] 0 (Nat.le_refl _) (Nat.zero_le _) (by simp))
  have B0 := Lib.hid (show Below w.heap.size w w0 by rw [hw0]; exact below_alloc (Below.refl _ w) _)
  have HS := Lib.hid hs
  rw [← hw0, ← hs]
  clear hw0 hs
  go_loopw [5, 6] (fun o i wr => ∃ (k go co : Nat), k ≤ n ∧ i = .int .i64 k ∧ o = .slice (some ⟨go, 0, none⟩) k co ∧ wr.ownsRow s 3 1 (.slice (some ⟨go, 0, none⟩) k co) k (cellsL k (nth (ownF n))) ∧ Below w.heap.size w wr) (fun _ i _ => n - (intOf i).toNat)
  case atStart => exact ⟨0, s, 0, Nat.zero_le _, rfl, rfl, O0.out, B0.out⟩
  case round =>
    obtain ⟨k, go, co, hk, rfl, rfl, hown, hB⟩ := hrel
    clear O0 B0
    have HO := Lib.hid hown
    have BW := Lib.hid hB
    have hss : s ≤ wr.heap.size := by rw [HS.out]; exact hB.size
    clear hown hB
    by_cases hlt : k < n
    · go_wp2_with (at_builtin; refine wpList_append_rows _ (by rfl) (.tmp 18) (.tmp 20) 23 (by rfl) s 3 i0 (.int .i64 0) 8 Try.underlying23 hi hz0 hz1 hz2 (by rfl) go k co (cellsL k (nth (ownF n))) (by rfl) (HO.out.alloc _) ⟨_, 0, none⟩ 1 1 [.int .i64 k] (by rfl) (by rfl) (news_one (by simp)) (by simp [Value.oneCell']) (by unfold maxLen; omega) (by omega) (by simp; omega) _ rfl ?_; intro g2 cap2 w2 hown2 hgrow2 hat2; obtain ⟨q1, q2, q3⟩ := owns_base1 hown2; have O2 := Lib.hid hown2; have B2 := Lib.hid ((below_alloc BW.out (.cells #[.int .i64 k] 3)).grown hgrow2 (by have := BW.out.size; simp; omega) (fun x hx => by cases hx; have := (owns_base1 HO.out).1; have := HS.out; omega)); clear hown2 hgrow2 hat2)
      go_roundw
      case rel => exact ⟨k + 1, g2, cap2, by omega, by go_num, rfl, by rw [← cells_own hlt]; exact O2.out, B2.out⟩
      case measure => simp [intOf]; omega
    · obtain rfl : k = n := by omega
      obtain ⟨q1, q2, q3⟩ := owns_base1 HO.out
      have OO := Lib.hid (OwnR.of_owns HO.out)
      obtain ⟨wo, rfl⟩ : ∃ wo, wo = wr := ⟨_, rfl⟩
      obtain ⟨CC, hCC⟩ : ∃ CC, CC = circs k W f [] := ⟨_, rfl⟩
      have hlen : CC.length ≤ 1957 := by rw [hCC]; exact circs_small hn6 f
      have HCM := Lib.hid (show ∀ c, c ∈ CC → IsCirc k W c.length (nth c) from fun c hc => by rw [hCC] at hc; exact (mem_circs.1 hc).1)
      rw [← hCC] at HC
      obtain ⟨TL, hTL⟩ : ∃ TL, TL = takesL CC (ownF k) 0 := ⟨_, rfl⟩
      have hTLs : TL.length ≤ 7506509912 := by rw [hTL]; exact takes_small hn6 0 _ _ hlen HCM.out
      have HTL := Lib.hid (show ∀ r, r < TL.length → lenL TL r = k from fun r hr => by rw [hTL, hCC] at hr ⊢; exact takes_len HW.out hr)
      have HTK := Lib.hid (fun (ca : Nat) (aa : Option Addr) (A : Nat → Option Addr) (Cp : Nat → Nat) (at' : Option Addr) (ct : Nat) (w' : World) (h1 : Tab w' aa CC.length A (lenL CC) Cp (nthL CC)) (h2 : Rd w' at' k (nth (ownF k))) => (show Calls Try.prog 65 #[.slice aa CC.length ca, .int .i64 0, .slice at' k ct, .int .i64 0] w' (RetLS 23 TL w') from by
        rw [hTL]
        exact l6wTakes_any k ca aa A Cp W CC HW.out hlen HCM.out CC.length 0 (ownF k) 0 at' ct w' (by omega) (by unfold ownF; simp) (Nat.two_pow_pos k) h1 h2))
      have HBE := Lib.hid (show bestL k W f = bestIn k (ownF k) (TL.take TL.length) by rw [List.take_length, hTL, hCC]; rfl)
      obtain ⟨N, hN⟩ : ∃ N, N = TL.length := ⟨_, rfl⟩
      rw [← hN] at hTLs HTL HBE
      have QN := Lib.hid hN
      clear hCC hTL hN
      go_wp2_with (first
        | (go_at_call 36; refine (HC.out _ (below_alloc BW.out _) _ _ (by simp)).mono ?_; rintro e w2 ⟨g, cap, G, Cp, rfl, hM, hb2⟩; have HM := Lib.hid hM.ownT.tab; have B2 := Lib.hid ((below_alloc (Below.refl wo.heap.size wo) (.cells #[] 3)).trans (hb2.mono (by simp))); clear hM hb2)
        | (go_at_call 65; refine (HTK.out _ _ _ _ _ _ _ HM.out (OO.out.of_block (B2.out.block go q2)).rd).mono ?_; rintro e w3 ⟨g3, cap3, G3, Cp3, rfl, hM3, hb3⟩; have HM3 := Lib.hid hM3; have B3 := Lib.hid (B2.out.trans (hb3.mono B2.out.size)); have S3 := Lib.hid (Nat.le_trans B2.out.size hb3.size); have S2 := Lib.hid B2.out.size; clear hM3 hb3))
      have OO3 := Lib.hid (OO.out.of_block (B3.out.block go q2))
      have TT := Lib.hid HM3.out.ownT.tab
      rw [← QN.out] at HM3 TT ⊢
      go_loopw [8, 9, 10] (fun b i _ wr => ∃ (j gb cb : Nat), j ≤ N ∧ i = .int .i64 j ∧ b = .slice (some ⟨gb, 0, none⟩) k cb ∧ (w.heap.size ≤ gb ∧ gb < w3.heap.size) ∧ OwnR w3 gb (some ⟨gb, 0, none⟩) k (nth (bestIn k (ownF k) (TL.take j))) ∧ Below w3.heap.size w3 wr) (fun _ i _ _ => N - (intOf i).toNat)
      case atStart => exact ⟨0, go, co, Nat.zero_le _, rfl, rfl, ⟨by rw [← HS.out]; exact q1, Nat.lt_of_lt_of_le q2 S3.out⟩, OO3.out, Below.refl _ _⟩
      case round =>
        obtain ⟨j, gb, cb, hj, rfl, rfl, ⟨hg1, hg2⟩, ho, hB3⟩ := hrel
        have OB := Lib.hid ho
        have BR := Lib.hid hB3
        clear ho hB3
        by_cases hjl : j < N
        · obtain ⟨bt, ot, hbt, hct, hrt⟩ := (TT.out.below (Nat.le_refl _) BR.out) j hjl
          cases hbt
          rw [Nat.zero_add] at hct
          have hln := HTL.out j hjl
          rw [hln] at hct hrt
          obtain ⟨Bst, hBst⟩ : ∃ Bst, Bst = bestIn k (ownF k) (TL.take j) := ⟨_, rfl⟩
          rw [← hBst] at OB
          have HRT := Lib.hid hrt
          obtain ⟨k1, k2, k3, k4⟩ := HM3.out.2.1 j hjl
          have HOW := Lib.hid k4
          have hnl : nthL TL j = nth (TL.getD j []) := rfl
          obtain ⟨TT', hTT⟩ : ∃ TT', TT' = TL.getD j [] := ⟨_, rfl⟩
          rw [hnl, ← hTT] at HRT HOW
          rw [hln] at HOW
          have HNX := Lib.hid (show bestIn k (ownF k) (TL.take (j + 1)) = betterL k Bst TT' by rw [bestIn_take (by rw [← QN.out]; exact hjl), hBst, hTT])
          obtain ⟨mB, hmB⟩ : ∃ mB, mB = movedN (nth Bst) k := ⟨_, rfl⟩
          obtain ⟨mT, hmT⟩ : ∃ mT, mT = movedN (nth TT') k := ⟨_, rfl⟩
          have hmBn : mB ≤ k := by rw [hmB]; exact movedN_le _ _
          have hmTn : mT ≤ k := by rw [hmT]; exact movedN_le _ _
          have HMT := Lib.hid (show Calls Try.prog 49 #[.slice (some ⟨G3 j, 0, none⟩) k (Cp3 j)] wr fun e w' => e = .returned (.int .i64 (mT : Nat)) ∧ wr = w' by rw [hmT]; exact l6wMoved_any k (Cp3 j) _ (nth TT') wr (by omega) HRT.out)
          have OBr := Lib.hid (show Rd wr (some ⟨gb, 0, none⟩) k (nth Bst) from (OB.out.of_block (BR.out.block gb hg2)).rd)
          have HMB := Lib.hid (show Calls Try.prog 49 #[.slice (some ⟨gb, 0, none⟩) k cb] wr fun e w' => e = .returned (.int .i64 (mB : Nat)) ∧ wr = w' by rw [hmB]; exact l6wMoved_any k cb _ (nth Bst) wr (by omega) OBr.out)
          have HL := Lib.hid (l6wLess_any k (Cp3 j) cb (some ⟨G3 j, 0, none⟩) (some ⟨gb, 0, none⟩) (nth TT') (nth Bst) wr (by omega) HRT.out OBr.out)
          have QB := Lib.hid hmB
          have QT := Lib.hid hmT
          have QBst := Lib.hid hBst
          have i1c : (j : Int) < (N : Int) := by omega
          have tk : True := trivial
          clear hrt k3 k4 hnl hTT hmB hmT hBst hln
          by_cases h1 : mB < mT
          · have d1 : decide ((mB : Int) < (mT : Int)) = true := by simp; omega
            have d2 : decide (mB < mT) = true := by simp; omega
            have HX := Lib.hid (show bestIn k (ownF k) (TL.take (j + 1)) = TT' by rw [HNX.out]; exact better_yes1 (by rw [← QB.out, ← QT.out]; exact h1))
            clear h1
            go_wp2_with (first
              | (have _t := tk; go_at_call 49; refine HMT.out.mono ?_; clear tk; rintro e w' ⟨rfl, rfl⟩)
              | (go_at_call 49; refine HMB.out.mono ?_; rintro e w' ⟨rfl, rfl⟩))
            go_roundw
            case rel => exact ⟨j + 1, G3 j, Cp3 j, by omega, by go_num, rfl, ⟨by have := S2.out; have := BW.out.size; omega, k2⟩, by rw [HX.out]; exact HOW.out, BR.out⟩
            case measure => simp [intOf]; omega
          · have d1 : decide ((mB : Int) < (mT : Int)) = false := by simp; omega
            have d2 : decide (mB < mT) = false := by simp; omega
            by_cases h2 : mT = mB
            · have d3 : ((mT : Int) == (mB : Int)) = true := by simp; omega
              by_cases h3 : LessP k (nth TT') (nth Bst)
              · have T3 := Lib.hid (tt_of h3)
                have HX := Lib.hid (show bestIn k (ownF k) (TL.take (j + 1)) = TT' by rw [HNX.out]; exact better_tie (by rw [← QB.out, ← QT.out]; exact h2) h3)
                clear h1 h2 h3
                go_wp2_with (first
                  | (have _t := tk; go_at_call 49; refine HMT.out.mono ?_; clear tk; rintro e w' ⟨rfl, rfl⟩)
                  | (go_at_call 49; refine HMB.out.mono ?_; rintro e w' ⟨rfl, rfl⟩)
                  | (go_at_call 66; refine HL.out.mono ?_; rintro e w9 ⟨rfl, hb9⟩; rw [T3.out]; have hct9 := (hb9.cell (p := ⟨g3, j, none⟩) (World.block_lt_of_cell? _ _ hct)).trans hct; have B9 := Lib.hid (BR.out.trans (hb9.mono BR.out.size)); clear hb9))
                go_roundw
                case rel => exact ⟨j + 1, G3 j, Cp3 j, by omega, by go_num, rfl, ⟨by have := S2.out; have := BW.out.size; omega, k2⟩, by rw [HX.out]; exact HOW.out, B9.out⟩
                case measure => simp [intOf]; omega
              · have T3 := Lib.hid (tt_no h3)
                have HX := Lib.hid (show bestIn k (ownF k) (TL.take (j + 1)) = Bst by rw [HNX.out]; exact better_no (by rw [← QB.out, ← QT.out]; exact h1) (fun _ => h3))
                clear h1 h2 h3
                go_wp2_with (first
                  | (have _t := tk; go_at_call 49; refine HMT.out.mono ?_; clear tk; rintro e w' ⟨rfl, rfl⟩)
                  | (go_at_call 49; refine HMB.out.mono ?_; rintro e w' ⟨rfl, rfl⟩)
                  | (go_at_call 66; refine HL.out.mono ?_; rintro e w9 ⟨rfl, hb9⟩; rw [T3.out]; have hct9 := (hb9.cell (p := ⟨g3, j, none⟩) (World.block_lt_of_cell? _ _ hct)).trans hct; have B9 := Lib.hid (BR.out.trans (hb9.mono BR.out.size)); clear hb9))
                go_roundw
                case rel => exact ⟨j + 1, gb, cb, by omega, by go_num, rfl, ⟨hg1, hg2⟩, by rw [HX.out]; exact OB.out, B9.out⟩
                case measure => simp [intOf]; omega
            · have d3 : ((mT : Int) == (mB : Int)) = false := by simp; omega
              have HX := Lib.hid (show bestIn k (ownF k) (TL.take (j + 1)) = Bst by rw [HNX.out]; exact better_no (by rw [← QB.out, ← QT.out]; exact h1) (fun h => absurd (by rw [QT.out, QB.out]; exact h) h2))
              clear h1 h2
              go_wp2_with (first
                | (have _t := tk; go_at_call 49; refine HMT.out.mono ?_; clear tk; rintro e w' ⟨rfl, rfl⟩)
                | (go_at_call 49; refine HMB.out.mono ?_; rintro e w' ⟨rfl, rfl⟩))
              go_roundw
              case rel => exact ⟨j + 1, gb, cb, by omega, by go_num, rfl, ⟨hg1, hg2⟩, by rw [HX.out]; exact OB.out, BR.out⟩
              case measure => simp [intOf]; omega
        · obtain rfl : j = N := by omega
          go_wp2_with fail
          go_ret
          exact ⟨gb, cb, rfl, ⟨hg1, Nat.lt_of_lt_of_le hg2 BR.out.size⟩, by rw [HBE.out]; exact OB.out.of_block (BR.out.block gb hg2), BW.out.trans ((B3.out.trans (BR.out.mono S3.out)).mono BW.out.size)⟩
end Go.Proofs.Yteigenmagifplaa
