/- The model's l1Rounds: all rounds that gain. -/
import Derived.Test.YtlidobacehbecaaL1LongerAll
import Derived.Test.YtlidobacehbecaaL1Ring
import Derived.Test.YtlidobacehbecaaL1Closed
import Derived.Test.YtlidobacehbecaaL1Value
import Derived.Test.YtlidobacehbecaaL1Power
namespace Go.Proofs.Ytlidobacehbecaa
set_option linter.unusedVariables false
open Go.RowKit

/-- Does this list gain, as a round? -/
def Gains (n : Nat) (Z : Nat → Nat → Int) (D : List Int) : Prop := IsRing n D.length (nth D) ∧ p12 n < roundV n Z D.length (nth D)
noncomputable def gainTo (n : Nat) (Z : Nat → Nat → Int) (LL : List (List Int)) (k : Nat) : List (List Int) := (LL.take k).filter fun D => tt (Gains n Z D)
/-- All rounds that gain, in order. -/
noncomputable def gaining (n : Nat) (Z : Nat → Nat → Int) : List (List Int) := (longer n n []).filter fun D => tt (Gains n Z D)
section
variable {n k : Nat} {Z : Nat → Nat → Int} {LL : List (List Int)}
theorem take_snoc (h : k < LL.length) : LL.take (k + 1) = LL.take k ++ [LL.getD k []] := by
  rw [List.take_add_one, List.getElem?_eq_getElem h, List.getD_eq_getElem?_getD, List.getElem?_eq_getElem h]
  rfl
theorem gainTo_yes (h : k < LL.length) (hg : Gains n Z (LL.getD k [])) : gainTo n Z LL (k + 1) = gainTo n Z LL k ++ [LL.getD k []] := by
  unfold gainTo
  rw [take_snoc h, List.filter_append, List.filter_cons_of_pos (by rw [tt_of hg]), List.filter_nil]
theorem gainTo_no (h : k < LL.length) (hg : ¬ Gains n Z (LL.getD k [])) : gainTo n Z LL (k + 1) = gainTo n Z LL k := by
  unfold gainTo
  rw [take_snoc h, List.filter_append, List.filter_cons_of_neg (by rw [tt_no hg]; simp), List.filter_nil, List.append_nil]
theorem gainTo_le : (gainTo n Z LL k).length ≤ k := Nat.le_trans (List.length_filter_le _ _) (by rw [List.length_take]; exact Nat.min_le_left _ _)
theorem gainTo_all : gainTo n Z (longer n n []) (longer n n []).length = gaining n Z := by unfold gainTo gaining; rw [List.take_length]
theorem longerAll_pos (hn : 2 ≤ n) : 0 < (longer n n []).length := by
  have hnd := ((Diff.nil n).snoc_iff (x := 0) (by omega)).2 List.not_mem_nil
  have h3 := longer_pos (f := n - 1) hn hnd (by simp) (by simp; omega)
  obtain ⟨D, hD⟩ := List.exists_mem_of_length_pos h3
  rw [longer_eq (Diff.nil n) (by simp)]
  unfold longerTo
  rw [List.length_append]
  have : D ∈ (List.range n).flatMap fun (x : Nat) => if (x : Int) ∈ ([] : List Int) then [] else longer n (n - 1) ([] ++ [(x : Int)]) := List.mem_flatMap.2 ⟨0, List.mem_range.2 (by omega), by rw [if_neg List.not_mem_nil]; exact hD⟩
  have := List.length_pos_of_mem this
  omega
theorem longerAll_at (h : k < (longer n n []).length) : Diff n ((longer n n []).getD k []) ∧ 2 ≤ ((longer n n []).getD k []).length ∧ ((longer n n []).getD k []).length ≤ n := by
  have h1 : (longer n n []).getD k [] ∈ longer n n [] := by
    rw [List.getD_eq_getElem?_getD, List.getElem?_eq_getElem h]
    exact List.getElem_mem h
  have h2 := mem_longer n [] (Diff.nil n) _ h1
  exact ⟨h2.1, h2.2, diff_le h2.1⟩
end
section
variable {tS B i : Nat} {w w1 : World} {v : Value} {G Cp L L' : Nat → Nat} {X X' : Nat → Nat → Int}
theorem Making.congr (h : Making tS B w v i G Cp L X) (e : ∀ r, r < i → L r = L' r ∧ X r = X' r) : Making tS B w v i G Cp L' X' := by
  obtain ⟨h1, h2, h3⟩ := h
  refine ⟨?_, fun r hr => ?_, h3⟩
  · have e1 : (List.range i).map (fun r => Value.slice (some ⟨G r, 0, none⟩) (L r) (Cp r)) = (List.range i).map (fun r => Value.slice (some ⟨G r, 0, none⟩) (L' r) (Cp r)) := List.map_congr_left fun r hr => by rw [(e r (List.mem_range.1 hr)).1]
    rw [← e1]; exact h1
  · rw [← (e r hr).1, ← (e r hr).2]; exact h2 r hr
theorem Making.grown {row : Option Nat} (h : Making tS B w v i G Cp L X) (hg : w.grownBy w1 row) (hv : ∀ k, v.ownBlock = some k → row ≠ some k) (hG : ∀ r, r < i → row ≠ some (G r)) : Making tS B w1 v i G Cp L X := by
  obtain ⟨h1, h2, h3⟩ := h
  refine ⟨?_, fun r hr => ?_, h3⟩
  · obtain ⟨k1, (k2 | ⟨g, cap, cur, k3, k4, k5, k6⟩)⟩ := h1
    · exact ⟨k1, .inl k2⟩
    · refine ⟨k1, .inr ⟨g, cap, cur, k3, k4, (hg.block g (Array.getElem?_eq_some_iff.1 k5).1 (fun e => hv g (by rw [k3]; rfl) e.symm)).trans k5, k6⟩⟩
  · obtain ⟨m1, m2, m3, m4⟩ := h2 r hr
    exact ⟨m1, Nat.lt_of_lt_of_le m2 hg.size, m3, m4.of_block (hg.block _ m2 (fun e => hG r hr e.symm))⟩
end

set_option maxHeartbeats 1600000 in
theorem l1Rounds_any (n c : Nat) (a : Option Addr) (A : Nat → Option Addr) (L C : Nat → Nat) (Z : Nat → Nat → Int) (w : World) (hr : IsRates n L Z) (ha : Tab w a n A L C Z) :
    Calls Try.prog 57 #[.slice a n c] w (RetLL 23 (gaining n Z) w) := by
  have hn2 := hr.1.1
  have hn5 := hr.1.2
  obtain ⟨i1, hj, hy0, hy1, hy2⟩ := info_parts Try.infoInts
  have HR := Lib.hid hr
  have HA := Lib.hid ha
  have hpos := longerAll_pos hn2
  have hM6 := Nat.le_trans (longer_le hn5 n []) (Nat.pow_le_pow_right (show 0 < 6 by omega) hn5)
  obtain ⟨LL, hLL⟩ : ∃ LL, LL = longer n n [] := ⟨_, rfl⟩
  have HLL := Lib.hid hLL
  have HT := Lib.hid (show gainTo n Z LL LL.length = gaining n Z by rw [hLL]; exact gainTo_all)
  have HAT := Lib.hid (show ∀ k, k < LL.length → Diff n (LL.getD k []) ∧ 2 ≤ (LL.getD k []).length ∧ (LL.getD k []).length ≤ n by rw [hLL]; exact fun k hk => longerAll_at hk)
  rw [← hLL] at hpos hM6
  obtain ⟨M, hM⟩ : ∃ M, M = LL.length := ⟨_, rfl⟩
  rw [← hM] at hpos hM6
  have hM7 : M ≤ 7776 := hM6
  have QM := Lib.hid hM
  clear hr ha hLL hM hM6
  go_enter Try.func57, Try.ntmps57
  go_wp2_with (go_at_call 60; refine (l1LongerAll_any n hn2 hn5 _ _ _ (by simp)).mono ?_; rw [← HLL.out]; rintro e w1 ⟨va, GA, CA, rfl, hM, hb⟩; rw [← QM.out] at hM; obtain ⟨gA, capA, rfl⟩ := owns_form hM.1 hpos; have MA := Lib.hid hM; have B1 := Lib.hid ((below_alloc (below_alloc (Below.refl w.heap.size w) (.cells #[] 23)) (.cells #[] 3)).trans (hb.mono (by simp; omega))); have M0 := Lib.hid ((Making.start 23 w.heap.size (w.alloc (.cells #[] 23)) (.slice (some ⟨w.heap.size, 0, none⟩) 0 0) (fun _ => 0) (fun _ => 0) (lenL []) (nthL []) (World.ownsRow_made w #[] 0 (Nat.le_refl _) (Nat.zero_le _) (by simp))).below ((below_alloc (Below.refl _ _) (.cells #[] 3)).trans (hb.mono (by simp)))); clear hM hb)
  have hgA := (MA.out.1.lt gA rfl).1
  have hGA := fun s (hs : s < M) => (MA.out.2.1 s hs).1
  simp only [World.size_alloc] at hgA hGA
  have HG := Lib.hid hGA
  obtain ⟨lo, hlo⟩ : ∃ lo, lo = ((w.alloc (.cells #[] 23)).alloc (.cells #[] 3)).heap.size := ⟨_, rfl⟩
  rw [← hlo] at MA
  clear hGA hlo
  go_loopw [3, 5] (fun out s wr => ∃ k : Nat, k ≤ M ∧ s = .int .i64 k ∧ ∃ v G Cp, v = out ∧ Making 23 w.heap.size wr v (gainTo n Z LL k).length G Cp (lenL (gainTo n Z LL k)) (nthL (gainTo n Z LL k)) ∧ (∀ r, r < (gainTo n Z LL k).length → ∃ s, s < k ∧ G r = GA s) ∧ v.ownBlock ≠ some gA ∧ (∀ s, s < M → v.ownBlock ≠ some (GA s)) ∧
      Making 23 lo wr (.slice (some ⟨gA, 0, none⟩) M capA) M GA CA (lenL LL) (nthL LL) ∧ Below w.heap.size w wr) (fun _ s _ => M - (intOf s).toNat)
  case atStart => exact ⟨0, Nat.zero_le _, rfl, _, _, _, rfl, M0.out, (fun r hr => absurd hr (Nat.not_lt_zero _)), (by simp only [Value.ownBlock, ne_eq, Option.some.injEq]; omega), (fun s hs => by have := HG.out s hs; simp only [Value.ownBlock, ne_eq, Option.some.injEq]; omega), MA.out, B1.out⟩
  case round =>
    obtain ⟨k, hk, rfl, v, G, Cp, rfl, hM, hidx, hvg, hvG, hMA, hB⟩ := hrel
    clear MA M0 B1
    by_cases hlt : k < M
    · obtain ⟨N, hN⟩ : ∃ N, N = (gainTo n Z LL k).length := ⟨_, rfl⟩
      have hN6 : N ≤ 7776 := by rw [hN]; exact Nat.le_trans gainTo_le (by omega)
      have hLk : k < LL.length := by rw [← QM.out]; exact hlt
      obtain ⟨hdk, hm2, hmn⟩ := HAT.out k hLk
      have hm2' : 2 ≤ lenL LL k := hm2
      have hmn' : lenL LL k ≤ n := hmn
      rw [← hN] at hM
      have hcA := hMA.1.cells (g := gA) rfl k (.slice (some ⟨GA k, 0, none⟩) (lenL LL k) (CA k)) (by simp [hlt])
      rw [Go.WideShapes.add_plain, Nat.zero_add] at hcA
      have hgl := (hMA.1.lt gA rfl).2
      have hGl := (hMA.2.1 k hlt).2.1
      have HRd := Lib.hid (hMA.2.1 k hlt).2.2.2.rd
      have hsz := hB.size
      have QN := Lib.hid hN
      have HIX := Lib.hid (show ∀ r, r < N → ∃ s, s < k ∧ G r = GA s by rw [hN]; exact hidx)
      have HMk := Lib.hid hM
      have HV := Lib.hid (fun x hx => hM.1.lt x hx)
      have HB := Lib.hid hB
      have HMA := Lib.hid hMA
      have Hvg := Lib.hid hvg
      have HvG := Lib.hid hvG
      have HLk := Lib.hid hLk
      obtain ⟨P, hP⟩ : ∃ P, P = p12 n := ⟨_, rfl⟩
      obtain ⟨V, hV⟩ : ∃ V, V = roundV n Z (lenL LL k) (nthL LL k) := ⟨_, rfl⟩
      have QP := Lib.hid hP
      have QV := Lib.hid hV
      clear hM hB hidx hvg hvG hMA hN hdk hm2 hmn hLk hP hV
      by_cases hw : IsRing n (lenL LL k) (nthL LL k)
      · have TR := Lib.hid (tt_of hw)
        have HW := Lib.hid hw
        clear hw
        by_cases hg : P < V
        · have hd : decide (P < V) = true := by simpa using hg
          have HGa := Lib.hid (show Gains n Z (LL.getD k []) from ⟨HW.out, by rw [QP.out, QV.out] at hg; exact hg⟩)
          clear hg
          go_wp2_with (first
            | (go_at_call 61; refine (l1Ring_any n (lenL LL k) (CA k) _ (nthL LL k) _ (by omega) (by omega) HRd.out).mono ?_; rintro e w' ⟨rfl, q, rfl⟩; rw [TR.out])
            | (go_at_call 63; refine (l1Closed_any (lenL LL k) (CA k) _ (nthL LL k) _ (by omega) (by omega) (HRd.out.drewN q)).mono ?_; rintro e w3 ⟨g3, cap3, rfl, hown3, hb3⟩; have HO := Lib.hid (owns_rd hown3); have B3 := Lib.hid ((below_drewN (Below.refl wr.heap.size wr) q).trans hb3); have hcA3 := (B3.out.cell (p := ⟨gA, k, none⟩) hgl).trans hcA; clear hown3 hb3)
            | (go_at_call 62; refine (l1Value_any n c (lenL LL k + 1) cap3 a _ A L C Z (closeF (lenL LL k) (nthL LL k)) (n : Int) _ HR.out (HA.out.below (Nat.le_refl _) (HB.out.trans (B3.out.mono hsz))) HO.out (by omega) (by omega) (by omega) (by omega) (fun i _ => closeF_in HW.out.1 i)).mono ?_; rintro e w4 ⟨rfl, q2, rfl⟩; rw [show valF Z (closeF (lenL LL k) (nthL LL k)) (p12 ((n : Int) - ((lenL LL k + 1 : Nat) : Int) + 1).toNat) (lenL LL k + 1 - 1) = V from QV.out.symm])
            | (go_at_call 64; refine (l1Power_any (n : Int) _ (by omega) (by omega)).mono ?_; rintro e w5 ⟨rfl, rfl⟩; rw [Int.toNat_natCast, ← QP.out])
            | (at_builtin; refine wpList_append_lies _ (by rfl) (.tmp 39) (.tmp 44) 29 (by rfl) w.heap.size 23 i1 (.slice none 0 0) 1 24 Try.underlying29 hj hy0 hy1 hy2 (by rfl) (by decide) v N ((List.range N).map fun r => .slice (some ⟨G r, 0, none⟩) (lenL (gainTo n Z LL k) r) (Cp r)) (by rfl) ((HMk.out.below (below_drewN B3.out q2)).1.alloc _) ⟨_, 0, none⟩ 1 1 [.slice (some ⟨GA k, 0, none⟩) (lenL LL k) (CA k)] (by rfl) (by rfl) (news_one (by first | (simp; done) | exact World.cell?_alloc_new (w3.drewN q2) _ _ 0)) (fun u hu => by rw [List.mem_singleton.1 hu]; rfl) (by omega) (by unfold maxLen; omega) (by omega) (Nat.le_trans hsz (below_alloc (below_drewN B3.out q2) (.cells #[.slice (some ⟨GA k, 0, none⟩) (lenL LL k) (CA k)] 23)).size) _ rfl ?_; intro g6 cap6 w6 hown6 hgrow6 hat6 hlt6; have B4 := Lib.hid (below_alloc (below_drewN B3.out q2) (.cells #[.slice (some ⟨GA k, 0, none⟩) (lenL LL k) (CA k)] 23)); have N6 := Lib.hid hown6; have G6 := Lib.hid hgrow6; have A6 := Lib.hid hat6; clear hown6 hgrow6 hat6))
          go_roundw
          case rel =>
            have eL : lenL (gainTo n Z LL k ++ [LL.getD k []]) N = lenL LL k ∧ nthL (gainTo n Z LL k ++ [LL.getD k []]) N = nthL LL k := by
              rw [QN.out]
              exact lists_right (A := gainTo n Z LL k) (B := [LL.getD k []]) (r := 0)
            have N6' := N6.out
            have eM : (List.range N).map (fun r => Value.slice (some ⟨G r, 0, none⟩) (lenL (gainTo n Z LL k) r) (Cp r)) = (List.range N).map (fun r => Value.slice (some ⟨G r, 0, none⟩) (lenL (gainTo n Z LL k ++ [LL.getD k []]) r) (Cp r)) := List.map_congr_left fun r hr => by
              rw [(lists_left (A := gainTo n Z LL k) (B := [LL.getD k []]) (r := r) (by rw [← QN.out]; exact List.mem_range.1 hr)).1]
            rw [← eL.1, eM] at N6'
            have hg6 : ∀ x, x < wr.heap.size → v.ownBlock ≠ some x → g6 ≠ x := by
              intro x hx hne e
              rcases A6.out with h' | h'
              · exact hne (by rw [h', e])
              · have := B4.out.size; omega
            refine ⟨k + 1, by omega, by go_num, _, (fun r => if r < N then G r else GA k), (fun r => if r < N then Cp r else CA k), rfl, ?_, ?_, ?_, ?_, ?_, (HB.out.trans (B4.out.mono hsz)).grown G6.out (by have := B4.out.size; omega) (fun x hx => (HV.out x hx).1)⟩
            · rw [gainTo_yes HLk.out HGa.out, List.length_append, ← QN.out]
              exact Making.next (w := (w3.drewN q2).alloc _) ((HMk.out.below B4.out).congr (fun r hr => by
                have := lists_left (A := gainTo n Z LL k) (B := [LL.getD k []]) (r := r) (by rw [← QN.out]; exact hr)
                exact ⟨this.1.symm, this.2.symm⟩)) (by rw [eL.1, eL.2]; exact ((HMA.out.below B4.out).2.1 k hlt).2.2.2) (by have := HG.out k hlt; omega) (by have := B4.out.size; omega) (HvG.out k hlt) (fun r hr e => by
                obtain ⟨s, h1, h2⟩ := HIX.out r hr
                exact HMA.out.2.2 s k (by omega) hlt (by omega) (by rw [← h2, e])) N6' G6.out A6.out (Nat.le_refl _)
            · intro r hr
              rw [gainTo_yes HLk.out HGa.out, List.length_append, ← QN.out] at hr
              by_cases e : r < N
              · obtain ⟨s, h1, h2⟩ := HIX.out r e
                exact ⟨s, by omega, by show (if r < N then G r else GA k) = GA s; rw [if_pos e]; exact h2⟩
              · exact ⟨k, by omega, by show (if r < N then G r else GA k) = GA k; rw [if_neg e]⟩
            · have := hg6 gA hgl Hvg.out
              simp only [Value.ownBlock, ne_eq, Option.some.injEq]
              exact this
            · intro s hs
              have := hg6 (GA s) (HMA.out.2.1 s hs).2.1 (HvG.out s hs)
              simp only [Value.ownBlock, ne_eq, Option.some.injEq]
              exact this
            · exact (HMA.out.below B4.out).grown G6.out (fun x hx => by simp only [Value.ownBlock, Option.some.injEq] at hx; rw [← hx]; exact Hvg.out) (fun s hs => HvG.out s hs)
          case measure => simp [intOf]; omega
        · have hd : decide (P < V) = false := by simpa using hg
          have HGa := Lib.hid (show ¬ Gains n Z (LL.getD k []) from fun h => by rw [QP.out, QV.out] at hg; exact hg h.2)
          clear hg
          go_wp2_with (first
            | (go_at_call 61; refine (l1Ring_any n (lenL LL k) (CA k) _ (nthL LL k) _ (by omega) (by omega) HRd.out).mono ?_; rintro e w' ⟨rfl, q, rfl⟩; rw [TR.out])
            | (go_at_call 63; refine (l1Closed_any (lenL LL k) (CA k) _ (nthL LL k) _ (by omega) (by omega) (HRd.out.drewN q)).mono ?_; rintro e w3 ⟨g3, cap3, rfl, hown3, hb3⟩; have HO := Lib.hid (owns_rd hown3); have B3 := Lib.hid ((below_drewN (Below.refl wr.heap.size wr) q).trans hb3); have hcA3 := (B3.out.cell (p := ⟨gA, k, none⟩) hgl).trans hcA; clear hown3 hb3)
            | (go_at_call 62; refine (l1Value_any n c (lenL LL k + 1) cap3 a _ A L C Z (closeF (lenL LL k) (nthL LL k)) (n : Int) _ HR.out (HA.out.below (Nat.le_refl _) (HB.out.trans (B3.out.mono hsz))) HO.out (by omega) (by omega) (by omega) (by omega) (fun i _ => closeF_in HW.out.1 i)).mono ?_; rintro e w4 ⟨rfl, q2, rfl⟩; rw [show valF Z (closeF (lenL LL k) (nthL LL k)) (p12 ((n : Int) - ((lenL LL k + 1 : Nat) : Int) + 1).toNat) (lenL LL k + 1 - 1) = V from QV.out.symm])
            | (go_at_call 64; refine (l1Power_any (n : Int) _ (by omega) (by omega)).mono ?_; rintro e w5 ⟨rfl, rfl⟩; rw [Int.toNat_natCast, ← QP.out]))
          go_roundw
          case rel =>
            refine ⟨k + 1, by omega, by go_num, v, G, Cp, rfl, ?_, (fun r hr => by rw [gainTo_no HLk.out HGa.out, ← QN.out] at hr; obtain ⟨s, h1, h2⟩ := HIX.out r hr; exact ⟨s, by omega, h2⟩), Hvg.out, HvG.out, HMA.out.below (below_drewN B3.out q2), HB.out.trans ((below_drewN B3.out q2).mono hsz)⟩
            rw [gainTo_no HLk.out HGa.out, ← QN.out]
            exact HMk.out.below (below_drewN B3.out q2)
          case measure => simp [intOf]; omega
      · have TR := Lib.hid (tt_no hw)
        have HGa := Lib.hid (show ¬ Gains n Z (LL.getD k []) from fun h => hw h.1)
        clear hw
        go_wp2_with (go_at_call 61; refine (l1Ring_any n (lenL LL k) (CA k) _ (nthL LL k) _ (by omega) (by omega) HRd.out).mono ?_; rintro e w' ⟨rfl, q, rfl⟩; rw [TR.out])
        go_roundw
        case rel =>
          refine ⟨k + 1, by omega, by go_num, v, G, Cp, rfl, ?_, (fun r hr => by rw [gainTo_no HLk.out HGa.out, ← QN.out] at hr; obtain ⟨s, h1, h2⟩ := HIX.out r hr; exact ⟨s, by omega, h2⟩), Hvg.out, HvG.out, HMA.out.below (below_drewN (Below.refl wr.heap.size wr) q), HB.out.trans ((below_drewN (Below.refl wr.heap.size wr) q).mono hsz)⟩
          rw [gainTo_no HLk.out HGa.out, ← QN.out]
          exact HMk.out.below (below_drewN (Below.refl wr.heap.size wr) q)
        case measure => simp [intOf]; omega
    · obtain rfl : k = M := by omega
      have HMk := Lib.hid hM
      have HB := Lib.hid hB
      clear hM hB hidx hvg hvG hMA
      go_wp2
      go_ret
      refine ⟨v, G, Cp, rfl, ?_, HB.out⟩
      have := HMk.out
      rw [QM.out, HT.out] at this
      exact this
end Go.Proofs.Ytlidobacehbecaa
