/- The model's SwapEnds. -/
import Derived.Test.YtipfjblnanafnaaEndsModel
import Derived.Test.YtipfjblnanafnaaL4Long
import Derived.Test.YtipfjblnanafnaaL4All
import Derived.Test.YtipfjblnanafnaaL3Givings
import Derived.Test.YtipfjblnanafnaaSpecHouseIn
namespace Go.Proofs.Ytipfjblnanafnaa
set_option linter.unusedVariables false
set_option linter.unusedSimpArgs false
open Go.RowKit

set_option maxHeartbeats 3200000 in
theorem specSwapEnds_any (n c : Nat) (a : Option Addr) (A : Nat → Option Addr) (L C : Nat → Nat) (Z : Nat → Nat → Int) (w : World) (hn0 : n ≤ 1048576) (hL0 : ∀ r, r < n → L r ≤ 1048576) (ha0 : Tab w a n A L C Z) :
    Calls Try.prog 26 #[.slice a n c] w (RetTB (tt (IsWishes n L Z)) (endsAll n L Z).length (lenL (endsAll n L Z)) (nthL (endsAll n L Z)) w) := by
  have H := Lib.hid (fun w1 (h : Below w.heap.size w w1) => specHouseIn_any n c a A L C Z w1 hn0 hL0 (ha0.below (Nat.le_refl _) h))
  by_cases h1 : IsWishes n L Z
  · have T1 := Lib.hid (tt_of h1)
    have TN := Lib.hid (endsAll_yes h1)
    have HW := Lib.hid h1
    have HA := Lib.hid ha0
    have hn2 := h1.1.1
    have hn5 := h1.1.2
    obtain ⟨i1, hj, hy0, hy1, hy2⟩ := info_parts Try.infoInts
    obtain ⟨LL, hLL⟩ : ∃ LL, LL = givs n n [] := ⟨_, rfl⟩
    have QL := Lib.hid hLL
    have hM0 := givsN_le hn5
    have hpos := givs_pos (n := n) (f := n) (Diff.nil n) (by simp)
    rw [← hLL] at hM0 hpos
    obtain ⟨M, hM2⟩ : ∃ M, M = LL.length := ⟨_, rfl⟩
    rw [← hM2] at hM0 hpos
    have QM := Lib.hid hM2
    have AT := Lib.hid (show ∀ x, x < M → LL.getD x [] ∈ givs n n [] ∧ lenL LL x = n from fun x hx => by
      rw [hM2] at hx
      have hm : LL.getD x [] ∈ LL := by
        rw [List.getD_eq_getElem?_getD, List.getElem?_eq_getElem hx]
        exact List.getElem_mem hx
      rw [hLL] at hm ⊢
      exact ⟨hm, ((mem_givs n [] (Diff.nil n) (by simp) _).1 hm).2.1⟩)
    have CN := Lib.hid (show ∀ x, (endsL n Z (LL.take x)).length ≤ x from fun x => Nat.le_trans (endsL_le _ _ _) (by rw [List.length_take]; exact Nat.min_le_left _ _))
    clear h1 ha0 hL0 hLL hM2
    go_enter Try.func26, Try.ntmps26
    go_wp2_with (first
      | (go_at_call 47; refine (H.out _ (below_alloc (Below.refl _ _) _)).mono ?_; rintro e w' ⟨rfl, rfl⟩; rw [T1.out])
      | (go_at_call 48; refine (l3GivingsAll_any n hn2 hn5 _ 0 _ (by simp)).mono ?_; rw [← QL.out]; rintro e w1 ⟨va, GA, CA, rfl, hM, hb⟩; rw [← QM.out] at hM; obtain ⟨gA, capA, rfl⟩ := owns_form hM.1 hpos; have MA := Lib.hid hM; have B1 := Lib.hid ((below_alloc (below_alloc (Below.refl w.heap.size w) (.cells #[] 23)) (.cells #[] 3)).trans (hb.mono (by simp; omega))); have M0 := Lib.hid ((Making.start 23 w.heap.size (w.alloc (.cells #[] 23)) (.slice (some ⟨w.heap.size, 0, none⟩) 0 0) (fun _ => 0) (fun _ => 0) (lenL []) (nthL []) (World.ownsRow_made w #[] 0 (Nat.le_refl _) (Nat.zero_le _) (by simp))).below ((below_alloc (Below.refl _ _) (.cells #[] 3)).trans (hb.mono (by simp)))); clear hM hb)
      | (go_at_call 49; have hsz1 := B1.out.size; refine (l4Long_any n c M _ a _ A L C Z _ _ w1 HW.out (HA.out.below (Nat.le_refl _) B1.out) (by rw [← QL.out]; exact QM.out) (by rw [← QL.out]; exact MA.out.ownT.tab)).mono ?_; rintro e w2 ⟨gl, capl, rfl, ⟨hgl1, hgl2, hgl3⟩, hOl, hbl⟩; have RL := Lib.hid hOl; have BL := Lib.hid hbl; clear hOl hbl))
    have hw2 := BL.out.size
    have hgA := (MA.out.1.lt gA rfl).1
    have hgA2 := (MA.out.1.lt gA rfl).2
    have hGA := fun s (hs : s < M) => (MA.out.2.1 s hs).1
    simp only [World.size_alloc] at hgA hGA
    have HG := Lib.hid hGA
    obtain ⟨lo, hlo⟩ : ∃ lo, lo = ((w.alloc (.cells #[] 23)).alloc (.cells #[] 3)).heap.size := ⟨_, rfl⟩
    rw [← hlo] at MA
    clear hGA hlo
    have ML := Lib.hid (MA.out.below BL.out)
    have M0L := Lib.hid (M0.out.below (BL.out))
    have B1L := Lib.hid (B1.out.trans (BL.out.mono hsz1))
    go_loopw [4, 7] (fun out s wr => ∃ k : Nat, k ≤ M ∧ s = .int .i64 k ∧ ∃ v G Cp, v = out ∧ Making 23 w.heap.size wr v (endsL n Z (LL.take k)).length G Cp (lenL (endsL n Z (LL.take k))) (nthL (endsL n Z (LL.take k))) ∧ (∀ r, r < (endsL n Z (LL.take k)).length → ∃ s, s < k ∧ G r = GA s) ∧ v.ownBlock ≠ some gA ∧ (∀ s, s < M → v.ownBlock ≠ some (GA s)) ∧
        Making 23 lo wr (.slice (some ⟨gA, 0, none⟩) M capA) M GA CA (lenL LL) (nthL LL) ∧ Below w.heap.size w wr ∧ (v.ownBlock ≠ some gl ∧ gl < wr.heap.size ∧ OwnR wr gl (some ⟨gl, 0, none⟩) M (fun i => longF n Z ((givs n n []).getD i [])))) (fun _ s _ => M - (intOf s).toNat)
    case atStart => exact ⟨0, Nat.zero_le _, rfl, _, _, _, rfl, M0L.out, (fun r hr => absurd hr (Nat.not_lt_zero _)), (by simp only [Value.ownBlock, ne_eq, Option.some.injEq]; omega), (fun s hs => by have := HG.out s hs; simp only [Value.ownBlock, ne_eq, Option.some.injEq]; omega), ML.out, B1L.out, by simp only [Value.ownBlock, ne_eq, Option.some.injEq]; omega, hgl2, RL.out⟩
    case round =>
      obtain ⟨k, hk, rfl, v, G, Cp, rfl, hM, hidx, hvg, hvG, hMA, hB, hvl, hgx, hRL⟩ := hrel
      clear MA M0 B1 ML M0L B1L
      by_cases hlt : k < M
      · obtain ⟨F, hF⟩ : ∃ F, F = endsL n Z (LL.take k) := ⟨_, rfl⟩
        have hN6 : F.length ≤ 7776 := by rw [hF]; exact Nat.le_trans (CN.out k) (by omega)
        rw [← hF] at hM hidx
        obtain ⟨N, hN⟩ : ∃ N, N = F.length := ⟨_, rfl⟩
        rw [← hN] at hM hidx hN6
        obtain ⟨hmem, hlen⟩ := AT.out k hlt
        have hcA := hMA.1.cells (g := gA) rfl k (.slice (some ⟨GA k, 0, none⟩) (lenL LL k) (CA k)) (by simp [hlt])
        rw [Go.WideShapes.add_plain, Nat.zero_add, hlen] at hcA
        have hgl := (hMA.1.lt gA rfl).2
        have hGl := (hMA.2.1 k hlt).2.1
        have hrd := (hMA.2.1 k hlt).2.2.2.rd
        rw [hlen] at hrd
        have hrd2 : Rd wr (some ⟨GA k, 0, none⟩) n (nth (LL.getD k [])) := hrd
        have hsz := hB.size
        have HC := Lib.hid (fun d => l4All_any n c a A L C Z d _ (nth (LL.getD k [])) wr (givsN_given HW.out hmem) (HA.out.below (Nat.le_refl _) hB) hrd2)
        have RLx := Lib.hid hRL
        have Hvl := Lib.hid hvl
        have hck := (hRL.at hlt).1
        have hlr := long_range HW.out ((givs n n []).getD k [])
        obtain ⟨y, hy⟩ : ∃ y, y = longF n Z ((givs n n []).getD k []) := ⟨_, rfl⟩
        rw [← hy] at hck hlr
        have hlr1 := hlr.1
        have hlr2 := hlr.2
        have HYK := Lib.hid (show y = longF n Z (LL.getD k []) by rw [hy, ← QL.out])
        obtain ⟨PP, hPP⟩ : ∃ PP, PP = (mayL n Z (nth (LL.getD k []))).length := ⟨_, rfl⟩
        have QPP := Lib.hid hPP
        have QN := Lib.hid hN
        have HIX := Lib.hid hidx
        have HMk := Lib.hid hM
        have HV := Lib.hid (fun x hx => hM.1.lt x hx)
        have HB := Lib.hid hB
        have HMA := Lib.hid hMA
        have Hvg := Lib.hid hvg
        have HvG := Lib.hid hvG
        have TK := Lib.hid (take_snoc (LL := LL) (k := k) (by rw [← QM.out]; exact hlt))
        have QF := Lib.hid hF
        have HL := Lib.hid hlen
        have i1' : (0 : Int) ≤ (k : Int) := by omega
        have i2' : (k : Int) < (M : Int) := by omega
        clear hM hB hidx hvg hvG hMA hN hmem hrd hrd2 hF hlen hRL hvl hlr hy hPP
        by_cases hf : EndP n Z (LL.getD k [])
        · have d1 : decide (0 ≤ y) = true := decide_eq_true (by rw [HYK.out]; exact hf.1)
          have P0 := Lib.hid (show PP = 0 by rw [QPP.out, mayL_nil.2 hf.2]; rfl)
          have E1 := Lib.hid (show endsL n Z (LL.take (k + 1)) = F ++ [LL.getD k []] by rw [TK.out, endsL_yes hf, ← QF.out])
          clear hf
          go_wp2_with (first
            | (go_at_call 50; refine (HC.out _).mono ?_; rintro e w3 ⟨v5, G5, Cp5, rfl, hMk5, hb3⟩; rw [pairsL_length, ← QPP.out, P0.out] at hMk5; obtain ⟨a5, c5, rfl, hO5⟩ := hMk5.slice; have B3 := Lib.hid hb3; have hcA3 := (hb3.cell (p := ⟨gA, k, none⟩) hgl).trans hcA; clear hb3 hO5 hMk5)
            | (at_builtin; refine wpList_append_lies _ (by rfl) (.tmp 41) (.tmp 46) 22 (by rfl) w.heap.size 23 i1 (.slice none 0 0) 1 24 Try.underlying22 hj hy0 hy1 hy2 (by rfl) (by decide) v N ((List.range N).map fun r => .slice (some ⟨G r, 0, none⟩) (lenL F r) (Cp r)) (by rfl) ((HMk.out.below B3.out).1.alloc _) ⟨_, 0, none⟩ 1 1 [.slice (some ⟨GA k, 0, none⟩) n (CA k)] (by rfl) (by rfl) (news_one (by first | (simp; done) | exact World.cell?_alloc_new w3 _ _ 0)) (fun u hu => by rw [List.mem_singleton.1 hu]; rfl) (by omega) (by unfold maxLen; omega) (by omega) (Nat.le_trans hsz (below_alloc B3.out (.cells #[.slice (some ⟨GA k, 0, none⟩) n (CA k)] 23)).size) _ rfl ?_; intro g6 cap6 w6 hown6 hgrow6 hat6 hlt6; have B4 := Lib.hid (below_alloc B3.out (.cells #[.slice (some ⟨GA k, 0, none⟩) n (CA k)] 23)); have N6 := Lib.hid hown6; have G6 := Lib.hid hgrow6; have A6 := Lib.hid hat6; clear hown6 hgrow6 hat6))
          go_roundw
          case rel =>
            have eL : lenL (F ++ [LL.getD k []]) N = n ∧ nthL (F ++ [LL.getD k []]) N = nthL LL k := by
              rw [QN.out]
              have := lists_right (A := F) (B := [LL.getD k []]) (r := 0)
              exact ⟨this.1.trans HL.out, this.2⟩
            have N6' := N6.out
            have eM : (List.range N).map (fun r => Value.slice (some ⟨G r, 0, none⟩) (lenL F r) (Cp r)) = (List.range N).map (fun r => Value.slice (some ⟨G r, 0, none⟩) (lenL (F ++ [LL.getD k []]) r) (Cp r)) := List.map_congr_left fun r hr => by
              rw [(lists_left (A := F) (B := [LL.getD k []]) (r := r) (by rw [← QN.out]; exact List.mem_range.1 hr)).1]
            rw [← eL.1, eM] at N6'
            have hg6 : ∀ x, x < wr.heap.size → v.ownBlock ≠ some x → g6 ≠ x := by
              intro x hx hne e
              rcases A6.out with h' | h'
              · exact hne (by rw [h', e])
              · have := B4.out.size; omega
            refine ⟨k + 1, by omega, by go_num, _, (fun r => if r < N then G r else GA k), (fun r => if r < N then Cp r else CA k), rfl, ?_, ?_, ?_, ?_, ?_, (HB.out.trans (B4.out.mono hsz)).grown G6.out (by have := B4.out.size; omega) (fun x hx => (HV.out x hx).1), (by have := hg6 gl hgx Hvl.out; simp only [Value.ownBlock, ne_eq, Option.some.injEq]; exact this), (by have h1 := B4.out.size; have h2 := G6.out.size; omega), RLx.out.of_block ((G6.out.block gl (by have := B4.out.size; omega) (fun e => Hvl.out e.symm)).trans (B4.out.block gl hgx))⟩
            · rw [E1.out, List.length_append, ← QN.out]
              exact Making.next (w := w3.alloc _) ((HMk.out.below B4.out).congr (fun r hr => by
                have := lists_left (A := F) (B := [LL.getD k []]) (r := r) (by rw [← QN.out]; exact hr)
                exact ⟨this.1.symm, this.2.symm⟩)) (by rw [eL.1, eL.2]; have := ((HMA.out.below B4.out).2.1 k hlt).2.2.2; rw [HL.out] at this; exact this) (by have := HG.out k hlt; omega) (by have := B4.out.size; omega) (HvG.out k hlt) (fun r hr e => by
                obtain ⟨s, h1, h2⟩ := HIX.out r hr
                exact HMA.out.2.2 s k (by omega) hlt (by omega) (by rw [← h2, e])) N6' G6.out A6.out (Nat.le_refl _)
            · intro r hr
              rw [E1.out, List.length_append, ← QN.out] at hr
              by_cases e : r < N
              · obtain ⟨s, h1, h2⟩ := HIX.out r e
                exact ⟨s, by omega, by show (if r < N then G r else GA k) = GA s; rw [if_pos e]; exact h2⟩
              · exact ⟨k, by omega, by show (if r < N then G r else GA k) = GA k; rw [if_neg e]⟩
            · have := hg6 gA hgl Hvg.out
              simp only [Value.ownBlock, ne_eq, Option.some.injEq]
              exact this
            · intro s hs
              have := hg6 (GA s) (HMA.out.2.1 s hs).2.1 (HvG.out s hs)
              simp only [Value.ownBlock, ne_eq, Option.some.injEq]
              exact this
            · exact (HMA.out.below B4.out).grown G6.out (fun x hx => by simp only [Value.ownBlock, Option.some.injEq] at hx; rw [← hx]; exact Hvg.out) (fun s hs => HvG.out s hs)
          case measure => simp [intOf]; omega
        · have E1 := Lib.hid (show endsL n Z (LL.take (k + 1)) = F by rw [TK.out, endsL_no hf, ← QF.out])
          by_cases hyn : 0 ≤ y
          · have d1 : decide (0 ≤ y) = true := decide_eq_true hyn
            have d2 : ((PP : Int) == 0) = false := by
              have : PP ≠ 0 := fun h => hf ⟨by rw [← HYK.out]; exact hyn, mayL_nil.1 (List.length_eq_zero_iff.1 (by rw [← QPP.out]; exact h))⟩
              simp; exact this
            clear hf
            go_wp2_with (go_at_call 50; refine (HC.out _).mono ?_; rintro e w3 ⟨v5, G5, Cp5, rfl, hMk5, hb3⟩; rw [pairsL_length, ← QPP.out] at hMk5; obtain ⟨a5, c5, rfl, hO5⟩ := hMk5.slice; have B3 := Lib.hid hb3; clear hb3 hO5 hMk5)
            go_roundw
            case rel =>
              refine ⟨k + 1, by omega, by go_num, v, G, Cp, rfl, ?_, (fun r hr => by rw [E1.out, ← QN.out] at hr; obtain ⟨s, h1, h2⟩ := HIX.out r hr; exact ⟨s, by omega, h2⟩), Hvg.out, HvG.out, HMA.out.below B3.out, HB.out.trans (B3.out.mono hsz), Hvl.out, Nat.lt_of_lt_of_le hgx B3.out.size, RLx.out.of_block (B3.out.block gl hgx)⟩
              rw [E1.out, ← QN.out]
              exact HMk.out.below B3.out
            case measure => simp [intOf]; omega
          · have d1 : decide (0 ≤ y) = false := decide_eq_false hyn
            have B3 := Lib.hid (Below.refl wr.heap.size wr)
            clear hf
            go_wp2
            go_roundw
            case rel =>
              refine ⟨k + 1, by omega, by go_num, v, G, Cp, rfl, ?_, (fun r hr => by rw [E1.out, ← QN.out] at hr; obtain ⟨s, h1, h2⟩ := HIX.out r hr; exact ⟨s, by omega, h2⟩), Hvg.out, HvG.out, HMA.out.below B3.out, HB.out.trans (B3.out.mono hsz), Hvl.out, Nat.lt_of_lt_of_le hgx B3.out.size, RLx.out.of_block (B3.out.block gl hgx)⟩
              rw [E1.out, ← QN.out]
              exact HMk.out.below B3.out
            case measure => simp [intOf]; omega
      · obtain rfl : k = M := by omega
        have HB := Lib.hid hB
        have E1 := Lib.hid (show endsL n Z (LL.take k) = endsAll n L Z by rw [TN.out, QM.out, List.take_length, QL.out])
        rw [E1.out] at hM
        have HMk := Lib.hid hM
        clear hM hB hidx hvg hvG hMA hRL hvl
        go_wp2
        go_ret2
        obtain ⟨a1, c1, rfl, hO⟩ := HMk.out.slice
        exact ⟨_, _, _, _, by rw [T1.out]; rfl, hO, HB.out⟩
  · have T1 := Lib.hid (tt_no h1)
    have TN := Lib.hid (endsAll_no h1)
    clear h1 ha0 hL0
    go_enter Try.func26, Try.ntmps26
    go_wp2_with (go_at_call 47; refine (H.out _ (below_alloc (Below.refl _ _) _)).mono ?_; rintro e w' ⟨rfl, rfl⟩; rw [T1.out])
    go_ret2
    exact ⟨_, _, (fun _ => none), (fun _ => 0), by rw [T1.out, TN.out]; rfl, .inl (by rw [TN.out]; rfl), below_alloc (Below.refl _ _) _⟩
end Go.Proofs.Ytipfjblnanafnaa
