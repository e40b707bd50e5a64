/- The program's givingsThat at good givings, and TurnGoods. -/
import Derived.Test.YtgjegpponchdaaaDoorGivings
import Derived.Test.YtgjegpponchdaaaDoorFirm
import Derived.Test.YtgjegpponchdaaaDoorTurnGood
import Derived.Test.YtgjegpponchdaaaDoorBlockGiv
import Derived.Test.YtgjegpponchdaaaDoorTabJ
import Derived.Test.YtgjegpponchdaaaDoorInfoInts
namespace Go.Proofs.YtgjegpponchdaaaDoor
set_option linter.unusedVariables false
set_option linter.unusedSimpArgs false
open Go.RowKit
attribute [local go_sem] Oper.semAt_some wide_fn wide_round_fn

/-- What is held between two rounds: the table in its cell, and all that was there. -/
def GoodJ (n c s : Nat) (a : Option Addr) (Z : Nat → Nat → Int) (w : World) (pre : List (List Int)) (V : Nat → Prop) (Wx : World) : Prop :=
  ∃ V1, V = (fun k => V1 k ∨ k ≤ s) ∧ TabJ 23 (s + 1) w (goodsL n Z pre) V1 Wx ∧ Wx.cell? ⟨s, 0, none⟩ = some (.func (.func 37) #[.slice a n c] #[])

set_option maxRecDepth 100000 in
set_option maxHeartbeats 2000000 in
theorem givingsGood_any (n c : Nat) (a : Option Addr) (A : Nat → Option Addr) (L C : Nat → Nat) (Z : Nat → Nat → Int) (w : World) (hT : TzAt w) (h1 : IsWishes n L Z) (ha0 : Tab w a n A L C Z) :
    Calls Tryd.prog 40 #[.slice a n c, .func (.func 37) #[.slice a n c] #[]] w (RetTT (goodsL n Z (givs n n [])) w) := by
  refine (callsIn_wide (n := 9)).1 ?_
  refine callsIn_of_wp_marks Tryd.func40 rfl trivial ?_ rfl
  simp only [Tryd.ntmps40, List.size_toArray, List.length_cons, List.length_nil, Nat.reduceAdd, Nat.reduceSub, Array.replicate_succ, Array.replicate_zero, List.push_toArray, List.append_toArray, List.nil_append, List.cons_append]
  have HW := Lib.hid h1
  have HA := Lib.hid ha0
  have HT := Lib.hid hT
  have hn2 := h1.1.1
  have hn5 := h1.1.2
  obtain ⟨i1, hj, hy0, hy1, hy2⟩ := info_parts Tryd.infoInts
  clear h1 ha0 hT
  gi_wp2_with (gi_at_call 46; refine (callsIn_wide.2 (givings_any _ _)).mono ?_; rintro e w2 ⟨rfl, rfl⟩)
  obtain ⟨s, hs⟩ : ∃ s, s = w.heap.size := ⟨_, rfl⟩
  obtain ⟨w4, hw4⟩ : ∃ w4, w4 = ((w.alloc (.cells #[.func (.func 37) #[.slice a n c] #[]] 46)).alloc (.cells #[.slice none 0 0] 22)).alloc (.cells #[.int .i64 n] 3) := ⟨_, rfl⟩
  rw [← hw4, ← hs]
  have hB0 : Below w.heap.size w w4 := by rw [hw4]; exact below_alloc (below_alloc (below_alloc (Below.refl _ w) _) _) _
  have hs4 : w4.heap.size = s + 3 := by rw [hw4, hs]; simp
  have CW := Lib.hid (show w4.cell? ⟨s, 0, none⟩ = some (.func (.func 37) #[.slice a n c] #[]) by rw [hw4, hs, World.cell?_of_block (w := (w.alloc _).alloc _) (Below.heap_alloc _ _ _ (by simp; omega)), World.cell?_of_block (w := w.alloc _) (Below.heap_alloc _ _ _ (by simp))]; simp)
  have CC := Lib.hid (show w4.cell? ⟨s + 1, 0, none⟩ = some (.slice none 0 0) by rw [hw4, hs, World.cell?_of_block (w := (w.alloc _).alloc _) (Below.heap_alloc _ _ _ (by simp))]; simp)
  have CF := Lib.hid (show w4.frozen? ⟨s + 1, 0, none⟩ = false by rw [hw4, hs, World.frozen?_of_block (w := (w.alloc _).alloc _) (Below.heap_alloc _ _ _ (by simp))]; simp)
  have e2 : s + 1 + 1 = ((w.alloc (.cells #[.func (.func 37) #[.slice a n c] #[]] 46)).alloc (.cells #[.slice none 0 0] 22)).heap.size := by simp [hs]
  have CN := Lib.hid (show w4.cell? ⟨s + 1 + 1, 0, none⟩ = some (.int .i64 n) by rw [hw4, e2, World.cell?_alloc_new]; rfl)
  clear e2
  have HB0 := Lib.hid hB0
  have hsw : w.heap.size ≤ s := by omega
  have hsw2 : s ≤ w.heap.size := by omega
  have J0 := Lib.hid (show GoodJ n c s a Z w [] (fun k => k = s + 1 ∨ k ≤ s) w4 from ⟨fun k => k = s + 1, rfl, ⟨.slice none 0 0, fun _ => 0, fun _ => 0, hB0, by omega, CC.out, CF.out, Making.start _ _ _ _ _ _ _ _ ⟨rfl, .inl ⟨rfl, rfl⟩⟩, by
    funext k
    refine propext ⟨.inl, ?_⟩
    rintro (h | h | ⟨r, hr, _⟩)
    · exact h
    · cases h
    · exact absurd hr (Nat.not_lt_zero _)⟩, CW.out⟩)
  have HS := Lib.hid hs
  clear hs hw4 hB0
  refine wp_seq (gf := 71) (lb := #[.pointer (some ⟨s + 1 + 1, 0, none⟩)]) (tI := 3) rfl (enters_of Tryd.func71 (by kernel_rfl) rfl) rfl (R := fun k => k = s + 1 + 1) (LL := givs n n [])
    (seq_givings n (s + 1 + 1) w4 hn2 hn5 CN.out) (fun k => k = s + 1 ∨ k ≤ s) (fun k hk => by subst hk; exact ⟨fun h => by omega, by omega⟩)
    (fun V pre Wx => GoodJ n c s a Z w pre V Wx) (fun _ _ _ _ => False) ?cI (fun c => ⟨fun _ _ _ h => h.elim, fun _ _ _ _ h => h.elim⟩) J0.out
    (fun v a' _ => a' = { tmps := #[.slice a n c, .func (.func 37) #[.slice a n c] #[], undef, .pointer (some ⟨s, 0, none⟩), .slice none 0 0, .pointer (some ⟨s + 1, 0, none⟩), v, .slice a n c, .int .i64 n, .func (.func 71) #[] #[.pointer (some ⟨s + 1 + 1, 0, none⟩)], v, undef, undef, undef, undef, undef, undef, undef, undef], defers := [] })
    (fun v a' W l r o h _ => h) ?assign ?body ?done ?stop
  case cI =>
    constructor
    · rintro V pre Wx ⟨V1, rfl, h1, h2⟩ k (hk | hk)
      · exact h1.lies k hk
      · exact Nat.lt_of_le_of_lt hk (World.block_lt_of_cell? _ _ h2)
    · rintro V pre A B ⟨V1, rfl, h1, h2⟩ hin
      exact ⟨V1, rfl, h1.inside ⟨hin.os, hin.tape, hin.output, hin.size, fun k hk => hin.block k (by rcases hk with hk | hk; exact .inl hk; exact .inr (by omega))⟩, hin.cell (p := ⟨s, 0, none⟩) (.inr (Nat.le_refl _)) h2⟩
  case assign =>
    intro l' v Wx K hK
    gi_wp2
    exact hK _ _ (Outside.refl _ _) (by first | rfl | simp)
  case body =>
    rintro l' V pre D gb cap a' Wx ⟨V1, rfl, ⟨v, G', Cp, h1, h2, h3, h4, h5, rfl⟩, hcw⟩ hpre hown hgb hV rfl
    have hmem : D ∈ givs n n [] := by obtain ⟨z, hz⟩ := hpre; rw [← hz]; simp
    have hle : (goodsL n Z pre).length ≤ 7776 := by
      have h7 := hpre.length_le
      rw [List.length_append] at h7
      have := goodsL_le n Z pre
      have := givsN_le hn5
      omega
    have hDl := ((mem_givs n [] (Diff.nil n) (by simp) _).1 hmem).2.1
    obtain ⟨LL, hLL⟩ : ∃ LL, LL = goodsL n Z pre := ⟨_, rfl⟩
    have QL := Lib.hid hLL
    rw [← hLL] at h5 hle hgb hV ⊢
    have hgb2 : ¬ tabV (s + 1) v LL.length G' gb := fun h => hgb (.inl h)
    have hbx : s + 1 < Wx.heap.size := World.block_lt_of_cell? _ _ h3
    have hbx2 : s < Wx.heap.size := by omega
    have hgl := (owns_cap hown).2.2
    have hgl1 := (owns_cap hown).2.1
    have hrow : OwnR Wx gb (some ⟨gb, 0, none⟩) D.length (nth D) := OwnR.of_owns hown
    have hrd : Rd Wx (some ⟨gb, 0, none⟩) n (nth D) := by have := owns_rd hown; rwa [hDl] at this
    have HC := Lib.hid (good_any n c a A L C Z cap (some ⟨gb, 0, none⟩) (nth D) Wx (givsN_given HW.out hmem) (HA.out.below (Nat.le_refl _) h1) hrd (HT.out.below (Nat.le_refl _) h1))
    have MK := Lib.hid h5
    have B1 := Lib.hid h1
    have C3 := Lib.hid h3
    have F4 := Lib.hid h4
    have HROW := Lib.hid hrow
    have QD := Lib.hid hDl
    rw [hDl]
    have HGB := Lib.hid hgb2
    clear h5 h1 hLL hpre hV hrow hrd hmem hown hgb hgb2 hDl
    by_cases hf : GoodP n Z (nth D)
    · have T2 := Lib.hid (tt_of hf)
      have EL := Lib.hid (show goodsL n Z (pre ++ [D]) = LL ++ [D] by rw [goodsL_yes hf, ← QL.out])
      clear hf
      gi_wp2_with (first
        | (gi_at_call 37; refine (callsIn_wide.2 HC.out).mono ?_; rintro e w5 ⟨rfl, hb5⟩; rw [T2.out]; have c5 : w5.cell? ⟨s + 1, 0, none⟩ = some v := (hb5.cell (p := ⟨s + 1, 0, none⟩) hbx).trans C3.out; have f5 : w5.frozen? ⟨s + 1, 0, none⟩ = false := (World.frozen?_of_block (w := Wx) (hb5.block _ hbx)).trans F4.out; have M5 := Lib.hid (MK.out.below hb5); have B5 := Lib.hid hb5; have hs5 := hb5.size; clear hb5 h3 h4)
        | (gi_at_builtin; go_loud (refine wpListIn_append_lies (by rfl) (.tmp 14) (.tmp 16) 22 (by rfl) (s + 1 + 1) 23 i1 (.slice none 0 0) 1 24 Tryd.underlying22 hj hy0 hy1 hy2 (by rfl) (by decide) v LL.length ((List.range LL.length).map fun r => .slice (some ⟨G' r, 0, none⟩) (lenL LL r) (Cp r)) (by rfl) (M5.out.1.alloc _) ⟨_, 0, none⟩ 1 1 [.slice (some ⟨gb, 0, none⟩) n cap] (by rfl) (by rfl) (news_one (by first | (simp; done) | exact World.cell?_alloc_new w5 _ _ 0)) (fun u hu => by rw [List.mem_singleton.1 hu]; rfl) (by omega) (by unfold maxLen; omega) (by omega) (by simp; omega) _ rfl ?_; intro g2 cap2 w2 hown2 hgrow2 hat2 hlt2; have N2 := Lib.hid hown2; have G2 := Lib.hid hgrow2; have A2 := Lib.hid hat2; have c2 : w2.cell? ⟨s + 1, 0, none⟩ = some v := (World.cell?_of_block (w := w5.alloc _) (hgrow2.block (s + 1) (by simp; omega) (fun e => by have := (MK.out.1.lt (s + 1) e.symm).1; omega))).trans (by rw [World.cell?_of_block (w := w5) (Below.heap_alloc _ _ _ (show s + 1 < w5.heap.size by omega))]; exact c5); have f2 : w2.frozen? ⟨s + 1, 0, none⟩ = false := (World.frozen?_of_block (w := w5.alloc _) (hgrow2.block (s + 1) (by simp; omega) (fun e => by have := (MK.out.1.lt (s + 1) e.symm).1; omega))).trans (by rw [World.frozen?_of_block (w := w5) (Below.heap_alloc _ _ _ (show s + 1 < w5.heap.size by omega))]; exact f5); have K2 := Lib.hid (show w2.cell? ⟨s, 0, none⟩ = some (.func (.func 37) #[.slice a n c] #[]) from (World.cell?_of_block (w := w5.alloc _) (hgrow2.block s (by simp; omega) (fun e => by have := (MK.out.1.lt s e.symm).1; omega))).trans (by rw [World.cell?_of_block (w := w5) (Below.heap_alloc _ _ _ (show s < w5.heap.size by omega))]; exact (B5.out.cell (p := ⟨s, 0, none⟩) hbx2).trans hcw)); clear hown2 hgrow2 hat2)))
      have P := TabJ.push (x := D) (gr := gb) (cr := cap) B1.out h2 C3.out F4.out MK.out (below_alloc B5.out _) (HROW.out.of_block (((below_alloc B5.out _).block gb hgl))) (by omega) (by simp; omega) HGB.out (by rw [QD.out]; exact N2.out) G2.out A2.out
      obtain ⟨p1, V', p2, p3⟩ := P
      refine ⟨⟨p1.os, p1.tape, p1.output, p1.size, fun k hk hv => p1.block k hk (fun h' => hv (.inl h'))⟩, fun k => V' k ∨ k ≤ s, ?_, ⟨V', rfl, by rw [EL.out]; exact p3, ?_⟩⟩
      · rintro k (hk | hk)
        · rcases p2 k hk with h | h | h
          · exact .inl (.inl h)
          · exact .inr (.inl h)
          · exact .inr (.inr h)
        · exact .inl (.inr hk)
      · rw [World.cell?_of_block (Below.heap_setCell _ _ _ _ (show s ≠ s + 1 by omega))]; exact K2.out
    · have T2 := Lib.hid (tt_no hf)
      have EL := Lib.hid (show goodsL n Z (pre ++ [D]) = LL by rw [goodsL_no hf, ← QL.out])
      clear hf
      gi_wp2_with (gi_at_call 37; refine (callsIn_wide.2 HC.out).mono ?_; rintro e w5 ⟨rfl, hb5⟩; rw [T2.out]; have B5 := Lib.hid hb5; clear hb5)
      refine ⟨Outside.of_below B5.out, fun k => tabV (s + 1) v LL.length G' k ∨ k ≤ s, fun k hk => .inl hk, ⟨tabV (s + 1) v LL.length G', rfl, ?_, (B5.out.cell (p := ⟨s, 0, none⟩) hbx2).trans hcw⟩⟩
      rw [EL.out]
      exact ⟨v, G', Cp, B1.out.trans (B5.out.mono B1.out.size), h2, (B5.out.cell (p := ⟨s + 1, 0, none⟩) hbx).trans C3.out, (World.frozen?_of_block (w := Wx) (B5.out.block _ hbx)).trans F4.out, MK.out.below B5.out, rfl⟩
  case done =>
    rintro D V Wx hD hV hnD ⟨V1, rfl, h, hcw⟩ hKD
    have H2 := h.inside (B := Wx.putObj D (.deferred none)) (Inside.putObj (fun h' => by rcases h' with h' | h'; exact hnD (.inl h'); omega) _)
    obtain ⟨v, G', Cp, h1, h2, h3, h4, h5, rfl⟩ := h
    have H3 := Lib.hid H2
    have h3' := h3
    clear H2 h1 h5
    gi_wp2
    refine ⟨by simp, .inl ⟨_, _, rfl, run_takeDeferred hKD, ?_⟩⟩
    obtain ⟨v', G2, Cp2, k1, k2, k3, k4, k5, _⟩ := H3.out
    have hvv : v' = v := by
      have e1 : (Wx.putObj D (.deferred none)).cell? ⟨s + 1, 0, none⟩ = Wx.cell? ⟨s + 1, 0, none⟩ := World.cell?_of_block (World.putObj_heap_other (fun e => hnD (.inl (.inl e.symm))))
      rw [e1, h3'] at k3
      exact (Option.some.inj k3).symm
    subst hvv
    obtain ⟨a1, c1, rfl, hO⟩ := k5.slice
    refine ⟨_, results_tmp rfl _ _ _, ?_⟩
    exact ⟨_, _, _, _, rfl, hO.sub (by omega) (Nat.le_refl _), k1⟩
  case stop =>
    rintro D c' V pre Wx _ _ _ _ h
    exact h.elim

set_option maxRecDepth 100000 in
set_option maxHeartbeats 800000 in
theorem turnGoods_any (n c : Nat) (a : Option Addr) (A : Nat → Option Addr) (L C : Nat → Nat) (Z : Nat → Nat → Int) (w : World) (hT : TzAt w) (hn0 : n ≤ 1048576) (hL0 : ∀ r, r < n → L r ≤ 1048576) (ha0 : Tab w a n A L C Z) :
    Calls Tryd.prog 17 #[.slice a n c] w (RetTB (tt (IsWishes n L Z)) (goodsAll n L Z).length (lenL (goodsAll n L Z)) (nthL (goodsAll n L Z)) w) := by
  have H := Lib.hid (readWishes_any n c a A L C Z w hn0 hL0 ha0)
  by_cases h1 : IsWishes n L Z
  · have T1 := Lib.hid (tt_of h1)
    have TN := Lib.hid (goodsAll_yes h1)
    have HC := Lib.hid (givingsGood_any n c a A L C Z w hT h1 ha0)
    clear h1 ha0 hL0 hT
    go_enter Tryd.func17, Tryd.ntmps17
    go_wp2_with (first
      | (go_at_call 39; refine H.out.mono ?_; rintro e w' ⟨rfl, rfl⟩; rw [T1.out])
      | (go_at_call 40; refine HC.out.mono ?_; rintro e w1 ⟨a1, c1, A1, C1, rfl, hO, hb1⟩; have HO := Lib.hid hO; have B1 := Lib.hid hb1; clear hO hb1))
    go_ret2
    exact ⟨a1, c1, A1, C1, by rw [T1.out, TN.out]; rfl, by rw [TN.out]; exact HO.out, B1.out⟩
  · have T1 := Lib.hid (tt_no h1)
    have TN := Lib.hid (goodsAll_no h1)
    clear h1 ha0 hL0 hT
    go_enter Tryd.func17, Tryd.ntmps17
    go_wp2_with (go_at_call 39; refine H.out.mono ?_; rintro e w' ⟨rfl, rfl⟩; rw [T1.out])
    go_ret2
    exact ⟨none, 0, (fun _ => none), (fun _ => 0), by rw [T1.out, TN.out]; rfl, .inl (by rw [TN.out]; rfl), Below.refl _ _⟩
end Go.Proofs.YtgjegpponchdaaaDoor
