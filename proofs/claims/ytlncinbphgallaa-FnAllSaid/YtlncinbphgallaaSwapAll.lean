/- The program's SwapAll. -/
import Derived.Test.YtlncinbphgallaaReadHeld
import Derived.Test.YtlncinbphgallaaWelcomeSwaps
import Derived.Test.YtlncinbphgallaaTabJ
import Derived.Test.YtlncinbphgallaaInfoInts
import Derived.Shelf.Abstract
namespace Go.Proofs.Ytlncinbphgallaa
set_option linter.unusedVariables false
set_option linter.unusedSimpArgs false
open Go.RowKit
attribute [local go_sem] Oper.semAt_some wide_fn wide_round_fn

theorem ownR_two (w : World) (t : Nat) (x y : Int) : OwnR (w.alloc (.cells #[.int .i64 x, .int .i64 y] t)) w.heap.size (some ⟨w.heap.size, 0, none⟩) 2 (nth [x, y]) := by
  refine .inr ⟨0, rfl, fun k hk => ?_⟩
  have h := World.cell?_alloc_new w #[.int .i64 x, .int .i64 y] t k
  rw [Nat.zero_add]
  refine ⟨?_, by simp⟩
  have : k = 0 ∨ k = 1 := by omega
  rcases this with rfl | rfl <;> simp [nth]

set_option maxRecDepth 100000 in
set_option maxHeartbeats 2000000 in
theorem swapAll_anyc (n c : Nat) (a : Option Addr) (A : Nat → Option Addr) (L C : Nat → Nat) (Z : Nat → Nat → Int) (m d : Nat) (b : Option Addr) (G : Nat → Int) (w : World) (hn0 : n ≤ 1048576) (hL0 : ∀ r, r < n → L r ≤ 1048576) (ha0 : Tab w a n A L C Z) (hm1 : m ≤ 1048576) (hb1 : Rd w b m G) :
    Calls Try.prog 23 #[.slice a n c, .slice b m d] w (RetTB (tt (GivenOk n L Z m G)) (allL n L Z m G).length (lenL (allL n L Z m G)) (nthL (allL n L Z m G)) w) := by
  by_cases hg : GivenOk n L Z m G
  · have H := Lib.hid (readHeld_yes n c a A L C Z m d b G w hn0 hL0 ha0 hm1 hb1 hg)
    have T1 := Lib.hid (tt_of hg)
    have TN := Lib.hid (allL_yes hg)
    have HW := Lib.hid hg.1
    have HA := Lib.hid ha0
    have hn5 := hg.1.1.2
    obtain ⟨i1, hj, hy0, hy1, hy2⟩ := info_parts Try.infoInts
    clear hg ha0 hL0 hb1
    refine (callsIn_wide (n := 9)).1 ?_
    refine callsIn_of_wp_marks Try.func23 rfl trivial ?_ rfl
    simp only [Try.ntmps23, List.size_toArray, List.length_cons, List.length_nil, Nat.reduceAdd, Nat.reduceSub, Array.replicate_succ, Array.replicate_zero, List.push_toArray, List.append_toArray, List.nil_append, List.cons_append]
    gi_wp2_with (first
      | (gi_at_call 52; refine (callsIn_wide.2 H.out).mono ?_; rintro e w1 ⟨rfl, hb1⟩; have B1 := Lib.hid hb1; clear hb1)
      | ((with_reducible refine arrI_alloc 6 _ (Try.zeroHeld _) ?_); intro w2 hA2 hs2 hb2; have B2 := Lib.hid (B1.out.trans (hb2.mono B1.out.size)); clear hs2 hb2)
      | ((with_reducible refine arrI_store 6 _ _ _ _ _ _ (heldF n G) ?_ ?_ hA2 Try.sizeHeld ?_); exact rfl; exact rfl; intro w3 hA3 hs3 ho3 hb3; have B3 := Lib.hid (B2.out.trans (hb3.mono B1.out.size)); clear hA2 hs3 ho3 hb3)
      | ((with_reducible refine stI_load 6 _ _ _ _ _ _ ?_ (hA3.below hA3.lt (below_alloc (Below.refl _ w3) (.cells #[.slice none 0 0] 22))) Try.underlying54 rfl Try.sizeHeld ?_); exact rfl)
      | (gi_at_call 57; refine (callsIn_wide.2 (welcomeSwaps_any n c a G _)).mono ?_; rintro e w4 ⟨rfl, hcw, hag, hs4, hb4⟩; have CW := Lib.hid hcw; have AG := Lib.hid hag; have S4 := Lib.hid hs4; have B4 := Lib.hid hb4; clear hcw hag hs4 hb4))
    obtain ⟨s, hs⟩ : ∃ s, s = w3.heap.size := ⟨_, rfl⟩
    have e2 : (w3.alloc (.cells #[.slice none 0 0] 22)).heap.size = s + 1 := by simp [hs]
    have CW' := CW.out
    have AG' := AG.out
    have S4' := S4.out
    have B4' := B4.out
    have hws : w.heap.size ≤ s := by rw [hs]; exact B3.out.size
    rw [e2] at CW' AG' S4' B4'
    rw [← hs]
    have hB0 : Below w.heap.size w w4 := (below_alloc B3.out _).trans (B4'.mono (by omega))
    have hc0 : w4.cell? ⟨s, 0, none⟩ = some (.slice none 0 0) := (B4'.cell (p := ⟨s, 0, none⟩) (show s < s + 1 by omega)).trans (by rw [hs]; simp)
    have hf0 : w4.frozen? ⟨s, 0, none⟩ = false := (World.frozen?_of_block (w := w3.alloc _) (B4'.block s (by omega))).trans (by rw [hs]; simp)
    have J0 := Lib.hid (show TabJ 23 s w [] (fun k => k = s) w4 from ⟨.slice none 0 0, fun _ => 0, fun _ => 0, hB0, hws, hc0, hf0, Making.start _ _ _ _ _ _ _ _ ⟨rfl, .inl ⟨rfl, rfl⟩⟩, by
      funext k
      refine propext ⟨.inl, ?_⟩
      rintro (h | h | ⟨r, hr, _⟩)
      · exact h
      · cases h
      · exact absurd hr (Nat.not_lt_zero _)⟩)
    have CW2 := Lib.hid CW'
    have AG2 := Lib.hid AG'
    have HB0 := Lib.hid hB0
    have hs4 : w4.heap.size = s + 3 := S4'
    have HS := Lib.hid hs
    clear hs CW' AG' S4' B4' CW AG S4 B4 hB0 B1 B2 B3 hA3 e2 hc0 hf0
    refine wp_seqV (av := pairV) (gf := 87) (lb := #[.pointer (some ⟨s + 1, 0, none⟩), .pointer (some ⟨s + 1 + 1, 0, none⟩)]) rfl (enters_of Try.func87 (by kernel_rfl) rfl) (fun _ => rfl) (R := seeR w.heap.size (s + 1) (s + 1 + 1)) (LL := mayL n Z G)
      (seq_welcome n c a A L C Z G w w4 (s + 1) (s + 1 + 1) HW.out HA.out HB0.out CW2.out AG2.out) (fun k => k = s) (fun k hk => ⟨fun h => by rcases hk with hk | hk | hk <;> omega, by rcases hk with hk | hk | hk <;> omega⟩)
      (fun V pre Wx => TabJ 23 s w (pairsL pre) V Wx)
      (fun c' V pre Wx => False)
      (fun k => k < w.heap.size) (fun k hk => by omega) ⟨fun V pre Wx h => h.lies, fun V pre A B h hin => h.inside hin⟩ (fun c' => ⟨fun _ _ _ h => h.elim, fun _ _ _ _ h => h.elim⟩) J0.out
      (fun p a' _ => a' = { tmps := #[.slice a n c, .slice b m d, undef, undef, .slice none 0 0, .bool false, .slice a n c, .pointer (some ⟨w1.heap.size, 0, none⟩), .bool true, .pointer (some ⟨s, 0, none⟩), .int .i64 p.1, .int .i64 p.2, .tuple #[.slice a n c, .agg (cellsV 6 (heldF n G)), .bool true], .slice a n c, .slice b m d, .tuple #[.slice a n c, .agg (cellsV 6 (heldF n G)), .bool true], .slice a n c, .agg (cellsV 6 (heldF n G)), .bool true, .bool true, .bool false, .slice a n c, .agg (cellsV 6 (heldF n G)), .func (.func 87) #[] #[.pointer (some ⟨s + 1, 0, none⟩), .pointer (some ⟨s + 1 + 1, 0, none⟩)], .int .i64 p.1, .int .i64 p.2, undef, undef, undef, undef, undef, undef, undef], defers := [] })
      (fun v a' W l r o h _ => h) ?assign ?body ?done ?stop
    case assign =>
      intro l' v Wx K hK
      gi_wp2
      exact hK _ _ (Outside.refl _ _) (by simp [pairV])
    case body =>
      rintro l' V pre D a' Wx ⟨v, G', Cp, h1, h2, h3, h4, h5, rfl⟩ hpre hV rfl
      have hle : (pairsL pre).length ≤ 25 := by
        rw [pairsL_length]
        have h7 := hpre.length_le
        rw [List.length_append] at h7
        exact Nat.le_trans (Nat.le_of_add_right_le h7) (mayL_le hn5)
      obtain ⟨LL, hLL⟩ : ∃ LL, LL = pairsL pre := ⟨_, rfl⟩
      have EL := Lib.hid (show pairsL (pre ++ [D]) = LL ++ [[(D.1 : Int), (D.2 : Int)]] by rw [hLL]; exact pairsL_snoc pre D.1 D.2)
      rw [← hLL] at h5 hle ⊢
      have hbx : s < Wx.heap.size := World.block_lt_of_cell? _ _ h3
      have MK := Lib.hid h5
      have B1 := Lib.hid h1
      have C3 := Lib.hid h3
      have F4 := Lib.hid h4
      have hcs : ∀ o1 o2 : Obj, ((Wx.alloc o1).alloc o2).cell? ⟨s, 0, none⟩ = some v := fun o1 o2 => by
        rw [World.cell?_of_block (w := Wx.alloc o1) (Below.heap_alloc _ _ _ (by simp; omega)), World.cell?_of_block (w := Wx) (Below.heap_alloc _ _ _ hbx)]; exact C3.out
      clear h5 h1 hLL hpre hV
      gi_wp2_with (gi_at_builtin; refine wpListIn_append_lies (by rfl) (.tmp 26) (.tmp 30) 22 (by rfl) (s + 1) 23 i1 (.slice none 0 0) 1 24 Try.underlying22 hj hy0 hy1 hy2 (by rfl) (by decide) v LL.length ((List.range LL.length).map fun r => .slice (some ⟨G' r, 0, none⟩) (lenL LL r) (Cp r)) (by rfl) ((MK.out.1.alloc _).alloc _) ⟨_, 0, none⟩ 1 1 [.slice (some ⟨Wx.heap.size, 0, none⟩) 2 2] (by rfl) (by rfl) (news_one (by simp)) (by simp [Value.oneCell']) (by omega) (by unfold maxLen; omega) (by omega) (by simp; omega) _ rfl ?_; intro g2 cap2 w2 hown2 hgrow2 hat2 hlt2; have N2 := Lib.hid hown2; have G2 := Lib.hid hgrow2; have A2 := Lib.hid hat2; have c2 : w2.cell? ⟨s, 0, none⟩ = some v := (World.cell?_of_block (w := (Wx.alloc _).alloc _) (hgrow2.block s (by simp; omega) (fun e => by have := (MK.out.1.lt s e.symm).1; omega))).trans (hcs _ _); have f2 : w2.frozen? ⟨s, 0, none⟩ = false := (World.frozen?_of_block (w := (Wx.alloc _).alloc _) (hgrow2.block s (by simp; omega) (fun e => by have := (MK.out.1.lt s e.symm).1; omega))).trans (by rw [World.frozen?_of_block (w := Wx.alloc _) (Below.heap_alloc _ _ _ (by simp; omega)), World.frozen?_of_block (w := Wx) (Below.heap_alloc _ _ _ hbx)]; exact F4.out); clear hown2 hgrow2 hat2 hcs)
      have P := TabJ.push (x := [(D.1 : Int), (D.2 : Int)]) (gr := Wx.heap.size) (cr := 2) B1.out h2 C3.out F4.out MK.out (below_alloc (below_alloc (Below.refl _ Wx) _) _) ((ownR_two Wx _ _ _).of_block (Below.heap_alloc _ _ _ (by simp))) (by omega) (by simp; omega) (fun h => by
        have hl := TabJ.lies (V := tabV s v LL.length G') ⟨v, G', Cp, B1.out, h2, C3.out, F4.out, MK.out, rfl⟩ _ h
        omega) N2.out G2.out A2.out
      obtain ⟨p1, V', p2, p3⟩ := P
      exact ⟨p1, V', fun k hk => by rcases p2 k hk with h | h | h; exact .inl h; exact .inr (by omega); exact .inr h, by show TabJ _ _ _ (pairsL (pre ++ [D])) _ _; rw [EL.out]; exact p3⟩
    case done =>
      rintro D V Wx hD hV hnD h hKD
      have H2 := h.inside (B := Wx.putObj D (.deferred none)) (Inside.putObj (fun h' => by rcases h' with h' | h'; exact hnD h'; omega) _)
      obtain ⟨v, G', Cp, h1, h2, h3, h4, h5, rfl⟩ := h
      have H3 := Lib.hid H2
      have h3' := h3
      clear H2 h1 h5
      gi_wp2
      refine ⟨by simp, .inl ⟨_, _, rfl, run_takeDeferred hKD, ?_⟩⟩
      obtain ⟨v', G2, Cp2, k1, k2, k3, k4, k5, _⟩ := H3.out
      have hvv : v' = v := by
        have e1 : (Wx.putObj D (.deferred none)).cell? ⟨s, 0, none⟩ = Wx.cell? ⟨s, 0, none⟩ := World.cell?_of_block (World.putObj_heap_other (fun e => hnD (.inl e.symm)))
        rw [e1, h3'] at k3
        exact (Option.some.inj k3).symm
      subst hvv
      obtain ⟨a1, c1, rfl, hO⟩ := k5.slice
      refine ⟨_, results_tmp2 rfl _ _ _, ?_⟩
      rw [T1.out, TN.out]
      exact ⟨_, _, _, _, rfl, hO.sub (by omega) (Nat.le_refl _), k1⟩
    case stop =>
      rintro D c' V pre Wx _ _ _ _ h
      exact h.elim
  · have H := Lib.hid (readHeld_no n c a A L C Z m d b G w hn0 hL0 ha0 hm1 hb1 hg)
    have T1 := Lib.hid (tt_no hg)
    have TN := Lib.hid (allL_no hg)
    clear hg ha0 hL0 hb1
    go_enter Try.func23, Try.ntmps23
    go_wp2_with (first
      | (go_at_call 52; refine H.out.mono ?_; rintro e w1 ⟨rfl, hb1⟩)
      | ((with_reducible refine arr_alloc 6 _ (Try.zeroHeld _) ?_); intro w2 hA2 hs2 hb2; clear hs2)
      | ((with_reducible refine arr_store 6 _ _ _ _ _ _ (fun _ => 0) ?_ ?_ hA2 Try.sizeHeld ?_); exact rfl; exact rfl; intro w3 hA3 hs3 ho3 hb3; have hb4 := (below_chain hb1 hb2).trans (hb3.mono hb1.size); clear hA2 hs3 ho3))
    go_ret2
    exact ⟨none, 0, (fun _ => none), (fun _ => 0), by rw [T1.out, TN.out]; rfl, .inl (by rw [TN.out]; rfl), hb4⟩
theorem swapAll_any (n c : Nat) (a : Option Addr) (A : Nat → Option Addr) (L C : Nat → Nat) (Z : Nat → Nat → Int) (m d : Nat) (b : Option Addr) (G : Nat → Int) (w : World) (hn0 : n ≤ 1048576) (hL0 : ∀ r, r < n → L r ≤ 1048576) (ha0 : Tab w a n A L C Z) (hm1 : m ≤ 1048576) (hmd1 : m ≤ d) (hb1 : Rd w b m G) :
    Calls Try.prog 23 #[.slice a n c, .slice b m d] w (RetTB (tt (GivenOk n L Z m G)) (allL n L Z m G).length (lenL (allL n L Z m G)) (nthL (allL n L Z m G)) w) :=
  swapAll_anyc n c a A L C Z m d b G w hn0 hL0 ha0 hm1 hb1
end Go.Proofs.Ytlncinbphgallaa
