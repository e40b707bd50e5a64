/- The model's l3Givings: all givings that begin so, in order. -/
import Derived.Test.YtgjegpponchdaaaDoorGivsModel
import Derived.Test.YtgjegpponchdaaaDoorL3At
import Derived.Test.YtgjegpponchdaaaDoorInfoInts
namespace Go.Proofs.YtgjegpponchdaaaDoor
set_option linter.unusedVariables false
set_option linter.unusedSimpArgs false
open Go.RowKit

theorem atL_in {B : List Int} {x : Int} (h : x ∈ B) : ∃ k : Nat, k < B.length ∧ atL (nth B) x B.length = k := by
  obtain ⟨j, hj, e⟩ := mem_nth.1 h
  have hh : HasI B.length (nth B) x := ⟨j, hj, e⟩
  obtain ⟨k, hk, e2, h3⟩ : ∃ k, k < B.length ∧ nth B k = x ∧ ∀ i, i < k → nth B i ≠ x := by
    have : ∀ m, m ≤ B.length → (∃ k, k < m ∧ nth B k = x ∧ ∀ i, i < k → nth B i ≠ x) ∨ ∀ i, i < m → nth B i ≠ x := by
      intro m
      induction m with
      | zero => intro _; exact .inr fun i hi => absurd hi (Nat.not_lt_zero _)
      | succ m ih =>
        intro hm
        rcases ih (by omega) with ⟨k, h1, h2, h3⟩ | h
        · exact .inl ⟨k, by omega, h2, h3⟩
        · by_cases e : nth B m = x
          · exact .inl ⟨m, by omega, e, h⟩
          · exact .inr fun i hi => by
              by_cases e2 : i = m
              · subst e2; exact e
              · exact h i (by omega)
    rcases this B.length (Nat.le_refl _) with ⟨k, h1, h2, h3⟩ | h'
    · exact ⟨k, h1, h2, h3⟩
    · exact absurd e (h' j hj)
  exact ⟨k, hk, atL_first h3 e2 hk⟩
theorem atL_out {B : List Int} {x : Int} (h : ¬ x ∈ B) : atL (nth B) x B.length = B.length := atL_none fun k hk e => h (mem_nth.2 ⟨k, hk, e⟩)
/-- A table of one row, laid at once. -/
theorem making_one {w : World} {tS base g cap : Nat} {x : List Int} (hb : base ≤ w.heap.size) (hg1 : base ≤ g) (hg : g < w.heap.size) (hO : OwnR w g (some ⟨g, 0, none⟩) x.length (nth x)) :
    Making tS base (w.alloc (.cells #[.slice (some ⟨g, 0, none⟩) x.length cap] tS)) (.slice (some ⟨w.heap.size, 0, none⟩) 1 1) 1 (fun _ => g) (fun _ => cap) (lenL [x]) (nthL [x]) := by
  refine ⟨⟨rfl, .inr ⟨w.heap.size, 1, #[.slice (some ⟨g, 0, none⟩) x.length cap], rfl, hb, heap_alloc_last w _, Nat.le_refl _, by unfold maxLen; omega, rfl, rfl⟩⟩, fun r hr => ?_, fun r s hr hs hrs => by omega⟩
  obtain rfl : r = 0 := by omega
  exact ⟨hg1, by simp; omega, fun e => by simp only [Value.ownBlock, Option.some.injEq] at e; omega, hO.of_block (Below.heap_alloc w _ g hg)⟩

set_option maxHeartbeats 1600000 in
theorem l3Givings_any (n : Nat) (hn2 : 2 ≤ n) (hn : n ≤ 5) (f : Nat) : ∀ (B : List Int) (m c : Nat) (a : Option Addr) (w : World), Diff n B → m = B.length → 1 ≤ m → m + f = n → Rd w a m (nth B) →
    Calls Tryd.prog 35 #[.int .i64 n, .slice a m c] w (RetLL 23 (givs n f B) w) := by
  induction f with
  | zero =>
    intro B m c a w hd hm hm1 hf ha
    subst hm
    obtain ⟨ba, oa, rfl, hlt0, hc0⟩ := ha.lt (show 0 < B.length by omega)
    clear hc0
    obtain ⟨i0, hi, hz0, hz1, hz2⟩ := info_parts Tryd.infoInt
    have HA := Lib.hid ha
    have he : ((B.length : Int) == (n : Int)) = true := by simp; omega
    clear hd ha
    go_enter Tryd.func35, Tryd.ntmps35
    go_wp2_with (at_builtin; refine wpList_append_grows _ (by rfl) (.tmp 11) (.tmp 12) 23 (by rfl) 3 i0 (.int .i64 0) 1 8 Tryd.underlying23 hi hz0 hz1 hz2 (by rfl) (by decide) _ 0 0 [] (by rfl) (fun h => by cases h) (by rfl) (fun _ _ j u h => absurd h (by simp)) ⟨ba, oa, none⟩ B.length c (cellsL B.length (nth B)) (by rfl) ((cellsL_length _ _).trans (Nat.mul_one _).symm) (HA.out.news (by repeat (first | exact Below.refl _ _ | refine Below.drew ?_ | refine below_alloc ?_ _))) (cellsL_one _ _) (by omega) (by unfold maxLen; omega) (by omega) ?_; intro v1 w1 hown1 hgrow1; simp only [Nat.zero_add, List.nil_append] at hown1; obtain ⟨g1, cap1, rfl⟩ := owns_form hown1 (by omega); have hl1 := hown1.lt g1 rfl; have O1 := Lib.hid (OwnR.of_owns hown1); have B1 := Lib.hid ((below_alloc (Below.refl w.heap.size w) _).grown hgrow1 (by simp) (fun k h => by cases h)); simp at hl1; clear hown1 hgrow1)
    have hs1 := B1.out.size
    go_ret
    exact ⟨_, _, _, rfl, making_one (x := B) hs1 (by omega) hl1.2 O1.out, below_alloc B1.out _⟩
  | succ f ih =>
    intro B m c a w hd hm hm1 hf ha
    subst hm
    obtain ⟨ba, oa, rfl, hlt0, hc0⟩ := ha.lt (show 0 < B.length by omega)
    clear hc0
    obtain ⟨i0, hi, hz0, hz1, hz2⟩ := info_parts Tryd.infoInt
    obtain ⟨i1, hj, hy0, hy1, hy2⟩ := info_parts Tryd.infoInts
    have IH := Lib.hid ih
    have HD := Lib.hid hd
    have HA := Lib.hid ha
    have HE := Lib.hid (givs_succ n f B)
    have HLE := Lib.hid (fun k (hk : k ≤ n) => Nat.le_trans (givsTo_le hn f k B hk) (Nat.pow_le_pow_right (show 0 < 6 by omega) (show f + 1 ≤ 5 by omega)))
    have hz : ((B.length : Int) == (n : Int)) = false := by simp; omega
    have MS := Lib.hid (Making.start 23 w.heap.size (w.alloc (.cells #[] 23)) (.slice (some ⟨w.heap.size, 0, none⟩) 0 0) (fun _ => 0) (fun _ => 0) (lenL []) (nthL []) (World.ownsRow_made w #[] 0 (Nat.le_refl _) (Nat.zero_le _) (by simp)))
    have BS := Lib.hid (below_alloc (Below.refl w.heap.size w) (.cells #[] 23))
    clear ih hd ha
    go_enter Tryd.func35, Tryd.ntmps35
    go_wp2
    go_loopw [5, 6] (fun out s wr => ∃ k : Nat, k ≤ n ∧ s = .int .i64 k ∧ ∃ v G Cp, v = out ∧ Making 23 w.heap.size wr v (givsTo n f B k).length G Cp (lenL (givsTo n f B k)) (nthL (givsTo n f B k)) ∧ Below w.heap.size w wr) (fun _ s _ => n - (intOf s).toNat)
    case atStart => exact ⟨0, Nat.zero_le _, rfl, _, _, _, rfl, MS.out, BS.out⟩
    case round =>
      obtain ⟨k, hk, rfl, v, G, Cp, rfl, hM, hB⟩ := hrel
      clear MS BS
      by_cases hlt : k < n
      · obtain ⟨N, hN⟩ : ∃ N, N = (givsTo n f B k).length := ⟨_, rfl⟩
        have hN6 : N ≤ 7776 := by rw [hN]; exact HLE.out k hk
        rw [← hN] at hM
        have QN := Lib.hid hN
        have HMk := Lib.hid hM
        have HB := Lib.hid hB
        have HV := Lib.hid (fun x hx => hM.1.lt x hx)
        have hsz := hB.size
        have hbr : ba < wr.heap.size := by omega
        have HAr := Lib.hid (HA.out.below (Nat.le_refl _) hB)
        clear hM hB hN
        by_cases hin : (k : Int) ∈ B
        · obtain ⟨j, hj2, hat⟩ := atL_in hin
          have he : ((j : Int) == (B.length : Int)) = false := by simp; omega
          have HI := Lib.hid hin
          have QA := Lib.hid hat
          clear hin hat
          go_wp2_with (go_at_call 58; refine (l3At_any B.length c _ (nth B) k _ (by omega) HAr.out).mono ?_; rintro e w' ⟨rfl, rfl⟩; rw [QA.out])
          go_roundw
          case rel => exact ⟨k + 1, by omega, by go_num, _, _, _, rfl, (by rw [givsTo_in HI.out, ← QN.out]; exact HMk.out), HB.out⟩
          case measure => simp [intOf]; omega
        · have hnd := (HD.out.snoc_iff hlt).2 hin
          have hle := diff_le hnd
          rw [List.length_append] at hle
          simp only [List.length_cons, List.length_nil] at hle
          have ND := Lib.hid hnd
          have hpos := givs_pos (f := f) hnd (by rw [List.length_append]; simp; omega)
          have hlen := givs_le hn (f) (B ++ [(k : Int)])
          have hlen5 := Nat.pow_le_pow_right (show 0 < 6 by omega) (show f ≤ 5 by omega)
          obtain ⟨M, hM⟩ : ∃ M, M = (givs n f (B ++ [(k : Int)])).length := ⟨_, rfl⟩
          rw [← hM] at hpos hlen
          have hM6 : M ≤ 7776 := Nat.le_trans hlen hlen5
          have QM := Lib.hid hM
          have HI := Lib.hid hin
          have QA := Lib.hid (atL_out hin)
          clear hin hnd hM hlen hlen5
          go_wp2_with (first
            | (go_at_call 58; refine (l3At_any B.length c _ (nth B) k _ (by omega) HAr.out).mono ?_; rintro e w' ⟨rfl, rfl⟩; rw [QA.out])
            | (at_builtin; refine wpList_append_grows _ (by rfl) (.tmp 29) (.tmp 30) 23 (by rfl) 3 i0 (.int .i64 0) 1 8 Tryd.underlying23 hi hz0 hz1 hz2 (by rfl) (by decide) _ 0 0 [] (by rfl) (fun h => by cases h) (by rfl) (fun _ _ j u h => absurd h (by simp)) ⟨ba, oa, none⟩ B.length c (cellsL B.length (nth B)) (by rfl) ((cellsL_length _ _).trans (Nat.mul_one _).symm) (HAr.out.news (by repeat (first | exact Below.refl _ _ | refine Below.drew ?_ | refine below_alloc ?_ _))) (cellsL_one _ _) (by omega) (by unfold maxLen; omega) (by omega) ?_; intro v1 w3 hown1 hgrow1; simp only [Nat.zero_add, List.nil_append] at hown1; obtain ⟨g1, cap1, rfl⟩ := owns_form hown1 (by omega); have hl1 := hown1.lt g1 rfl; have HO1 := Lib.hid hown1; have B3 : Hid (Below wr.heap.size wr w3) := Lib.hid ((below_alloc (Below.refl _ _) _).grown hgrow1 (by simp) (fun k h => by cases h)); have hs3 := hgrow1.size; simp at hl1 hs3; clear hown1 hgrow1)
            | (at_builtin; refine wpList_append_lies _ (by rfl) (.tmp 31) (.tmp 33) 23 (by rfl) (wr.alloc (.cells #[] 3)).heap.size 3 i0 (.int .i64 0) 1 8 Tryd.underlying23 hi hz0 hz1 hz2 (by rfl) (by decide) (.slice (some ⟨g1, 0, none⟩) B.length cap1) B.length (cellsL B.length (nth B)) (by rfl) (HO1.out.alloc _) ⟨_, 0, none⟩ 1 1 [.int .i64 k] (by rfl) (by rfl) (news_one (by simp)) (by simp [Value.oneCell']) (by omega) (by unfold maxLen; omega) (by omega) (by simp; omega) _ rfl ?_; intro g2 cap2 w4 hown2 hgrow2 hat2 hlt2; have B4 : Hid (Below wr.heap.size wr w4) := Lib.hid ((below_alloc B3.out _).grown hgrow2 (by simp; omega) (fun x hx => by simp only [Value.ownBlock, Option.some.injEq] at hx; omega)); rw [cellsL_snoc] at hown2; have RD := Lib.hid (owns_rd hown2); clear hown2 hgrow2 hat2 HO1)
            | (go_at_call 35; refine (IH.out (B ++ [(k : Int)]) (B.length + 1) _ _ _ ND.out (by simp) (by omega) (by omega) (RD.out.congr fun j hj => (snoc_nth hj).symm)).mono ?_; rintro e w5 ⟨v', G', Cp', rfl, hM', hB'⟩; rw [← QM.out] at hM'; obtain ⟨g', cap', rfl⟩ := owns_form hM'.1 hpos; have M5 := Lib.hid hM'; have B5 := Lib.hid (B4.out.trans (hB'.mono B4.out.size)); have hs5 := hB'.size; have hs4 := B4.out.size; clear hM' hB')
            | (at_builtin; refine wpList_append_lies _ (by rfl) (.tmp 27) (.tmp 35) 22 (by rfl) w.heap.size 23 i1 (.slice none 0 0) 1 24 Tryd.underlying22 hj hy0 hy1 hy2 (by rfl) (by decide) v N ((List.range N).map fun r => .slice (some ⟨G r, 0, none⟩) (lenL (givsTo n f B k) r) (Cp r)) (by rfl) (HMk.out.below B5.out).1 ⟨g', 0, none⟩ M cap' ((List.range M).map fun r => .slice (some ⟨G' r, 0, none⟩) (lenL (givs n f (B ++ [(k : Int)])) r) (Cp' r)) (by rfl) (by simp) (fun j u hu => M5.out.1.cells (g := g') rfl j u hu) (fun u hu => by obtain ⟨r, _, rfl⟩ := List.mem_map.1 hu; rfl) hpos (by unfold maxLen; omega) (by omega) (by omega) _ rfl ?_; intro g6 cap6 w6 hown6 hgrow6 hat6 hlt6; have N6 := Lib.hid hown6; have G6 := Lib.hid hgrow6; have A6 := Lib.hid hat6; clear hown6 hgrow6 hat6))
          go_roundw
          case rel =>
            refine ⟨k + 1, by omega, by go_num, _, (fun r => if r < N then G r else G' (r - N)), (fun r => if r < N then Cp r else Cp' (r - N)), rfl, ?_, (HB.out.trans (B5.out.mono HB.out.size)).grown G6.out (by omega) (fun x hx => (HV.out x hx).1)⟩
            rw [givsTo_new HI.out, List.length_append, ← QN.out, ← QM.out]
            exact Making.join (HMk.out.below B5.out) M5.out (by omega) (fun r hr => by have := (HMk.out.2.1 r hr).2.1; omega) (fun x hx => by have := (HV.out x hx).2; omega) (fun r hr => lists_left (by rw [← QN.out]; exact hr)) (fun r hr => by rw [QN.out]; exact lists_right) N6.out G6.out A6.out (Nat.le_refl _)
          case measure => simp [intOf]; omega
      · obtain rfl : k = n := by omega
        have HMk := Lib.hid hM
        have HB := Lib.hid hB
        clear hM hB
        go_wp2
        go_ret
        exact ⟨v, G, Cp, rfl, (by rw [HE.out]; exact HMk.out), HB.out⟩

set_option maxHeartbeats 1600000 in
theorem l3GivingsAll_any (n : Nat) (hn2 : 2 ≤ n) (hn : n ≤ 5) (ba oa : Nat) (w : World) (ha : ba < w.heap.size) :
    Calls Tryd.prog 35 #[.int .i64 n, .slice (some ⟨ba, oa, none⟩) 0 0] w (RetLL 23 (givs n n []) w) := by
  obtain ⟨i0, hi, hz0, hz1, hz2⟩ := info_parts Tryd.infoInt
  obtain ⟨i1, hj, hy0, hy1, hy2⟩ := info_parts Tryd.infoInts
  have HE := Lib.hid (show givs n n [] = givsTo n (n - 1) [] n by obtain ⟨f, rfl⟩ : ∃ f, n = f + 1 := ⟨n - 1, by omega⟩; exact givs_succ _ _ _)
  have HLE := Lib.hid (fun k (hk : k ≤ n) => Nat.le_trans (givsTo_le hn (n - 1) k [] hk) (Nat.pow_le_pow_right (show 0 < 6 by omega) (show n - 1 + 1 ≤ 5 by omega)))
  have hz : ((0 : Int) == (n : Int)) = false := by simp; omega
  have MS := Lib.hid (Making.start 23 w.heap.size (w.alloc (.cells #[] 23)) (.slice (some ⟨w.heap.size, 0, none⟩) 0 0) (fun _ => 0) (fun _ => 0) (lenL []) (nthL []) (World.ownsRow_made w #[] 0 (Nat.le_refl _) (Nat.zero_le _) (by simp)))
  have BS := Lib.hid (below_alloc (Below.refl w.heap.size w) (.cells #[] 23))
  go_enter Tryd.func35, Tryd.ntmps35
  go_wp2
  go_loopw [5, 6] (fun out s wr => ∃ k : Nat, k ≤ n ∧ s = .int .i64 k ∧ ∃ v G Cp, v = out ∧ Making 23 w.heap.size wr v (givsTo n (n - 1) [] k).length G Cp (lenL (givsTo n (n - 1) [] k)) (nthL (givsTo n (n - 1) [] k)) ∧ Below w.heap.size w wr) (fun _ s _ => n - (intOf s).toNat)
  case atStart => exact ⟨0, Nat.zero_le _, rfl, _, _, _, rfl, MS.out, BS.out⟩
  case round =>
    obtain ⟨k, hk, rfl, v, G, Cp, rfl, hM, hB⟩ := hrel
    clear MS BS
    by_cases hlt : k < n
    · obtain ⟨N, hN⟩ : ∃ N, N = (givsTo n (n - 1) [] k).length := ⟨_, rfl⟩
      have hN6 : N ≤ 7776 := by rw [hN]; exact HLE.out k hk
      rw [← hN] at hM
      have QN := Lib.hid hN
      have HMk := Lib.hid hM
      have HB := Lib.hid hB
      have HV := Lib.hid (fun x hx => hM.1.lt x hx)
      have hsz := hB.size
      have hbr : ba < wr.heap.size := by omega
      clear hM hB hN
      have hnd := ((Diff.nil n).snoc_iff hlt).2 (List.not_mem_nil)
      have hle := diff_le hnd
      rw [List.length_append] at hle
      simp only [List.length_cons, List.length_nil] at hle
      have ND := Lib.hid hnd
      have hpos := givs_pos (f := (n - 1)) hnd (by rw [List.length_append]; simp; omega)
      have hlen := givs_le hn ((n - 1)) ([] ++ [(k : Int)])
      have hlen5 := Nat.pow_le_pow_right (show 0 < 6 by omega) (show (n - 1) ≤ 5 by omega)
      obtain ⟨M, hM⟩ : ∃ M, M = (givs n (n - 1) ([] ++ [(k : Int)])).length := ⟨_, rfl⟩
      rw [← hM] at hpos hlen
      have hM6 : M ≤ 7776 := Nat.le_trans hlen hlen5
      have QM := Lib.hid hM
      have O0 := Lib.hid (show (wr.alloc (.cells #[] 3)).ownsRow wr.heap.size 3 1 (.slice (some ⟨wr.heap.size, 0, none⟩) 0 0) 0 [] from World.ownsRow_made wr #[] 0 (Nat.le_refl _) (Nat.zero_le _) (by simp))
      clear hnd hM hlen hlen5
      go_wp2_with (first
        | (go_at_call 58; refine (l3At_any 0 0 _ (nth []) k _ (by omega) (fun j hj => absurd hj (Nat.not_lt_zero _))).mono ?_; rintro e w' ⟨rfl, rfl⟩; rw [show atL (nth []) (k : Int) 0 = 0 from atL_none fun j hj => absurd hj (Nat.not_lt_zero _)])
        | (at_builtin; refine wpList_append_lies _ (by rfl) (.tmp 31) (.tmp 33) 23 (by rfl) wr.heap.size 3 i0 (.int .i64 0) 1 8 Tryd.underlying23 hi hz0 hz1 hz2 (by rfl) (by decide) (.slice (some ⟨wr.heap.size, 0, none⟩) 0 0) 0 [] (by rfl) (O0.out.alloc _) ⟨_, 0, none⟩ 1 1 [.int .i64 k] (by rfl) (by rfl) (news_one (by simp)) (by simp [Value.oneCell']) (by omega) (by unfold maxLen; omega) (by omega) (by simp; omega) _ rfl ?_; intro g2 cap2 w4 hown2 hgrow2 hat2 hlt2; have B4 : Hid (Below wr.heap.size wr w4) := Lib.hid ((below_alloc (below_alloc (Below.refl _ _) _) _).grown hgrow2 (by simp; omega) (fun x hx => by simp only [Value.ownBlock, Option.some.injEq] at hx; omega)); have RD : Hid (Rd w4 (some ⟨g2, 0, none⟩) 1 (fun _ => (k : Int))) := Lib.hid (owns_rd (X := fun _ => (k : Int)) hown2); clear hown2 hgrow2 hat2)
        | (go_at_call 35; refine (l3Givings_any n hn2 hn (n - 1) ([] ++ [(k : Int)]) 1 _ _ _ ND.out (by simp) (by omega) (by omega) (RD.out.congr fun j hj => one_nth hj)).mono ?_; rintro e w5 ⟨v', G', Cp', rfl, hM', hB'⟩; rw [← QM.out] at hM'; obtain ⟨g', cap', rfl⟩ := owns_form hM'.1 hpos; have M5 := Lib.hid hM'; have B5 := Lib.hid (B4.out.trans (hB'.mono B4.out.size)); have hs5 := hB'.size; have hs4 := B4.out.size; clear hM' hB')
        | (at_builtin; refine wpList_append_lies _ (by rfl) (.tmp 27) (.tmp 35) 22 (by rfl) w.heap.size 23 i1 (.slice none 0 0) 1 24 Tryd.underlying22 hj hy0 hy1 hy2 (by rfl) (by decide) v N ((List.range N).map fun r => .slice (some ⟨G r, 0, none⟩) (lenL (givsTo n (n - 1) [] k) r) (Cp r)) (by rfl) (HMk.out.below B5.out).1 ⟨g', 0, none⟩ M cap' ((List.range M).map fun r => .slice (some ⟨G' r, 0, none⟩) (lenL (givs n (n - 1) ([] ++ [(k : Int)])) r) (Cp' r)) (by rfl) (by simp) (fun j u hu => M5.out.1.cells (g := g') rfl j u hu) (fun u hu => by obtain ⟨r, _, rfl⟩ := List.mem_map.1 hu; rfl) hpos (by unfold maxLen; omega) (by omega) (by omega) _ rfl ?_; intro g6 cap6 w6 hown6 hgrow6 hat6 hlt6; have N6 := Lib.hid hown6; have G6 := Lib.hid hgrow6; have A6 := Lib.hid hat6; clear hown6 hgrow6 hat6))
      go_roundw
      case rel =>
        refine ⟨k + 1, by omega, by go_num, _, (fun r => if r < N then G r else G' (r - N)), (fun r => if r < N then Cp r else Cp' (r - N)), rfl, ?_, (HB.out.trans (B5.out.mono HB.out.size)).grown G6.out (by omega) (fun x hx => (HV.out x hx).1)⟩
        rw [givsTo_new List.not_mem_nil, List.length_append, ← QN.out, ← QM.out]
        exact Making.join (HMk.out.below B5.out) M5.out (by omega) (fun r hr => by have := (HMk.out.2.1 r hr).2.1; omega) (fun x hx => by have := (HV.out x hx).2; omega) (fun r hr => lists_left (by rw [← QN.out]; exact hr)) (fun r hr => by rw [QN.out]; exact lists_right) N6.out G6.out A6.out (Nat.le_refl _)
      case measure => simp [intOf]; omega
    · obtain rfl : k = n := by omega
      have HMk := Lib.hid hM
      have HB := Lib.hid hB
      clear hM hB
      go_wp2
      go_ret
      exact ⟨v, G, Cp, rfl, (by rw [HE.out]; exact HMk.out), HB.out⟩
end Go.Proofs.YtgjegpponchdaaaDoor
