/- Texts joined: L3Givings, L3Better, AgainstModel, BlockModel, L11Against, GivingModel, SpecHouseGiving, L3Both, SpecProofBlock, ReadGiven, Likes, Everybody, GivenHouses, RowAt, GivenBlocks. -/
import Derived.Test.YtabdbgnkiebcdaaGreatDoorPartS10
import Derived.Test.YtabdbgnkiebcdaaGreatDoorPartS2
import Derived.Test.YtabdbgnkiebcdaaGreatDoorPartS3
import Derived.Test.YtabdbgnkiebcdaaGreatDoorPartS6
import Derived.Test.YtabdbgnkiebcdaaGreatDoorPartS4
import Derived.Test.YtabdbgnkiebcdaaGreatDoorPartS8
import Derived.Test.YtabdbgnkiebcdaaGreatDoorPartS1
import Derived.Test.YtabdbgnkiebcdaaGreatDoorProg
import Derived.OwnWalk
import Derived.Test.YtabdbgnkiebcdaaGreatDoorPartS7
namespace Go.Proofs.YtabdbgnkiebcdaaGreatDoor
set_option linter.unusedVariables false
set_option linter.unusedSimpArgs false
open Go.RowKit

theorem atL_in {B : List Int} {x : Int} (h : x ∈ B) : ∃ k : Nat, k < B.length ∧ atL (nth B) x B.length = k := by
  obtain ⟨j, hj, e⟩ := mem_nth.1 h
  have hh : HasI B.length (nth B) x := ⟨j, hj, e⟩
  obtain ⟨k, hk, e2, h3⟩ : ∃ k, k < B.length ∧ nth B k = x ∧ ∀ i, i < k → nth B i ≠ x := by
    have : ∀ m, m ≤ B.length → (∃ k, k < m ∧ nth B k = x ∧ ∀ i, i < k → nth B i ≠ x) ∨ ∀ i, i < m → nth B i ≠ x := by
      intro m
      induction m with
      | zero => intro _; exact .inr fun i hi => absurd hi (Nat.not_lt_zero _)
      | succ m ih =>
        intro hm
        rcases ih (by omega) with ⟨k, h1, h2, h3⟩ | h
        · exact .inl ⟨k, by omega, h2, h3⟩
        · by_cases e : nth B m = x
          · exact .inl ⟨m, by omega, e, h⟩
          · exact .inr fun i hi => by
              by_cases e2 : i = m
              · subst e2; exact e
              · exact h i (by omega)
    rcases this B.length (Nat.le_refl _) with ⟨k, h1, h2, h3⟩ | h'
    · exact ⟨k, h1, h2, h3⟩
    · exact absurd e (h' j hj)
  exact ⟨k, hk, atL_first h3 e2 hk⟩
theorem atL_out {B : List Int} {x : Int} (h : ¬ x ∈ B) : atL (nth B) x B.length = B.length := atL_none fun k hk e => h (mem_nth.2 ⟨k, hk, e⟩)
/-- A table of one row, laid at once. -/
theorem making_one {w : World} {tS base g cap : Nat} {x : List Int} (hb : base ≤ w.heap.size) (hg1 : base ≤ g) (hg : g < w.heap.size) (hO : OwnR w g (some ⟨g, 0, none⟩) x.length (nth x)) :
    Making tS base (w.alloc (.cells #[.slice (some ⟨g, 0, none⟩) x.length cap] tS)) (.slice (some ⟨w.heap.size, 0, none⟩) 1 1) 1 (fun _ => g) (fun _ => cap) (lenL [x]) (nthL [x]) := by
  refine ⟨⟨rfl, .inr ⟨w.heap.size, 1, #[.slice (some ⟨g, 0, none⟩) x.length cap], rfl, hb, heap_alloc_last w _, Nat.le_refl _, by unfold maxLen; omega, rfl, rfl⟩⟩, fun r hr => ?_, fun r s hr hs hrs => by omega⟩
  obtain rfl : r = 0 := by omega
  exact ⟨hg1, by simp; omega, fun e => by simp only [Value.ownBlock, Option.some.injEq] at e; omega, hO.of_block (Below.heap_alloc w _ g hg)⟩

set_option maxHeartbeats 1600000 in
theorem l3Givings_any (n : Nat) (hn2 : 2 ≤ n) (hn : n ≤ 5) (f : Nat) : ∀ (B : List Int) (m c : Nat) (a : Option Addr) (w : World), Diff n B → m = B.length → 1 ≤ m → m + f = n → Rd w a m (nth B) →
    Calls Tryz.prog 50 #[.int .i64 n, .slice a m c] w (RetLL 33 (givs n f B) w) := by
  induction f with
  | zero =>
    intro B m c a w hd hm hm1 hf ha
    subst hm
    obtain ⟨ba, oa, rfl, hlt0, hc0⟩ := ha.lt (show 0 < B.length by omega)
    clear hc0
    obtain ⟨i0, hi, hz0, hz1, hz2⟩ := info_parts Tryz.infoInt
    have HA := Lib.hid ha
    have he : ((B.length : Int) == (n : Int)) = true := by simp; omega
    clear hd ha
    go_enter Tryz.func50, Tryz.ntmps50
    go_wp2_with (at_builtin; refine wpList_append_grows _ (by rfl) (.tmp 11) (.tmp 12) 33 (by rfl) 3 i0 (.int .i64 0) 1 8 Tryz.underlying33 hi hz0 hz1 hz2 (by rfl) (by decide) _ 0 0 [] (by rfl) (fun h => by cases h) (by rfl) (fun _ _ j u h => absurd h (by simp)) ⟨ba, oa, none⟩ B.length c (cellsL B.length (nth B)) (by rfl) ((cellsL_length _ _).trans (Nat.mul_one _).symm) (HA.out.news (by repeat (first | exact Below.refl _ _ | refine Below.drew ?_ | refine below_alloc ?_ _))) (cellsL_one _ _) (by omega) (by unfold maxLen; omega) (by omega) ?_; intro v1 w1 hown1 hgrow1; simp only [Nat.zero_add, List.nil_append] at hown1; obtain ⟨g1, cap1, rfl⟩ := owns_form hown1 (by omega); have hl1 := hown1.lt g1 rfl; have O1 := Lib.hid (OwnR.of_owns hown1); have B1 := Lib.hid ((below_alloc (Below.refl w.heap.size w) _).grown hgrow1 (by simp) (fun k h => by cases h)); simp at hl1; clear hown1 hgrow1)
    have hs1 := B1.out.size
    go_ret
    exact ⟨_, _, _, rfl, making_one (x := B) hs1 (by omega) hl1.2 O1.out, below_alloc B1.out _⟩
  | succ f ih =>
    intro B m c a w hd hm hm1 hf ha
    subst hm
    obtain ⟨ba, oa, rfl, hlt0, hc0⟩ := ha.lt (show 0 < B.length by omega)
    clear hc0
    obtain ⟨i0, hi, hz0, hz1, hz2⟩ := info_parts Tryz.infoInt
    obtain ⟨i1, hj, hy0, hy1, hy2⟩ := info_parts Tryz.infoInts
    have IH := Lib.hid ih
    have HD := Lib.hid hd
    have HA := Lib.hid ha
    have HE := Lib.hid (givs_succ n f B)
    have HLE := Lib.hid (fun k (hk : k ≤ n) => Nat.le_trans (givsTo_le hn f k B hk) (Nat.pow_le_pow_right (show 0 < 6 by omega) (show f + 1 ≤ 5 by omega)))
    have hz : ((B.length : Int) == (n : Int)) = false := by simp; omega
    have MS := Lib.hid (Making.start 33 w.heap.size (w.alloc (.cells #[] 33)) (.slice (some ⟨w.heap.size, 0, none⟩) 0 0) (fun _ => 0) (fun _ => 0) (lenL []) (nthL []) (World.ownsRow_made w #[] 0 (Nat.le_refl _) (Nat.zero_le _) (by simp)))
    have BS := Lib.hid (below_alloc (Below.refl w.heap.size w) (.cells #[] 33))
    clear ih hd ha
    go_enter Tryz.func50, Tryz.ntmps50
    go_wp2
    go_loopw [5, 6] (fun out s wr => ∃ k : Nat, k ≤ n ∧ s = .int .i64 k ∧ ∃ v G Cp, v = out ∧ Making 33 w.heap.size wr v (givsTo n f B k).length G Cp (lenL (givsTo n f B k)) (nthL (givsTo n f B k)) ∧ Below w.heap.size w wr) (fun _ s _ => n - (intOf s).toNat)
    case atStart => exact ⟨0, Nat.zero_le _, rfl, _, _, _, rfl, MS.out, BS.out⟩
    case round =>
      obtain ⟨k, hk, rfl, v, G, Cp, rfl, hM, hB⟩ := hrel
      clear MS BS
      by_cases hlt : k < n
      · obtain ⟨N, hN⟩ : ∃ N, N = (givsTo n f B k).length := ⟨_, rfl⟩
        have hN6 : N ≤ 7776 := by rw [hN]; exact HLE.out k hk
        rw [← hN] at hM
        have QN := Lib.hid hN
        have HMk := Lib.hid hM
        have HB := Lib.hid hB
        have HV := Lib.hid (fun x hx => hM.1.lt x hx)
        have hsz := hB.size
        have hbr : ba < wr.heap.size := by omega
        have HAr := Lib.hid (HA.out.below (Nat.le_refl _) hB)
        clear hM hB hN
        by_cases hin : (k : Int) ∈ B
        · obtain ⟨j, hj2, hat⟩ := atL_in hin
          have he : ((j : Int) == (B.length : Int)) = false := by simp; omega
          have HI := Lib.hid hin
          have QA := Lib.hid hat
          clear hin hat
          go_wp2_with (go_at_call 82; refine (l3At_any B.length c _ (nth B) k _ (by omega) HAr.out).mono ?_; rintro e w' ⟨rfl, rfl⟩; rw [QA.out])
          go_roundw
          case rel => exact ⟨k + 1, by omega, by go_num, _, _, _, rfl, (by rw [givsTo_in HI.out, ← QN.out]; exact HMk.out), HB.out⟩
          case measure => simp [intOf]; omega
        · have hnd := (HD.out.snoc_iff hlt).2 hin
          have hle := diff_le hnd
          rw [List.length_append] at hle
          simp only [List.length_cons, List.length_nil] at hle
          have ND := Lib.hid hnd
          have hpos := givs_pos (f := f) hnd (by rw [List.length_append]; simp; omega)
          have hlen := givs_le hn (f) (B ++ [(k : Int)])
          have hlen5 := Nat.pow_le_pow_right (show 0 < 6 by omega) (show f ≤ 5 by omega)
          obtain ⟨M, hM⟩ : ∃ M, M = (givs n f (B ++ [(k : Int)])).length := ⟨_, rfl⟩
          rw [← hM] at hpos hlen
          have hM6 : M ≤ 7776 := Nat.le_trans hlen hlen5
          have QM := Lib.hid hM
          have HI := Lib.hid hin
          have QA := Lib.hid (atL_out hin)
          clear hin hnd hM hlen hlen5
          go_wp2_with (first
            | (go_at_call 82; refine (l3At_any B.length c _ (nth B) k _ (by omega) HAr.out).mono ?_; rintro e w' ⟨rfl, rfl⟩; rw [QA.out])
            | (at_builtin; refine wpList_append_grows _ (by rfl) (.tmp 29) (.tmp 30) 33 (by rfl) 3 i0 (.int .i64 0) 1 8 Tryz.underlying33 hi hz0 hz1 hz2 (by rfl) (by decide) _ 0 0 [] (by rfl) (fun h => by cases h) (by rfl) (fun _ _ j u h => absurd h (by simp)) ⟨ba, oa, none⟩ B.length c (cellsL B.length (nth B)) (by rfl) ((cellsL_length _ _).trans (Nat.mul_one _).symm) (HAr.out.news (by repeat (first | exact Below.refl _ _ | refine Below.drew ?_ | refine below_alloc ?_ _))) (cellsL_one _ _) (by omega) (by unfold maxLen; omega) (by omega) ?_; intro v1 w3 hown1 hgrow1; simp only [Nat.zero_add, List.nil_append] at hown1; obtain ⟨g1, cap1, rfl⟩ := owns_form hown1 (by omega); have hl1 := hown1.lt g1 rfl; have HO1 := Lib.hid hown1; have B3 : Hid (Below wr.heap.size wr w3) := Lib.hid ((below_alloc (Below.refl _ _) _).grown hgrow1 (by simp) (fun k h => by cases h)); have hs3 := hgrow1.size; simp at hl1 hs3; clear hown1 hgrow1)
            | (at_builtin; refine wpList_append_lies _ (by rfl) (.tmp 31) (.tmp 33) 33 (by rfl) (wr.alloc (.cells #[] 3)).heap.size 3 i0 (.int .i64 0) 1 8 Tryz.underlying33 hi hz0 hz1 hz2 (by rfl) (by decide) (.slice (some ⟨g1, 0, none⟩) B.length cap1) B.length (cellsL B.length (nth B)) (by rfl) (HO1.out.alloc _) ⟨_, 0, none⟩ 1 1 [.int .i64 k] (by rfl) (by rfl) (news_one (by simp)) (by simp [Value.oneCell']) (by omega) (by unfold maxLen; omega) (by omega) (by simp; omega) _ rfl ?_; intro g2 cap2 w4 hown2 hgrow2 hat2 hlt2; have B4 : Hid (Below wr.heap.size wr w4) := Lib.hid ((below_alloc B3.out _).grown hgrow2 (by simp; omega) (fun x hx => by simp only [Value.ownBlock, Option.some.injEq] at hx; omega)); rw [cellsL_snoc] at hown2; have RD := Lib.hid (owns_rd hown2); clear hown2 hgrow2 hat2 HO1)
            | (go_at_call 50; refine (IH.out (B ++ [(k : Int)]) (B.length + 1) _ _ _ ND.out (by simp) (by omega) (by omega) (RD.out.congr fun j hj => (snoc_nth hj).symm)).mono ?_; rintro e w5 ⟨v', G', Cp', rfl, hM', hB'⟩; rw [← QM.out] at hM'; obtain ⟨g', cap', rfl⟩ := owns_form hM'.1 hpos; have M5 := Lib.hid hM'; have B5 := Lib.hid (B4.out.trans (hB'.mono B4.out.size)); have hs5 := hB'.size; have hs4 := B4.out.size; clear hM' hB')
            | (at_builtin; refine wpList_append_lies _ (by rfl) (.tmp 27) (.tmp 35) 23 (by rfl) w.heap.size 33 i1 (.slice none 0 0) 1 24 Tryz.underlying23 hj hy0 hy1 hy2 (by rfl) (by decide) v N ((List.range N).map fun r => .slice (some ⟨G r, 0, none⟩) (lenL (givsTo n f B k) r) (Cp r)) (by rfl) (HMk.out.below B5.out).1 ⟨g', 0, none⟩ M cap' ((List.range M).map fun r => .slice (some ⟨G' r, 0, none⟩) (lenL (givs n f (B ++ [(k : Int)])) r) (Cp' r)) (by rfl) (by simp) (fun j u hu => M5.out.1.cells (g := g') rfl j u hu) (fun u hu => by obtain ⟨r, _, rfl⟩ := List.mem_map.1 hu; rfl) hpos (by unfold maxLen; omega) (by omega) (by omega) _ rfl ?_; intro g6 cap6 w6 hown6 hgrow6 hat6 hlt6; have N6 := Lib.hid hown6; have G6 := Lib.hid hgrow6; have A6 := Lib.hid hat6; clear hown6 hgrow6 hat6))
          go_roundw
          case rel =>
            refine ⟨k + 1, by omega, by go_num, _, (fun r => if r < N then G r else G' (r - N)), (fun r => if r < N then Cp r else Cp' (r - N)), rfl, ?_, (HB.out.trans (B5.out.mono HB.out.size)).grown G6.out (by omega) (fun x hx => (HV.out x hx).1)⟩
            rw [givsTo_new HI.out, List.length_append, ← QN.out, ← QM.out]
            exact Making.join (HMk.out.below B5.out) M5.out (by omega) (fun r hr => by have := (HMk.out.2.1 r hr).2.1; omega) (fun x hx => by have := (HV.out x hx).2; omega) (fun r hr => lists_left (by rw [← QN.out]; exact hr)) (fun r hr => by rw [QN.out]; exact lists_right) N6.out G6.out A6.out (Nat.le_refl _)
          case measure => simp [intOf]; omega
      · obtain rfl : k = n := by omega
        have HMk := Lib.hid hM
        have HB := Lib.hid hB
        clear hM hB
        go_wp2
        go_ret
        exact ⟨v, G, Cp, rfl, (by rw [HE.out]; exact HMk.out), HB.out⟩

set_option maxHeartbeats 1600000 in
theorem l3GivingsAll_any (n : Nat) (hn2 : 2 ≤ n) (hn : n ≤ 5) (ba oa : Nat) (w : World) (ha : ba < w.heap.size) :
    Calls Tryz.prog 50 #[.int .i64 n, .slice (some ⟨ba, oa, none⟩) 0 0] w (RetLL 33 (givs n n []) w) := by
  obtain ⟨i0, hi, hz0, hz1, hz2⟩ := info_parts Tryz.infoInt
  obtain ⟨i1, hj, hy0, hy1, hy2⟩ := info_parts Tryz.infoInts
  have HE := Lib.hid (show givs n n [] = givsTo n (n - 1) [] n by obtain ⟨f, rfl⟩ : ∃ f, n = f + 1 := ⟨n - 1, by omega⟩; exact givs_succ _ _ _)
  have HLE := Lib.hid (fun k (hk : k ≤ n) => Nat.le_trans (givsTo_le hn (n - 1) k [] hk) (Nat.pow_le_pow_right (show 0 < 6 by omega) (show n - 1 + 1 ≤ 5 by omega)))
  have hz : ((0 : Int) == (n : Int)) = false := by simp; omega
  have MS := Lib.hid (Making.start 33 w.heap.size (w.alloc (.cells #[] 33)) (.slice (some ⟨w.heap.size, 0, none⟩) 0 0) (fun _ => 0) (fun _ => 0) (lenL []) (nthL []) (World.ownsRow_made w #[] 0 (Nat.le_refl _) (Nat.zero_le _) (by simp)))
  have BS := Lib.hid (below_alloc (Below.refl w.heap.size w) (.cells #[] 33))
  go_enter Tryz.func50, Tryz.ntmps50
  go_wp2
  go_loopw [5, 6] (fun out s wr => ∃ k : Nat, k ≤ n ∧ s = .int .i64 k ∧ ∃ v G Cp, v = out ∧ Making 33 w.heap.size wr v (givsTo n (n - 1) [] k).length G Cp (lenL (givsTo n (n - 1) [] k)) (nthL (givsTo n (n - 1) [] k)) ∧ Below w.heap.size w wr) (fun _ s _ => n - (intOf s).toNat)
  case atStart => exact ⟨0, Nat.zero_le _, rfl, _, _, _, rfl, MS.out, BS.out⟩
  case round =>
    obtain ⟨k, hk, rfl, v, G, Cp, rfl, hM, hB⟩ := hrel
    clear MS BS
    by_cases hlt : k < n
    · obtain ⟨N, hN⟩ : ∃ N, N = (givsTo n (n - 1) [] k).length := ⟨_, rfl⟩
      have hN6 : N ≤ 7776 := by rw [hN]; exact HLE.out k hk
      rw [← hN] at hM
      have QN := Lib.hid hN
      have HMk := Lib.hid hM
      have HB := Lib.hid hB
      have HV := Lib.hid (fun x hx => hM.1.lt x hx)
      have hsz := hB.size
      have hbr : ba < wr.heap.size := by omega
      clear hM hB hN
      have hnd := ((Diff.nil n).snoc_iff hlt).2 (List.not_mem_nil)
      have hle := diff_le hnd
      rw [List.length_append] at hle
      simp only [List.length_cons, List.length_nil] at hle
      have ND := Lib.hid hnd
      have hpos := givs_pos (f := (n - 1)) hnd (by rw [List.length_append]; simp; omega)
      have hlen := givs_le hn ((n - 1)) ([] ++ [(k : Int)])
      have hlen5 := Nat.pow_le_pow_right (show 0 < 6 by omega) (show (n - 1) ≤ 5 by omega)
      obtain ⟨M, hM⟩ : ∃ M, M = (givs n (n - 1) ([] ++ [(k : Int)])).length := ⟨_, rfl⟩
      rw [← hM] at hpos hlen
      have hM6 : M ≤ 7776 := Nat.le_trans hlen hlen5
      have QM := Lib.hid hM
      have O0 := Lib.hid (show (wr.alloc (.cells #[] 3)).ownsRow wr.heap.size 3 1 (.slice (some ⟨wr.heap.size, 0, none⟩) 0 0) 0 [] from World.ownsRow_made wr #[] 0 (Nat.le_refl _) (Nat.zero_le _) (by simp))
      clear hnd hM hlen hlen5
      go_wp2_with (first
        | (go_at_call 82; refine (l3At_any 0 0 _ (nth []) k _ (by omega) (fun j hj => absurd hj (Nat.not_lt_zero _))).mono ?_; rintro e w' ⟨rfl, rfl⟩; rw [show atL (nth []) (k : Int) 0 = 0 from atL_none fun j hj => absurd hj (Nat.not_lt_zero _)])
        | (at_builtin; refine wpList_append_lies _ (by rfl) (.tmp 31) (.tmp 33) 33 (by rfl) wr.heap.size 3 i0 (.int .i64 0) 1 8 Tryz.underlying33 hi hz0 hz1 hz2 (by rfl) (by decide) (.slice (some ⟨wr.heap.size, 0, none⟩) 0 0) 0 [] (by rfl) (O0.out.alloc _) ⟨_, 0, none⟩ 1 1 [.int .i64 k] (by rfl) (by rfl) (news_one (by simp)) (by simp [Value.oneCell']) (by omega) (by unfold maxLen; omega) (by omega) (by simp; omega) _ rfl ?_; intro g2 cap2 w4 hown2 hgrow2 hat2 hlt2; have B4 : Hid (Below wr.heap.size wr w4) := Lib.hid ((below_alloc (below_alloc (Below.refl _ _) _) _).grown hgrow2 (by simp; omega) (fun x hx => by simp only [Value.ownBlock, Option.some.injEq] at hx; omega)); have RD : Hid (Rd w4 (some ⟨g2, 0, none⟩) 1 (fun _ => (k : Int))) := Lib.hid (owns_rd (X := fun _ => (k : Int)) hown2); clear hown2 hgrow2 hat2)
        | (go_at_call 50; refine (l3Givings_any n hn2 hn (n - 1) ([] ++ [(k : Int)]) 1 _ _ _ ND.out (by simp) (by omega) (by omega) (RD.out.congr fun j hj => one_nth hj)).mono ?_; rintro e w5 ⟨v', G', Cp', rfl, hM', hB'⟩; rw [← QM.out] at hM'; obtain ⟨g', cap', rfl⟩ := owns_form hM'.1 hpos; have M5 := Lib.hid hM'; have B5 := Lib.hid (B4.out.trans (hB'.mono B4.out.size)); have hs5 := hB'.size; have hs4 := B4.out.size; clear hM' hB')
        | (at_builtin; refine wpList_append_lies _ (by rfl) (.tmp 27) (.tmp 35) 23 (by rfl) w.heap.size 33 i1 (.slice none 0 0) 1 24 Tryz.underlying23 hj hy0 hy1 hy2 (by rfl) (by decide) v N ((List.range N).map fun r => .slice (some ⟨G r, 0, none⟩) (lenL (givsTo n (n - 1) [] k) r) (Cp r)) (by rfl) (HMk.out.below B5.out).1 ⟨g', 0, none⟩ M cap' ((List.range M).map fun r => .slice (some ⟨G' r, 0, none⟩) (lenL (givs n (n - 1) ([] ++ [(k : Int)])) r) (Cp' r)) (by rfl) (by simp) (fun j u hu => M5.out.1.cells (g := g') rfl j u hu) (fun u hu => by obtain ⟨r, _, rfl⟩ := List.mem_map.1 hu; rfl) hpos (by unfold maxLen; omega) (by omega) (by omega) _ rfl ?_; intro g6 cap6 w6 hown6 hgrow6 hat6 hlt6; have N6 := Lib.hid hown6; have G6 := Lib.hid hgrow6; have A6 := Lib.hid hat6; clear hown6 hgrow6 hat6))
      go_roundw
      case rel =>
        refine ⟨k + 1, by omega, by go_num, _, (fun r => if r < N then G r else G' (r - N)), (fun r => if r < N then Cp r else Cp' (r - N)), rfl, ?_, (HB.out.trans (B5.out.mono HB.out.size)).grown G6.out (by omega) (fun x hx => (HV.out x hx).1)⟩
        rw [givsTo_new List.not_mem_nil, List.length_append, ← QN.out, ← QM.out]
        exact Making.join (HMk.out.below B5.out) M5.out (by omega) (fun r hr => by have := (HMk.out.2.1 r hr).2.1; omega) (fun x hx => by have := (HV.out x hx).2; omega) (fun r hr => lists_left (by rw [← QN.out]; exact hr)) (fun r hr => by rw [QN.out]; exact lists_right) N6.out G6.out A6.out (Nat.le_refl _)
      case measure => simp [intOf]; omega
    · obtain rfl : k = n := by omega
      have HMk := Lib.hid hM
      have HB := Lib.hid hB
      clear hM hB
      go_wp2
      go_ret
      exact ⟨v, G, Cp, rfl, (by rw [HE.out]; exact HMk.out), HB.out⟩
end Go.Proofs.YtabdbgnkiebcdaaGreatDoor

namespace Go.Proofs.YtabdbgnkiebcdaaGreatDoor
set_option linter.unusedVariables false
set_option linter.unusedSimpArgs false
open Go.RowKit

theorem bit_none (S x : Nat) (hS : S < 2 ^ 62) : (bits .and .i64 ((S : Int) / 2 ^ x) 1 == 0) = !S.testBit x := by
  have e : ((S : Int) / 2 ^ x) = ((S / 2 ^ x : Nat) : Int) := by simp
  have hle : S / 2 ^ x ≤ S := Nat.div_le_self _ _
  rw [e, show (1 : Int) = ((1 : Nat) : Int) from rfl, bits_and_i64 _ _ (by omega) (by omega)]
  rw [Nat.testBit, Nat.shiftRight_eq_div_pow, Nat.and_comm 1]
  have h2 : S / 2 ^ x &&& 1 = 0 ∨ S / 2 ^ x &&& 1 = 1 := by rw [Nat.and_one_is_mod]; omega
  rcases h2 with h | h <;> rw [h] <;> rfl

theorem own_front {n S N : Nat} {X : Nat → Int} (hd : IsDiff n n X) (hS : S < 2 ^ n) (h : Front n (fun i => (X i).toNat) S n N) : ((N : Int) == (S : Int)) = tt (OwnP n S X) := by
  have hy : ∀ y : Nat, N.testBit y = true ↔ ∃ i, i < n ∧ S.testBit i = true ∧ X i = y := fun y => by
    rw [h.2 y]
    constructor
    · rintro ⟨x, h1, h2, h3⟩; exact ⟨x, h1, h2, by have := (hd.1 x h1).1; have h3 : (X x).toNat = y := h3; omega⟩
    · rintro ⟨x, h1, h2, h3⟩; exact ⟨x, h1, h2, by show (X x).toNat = y; omega⟩
  by_cases e : N = S
  · subst e
    rw [tt_of (show OwnP n N X from hy)]
    simp
  · rw [tt_no (fun ho : OwnP n S X => e (Nat.eq_of_testBit_eq fun y => by rw [Bool.eq_iff_iff, hy y, ho y]))]
    simp; omega

set_option maxHeartbeats 1600000 in
theorem l3Own_any (n c S : Nat) (a : Option Addr) (X : Nat → Int) (w : World) (hn5 : n ≤ 5) (hd : IsDiff n n X) (hS : S < 2 ^ n) (ha : Rd w a n X) :
    Calls Tryz.prog 83 #[.int .i64 (S : Nat), .slice a n c] w fun e w' => e = .returned (.bool (tt (OwnP n S X))) ∧ w = w' := by
  have HA := Lib.hid ha
  have HD := Lib.hid hd
  have HE := Lib.hid (fun N (h : Front n (fun i => (X i).toNat) S n N) => own_front hd hS h)
  have HS := Lib.hid hS
  clear ha hd hS
  go_enter Tryz.func83, Tryz.ntmps83
  go_wp2
  go_loop [5, 6] (fun nx i => ∃ j N : Nat, j ≤ n ∧ i = .int .i64 j ∧ nx = .int .i64 (N : Nat) ∧ Front n (fun i => (X i).toNat) S j N) (fun _ i => n - (intOf i).toNat)
  case atStart => exact ⟨0, 0, Nat.zero_le _, rfl, rfl, Front.zero _ _ _⟩
  case round =>
    obtain ⟨j, N, hj, rfl, rfl, hF⟩ := hrel
    have HF := Lib.hid hF
    clear hF
    by_cases hjl : j < n
    · have hhas := bit_has S j (Nat.lt_trans HS.out (two_pow_lt (by omega)))
      by_cases hb : S.testBit j = true
      · obtain ⟨ba, oa, rfl, hca⟩ := HA.out j hjl
        have hr := HD.out.1 j hjl
        rw [hb] at hhas
        obtain ⟨p, hp⟩ : ∃ p, p = (X j).toNat := ⟨_, rfl⟩
        have hpn : p < n := by have h1 := hr.1; have h2 := hr.2; omega
        have hX : X j = (p : Nat) := by rw [hp]; have := hr.1; omega
        rw [hX] at hca
        have hput := bit_put N p (Nat.lt_trans HF.out.1 (two_pow_lt (by omega))) (by omega)
        obtain ⟨N', hN'⟩ : ∃ N', N' = N ||| 2 ^ p := ⟨_, rfl⟩
        rw [← hN'] at hput
        have HN := Lib.hid (show Front n (fun i => (X i).toNat) S (j + 1) N' by rw [hN', hp]; exact HF.out.yes (f := fun i => (X i).toNat) hb (by show (X j).toNat < n; rw [← hp]; exact hpn))
        have i1 : (0 : Int) ≤ (j : Int) := by omega
        have i2 : (j : Int) < (n : Int) := by omega
        clear hp hN' hb hr hX
        go_wp2
        go_round
        case rel => exact ⟨j + 1, N', by omega, by go_num, rfl, HN.out⟩
        case measure => simp [intOf]; omega
      · have hb' : S.testBit j = false := by simpa using hb
        rw [hb'] at hhas
        have HN := Lib.hid (HF.out.no hb')
        clear hb hb'
        go_wp2
        go_round
        case rel => exact ⟨j + 1, N, by omega, by go_num, rfl, HN.out⟩
        case measure => simp [intOf]; omega
    · obtain rfl : j = n := by omega
      have hE := HE.out N HF.out
      go_wp2
      go_ret
      exact ⟨by rw [← hE]; rfl, rfl⟩
end Go.Proofs.YtabdbgnkiebcdaaGreatDoor

namespace Go.Proofs.YtabdbgnkiebcdaaGreatDoor
set_option linter.unusedVariables false
set_option linter.unusedSimpArgs false
open Go.RowKit

/-- One of the first k of S likes X better. -/
def SomeB (Z : Nat → Nat → Int) (n S : Nat) (G X : Nat → Int) (k : Nat) : Prop := ∃ i, i < k ∧ S.testBit i = true ∧ idxF (Z i) (X i) n < idxF (Z i) (G i) n
def NoneW (Z : Nat → Nat → Int) (n S : Nat) (G X : Nat → Int) (k : Nat) : Prop := ∀ i, i < k → S.testBit i = true → idxF (Z i) (X i) n ≤ idxF (Z i) (G i) n
variable {Z : Nat → Nat → Int} {n S k : Nat} {G X : Nat → Int}
theorem noneW_zero : NoneW Z n S G X 0 := fun i hi => by omega
theorem noneW_succ (h : NoneW Z n S G X k) (hk : S.testBit k = true → idxF (Z k) (X k) n ≤ idxF (Z k) (G k) n) : NoneW Z n S G X (k + 1) := fun i hi hs => by
  by_cases e : i = k
  · subst e; exact hk hs
  · exact h i (by omega) hs
theorem someB_zero : tt (SomeB Z n S G X 0) = false := tt_no (fun ⟨i, hi, _⟩ => by omega)
theorem someB_out (h : S.testBit k = false) : tt (SomeB Z n S G X (k + 1)) = tt (SomeB Z n S G X k) := tt_congr ⟨fun ⟨i, h1, h2, h3⟩ => ⟨i, by
    by_cases e : i = k
    · subst e; rw [h] at h2; cases h2
    · omega, h2, h3⟩, fun ⟨i, h1, h2, h3⟩ => ⟨i, by omega, h2, h3⟩⟩
theorem someB_in {pb pa : Int} (h : S.testBit k = true) (hb : pb = idxF (Z k) (X k) n) (ha : pa = idxF (Z k) (G k) n) : tt (SomeB Z n S G X (k + 1)) = (tt (SomeB Z n S G X k) || decide (pb < pa)) := by
  by_cases h1 : SomeB Z n S G X k
  · rw [tt_of h1, tt_of (show SomeB Z n S G X (k + 1) from by obtain ⟨i, h2, h3, h4⟩ := h1; exact ⟨i, by omega, h3, h4⟩)]; rfl
  · by_cases h2 : pb < pa
    · rw [tt_no h1, tt_of (show SomeB Z n S G X (k + 1) from ⟨k, by omega, h, by rw [← hb, ← ha]; exact h2⟩), decide_eq_true h2]; rfl
    · rw [tt_no h1, decide_eq_false h2, tt_no (show ¬ SomeB Z n S G X (k + 1) from fun ⟨i, h3, h4, h5⟩ => by
        by_cases e : i = k
        · subst e; rw [← hb, ← ha] at h5; exact h2 h5
        · exact h1 ⟨i, by omega, h4, h5⟩)]; rfl

set_option maxHeartbeats 3200000 in
theorem l3Better_any (c : Nat) (a : Option Addr) (A : Nat → Option Addr) (L C : Nat → Nat) (d e : Nat) (b g : Option Addr) (w : World) (hg : GivenOk n L Z n G) (hd : IsDiff n n X) (hS : S < 2 ^ n) (ha0 : Tab w a n A L C Z) (hb : Rd w g n G) (hx : Rd w b n X) :
    Calls Tryz.prog 84 #[.slice a n c, .int .i64 (S : Nat), .slice g n d, .slice b n e] w fun e w' => e = .returned (.bool (tt (BetterP n Z S G X))) ∧ Below w.heap.size w w' := by
  have hn5 := hg.1.1.2
  have HG := Lib.hid hg
  have HA := Lib.hid ha0
  have HB := Lib.hid hb
  have HX := Lib.hid hx
  have HD := Lib.hid hd
  have HS := Lib.hid hS
  clear hg ha0 hb hx hd hS
  go_enter Tryz.func84, Tryz.ntmps84
  go_wp2
  go_loopw [9, 10, 11, 12] (fun sm s _ _ wr => ∃ k : Nat, k ≤ n ∧ s = .int .i64 k ∧ sm = .bool (tt (SomeB Z n S G X k)) ∧ Below w.heap.size w wr ∧ NoneW Z n S G X k) (fun _ s _ _ _ => n - (intOf s).toNat)
  case atStart => exact ⟨0, Nat.zero_le _, rfl, by rw [someB_zero], Below.refl _ _, noneW_zero⟩
  case round =>
    obtain ⟨k, hk, rfl, rfl, hBw, hno⟩ := hrel
    have BR := Lib.hid hBw
    have NO := Lib.hid hno
    clear hBw hno
    by_cases hlt : k < n
    · have hhas := bit_none S k (Nat.lt_trans HS.out (two_pow_lt (by omega)))
      by_cases hbk : S.testBit k = true
      · rw [hbk] at hhas
        have hhas : (bits .and .i64 ((S : Int) / 2 ^ k) 1 == 0) = false := hhas
        obtain ⟨bg, og, rfl, hgc⟩ := (HB.out.below (Nat.le_refl _) BR.out) k hlt
        obtain ⟨bx, ox, rfl, hxc⟩ := (HX.out.below (Nat.le_refl _) BR.out) k hlt
        obtain ⟨ba, oa, rfl, hca, hra⟩ := (HA.out.below (Nat.le_refl _) BR.out) k hlt
        rw [(HG.out.1.2 k hlt).1] at hca hra
        have h1 := wishes_has HG.out.1 hlt (HG.out.at hlt)
        have h2 := wishes_has HG.out.1 hlt (show InR (X k) 0 ((n : Int) - 1) from by have := HD.out.1 k hlt; exact ⟨this.1, by have := this.2; omega⟩)
        obtain ⟨x, hxx⟩ : ∃ x, x = G k := ⟨_, rfl⟩
        obtain ⟨y, hyy⟩ : ∃ y, y = X k := ⟨_, rfl⟩
        rw [← hxx] at hgc h1
        rw [← hyy] at hxc h2
        obtain ⟨pa, hpa⟩ : ∃ p, p = idxF (Z k) x n := ⟨_, rfl⟩
        obtain ⟨pb, hpb⟩ : ∃ p, p = idxF (Z k) y n := ⟨_, rfl⟩
        have RA := Lib.hid hra
        have KA := Lib.hid (show ∀ (z p : Int), HasI n (Z k) z → p = idxF (Z k) z n → ∀ (w2 : World), Below wr.heap.size wr w2 → ∀ r : Later w2, Calls Tryz.prog 82 #[.slice (A k) n (C k), .int .i64 z] r.W fun e w' => e = .returned (.int .i64 p) ∧ Below r.W.heap.size r.W w' from fun z p hz hp w2 h2 r => by
          refine (l3At_any n (C k) (A k) (Z k) z _ (by omega) (RA.out.below (Nat.le_refl _) (h2.trans ((Later.h r).mono h2.size)))).mono ?_
          rintro e w' ⟨rfl, rfl⟩
          exact ⟨by rw [hp, atL_has hz], Below.refl _ _⟩)
        have I1 := Lib.hid (KA.out x pa h1 hpa)
        have I2 := Lib.hid (KA.out y pb h2 hpb)
        have c1 : ∀ r : Later wr, r.W.cell? ⟨ba, oa + k, none⟩ = some (.slice (A k) n (C k)) := fun r => later_cell hca r
        have c2 : ∀ r : Later wr, r.W.cell? ⟨bg, og + k, none⟩ = some (.int .i64 x) := fun r => later_cell hgc r
        have c3 := Lib.hid (show ∀ w2, Below wr.heap.size wr w2 → ∀ r : Later w2, r.W.cell? ⟨ba, oa + k, none⟩ = some (.slice (A k) n (C k)) from fun w2 h2 r => later_cell hca ⟨r.W, h2.trans (r.h.mono h2.size)⟩)
        have c4 := Lib.hid (show ∀ w2, Below wr.heap.size wr w2 → ∀ r : Later w2, r.W.cell? ⟨bx, ox + k, none⟩ = some (.int .i64 y) from fun w2 h2 r => later_cell hxc ⟨r.W, h2.trans (r.h.mono h2.size)⟩)
        have i1 : (0 : Int) ≤ (k : Int) := by omega
        have i2 : (k : Int) < (n : Int) := by omega
        have SI := Lib.hid (someB_in (Z := Z) (G := G) (X := X) hbk (show pb = idxF (Z k) (X k) n by rw [hpb, hyy]) (show pa = idxF (Z k) (G k) n by rw [hpa, hxx]))
        have HW := Lib.hid (show NoneW Z n S G X n → pb ≤ pa from fun h => by rw [hpb, hpa, hyy, hxx]; exact h k hlt hbk)
        have HNX := Lib.hid (show pb ≤ pa → NoneW Z n S G X (k + 1) from fun h => noneW_succ NO.out fun _ => by rw [← hyy, ← hxx, ← hpb, ← hpa]; exact h)
        clear hbk hgc hxc hca hra h1 h2 hxx hyy hpa hpb KA
        by_cases hle : pb ≤ pa
        · have d1 : decide (pa < pb) = false := decide_eq_false (by omega)
          have NX := Lib.hid (HNX.out hle)
          clear HNX HW
          by_cases hs : SomeB Z n S G X k
          · have T1 : tt (SomeB Z n S G X k) = true := tt_of hs
            rw [T1]
            rw [T1] at SI
            have SJ := Lib.hid (show tt (SomeB Z n S G X (k + 1)) = true by rw [SI.out]; rfl)
            go_wp2
            refine wp_region_later (by kernel_rfl) (by kernel_rfl) ?_
            repeat go_big_quiet_step ((go_at_call 82; exact calls_later _ (I1.out _ (Below.refl _ _) _)))
            refine wpQuiet_nil ?_
            rintro _ ⟨r, rfl⟩
            have J2 := Lib.hid (I2.out _ r.h)
            have c5 := c3.out _ r.h
            have c6 := c4.out _ r.h
            clear I1 I2 c1 c2 c3 c4
            go_wp2
            refine wp_region_later (by kernel_rfl) (by kernel_rfl) ?_
            repeat go_big_quiet_step ((go_at_call 82; exact calls_later _ (J2.out _)))
            refine wpQuiet_nil ?_
            rintro _ ⟨r2, rfl⟩
            have B2 := Lib.hid (BR.out.trans ((r.h.trans (r2.h.mono r.h.size)).mono BR.out.size))
            go_wp2
            go_roundw
            case rel => exact ⟨k + 1, by omega, by go_num, by rw [SJ.out], B2.out, NX.out⟩
            case measure => simp [intOf]; omega
          · have T1 : tt (SomeB Z n S G X k) = false := tt_no hs
            rw [T1]
            rw [T1] at SI
            have SJ := Lib.hid (show tt (SomeB Z n S G X (k + 1)) = decide (pb < pa) by rw [SI.out]; rfl)
            go_wp2
            refine wp_region_later (by kernel_rfl) (by kernel_rfl) ?_
            repeat go_big_quiet_step ((go_at_call 82; exact calls_later _ (I1.out _ (Below.refl _ _) _)))
            refine wpQuiet_nil ?_
            rintro _ ⟨r, rfl⟩
            have J2 := Lib.hid (I2.out _ r.h)
            have c5 := c3.out _ r.h
            have c6 := c4.out _ r.h
            clear I1 I2 c1 c2 c3 c4
            go_wp2
            refine wp_region_later (by kernel_rfl) (by kernel_rfl) ?_
            repeat go_big_quiet_step ((go_at_call 82; exact calls_later _ (J2.out _)))
            refine wpQuiet_nil ?_
            rintro _ ⟨r2, rfl⟩
            have B2 := Lib.hid (BR.out.trans ((r.h.trans (r2.h.mono r.h.size)).mono BR.out.size))
            go_wp2
            go_roundw
            case rel => exact ⟨k + 1, by omega, by go_num, by rw [SJ.out], B2.out, NX.out⟩
            case measure => simp [intOf]; omega
        · have d1 : decide (pa < pb) = true := decide_eq_true (by omega)
          have HF := Lib.hid (tt_no (show ¬ BetterP n Z S G X from fun h => hle (HW.out h.1)))
          clear HNX HW
          go_wp2
          refine wp_region_later (by kernel_rfl) (by kernel_rfl) ?_
          repeat go_big_quiet_step ((go_at_call 82; exact calls_later _ (I1.out _ (Below.refl _ _) _)))
          refine wpQuiet_nil ?_
          rintro _ ⟨r, rfl⟩
          have J2 := Lib.hid (I2.out _ r.h)
          have c5 := c3.out _ r.h
          have c6 := c4.out _ r.h
          clear I1 I2 c1 c2 c3 c4
          go_wp2
          refine wp_region_later (by kernel_rfl) (by kernel_rfl) ?_
          repeat go_big_quiet_step ((go_at_call 82; exact calls_later _ (J2.out _)))
          refine wpQuiet_nil ?_
          rintro _ ⟨r2, rfl⟩
          have B2 := Lib.hid (BR.out.trans ((r.h.trans (r2.h.mono r.h.size)).mono BR.out.size))
          go_wp2
          go_ret
          exact ⟨by rw [HF.out]; rfl, B2.out⟩
      · have hb' : S.testBit k = false := by simpa using hbk
        rw [hb'] at hhas
        have hhas : (bits .and .i64 ((S : Int) / 2 ^ k) 1 == 0) = true := hhas
        have HSM := Lib.hid (someB_out (Z := Z) (n := n) (G := G) (X := X) hb')
        have NX := Lib.hid (noneW_succ NO.out (fun h => absurd h hbk))
        clear hbk hb'
        go_wp2
        go_roundw
        case rel => exact ⟨k + 1, by omega, by go_num, by rw [HSM.out], BR.out, NX.out⟩
        case measure => simp [intOf]; omega
    · obtain rfl : k = n := by omega
      have HE := Lib.hid (show tt (SomeB Z k S G X k) = tt (BetterP k Z S G X) from tt_congr ⟨fun h => ⟨NO.out, h⟩, fun h => h.2⟩)
      go_wp2
      go_ret
      exact ⟨by rw [HE.out]; rfl, BR.out⟩
end Go.Proofs.YtabdbgnkiebcdaaGreatDoor

namespace Go.Proofs.YtabdbgnkiebcdaaGreatDoor
set_option linter.unusedVariables false
open Go.RowKit

/-- The giving X is a proof against G. -/
def AgainstP (n : Nat) (Z : Nat → Nat → Int) (G X : Nat → Int) : Prop := ∃ S, 1 ≤ S ∧ S < 2 ^ n ∧ OwnP n S X ∧ BetterP n Z S G X

variable {n : Nat} {L : Nat → Nat} {Z : Nat → Nat → Int} {G : Nat → Int}

/-- A giving is firm just if no giving stands against it. -/
theorem firm_against (hg : GivenOk n L Z n G) : FirmP n Z G ↔ ∀ D, D ∈ givs n n [] → ¬ AgainstP n Z G (nth D) := by
  constructor
  · rintro h D hD ⟨S, h1, h2, h3, h4⟩
    exact h S h1 h2 ((blocks_iff hg h2).2 ⟨D, hD, h3, h4⟩)
  · intro h S h1 h2 hb
    obtain ⟨D, hD, h3, h4⟩ := (blocks_iff hg h2).1 hb
    exact h D hD ⟨S, h1, h2, h3, h4⟩

open Classical in
/-- The first giving that stands against it. -/
noncomputable def firstAg (n : Nat) (Z : Nat → Nat → Int) (G : Nat → Int) : List (List Int) → Option (List Int)
  | [] => none
  | D :: r => if AgainstP n Z G (nth D) then some D else firstAg n Z G r

theorem firstAg_none : ∀ LL : List (List Int), firstAg n Z G LL = none ↔ ∀ D, D ∈ LL → ¬ AgainstP n Z G (nth D) := by
  intro LL
  induction LL with
  | nil => simp [firstAg]
  | cons D r ih =>
    unfold firstAg
    by_cases h : AgainstP n Z G (nth D)
    · rw [if_pos h]
      simp [h]
    · rw [if_neg h, ih]
      simp [h]

theorem firstAg_some : ∀ (LL : List (List Int)) (D : List Int), firstAg n Z G LL = some D → D ∈ LL ∧ AgainstP n Z G (nth D) := by
  intro LL
  induction LL with
  | nil => intro D h; cases h
  | cons E r ih =>
    intro D h
    unfold firstAg at h
    by_cases hE : AgainstP n Z G (nth E)
    · rw [if_pos hE] at h
      injection h with h
      subst h
      exact ⟨List.mem_cons_self .., hE⟩
    · rw [if_neg hE] at h
      obtain ⟨h1, h2⟩ := ih D h
      exact ⟨List.mem_cons_of_mem _ h1, h2⟩

/-- Behind those that do not stand against it, the first one that does. -/
theorem firstAg_at : ∀ (A : List (List Int)) (D : List Int) (B : List (List Int)), (∀ E, E ∈ A → ¬ AgainstP n Z G (nth E)) → AgainstP n Z G (nth D) → firstAg n Z G (A ++ D :: B) = some D := by
  intro A
  induction A with
  | nil =>
    intro D B _ h
    rw [List.nil_append, firstAg, if_pos h]
  | cons E r ih =>
    intro D B hA h
    rw [List.cons_append, firstAg, if_neg (hA E (List.mem_cons_self ..))]
    exact ih D B (fun F hF => hA F (List.mem_cons_of_mem _ hF)) h
end Go.Proofs.YtabdbgnkiebcdaaGreatDoor

namespace Go.Proofs.YtabdbgnkiebcdaaGreatDoor
set_option linter.unusedVariables false
open Go.RowKit

def blockB : List UInt8 := [98, 108, 111, 99, 107]
theorem blockB_ok : ∀ c ∈ blockB, c ≠ 32 := by decide
/-- The giving shows that another one is not firm. -/
def BlockQ (n : Nat) (Z : Nat → Nat → Int) (G : Nat → Int) (D : List Int) : Prop := IsEach n D.length (nth D) ∧ AgainstP n Z G (nth D)
theorem each_few {n : Nat} {D : List Int} (hn1 : 1 ≤ n) (hn : n ≤ 5) (h : IsEach n D.length (nth D)) : D ≠ [] ∧ D.length ≤ 1000 ∧ FewAll D := by
  obtain ⟨h1, h2⟩ := h
  refine ⟨fun e => ?_, by omega, ?_⟩
  · rw [e] at h1; simp at h1; omega
  · intro x hx
    obtain ⟨k, hk, rfl⟩ := List.getElem_of_mem hx
    have h3 := h2.1 k (by omega)
    have e : nth D k = D[k] := by unfold nth; simp [List.getD_eq_getElem?_getD, List.getElem?_eq_getElem hk]
    rw [e] at h3
    exact ⟨h3.1, by have := h3.2; omega⟩
theorem block_few {n : Nat} {Z : Nat → Nat → Int} {G : Nat → Int} {D : List Int} (hn1 : 1 ≤ n) (hn : n ≤ 5) (h : BlockQ n Z G D) : D ≠ [] ∧ D.length ≤ 1000 ∧ FewAll D := each_few hn1 hn h.1
theorem givs_each {n : Nat} {D : List Int} (h : D ∈ givs n n []) : IsEach n D.length (nth D) :=
  ⟨((mem_givs n [] (Diff.nil n) (by simp) D).1 h).2.1, giv_diff h⟩
/-- The text is a proof against the giving. -/
def PrB (n : Nat) (L : Nat → Nat) (Z : Nat → Nat → Int) (m : Nat) (G : Nat → Int) (t : ByteArray) : Prop := GivenOk n L Z m G ∧ ProofP blockB (BlockQ n Z G) t
/-- There is a giving against it. -/
def HasB (n : Nat) (L : Nat → Nat) (Z : Nat → Nat → Int) (m : Nat) (G : Nat → Int) : Prop := GivenOk n L Z m G ∧ firstAg n Z G (givs n n []) ≠ none
/-- The text that is made. -/
noncomputable def prB (n : Nat) (L : Nat → Nat) (Z : Nat → Nat → Int) (m : Nat) (G : Nat → Int) : List UInt8 :=
  if tt (GivenOk n L Z m G) = true then (match firstAg n Z G (givs n n []) with | some D => wordsB blockB D | none => []) else []
theorem prB_no {n : Nat} {L : Nat → Nat} {Z : Nat → Nat → Int} {m : Nat} {G : Nat → Int} (h : ¬ HasB n L Z m G) : prB n L Z m G = [] := by
  unfold prB
  by_cases hg : GivenOk n L Z m G
  · rw [tt_of hg, if_pos rfl]
    cases hf : firstAg n Z G (givs n n []) with
    | none => rfl
    | some D => exact absurd ⟨hg, by rw [hf]; simp⟩ h
  · rw [tt_no hg]; rfl
theorem prB_yes {n : Nat} {L : Nat → Nat} {Z : Nat → Nat → Int} {m : Nat} {G : Nat → Int} {D : List Int} (h : GivenOk n L Z m G) (hf : firstAg n Z G (givs n n []) = some D) : prB n L Z m G = wordsB blockB D := by
  unfold prB
  rw [tt_of h, if_pos rfl, hf]
/-- A giving is not firm just if there is one against it. -/
theorem hasB_firm {n : Nat} {L : Nat → Nat} {Z : Nat → Nat → Int} {G : Nat → Int} (h : GivenOk n L Z n G) : HasB n L Z n G ↔ ¬ FirmP n Z G := by
  rw [firm_against h, ← firstAg_none]
  exact ⟨fun h' => h'.2, fun h' => ⟨h, h'⟩⟩
/-- .. and there is no text against a firm one. -/
theorem prB_firm {n : Nat} {L : Nat → Nat} {Z : Nat → Nat → Int} {G : Nat → Int} {t : ByteArray} (h : PrB n L Z n G t) : ¬ FirmP n Z G := by
  obtain ⟨hg, D, ⟨⟨h1, h2⟩, h3⟩, _⟩ := h
  intro hf
  refine (firm_against hg).1 hf D ?_ h3
  refine (mem_givs n [] (Diff.nil n) (by simp) D).2 ⟨?_, h1, List.nil_prefix⟩
  show IsDiff n D.length (nth D)
  rw [h1]; exact h2
/-- What is made is a proof. -/
theorem prB_made {n : Nat} {L : Nat → Nat} {Z : Nat → Nat → Int} {G : Nat → Int} (h : HasB n L Z n G) : PrB n L Z n G (strU (prB n L Z n G)) := by
  obtain ⟨hg, hn⟩ := h
  cases hf : firstAg n Z G (givs n n []) with
  | none => exact absurd hf hn
  | some D =>
    obtain ⟨h1, h2⟩ := firstAg_some _ _ hf
    exact ⟨hg, D, ⟨givs_each h1, h2⟩, by rw [prB_yes hg hf]⟩
end Go.Proofs.YtabdbgnkiebcdaaGreatDoor

namespace Go.Proofs.YtabdbgnkiebcdaaGreatDoor
set_option linter.unusedVariables false
set_option linter.unusedSimpArgs false
open Go.RowKit

set_option maxHeartbeats 1600000 in
theorem l11Against_any (n c : Nat) (a : Option Addr) (A : Nat → Option Addr) (L C : Nat → Nat) (Z : Nat → Nat → Int) (d e : Nat) (g b : Option Addr) (G X : Nat → Int) (w : World) (hg : GivenOk n L Z n G) (hd : IsDiff n n X) (ha : Tab w a n A L C Z) (hb : Rd w g n G) (hx : Rd w b n X) :
    Calls Tryz.prog 51 #[.slice a n c, .slice g n d, .slice b n e] w fun e w' => e = .returned (.bool (tt (AgainstP n Z G X))) ∧ Below w.heap.size w w' := by
  have hn5 := hg.1.1.2
  have h2 : (2 : Nat) ^ n ≤ 32 := Nat.pow_le_pow_right (show 0 < 2 by omega) hn5
  have h1 : 1 ≤ (2 : Nat) ^ n := Nat.pow_pos (by omega)
  have HO := Lib.hid (fun (S : Nat) (hS : S < 2 ^ n) w1 (h : Below w.heap.size w w1) => l3Own_any n e S b X w1 hn5 hd hS (hx.below (Nat.le_refl _) h))
  have HB := Lib.hid (fun (S : Nat) (hS : S < 2 ^ n) w1 (h : Below w.heap.size w w1) => l3Better_any (X := X) c a A L C d e b g w1 hg hd hS (ha.below (Nat.le_refl _) h) (hb.below (Nat.le_refl _) h) (hx.below (Nat.le_refl _) h))
  have hwp := wrap_pow (show n < 62 by omega)
  obtain ⟨E, hE⟩ : ∃ E, E = 2 ^ n := ⟨_, rfl⟩
  have QE := Lib.hid hE
  rw [← hE] at h1 h2 hwp
  clear hg ha hb hx hd hE
  go_enter Tryz.func51, Tryz.ntmps51
  go_wp2
  go_loopw [7] (fun s wr => ∃ k : Nat, 1 ≤ k ∧ k ≤ E ∧ s = .int .i64 k ∧ Below w.heap.size w wr ∧ ∀ S, 1 ≤ S → S < k → ¬ (OwnP n S X ∧ BetterP n Z S G X)) (fun s _ => E - (intOf s).toNat)
  case atStart => exact ⟨1, Nat.le_refl _, h1, rfl, Below.refl _ _, fun S h1 h2 => by omega⟩
  case round =>
    obtain ⟨k, hk1, hk2, rfl, hB, hno⟩ := hrel
    have BR := Lib.hid hB
    have NO := Lib.hid hno
    clear hB hno
    by_cases hlt : k < E
    · have HC := Lib.hid (HO.out k (by rw [← QE.out]; exact hlt) _ BR.out)
      have HD := Lib.hid (HB.out k (by rw [← QE.out]; exact hlt) _ BR.out)
      by_cases ho : OwnP n k X
      · have T1 := Lib.hid (tt_of ho)
        by_cases hbk : BetterP n Z k G X
        · have T2 := Lib.hid (tt_of hbk)
          have HF := Lib.hid (tt_of (show AgainstP n Z G X from ⟨k, hk1, by rw [← QE.out]; exact hlt, ho, hbk⟩))
          clear ho hbk
          go_wp2_with (first
            | (go_at_call 83; refine HC.out.mono ?_; rintro e w1 ⟨rfl, rfl⟩; rw [T1.out])
            | (go_at_call 84; refine HD.out.mono ?_; rintro e w1 ⟨rfl, hb1⟩; rw [T2.out]; have B1 := Lib.hid (BR.out.trans (hb1.mono BR.out.size)); clear hb1))
          go_ret
          exact ⟨by rw [HF.out]; rfl, B1.out⟩
        · have T2 := Lib.hid (tt_no hbk)
          have HN := Lib.hid (show ¬ (OwnP n k X ∧ BetterP n Z k G X) from fun h => hbk h.2)
          clear ho hbk
          go_wp2_with (first
            | (go_at_call 83; refine HC.out.mono ?_; rintro e w1 ⟨rfl, rfl⟩; rw [T1.out])
            | (go_at_call 84; refine HD.out.mono ?_; rintro e w1 ⟨rfl, hb1⟩; rw [T2.out]; have B1 := Lib.hid (BR.out.trans (hb1.mono BR.out.size)); clear hb1))
          go_roundw
          case rel => exact ⟨k + 1, by omega, by omega, by go_num, B1.out, fun S h1 h2 => by
            by_cases e : S = k
            · rw [e]; exact HN.out
            · exact NO.out S h1 (by omega)⟩
          case measure => simp [intOf]; omega
      · have T1 := Lib.hid (tt_no ho)
        have HN := Lib.hid (show ¬ (OwnP n k X ∧ BetterP n Z k G X) from fun h => ho h.1)
        clear ho
        go_wp2_with (go_at_call 83; refine HC.out.mono ?_; rintro e w1 ⟨rfl, rfl⟩; rw [T1.out])
        go_roundw
        case rel => exact ⟨k + 1, by omega, by omega, by go_num, BR.out, fun S h1 h2 => by
          by_cases e : S = k
          · rw [e]; exact HN.out
          · exact NO.out S h1 (by omega)⟩
        case measure => simp [intOf]; omega
    · obtain rfl : k = E := by omega
      have HF := Lib.hid (tt_no (show ¬ AgainstP n Z G X from fun ⟨S, h1, h2, h3⟩ => NO.out S h1 (by rw [QE.out]; exact h2) h3))
      go_wp2
      go_ret
      exact ⟨by rw [HF.out]; rfl, BR.out⟩
end Go.Proofs.YtabdbgnkiebcdaaGreatDoor

namespace Go.Proofs.YtabdbgnkiebcdaaGreatDoor
set_option linter.unusedVariables false
open Go.RowKit

/-- Is it a giving for so many? -/
def GivingOk (x : Int) (m : Nat) (X : Nat → Int) : Prop := People x ∧ ((m : Int) = x ∧ IsDiff m m X)
end Go.Proofs.YtabdbgnkiebcdaaGreatDoor

namespace Go.Proofs.YtabdbgnkiebcdaaGreatDoor
set_option linter.unusedVariables false
set_option linter.unusedSimpArgs false
open Go.RowKit

theorem specGiving_any (x : Int) (m d : Nat) (b : Option Addr) (X : Nat → Int) (w : World) (hx0 : I64 x) (hm1 : m ≤ 1048576) (hb1 : Rd w b m X) :
    Calls Tryz.prog 54 #[.int .i64 x, .slice b m d] w fun e w' => e = .returned (.bool (tt (GivingOk x m X))) ∧ w = w' := by
  by_cases hp : InR x 2 5
  · have T1 := Lib.hid (tt_of hp)
    by_cases hm : (m : Int) = x
    · have hd : ((m : Int) == x) = true := by simpa using hm
      have hm61 : m ≤ 61 := by have := hp.2; omega
      have HE := Lib.hid (tt_congr (show IsDiff m m X ↔ GivingOk x m X from ⟨fun h => ⟨hp, hm, h⟩, fun h => h.2.2⟩))
      have H := Lib.hid (l1Every_any m d b X w hm61 hb1)
      clear hp hb1 hm
      go_enter Tryz.func54, Tryz.ntmps54
      go_wp2_with (first
        | (go_at_call 68; refine (l6In_any _ _ _ _).mono ?_; rintro e w' ⟨rfl, rfl⟩; rw [T1.out])
        | (go_at_call 88; refine H.out.mono ?_; rintro e w' ⟨rfl, rfl⟩; rw [HE.out]))
      go_ret
      exact ⟨rfl, rfl⟩
    · have hd : ((m : Int) == x) = false := by simpa using hm
      have T2 := Lib.hid (tt_no (show ¬ GivingOk x m X from fun h => hm h.2.1))
      clear hp hb1 hm
      go_enter Tryz.func54, Tryz.ntmps54
      go_wp2_with (go_at_call 68; refine (l6In_any _ _ _ _).mono ?_; rintro e w' ⟨rfl, rfl⟩; rw [T1.out])
      go_ret
      exact ⟨by rw [T2.out]; rfl, rfl⟩
  · have T1 := Lib.hid (tt_no hp)
    have T2 := Lib.hid (tt_no (show ¬ GivingOk x m X from fun h => hp h.1))
    clear hp hb1
    go_enter Tryz.func54, Tryz.ntmps54
    go_wp2_with (go_at_call 68; refine (l6In_any _ _ _ _).mono ?_; rintro e w' ⟨rfl, rfl⟩; rw [T1.out])
    go_ret
    exact ⟨by rw [T2.out]; rfl, rfl⟩
theorem specHouseGiving_any (x : Int) (m d : Nat) (b : Option Addr) (X : Nat → Int) (w : World) (hx0 : I64 x) (hm1 : m ≤ 1048576) (hb1 : Rd w b m X) :
    Calls Tryz.prog 54 #[.int .i64 x, .slice b m d] w fun e w' => e = .returned (.bool (tt (GivingOk x m X))) ∧ Below w.heap.size w w' := by
  refine (specGiving_any x m d b X w hx0 hm1 hb1).mono ?_
  rintro e w' ⟨rfl, rfl⟩
  exact ⟨rfl, Below.refl _ _⟩
end Go.Proofs.YtabdbgnkiebcdaaGreatDoor

namespace Go.Proofs.YtabdbgnkiebcdaaGreatDoor
set_option linter.unusedVariables false
set_option linter.unusedSimpArgs false
open Go.RowKit

theorem l3Both_any (n c : Nat) (a : Option Addr) (A : Nat → Option Addr) (L C : Nat → Nat) (Z : Nat → Nat → Int) (m d : Nat) (b : Option Addr) (G : Nat → Int) (w : World) (hn0 : n ≤ 1048576) (hL0 : ∀ r, r < n → L r ≤ 1048576) (ha0 : Tab w a n A L C Z) (hm : m ≤ 1048576) (hb : Rd w b m G) :
    Calls Tryz.prog 49 #[.slice a n c, .slice b m d] w fun e w' => e = .returned (.bool (tt (GivenOk n L Z m G))) ∧ w = w' := by
  have H := Lib.hid (specHouseIn_any n c a A L C Z w hn0 hL0 ha0)
  by_cases h1 : IsWishes n L Z
  · have T1 := Lib.hid (tt_of h1)
    have HG := Lib.hid (specGiving_any (n : Int) m d b G w ⟨by omega, by omega⟩ hm hb)
    have hiff : GivingOk (n : Int) m G ↔ GivenOk n L Z m G := by
      constructor
      · intro h
        have e : m = n := by have := h.2.1; omega
        exact ⟨h1, e, by have := h.2.2; rwa [e] at this⟩
      · intro h
        exact ⟨⟨by have := h1.1.1; omega, by have := h1.1.2; omega⟩, by rw [h.2.1], by rw [h.2.1]; exact h.2.2⟩
    have HE := Lib.hid (tt_congr hiff)
    clear hiff
    clear h1 ha0 hL0 hb
    go_enter Tryz.func49, Tryz.ntmps49
    go_wp2_with (first
      | (go_at_call 81; refine H.out.mono ?_; rintro e w' ⟨rfl, rfl⟩; rw [T1.out])
      | (go_at_call 54; refine HG.out.mono ?_; rintro e w' ⟨rfl, rfl⟩; rw [HE.out]))
    go_ret
    exact ⟨rfl, rfl⟩
  · have T1 := Lib.hid (tt_no h1)
    have HE := Lib.hid (tt_no (show ¬ GivenOk n L Z m G from fun h => h1 h.1))
    clear h1 ha0 hL0 hb
    go_enter Tryz.func49, Tryz.ntmps49
    go_wp2_with (go_at_call 81; refine H.out.mono ?_; rintro e w' ⟨rfl, rfl⟩; rw [T1.out])
    go_ret
    exact ⟨by rw [HE.out]; rfl, rfl⟩
end Go.Proofs.YtabdbgnkiebcdaaGreatDoor

namespace Go.Proofs.YtabdbgnkiebcdaaGreatDoor
set_option linter.unusedVariables false
set_option linter.unusedSimpArgs false
open Go.RowKit

theorem firstAg_nth {n : Nat} {Z : Nat → Nat → Int} {G : Nat → Int} {LL : List (List Int)} {x : Nat} (hx : x < LL.length) (h0 : ∀ j, j < x → ¬ AgainstP n Z G (nth (LL.getD j []))) (h1 : AgainstP n Z G (nth (LL.getD x []))) : firstAg n Z G LL = some (LL.getD x []) := by
  have e : LL.getD x [] = LL[x] := by rw [List.getD_eq_getElem?_getD, List.getElem?_eq_getElem hx]; rfl
  rw [e] at h1 ⊢
  have h2 : LL = LL.take x ++ LL[x] :: LL.drop (x + 1) := by rw [← List.drop_eq_getElem_cons hx, List.take_append_drop]
  conv => lhs; rw [h2]
  refine firstAg_at _ _ _ (fun E hE => ?_) h1
  obtain ⟨j, hj, rfl⟩ := List.getElem_of_mem hE
  have hjx : j < x := by rw [List.length_take] at hj; omega
  have h3 := h0 j hjx
  rw [List.getD_eq_getElem?_getD, List.getElem?_eq_getElem (by omega)] at h3
  rw [List.getElem_take]
  exact h3
theorem firstAg_all {n : Nat} {Z : Nat → Nat → Int} {G : Nat → Int} {LL : List (List Int)} (h0 : ∀ j, j < LL.length → ¬ AgainstP n Z G (nth (LL.getD j []))) : firstAg n Z G LL = none := by
  refine (firstAg_none LL).2 fun D hD => ?_
  obtain ⟨j, hj, rfl⟩ := List.getElem_of_mem hD
  have h3 := h0 j hj
  rw [List.getD_eq_getElem?_getD, List.getElem?_eq_getElem hj] at h3
  exact h3

set_option maxRecDepth 100000 in
set_option maxHeartbeats 3200000 in
theorem specProofBlock_any (n c : Nat) (a : Option Addr) (A : Nat → Option Addr) (L C : Nat → Nat) (Z : Nat → Nat → Int) (m d : Nat) (b : Option Addr) (G : Nat → Int) (w : World) (hn0 : n ≤ 1048576) (hL0 : ∀ r, r < n → L r ≤ 1048576) (ha0 : Tab w a n A L C Z) (hm1 : m ≤ 1048576) (hb1 : Rd w b m G) :
    Calls Tryz.prog 16 #[.slice a n c, .slice b m d] w fun e w' => e = .returned (.tuple #[.string (strU (prB n L Z m G)), .bool (tt (HasB n L Z m G))]) ∧ Below w.heap.size w w' := by
  have H := Lib.hid (l3Both_any n c a A L C Z m d b G w hn0 hL0 ha0 hm1 hb1)
  by_cases hg : GivenOk n L Z m G
  · have T1 := Lib.hid (tt_of hg)
    obtain rfl : m = n := hg.2.1
    have hn2 := hg.1.1.1
    have hn5 := hg.1.1.2
    obtain ⟨LL, hLL⟩ : ∃ LL, LL = givs m m [] := ⟨_, rfl⟩
    have QL := Lib.hid hLL
    have hM := Nat.le_trans (givs_le (n := m) hn5 m []) (Nat.pow_le_pow_right (show 0 < 6 by omega) hn5)
    rw [← hLL] at hM
    obtain ⟨M, hM2⟩ : ∃ M, M = LL.length := ⟨_, rfl⟩
    rw [← hM2] at hM
    have QM := Lib.hid hM2
    have AT := Lib.hid (show ∀ x, x < M → IsEach m (lenL LL x) (nth (LL.getD x [])) ∧ lenL LL x = (LL.getD x []).length from fun x hx => by
      rw [hM2] at hx
      have hm : LL.getD x [] ∈ LL := by
        rw [List.getD_eq_getElem?_getD, List.getElem?_eq_getElem hx]
        exact List.getElem_mem hx
      rw [hLL] at hm ⊢
      exact ⟨givs_each hm, rfl⟩)
    have HG := Lib.hid hg
    have HA := Lib.hid ha0
    have HB := Lib.hid hb1
    clear hg ha0 hb1 hL0 hLL hM2
    go_enter Tryz.func16, Tryz.ntmps16
    go_wp2_with (first
      | (go_at_call 49; refine H.out.mono ?_; rintro e w' ⟨rfl, rfl⟩; rw [T1.out])
      | (go_at_call 50; refine (l3GivingsAll_any m hn2 hn5 _ 0 _ (by simp)).mono ?_; rintro e w1 ⟨v, G', Cp, rfl, hMk, hb⟩; rw [← QL.out, ← QM.out] at hMk; obtain ⟨a1, c1, rfl, hO⟩ := hMk.slice; have HO := Lib.hid hO.tab; have HB0 := Lib.hid ((below_alloc (Below.refl w.heap.size w) _).trans (hb.mono (by simp))); clear hb hO hMk))
    go_loopw [7] (fun i wr => ∃ x : Nat, x ≤ M ∧ i = .int .i64 x ∧ Below w1.heap.size w1 wr ∧ ∀ j, j < x → ¬ AgainstP m Z G (nth (LL.getD j []))) (fun i _ => M - (intOf i).toNat)
    case atStart => exact ⟨0, Nat.zero_le _, rfl, Below.refl _ _, fun j hj => by omega⟩
    case round =>
      obtain ⟨x, hx, rfl, hB, hno⟩ := hrel
      have BR := Lib.hid hB
      have NO := Lib.hid hno
      clear hB hno
      by_cases hlt : x < M
      · obtain ⟨hea, hlen⟩ := AT.out x hlt
        obtain ⟨bt, ot, rfl, hct, hrow⟩ := (HO.out.below (Nat.le_refl _) BR.out) x hlt
        have hrow2 : Rd wr _ (lenL LL x) (nth (LL.getD x [])) := hrow
        have hBW := HB0.out.trans (BR.out.mono HB0.out.size)
        have BW := Lib.hid hBW
        have hlm := hea.1
        have hdd := hea.2
        have hfew := each_few (by omega) hn5 (hlen ▸ hea)
        have HC := Lib.hid (fun e => l11Against_any m c a A L C Z d e b _ G (nth (LL.getD x [])) wr HG.out hdd (HA.out.below (Nat.le_refl _) hBW) (HB.out.below (Nat.le_refl _) hBW) (hlm ▸ hrow2))
        have i1 : (0 : Int) ≤ (x : Int) := by omega
        have i2 : (x : Int) < (M : Int) := by omega
        by_cases hag : AgainstP m Z G (nth (LL.getD x []))
        · have T2 := Lib.hid (tt_of hag)
          have hf : firstAg m Z G (givs m m []) = some (LL.getD x []) := by rw [← QL.out]; exact firstAg_nth (by rw [← QM.out]; exact hlt) NO.out hag
          have E0 := Lib.hid (prB_yes HG.out hf)
          have E1 := Lib.hid (tt_of (show HasB m L Z m G from ⟨HG.out, by rw [hf]; simp⟩))
          have HW := Lib.hid (fun (e : Nat) (w2 : World) (h : Below wr.heap.size wr w2) => l11Words_any blockB (LL.getD x []).length e _ (nth (LL.getD x [])) w2 (by decide) hfew.2.1 (nth_few hfew.2.2) ((hlen ▸ hrow2).below (Nat.le_refl _) h))
          have HL := Lib.hid hlen
          rw [hlm] at hct
          rw [← hlen, hlm] at HW
          have EN := Lib.hid (show numsL m (nth (LL.getD x [])) = LL.getD x [] from by rw [← hlm, hlen]; exact numsL_nthR _)
          rw [EN.out, ← E0.out] at HW
          clear hag hf hea hlen hrow hrow2 hBW hdd hfew hlm
          go_wp2_with (first
            | (go_at_call 51; refine (HC.out _).mono ?_; rw [T2.out]; rintro e w2 ⟨rfl, hb2⟩; have B2 := Lib.hid hb2; have BT := Lib.hid (BW.out.trans (hb2.mono BW.out.size)); have hct2 := (hb2.cell (World.block_lt_of_cell? _ _ hct)).trans hct; clear hb2)
            | (go_at_call 32; refine (HW.out _ _ B2.out).mono ?_; rintro e w3 ⟨rfl, hb3⟩; have B3 := Lib.hid (BT.out.trans (hb3.mono BT.out.size)); clear hb3))
          go_ret2
          exact ⟨by rw [E1.out]; rfl, B3.out⟩
        · have T2 := Lib.hid (tt_no hag)
          have HN := Lib.hid hag
          rw [hlm] at hct
          clear hag hea hlen hrow hrow2 hBW hdd hfew hlm
          go_wp2_with (go_at_call 51; refine (HC.out _).mono ?_; rw [T2.out]; rintro e w2 ⟨rfl, hb2⟩; have B2 := Lib.hid (BR.out.trans (hb2.mono BR.out.size)); clear hb2 hct)
          go_roundw
          case rel => exact ⟨x + 1, by omega, by go_num, B2.out, fun j hj => by
            by_cases e : j = x
            · rw [e]; exact HN.out
            · exact NO.out j (by omega)⟩
          case measure => simp [intOf]; omega
      · obtain rfl : x = M := by omega
        have hno : ¬ HasB m L Z m G := fun h => h.2 (by rw [← QL.out]; exact firstAg_all (fun j hj => NO.out j (by rw [QM.out]; exact hj)))
        have E0 := Lib.hid (prB_no hno)
        have E1 := Lib.hid (tt_no hno)
        clear hno
        go_wp2
        go_ret2
        exact ⟨by rw [E0.out, E1.out]; rfl, HB0.out.trans (BR.out.mono HB0.out.size)⟩
  · have T1 := Lib.hid (tt_no hg)
    have E0 := Lib.hid (prB_no (show ¬ HasB n L Z m G from fun h => hg h.1))
    have E1 := Lib.hid (tt_no (show ¬ HasB n L Z m G from fun h => hg h.1))
    clear hg ha0 hL0 hb1
    go_enter Tryz.func16, Tryz.ntmps16
    go_wp2_with (go_at_call 49; refine H.out.mono ?_; rintro e w' ⟨rfl, rfl⟩; rw [T1.out])
    go_ret2
    exact ⟨by rw [E0.out, E1.out]; rfl, Below.refl _ _⟩
end Go.Proofs.YtabdbgnkiebcdaaGreatDoor

namespace Go.Proofs.YtabdbgnkiebcdaaGreatDoor
set_option linter.unusedVariables false
set_option linter.unusedSimpArgs false
open Go.RowKit

theorem readGiven_any (n c : Nat) (a : Option Addr) (A : Nat → Option Addr) (L C : Nat → Nat) (Z : Nat → Nat → Int) (m d : Nat) (b : Option Addr) (G : Nat → Int) (w : World) (hn0 : n ≤ 1048576) (hL0 : ∀ r, r < n → L r ≤ 1048576) (ha0 : Tab w a n A L C Z) (hm : m ≤ 1048576) (hb : Rd w b m G) :
    Calls Tryz.prog 52 #[.slice a n c, .slice b m d] w (RetWishes (tt (GivenOk n L Z m G)) a n c w) := by
  have H := Lib.hid (readWishes_any n c a A L C Z w hn0 hL0 ha0)
  by_cases h1 : IsWishes n L Z
  · have T1 := Lib.hid (tt_of h1)
    have HE := Lib.hid (hasEach_any n m d b G w h1.1.2 hm hb)
    by_cases h2 : IsEach n m G
    · have T2 := Lib.hid (tt_of h2)
      have T3 := Lib.hid (tt_of (show GivenOk n L Z m G from ⟨h1, h2⟩))
      clear h1 h2 ha0 hL0 hb
      go_enter Tryz.func52, Tryz.ntmps52
      go_wp2_with (first
        | (go_at_call 55; refine H.out.mono ?_; rintro e w' ⟨rfl, rfl⟩; rw [T1.out])
        | (go_at_call 85; refine HE.out.mono ?_; rintro e w' ⟨rfl, rfl⟩; rw [T2.out]))
      go_ret2
      exact ⟨by rw [T3.out]; rfl, rfl⟩
    · have T2 := Lib.hid (tt_no h2)
      have T3 := Lib.hid (tt_no (show ¬ GivenOk n L Z m G from fun h => h2 h.2))
      clear h1 h2 ha0 hL0 hb
      go_enter Tryz.func52, Tryz.ntmps52
      go_wp2_with (first
        | (go_at_call 55; refine H.out.mono ?_; rintro e w' ⟨rfl, rfl⟩; rw [T1.out])
        | (go_at_call 85; refine HE.out.mono ?_; rintro e w' ⟨rfl, rfl⟩; rw [T2.out]))
      go_ret2
      exact ⟨by rw [T3.out]; rfl, rfl⟩
  · have T1 := Lib.hid (tt_no h1)
    have T3 := Lib.hid (tt_no (show ¬ GivenOk n L Z m G from fun h => h1 h.1))
    clear h1 ha0 hL0 hb
    go_enter Tryz.func52, Tryz.ntmps52
    go_wp2_with (first
      | (go_at_call 55; refine H.out.mono ?_; rintro e w' ⟨rfl, rfl⟩; rw [T1.out]))
    go_ret2
    exact ⟨by rw [T3.out]; rfl, rfl⟩

end Go.Proofs.YtabdbgnkiebcdaaGreatDoor

namespace Go.Proofs.YtabdbgnkiebcdaaGreatDoor
set_option linter.unusedVariables false
set_option linter.unusedSimpArgs false
open Go.RowKit

set_option maxHeartbeats 800000 in
theorem likes_any (n c p : Nat) (a : Option Addr) (A : Nat → Option Addr) (L C : Nat → Nat) (Z : Nat → Nat → Int) (x y : Int) (w : World) (hW : IsWishes n L Z) (hp : p < n) (ha : Tab w a n A L C Z) :
    Calls Tryz.prog 139 #[.slice a n c, .int .i64 p, .int .i64 x, .int .i64 y] w fun e w' => e = .returned (.bool (decide (idxF (Z p) x n < idxF (Z p) y n))) ∧ Below w.heap.size w w' := by
  obtain ⟨ba, oa, rfl, hca, hra⟩ := ha p hp
  have hn5 := hW.1.2
  have hl := (hW.2 p hp).1
  rw [hl] at hca hra
  have HR := Lib.hid hra
  obtain ⟨ix, hix⟩ : ∃ ix, ix = idxF (Z p) x n := ⟨_, rfl⟩
  obtain ⟨iy, hiy⟩ : ∃ iy, iy = idxF (Z p) y n := ⟨_, rfl⟩
  have QX := Lib.hid hix
  have QY := Lib.hid hiy
  have hcr : ∀ r : Later w, r.W.cell? ⟨ba, oa + p, none⟩ = some (.slice (A p) n (C p)) := fun r => later_cell hca r
  rw [← hix, ← hiy]
  have IX := Lib.hid (show ∀ r : Later w, Calls Tryz.prog 155 #[.slice (A p) n (C p), .int .i64 x] r.W fun e w' => e = .returned (.int .i64 ix) ∧ Below r.W.heap.size r.W w' from fun r => by
    refine (index_any n (C p) (A p) (Z p) x _ (by omega) (HR.out.below (Nat.le_refl _) (Later.h _))).mono ?_
    rintro e w' ⟨rfl, rfl⟩
    exact ⟨by rw [QX.out], Below.refl _ _⟩)
  have IY := Lib.hid (show ∀ r : Later w, Calls Tryz.prog 155 #[.slice (A p) n (C p), .int .i64 y] r.W fun e w' => e = .returned (.int .i64 iy) ∧ Below r.W.heap.size r.W w' from fun r => by
    refine (index_any n (C p) (A p) (Z p) y _ (by omega) (HR.out.below (Nat.le_refl _) (Later.h _))).mono ?_
    rintro e w' ⟨rfl, rfl⟩
    exact ⟨by rw [QY.out], Below.refl _ _⟩)
  clear hW hca hra ha hl hix hiy
  go_enter Tryz.func139, Tryz.ntmps139
  go_wp2
  refine wp_region_later (by kernel_rfl) (by kernel_rfl) ?_
  iterate 6 go_big_quiet_step ((go_at_call 155; exact calls_later _ (IX.out _)))
  clear IX
  repeat go_big_quiet_step ((go_at_call 155; exact calls_later _ (IY.out _)))
  refine wpQuiet_nil ?_
  rintro _ ⟨r, rfl⟩
  go_wp2
  go_ret
  exact ⟨rfl, r.h⟩
end Go.Proofs.YtabdbgnkiebcdaaGreatDoor

namespace Go.Proofs.YtabdbgnkiebcdaaGreatDoor
set_option linter.unusedVariables false
set_option linter.unusedSimpArgs false
open Go.RowKit

theorem everybody_any (n c : Nat) (a : Option Addr) (w : World) (hn : n ≤ 5) :
    Calls Tryz.prog 86 #[.slice a n c] w fun e w' => e = .returned (.int .i64 (((2 ^ n : Nat) : Int) - 1)) ∧ w = w' := by
  have hw := wrap_pow (show n < 62 by omega)
  have h2 : (2 : Nat) ^ n ≤ 32 := Nat.pow_le_pow_right (show 0 < 2 by omega) hn
  have h1 : 1 ≤ (2 : Nat) ^ n := Nat.pow_pos (by omega)
  have e : ((2 ^ n : Nat) : Int) = (2 : Int) ^ n := by simp
  have hw1 := Lib.hid (show Ending.returned (Value.int .i64 (wrap64 (2 ^ n - 1))) = .returned (.int .i64 (((2 ^ n : Nat) : Int) - 1)) by
    rw [← e, IntWalk.wrap64_in _ ⟨by omega, by omega⟩])
  clear e
  go_enter Tryz.func86, Tryz.ntmps86
  go_wp2
  go_ret
  exact ⟨hw1.out, rfl⟩
end Go.Proofs.YtabdbgnkiebcdaaGreatDoor

namespace Go.Proofs.YtabdbgnkiebcdaaGreatDoor
set_option linter.unusedVariables false
set_option linter.unusedSimpArgs false
open Go.RowKit

set_option maxHeartbeats 1600000 in
theorem givesOwn_any (n c S : Nat) (a : Option Addr) (X : Nat → Int) (w : World) (hn5 : n ≤ 5) (hd : IsDiff n n X) (hS : S < 2 ^ n) (ha : Rd w a n X) :
    Calls Tryz.prog 118 #[.slice a n c, .int .i64 (S : Nat)] w fun e w' => e = .returned (.bool (tt (OwnP n S X))) ∧ w = w' := by
  have HA := Lib.hid ha
  have HD := Lib.hid hd
  have HE := Lib.hid (fun N (h : Front n (fun i => (X i).toNat) S n N) => own_front hd hS h)
  have HS := Lib.hid hS
  clear ha hd hS
  go_enter Tryz.func118, Tryz.ntmps118
  go_wp2
  go_loop [5, 6, 7, 10] (fun nx _ _ i => ∃ j N : Nat, j ≤ n ∧ i = .int .i64 j ∧ nx = .int .i64 (N : Nat) ∧ Front n (fun i => (X i).toNat) S j N) (fun _ _ _ i => n - (intOf i).toNat)
  case atStart => exact ⟨0, 0, Nat.zero_le _, rfl, rfl, Front.zero _ _ _⟩
  case round =>
    obtain ⟨j, N, hj, rfl, rfl, hF⟩ := hrel
    have HF := Lib.hid hF
    clear hF
    by_cases hjl : j < n
    · have hhas := bit_has S j (Nat.lt_trans HS.out (two_pow_lt (by omega)))
      have hr := HD.out.1 j hjl
      obtain ⟨ba, oa, rfl, hca⟩ := HA.out j hjl
      obtain ⟨p, hp⟩ : ∃ p, p = (X j).toNat := ⟨_, rfl⟩
      have hpn : p < n := by have h1 := hr.1; have h2 := hr.2; omega
      have hX : X j = (p : Nat) := by rw [hp]; have := hr.1; omega
      rw [hX] at hca
      have i1 : (0 : Int) ≤ (j : Int) := by omega
      have i2 : (j : Int) < (n : Int) := by omega
      by_cases hb : S.testBit j = true
      · rw [hb] at hhas
        have hput := bit_put N p (Nat.lt_trans HF.out.1 (two_pow_lt (by omega))) (by omega)
        obtain ⟨N', hN'⟩ : ∃ N', N' = N ||| 2 ^ p := ⟨_, rfl⟩
        rw [← hN'] at hput
        have HN := Lib.hid (show Front n (fun i => (X i).toNat) S (j + 1) N' by rw [hN', hp]; exact HF.out.yes (f := fun i => (X i).toNat) hb (by show (X j).toNat < n; rw [← hp]; exact hpn))
        clear hp hN' hb hr hX
        go_wp2
        go_round
        case rel => exact ⟨j + 1, N', by omega, by go_num, rfl, HN.out⟩
        case measure => simp [intOf]; omega
      · have hb' : S.testBit j = false := by simpa using hb
        rw [hb'] at hhas
        have HN := Lib.hid (HF.out.no hb')
        clear hb hb' hp hr hX
        go_wp2
        go_round
        case rel => exact ⟨j + 1, N, by omega, by go_num, rfl, HN.out⟩
        case measure => simp [intOf]; omega
    · obtain rfl : j = n := by omega
      have hE := HE.out N HF.out
      go_wp2
      go_ret
      exact ⟨by rw [← hE]; rfl, rfl⟩

set_option maxHeartbeats 3200000 in
theorem isBetterFor_any (n : Nat) (Z : Nat → Nat → Int) (G X : Nat → Int) (S : Nat) (c : Nat) (a : Option Addr) (A : Nat → Option Addr) (L C : Nat → Nat) (d e : Nat) (b g : Option Addr) (w : World) (hg : GivenOk n L Z n G) (hd : IsDiff n n X) (hS : S < 2 ^ n) (ha0 : Tab w a n A L C Z) (hb : Rd w g n G) (hx : Rd w b n X) :
    Calls Tryz.prog 119 #[.agg #[.slice a n c, .slice g n d], .slice b n e, .int .i64 (S : Nat)] w fun e w' => e = .returned (.bool (tt (BetterP n Z S G X))) ∧ Below w.heap.size w w' := by
  have hn5 := hg.1.1.2
  have HG := Lib.hid hg
  have HA := Lib.hid ha0
  have HB := Lib.hid hb
  have HX := Lib.hid hx
  have HD := Lib.hid hd
  have HS := Lib.hid hS
  clear hg ha0 hb hx hd hS
  go_enter Tryz.func119, Tryz.ntmps119
  go_wp2
  obtain ⟨s, hs⟩ : ∃ s, s = w.heap.size := ⟨_, rfl⟩
  obtain ⟨w0, hw0⟩ : ∃ w0, w0 = w.alloc (.cells #[.slice a n c, .slice g n d] 71) := ⟨_, rfl⟩
  have hb0 : Below w.heap.size w w0 := by rw [hw0]; exact below_alloc (Below.refl _ w) _
  have q0 : w0.cell? ⟨s, 0, none⟩ = some (.slice a n c) := by rw [hw0, hs]; simp
  have q1 : w0.cell? ⟨s, 1, none⟩ = some (.slice g n d) := by rw [hw0, hs]; simp
  rw [← hw0, ← hs]
  have B0 := Lib.hid hb0
  have Q0 := Lib.hid q0
  have Q1 := Lib.hid q1
  have HS0 := Lib.hid hs
  clear hb0 q0 q1 hw0 hs
  go_loopw [7, 8, 9, 12] (fun sm _ _ i wr => ∃ k : Nat, k ≤ n ∧ i = .int .i64 k ∧ sm = .bool (tt (SomeB Z n S G X k)) ∧ Below w0.heap.size w0 wr ∧ NoneW Z n S G X k) (fun _ _ _ i _ => n - (intOf i).toNat)
  case atStart => exact ⟨0, Nat.zero_le _, rfl, by rw [someB_zero], Below.refl _ _, noneW_zero⟩
  case round =>
    obtain ⟨k, hk, rfl, rfl, hBw, hno⟩ := hrel
    have BR := Lib.hid hBw
    have BW := Lib.hid (below_chain B0.out hBw)
    have NO := Lib.hid hno
    clear hBw hno
    by_cases hlt : k < n
    · have hhas := bit_none S k (Nat.lt_trans HS.out (two_pow_lt (by omega)))
      obtain ⟨bx, ox, rfl, hxc⟩ := (HX.out.below (Nat.le_refl _) BW.out) k hlt
      have i1 : (0 : Int) ≤ (k : Int) := by omega
      have i2 : (k : Int) < (n : Int) := by omega
      by_cases hbk : S.testBit k = true
      · rw [hbk] at hhas
        have hhas : (bits .and .i64 ((S : Int) / 2 ^ k) 1 == 0) = false := hhas
        obtain ⟨bg, og, rfl, hgc⟩ := (HB.out.below (Nat.le_refl _) BW.out) k hlt
        have q0 := (BR.out.cell (p := ⟨s, 0, none⟩) (World.block_lt_of_cell? _ _ Q0.out)).trans Q0.out
        have q1 := (BR.out.cell (p := ⟨s, 1, none⟩) (World.block_lt_of_cell? _ _ Q1.out)).trans Q1.out
        obtain ⟨x, hxx⟩ : ∃ x, x = G k := ⟨_, rfl⟩
        obtain ⟨y, hyy⟩ : ∃ y, y = X k := ⟨_, rfl⟩
        rw [← hxx] at hgc
        rw [← hyy] at hxc
        obtain ⟨pa, hpa⟩ : ∃ p, p = idxF (Z k) x n := ⟨_, rfl⟩
        obtain ⟨pb, hpb⟩ : ∃ p, p = idxF (Z k) y n := ⟨_, rfl⟩
        have KL := Lib.hid (fun (u v : Int) (w2 : World) (h2 : Below wr.heap.size wr w2) (r : Later w2) => likes_any n c k a A L C Z u v r.W HG.out.1 hlt (HA.out.below (Nat.le_refl _) ((BW.out.trans (h2.mono BW.out.size)).trans (r.h.mono (Nat.le_trans BW.out.size h2.size)))))
        have I1 := Lib.hid (fun (w2 : World) (h2 : Below wr.heap.size wr w2) (r : Later w2) => (show Calls Tryz.prog 139 #[.slice a n c, .int .i64 k, .int .i64 x, .int .i64 y] r.W fun e w' => e = .returned (.bool (decide (pa < pb))) ∧ Below r.W.heap.size r.W w' from by rw [hpa, hpb]; exact KL.out x y w2 h2 r))
        have I2 := Lib.hid (fun (w2 : World) (h2 : Below wr.heap.size wr w2) (r : Later w2) => (show Calls Tryz.prog 139 #[.slice a n c, .int .i64 k, .int .i64 y, .int .i64 x] r.W fun e w' => e = .returned (.bool (decide (pb < pa))) ∧ Below r.W.heap.size r.W w' from by rw [hpa, hpb]; exact KL.out y x w2 h2 r))
        have e0 : ∀ r : Later wr, r.W.cell? ⟨s, 0, none⟩ = some (.slice a n c) := fun r => later_cell q0 r
        have e1 : ∀ r : Later wr, r.W.cell? ⟨s, 1, none⟩ = some (.slice (some ⟨bg, og, none⟩) n d) := fun r => later_cell q1 r
        have e2 : ∀ r : Later wr, r.W.cell? ⟨bg, og + k, none⟩ = some (.int .i64 x) := fun r => later_cell hgc r
        have F0 := Lib.hid (show ∀ w2, Below wr.heap.size wr w2 → ∀ r : Later w2, r.W.cell? ⟨s, 0, none⟩ = some (.slice a n c) ∧ r.W.cell? ⟨s, 1, none⟩ = some (.slice (some ⟨bg, og, none⟩) n d) ∧ r.W.cell? ⟨bg, og + k, none⟩ = some (.int .i64 x) from fun w2 h2 r => ⟨later_cell q0 ⟨r.W, h2.trans (r.h.mono h2.size)⟩, later_cell q1 ⟨r.W, h2.trans (r.h.mono h2.size)⟩, later_cell hgc ⟨r.W, h2.trans (r.h.mono h2.size)⟩⟩)
        have SI := Lib.hid (someB_in (Z := Z) (G := G) (X := X) hbk (show pb = idxF (Z k) (X k) n by rw [hpb, hyy]) (show pa = idxF (Z k) (G k) n by rw [hpa, hxx]))
        have HW := Lib.hid (show NoneW Z n S G X n → pb ≤ pa from fun h => by rw [hpb, hpa, hyy, hxx]; exact h k hlt hbk)
        have HNX := Lib.hid (show pb ≤ pa → NoneW Z n S G X (k + 1) from fun h => noneW_succ NO.out fun _ => by rw [← hyy, ← hxx, ← hpb, ← hpa]; exact h)
        clear hbk hgc q0 q1 hxx hyy hpa hpb KL
        by_cases hle : pb ≤ pa
        · have d1 : decide (pa < pb) = false := decide_eq_false (by omega)
          have NX := Lib.hid (HNX.out hle)
          clear HNX HW
          by_cases hs : SomeB Z n S G X k
          · have T1 : tt (SomeB Z n S G X k) = true := tt_of hs
            rw [T1]
            rw [T1] at SI
            have SJ := Lib.hid (show tt (SomeB Z n S G X (k + 1)) = true by rw [SI.out]; rfl)
            go_wp2
            refine wp_region_later (by kernel_rfl) (by kernel_rfl) ?_
            repeat go_big_quiet_step ((go_at_call 139; exact calls_later _ (I1.out _ (Below.refl _ _) _)))
            refine wpQuiet_nil ?_
            rintro _ ⟨r, rfl⟩
            clear I1 I2 e0 e1 e2
            go_wp2
            go_quiet (fail)
            have B2 := Lib.hid (BR.out.trans (r.h.mono BR.out.size))
            go_wp2
            go_roundw
            case rel => exact ⟨k + 1, by omega, by go_num, by rw [SJ.out], below_drewN B2.out _, NX.out⟩
            case measure => simp [intOf]; omega
          · have T1 : tt (SomeB Z n S G X k) = false := tt_no hs
            rw [T1]
            rw [T1] at SI
            have SJ := Lib.hid (show tt (SomeB Z n S G X (k + 1)) = decide (pb < pa) by rw [SI.out]; rfl)
            go_wp2
            refine wp_region_later (by kernel_rfl) (by kernel_rfl) ?_
            repeat go_big_quiet_step ((go_at_call 139; exact calls_later _ (I1.out _ (Below.refl _ _) _)))
            refine wpQuiet_nil ?_
            rintro _ ⟨r, rfl⟩
            have J2 := Lib.hid (I2.out _ r.h)
            have e3 : ∀ r2 : Later r.W, r2.W.cell? ⟨s, 0, none⟩ = some (.slice a n c) := fun r2 => (F0.out _ r.h r2).1
            have e4 : ∀ r2 : Later r.W, r2.W.cell? ⟨s, 1, none⟩ = some (.slice (some ⟨bg, og, none⟩) n d) := fun r2 => (F0.out _ r.h r2).2.1
            have e5 : ∀ r2 : Later r.W, r2.W.cell? ⟨bg, og + k, none⟩ = some (.int .i64 x) := fun r2 => (F0.out _ r.h r2).2.2
            clear I1 I2 e0 e1 e2
            go_wp2
            refine wp_region_later (by kernel_rfl) (by kernel_rfl) ?_
            repeat go_big_quiet_step ((go_at_call 139; exact calls_later _ (J2.out _)))
            refine wpQuiet_nil ?_
            rintro _ ⟨r2, rfl⟩
            have B2 := Lib.hid (BR.out.trans ((r.h.trans (r2.h.mono r.h.size)).mono BR.out.size))
            go_wp2
            go_roundw
            case rel => exact ⟨k + 1, by omega, by go_num, by rw [SJ.out], B2.out, NX.out⟩
            case measure => simp [intOf]; omega
        · have d1 : decide (pa < pb) = true := decide_eq_true (by omega)
          have HF := Lib.hid (tt_no (show ¬ BetterP n Z S G X from fun h => hle (HW.out h.1)))
          clear HNX HW
          go_wp2
          refine wp_region_later (by kernel_rfl) (by kernel_rfl) ?_
          repeat go_big_quiet_step ((go_at_call 139; exact calls_later _ (I1.out _ (Below.refl _ _) _)))
          refine wpQuiet_nil ?_
          rintro _ ⟨r, rfl⟩
          have B2 := Lib.hid (BW.out.trans (r.h.mono BW.out.size))
          clear I1 I2 e0 e1 e2
          go_wp2
          go_ret
          exact ⟨by rw [HF.out]; rfl, B2.out⟩
      · have hb' : S.testBit k = false := by simpa using hbk
        rw [hb'] at hhas
        have hhas : (bits .and .i64 ((S : Int) / 2 ^ k) 1 == 0) = true := hhas
        have HSM := Lib.hid (someB_out (Z := Z) (n := n) (G := G) (X := X) hb')
        have NX := Lib.hid (noneW_succ NO.out (fun h => absurd h hbk))
        clear hbk hb'
        go_wp2
        go_roundw
        case rel => exact ⟨k + 1, by omega, by go_num, by rw [HSM.out], BR.out, NX.out⟩
        case measure => simp [intOf]; omega
    · obtain rfl : k = n := by omega
      have HE := Lib.hid (show tt (SomeB Z k S G X k) = tt (BetterP k Z S G X) from tt_congr ⟨fun h => ⟨NO.out, h⟩, fun h => h.2⟩)
      go_wp2
      go_ret
      exact ⟨by rw [HE.out]; rfl, BW.out⟩
end Go.Proofs.YtabdbgnkiebcdaaGreatDoor

namespace Go.Proofs.YtabdbgnkiebcdaaGreatDoor
set_option linter.unusedVariables false
open Go.RowKit

/-- Block g is a struct of the words cs, of type t. -/
def RowAt (w : World) (g t : Nat) (cs : Array Value) : Prop := w.heap[g]? = some (.cells cs t (0, 0))

namespace RowAt
variable {w w' : World} {g t : Nat} {cs : Array Value}
theorem lt (h : RowAt w g t cs) : g < w.heap.size := (Array.getElem?_eq_some_iff.1 h).1
theorem of_block (h : RowAt w g t cs) (e : w'.heap[g]? = w.heap[g]?) : RowAt w' g t cs := e.trans h
theorem below {B : Nat} (h : RowAt w g t cs) (hB : g < B) (hb : Below B w w') : RowAt w' g t cs := h.of_block (hb.block g hB)
theorem new (w : World) (t : Nat) (cs : Array Value) : RowAt (w.alloc (.cells cs t)) w.heap.size t cs := heap_alloc_last w _
theorem cell (h : RowAt w g t cs) (j : Nat) : w.cell? ⟨g, j, none⟩ = cs[j]? := Lib.cell_of_heap h j
theorem frozen (h : RowAt w g t cs) (j : Nat) : w.frozen? ⟨g, j, none⟩ = false := Lib.frozen_of_heap h j
end RowAt

section
variable {P : Program} {ops : Array Oper} {rest : List Oper} {a : Act} {w : World} {Q : Exit → Act → World → Prop} {d : Option Nat} {ot : TypeId} {pos : String} {aft : Array Edge}

theorem row_load (ty t : Nat) (x : Operand) (g : Nat) (cs : Array Value) (dd : TypeDesc) (hx : a.eval x = .pointer (some ⟨g, 0, none⟩)) (hg : RowAt w g t cs) (hu : P.underlying ty = some dd) (hd : (match dd with | .struct _ | .array _ _ => true | _ => false) = true) (hi : (P.info? ty).map (·.size) = some cs.size)
    (h : wpList P ops Q rest (a.put d (.agg cs)) w) : wpList P ops Q (⟨d, Op.load ty x, ot, pos, aft, none⟩ :: rest) a w :=
  wpList_load_row rfl ty x rfl g hx t cs (0, 0) _ hg hu hd hi h

theorem row_load_g (ty t : Nat) (x : Operand) (gd : Nat × Bool) (g : Nat) (cs : Array Value) (dd : TypeDesc) (hw : Region.wanted (⟨d, Op.load ty x, ot, pos, aft, some gd⟩ : Oper) (yielded ops a.tmps) = true) (hx : a.eval x = .pointer (some ⟨g, 0, none⟩)) (hg : RowAt w g t cs) (hu : P.underlying ty = some dd) (hd : (match dd with | .struct _ | .array _ _ => true | _ => false) = true) (hi : (P.info? ty).map (·.size) = some cs.size)
    (h : wpList P ops Q rest (a.put d (.agg cs)) w) : wpList P ops Q (⟨d, Op.load ty x, ot, pos, aft, some gd⟩ :: rest) a w :=
  wpList_step fun K hK => by
    rw [if_pos hw]
    exact wp_load_row ty x rfl g hx t cs (0, 0) _ hg hu hd hi (hK _ _ h)

theorem row_store (ty t : Nat) (x y : Operand) (g : Nat) (cs us : Array Value) (hx : a.eval x = .pointer (some ⟨g, 0, none⟩)) (hy : a.eval y = .agg us) (hg : RowAt w g t cs) (hi : (P.info? ty).map (·.size) = some us.size) (hs : us.size = cs.size) (hu : us.all (·.oneCell') = true)
    (h : ∀ w1, RowAt w1 g t us → w1.heap.size = w.heap.size → (∀ k, k ≠ g → w1.heap[k]? = w.heap[k]?) → Below g w w1 → wpList P ops Q rest (a.put d undef) w1) : wpList P ops Q (⟨d, Op.store ty x y, ot, pos, aft, none⟩ :: rest) a w := by
  refine wpList_plain rfl fun K hK' => ?_
  refine wp_store_row ty x y rfl g us hx hy t cs hg hi hs.symm hu (hK' _ _ ?_)
  exact h _ (setRow_heap w g cs us t (0, 0) hg) (by simp) (fun k hk => setRow_other w g k _ hk) (below_setRow w _ (Nat.le_refl _))
end
end Go.Proofs.YtabdbgnkiebcdaaGreatDoor

namespace Go.Proofs.YtabdbgnkiebcdaaGreatDoor
set_option linter.unusedVariables false
set_option linter.unusedSimpArgs false
open Go.RowKit

theorem Tryz.sizeGiven : (Tryz.prog.info? 71).map (·.size) = some 2 := by kernel_rfl

/-- What readGivenHouses hands back. -/
def RetGiven (ok : Bool) (a : Option Addr) (n c : Nat) (b : Option Addr) (m d : Nat) (w : World) (e : Ending) (w' : World) : Prop :=
  e = .returned (.tuple #[.agg (if ok = true then #[.slice a n c, .slice b m d] else #[.slice none 0 0, .slice none 0 0]), .bool ok]) ∧ Below w.heap.size w w'

set_option maxHeartbeats 1600000 in
theorem readGivenHouses_any (n c : Nat) (a : Option Addr) (A : Nat → Option Addr) (L C : Nat → Nat) (Z : Nat → Nat → Int) (m d : Nat) (b : Option Addr) (G : Nat → Int) (w : World) (hn0 : n ≤ 1048576) (hL0 : ∀ r, r < n → L r ≤ 1048576) (ha0 : Tab w a n A L C Z) (hm : m ≤ 1048576) (hb : Rd w b m G) :
    Calls Tryz.prog 45 #[.slice a n c, .slice b m d] w (RetGiven (tt (GivenOk n L Z m G)) a n c b m d w) := by
  have H := Lib.hid (fun (w1 : World) (hB : Below w.heap.size w w1) => readGiven_any n c a A L C Z m d b G w1 hn0 hL0 (ha0.below (Nat.le_refl _) hB) hm (hb.below (Nat.le_refl _) hB))
  clear ha0 hb
  cases hg : tt (GivenOk n L Z m G) with
  | true =>
    have T := Lib.hid hg
    clear hg
    go_enter Tryz.func45, Tryz.ntmps45
    go_wp2_with (go_at_call 52; refine (H.out _ (below_alloc (Below.refl _ w) _)).mono ?_; rw [T.out]; rintro e w1 ⟨rfl, rfl⟩)
    refine bodyPost_ret (results_box_tmp Tryz.results45 _ _ w.heap.size 71 #[.slice a n c, .slice b m d] (0, 0) _ rfl (heap_alloc_last w _) Tryz.underlying71 rfl Tryz.sizeGiven) rfl ?_
    exact ⟨rfl, below_alloc (Below.refl _ w) _⟩
  | false =>
    have T := Lib.hid hg
    clear hg
    go_enter Tryz.func45, Tryz.ntmps45
    go_wp2_with (go_at_call 52; refine (H.out _ (below_alloc (Below.refl _ w) _)).mono ?_; rw [T.out]; rintro e w1 ⟨rfl, rfl⟩)
    refine bodyPost_ret (results_box_tmp Tryz.results45 _ _ w.heap.size 71 #[.slice none 0 0, .slice none 0 0] (0, 0) _ rfl (heap_alloc_last w _) Tryz.underlying71 rfl Tryz.sizeGiven) rfl ?_
    exact ⟨rfl, below_alloc (Below.refl _ w) _⟩

set_option maxHeartbeats 1600000 in
theorem makesBlock (u v : Value) (hu : u.oneCell' = true) (hv : v.oneCell' = true) (w : World) : MakesAt 47 80 (.agg #[u, v]) blockB w := by
  intro W1 a m c _
  go_enter Tryz.func47, Tryz.ntmps47
  go_wp2
  refine bodyPost_ret (results_box1 Tryz.results47 _ _ (W1.heap.size + 1) 51 #[.string (strU blockB), .slice a m c, .func (.func 80) #[.agg #[u, v]] #[]] (0, 0) _ rfl ?_ Tryz.underlying51 rfl Tryz.sizeProof) rfl ?_
  · have h := heap_alloc_last (W1.alloc (.cells #[u, v] 71)) (.cells #[.string (strU blockB), .slice a m c, .func (.func 80) #[.agg #[u, v]] #[]] 51)
    rw [World.size_alloc] at h
    exact h
  · exact ⟨rfl, below_alloc (below_alloc (Below.refl _ W1) _) _⟩

set_option maxHeartbeats 3200000 in
theorem showsBlock (n c : Nat) (a : Option Addr) (A : Nat → Option Addr) (L C : Nat → Nat) (Z : Nat → Nat → Int) (d : Nat) (g : Option Addr) (G : Nat → Int) (w : World) (hg : GivenOk n L Z n G) (ha : Tab w a n A L C Z) (hb : Rd w g n G) :
    ShowsAt 80 (.agg #[.slice a n c, .slice g n d]) (BlockQ n Z G) w := by
  intro W1 b m e X hB hm hX hx
  have hn5 := hg.1.1.2
  have h2 : (2 : Nat) ^ n ≤ 32 := Nat.pow_le_pow_right (show 0 < 2 by omega) hn5
  have h1 : 1 ≤ (2 : Nat) ^ n := Nat.pow_pos (by omega)
  have hA1 := ha.below (Nat.le_refl _) hB
  have hG1 := hb.below (Nat.le_refl _) hB
  have hY1 := rd_nums hx
  have HQ : BlockQ n Z G (numsL m X) ↔ IsEach n m (nth (numsL m X)) ∧ AgainstP n Z G (nth (numsL m X)) := by unfold BlockQ; rw [numsL_len]
  obtain ⟨Y, hY⟩ : ∃ Y, Y = nth (numsL m X) := ⟨_, rfl⟩
  rw [← hY] at hY1 HQ
  obtain ⟨B, hBd⟩ : ∃ B, B = BlockQ n Z G (numsL m X) := ⟨_, rfl⟩
  rw [← hBd] at HQ ⊢
  clear hBd hY hx hX ha hb hB
  have HE := Lib.hid (fun (w1 : World) (h : Below W1.heap.size W1 w1) => hasEach_any n m e b Y w1 hn5 hm (hY1.below (Nat.le_refl _) h))
  by_cases he : IsEach n m Y
  · have T0 := Lib.hid (tt_of he)
    have hmn := he.1
    subst hmn
    have hd := he.2
    have HO := Lib.hid (fun (S : Nat) (hS : S < 2 ^ m) w1 (h : Below W1.heap.size W1 w1) => givesOwn_any m e S b Y w1 hn5 hd hS (hY1.below (Nat.le_refl _) h))
    have HB := Lib.hid (fun (S : Nat) (hS : S < 2 ^ m) w1 (h : Below W1.heap.size W1 w1) => isBetterFor_any m Z G Y S c a A L C d e b g w1 hg hd hS (hA1.below (Nat.le_refl _) h) (hG1.below (Nat.le_refl _) h) (hY1.below (Nat.le_refl _) h))
    have HV := Lib.hid (fun (w1 : World) => everybody_any m c a w1 hn5)
    have HR := Lib.hid (show B ↔ AgainstP m Z G Y from HQ.trans ⟨fun h => h.2, fun h => ⟨he, h⟩⟩)
    obtain ⟨E, hE⟩ : ∃ E, E = 2 ^ m := ⟨_, rfl⟩
    have QE := Lib.hid hE
    rw [← hE] at h1 h2
    clear hg hA1 hG1 hY1 hd he hE HQ
    go_enter Tryz.func80, Tryz.ntmps80
    go_wp2_with (go_at_call 85; refine (HE.out _ (below_alloc (Below.refl _ W1) _)).mono ?_; rw [T0.out]; rintro e w1 ⟨rfl, rfl⟩)
    have Q0 := Lib.hid (show (W1.alloc (.cells #[.slice a m c, .slice g m d] 71)).heap[W1.heap.size]? = some (.cells #[.slice a m c, .slice g m d] 71 (0, 0)) from heap_alloc_last W1 _)
    have B0 := Lib.hid (show Below W1.heap.size W1 (W1.alloc (.cells #[.slice a m c, .slice g m d] 71)) from below_alloc (Below.refl _ W1) _)
    obtain ⟨s, hs⟩ : ∃ s, s = W1.heap.size := ⟨_, rfl⟩
    obtain ⟨w0, hw0⟩ : ∃ w0, w0 = W1.alloc (.cells #[.slice a m c, .slice g m d] 71) := ⟨_, rfl⟩
    have hsw : s < w0.heap.size := by rw [hw0, hs]; simp
    rw [← hw0] at Q0 B0 ⊢
    rw [← hs] at Q0 ⊢
    have QS := Lib.hid hsw
    clear hw0 hsw hs
    go_loopw [5] (fun i wr => ∃ k : Nat, 1 ≤ k ∧ k ≤ E ∧ i = .int .i64 k ∧ Below w0.heap.size w0 wr ∧ ∀ S, 1 ≤ S → S < k → ¬ (OwnP m S Y ∧ BetterP m Z S G Y)) (fun i _ => E - (intOf i).toNat)
    case atStart => exact ⟨1, Nat.le_refl _, h1, rfl, Below.refl _ _, fun S h1 h2 => by omega⟩
    case round =>
      obtain ⟨k, hk1, hk2, rfl, hBw, hno⟩ := hrel
      have BR := Lib.hid hBw
      have BW := Lib.hid (below_chain B0.out hBw)
      have NO := Lib.hid hno
      have QR := Lib.hid (show wr.heap[s]? = some (.cells #[.slice a m c, .slice g m d] 71 (0, 0)) from (hBw.block s QS.out).trans Q0.out)
      have q0 : wr.cell? ⟨s, 0, none⟩ = some (.slice a m c) := Lib.cell_of_heap QR.out 0
      have q1 : wr.cell? ⟨s, 1, none⟩ = some (.slice g m d) := Lib.cell_of_heap QR.out 1
      clear hBw hno
      by_cases hlt : k < E
      · have HC := Lib.hid (HO.out k (by rw [← QE.out]; exact hlt) _ BW.out)
        have HD := Lib.hid (HB.out k (by rw [← QE.out]; exact hlt) _ BW.out)
        have HVr := Lib.hid (show Calls Tryz.prog 86 #[.slice a m c] wr fun e w' => e = .returned (.int .i64 ((E : Int) - 1)) ∧ wr = w' from by rw [QE.out]; exact HV.out wr)
        have l1 : (k : Int) ≤ (E : Int) - 1 := by omega
        by_cases ho : OwnP m k Y
        · have T1 := Lib.hid (tt_of ho)
          by_cases hbk : BetterP m Z k G Y
          · have T2 := Lib.hid (tt_of hbk)
            have HF := Lib.hid (tt_of (HR.out.2 ⟨k, hk1, by rw [← QE.out]; exact hlt, ho, hbk⟩))
            clear ho hbk
            go_wp2_with (first
              | (go_at_call 86; refine HVr.out.mono ?_; rintro e w1 ⟨rfl, rfl⟩)
              | (go_at_call 118; refine HC.out.mono ?_; rintro e w1 ⟨rfl, rfl⟩; rw [T1.out])
              | ((with_reducible refine row_load_g _ _ _ _ _ _ _ ?_ ?_ QR.out Tryz.underlying71 rfl Tryz.sizeGiven ?_); exact rfl; exact rfl)
              | (go_at_call 119; refine HD.out.mono ?_; rintro e w1 ⟨rfl, hb1⟩; rw [T2.out]; have B1 := Lib.hid (below_chain BW.out hb1); clear hb1))
            go_ret
            exact ⟨by rw [HF.out]; rfl, B1.out⟩
          · have T2 := Lib.hid (tt_no hbk)
            have HN := Lib.hid (show ¬ (OwnP m k Y ∧ BetterP m Z k G Y) from fun h => hbk h.2)
            clear ho hbk
            go_wp2_with (first
              | (go_at_call 86; refine HVr.out.mono ?_; rintro e w1 ⟨rfl, rfl⟩)
              | (go_at_call 118; refine HC.out.mono ?_; rintro e w1 ⟨rfl, rfl⟩; rw [T1.out])
              | ((with_reducible refine row_load_g _ _ _ _ _ _ _ ?_ ?_ QR.out Tryz.underlying71 rfl Tryz.sizeGiven ?_); exact rfl; exact rfl)
              | (go_at_call 119; refine HD.out.mono ?_; rintro e w1 ⟨rfl, hb1⟩; rw [T2.out]; have B1 := Lib.hid (BR.out.trans (hb1.mono BR.out.size)); clear hb1))
            go_roundw
            case rel => exact ⟨k + 1, by omega, by omega, by go_num, B1.out, fun S h1 h2 => by
              by_cases e : S = k
              · rw [e]; exact HN.out
              · exact NO.out S h1 (by omega)⟩
            case measure => simp [intOf]; omega
        · have T1 := Lib.hid (tt_no ho)
          have HN := Lib.hid (show ¬ (OwnP m k Y ∧ BetterP m Z k G Y) from fun h => ho h.1)
          clear ho
          go_wp2_with (first
            | (go_at_call 86; refine HVr.out.mono ?_; rintro e w1 ⟨rfl, rfl⟩)
            | (go_at_call 118; refine HC.out.mono ?_; rintro e w1 ⟨rfl, rfl⟩; rw [T1.out]))
          go_roundw
          case rel => exact ⟨k + 1, by omega, by omega, by go_num, BR.out, fun S h1 h2 => by
            by_cases e : S = k
            · rw [e]; exact HN.out
            · exact NO.out S h1 (by omega)⟩
          case measure => simp [intOf]; omega
      · obtain rfl : k = E := by omega
        have HVr := Lib.hid (show Calls Tryz.prog 86 #[.slice a m c] wr fun e w' => e = .returned (.int .i64 ((k : Int) - 1)) ∧ wr = w' from by rw [QE.out]; exact HV.out wr)
        have l1 : ¬ ((k : Int) ≤ (k : Int) - 1) := by omega
        have HF := Lib.hid (tt_no (show ¬ B from fun h => by obtain ⟨S, h1, h2, h3⟩ := HR.out.1 h; exact NO.out S h1 (by rw [QE.out]; exact h2) h3))
        go_wp2_with (go_at_call 86; refine HVr.out.mono ?_; rintro e w1 ⟨rfl, rfl⟩)
        go_ret
        exact ⟨by rw [HF.out]; rfl, BW.out⟩
  · have T0 := Lib.hid (tt_no he)
    have HF := Lib.hid (tt_no (show ¬ B from fun h => he (HQ.1 h).1))
    clear hg hA1 hG1 hY1 HQ he
    go_enter Tryz.func80, Tryz.ntmps80
    go_wp2_with (go_at_call 85; refine (HE.out _ (below_alloc (Below.refl _ W1) _)).mono ?_; rw [T0.out]; rintro e w1 ⟨rfl, rfl⟩)
    go_ret
    exact ⟨by rw [HF.out]; rfl, below_alloc (Below.refl _ W1) _⟩
end Go.Proofs.YtabdbgnkiebcdaaGreatDoor
