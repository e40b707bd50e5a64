/- The model's l1Longer, from the empty list on. -/
import Derived.Test.YtlidobacehbecaaL1Longer
namespace Go.Proofs.Ytlidobacehbecaa
set_option linter.unusedVariables false
open Go.RowKit

theorem one_nth {j : Nat} {x : Int} (h : j < 1) : x = nth ([] ++ [x]) j := by
  obtain rfl : j = 0 := by omega
  rfl

set_option maxHeartbeats 1600000 in
theorem l1LongerAll_any (n : Nat) (hn2 : 2 ≤ n) (hn : n ≤ 5) (ba oa : Nat) (w : World) (ha : ba < w.heap.size) :
    Calls Try.prog 60 #[.int .i64 n, .slice (some ⟨ba, oa, none⟩) 0 0] w (RetLL 23 (longer n n []) w) := by
  obtain ⟨i0, hi, hz0, hz1, hz2⟩ := info_parts Try.infoInt
  obtain ⟨i1, hj, hy0, hy1, hy2⟩ := info_parts Try.infoInts
  have HE := Lib.hid (longer_eq (n := n) (f := n) (B := []) (Diff.nil n) (by simp))
  have HLE := Lib.hid (fun k (hk : k ≤ n) => Nat.le_trans (longerTo_le hn (n - 1) k [] hk) (Nat.pow_le_pow_right (show 0 < 6 by omega) (show n - 1 + 1 ≤ 5 by omega)))
  have H0 := Lib.hid (show longerTo n (n - 1) [] 0 = [] from rfl)
  go_enter Try.func60, Try.ntmps60
  go_wp2
  have MS := Lib.hid (Making.start 23 w.heap.size (w.alloc (.cells #[] 23)) (.slice (some ⟨w.heap.size, 0, none⟩) 0 0) (fun _ => 0) (fun _ => 0) (lenL []) (nthL []) (World.ownsRow_made w #[] 0 (Nat.le_refl _) (Nat.zero_le _) (by simp)))
  have BS := Lib.hid (below_alloc (Below.refl w.heap.size w) (.cells #[] 23))
  go_loopw [5, 6, 7] (fun out s _ wr => ∃ k : Nat, k ≤ n ∧ s = .int .i64 k ∧ ∃ v G Cp, v = out ∧ Making 23 w.heap.size wr v (longerTo n (n - 1) [] k).length G Cp (lenL (longerTo n (n - 1) [] k)) (nthL (longerTo n (n - 1) [] k)) ∧ Below w.heap.size w wr) (fun _ s _ _ => n - (intOf s).toNat)
  case atStart => exact ⟨0, Nat.zero_le _, rfl, _, _, _, rfl, (by rw [H0.out]; exact MS.out), BS.out⟩
  case round =>
    obtain ⟨k, hk, rfl, v, G, Cp, rfl, hM, hB⟩ := hrel
    clear MS BS H0
    by_cases hlt : k < n
    · obtain ⟨N, hN⟩ : ∃ N, N = (longerTo n (n - 1) [] k).length := ⟨_, rfl⟩
      have hN6 : N ≤ 7776 := by rw [hN]; exact HLE.out k hk
      rw [← hN] at hM
      have QN := Lib.hid hN
      have HMk := Lib.hid hM
      have HB := Lib.hid hB
      have HV := Lib.hid (fun x hx => hM.1.lt x hx)
      have hsz := hB.size
      have hbr : ba < wr.heap.size := by omega
      have hnd := ((Diff.nil n).snoc_iff hlt).2 (List.not_mem_nil)
      have hpos := longer_pos (f := n - 1) hn2 hnd (by simp) (by simp; omega)
      have hlen := longer_le hn (n - 1) ([] ++ [(k : Int)])
      have hlen5 := Nat.pow_le_pow_right (show 0 < 6 by omega) (show n - 1 ≤ 5 by omega)
      obtain ⟨M, hM2⟩ : ∃ M, M = (longer n (n - 1) ([] ++ [(k : Int)])).length := ⟨_, rfl⟩
      rw [← hM2] at hpos hlen
      have hM6 : M ≤ 7776 := Nat.le_trans hlen hlen5
      have QM := Lib.hid hM2
      have ND := Lib.hid hnd
      clear hM hB hN hnd hM2 hlen hlen5
      have O0 := Lib.hid (show (wr.alloc (.cells #[] 3)).ownsRow wr.heap.size 3 1 (.slice (some ⟨wr.heap.size, 0, none⟩) 0 0) 0 [] from World.ownsRow_made wr #[] 0 (Nat.le_refl _) (Nat.zero_le _) (by simp))
      go_wp2_with (first
        | (at_builtin; refine wpList_append_lies _ (by rfl) (.tmp 25) (.tmp 27) 23 (by rfl) wr.heap.size 3 i0 (.int .i64 0) 1 8 Try.underlying23 hi hz0 hz1 hz2 (by rfl) (by decide) (.slice (some ⟨wr.heap.size, 0, none⟩) 0 0) 0 [] (by rfl) (O0.out.alloc _) ⟨_, 0, none⟩ 1 1 [.int .i64 k] (by rfl) (by rfl) (news_one (by simp)) (by simp [Value.oneCell']) (by omega) (by unfold maxLen; omega) (by omega) (by simp; omega) _ rfl ?_; intro g2 cap2 w4 hown2 hgrow2 hat2 hlt2; have B4 : Hid (Below wr.heap.size wr w4) := Lib.hid ((below_alloc (below_alloc (Below.refl _ _) _) _).grown hgrow2 (by simp; omega) (fun x hx => by simp only [Value.ownBlock, Option.some.injEq] at hx; omega)); have RD : Hid (Rd w4 (some ⟨g2, 0, none⟩) 1 (fun _ => (k : Int))) := Lib.hid (owns_rd (X := fun _ => (k : Int)) hown2); clear hown2 hgrow2 hat2)
        | (go_at_call 60; refine (l1Longer_any n hn2 hn (n - 1) ([] ++ [(k : Int)]) 1 _ _ _ ND.out (by simp) (by omega) (by omega) (RD.out.congr fun j hj => one_nth hj)).mono ?_; rintro e w5 ⟨v', G', Cp', rfl, hM', hB'⟩; rw [← QM.out] at hM'; obtain ⟨g', cap', rfl⟩ := owns_form hM'.1 hpos; have M5 := Lib.hid hM'; have B5 := Lib.hid (B4.out.trans (hB'.mono B4.out.size)); have hs5 := hB'.size; have hs4 := B4.out.size; clear hM' hB')
        | (at_builtin; refine wpList_append_lies _ (by rfl) (.tmp 37) (.tmp 40) 29 (by rfl) w.heap.size 23 i1 (.slice none 0 0) 1 24 Try.underlying29 hj hy0 hy1 hy2 (by rfl) (by decide) v N ((List.range N).map fun r => .slice (some ⟨G r, 0, none⟩) (lenL (longerTo n (n - 1) [] k) r) (Cp r)) (by rfl) (HMk.out.below B5.out).1 ⟨g', 0, none⟩ M cap' ((List.range M).map fun r => .slice (some ⟨G' r, 0, none⟩) (lenL (longer n (n - 1) ([] ++ [(k : Int)])) r) (Cp' r)) (by rfl) (by simp) (fun j u hu => M5.out.1.cells (g := g') rfl j u hu) (fun u hu => by obtain ⟨r, _, rfl⟩ := List.mem_map.1 hu; rfl) hpos (by unfold maxLen; omega) (by omega) (by omega) _ rfl ?_; intro g6 cap6 w6 hown6 hgrow6 hat6 hlt6; have N6 := Lib.hid hown6; have G6 := Lib.hid hgrow6; have A6 := Lib.hid hat6; clear hown6 hgrow6 hat6))
      go_roundw
      case rel =>
        refine ⟨k + 1, by omega, by go_num, _, (fun r => if r < N then G r else G' (r - N)), (fun r => if r < N then Cp r else Cp' (r - N)), rfl, ?_, (HB.out.trans (B5.out.mono HB.out.size)).grown G6.out (by omega) (fun x hx => (HV.out x hx).1)⟩
        rw [longerTo_new List.not_mem_nil, List.length_append, ← QN.out, ← QM.out]
        exact Making.join (HMk.out.below B5.out) M5.out (by omega) (fun r hr => by have := (HMk.out.2.1 r hr).2.1; omega) (fun x hx => by have := (HV.out x hx).2; omega) (fun r hr => lists_left (by rw [← QN.out]; exact hr)) (fun r hr => by rw [QN.out]; exact lists_right) N6.out G6.out A6.out (Nat.le_refl _)
      case measure => simp [intOf]; omega
    · obtain rfl : k = n := by omega
      have HMk := Lib.hid hM
      have HB := Lib.hid hB
      clear hM hB
      go_wp2
      go_ret
      exact ⟨v, G, Cp, rfl, (by rw [HE.out]; exact HMk.out), HB.out⟩
end Go.Proofs.Ytlidobacehbecaa
