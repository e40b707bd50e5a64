/- The model's l4All: the welcome swaps as a table of pairs. -/
import Derived.Test.YtgjegpponchdaaaDoorMayModel
import Derived.Test.YtgjegpponchdaaaDoorL4May
import Derived.Test.YtgjegpponchdaaaDoorLists
import Derived.Test.YtgjegpponchdaaaDoorInfoInts
namespace Go.Proofs.YtgjegpponchdaaaDoor
set_option linter.unusedVariables false
set_option linter.unusedSimpArgs false
open Go.RowKit

theorem pairs_at {P : List (Nat × Nat)} {x : Nat} (h : x < P.length) : ∃ i k, (i, k) ∈ P ∧ lenL (pairsL P) x = 2 ∧ nthL (pairsL P) x 0 = (i : Nat) ∧ nthL (pairsL P) x 1 = (k : Nat) := by
  have e : (pairsL P).getD x [] = [((P[x]).1 : Int), ((P[x]).2 : Int)] := by
    rw [List.getD_eq_getElem?_getD, List.getElem?_eq_getElem (by rw [pairsL_length]; exact h)]
    simp [pairsL]
  refine ⟨(P[x]).1, (P[x]).2, List.getElem_mem h, ?_, ?_, ?_⟩
  · unfold lenL; rw [e]; rfl
  · unfold nthL; rw [e]; rfl
  · unfold nthL; rw [e]; rfl
/-- A new row of two numbers. -/
theorem ownR_two (w : World) (t : Nat) (x y : Int) : OwnR (w.alloc (.cells #[.int .i64 x, .int .i64 y] t)) w.heap.size (some ⟨w.heap.size, 0, none⟩) 2 (nth [x, y]) := by
  refine .inr ⟨0, rfl, fun k hk => ?_⟩
  have h := World.cell?_alloc_new w #[.int .i64 x, .int .i64 y] t k
  rw [Nat.zero_add]
  refine ⟨?_, by simp⟩
  have : k = 0 ∨ k = 1 := by omega
  rcases this with rfl | rfl <;> simp [nth]
theorem may_le {n i k : Nat} {Z : Nat → Nat → Int} {G : Nat → Int} (hn : n ≤ 5) (hi : i < n) (hk : k ≤ n) : (mayTo n Z G i ++ rowMay n Z G i k).length ≤ 25 := Nat.le_trans (may_front hi hk).length_le (mayL_le hn)

set_option maxHeartbeats 1600000 in
theorem l4All_any (n c : Nat) (a : Option Addr) (A : Nat → Option Addr) (L C : Nat → Nat) (Z : Nat → Nat → Int) (d : Nat) (b : Option Addr) (G : Nat → Int) (w : World) (hg : GivenOk n L Z n G) (ha : Tab w a n A L C Z) (hb : Rd w b n G) :
    Calls Tryd.prog 49 #[.slice a n c, .slice b n d] w (RetLL 23 (pairsL (mayL n Z G)) w) := by
  obtain ⟨i1, hj, hy0, hy1, hy2⟩ := info_parts Tryd.infoInts
  have hn5 := hg.1.1.2
  have HM := Lib.hid (fun (i k : Nat) (hi : i < n) (hk : k < n) w1 (h : Below w.heap.size w w1) => l4May_any n c i k a A L C Z d b G w1 hg (ha.below (Nat.le_refl _) h) (hb.below (Nat.le_refl _) h) hi hk)
  have M0 := Lib.hid (Making.start 23 w.heap.size (w.alloc (.cells #[] 23)) (.slice (some ⟨w.heap.size, 0, none⟩) 0 0) (fun _ => 0) (fun _ => 0) (lenL []) (nthL []) (World.ownsRow_made w #[] 0 (Nat.le_refl _) (Nat.zero_le _) (by simp)))
  have B0 := Lib.hid (below_alloc (Below.refl w.heap.size w) (.cells #[] 23))
  clear hg ha hb
  go_enter Tryd.func49, Tryd.ntmps49
  go_wp2
  go_loopw [5, 6, 7] (fun out s _ wr => ∃ i : Nat, i ≤ n ∧ s = .int .i64 i ∧ ∃ v G' Cp, v = out ∧ Making 23 w.heap.size wr v (pairsL (mayTo n Z G i)).length G' Cp (lenL (pairsL (mayTo n Z G i))) (nthL (pairsL (mayTo n Z G i))) ∧ Below w.heap.size w wr) (fun _ s _ _ => n - (intOf s).toNat)
  case atStart => exact ⟨0, Nat.zero_le _, rfl, _, _, _, rfl, M0.out, B0.out⟩
  case round =>
    obtain ⟨i, hi, rfl, v, G', Cp, rfl, hM, hB⟩ := hrel
    clear M0 B0
    have M1 := Lib.hid hM
    have B1 := Lib.hid hB
    clear hM hB
    by_cases hlt : i < n
    · go_wp2
      go_loopw [5, 7] (fun out s wr => ∃ k : Nat, i + 1 ≤ k ∧ k ≤ n ∧ s = .int .i64 k ∧ ∃ v G' Cp, v = out ∧ Making 23 w.heap.size wr v (pairsL (mayTo n Z G i ++ rowMay n Z G i k)).length G' Cp (lenL (pairsL (mayTo n Z G i ++ rowMay n Z G i k))) (nthL (pairsL (mayTo n Z G i ++ rowMay n Z G i k))) ∧ Below w.heap.size w wr) (fun _ s _ => n - (intOf s).toNat)
      case atStart => exact ⟨i + 1, Nat.le_refl _, by omega, by go_num, _, _, _, rfl, by rw [rowMay_low (Nat.le_refl _), List.append_nil]; exact M1.out, B1.out⟩
      case round =>
        obtain ⟨k, hk1, hk2, rfl, v, G', Cp, rfl, hM, hB⟩ := hrel
        clear M1 B1
        have HB := Lib.hid hB
        have hsz := hB.size
        have hmn := may_le (Z := Z) (G := G) hn5 hlt hk2
        rw [← pairsL_length] at hmn
        obtain ⟨LL, hLL⟩ : ∃ LL, LL = pairsL (mayTo n Z G i ++ rowMay n Z G i k) := ⟨_, rfl⟩
        rw [← hLL] at hM hmn
        have QL := Lib.hid hLL
        have HV := Lib.hid (fun x hx => hM.1.lt x hx)
        have HMk := Lib.hid hM
        clear hM hLL hB
        by_cases hkn : k < n
        · have HC := Lib.hid (HM.out i k hlt hkn _ HB.out)
          by_cases hm : MayP n Z G i k
          · have T1 := Lib.hid (tt_of hm)
            have E1 := Lib.hid (show pairsL (mayTo n Z G i ++ rowMay n Z G i (k + 1)) = LL ++ [[(i : Int), (k : Int)]] by rw [rowMay_yes ⟨show i < k by omega, hm⟩, ← List.append_assoc, pairsL_snoc, ← QL.out])
            clear hm
            go_wp2_with (first
              | (go_at_call 74; refine HC.out.mono ?_; rintro e w1 ⟨rfl, hb1⟩; rw [T1.out]; have M2 := Lib.hid ((HMk.out.below hb1).snoc [(i : Int), (k : Int)]); have B2 := Lib.hid (HB.out.trans (hb1.mono hsz)); have hs1 := hb1.size; have hl1 : w.heap.size ≤ w1.heap.size := Nat.le_trans hsz hs1; clear hb1)
              | (at_builtin; refine wpList_append_lies _ (by rfl) (.tmp 28) (.tmp 32) 22 (by rfl) w.heap.size 23 i1 (.slice none 0 0) 1 24 Tryd.underlying22 hj hy0 hy1 hy2 (by rfl) (by decide) v LL.length ((List.range LL.length).map fun r => .slice (some ⟨G' r, 0, none⟩) (lenL (LL ++ [[(i : Int), (k : Int)]]) r) (Cp r)) (by rfl) ((M2.out.1.alloc _).alloc _) ⟨_, 0, none⟩ 1 1 [.slice (some ⟨w1.heap.size, 0, none⟩) 2 2] (by rfl) (by rfl) (news_one (by simp)) (by simp [Value.oneCell']) (by omega) (by unfold maxLen; omega) (by omega) (by simp; omega) _ rfl ?_; intro g2 cap2 w2 hown2 hgrow2 hat2 hlt2; have N2 := Lib.hid hown2; have G2 := Lib.hid hgrow2; have A2 := Lib.hid hat2; clear hown2 hgrow2 hat2))
            go_roundw
            case rel =>
              refine ⟨k + 1, by omega, by omega, by go_num, _, (fun r => if r < LL.length then G' r else w1.heap.size), (fun r => if r < LL.length then Cp r else 2), rfl, ?_, ?_⟩
              · rw [E1.out, List.length_append]
                exact Making.next (w := (w1.alloc _).alloc _) ((M2.out.below (below_alloc (Below.refl _ _) _)).below (below_alloc (Below.refl _ _) _)) (by rw [lists_snoc.1, lists_snoc.2]; exact (ownR_two w1 _ _ _).of_block (Below.heap_alloc _ _ _ (by simp))) hl1 (by simp; omega) (fun h => by have := HV.out _ h; omega) (fun r hr h => by have := (HMk.out.2.1 r hr).2.1; omega) (by rw [lists_snoc.1]; exact N2.out) G2.out A2.out (Nat.le_refl _)
              · exact (below_alloc (below_alloc B2.out _) _).grown G2.out (by simp; omega) (fun x hx => (HV.out x hx).1)
            case measure => simp [intOf]; omega
          · have T1 := Lib.hid (tt_no hm)
            have E1 := Lib.hid (show pairsL (mayTo n Z G i ++ rowMay n Z G i (k + 1)) = LL by rw [rowMay_no (fun h => hm h.2), ← QL.out])
            clear hm
            go_wp2_with (first
              | (go_at_call 74; refine HC.out.mono ?_; rintro e w1 ⟨rfl, hb1⟩; rw [T1.out]; have M2 := Lib.hid (HMk.out.below hb1); have B2 := Lib.hid (HB.out.trans (hb1.mono hsz)); clear hb1))
            go_roundw
            case rel => exact ⟨k + 1, by omega, by omega, by go_num, _, _, _, rfl, by rw [E1.out]; exact M2.out, B2.out⟩
            case measure => simp [intOf]; omega
        · obtain rfl : k = n := by omega
          have M2 := Lib.hid (show Making 23 w.heap.size wr v (pairsL (mayTo k Z G (i + 1))).length G' Cp (lenL (pairsL (mayTo k Z G (i + 1)))) (nthL (pairsL (mayTo k Z G (i + 1)))) by rw [mayTo_succ, ← QL.out]; exact HMk.out)
          go_wp2
          go_roundw
          case rel => exact ⟨i + 1, by omega, by go_num, _, _, _, rfl, M2.out, HB.out⟩
          case measure => simp [intOf]; omega
    · obtain rfl : i = n := by omega
      go_wp2
      go_ret
      exact ⟨v, G', Cp, rfl, M1.out, B1.out⟩
end Go.Proofs.YtgjegpponchdaaaDoor
