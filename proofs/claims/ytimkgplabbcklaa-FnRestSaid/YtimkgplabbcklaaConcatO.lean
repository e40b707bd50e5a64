/- The library's Concat at odds. -/
import Derived.Test.YtimkgplabbcklaaProg
import Derived.Test.YtimkgplabbcklaaAppendRows
import Derived.Test.YtimkgplabbcklaaInfoInts
import Derived.Test.YtimkgplabbcklaaOddsModel
import Derived.Laws.AppendOwnNone
import Derived.Lib.AppendZeros
import Derived.Lib.AppendZerosOnto
namespace Go.Proofs.Ytimkgplabbcklaa
set_option linter.unusedVariables false
set_option linter.unusedSimpArgs false
open Go.RowKit

theorem zeroCells_sizeO (n : Nat) : (Builtin.zeroCells #[Value.int .i64 0] n).size = n := by simp [Builtin.zeroCells]

set_option maxHeartbeats 800000 in
theorem growNil_anyO (n : Nat) (w : World) (hn : n ≤ 1048576) :
    Calls Try.prog 54 #[.slice none 0 0, .int .i64 (n : Nat)] w fun e w' => ∃ v, e = .returned v ∧ w'.ownsRow w.heap.size 3 1 v 0 [] ∧ Below w.heap.size w w' := by
  obtain ⟨i0, hi, hz0, hz1, hz2⟩ := info_parts Try.infoInt
  have h1 : ¬ ((n : Int) < 0) := by omega
  by_cases h0 : n = 0
  · subst h0
    clear hi hz0 hz1 hz2
    go_enter Try.func54, Try.ntmps54
    go_wp2
    go_ret
    exact ⟨_, rfl, ⟨rfl, .inl ⟨rfl, rfl⟩⟩, Below.refl _ _⟩
  · have hpos : (0 : Int) < (n : Int) := by omega
    have hold : (Builtin.firstCells i0.size 0 (.slice none 0 0)).run Try.prog w.drew = .ok ([] : List Value).toArray w.drew := run_firstCells_none w.drew i0.size 0 0 0
    have hrz : ∀ ty, (Builtin.append_ #[38, 3] ty #[.slice none 0 0, .int .i64 (n : Int)]).run Try.prog w = .ok (.slice (some ⟨w.heap.size, 0, none⟩) (0 + n) (grownCap w (0 + n) 0 3)) (w.drew.alloc (.cells (([] : List Value).toArray ++ Builtin.zeroCells #[Value.int .i64 0] n ++ Builtin.zeroCells #[Value.int .i64 0] (grownCap w (0 + n) 0 3 - (0 + n))) 3)) := fun ty => by
      have h := Lib.run_append_grow_zeros (P := Try.prog) w 38 3 ty 3 i0 (.int .i64 0) .i64 .i64 Try.underlying38 Try.underlying3 hi hz0 none 0 0 [] hold n (by omega) (by omega) (by omega) (by omega) (by rw [hz2]; omega) (growslice_fits (by omega) (by rw [hz2]; omega))
      exact h
    have hGn : 0 + n ≤ grownCap w (0 + n) 0 3 := grownCap_ge w _ _ _
    have hGm := grownCap_le_maxLen w (0 + n) 0 3 (by unfold maxLen; omega)
    obtain ⟨G, hG⟩ : ∃ G, G = grownCap w (0 + n) 0 3 := ⟨_, rfl⟩
    rw [← hG] at hrz hGn hGm
    have hG63 : G ≤ 9223372036854775807 := by unfold maxLen at hGm; omega
    have HGm := Lib.hid hGm
    clear hold hG hi hz0 hz1 hz2 hGm h0
    go_enter Try.func54, Try.ntmps54
    go_wp2_with (at_builtin; refine Lib.wpList_append_run _ rfl _ _ _ _ rfl _ _ rfl rfl _ _ (hrz _) ?_)
    go_ret
    refine ⟨_, rfl, ⟨rfl, .inr ⟨w.heap.size, G, _, rfl, Nat.le_refl _, heap_alloc_last w.drew _, Nat.zero_le _, HGm.out, ?_, by simp⟩⟩, below_drewN (below_alloc (Below.refl w.heap.size w) _) 1⟩
    simp [zeroCells_sizeO]
    omega

/-- A slice of n integers as a value, nil too. -/
def RowValO (w : World) (v : Value) (n : Nat) (X : Nat → Int) : Prop := (v = .slice none 0 0 ∧ n = 0) ∨ ∃ b o c, v = .slice (some ⟨b, o, none⟩) n c ∧ Rd w (some ⟨b, o, none⟩) n X
theorem RowValO.below {w w' : World} {v : Value} {n : Nat} {X : Nat → Int} (h : RowValO w v n X) (hb : Below w.heap.size w w') : RowValO w' v n X := by
  rcases h with h | ⟨b, o, c, h1, h2⟩
  · exact .inl h
  · exact .inr ⟨b, o, c, h1, h2.below (Nat.le_refl _) hb⟩
/-- All the rows behind each other. -/
def joinVO (N : Nat → Nat) (XX : Nat → Nat → Int) : Nat → List Value
  | 0 => []
  | k + 1 => joinVO N XX k ++ cellsL (N k) (XX k)
theorem joinV_lenO (N : Nat → Nat) (XX : Nat → Nat → Int) : ∀ k, (joinVO N XX k).length = tot N k
  | 0 => rfl
  | k + 1 => by show (joinVO N XX k ++ cellsL (N k) (XX k)).length = tot N k + N k; rw [List.length_append, joinV_lenO N XX k, cellsL_length]
set_option maxRecDepth 100000 in
set_option maxHeartbeats 1600000 in
theorem concat_anyO (q c b : Nat) (V : Nat → Value) (N : Nat → Nat) (XX : Nat → Nat → Int) (w : World) (hq : q ≤ 1048576) (hs : tot N q ≤ 1048576) (hc0 : ∀ r, r < q → w.cell? ⟨b, r, none⟩ = some (V r) ∧ RowValO w (V r) (N r) (XX r)) :
    Calls Try.prog 44 #[.slice (some ⟨b, 0, none⟩) q c] w fun e w' => ∃ v, e = .returned v ∧ w'.ownsRow w.heap.size 3 1 v (tot N q) (joinVO N XX q) ∧ Below w.heap.size w w' := by
  obtain ⟨i0, hi, hz0, hz1, hz2⟩ := info_parts Try.infoInt
  have HC := Lib.hid hc0
  have HT := Lib.hid (fun k (hk : k ≤ q) => Nat.le_trans (tot_mono hk) hs)
  clear hc0
  go_enter Try.func44, Try.ntmps44
  go_wp2
  go_loop [3, 5, 11] (fun s _ i => ∃ k : Nat, k ≤ q ∧ i = .int .i64 k ∧ s = .int .i64 (tot N k : Nat)) (fun _ _ i => q - (intOf i).toNat)
  case atStart => exact ⟨0, Nat.zero_le _, rfl, rfl⟩
  case round =>
    obtain ⟨k, hk, rfl, rfl⟩ := hrel
    by_cases hlt : k < q
    · have hck := (HC.out k hlt).1
      have hv := (HC.out k hlt).2
      have hk1 := HT.out (k + 1) (by omega)
      obtain ⟨T, hT⟩ : ∃ T, T = tot N k := ⟨_, rfl⟩
      obtain ⟨M, hM⟩ : ∃ M, M = N k := ⟨_, rfl⟩
      have hsum : T + M ≤ 1048576 := by rw [hT, hM]; exact hk1
      have E := Lib.hid (show tot N (k + 1) = T + M by rw [hT, hM]; rfl)
      rw [← hT]
      rw [← hM] at hv
      clear hT hM hk1
      rcases hv with ⟨hv, hM0⟩ | ⟨bb, ob, cb, hv, _⟩
      · rw [hv] at hck
        have HM0 := Lib.hid hM0
        clear hv hM0
        go_wp2
        go_round
        case rel => exact ⟨k + 1, by omega, by go_num, by rw [E.out, HM0.out]; rfl⟩
        case measure => simp [intOf]; omega
      · rw [hv] at hck
        clear hv
        go_wp2
        go_round
        case rel => exact ⟨k + 1, by omega, by go_num, by rw [E.out]; go_num⟩
        case measure => simp [intOf]; omega
    · obtain rfl : k = q := by omega
      have HG := Lib.hid (growNil_anyO (tot N k) w hs)
      obtain ⟨T, hT⟩ : ∃ T, T = tot N k := ⟨_, rfl⟩
      rw [← hT] at HG hs ⊢
      have QT := Lib.hid hT
      clear hT
      go_wp2_with (go_at_call 54; refine HG.out.mono ?_; rintro e w1 ⟨v1, rfl, hO1, hB1⟩; have O1 := Lib.hid hO1; have B1 := Lib.hid hB1; clear hO1 hB1)
      go_loopw [6, 8, 27] (fun ov _ i wr => ∃ (j : Nat) (nv : Value), j ≤ k ∧ i = .int .i64 j ∧ nv = ov ∧ wr.ownsRow w.heap.size 3 1 nv (tot N j) (joinVO N XX j) ∧ Below w.heap.size w wr) (fun _ _ i _ => k - (intOf i).toNat)
      case atStart => exact ⟨0, v1, Nat.zero_le _, rfl, rfl, O1.out, B1.out⟩
      case round =>
        obtain ⟨j, nv, hj, rfl, rfl, hO, hB⟩ := hrel
        have HO := Lib.hid hO
        have HB := Lib.hid hB
        clear hO hB O1 B1
        by_cases hjl : j < k
        · have hcj : wr.cell? ⟨b, j, none⟩ = some (V j) := (HB.out.cell (p := ⟨b, j, none⟩) (World.block_lt_of_cell? _ _ (HC.out j hjl).1)).trans (HC.out j hjl).1
          have hv := (HC.out j hjl).2.below HB.out
          have hk1 := HT.out (j + 1) (by omega)
          have hsz := HB.out.size
          obtain ⟨S, hS⟩ : ∃ S, S = tot N j := ⟨_, rfl⟩
          obtain ⟨M, hM⟩ : ∃ M, M = N j := ⟨_, rfl⟩
          have hsum : S + M ≤ 1048576 := by rw [hS, hM]; exact hk1
          have E := Lib.hid (show tot N (j + 1) = S + M by rw [hS, hM]; rfl)
          have HO2 := Lib.hid (show wr.ownsRow w.heap.size 3 1 nv S (joinVO N XX j) by rw [hS]; exact HO.out)
          rw [← hM] at hv
          have QM := Lib.hid hM
          clear hS hM hk1 HO
          rcases hv with ⟨hv, hM0⟩ | ⟨bb, ob, cb, hv, hrd⟩
          · rw [hv] at hcj
            have EJ := Lib.hid (show joinVO N XX (j + 1) = joinVO N XX j by show joinVO N XX j ++ cellsL (N j) (XX j) = _; rw [← QM.out, hM0]; simp [cellsL, cellsV])
            have EM := Lib.hid hM0
            clear hv hM0
            go_wp2_with (at_builtin; refine wpList_append_own_none (by rfl) _ _ 38 (by rfl) w.heap.size 3 i0 1 Try.underlying38 hi _ _ _ (by rfl) HO2.out (by rfl) ?_)
            go_roundw
            case rel => exact ⟨j + 1, nv, by omega, by go_num, rfl, by rw [E.out, EM.out, Nat.add_zero, EJ.out]; exact HO2.out, HB.out⟩
            case measure => simp [intOf]; omega
          · rw [hv] at hcj
            have HR := Lib.hid hrd
            clear hv hrd
            have EJ := Lib.hid (show joinVO N XX (j + 1) = joinVO N XX j ++ cellsL M (XX j) by show joinVO N XX j ++ cellsL (N j) (XX j) = _; rw [← QM.out])
            go_wp2_with (at_builtin; refine wpList_append_gen _ (by rfl) _ _ 38 (by rfl) w.heap.size 3 i0 (.int .i64 0) 8 Try.underlying38 hi hz0 hz1 hz2 (by rfl) _ _ _ (by rfl) HO2.out ⟨bb, ob, none⟩ M cb (cellsL M (XX j)) (by rfl) (cellsL_length _ _) (HR.out.news (Below.refl _ _)) (cellsL_one _ _) (by unfold maxLen; omega) (by omega) hsz ?_; intro v2 w2 hown2 hgrow2 hat2; have O2 := Lib.hid hown2; have G2 := Lib.hid hgrow2; clear hown2 hgrow2 hat2)
            go_roundw
            case rel => exact ⟨j + 1, v2, by omega, by go_num, rfl, by rw [E.out, EJ.out]; exact O2.out, HB.out.grown G2.out hsz (fun x hx => (HO2.out.lt x hx).1)⟩
            case measure => simp [intOf]; omega
        · obtain rfl : j = k := by omega
          go_wp2
          go_ret
          exact ⟨_, rfl, by rw [QT.out]; exact HO.out, HB.out⟩

set_option maxHeartbeats 800000 in
/-- Concat at odds and a number, just as the program lays them. -/
theorem concatOdds_any (m ba oa c : Nat) (X : Nat → Int) (x : Int) (w : World) (hm : m ≤ 1000) (hr : Rd w (some ⟨ba, oa, none⟩) m X) :
    Calls Try.prog 44 #[.slice (some ⟨w.heap.size + 1, 0, none⟩) 2 2] ((w.alloc (.cells #[.int .i64 x] 3)).alloc (.cells #[.slice (some ⟨ba, oa, none⟩) m c, .slice (some ⟨w.heap.size, 0, none⟩) 1 1] 38)) fun e w' =>
      ∃ g cap, e = .returned (.slice (some ⟨g, 0, none⟩) (m + 1) cap) ∧ Rd w' (some ⟨g, 0, none⟩) (m + 1) (snocF X m x) ∧ Below w.heap.size w w' := by
  have b1 := below_alloc (Below.refl w.heap.size w) (.cells #[.int .i64 x] 3)
  obtain ⟨w1, hw1⟩ : ∃ w1, w1 = w.alloc (.cells #[.int .i64 x] 3) := ⟨_, rfl⟩
  have hs1 : w1.heap.size = w.heap.size + 1 := by rw [hw1]; simp
  have hx := heap_alloc_last w (.cells #[.int .i64 x] 3)
  rw [← hw1] at b1 hx ⊢
  clear hw1
  have b2 := below_alloc (Below.refl w1.heap.size w1) (.cells #[.slice (some ⟨ba, oa, none⟩) m c, .slice (some ⟨w.heap.size, 0, none⟩) 1 1] 38)
  have hx2 := heap_alloc_last w1 (.cells #[.slice (some ⟨ba, oa, none⟩) m c, .slice (some ⟨w.heap.size, 0, none⟩) 1 1] 38)
  rw [hs1] at hx2
  obtain ⟨w2, hw2⟩ : ∃ w2, w2 = w1.alloc (.cells #[.slice (some ⟨ba, oa, none⟩) m c, .slice (some ⟨w.heap.size, 0, none⟩) 1 1] 38) := ⟨_, rfl⟩
  have hs2 : w2.heap.size = w.heap.size + 2 := by rw [hw2]; simp [hs1]
  rw [← hw2] at b2 hx2 ⊢
  clear hw2
  have hb : Below w.heap.size w w2 := b1.trans (b2.mono (by omega))
  have hxx : w2.heap[w.heap.size]? = some (.cells #[.int .i64 x] 3 (0, 0)) := (b2.block _ (by omega)).trans hx
  have hx0 := cell_of_row w2 (w.heap.size + 1) 0 _ _ _ hx2
  have hx1 := cell_of_row w2 (w.heap.size + 1) 1 _ _ _ hx2
  have hxc := cell_of_row w2 w.heap.size 0 _ _ _ hxx
  have h := concat_anyO 2 2 (w.heap.size + 1) (fun r => if r = 0 then .slice (some ⟨ba, oa, none⟩) m c else .slice (some ⟨w.heap.size, 0, none⟩) 1 1) (fun r => if r = 0 then m else 1) (fun r => if r = 0 then X else fun _ => x) w2 (by omega)
    (by show 0 + (if 0 = 0 then m else 1) + (if 1 = 0 then m else 1) ≤ _; simp; omega)
    (fun r hr' => by
      by_cases e : r = 0
      · subst e
        exact ⟨hx0, .inr ⟨ba, oa, c, rfl, hr.below (Nat.le_refl _) hb⟩⟩
      · obtain rfl : r = 1 := by omega
        refine ⟨hx1, .inr ⟨w.heap.size, 0, 1, rfl, fun k hk => ⟨w.heap.size, 0, rfl, ?_⟩⟩⟩
        have hk1 : k < 1 := hk
        obtain rfl : k = 0 := by omega
        exact hxc)
  refine Calls.mono (P := Try.prog) h ?_
  rintro e w' ⟨v, rfl, hown, hbl⟩
  have e1 : tot (fun r => if r = 0 then m else 1) 2 = m + 1 := by show 0 + (if 0 = 0 then m else 1) + (if 1 = 0 then m else 1) = _; simp
  have e2 : joinVO (fun r => if r = 0 then m else 1) (fun r => if r = 0 then X else fun _ => x) 2 = cellsL (m + 1) (snocF X m x) := by
    show ([] ++ cellsL m X) ++ cellsL 1 (fun _ => x) = _
    rw [show cellsL 1 (fun _ => x) = [.int .i64 x] from rfl, List.nil_append, cellsL_snoc]
    rfl
  rw [e1, e2] at hown
  obtain ⟨g, cap, rfl⟩ := owns_form hown (Nat.succ_pos _)
  exact ⟨g, cap, rfl, owns_rd hown, hb.trans (hbl.mono (by omega))⟩
end Go.Proofs.Ytimkgplabbcklaa
