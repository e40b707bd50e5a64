/- The library's Concat; the program's deals. -/
import Derived.Test.YtaipodnhnekpjaaAppendRows
import Derived.Test.YtaipodnhnekpjaaInfoInts
import Derived.Test.YtaipodnhnekpjaaProg
import Derived.Laws.AppendOwnNone
import Derived.Lib.AppendZeros
import Derived.Lib.AppendZerosOnto
import Derived.Test.YtaipodnhnekpjaaReadBids
import Derived.Test.YtaipodnhnekpjaaContains
/- The library's slices.Concat at rows of integers, and slices.Grow at the nil slice. -/
namespace Go.Proofs.Ytaipodnhnekpjaa
set_option linter.unusedVariables false
set_option linter.unusedSimpArgs false
open Go.RowKit

theorem zeroCells_size (n : Nat) : (Builtin.zeroCells #[Value.int .i64 0] n).size = n := by simp [Builtin.zeroCells]

set_option maxHeartbeats 800000 in
theorem growNil_any (n : Nat) (w : World) (hn : n ≤ 1048576) :
    Calls Try.prog 114 #[.slice none 0 0, .int .i64 (n : Nat)] w fun e w' => ∃ v, e = .returned v ∧ w'.ownsRow w.heap.size 3 1 v 0 [] ∧ Below w.heap.size w w' := by
  obtain ⟨i0, hi, hz0, hz1, hz2⟩ := info_parts Try.infoInt
  have h1 : ¬ ((n : Int) < 0) := by omega
  by_cases h0 : n = 0
  · subst h0
    clear hi hz0 hz1 hz2
    go_enter Try.func114, Try.ntmps114
    go_wp2
    go_ret
    exact ⟨_, rfl, ⟨rfl, .inl ⟨rfl, rfl⟩⟩, Below.refl _ _⟩
  · have hpos : (0 : Int) < (n : Int) := by omega
    have hold : (Builtin.firstCells i0.size 0 (.slice none 0 0)).run Try.prog w.drew = .ok ([] : List Value).toArray w.drew := run_firstCells_none w.drew i0.size 0 0 0
    have hrz : ∀ ty, (Builtin.append_ #[23, 3] ty #[.slice none 0 0, .int .i64 (n : Int)]).run Try.prog w = .ok (.slice (some ⟨w.heap.size, 0, none⟩) (0 + n) (grownCap w (0 + n) 0 3)) (w.drew.alloc (.cells (([] : List Value).toArray ++ Builtin.zeroCells #[Value.int .i64 0] n ++ Builtin.zeroCells #[Value.int .i64 0] (grownCap w (0 + n) 0 3 - (0 + n))) 3)) := fun ty => by
      have h := Lib.run_append_grow_zeros (P := Try.prog) w 23 3 ty 3 i0 (.int .i64 0) .i64 .i64 Try.underlying23 Try.underlying3 hi hz0 none 0 0 [] hold n (by omega) (by omega) (by omega) (by omega) (by rw [hz2]; omega) (growslice_fits (by omega) (by rw [hz2]; omega))
      exact h
    have hGn : 0 + n ≤ grownCap w (0 + n) 0 3 := grownCap_ge w _ _ _
    have hGm := grownCap_le_maxLen w (0 + n) 0 3 (by unfold maxLen; omega)
    obtain ⟨G, hG⟩ : ∃ G, G = grownCap w (0 + n) 0 3 := ⟨_, rfl⟩
    rw [← hG] at hrz hGn hGm
    have hG63 : G ≤ 9223372036854775807 := by unfold maxLen at hGm; omega
    have HGm := Lib.hid hGm
    clear hold hG hi hz0 hz1 hz2 hGm h0
    go_enter Try.func114, Try.ntmps114
    go_wp2_with (at_builtin; refine Lib.wpList_append_run _ rfl _ _ _ _ rfl _ _ rfl rfl _ _ (hrz _) ?_)
    go_ret
    refine ⟨_, rfl, ⟨rfl, .inr ⟨w.heap.size, G, _, rfl, Nat.le_refl _, heap_alloc_last w.drew _, Nat.zero_le _, HGm.out, ?_, by simp⟩⟩, below_drewN (below_alloc (Below.refl w.heap.size w) _) 1⟩
    simp [zeroCells_size]
    omega

/-- A slice of n integers as a value, nil too. -/
def RowVal (w : World) (v : Value) (n : Nat) (X : Nat → Int) : Prop := (v = .slice none 0 0 ∧ n = 0) ∨ ∃ b o c, v = .slice (some ⟨b, o, none⟩) n c ∧ Rd w (some ⟨b, o, none⟩) n X
theorem RowVal.below {w w' : World} {v : Value} {n : Nat} {X : Nat → Int} (h : RowVal w v n X) (hb : Below w.heap.size w w') : RowVal w' v n X := by
  rcases h with h | ⟨b, o, c, h1, h2⟩
  · exact .inl h
  · exact .inr ⟨b, o, c, h1, h2.below (Nat.le_refl _) hb⟩
/-- All the rows behind each other. -/
def joinV (N : Nat → Nat) (XX : Nat → Nat → Int) : Nat → List Value
  | 0 => []
  | k + 1 => joinV N XX k ++ cellsL (N k) (XX k)
theorem joinV_len (N : Nat → Nat) (XX : Nat → Nat → Int) : ∀ k, (joinV N XX k).length = tot N k
  | 0 => rfl
  | k + 1 => by show (joinV N XX k ++ cellsL (N k) (XX k)).length = tot N k + N k; rw [List.length_append, joinV_len N XX k, cellsL_length]
set_option maxRecDepth 100000 in
set_option maxHeartbeats 1600000 in
theorem concat_any (q c b : Nat) (V : Nat → Value) (N : Nat → Nat) (XX : Nat → Nat → Int) (w : World) (hq : q ≤ 1048576) (hs : tot N q ≤ 1048576) (hc0 : ∀ r, r < q → w.cell? ⟨b, r, none⟩ = some (V r) ∧ RowVal w (V r) (N r) (XX r)) :
    Calls Try.prog 93 #[.slice (some ⟨b, 0, none⟩) q c] w fun e w' => ∃ v, e = .returned v ∧ w'.ownsRow w.heap.size 3 1 v (tot N q) (joinV N XX q) ∧ Below w.heap.size w w' := by
  obtain ⟨i0, hi, hz0, hz1, hz2⟩ := info_parts Try.infoInt
  have HC := Lib.hid hc0
  have HT := Lib.hid (fun k (hk : k ≤ q) => Nat.le_trans (tot_mono hk) hs)
  clear hc0
  go_enter Try.func93, Try.ntmps93
  go_wp2
  go_loop [3, 5, 11] (fun s _ i => ∃ k : Nat, k ≤ q ∧ i = .int .i64 k ∧ s = .int .i64 (tot N k : Nat)) (fun _ _ i => q - (intOf i).toNat)
  case atStart => exact ⟨0, Nat.zero_le _, rfl, rfl⟩
  case round =>
    obtain ⟨k, hk, rfl, rfl⟩ := hrel
    by_cases hlt : k < q
    · have hck := (HC.out k hlt).1
      have hv := (HC.out k hlt).2
      have hk1 := HT.out (k + 1) (by omega)
      obtain ⟨T, hT⟩ : ∃ T, T = tot N k := ⟨_, rfl⟩
      obtain ⟨M, hM⟩ : ∃ M, M = N k := ⟨_, rfl⟩
      have hsum : T + M ≤ 1048576 := by rw [hT, hM]; exact hk1
      have E := Lib.hid (show tot N (k + 1) = T + M by rw [hT, hM]; rfl)
      rw [← hT]
      rw [← hM] at hv
      clear hT hM hk1
      rcases hv with ⟨hv, hM0⟩ | ⟨bb, ob, cb, hv, _⟩
      · rw [hv] at hck
        have HM0 := Lib.hid hM0
        clear hv hM0
        go_wp2
        go_round
        case rel => exact ⟨k + 1, by omega, by go_num, by rw [E.out, HM0.out]; rfl⟩
        case measure => simp [intOf]; omega
      · rw [hv] at hck
        clear hv
        go_wp2
        go_round
        case rel => exact ⟨k + 1, by omega, by go_num, by rw [E.out]; go_num⟩
        case measure => simp [intOf]; omega
    · obtain rfl : k = q := by omega
      have HG := Lib.hid (growNil_any (tot N k) w hs)
      obtain ⟨T, hT⟩ : ∃ T, T = tot N k := ⟨_, rfl⟩
      rw [← hT] at HG hs ⊢
      have QT := Lib.hid hT
      clear hT
      go_wp2_with (go_at_call 114; refine HG.out.mono ?_; rintro e w1 ⟨v1, rfl, hO1, hB1⟩; have O1 := Lib.hid hO1; have B1 := Lib.hid hB1; clear hO1 hB1)
      go_loopw [6, 8, 27] (fun ov _ i wr => ∃ (j : Nat) (nv : Value), j ≤ k ∧ i = .int .i64 j ∧ nv = ov ∧ wr.ownsRow w.heap.size 3 1 nv (tot N j) (joinV N XX j) ∧ Below w.heap.size w wr) (fun _ _ i _ => k - (intOf i).toNat)
      case atStart => exact ⟨0, v1, Nat.zero_le _, rfl, rfl, O1.out, B1.out⟩
      case round =>
        obtain ⟨j, nv, hj, rfl, rfl, hO, hB⟩ := hrel
        have HO := Lib.hid hO
        have HB := Lib.hid hB
        clear hO hB O1 B1
        by_cases hjl : j < k
        · have hcj : wr.cell? ⟨b, j, none⟩ = some (V j) := (HB.out.cell (p := ⟨b, j, none⟩) (World.block_lt_of_cell? _ _ (HC.out j hjl).1)).trans (HC.out j hjl).1
          have hv := (HC.out j hjl).2.below HB.out
          have hk1 := HT.out (j + 1) (by omega)
          have hsz := HB.out.size
          obtain ⟨S, hS⟩ : ∃ S, S = tot N j := ⟨_, rfl⟩
          obtain ⟨M, hM⟩ : ∃ M, M = N j := ⟨_, rfl⟩
          have hsum : S + M ≤ 1048576 := by rw [hS, hM]; exact hk1
          have E := Lib.hid (show tot N (j + 1) = S + M by rw [hS, hM]; rfl)
          have HO2 := Lib.hid (show wr.ownsRow w.heap.size 3 1 nv S (joinV N XX j) by rw [hS]; exact HO.out)
          rw [← hM] at hv
          have QM := Lib.hid hM
          clear hS hM hk1 HO
          rcases hv with ⟨hv, hM0⟩ | ⟨bb, ob, cb, hv, hrd⟩
          · rw [hv] at hcj
            have EJ := Lib.hid (show joinV N XX (j + 1) = joinV N XX j by show joinV N XX j ++ cellsL (N j) (XX j) = _; rw [← QM.out, hM0]; simp [cellsL, cellsV])
            have EM := Lib.hid hM0
            clear hv hM0
            go_wp2_with (at_builtin; refine wpList_append_own_none (by rfl) _ _ 23 (by rfl) w.heap.size 3 i0 1 Try.underlying23 hi _ _ _ (by rfl) HO2.out (by rfl) ?_)
            go_roundw
            case rel => exact ⟨j + 1, nv, by omega, by go_num, rfl, by rw [E.out, EM.out, Nat.add_zero, EJ.out]; exact HO2.out, HB.out⟩
            case measure => simp [intOf]; omega
          · rw [hv] at hcj
            have HR := Lib.hid hrd
            clear hv hrd
            have EJ := Lib.hid (show joinV N XX (j + 1) = joinV N XX j ++ cellsL M (XX j) by show joinV N XX j ++ cellsL (N j) (XX j) = _; rw [← QM.out])
            go_wp2_with (at_builtin; refine wpList_append_gen _ (by rfl) _ _ 23 (by rfl) w.heap.size 3 i0 (.int .i64 0) 8 Try.underlying23 hi hz0 hz1 hz2 (by rfl) _ _ _ (by rfl) HO2.out ⟨bb, ob, none⟩ M cb (cellsL M (XX j)) (by rfl) (cellsL_length _ _) (HR.out.news (Below.refl _ _)) (cellsL_one _ _) (by unfold maxLen; omega) (by omega) hsz ?_; intro v2 w2 hown2 hgrow2 hat2; have O2 := Lib.hid hown2; have G2 := Lib.hid hgrow2; clear hown2 hgrow2 hat2)
            go_roundw
            case rel => exact ⟨j + 1, v2, by omega, by go_num, rfl, by rw [E.out, EJ.out]; exact O2.out, HB.out.grown G2.out hsz (fun x hx => (HO2.out.lt x hx).1)⟩
            case measure => simp [intOf]; omega
        · obtain rfl : j = k := by omega
          go_wp2
          go_ret
          exact ⟨_, rfl, by rw [QT.out]; exact HO.out, HB.out⟩
end Go.Proofs.Ytaipodnhnekpjaa

/- The program's deals: all deals, bidder by bidder. -/
namespace Go.Proofs.Ytaipodnhnekpjaa
set_option linter.unusedVariables false
set_option linter.unusedSimpArgs false
open Go.RowKit

theorem RowVal.rd {w : World} {v : Value} {n : Nat} {X : Nat → Int} (h : RowVal w v n X) : ∃ a c, v = .slice a n c ∧ Rd w a n X := by
  rcases h with ⟨h, rfl⟩ | ⟨b, o, c, h1, h2⟩
  · exact ⟨none, 0, h, fun k hk => absurd hk (Nat.not_lt_zero _)⟩
  · exact ⟨_, c, h1, h2⟩
theorem RowVal.one {w : World} {v : Value} {n : Nat} {X : Nat → Int} (h : RowVal w v n X) : v.oneCell' = true := by
  rcases h with ⟨rfl, _⟩ | ⟨b, o, c, rfl, _⟩ <;> rfl
/-- A table whose rows may be nil: row r at ⟨g, r⟩. -/
def RowsAt (w : World) (g : Nat) (LL : List (List Int)) : Prop := ∀ r, r < LL.length → ∃ v, w.cell? ⟨g, r, none⟩ = some v ∧ RowVal w v (lenL LL r) (nthL LL r)
theorem RowsAt.below {w w' : World} {g : Nat} {LL : List (List Int)} (h : RowsAt w g LL) (hb : Below w.heap.size w w') : RowsAt w' g LL := fun r hr => by
  obtain ⟨v, h1, h2⟩ := h r hr
  exact ⟨v, (hb.cell (p := ⟨g, r, none⟩) (World.block_lt_of_cell? _ _ h1)).trans h1, h2.below hb⟩
theorem Making.rowsAt {tS B g cap : Nat} {w : World} {LL : List (List Int)} {G Cp : Nat → Nat} (h : Making tS B w (.slice (some ⟨g, 0, none⟩) LL.length cap) LL.length G Cp (lenL LL) (nthL LL)) : RowsAt w g LL := fun r hr => by
  have h1 := h.1.cells (g := g) rfl r (.slice (some ⟨G r, 0, none⟩) (lenL LL r) (Cp r)) (by simp [hr])
  rw [Go.WideShapes.add_plain, Nat.zero_add] at h1
  exact ⟨_, h1, .inr ⟨G r, 0, Cp r, rfl, (h.2.1 r hr).2.2.2.rd⟩⟩
/-- The row that Concat makes of a deal and an item. -/
theorem concat_row {w1 : World} {base tI : Nat} {v : Value} {D : List Int} {x : Int} {N : Nat → Nat} {XX : Nat → Nat → Int} (h : w1.ownsRow base tI 1 v (tot N 2) (joinV N XX 2)) (h0 : N 0 = D.length) (h1 : N 1 = 1) (hx : XX 0 = nth D) (hy : XX 1 0 = x) : ∃ g cap, v = .slice (some ⟨g, 0, none⟩) (D ++ [x]).length cap ∧ base ≤ g ∧ g < w1.heap.size ∧ OwnR w1 g (some ⟨g, 0, none⟩) (D ++ [x]).length (nth (D ++ [x])) := by
  have e1 : tot N 2 = D.length + 1 := by show 0 + N 0 + N 1 = _; omega
  have e2 : joinV N XX 2 = cellsL (D.length + 1) (nth (D ++ [x])) := by
    show ([] ++ cellsL (N 0) (XX 0)) ++ cellsL (N 1) (XX 1) = _
    rw [h0, h1, hx, show cellsL 1 (XX 1) = [.int .i64 x] from by rw [← hy]; rfl, List.nil_append, cellsL_snoc]
    unfold cellsL
    exact List.map_congr_left fun k hk => by rw [snoc_nth (List.mem_range.1 hk)]
  rw [e1, e2] at h
  obtain ⟨g, cap, rfl⟩ := owns_form h (Nat.succ_pos _)
  have hlt := h.lt g rfl
  refine ⟨g, cap, by rw [List.length_append]; rfl, hlt.1, hlt.2, ?_⟩
  rw [List.length_append]
  exact OwnR.of_owns h

set_option maxHeartbeats 800000 in
/-- Concat at a deal and an item, just as the program lays them. -/
theorem concatDeal_any (D : List Int) (x : Int) (aD : Option Addr) (cD : Nat) (w : World) (hD : D.length ≤ 1000) (hr : RowVal w (.slice aD D.length cD) D.length (nth D)) :
    Calls Try.prog 93 #[.slice (some ⟨w.heap.size + 1, 0, none⟩) 2 2] ((w.alloc (.cells #[.int .i64 x] 3)).alloc (.cells #[.slice aD D.length cD, .slice (some ⟨w.heap.size, 0, none⟩) 1 1] 23)) fun e w' =>
      ∃ g cap, e = .returned (.slice (some ⟨g, 0, none⟩) (D.length + 1) cap) ∧ w.heap.size ≤ g ∧ g < w'.heap.size ∧ OwnR w' g (some ⟨g, 0, none⟩) (D ++ [x]).length (nth (D ++ [x])) ∧ Below w.heap.size w w' := by
  have b1 := below_alloc (Below.refl w.heap.size w) (.cells #[.int .i64 x] 3)
  obtain ⟨w1, hw1⟩ : ∃ w1, w1 = w.alloc (.cells #[.int .i64 x] 3) := ⟨_, rfl⟩
  have hs1 : w1.heap.size = w.heap.size + 1 := by rw [hw1]; simp
  have hx := heap_alloc_last w (.cells #[.int .i64 x] 3)
  rw [← hw1] at b1 hx ⊢
  clear hw1
  have b2 := below_alloc (Below.refl w1.heap.size w1) (.cells #[.slice aD D.length cD, .slice (some ⟨w.heap.size, 0, none⟩) 1 1] 23)
  have hx2 := heap_alloc_last w1 (.cells #[.slice aD D.length cD, .slice (some ⟨w.heap.size, 0, none⟩) 1 1] 23)
  rw [hs1] at hx2
  obtain ⟨w2, hw2⟩ : ∃ w2, w2 = w1.alloc (.cells #[.slice aD D.length cD, .slice (some ⟨w.heap.size, 0, none⟩) 1 1] 23) := ⟨_, rfl⟩
  have hs2 : w2.heap.size = w.heap.size + 2 := by rw [hw2]; simp [hs1]
  rw [← hw2] at b2 hx2 ⊢
  clear hw2
  have hb : Below w.heap.size w w2 := b1.trans (b2.mono (by omega))
  have hxx : w2.heap[w.heap.size]? = some (.cells #[.int .i64 x] 3 (0, 0)) := (b2.block _ (by omega)).trans hx
  have hx0 := cell_of_row w2 (w.heap.size + 1) 0 _ _ _ hx2
  have hx1 := cell_of_row w2 (w.heap.size + 1) 1 _ _ _ hx2
  have hxc := cell_of_row w2 w.heap.size 0 _ _ _ hxx
  have h := concat_any 2 2 (w.heap.size + 1) (fun r => if r = 0 then .slice aD D.length cD else .slice (some ⟨w.heap.size, 0, none⟩) 1 1) (fun r => if r = 0 then D.length else 1) (fun r => if r = 0 then nth D else fun _ => x) w2 (by omega)
    (by show 0 + (if 0 = 0 then D.length else 1) + (if 1 = 0 then D.length else 1) ≤ _; simp; omega)
    (fun r hr' => by
      by_cases e : r = 0
      · subst e
        exact ⟨hx0, hr.below hb⟩
      · obtain rfl : r = 1 := by omega
        refine ⟨hx1, .inr ⟨w.heap.size, 0, 1, rfl, fun k hk => ⟨w.heap.size, 0, rfl, ?_⟩⟩⟩
        have hk1 : k < 1 := hk
        obtain rfl : k = 0 := by omega
        exact hxc)
  refine Calls.mono (P := Try.prog) h ?_
  rintro e w' ⟨v, rfl, hown, hbl⟩
  obtain ⟨g, cap, rfl, h1, h2, h3⟩ := concat_row (D := D) (x := x) hown rfl rfl rfl rfl
  exact ⟨g, cap, by rw [List.length_append]; rfl, by omega, h2, h3, hb.trans (hbl.mono (by omega))⟩

theorem extTo_new {D : List Int} {t : Nat} (h : t = 0 ∨ ¬ ((t : Int) - 1) ∈ D) : extTo D (t + 1) = extTo D t ++ [D ++ [(t : Int) - 1]] := by
  show extTo D t ++ (if t = 0 then [D ++ [-1]] else if ((t : Int) - 1) ∈ D then [] else [D ++ [(t : Int) - 1]]) = _
  by_cases h0 : t = 0
  · rw [if_pos h0, h0]; rfl
  · rw [if_neg h0, if_neg (h.resolve_left h0)]
theorem extTo_old {D : List Int} {t : Nat} (h0 : t ≠ 0) (h : ((t : Int) - 1) ∈ D) : extTo D (t + 1) = extTo D t := by
  show extTo D t ++ (if t = 0 then [D ++ [-1]] else if ((t : Int) - 1) ∈ D then [] else [D ++ [(t : Int) - 1]]) = _
  rw [if_neg h0, if_pos h, List.append_nil]
theorem hasI_mem {D : List Int} {x : Int} : HasI D.length (nth D) x ↔ x ∈ D := by rw [mem_nth]; rfl
/-- What is grown out of the first j deals. -/
def grownTo (m : Nat) (LL : List (List Int)) (j : Nat) : List (List Int) := (LL.take j).flatMap (extD m)
theorem grownTo_next {m : Nat} {LL : List (List Int)} {j : Nat} (h : j < LL.length) : grownTo m LL j ++ extTo (LL.getD j []) (m + 1) = grownTo m LL (j + 1) := by
  unfold grownTo
  rw [take_snoc h, List.flatMap_append, extTo_all]
  simp
theorem grownTo_le {m : Nat} {LL : List (List Int)} {j : Nat} : (grownTo m LL j).length ≤ j * (m + 1) := by
  have h := flatL_le (g := extD m) (q := m + 1) (l := LL.take j) fun x _ => extD_le x
  have h2 : (LL.take j).length * (m + 1) ≤ j * (m + 1) := Nat.mul_le_mul_right _ (by rw [List.length_take]; omega)
  unfold grownTo
  omega

set_option maxRecDepth 100000 in
set_option maxHeartbeats 3200000 in
theorem bidDeals_any (n c m : Nat) (a : Option Addr) (A : Nat → Option Addr) (L C : Nat → Nat) (Z : Nat → Nat → Int) (w : World) (hn1 : 1 ≤ n) (hn : n ≤ 4) (hm0 : m = L 0) (hm5 : m ≤ 5) (ha0 : Tab w a n A L C Z) :
    Calls Try.prog 54 #[.slice a n c] w (RetLS 23 (dealsP m n) w) := by
  obtain ⟨i1, hj, hy0, hy1, hy2⟩ := info_parts Try.infoInts
  have HI := Lib.hid (fun w' (hb : Below w.heap.size w w') => by have h := bidItems_any n c a A L C Z w' (by omega) (ha0.below (Nat.le_refl _) hb); rw [← hm0] at h; exact h)
  have R0 := Lib.hid (show RowsAt (w.alloc (.cells #[.slice none 0 0] 23)) w.heap.size (dealsP m 0) from fun r hr => by
    obtain rfl : r = 0 := by have h : r < 1 := hr; omega
    exact ⟨_, cell_of_row _ _ 0 _ _ _ (heap_alloc_last w _), .inl ⟨rfl, rfl⟩⟩)
  clear ha0 hm0
  go_enter Try.func54, Try.ntmps54
  go_wp2
  go_loopw [3, 11] (fun ds k wr => ∃ i g cap : Nat, i ≤ n ∧ k = .int .i64 i ∧ ds = .slice (some ⟨g, 0, none⟩) (dealsP m i).length cap ∧ RowsAt wr g (dealsP m i) ∧ (0 < i → ∃ G Cp, Making 23 w.heap.size wr (.slice (some ⟨g, 0, none⟩) (dealsP m i).length cap) (dealsP m i).length G Cp (lenL (dealsP m i)) (nthL (dealsP m i))) ∧ Below w.heap.size w wr) (fun _ k _ => n - (intOf k).toNat)
  case atStart => exact ⟨0, w.heap.size, 1, Nat.zero_le _, rfl, rfl, R0.out, fun h => absurd h (Nat.lt_irrefl _), below_alloc (Below.refl _ _) _⟩
  case round =>
    obtain ⟨i, g, cap, hi, rfl, rfl, hR, hMk, hB⟩ := hrel
    have HR := Lib.hid hR
    have HMk := Lib.hid hMk
    have HB := Lib.hid hB
    clear hR hMk hB R0
    by_cases hlt : i < n
    · obtain ⟨LL, hLL⟩ : ∃ LL, LL = dealsP m i := ⟨_, rfl⟩
      have hLl : LL.length ≤ 1296 := by rw [hLL]; exact dealsP_small hm5 (by omega)
      have hlen : ∀ r, r < LL.length → lenL LL r = i := fun r hr => by
        have : LL.getD r [] ∈ dealsP m i := by rw [← hLL, List.getD_eq_getElem?_getD, List.getElem?_eq_getElem hr]; exact List.getElem_mem hr
        exact dealsP_len this
      have HLen := Lib.hid hlen
      have QLL := Lib.hid hLL
      have HRL := Lib.hid (show RowsAt wr g LL by rw [hLL]; exact HR.out)
      obtain ⟨M, hM⟩ : ∃ M, M = LL.length := ⟨_, rfl⟩
      rw [← hLL, ← hM]
      have hM1296 : M ≤ 1296 := by omega
      have QM := Lib.hid hM
      have M0 := Lib.hid (Making.start 23 wr.heap.size wr (.slice none 0 0) (fun _ => 0) (fun _ => 0) (lenL (grownTo m LL 0)) (nthL (grownTo m LL 0)) ⟨rfl, .inl ⟨rfl, rfl⟩⟩)
      clear hlen hLL hLl hM HR HMk
      obtain ⟨wo, rfl⟩ : ∃ wo, wo = wr := ⟨_, rfl⟩
      go_wp2
      go_loopw [4, 15] (fun gv k wx => ∃ (j : Nat) (v : Value) (G Cp : Nat → Nat), j ≤ M ∧ k = .int .i64 j ∧ v = gv ∧ Making 23 wo.heap.size wx v (grownTo m LL j).length G Cp (lenL (grownTo m LL j)) (nthL (grownTo m LL j)) ∧ Below wo.heap.size wo wx) (fun _ k _ => M - (intOf k).toNat)
      case atStart => exact ⟨0, _, _, _, Nat.zero_le _, rfl, rfl, M0.out, Below.refl _ _⟩
      case round =>
        obtain ⟨j, v, G, Cp, hjM, rfl, rfl, hMk, hB⟩ := hrel
        have HMk := Lib.hid hMk
        have BX := Lib.hid hB
        clear hMk hB M0
        by_cases hjl : j < M
        · have hjL : j < LL.length := by rw [← QM.out]; exact hjl
          obtain ⟨vd, hcd0, hrd⟩ := HRL.out j hjL
          have hcd := (BX.out.cell (p := ⟨g, j, none⟩) (World.block_lt_of_cell? _ _ hcd0)).trans hcd0
          clear hcd0
          rw [HLen.out j hjL] at hrd
          obtain ⟨D, hD⟩ : ∃ D, D = LL.getD j [] := ⟨_, rfl⟩
          have hDl : D.length = i := by rw [hD]; exact HLen.out j hjL
          rw [show nthL LL j = nth D from by rw [hD]; rfl, ← hDl] at hrd
          have HRD := Lib.hid hrd
          obtain ⟨aD, cD, rfl, hrD⟩ := hrd.rd
          have HRI := Lib.hid hrD
          have QD := Lib.hid hD
          have HDl := Lib.hid hDl
          have HJ := Lib.hid hjL
          have M1 := Lib.hid (show Making 23 wo.heap.size wr v (grownTo m LL j ++ extTo D 0).length G Cp (lenL (grownTo m LL j ++ extTo D 0)) (nthL (grownTo m LL j ++ extTo D 0)) by rw [show extTo D 0 = [] from rfl, List.append_nil]; exact HMk.out)
          clear hrd hD hDl hjL HMk hrD
          obtain ⟨wm, rfl⟩ : ∃ wm, wm = wr := ⟨_, rfl⟩
          go_wp2
          go_loopw [4, 7] (fun gv k wy => ∃ (t : Nat) (v : Value) (G Cp : Nat → Nat), t ≤ m + 1 ∧ k = .int .i64 ((t : Int) - 1) ∧ v = gv ∧ Making 23 wo.heap.size wy v (grownTo m LL j ++ extTo D t).length G Cp (lenL (grownTo m LL j ++ extTo D t)) (nthL (grownTo m LL j ++ extTo D t)) ∧ Below wo.heap.size wo wy) (fun _ k _ => (m + 1) - ((intOf k) + 1).toNat)
          case atStart => exact ⟨0, v, G, Cp, Nat.zero_le _, rfl, rfl, M1.out, BX.out⟩
          case round =>
            obtain ⟨t, v, G, Cp, htm, rfl, rfl, hMk, hB2⟩ := hrel
            have BO := Lib.hid hB2
            have BW := Lib.hid (HB.out.trans (hB2.mono HB.out.size))
            have hso := hB2.size
            obtain ⟨LT, hLT⟩ : ∃ LT, LT = grownTo m LL j ++ extTo D t := ⟨_, rfl⟩
            have hLTl : LT.length ≤ 8000 := by
              rw [hLT, List.length_append]
              have h1 := grownTo_le (m := m) (LL := LL) (j := j)
              have h2 := extTo_le D t
              have h3 : j * (m + 1) ≤ 1296 * 6 := Nat.mul_le_mul (by omega) (by omega)
              omega
            rw [← hLT] at hMk
            have HMk := Lib.hid hMk
            have QLT := Lib.hid hLT
            obtain ⟨x, hx⟩ : ∃ x, x = (t : Int) - 1 := ⟨_, rfl⟩
            have QX := Lib.hid hx
            have HCo := Lib.hid (contains_any D.length cD aD (nth D) x wr (by have := HDl.out; omega) (HRI.out.below (Nat.le_refl _) hB2))
            have HCc := Lib.hid (concatDeal_any D x aD cD wr (by have := HDl.out; omega) (HRD.out.below hB2))
            rw [← hx]
            clear hMk hB2 hLT hx M1
            by_cases htl : t < m + 1
            · have d1 : decide (x < (m : Int)) = true := by have := QX.out; simp; omega
              have hw1 : IntKind.i64.wrap (x + 1) = x + 1 := by have := QX.out; rw [IntKind.wrap_i64]; omega
              by_cases hold : t ≠ 0 ∧ x ∈ D
              · have d2 : (x == -1) = false := by have := QX.out; exact beq_eq_false_iff_ne.2 (by omega)
                have T1 := Lib.hid (tt_of (hasI_mem.2 hold.2))
                have EX := Lib.hid (show extTo D (t + 1) = extTo D t from extTo_old hold.1 (by rw [← QX.out]; exact hold.2))
                clear hold
                go_wp2_with (first
                  | (go_at_call 61; refine (HI.out _ BW.out).mono ?_; rintro e w' ⟨rfl, rfl⟩)
                  | (go_at_call 89; refine HCo.out.mono ?_; rintro e w' ⟨rfl, rfl⟩; rw [T1.out]))
                go_roundw
                case rel => exact ⟨t + 1, v, G, Cp, by omega, by rw [QX.out]; go_num, rfl, by rw [EX.out, ← QLT.out]; exact HMk.out, BO.out⟩
                case measure => have := QX.out; simp [intOf]; omega
              · have hnew : t = 0 ∨ ¬ x ∈ D := by
                  by_cases e : t = 0
                  · exact .inl e
                  · exact .inr fun h => hold ⟨e, h⟩
                have EX := Lib.hid (show grownTo m LL j ++ extTo D (t + 1) = LT ++ [D ++ [x]] by rw [extTo_new (by rw [← QX.out]; exact hnew), ← List.append_assoc, ← QLT.out, ← QX.out])
                cases d2 : (x == -1)
                case' false =>
                  have T1 := Lib.hid (tt_no (show ¬ HasI D.length (nth D) x from fun h => by
                    rcases hnew with e | e
                    · have := QX.out
                      have := beq_eq_false_iff_ne.1 d2
                      omega
                    · exact e (hasI_mem.1 h)))
                case' true => have T1 := Lib.hid (trivial : True)
                all_goals (
                  clear hold hnew
                  go_wp2_with (first
                    | (go_at_call 61; refine (HI.out _ BW.out).mono ?_; rintro e w' ⟨rfl, rfl⟩)
                    | (go_at_call 89; refine HCo.out.mono ?_; rintro e w' ⟨rfl, rfl⟩; rw [T1.out])
                    | (go_at_call 93; refine HCc.out.mono ?_; rintro e w1 ⟨g1, cap1, rfl, hg1, hg2, hown1, hb1⟩; have O1 := Lib.hid hown1; have B1 := Lib.hid hb1; have G1 := Lib.hid (And.intro hg1 hg2); have ME := Lib.hid ((HMk.out.below hb1).below (below_alloc (Below.refl w1.heap.size w1) (.cells #[.slice (some ⟨g1, 0, none⟩) (D.length + 1) cap1] 23))); clear hown1 hg1 hg2 hb1)
                    | (at_builtin; refine wpList_append_gen _ (by rfl) (.tmp 33) (.tmp 39) 22 (by rfl) wo.heap.size 23 i1 (.slice none 0 0) 24 Try.underlying22 hj hy0 hy1 hy2 (by rfl) v LT.length _ (by rfl) ME.out.1 ⟨_, 0, none⟩ 1 1 [.slice (some ⟨g1, 0, none⟩) (D.length + 1) cap1] (by rfl) (by rfl) (news_one (by simp)) (by simp [Value.oneCell']) (by unfold maxLen; omega) (by omega) (by have := B1.out.size; simp; omega) ?_; intro v2 w2 hown2 hgrow2 hat2; have N2 := Lib.hid hown2; have G2 := Lib.hid hgrow2; have A2 := Lib.hid hat2; clear hown2 hgrow2 hat2))
                  go_roundw
                  case rel =>
                    have hg1 := G1.out
                    have hv := fun k hk => HMk.out.1.lt k hk
                    have PP := ME.out.push (x := D ++ [x]) (gr := g1) (cr := cap1) (O1.out.of_block (Below.heap_alloc _ _ _ hg1.2)) (by omega) (by simp; omega) (fun h => by have := hv _ h; omega) (fun r hr h => by have := (HMk.out.2.1 r hr).2.1; omega) (by rw [List.length_append]; exact N2.out) G2.out A2.out
                    rw [← EX.out] at PP
                    exact ⟨t + 1, v2, _, _, by omega, by rw [QX.out]; go_num, rfl, PP, (BO.out.trans ((below_alloc B1.out _).mono BO.out.size)).grown G2.out (by have := B1.out.size; simp; omega) (fun k hk => (hv k hk).1)⟩
                  case measure => have := QX.out; simp [intOf]; omega)
            · obtain rfl : t = m + 1 := by omega
              have d1 : decide (x < (m : Int)) = false := by have := QX.out; simp; omega
              have EG := Lib.hid (show grownTo m LL (j + 1) = LT by rw [QLT.out, QD.out]; exact (grownTo_next HJ.out).symm)
              go_wp2_with (go_at_call 61; refine (HI.out _ BW.out).mono ?_; rintro e w' ⟨rfl, rfl⟩)
              go_roundw
              case rel => exact ⟨j + 1, v, G, Cp, by omega, by go_num, rfl, by rw [EG.out]; exact HMk.out, BO.out⟩
              case measure => simp [intOf]; omega
        · obtain rfl : j = M := by omega
          have EG := Lib.hid (show grownTo m LL j = dealsP m (i + 1) by rw [QM.out]; unfold grownTo; rw [List.take_length, QLL.out]; rfl)
          have hpos : 0 < (grownTo m LL j).length := by rw [EG.out]; exact List.length_pos_of_mem (dealsP_none (i + 1))
          obtain ⟨g', cap', rfl⟩ := owns_form HMk.out.1 hpos
          have hso := HB.out.size
          go_wp2
          go_roundw
          case rel =>
            have hM := HMk.out
            rw [EG.out] at hM
            exact ⟨i + 1, g', cap', by omega, by go_num, by rw [EG.out], hM.rowsAt, fun _ => ⟨G, Cp, hM.lower hso⟩, HB.out.trans (BX.out.mono hso)⟩
          case measure => simp [intOf]; omega
    · obtain rfl : i = n := by omega
      go_wp2
      go_ret
      obtain ⟨G, Cp, hM⟩ := HMk.out (by omega)
      exact ⟨g, cap, G, Cp, rfl, hM, HB.out⟩
end Go.Proofs.Ytaipodnhnekpjaa
