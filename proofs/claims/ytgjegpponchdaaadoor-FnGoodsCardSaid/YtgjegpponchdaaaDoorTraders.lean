/- The program's traders: people who know whom they like. -/
import Derived.Test.YtgjegpponchdaaaDoorDeleteFunc
import Derived.Test.YtgjegpponchdaaaDoorOutside
import Derived.Deep.CutRange
import Derived.Deep.CutBlock
namespace Go.Proofs.YtgjegpponchdaaaDoor
set_option linter.unusedVariables false
set_option linter.unusedSimpArgs false
open Go.RowKit

/-- All that was there is as it was but for block b. -/
structure But1 (b : Nat) (w w' : World) : Prop where
  os : w'.os = w.os
  tape : w'.tape = w.tape
  output : w'.output = w.output
  size : w.heap.size ≤ w'.heap.size
  block : ∀ k, k < w.heap.size → k ≠ b → w'.heap[k]? = w.heap[k]?
namespace But1
variable {b : Nat} {w w' w2 : World}
theorem refl (b : Nat) (w : World) : But1 b w w := ⟨rfl, rfl, rfl, Nat.le_refl _, fun _ _ _ => rfl⟩
theorem trans (h : But1 b w w') (k : But1 b w' w2) : But1 b w w2 := ⟨k.os.trans h.os, k.tape.trans h.tape, k.output.trans h.output, Nat.le_trans h.size k.size, fun i hi hb => (k.block i (Nat.lt_of_lt_of_le hi h.size) hb).trans (h.block i hi hb)⟩
theorem below {B : Nat} (h : But1 b w w') (hb : B ≤ b) (hB : B ≤ w.heap.size) : Below B w w' := ⟨h.os, h.tape, h.output, h.size, fun k hk => h.block k (by omega) (by omega)⟩
theorem of_below (h : Below w.heap.size w w') : But1 b w w' := ⟨h.os, h.tape, h.output, h.size, fun k hk _ => h.block k hk⟩
theorem setCell (b j : Nat) (v : Value) (w : World) : But1 b w (w.setCell ⟨b, j, none⟩ v) := ⟨rfl, rfl, rfl, by simp [World.setCell], fun k _ hk => Below.heap_setCell _ _ _ _ hk⟩
end But1

/-- The first k whom r likes. -/
def wl (Z : Nat → Nat → Int) (r k : Nat) : List Nat := (List.range k).map fun j => (Z r j).toNat
theorem wl_len (Z : Nat → Nat → Int) (r k : Nat) : (wl Z r k).length = k := by simp [wl]
theorem wl_succ (Z : Nat → Nat → Int) (r k : Nat) : wl Z r (k + 1) = wl Z r k ++ [(Z r k).toNat] := by unfold wl; rw [List.range_succ, List.map_append]; rfl
theorem wl_get {tb : Nat → Nat} (Z : Nat → Nat → Int) (r : Nat) {k j : Nat} (h : j < k) : (ptrs tb (wl Z r k))[j]? = some (.pointer (some ⟨tb (Z r j).toNat, 0, none⟩)) := by
  unfold ptrs wl; simp [h]
theorem ptrs_len (tb : Nat → Nat) (l : List Nat) : (ptrs tb l).length = l.length := by simp [ptrs]

/-- n people in the blocks behind B, with some slices of wishes. -/
def Box2 (w : World) (n B : Nat) (wv : Nat → Value) : Prop := ∀ r, r < n → w.heap[B + 1 + r]? = some (.cells #[.int .i64 (r : Nat), wv r, .pointer none, .bool false] 83 (0, 0))
/-- The first i of them have their wishes. -/
def Wished (w : World) (n B : Nat) (Z : Nat → Nat → Int) (wb : Nat → Nat) (i : Nat) : Prop := ∀ r, r < i → B + 1 + n ≤ wb r ∧ wb r < w.heap.size ∧ ∀ k, k < n → w.cell? ⟨wb r, k, none⟩ = some (.pointer (some ⟨B + 1 + (Z r k).toNat, 0, none⟩))
theorem Wished.blocks {w w' : World} {n B i : Nat} {Z : Nat → Nat → Int} {wb : Nat → Nat} (h : Wished w n B Z wb i) (hs : w.heap.size ≤ w'.heap.size) (e : ∀ k, k < w.heap.size → B + 1 + n ≤ k → w'.heap[k]? = w.heap[k]?) : Wished w' n B Z wb i :=
  fun r hr => by
    obtain ⟨h1, h2, h3⟩ := h r hr
    exact ⟨h1, by omega, fun k hk => (World.cell?_of_block (w := w) (a := ⟨wb r, k, none⟩) (e _ h2 h1)).trans (h3 k hk)⟩
/-- The slice of wishes of r when the first j have theirs. -/
def wvF (wb cp : Nat → Nat) (n j r : Nat) : Value := if r < j then .slice (some ⟨wb r, 0, none⟩) n (cp r) else .slice none 0 0
theorem wvF_lt {wb cp : Nat → Nat} {n j r : Nat} (h : r < j) : wvF wb cp n j r = .slice (some ⟨wb r, 0, none⟩) n (cp r) := if_pos h
theorem wvF_ge {wb cp : Nat → Nat} {n j r : Nat} (h : ¬ r < j) : wvF wb cp n j r = .slice none 0 0 := if_neg h
/-- One wish more: what the append and the store leave. -/
theorem wish_step {wo wr wa w2 : World} {j k t g2 cap2 : Nat} {v x : Value} {xs : List Value} {o : Obj} (hbt : But1 t wo wr) (hv : wr.heap[t]? = some (.cells #[.int .i64 (j : Nat), v, .pointer none, .bool false] 83 (0, 0)))
    (hvo : ∀ y, v.ownBlock = some y → wo.heap.size ≤ y) (ht : t < wo.heap.size) (hg : wa.grownBy w2 v.ownBlock) (ha : wa = (wr.alloc o).drew)
    (hown : w2.ownsRow wo.heap.size 80 1 (.slice (some ⟨g2, 0, none⟩) (k + 1) cap2) (k + 1) (xs ++ [x])) :
    (w2.setCell ⟨t, 1, none⟩ (.slice (some ⟨g2, 0, none⟩) (k + 1) cap2)).ownsRow wo.heap.size 80 1 (.slice (some ⟨g2, 0, none⟩) (k + 1) cap2) (k + 1) (xs ++ [x]) ∧
    (w2.setCell ⟨t, 1, none⟩ (.slice (some ⟨g2, 0, none⟩) (k + 1) cap2)).heap[t]? = some (.cells #[.int .i64 (j : Nat), .slice (some ⟨g2, 0, none⟩) (k + 1) cap2, .pointer none, .bool false] 83 (0, 0)) ∧
    But1 t wo (w2.setCell ⟨t, 1, none⟩ (.slice (some ⟨g2, 0, none⟩) (k + 1) cap2)) := by
  have hs := hbt.size
  subst ha
  have hwa : (wr.alloc o).drew.heap.size = wr.heap.size + 1 := by simp
  have hat : ∀ y, y < wr.heap.size → (wr.alloc o).drew.heap[y]? = wr.heap[y]? := fun y hy => Below.heap_alloc wr o y hy
  have hne : v.ownBlock ≠ some t := fun e => by have := hvo t e; omega
  have h2t : w2.heap[t]? = wr.heap[t]? := (hg.block t (by omega) (fun e => hne e.symm)).trans (hat t (by omega))
  have hgl := hown.lt g2 rfl
  refine ⟨owns_at hown (Below.heap_setCell _ _ _ _ (by show g2 ≠ t; omega)), ?_, ?_⟩
  · exact heap_setCell_same w2 t 1 _ _ _ (h2t.trans hv)
  · have b1 : But1 t wo w2 := ⟨hg.os.trans hbt.os, hg.tape.trans hbt.tape, hg.output.trans hbt.output, by have := hg.size; omega, fun y hy hyt =>
      (hg.block y (by omega) (fun e => by have := hvo y e.symm; omega)).trans ((hat y (by omega)).trans (hbt.block y hy hyt))⟩
    exact b1.trans (But1.setCell t 1 _ w2)

set_option maxHeartbeats 3200000 in
theorem traders_any (n c : Nat) (a : Option Addr) (A : Nat → Option Addr) (L C : Nat → Nat) (Z : Nat → Nat → Int) (w : World) (hW : IsWishes n L Z) (ha0 : Tab w a n A L C Z) :
    Calls Tryd.prog 66 #[.slice a n c] w (RetTraders n Z w) := by
  have hn5 := hW.1.2
  have hn2 := hW.1.1
  have HA := Lib.hid ha0
  have HW := Lib.hid hW
  obtain ⟨i0, hi, hz0, hz1, hz2⟩ := info_parts infoTraderP
  have hmk := run_make_row' (P := Tryd.prog) 78 80 (.pointer none) 8 Tryd.underlying78 infoTraderP rfl .i64 .i64 n (by omega) (by omega)
  clear ha0 hW
  go_enter Tryd.func66, Tryd.ntmps66
  go_wp2
  clear hmk
  obtain ⟨B, hBd⟩ : ∃ B, B = w.heap.size := ⟨_, rfl⟩
  have QB := Lib.hid hBd
  rw [← hBd]
  have R0 := Lib.hid ((World.rowIs_made w (.pointer none) n 80).congr (g := fun r => if r < 0 then ptrV (B + 1 + r) else .pointer none) (fun r _ => by rw [if_neg (Nat.not_lt_zero _)]))
  have B0 := Lib.hid (below_alloc (Below.refl _ w) (.cells (madeCells #[.pointer none] n) 80))
  have S0 := Lib.hid (show (w.alloc (.cells (madeCells #[.pointer none] n) 80)).heap.size = B + 1 by simp [hBd])
  clear hBd
  go_loopw [4, 14] (fun _ s wr => ∃ i : Nat, i ≤ n ∧ s = .int .i64 i ∧ wr.rowIs B 80 n (fun r => if r < i then ptrV (B + 1 + r) else .pointer none) ∧
      Box2 wr i B (fun _ => .slice none 0 0) ∧ wr.heap.size = B + 1 + i ∧ Below w.heap.size w wr) (fun _ s _ => n - (intOf s).toNat)
  case atStart => exact ⟨0, Nat.zero_le _, rfl, by rw [QB.out]; rw [QB.out] at R0; exact R0.out, fun r hr => absurd hr (Nat.not_lt_zero _), S0.out, B0.out⟩
  case round =>
    obtain ⟨i, hin, rfl, hrow, hbox, hsz, hB⟩ := hrel
    have HR := Lib.hid hrow
    have HX := Lib.hid hbox
    have HS := Lib.hid hsz
    have HB := Lib.hid hB
    clear hrow hbox hsz hB R0 B0 S0
    by_cases hlt : i < n
    · have hc := HR.out.cell hlt
      rw [if_neg (Nat.lt_irrefl _)] at hc
      have hf := HR.out.frozen i
      have hcA : ∀ o, (wr.alloc o).cell? ⟨B, i, none⟩ = some (.pointer none) := fun o => Lib.cell?_alloc_some o hc
      have hfA : ∀ o, (wr.alloc o).frozen? ⟨B, i, none⟩ = false := fun o => (World.frozen?_of_block (w := wr) (a := ⟨B, i, none⟩) (Below.heap_alloc wr o B HR.out.lt)).trans hf
      go_wp2
      clear hcA hfA hc hf
      go_roundw
      case rel =>
        have hBl := HR.out.lt
        refine ⟨i + 1, by omega, by go_num, ((rowIs_below HR.out hBl (below_alloc (Below.refl _ wr) _)).set i _).congr (fun r hr => ?_), fun r hr => ?_, ?_, (below_alloc (Below.refl _ wr) _ |> fun h => HB.out.trans (h.mono HB.out.size)).setCell (by show w.heap.size ≤ B; rw [QB.out]; exact Nat.le_refl _) _⟩
        · by_cases e : r = i
          · subst e; rw [if_pos rfl, if_pos (Nat.lt_succ_self _), HS.out]; rfl
          · rw [if_neg e]
            by_cases h' : r < i
            · rw [if_pos h', if_pos (by omega)]
            · rw [if_neg h', if_neg (by omega)]
        · rw [Below.heap_setCell _ _ _ _ (by show B + 1 + r ≠ B; omega)]
          by_cases e : r = i
          · subst e
            rw [← HS.out]; exact heap_alloc_last wr _
          · rw [Below.heap_alloc wr _ _ (by rw [HS.out]; omega)]
            exact HX.out r (by omega)
        · rw [show ((wr.alloc (.cells #[.int .i64 (i : Nat), .slice none 0 0, .pointer none, .bool false] 83)).setCell ⟨B, i, none⟩ (.pointer (some ⟨wr.heap.size, 0, none⟩))).heap.size = wr.heap.size + 1 by simp [World.setCell], HS.out]; omega
      case measure => simp [intOf]; omega
    · obtain rfl : i = n := by omega
      have R1 := Lib.hid (HR.out.congr (g := fun r => ptrV (B + 1 + r)) (fun r hr => by rw [if_pos hr]))
      go_wp2
      obtain ⟨wp, rfl⟩ : ∃ wp : World, wp = wr := ⟨_, rfl⟩
      go_loopw [5, 6, 8, 26, 33] (fun _ _ _ s _ wr => ∃ j : Nat, j ≤ i ∧ s = .int .i64 j ∧ wr.rowIs B 80 i (fun r => ptrV (B + 1 + r)) ∧ (∃ wb cp : Nat → Nat, Box2 wr i B (wvF wb cp i j) ∧ Wished wr i B Z wb j) ∧ B + 1 + i ≤ wr.heap.size ∧ Below w.heap.size w wr) (fun _ _ _ s _ _ => i - (intOf s).toNat)
      case atStart => exact ⟨0, Nat.zero_le _, rfl, R1.out, ⟨fun _ => 0, fun _ => 0, fun r hr => by rw [wvF_ge (Nat.not_lt_zero _)]; exact HX.out r hr, fun r hr => absurd hr (Nat.not_lt_zero _)⟩, by rw [HS.out]; exact Nat.le_refl _, HB.out⟩
      case round =>
        obtain ⟨j, hj, rfl, hrow, ⟨wb, cp, hbox, hwish⟩, hsz, hB⟩ := hrel
        clear R1 HR HX HS HB
        have HR := Lib.hid hrow
        have HX := Lib.hid hbox
        have HY := Lib.hid hwish
        have HB := Lib.hid hB
        clear hrow hbox hwish hB
        by_cases hjl : j < i
        · obtain ⟨bz, oz, hAj⟩ : ∃ bz oz, A j = some ⟨bz, oz, none⟩ := by
            obtain ⟨_, _, _, _, hr0⟩ := HA.out j hjl
            obtain ⟨bz, oz, e, _⟩ := hr0 0 (by rw [(HW.out.2 j hjl).1]; omega)
            exact ⟨bz, oz, e⟩
          have HRw := Lib.hid (show Rd w (some ⟨bz, oz, none⟩) i (Z j) by
            obtain ⟨_, _, _, _, h⟩ := HA.out j hjl
            rw [(HW.out.2 j hjl).1, hAj] at h; exact h)
          obtain ⟨ba, oa, rfl, hca, hra⟩ := HA.out.below (Nat.le_refl _) HB.out j hjl
          rw [(HW.out.2 j hjl).1, hAj] at hca
          clear hra hAj
          go_wp2
          obtain ⟨wo, rfl⟩ : ∃ wo : World, wo = wr := ⟨_, rfl⟩
          have O0 := Lib.hid (show wo.ownsRow wo.heap.size 80 1 (.slice none 0 0) 0 (ptrs (fun r => B + 1 + r) (wl Z j 0)) from ⟨rfl, .inl ⟨rfl, rfl⟩⟩)
          have X0 := Lib.hid (show wo.heap[B + 1 + j]? = some (.cells #[.int .i64 (j : Nat), .slice none 0 0, .pointer none, .bool false] 83 (0, 0)) by have := HX.out j hjl; rwa [wvF_ge (Nat.lt_irrefl _)] at this)
          clear hca
          go_loopw [8, 33] (fun _ s wr => ∃ k : Nat, k ≤ i ∧ s = .int .i64 k ∧ ∃ v, wr.ownsRow wo.heap.size 80 1 v k (ptrs (fun r => B + 1 + r) (wl Z j k)) ∧ wr.heap[B + 1 + j]? = some (.cells #[.int .i64 (j : Nat), v, .pointer none, .bool false] 83 (0, 0)) ∧ But1 (B + 1 + j) wo wr) (fun _ s _ => i - (intOf s).toNat)
          case atStart => exact ⟨0, Nat.zero_le _, rfl, _, O0.out, X0.out, But1.refl _ _⟩
          case round =>
            obtain ⟨k, hk, rfl, v, hown, hx, hbut⟩ := hrel
            clear O0 X0
            by_cases hkl : k < i
            · have hB2 : Below w.heap.size w wr := HB.out.trans (hbut.below (by rw [← QB.out]; omega) HB.out.size)
              obtain ⟨bz', oz', hez, hcz⟩ := (HRw.out.below (Nat.le_refl _) hB2) k hkl
              obtain ⟨rfl, rfl, -⟩ : bz = bz' ∧ oz = oz' ∧ True := by
                simp only [Option.some.injEq, Addr.mk.injEq] at hez; exact ⟨hez.1, hez.2.1, trivial⟩
              obtain ⟨h, hh, hhn⟩ := show ∃ h : Nat, Z j k = h ∧ h < i by
                have := (HW.out.2 j hjl).2.1 k hkl
                obtain ⟨y, hy⟩ := Int.eq_ofNat_of_zero_le this.1
                exact ⟨y, hy, by omega⟩
              rw [hh] at hcz
              have QH := Lib.hid hh
              clear hez hh
              have hs2 := hbut.size
              have hRr := HR.out.of_block (hbut.block B (by omega) (by omega))
              have c1 : wr.cell? ⟨B, j, none⟩ = some (.pointer (some ⟨B + 1 + j, 0, none⟩)) := hRr.cell hjl
              have c3 : wr.cell? ⟨B, h, none⟩ = some (.pointer (some ⟨B + 1 + h, 0, none⟩)) := hRr.cell hhn
              have c2 : wr.cell? ⟨B + 1 + j, 1, none⟩ = some v := by rw [cell_of_row wr _ 1 _ _ _ hx]; rfl
              have f2 := frozen_of_row wr (B + 1 + j) 1 _ _ hx
              have HO := Lib.hid hown
              have HV := Lib.hid hx
              have HBt := Lib.hid hbut
              have HC2 := Lib.hid c2
              have hvl : ∀ x, v.ownBlock = some x → wo.heap.size ≤ x := fun x hx => (hown.lt x hx).1
              have HVL := Lib.hid hvl
              have hv1 : v.ownBlock ≠ some B := fun e => by have := hvl B e; omega
              have hv2 : v.ownBlock ≠ some (B + 1 + j) := fun e => by have := hvl _ e; omega
              have HV1 := Lib.hid hv1
              have HV2 := Lib.hid hv2
              have htl : B + 1 + j < wr.heap.size := by omega
              have a1 : ∀ o, (wr.alloc o).cell? ⟨B, j, none⟩ = some (.pointer (some ⟨B + 1 + j, 0, none⟩)) := fun o => Lib.cell?_alloc_some o c1
              have a2 : ∀ o, (wr.alloc o).cell? ⟨B + 1 + j, 1, none⟩ = some v := fun o => Lib.cell?_alloc_some o c2
              have a3 : ∀ o, (wr.alloc o).frozen? ⟨B + 1 + j, 1, none⟩ = false := fun o => (World.frozen?_of_block (w := wr) (a := ⟨B + 1 + j, 1, none⟩) (Below.heap_alloc wr o (B + 1 + j) htl)).trans f2
              have i1 : (0 : Int) ≤ (h : Int) := by omega
              have i2 : (h : Int) < (i : Int) := by omega
              have i3 : (j : Int) < (i : Int) := by omega
              clear hown hx hbut hRr hB2 hvl hv1 hv2
              go_upto_block 5 with fail
              go_cut [8] from 35 to 55 (fun _ wx => ∃ v' : Value, wx.ownsRow wo.heap.size 80 1 v' (k + 1) (ptrs (fun r => B + 1 + r) (wl Z j k) ++ [.pointer (some ⟨B + 1 + h, 0, none⟩)]) ∧ wx.heap[B + 1 + j]? = some (.cells #[.int .i64 (j : Nat), v', .pointer none, .bool false] 83 (0, 0)) ∧ But1 (B + 1 + j) wo wx)
              case first =>
               go_wp2
               go_region_law ((refine step_append_lies _ (by rfl) (.tmp 47) (.tmp 52) 78 (by rfl) wo.heap.size 80 i0 (.pointer none) 1 8 Tryd.underlying78 hi hz0 hz1 hz2 (by rfl) (by decide) v k (ptrs (fun r => B + 1 + r) (wl Z j k)) (by rfl) (HO.out.alloc _) ⟨_, 0, none⟩ 1 1 [.pointer (some ⟨B + 1 + h, 0, none⟩)] (by rfl) (by rfl) (news_one (by simp)) (by simp [Value.oneCell']) (by omega) (by unfold maxLen; omega) (by omega) (by simp; omega) _ rfl ?_; intro g2 cap2 w2 hown2 hgrow2 hat2 hlt2; have hct2 := hgrow2.cell (by simpa using a2 _) (fun e => HV2.out e.symm); have hct1 := hgrow2.cell (by simpa using a1 _) (fun e => HV1.out e.symm); have hfr2 := (World.frozen?_of_block (a := ⟨B + 1 + j, 1, none⟩) (hgrow2.block (B + 1 + j) (by simp; omega) (fun e => HV2.out e.symm))).trans (a3 _)))
               all_goals
                 have HW2 := Lib.hid (wish_step HBt.out HV.out HVL.out (show B + 1 + j < wo.heap.size by omega) hgrow2 rfl hown2)
                 clear hown2 hgrow2 hat2 hct1 hct2 hfr2 a1 a2 a3 c1 c2 c3 f2 i1 i2 i3 htl
                 go_wp2_with fail
                 go_meet
                 case rel => exact ⟨_, HW2.out⟩
              case rest =>
                obtain ⟨v', q1, q2, q3⟩ := hcut
                have HX2 := Lib.hid q1
                have HX3 := Lib.hid q2
                have HX4 := Lib.hid q3
                clear q1 q2 q3 a1 a2 a3 c1 c2 c3 f2
                go_wp2
                go_roundw
                case rel => exact ⟨k + 1, by omega, by go_num, v', by rw [wl_succ, QH.out]; unfold ptrs at HX2 ⊢; rw [List.map_append]; exact HX2.out, HX3.out, HX4.out⟩
                case measure => simp [intOf]; omega
            · obtain rfl : k = i := by omega
              obtain ⟨g, cap, rfl⟩ := owns_form hown (by omega)
              have hgl := hown.lt g rfl
              have hB2 : Below w.heap.size w wr := HB.out.trans (hbut.below (by rw [← QB.out]; omega) HB.out.size)
              have HN := Lib.hid (show Box2 wr k B (wvF (fun r => if r = j then g else wb r) (fun r => if r = j then cap else cp r) k (j + 1)) from fun r hr => by
                by_cases e : r = j
                · subst e
                  rw [wvF_lt (Nat.lt_succ_self _), if_pos rfl, if_pos rfl]; exact hx
                · rw [hbut.block _ (by omega) (by omega), HX.out r hr]
                  by_cases h' : r < j
                  · rw [wvF_lt h', wvF_lt (by omega), if_neg e, if_neg e]
                  · rw [wvF_ge h', wvF_ge (by omega)])
              have HM := Lib.hid (show Wished wr k B Z (fun r => if r = j then g else wb r) (j + 1) from fun r hr => by
                by_cases e : r = j
                · subst e
                  dsimp only
                  rw [if_pos rfl]
                  refine ⟨by omega, hgl.2, fun q hq => ?_⟩
                  have := hown.cells (g := g) rfl q _ (wl_get Z r hq)
                  rwa [Go.WideShapes.add_plain, Nat.zero_add] at this
                · dsimp only
                  rw [if_neg e]
                  obtain ⟨h1, h2, h3⟩ := HY.out r (by omega)
                  have hne : wb r ≠ B + 1 + j := by omega
                  exact ⟨h1, Nat.lt_of_lt_of_le h2 hbut.size, fun q hq => (World.cell?_of_block (w := wo) (a := ⟨wb r, q, none⟩) (hbut.block _ h2 hne)).trans (h3 q hq)⟩)
              have HRr := Lib.hid (HR.out.of_block (hbut.block B (by omega) (by omega)))
              have HB2 := Lib.hid hB2
              have hs2 := hbut.size
              clear hown hx hbut hB2
              go_wp2
              go_roundw
              case rel => exact ⟨j + 1, by omega, by go_num, HRr.out, ⟨_, _, HN.out, HM.out⟩, by omega, HB2.out⟩
              case measure => simp [intOf]; omega
        · obtain rfl : j = i := by omega
          go_wp2
          go_ret
          unfold RetTraders
          rw [← QB.out]
          refine ⟨rfl, wb, cp, ⟨fun r hr => ?_, fun r s _ _ e => by simp at e; omega, fun r hr => (HY.out r hr).2.2, fun r s hr hs e => by have := (HY.out r hr).1; omega⟩, fun k hk => ?_, fun r hr => (HY.out r hr).1, by rw [QB.out]; exact HB.out⟩
          · have := HX.out r hr
            rwa [wvF_lt hr] at this
          · rw [List.length_range] at hk
            rw [show (List.range j).getD k 0 = k by simp [hk]]
            exact ⟨HR.out.cell hk, HR.out.frozen k⟩
end Go.Proofs.YtgjegpponchdaaaDoor
