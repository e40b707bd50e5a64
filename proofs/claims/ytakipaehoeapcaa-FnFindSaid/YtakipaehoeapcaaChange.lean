/- The program's change: one change of all moneys. -/
import Derived.Test.YtakipaehoeapcaaSize
import Derived.Test.YtakipaehoeapcaaFive
import Derived.Test.YtakipaehoeapcaaL1Steps
namespace Go.Proofs.Ytakipaehoeapcaa
set_option linter.unusedVariables false
open Go.RowKit

set_option maxHeartbeats 1600000 in
theorem change_any (F H : Nat → Int) (w : World) (hF : ∀ x y, x < 5 → y < 5 → 0 ≤ atF F x y ∧ atF F x y ≤ 144) (hH : ∀ x, x < 5 → 0 ≤ H x ∧ H x ≤ 61917364224) :
    Calls Try.prog 95 #[.agg (cellsV 25 F), .agg (cellsV 5 H)] w fun e w' => e = .returned (.agg (cellsV 5 fun y => rmax (fun x => H x * atF F x y) 5)) ∧ Below w.heap.size w w' := by
  have HF := Lib.hid hF
  have HH := Lib.hid hH
  clear hF hH
  have t1 : True := trivial
  have t2 : True := trivial
  go_enter Try.func95, Try.ntmps95
  go_wp2_with (first
    | ((with_reducible refine arr_box 25 _ _ F ?_ ?_); exact rfl; intro w1 hA1 hs1 hb1; have S1 := Lib.hid hs1; clear hs1)
    | ((with_reducible refine arr_box 5 _ _ H ?_ ?_); exact rfl; intro w2 hA2 hs2 hb2; have S2 := Lib.hid hs2; clear hs2)
    | (have _t := t1; (with_reducible refine arr_alloc 5 _ (Try.zeroFive _) ?_); clear t1; intro w3 hA3 hs3 hb3; have S3 := Lib.hid hs3; clear hs3)
    | (have _t := t2; (with_reducible refine arr_alloc 5 _ (Try.zeroFive _) ?_); clear t2; intro w4 hA4 hs4 hb4; have S4 := Lib.hid hs4; clear hs4)
    | ((with_reducible refine arr_load 5 _ _ _ _ _ _ _ ?_ (hA2.below hA2.lt (below_chain hb3 hb4)) Try.underlying47 Try.sizeFive ?_); exact rfl))
  obtain ⟨G4, hG4⟩ : ∃ G, G = w2.heap.size := ⟨_, rfl⟩
  obtain ⟨G5, hG5⟩ : ∃ G, G = w3.heap.size := ⟨_, rfl⟩
  have e1 : w1.heap.size = w.heap.size + 1 := S1.out
  have e2 : w2.heap.size = w1.heap.size + 1 := S2.out
  have e3 : w3.heap.size = w2.heap.size + 1 := S3.out
  have hB := below_chain (below_chain (below_chain hb1 hb2) hb3) hb4
  have hA1' := (hA1.below hA1.lt (below_chain (below_chain hb2 hb3) hb4))
  have hA3' := hA3.below hA3.lt hb4
  have n1 : w.heap.size < G4 := by omega
  have n2 : G4 < G5 := by omega
  rw [← hG4] at hA3' ⊢
  rw [← hG5] at hA4 ⊢
  have R1 := Lib.hid hA1'
  have R4 := Lib.hid hA3'
  have R5 := Lib.hid (hA4.congr (G := nextF (atF F) H 0 0) (fun y _ => nextF_start _ _ y))
  have RB := Lib.hid hB
  clear hA1 hA2 hA3 hA4 hb1 hb2 hb3 hb4 hA1' hA3' hB S1 S2 S3 S4 e1 e2 e3 hG4 hG5
  go_loopw [6, 7, 8, 9, 11] (fun _ _ _ _ i wr => ∃ p : Nat, p ≤ 5 ∧ i = .int .i64 p ∧ ArrAt wr w.heap.size 49 25 F ∧ ArrAt wr G4 47 5 (fun _ => 0) ∧ ArrAt wr G5 47 5 (nextF (atF F) H p 0) ∧ Below w.heap.size w wr) (fun _ _ _ _ i _ => 5 - (intOf i).toNat)
  case atStart => exact ⟨0, by omega, rfl, R1.out, R4.out, R5.out, RB.out⟩
  case round =>
    obtain ⟨p, hp, rfl, h1, h4, h5, hb⟩ := hrel
    clear R1 R4 R5 RB
    have R1 := Lib.hid h1
    have R4 := Lib.hid h4
    have R5 := Lib.hid h5
    have RB := Lib.hid hb
    clear h4 h5 hb
    by_cases hlt : p < 5
    · have hd : decide ((p : Int) < 5) = true := by simp; omega
      go_wp2_with (first
        | ((with_reducible refine arr_index 5 _ _ _ _ H .i64 p ?_ ?_ hlt Try.underlying47 Try.underlying3 Try.sizeInt ?_); exact rfl; exact rfl)
        | ((with_reducible refine arr_load_mid 25 5 _ _ _ _ (p * 5) _ _ F ?_ h1 ?_ Try.underlying47 Try.sizeFive ?_); exact rfl; omega))
      clear h1
      go_loopw [8, 9, 18] (fun _ _ i wi => ∃ q : Nat, q ≤ 5 ∧ i = .int .i64 q ∧ ArrAt wi w.heap.size 49 25 F ∧ ArrAt wi G4 47 5 (fun _ => 0) ∧ ArrAt wi G5 47 5 (nextF (atF F) H p q) ∧ Below w.heap.size w wi) (fun _ _ i _ => 5 - (intOf i).toNat)
      case atStart => exact ⟨0, by omega, rfl, R1.out, R4.out, R5.out, RB.out⟩
      case round =>
        obtain ⟨q, hq, rfl, h1, h4, h5, hb⟩ := hrel
        clear R1 R4 R5 RB
        by_cases hqlt : q < 5
        · have hd2 : decide ((q : Int) < 5) = true := by simp; omega
          have hc5 := h5.cell hqlt
          have hf5 := h5.frozen q
          have hpb := prod_bound (HH.out p hlt) (HF.out p q hlt hqlt)
          have hmul : wrap64 (H p * atF F p q) = H p * atF F p q := IntWalk.wrap64_in _ ⟨by omega, by omega⟩
          have R1 := Lib.hid h1
          have R4 := Lib.hid h4
          have R5 := Lib.hid h5
          have RB := Lib.hid hb
          clear h1 h4 h5 hb
          go_wp2_with ((with_reducible refine arr_index 5 _ _ _ _ (atF F p) .i64 q ?_ ?_ hqlt Try.underlying47 Try.underlying3 Try.sizeInt ?_); exact rfl; exact rfl)
          go_roundw
          case rel =>
            refine ⟨q + 1, by omega, by go_num, R1.out.setOther (by show w.heap.size ≠ G5; omega) _, R4.out.setOther (by show G4 ≠ G5; omega) _, (R5.out.set q _).congr (fun y _ => nextF_step _ _ _ _ _), RB.out.setCell (by show w.heap.size ≤ G5; omega) _⟩
          case measure => simp [intOf]; omega
        · have hd2 : decide ((q : Int) < 5) = false := by simp; omega
          obtain rfl : q = 5 := by omega
          have R1 := Lib.hid h1
          have R4 := Lib.hid h4
          have R5 := Lib.hid h5
          have RB := Lib.hid hb
          clear h1 h4 h5 hb
          go_wp2
          go_roundw
          case rel => exact ⟨p + 1, by omega, by go_num, R1.out, R4.out, R5.out.congr (fun y hy => nextF_row _ _ _ _ _ hy), RB.out⟩
          case measure => simp [intOf]; omega
    · have hd : decide ((p : Int) < 5) = false := by simp; omega
      obtain rfl : p = 5 := by omega
      have h5 := R5.out
      have h4 := R4.out
      go_wp2_with (first
        | ((with_reducible refine arr_load 5 _ _ _ _ _ _ _ ?_ h5 Try.underlying47 Try.sizeFive ?_); exact rfl)
        | ((with_reducible refine arr_store 5 _ _ _ _ _ _ (nextF (atF F) H 5 0) ?_ ?_ h4 Try.sizeFive ?_); exact rfl; exact rfl; intro w9 hA9 hs9 ho9 hb9; clear h4))
      refine bodyPost_ret (v := .agg (cellsV 5 fun y => rmax (fun x => H x * atF F x y) 5)) ?_ rfl ⟨rfl, RB.out.trans (hb9.mono (by omega))⟩
      exact results_arr Try.results95 _ _ G4 47 5 _ _ _ rfl (hA9.congr fun y _ => rfl) Try.underlying47 Try.sizeFive
end Go.Proofs.Ytakipaehoeapcaa
