/- The program's named: moneys called by other numbers. -/
import Derived.Test.YtmjbocgoinfamaaSize
import Derived.Test.YtmjbocgoinfamaaMem
import Derived.StillTailTactics
namespace Go.Proofs.Ytmjbocgoinfamaa
set_option linter.unusedVariables false
set_option maxRecDepth 100000
open Go.RowKit

set_option maxHeartbeats 1600000 in
theorem named_any (n d : Nat) (F p : Nat → Int) (b : Option Addr) (w : World) (h0 : 0 < n) (h5 : n ≤ 5) (hd : IsDiff n n p) (hb : Rd w b n p) :
    Calls Try.prog 83 #[.agg (cellsV 25 F), .slice b n d] w fun e w' => e = .returned (.agg (cellsV 25 (partA n (atF F) p n 0))) ∧ Below w.heap.size w w' := by
  have t1 : True := trivial
  have t2 : True := trivial
  obtain ⟨ba, oa, rfl, _⟩ := hb 0 h0
  have HD := Lib.hid hd
  have HP := Lib.hid hb
  clear hd hb
  go_enter Try.func83, Try.ntmps83
  go_wp2_with (first
    | ((with_reducible refine arr_box 25 _ _ F ?_ ?_); exact rfl; intro w1 hA1 hs1 hb1; have S1 := Lib.hid hs1; clear hs1)
    | (have _t := t1; (with_reducible refine arr_alloc 25 _ (Try.zeroRates _) ?_); clear t1; intro w2 hA2 hs2 hb2; have S2 := Lib.hid hs2; clear hs2)
    | (have _t := t2; (with_reducible refine arr_alloc 25 _ (Try.zeroRates _) ?_); clear t2; intro w3 hA3 hs3 hb3; have S3 := Lib.hid hs3; clear hs3))
  obtain ⟨G2, hG2⟩ : ∃ G, G = w1.heap.size := ⟨_, rfl⟩
  obtain ⟨G3, hG3⟩ : ∃ G, G = w2.heap.size := ⟨_, rfl⟩
  have e1 : w1.heap.size = w.heap.size + 1 := S1.out
  have e2 : w2.heap.size = w1.heap.size + 1 := S2.out
  have hB := below_chain (below_chain hb1 hb2) hb3
  have hA1' := hA1.below hA1.lt (below_chain hb2 hb3)
  have hA2' := hA2.below hA2.lt hb3
  have n1 : w.heap.size < G2 := by omega
  have n2 : G2 < G3 := by omega
  rw [← hG2] at hA2' ⊢
  rw [← hG3] at hA3 ⊢
  have R1 := Lib.hid hA1'
  have R2 := Lib.hid hA2'
  have R3 := Lib.hid (hA3.congr fun j _ => partA_zero n (atF F) p j)
  have RB := Lib.hid hB
  clear hA1 hA2 hA3 hb1 hb2 hb3 hA1' hA2' hB S1 S2 S3 e1 e2 hG2 hG3
  go_loopw [6, 7, 8, 9, 12] (fun _ _ _ _ i wr => ∃ q : Nat, q ≤ n ∧ i = .int .i64 q ∧ ArrAt wr w.heap.size 58 25 F ∧ ArrAt wr G2 58 25 (fun _ => 0) ∧ ArrAt wr G3 58 25 (partA n (atF F) p q 0) ∧ Below w.heap.size w wr) (fun _ _ _ _ i _ => n - (intOf i).toNat)
  case atStart => exact ⟨0, by omega, rfl, R1.out, R2.out, R3.out, RB.out⟩
  case round =>
    obtain ⟨i, hin, rfl, h1, h2, h3, hb⟩ := hrel
    clear R1 R2 R3 RB
    have R1 := Lib.hid h1
    have R2 := Lib.hid h2
    have R3 := Lib.hid h3
    have RB := Lib.hid hb
    by_cases hlt : i < n
    · have hci := (HP.out.below (Nat.le_refl _) hb).at hlt
      obtain ⟨x, hx⟩ := Int.eq_ofNat_of_zero_le (HD.out.1 i hlt).1
      rw [hx] at hci
      have hxn : x < n := by have := (HD.out.1 i hlt).2; omega
      have HX := Lib.hid hx
      clear h1 h2 h3 hb hx
      go_wp2
      clear hci
      go_loopw [8, 9, 19] (fun _ _ k wr => ∃ q : Nat, q ≤ n ∧ k = .int .i64 q ∧ ArrAt wr w.heap.size 58 25 F ∧ ArrAt wr G2 58 25 (fun _ => 0) ∧ ArrAt wr G3 58 25 (partA n (atF F) p i q) ∧ Below w.heap.size w wr) (fun _ _ k _ => n - (intOf k).toNat)
      case atStart => exact ⟨0, by omega, rfl, R1.out, R2.out, R3.out, RB.out⟩
      case round =>
        obtain ⟨k, hkn, rfl, h1, h2, h3, hb⟩ := hrel
        clear R1 R2 R3 RB
        by_cases hklt : k < n
        · have hck := (HP.out.below (Nat.le_refl _) hb).at hklt
          obtain ⟨y, hy⟩ := Int.eq_ofNat_of_zero_le (HD.out.1 k hklt).1
          rw [hy] at hck
          have hyn : y < n := by have := (HD.out.1 k hklt).2; omega
          have HY := Lib.hid hy
          have hx5 : (x : Int) < 5 := by omega
          have hy5 : (y : Int) < 5 := by omega
          have hi5 : (i : Int) < 5 := by omega
          have hk5 : (k : Int) < 5 := by omega
          have hc1 : wr.cell? ⟨w.heap.size, i * 5 + k, none⟩ = some (.int .i64 (atF F i k)) := h1.cell (j := i * 5 + k) (by omega)
          have hc3 := h3.cell (j := x * 5 + y) (by omega)
          have hf3 := h3.frozen (x * 5 + y)
          have R1 := Lib.hid h1
          have R2 := Lib.hid h2
          have R3 := Lib.hid h3
          have RB := Lib.hid hb
          clear h1 h2 h3 hb hy
          go_wp2
          go_still_tail 9, (by kernel_rfl)
          go_wp2
          go_roundw
          case rel =>
            refine ⟨k + 1, by omega, by go_num, ?_, ?_, ?_, (RB.out.setCell (p := ⟨G3, x * 5 + y, none⟩) (by show w.heap.size ≤ G3; omega) _).drew⟩
            · exact R1.out.setOther (a := ⟨G3, x * 5 + y, none⟩) (by show w.heap.size ≠ G3; omega) _
            · exact R2.out.setOther (a := ⟨G3, x * 5 + y, none⟩) (by show G2 ≠ G3; omega) _
            · exact (R3.out.set (x * 5 + y) (atF F i k)).congr (fun j _ => partA_step HD.out h5 hlt hklt HX.out HY.out)
          case measure => simp [intOf]; omega
        · obtain rfl : k = n := by omega
          have R1 := Lib.hid h1
          have R2 := Lib.hid h2
          have R3 := Lib.hid h3
          have RB := Lib.hid hb
          clear h1 h2 h3 hb
          go_wp2
          go_roundw
          case rel => exact ⟨i + 1, by omega, by go_num, R1.out, R2.out, R3.out.congr (fun j hj => partA_row HD.out), RB.out⟩
          case measure => simp [intOf]; omega
    · obtain rfl : i = n := by omega
      clear hb
      go_wp2_with (first
        | ((with_reducible refine arr_load 25 _ _ _ _ _ _ _ ?_ h3 Try.underlying58 Try.sizeRates ?_); exact rfl)
        | ((with_reducible refine arr_store 25 _ _ _ _ _ _ (partA i (atF F) p i 0) ?_ ?_ h2 Try.sizeRates ?_); exact rfl; exact rfl; intro w9 hA9 hs9 ho9 hb9; clear h2))
      refine bodyPost_ret (v := .agg (cellsV 25 (partA i (atF F) p i 0))) ?_ rfl ⟨rfl, RB.out.trans (hb9.mono (by omega))⟩
      exact results_arr Try.results83 _ _ G2 58 25 _ _ _ rfl hA9 Try.underlying58 Try.sizeRates
end Go.Proofs.Ytmjbocgoinfamaa
