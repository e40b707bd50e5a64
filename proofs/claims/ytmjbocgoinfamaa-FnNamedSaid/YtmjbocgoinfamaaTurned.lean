/- The program's turned: rows and columns exchanged. -/
/- What is exchanged stays kept. -/
import Derived.Test.YtmjbocgoinfamaaSize
import Derived.Test.YtmjbocgoinfamaaFive
import Derived.Test.YtmjbocgoinfamaaMem
namespace Go.Proofs.Ytmjbocgoinfamaa
set_option linter.unusedVariables false

section
open Go.RowKit
def turnedF (F : Nat → Int) (j : Nat) : Int := F ((j % 5) * 5 + j / 5)
def partT (F : Nat → Int) (p q j : Nat) : Int := if j % 5 < p ∨ j % 5 = p ∧ j / 5 < q then turnedF F j else 0
theorem partT_zero (F : Nat → Int) (j : Nat) : 0 = partT F 0 0 j := by unfold partT; rw [if_neg (by omega)]
theorem partT_step (F : Nat → Int) (p q j : Nat) (hp : p < 5) (hq : q < 5) : (if j = q * 5 + p then F (p * 5 + q) else partT F p q j) = partT F p (q + 1) j := by
  unfold partT turnedF
  by_cases e : j = q * 5 + p
  · have e1 : j % 5 = p := by omega
    have e2 : j / 5 = q := by omega
    rw [if_pos e, if_pos (by omega), e1, e2]
  · rw [if_neg e]
    by_cases h : j % 5 < p ∨ j % 5 = p ∧ j / 5 < q
    · rw [if_pos h, if_pos (by omega)]
    · rw [if_neg h, if_neg (by omega)]
theorem partT_row (F : Nat → Int) (p j : Nat) (hj : j < 25) : partT F p 5 j = partT F (p + 1) 0 j := by
  unfold partT
  by_cases h : j % 5 < p ∨ j % 5 = p ∧ j / 5 < 5
  · rw [if_pos h, if_pos (by omega)]
  · rw [if_neg h, if_neg (by omega)]
theorem partT_all (F : Nat → Int) (j : Nat) (hj : j < 25) : partT F 5 0 j = turnedF F j := by unfold partT; rw [if_pos (by omega)]

set_option maxHeartbeats 1600000 in
theorem turned_any (F : Nat → Int) (w : World) :
    Calls Try.prog 62 #[.agg (cellsV 25 F)] w fun e w' => e = .returned (.agg (cellsV 25 (turnedF F))) ∧ Below w.heap.size w w' := by
  have t1 : True := trivial
  have t2 : True := trivial
  go_enter Try.func62, Try.ntmps62
  go_wp2_with (first
    | ((with_reducible refine arr_box 25 _ _ F ?_ ?_); exact rfl; intro w1 hA1 hs1 hb1; have S1 := Lib.hid hs1; clear hs1)
    | (have _t := t1; (with_reducible refine arr_alloc 25 _ (Try.zeroRates _) ?_); clear t1; intro w2 hA2 hs2 hb2; have S2 := Lib.hid hs2; clear hs2)
    | (have _t := t2; (with_reducible refine arr_alloc 25 _ (Try.zeroRates _) ?_); clear t2; intro w3 hA3 hs3 hb3; have S3 := Lib.hid hs3; clear hs3)
    | ((with_reducible refine arr_load 25 _ _ _ _ _ _ _ ?_ (hA1.below hA1.lt (below_chain hb2 hb3)) Try.underlying58 Try.sizeRates ?_); exact rfl))
  obtain ⟨G2, hG2⟩ : ∃ G, G = w1.heap.size := ⟨_, rfl⟩
  obtain ⟨G3, hG3⟩ : ∃ G, G = w2.heap.size := ⟨_, rfl⟩
  have e1 : w1.heap.size = w.heap.size + 1 := S1.out
  have e2 : w2.heap.size = w1.heap.size + 1 := S2.out
  have hB := below_chain (below_chain hb1 hb2) hb3
  have hA2' := hA2.below hA2.lt hb3
  have n1 : w.heap.size < G2 := by omega
  have n2 : G2 < G3 := by omega
  rw [← hG2] at hA2' ⊢
  rw [← hG3] at hA3 ⊢
  have R2 := Lib.hid hA2'
  have R3 := Lib.hid (hA3.congr fun j _ => partT_zero F j)
  have RB := Lib.hid hB
  clear hA1 hA2 hA3 hb1 hb2 hb3 hA2' hB S1 S2 S3 e1 e2 hG2 hG3
  go_loopw [4, 5, 6, 7, 9] (fun _ _ _ _ i wr => ∃ p : Nat, p ≤ 5 ∧ i = .int .i64 p ∧ ArrAt wr G2 58 25 (fun _ => 0) ∧ ArrAt wr G3 58 25 (partT F p 0) ∧ Below w.heap.size w wr) (fun _ _ _ _ i _ => 5 - (intOf i).toNat)
  case atStart => exact ⟨0, by omega, rfl, R2.out, R3.out, RB.out⟩
  case round =>
    obtain ⟨p, hp, rfl, h2, h3, hb⟩ := hrel
    clear R2 R3 RB
    have R2 := Lib.hid h2
    have R3 := Lib.hid h3
    have RB := Lib.hid hb
    by_cases hlt : p < 5
    · have hd : decide ((p : Int) < 5) = true := by simp; omega
      have n4 : G3 < wr.heap.size := h3.lt
      clear h2 h3 hb
      go_wp2_with (first
        | ((with_reducible refine arr_index_row 25 5 5 _ _ _ _ _ F .i64 p ?_ ?_ hlt ?_ Try.underlying58 Try.underlying56 Try.sizeFive ?_); exact rfl; exact rfl; omega)
        | ((with_reducible refine arr_alloc 5 _ (Try.zeroFive _) ?_); intro w4 hA4 hs4 hb4; have S4 := Lib.hid hs4; clear hs4)
        | ((with_reducible refine arr_store 5 _ _ _ _ _ _ (fun k => F (p * 5 + k)) ?_ ?_ hA4 Try.sizeFive ?_); exact rfl; exact rfl; intro w5 hA5 hs5 ho5 hb5; clear hA4)
        | ((with_reducible refine arr_load 5 _ _ _ _ _ _ _ ?_ hA5 Try.underlying56 Try.sizeFive ?_); exact rfl))
      have hb6 : Below wr.heap.size wr w5 := hb4.trans hb5
      have R2' := Lib.hid (R2.out.below R2.out.lt hb6)
      have R3' := Lib.hid (R3.out.below R3.out.lt hb6)
      have RB' := Lib.hid (RB.out.trans (hb6.mono RB.out.size))
      clear hA5 hs5 ho5 hb4 hb5 hb6 S4
      go_loopw [6, 7, 14] (fun _ _ i wi => ∃ q : Nat, q ≤ 5 ∧ i = .int .i64 q ∧ ArrAt wi G2 58 25 (fun _ => 0) ∧ ArrAt wi G3 58 25 (partT F p q) ∧ Below w.heap.size w wi) (fun _ _ i _ => 5 - (intOf i).toNat)
      case atStart => exact ⟨0, by omega, rfl, R2'.out, R3'.out, RB'.out⟩
      case round =>
        obtain ⟨q, hq, rfl, h2, h3, hb⟩ := hrel
        clear R2 R3 RB R2' R3' RB'
        by_cases hqlt : q < 5
        · have hd2 : decide ((q : Int) < 5) = true := by simp; omega
          have hc3 := h3.cell (j := q * 5 + p) (by omega)
          have hf3 := h3.frozen (q * 5 + p)
          have R2 := Lib.hid h2
          have R3 := Lib.hid h3
          have RB := Lib.hid hb
          clear h2 h3 hb
          go_wp2_with ((with_reducible refine arr_index 5 _ _ _ _ (fun k => F (p * 5 + k)) .i64 q ?_ ?_ hqlt Try.underlying56 Try.underlying3 Try.sizeInt ?_); exact rfl; exact rfl)
          go_roundw
          case rel =>
            refine ⟨q + 1, by omega, by go_num, R2.out.setOther (by show G2 ≠ G3; omega) _, (R3.out.set _ _).congr (fun j _ => partT_step F p q j hlt hqlt), RB.out.setCell (by show w.heap.size ≤ G3; omega) _⟩
          case measure => simp [intOf]; omega
        · have hd2 : decide ((q : Int) < 5) = false := by simp; omega
          obtain rfl : q = 5 := by omega
          have R2 := Lib.hid h2
          have R3 := Lib.hid h3
          have RB := Lib.hid hb
          clear h2 h3 hb
          go_wp2
          go_roundw
          case rel => exact ⟨p + 1, by omega, by go_num, R2.out, R3.out.congr (fun j hj => partT_row F p j hj), RB.out⟩
          case measure => simp [intOf]; omega
    · have hd : decide ((p : Int) < 5) = false := by simp; omega
      obtain rfl : p = 5 := by omega
      clear hb
      go_wp2_with (first
        | ((with_reducible refine arr_load 25 _ _ _ _ _ _ _ ?_ h3 Try.underlying58 Try.sizeRates ?_); exact rfl)
        | ((with_reducible refine arr_store 25 _ _ _ _ _ _ (partT F 5 0) ?_ ?_ h2 Try.sizeRates ?_); exact rfl; exact rfl; intro w9 hA9 hs9 ho9 hb9; clear h2))
      refine bodyPost_ret (v := .agg (cellsV 25 (turnedF F))) ?_ rfl ⟨rfl, RB.out.trans (hb9.mono (by omega))⟩
      exact results_arr Try.results62 _ _ G2 58 25 _ _ _ rfl (hA9.congr fun j hj => partT_all F j hj) Try.underlying58 Try.sizeRates
end

section
open Go.RowKit
theorem atF_turned (F : Nat → Int) {i k : Nat} (hi : i < 5) (hk : k < 5) : atF (turnedF F) i k = atF F k i := by
  have e1 : (i * 5 + k) % 5 = k := by omega
  have e2 : (i * 5 + k) / 5 = i := by omega
  unfold atF turnedF
  rw [e1, e2]
theorem Kept.turned {n : Nat} {F : Nat → Int} (h : Kept n F) : Kept n (turnedF F) := by
  have h5 := h.le
  refine ⟨h.le, fun i hi => ?_, fun hn => ?_, fun i k hi hk => ?_⟩
  · rw [atF_turned F (by omega) (by omega)]; exact h.diag i hi
  · rw [atF_turned F (by omega) (by omega)]; exact h.none hn
  · rw [atF_turned F (by omega) (by omega)]; exact h.rate k i hk hi
theorem OwnT.congr {w : World} {lo hi n : Nat} {a : Option Addr} {A : Nat → Option Addr} {L C : Nat → Nat} {X Y : Nat → Nat → Int} (h : OwnT w lo hi a n A L C X) (e : ∀ r k, r < n → k < L r → X r k = Y r k) : OwnT w lo hi a n A L C Y := by
  rcases h with h0 | ⟨b, o, K, ha, h1, h2, hc, hk, hi⟩
  · exact .inl h0
  · refine .inr ⟨b, o, K, ha, h1, h2, hc, fun r hr => ?_, hi⟩
    obtain ⟨k1, k2, k3, k4⟩ := hk r hr
    refine ⟨k1, k2, k3, ?_⟩
    rcases k4 with k0 | ⟨o', ha', hc'⟩
    · exact .inl k0
    · exact .inr ⟨o', ha', fun k hk => by rw [← e r k hr hk]; exact hc' k hk⟩
end

end Go.Proofs.Ytmjbocgoinfamaa
