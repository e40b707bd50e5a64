/- The program's beginning: to each the own house. -/
import Derived.Test.YtgjegpponchdaaaDoorHeld
import Derived.Test.YtgjegpponchdaaaDoorLedModel
import Derived.Test.YtgjegpponchdaaaDoorMapSet
namespace Go.Proofs.YtgjegpponchdaaaDoor
set_option linter.unusedVariables false
set_option linter.unusedSimpArgs false
open Go.RowKit

/-- The first k people have their own houses. -/
def begF (n k : Nat) (j : Nat) : Int := if j = 0 then (n : Int) else if j - 1 < k then ((j - 1 : Nat) : Int) else 0
theorem begF_zero (n j : Nat) : onlyN n j = begF n 0 j := by
  unfold onlyN begF
  by_cases h : j = 0
  · rw [if_pos h, if_pos h]
  · rw [if_neg h, if_neg h, if_neg (Nat.not_lt_zero _)]
theorem begF_next (n k j : Nat) : (if j = 1 + k then (k : Int) else begF n k j) = begF n (k + 1) j := by
  unfold begF
  by_cases h : j = 0
  · subst h; rw [if_neg (by omega), if_pos rfl, if_pos rfl]
  · rw [if_neg h, if_neg h]
    by_cases e : j = 1 + k
    · subst e; rw [if_pos rfl, if_pos (by omega), show 1 + k - 1 = k by omega]
    · rw [if_neg e]
      by_cases h2 : j - 1 < k
      · rw [if_pos h2, if_pos (by omega)]
      · rw [if_neg h2, if_neg (by omega)]
theorem begF_all (n j : Nat) : begF n n j = heldF n (nth (ownL n)) j := by
  unfold begF heldF
  by_cases h : j = 0
  · rw [if_pos h, if_pos h]
  · rw [if_neg h, if_neg h]
    by_cases h2 : j - 1 < n
    · rw [if_pos h2, if_pos h2, ownL_nth h2]
    · rw [if_neg h2, if_neg h2]

set_option maxRecDepth 100000 in
set_option maxHeartbeats 1600000 in
theorem beginning_any (n c : Nat) (a : Option Addr) (w : World) (hn : n ≤ 5) :
    Calls Tryd.prog 75 #[.slice a n c] w fun e w' => e = .returned (HeldK n (ownL n)) ∧ Below w.heap.size w w' := by
  have t1 : True := trivial
  have t2 : True := trivial
  go_enter Tryd.func75, Tryd.ntmps75
  go_wp2_with (first
    | (have _t := t1; (with_reducible refine arr_alloc 6 _ (Tryd.zeroHeld _) ?_); clear t1; intro w1 hA1 hs1 hb1; have S1 := Lib.hid hs1; have A1 := Lib.hid hA1; clear hs1 hA1)
    | ((with_reducible refine st_build1 _ _ (n : Nat) _ ?_ (Tryd.builtHeld _) ?_); exact rfl)
    | ((with_reducible refine arr_alloc 6 _ (Tryd.zeroHeld _) ?_); intro w2 hA2 hs2 hb2; have S2 := Lib.hid hs2; clear hs2)
    | (have _t := t2; (with_reducible refine arr_store 6 _ _ _ _ _ _ (onlyN n) ?_ ?_ hA2 Tryd.sizeHeld ?_); exact rfl; exact rfl; clear t2; intro w3 hA3 hs3 ho3 hb3; have S3 := Lib.hid hs3; have O3 := Lib.hid ho3; clear hA2 hs3 ho3))
  have A3 := Lib.hid (hA3.congr (fun j _ => begF_zero n j))
  have A0 := Lib.hid (A1.out.below A1.out.lt (hb2.trans hb3))
  have B3 := Lib.hid (hb1.trans ((hb2.trans hb3).mono hb1.size))
  have hlt1 := A1.out.lt
  obtain ⟨s, hs⟩ : ∃ s, s = w.heap.size := ⟨_, rfl⟩
  obtain ⟨g, hg⟩ : ∃ g, g = w1.heap.size := ⟨_, rfl⟩
  have hsg : s < g := by omega
  rw [← hs] at A0 hlt1
  rw [← hg] at A3
  rw [← hs, ← hg]
  have hsw : w.heap.size ≤ s := by omega
  have hgw : w.heap.size ≤ g := by omega
  clear hA3 hb1 hb2 hb3 hs hg A1 S1 S2 S3 O3 hlt1
  go_loopw [4, 10] (fun _ i wr => ∃ k : Nat, k ≤ n ∧ i = .int .i64 k ∧ ArrAt wr g 60 6 (begF n k) ∧ ArrAt wr s 60 6 (fun _ => 0) ∧ Below w.heap.size w wr) (fun _ i _ => n - (intOf i).toNat)
  case atStart => exact ⟨0, Nat.zero_le _, rfl, A3.out, A0.out, B3.out⟩
  case round =>
    obtain ⟨k, hk, rfl, hA, h0, hB⟩ := hrel
    have AR := Lib.hid hA
    have A0R := Lib.hid h0
    have BR := Lib.hid hB
    clear A3 A0 B3
    by_cases hlt : k < n
    · have hc := hA.cell (j := 1 + k) (by omega)
      have hf := hA.frozen (1 + k)
      have k1 : (0 : Int) ≤ (k : Int) := by omega
      have k2 : (k : Int) < 5 := by omega
      clear hA h0 hB
      go_wp2
      go_roundw
      case rel => exact ⟨k + 1, by omega, by go_num, (AR.out.set (1 + k) k).congr (fun j _ => begF_next n k j), A0R.out.setOther (by show s ≠ g; omega) _, BR.out.setCell (p := ⟨g, 1 + k, none⟩) hgw _⟩
      case measure => simp [intOf]; omega
    · obtain rfl : k = n := by omega
      have AE := Lib.hid (hA.congr (fun j _ => begF_all k j))
      clear hA h0 hB
      go_wp2_with (first
        | ((with_reducible refine st_load 6 _ _ _ _ _ _ ?_ AE.out Tryd.underlying60 rfl Tryd.sizeHeld ?_); exact rfl)
        | ((with_reducible refine arr_store 6 _ _ _ _ _ _ (heldF k (nth (ownL k))) ?_ ?_ A0R.out Tryd.sizeHeld ?_); exact rfl; exact rfl; intro w5 hA5 hs5 ho5 hb5))
      exact bodyPost_ret (results_st rfl _ _ _ _ 6 _ _ rfl hA5 Tryd.underlying60 rfl Tryd.sizeHeld) rfl ⟨rfl, BR.out.trans (hb5.mono hsw)⟩
end Go.Proofs.YtgjegpponchdaaaDoor
