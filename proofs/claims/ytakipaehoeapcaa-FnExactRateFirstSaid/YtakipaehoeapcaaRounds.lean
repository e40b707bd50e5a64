/- The program's rounds and waysFrom: iterators. -/
import Derived.Test.YtakipaehoeapcaaLonger
namespace Go.Proofs.Ytakipaehoeapcaa
set_option linter.unusedVariables false
open Go.RowKit
attribute [local go_sem] Oper.semAt_some wide_fn wide_round_fn

theorem rounds_any (n : Int) (w : World) :
    Calls Try.prog 87 #[.int .i64 n] w fun e w' => e = .returned (.func (.func 103) #[] #[.pointer (some ⟨w.heap.size, 0, none⟩)]) ∧ w' = w.alloc (.cells #[.int .i64 n] 3) := by
  go_enter Try.func87, Try.ntmps87
  go_wp2
  go_ret
  exact ⟨rfl, rfl⟩
theorem waysFrom_any (n i : Int) (w : World) :
    Calls Try.prog 83 #[.int .i64 n, .int .i64 i] w fun e w' => e = .returned (.func (.func 101) #[] #[.pointer (some ⟨w.heap.size, 0, none⟩), .pointer (some ⟨w.heap.size + 1, 0, none⟩)]) ∧ w' = (w.alloc (.cells #[.int .i64 n] 3)).alloc (.cells #[.int .i64 i] 3) := by
  go_enter Try.func83, Try.ntmps83
  go_wp2
  go_ret
  exact ⟨rfl, rfl⟩

theorem owns_new (w : World) (s tI : Nat) (x : Int) (hs : s ≤ w.heap.size) : (w.alloc (.cells #[.int .i64 x] tI)).ownsRow s tI 1 (.slice (some ⟨w.heap.size, 0, none⟩) 1 1) 1 (cellsD [x]) :=
  ⟨rfl, .inr ⟨w.heap.size, 1, #[.int .i64 x], rfl, hs, World.alloc_heap_new w _, Nat.le_refl _, by unfold maxLen; omega, rfl, rfl⟩⟩
theorem diff_one {n k : Nat} (h : k < n) : Diff n [(k : Int)] := by
  have := (Diff.nil n).snoc_iff (x := k) h
  simp at this
  exact this

set_option maxRecDepth 100000 in
set_option maxHeartbeats 2000000 in
theorem seq_rounds (n Bn : Nat) (w : World) (hn2 : 2 ≤ n) (hn : n ≤ 5) (hc : w.cell? ⟨Bn, 0, none⟩ = some (.int .i64 n)) :
    SeqL Try.prog 3 103 #[.pointer (some ⟨Bn, 0, none⟩)] (fun k => k = Bn) (roundsTo n n) w := by
  intro l V J Jx W hin hR hJ hJx hY h0
  have hcW : W.cell? ⟨Bn, 0, none⟩ = some (.int .i64 n) := hin.cell (p := ⟨Bn, 0, none⟩) rfl hc
  have HB := Lib.hid (hR Bn rfl)
  have HY := Lib.hid hY
  have H0 := Lib.hid h0
  clear hin hR hY h0
  refine callsIn_of_wp Try.func103 rfl trivial ?_ rfl
  simp only [Try.ntmps103, List.size_toArray, List.length_cons, List.length_nil, Nat.reduceAdd, Nat.reduceSub, Array.replicate_succ, Array.replicate_zero, List.push_toArray, List.append_toArray, List.nil_append, List.cons_append]
  gi_wp2
  gi_loopw [3, 5] (fun _ i wr => ∃ k : Nat, k ≤ n ∧ i = .int .i64 k ∧ W.heap.size ≤ wr.heap.size ∧ wr.cell? ⟨Bn, 0, none⟩ = some (.int .i64 n) ∧ ∃ V1, (∀ j, V1 j → V j ∨ W.heap.size ≤ j) ∧ J V1 (roundsTo n k) wr) (fun _ i _ => n - (intOf i).toNat)
  case atStart => exact ⟨0, Nat.zero_le _, rfl, Nat.le_refl _, hcW, V, fun j h => .inl h, H0.out⟩
  case round =>
    obtain ⟨k, hk, rfl, hsz, hcr, V1, hV1, hj⟩ := hrel
    have hBlt := World.block_lt_of_cell? _ _ hcW
    have NB : Hid (¬ V1 Bn) := Lib.hid (fun h => by rcases hV1 Bn h with h | h; exact HB.out h; exact absurd (show Bn < W.heap.size from hBlt) (by omega))
    have HV1 := Lib.hid hV1
    have J1 := Lib.hid hj
    clear hV1 hj
    by_cases hlt : k < n
    · have J2 := Lib.hid (hJ.steady _ _ _ _ J1.out (Inside.of_below (below_alloc (Below.refl _ wr) (.cells #[.int .i64 k] 3)) (hJ.lies _ _ _ J1.out)))
      have hc := longer_in n (k + 1) W.heap.size l J Jx (roundsTo n n) hn2 hn (by omega) hJ hJx HY.out (n - 1) [(k : Int)] wr.heap.size 1 V1 (roundsTo n k) (wr.alloc (.cells #[.int .i64 k] 3)) (diff_one hlt) (by simp) (by simp; omega) J2.out
        (fun h => by have := hJ.lies _ _ _ J1.out _ h; omega) (by simp; omega) (owns_new wr _ _ _ hsz) (by rw [← roundsTo_succ]; exact roundsTo_front (by omega))
      rw [show ((k + 1 : Nat) : Int) = (k : Int) + 1 by omega] at hc
      simp only [List.length_cons, List.length_nil, Nat.zero_add] at hc
      have HC := Lib.hid hc
      clear hc
      gi_wp2
      refine (callsIn_wide.2 (callsIn_wide.1 HC.out)).mono ?_
      have hs1 : (wr.alloc (.cells #[.int .i64 k] 3)).heap.size = wr.heap.size + 1 := by simp
      rintro e W5 ⟨hout5, hown5, V2, hV2, (⟨rfl, hj5⟩ | ⟨rfl, q, hq, hj5⟩)⟩
      · have hc5 : W5.cell? ⟨Bn, 0, none⟩ = some (.int .i64 n) := hout5.cell (p := ⟨Bn, 0, none⟩) (fun h => by rcases h with h | h; exact NB.out h; have h' : Bn = wr.heap.size := h; omega) (by rw [World.cell?_of_block (w := wr) (Below.heap_alloc wr _ Bn (by omega))]; exact hcr)
        have S5 := hout5.size
        have J5 := Lib.hid hj5
        have V5 := Lib.hid (show ∀ j, V2 j → V j ∨ W.heap.size ≤ j from fun j h => by rcases hV2 j h with h' | h'; exact HV1.out j h'; exact .inr (by omega))
        clear hout5 hown5 hV2 hj5
        gi_wp2
        go_roundw
        case rel => exact ⟨k + 1, by omega, by go_num, by omega, hc5, V2, V5.out, by rw [roundsTo_succ]; exact J5.out⟩
        case measure => simp [intOf]; omega
      · have J5 := Lib.hid hj5
        have Q5 := Lib.hid hq
        clear hout5 hown5 hV2 hj5 hq
        gi_wp2
        refine bodyPost_ret (results_none rfl _ _ _) rfl ?_
        exact ⟨⟨_, rfl⟩, .inr ⟨V2, _, ((List.prefix_append_right_inj _).2 Q5.out).trans (by rw [← roundsTo_succ]; exact roundsTo_front (by omega)), J5.out⟩⟩
    · obtain rfl : k = n := by omega
      gi_wp2
      go_end0
      exact ⟨⟨_, rfl⟩, .inl ⟨V1, J1.out⟩⟩

set_option maxRecDepth 100000 in
set_option maxHeartbeats 2000000 in
theorem seq_ways (n i Bn Bi : Nat) (w : World) (hn2 : 2 ≤ n) (hn : n ≤ 5) (hi : i < n) (hc : w.cell? ⟨Bn, 0, none⟩ = some (.int .i64 n)) (hci : w.cell? ⟨Bi, 0, none⟩ = some (.int .i64 i)) :
    SeqL Try.prog 3 101 #[.pointer (some ⟨Bn, 0, none⟩), .pointer (some ⟨Bi, 0, none⟩)] (fun k => k = Bn ∨ k = Bi) (longer n (n - 1) [(i : Int)]) w := by
  intro l V J Jx W hin hR hJ hJx hY h0
  have hcW : W.cell? ⟨Bn, 0, none⟩ = some (.int .i64 n) := hin.cell (p := ⟨Bn, 0, none⟩) (.inl rfl) hc
  have hciW : W.cell? ⟨Bi, 0, none⟩ = some (.int .i64 i) := hin.cell (p := ⟨Bi, 0, none⟩) (.inr rfl) hci
  have J2 := hJ.steady _ _ _ _ h0 (Inside.of_below (below_alloc (Below.refl _ W) (.cells #[.int .i64 i] 3)) (hJ.lies _ _ _ h0))
  have hcl := longer_in n 0 W.heap.size l J Jx (longer n (n - 1) [(i : Int)]) hn2 hn (by omega) hJ hJx hY (n - 1) [(i : Int)] W.heap.size 1 V [] (W.alloc (.cells #[.int .i64 i] 3)) (diff_one hi) (by simp) (by simp; omega) J2
    (fun h => by have := hJ.lies _ _ _ h0 _ h; omega) (by simp) (owns_new W _ _ _ (Nat.le_refl _)) (by rw [later_zero, List.nil_append]; exact List.prefix_refl _)
  rw [later_zero, show ((0 : Nat) : Int) = 0 by rfl] at hcl
  simp only [List.length_cons, List.length_nil, Nat.zero_add] at hcl
  have HC := Lib.hid hcl
  clear hin hR hY h0 J2 hcl hc hci
  refine callsIn_of_wp Try.func101 rfl trivial ?_ rfl
  simp only [Try.ntmps101, List.size_toArray, List.length_cons, List.length_nil, Nat.reduceAdd, Nat.reduceSub, Array.replicate_succ, Array.replicate_zero, List.push_toArray, List.append_toArray, List.nil_append, List.cons_append]
  gi_wp2
  refine (callsIn_wide.2 (callsIn_wide.1 HC.out)).mono ?_
  rintro e W5 ⟨hout5, hown5, V2, hV2, (⟨rfl, hj5⟩ | ⟨rfl, q, hq, hj5⟩)⟩
  · have J5 := Lib.hid hj5
    clear hout5 hown5 hV2 hj5
    gi_wp2
    go_end0
    exact ⟨⟨_, rfl⟩, .inl ⟨V2, by have := J5.out; rwa [List.nil_append] at this⟩⟩
  · have J5 := Lib.hid hj5
    have Q5 := Lib.hid hq
    clear hout5 hown5 hV2 hj5 hq
    gi_wp2
    go_end0
    exact ⟨⟨_, rfl⟩, .inr ⟨V2, q, Q5.out, by have := J5.out; rwa [List.nil_append] at this⟩⟩
end Go.Proofs.Ytakipaehoeapcaa
