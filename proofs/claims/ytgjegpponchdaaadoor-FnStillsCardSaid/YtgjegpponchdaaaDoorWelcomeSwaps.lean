/- The program's welcomes. -/
/- The program's welcomeSwaps: an iterator over pairs. -/
import Derived.Test.YtgjegpponchdaaaDoorWishes
import Derived.Test.YtgjegpponchdaaaDoorHeld
import Derived.Test.YtgjegpponchdaaaDoorLikes
import Derived.Test.YtgjegpponchdaaaDoorSeq
import Derived.Test.YtgjegpponchdaaaDoorMayModel
import Derived.WalkKit
import Derived.OwnWalkIn
import Derived.TacticsInMore
import Derived.LoopNIn
import Derived.LoopIn
namespace Go.Proofs.YtgjegpponchdaaaDoor
set_option linter.unusedVariables false
set_option linter.unusedSimpArgs false
open Go.RowKit

set_option maxRecDepth 100000 in
set_option maxHeartbeats 1600000 in
theorem welcomes_any (n c i k : Nat) (a : Option Addr) (A : Nat → Option Addr) (L C : Nat → Nat) (Z : Nat → Nat → Int) (G : Nat → Int) (w : World) (hW : IsWishes n L Z) (ha0 : Tab w a n A L C Z) (hi : i < n) (hk : k < n) :
    Calls Tryd.prog 88 #[.slice a n c, .agg (cellsV 6 (heldF n G)), .int .i64 i, .int .i64 k] w fun e w' => e = .returned (.bool (tt (MayP n Z G i k))) ∧ Below w.heap.size w w' := by
  have hn5 := hW.1.2
  have HA := Lib.hid ha0
  have HW := Lib.hid hW
  obtain ⟨x, hx⟩ : ∃ x, x = G i := ⟨_, rfl⟩
  obtain ⟨y, hy⟩ : ∃ y, y = G k := ⟨_, rfl⟩
  have hfi : heldF n G (1 + i) = x := by rw [heldF_at G hi, hx]
  have hfk : heldF n G (1 + k) = y := by rw [heldF_at G hk, hy]
  have QI := Lib.hid hfi
  have QK := Lib.hid hfk
  have i1 : (0 : Int) ≤ (i : Int) := by omega
  have i2 : (i : Int) < 5 := by omega
  have k1 : (0 : Int) ≤ (k : Int) := by omega
  have k2 : (k : Int) < 5 := by omega
  have H1 := Lib.hid (fun w1 (h : Below w.heap.size w w1) => likes_any n c i a A L C Z y x w1 hW hi (ha0.below (Nat.le_refl _) h))
  have H2 := Lib.hid (fun w1 (h : Below w.heap.size w w1) => likes_any n c k a A L C Z x y w1 hW hk (ha0.below (Nat.le_refl _) h))
  have QX := Lib.hid hx
  have QY := Lib.hid hy
  clear hW ha0 hfi hfk hx hy
  by_cases h1 : idxF (Z i) y n < idxF (Z i) x n
  · have d1 := Lib.hid (show decide (idxF (Z i) y n < idxF (Z i) x n) = true from decide_eq_true h1)
    have HE := Lib.hid (show decide (idxF (Z k) x n < idxF (Z k) y n) = tt (MayP n Z G i k) from by
      by_cases h2 : idxF (Z k) x n < idxF (Z k) y n
      · rw [tt_of (show MayP n Z G i k from ⟨by rw [← QX.out, ← QY.out]; exact h1, by rw [← QX.out, ← QY.out]; exact h2⟩)]; exact decide_eq_true h2
      · rw [tt_no (show ¬ MayP n Z G i k from fun h => h2 (by have := h.2; rwa [← QX.out, ← QY.out] at this))]; exact decide_eq_false h2)
    clear h1
    go_enter Tryd.func88, Tryd.ntmps88
    go_wp2_with ((with_reducible refine arr_box 6 _ _ (heldF n G) ?_ ?_); exact rfl; intro w1 hA1 hs1 hb1; have ci := hA1.cell (j := 1 + i) (by omega); have ck := hA1.cell (j := 1 + k) (by omega); rw [QI.out] at ci; rw [QK.out] at ck; clear hs1 hA1)
    go_quiet (fail)
    rename_i nq
    have hb2 := Lib.hid (below_drewN hb1 nq)
    clear ci ck hb1
    go_wp2_with fail
    refine (H1.out _ hb2.out).mono ?_
    rintro e w3 ⟨rfl, hb3⟩
    rw [d1.out]
    have hb4 := Lib.hid (below_chain hb2.out hb3)
    clear hb3
    go_wp2_with fail
    refine (H2.out _ hb4.out).mono ?_
    rintro e w5 ⟨rfl, hb5⟩
    rw [HE.out]
    have hb6 := Lib.hid (below_chain hb4.out hb5)
    clear hb5
    go_wp2
    go_ret
    exact ⟨rfl, hb6.out⟩
  · have d1 := Lib.hid (show decide (idxF (Z i) y n < idxF (Z i) x n) = false from decide_eq_false h1)
    have HE := Lib.hid (tt_no (show ¬ MayP n Z G i k from fun h => h1 (by have := h.1; rwa [← QX.out, ← QY.out] at this)))
    clear h1
    go_enter Tryd.func88, Tryd.ntmps88
    go_wp2_with ((with_reducible refine arr_box 6 _ _ (heldF n G) ?_ ?_); exact rfl; intro w1 hA1 hs1 hb1; have ci := hA1.cell (j := 1 + i) (by omega); have ck := hA1.cell (j := 1 + k) (by omega); rw [QI.out] at ci; rw [QK.out] at ck; clear hs1 hA1)
    go_quiet (fail)
    rename_i nq
    have hb2 := Lib.hid (below_drewN hb1 nq)
    clear ci ck hb1
    go_wp2_with fail
    refine (H1.out _ hb2.out).mono ?_
    rintro e w3 ⟨rfl, hb3⟩
    rw [d1.out]
    have hb4 := Lib.hid (below_chain hb2.out hb3)
    clear hb3
    go_wp2
    go_ret
    exact ⟨by rw [HE.out]; rfl, hb4.out⟩
end Go.Proofs.YtgjegpponchdaaaDoor

namespace Go.Proofs.YtgjegpponchdaaaDoor
set_option linter.unusedVariables false
set_option linter.unusedSimpArgs false
open Go.RowKit

section
variable {P : Program} {N : Nat} {Fc : Fence} {ops : Array Oper} {rest : List Oper} {a : Act} {w : World} {Q : Exit → Act → World → Prop} {d : Option Nat} {ot : TypeId} {pos : String} {aft : Array Edge}
/-- A whole struct is loaded, in a fenced walk. -/
theorem stI_load_g (n ty t : Nat) (dd : TypeDesc) (x : Operand) (gd : Option (Nat × Bool)) (g : Nat) (F : Nat → Int) (hw : Region.wanted (⟨d, Op.load ty x, ot, pos, aft, gd⟩ : Oper) (yielded ops a.tmps) = true) (hx : a.eval x = .pointer (some ⟨g, 0, none⟩)) (hg : ArrAt w g t n F) (hu : P.underlying ty = some dd) (hd : (match dd with | .struct _ | .array _ _ => true | _ => false) = true) (hi : (P.info? ty).map (·.size) = some n)
    (h : wpListIn Fc N P ops Q rest (a.put d (.agg (cellsV n F))) w) : wpListIn Fc N P ops Q (⟨d, Op.load ty x, ot, pos, aft, gd⟩ :: rest) a w :=
  wpListIn_step fun K hK => by
    rw [if_pos hw]
    refine wpIn_of_run (by intro c hc; cases hc) (by simp [Oper.about]) (v := .agg (cellsV n F)) (w' := w) ?_ (hK _ _ h)
    unfold execOp
    simp only [hx, Instr.loadAt, Instr.sureAddr, Sem.run_bind, Sem.run_pure, Result.andThen_ok, run_loadVar_row w g t ty (cellsV n F) (0, 0) _ hg hu hd (by rw [cellsV_size]; exact hi)]
theorem stI_load (n ty t : Nat) (dd : TypeDesc) (x : Operand) (g : Nat) (F : Nat → Int) (hx : a.eval x = .pointer (some ⟨g, 0, none⟩)) (hg : ArrAt w g t n F) (hu : P.underlying ty = some dd) (hd : (match dd with | .struct _ | .array _ _ => true | _ => false) = true) (hi : (P.info? ty).map (·.size) = some n)
    (h : wpListIn Fc N P ops Q rest (a.put d (.agg (cellsV n F))) w) : wpListIn Fc N P ops Q (⟨d, Op.load ty x, ot, pos, aft, none⟩ :: rest) a w :=
  stI_load_g n ty t dd x none g F rfl hx hg hu hd hi h
end

/-- What such an iterator reads: all that was there at first, and its two boxes. -/
def seeR (s Bw Bg : Nat) (k : Nat) : Prop := k < s ∨ k = Bw ∨ k = Bg
theorem Inside.below_see {s Bw Bg : Nat} {w0 w W : World} (hs : w0.heap.size = s) (hb : Below s w0 w) (h : Inside (seeR s Bw Bg) w W) : Below s w0 W :=
  ⟨h.os.trans hb.os, h.tape.trans hb.tape, h.output.trans hb.output, Nat.le_trans hb.size h.size, fun k hk => (h.block k (.inl hk)).trans (hb.block k hk)⟩

def pairV (p : Nat × Nat) : Array Value := #[.int .i64 p.1, .int .i64 p.2]

theorem welcomeSwaps_any (n c : Nat) (a : Option Addr) (G : Nat → Int) (w : World) :
    Calls Tryd.prog 73 #[.slice a n c, .agg (cellsV 6 (heldF n G))] w fun e w' => e = .returned (.func (.func 87) #[] #[.pointer (some ⟨w.heap.size, 0, none⟩), .pointer (some ⟨w.heap.size + 1, 0, none⟩)]) ∧ w'.cell? ⟨w.heap.size, 0, none⟩ = some (.slice a n c) ∧ ArrAt w' (w.heap.size + 1) 60 6 (heldF n G) ∧ w'.heap.size = w.heap.size + 2 ∧ Below w.heap.size w w' := by
  go_enter Tryd.func73, Tryd.ntmps73
  go_wp2_with ((with_reducible refine arr_box 6 _ _ (heldF n G) ?_ ?_); exact rfl; intro w1 hA1 hs1 hb1; have S1 := Lib.hid hs1; have A1 := Lib.hid hA1; have B1 := Lib.hid hb1; clear hs1 hA1 hb1)
  go_ret
  have e1 : (w.alloc (.cells #[.slice a n c] 43)).heap.size = w.heap.size + 1 := by simp
  have h1 := A1.out
  have h2 := S1.out
  have h3 := B1.out
  rw [e1] at h1 h2 h3
  refine ⟨by first | rfl | simp, ?_, h1, h2, (below_alloc (Below.refl _ w) _).trans (h3.mono (by omega))⟩
  rw [h3.cell (p := ⟨w.heap.size, 0, none⟩) (by show w.heap.size < _; omega)]
  simp

section
attribute [local go_sem] Oper.semAt_some wide_fn wide_round_fn

set_option maxRecDepth 100000 in
set_option maxHeartbeats 4000000 in
theorem seq_welcome (n c : Nat) (a : Option Addr) (A : Nat → Option Addr) (L C : Nat → Nat) (Z : Nat → Nat → Int) (G : Nat → Int) (w0 w : World) (Bw Bg : Nat) (hg : IsWishes n L Z) (ha : Tab w0 a n A L C Z) (hb : Below w0.heap.size w0 w) (hcw : w.cell? ⟨Bw, 0, none⟩ = some (.slice a n c)) (hAg : ArrAt w Bg 60 6 (heldF n G)) :
    SeqV Tryd.prog pairV 87 #[.pointer (some ⟨Bw, 0, none⟩), .pointer (some ⟨Bg, 0, none⟩)] (seeR w0.heap.size Bw Bg) (mayL n Z G) w := by
  intro l O V J Jx W hin hR hO hJ hJx hY h0
  have hn5 := hg.1.2
  have SEE := Lib.hid (show ∀ X, Inside (seeR w0.heap.size Bw Bg) W X → Tab X a n A L C Z ∧ X.cell? ⟨Bw, 0, none⟩ = some (.slice a n c) ∧ ArrAt X Bg 60 6 (heldF n G) from fun X h => by
    have h' := hin.trans h
    exact ⟨ha.below (Nat.le_refl _) (Inside.below_see rfl hb h'), h'.cell (p := ⟨Bw, 0, none⟩) (.inr (.inl rfl)) hcw, hAg.of_block (h'.block Bg (.inr (.inr rfl)))⟩)
  have RW := Lib.hid (show ∀ k, seeR w0.heap.size Bw Bg k → k < W.heap.size from fun k h => by
    have h1 := World.block_lt_of_cell? _ _ hcw
    have h2 := hAg.lt
    have h3 := hb.size
    have h4 := hin.size
    dsimp only at h1
    rcases h with h | rfl | rfl <;> omega)
  have NV := Lib.hid hR
  have OW := Lib.hid hO
  have HY := Lib.hid hY
  have H0 := Lib.hid h0
  have HG := Lib.hid hg
  clear hin hR hO hY h0 hb hcw hAg ha hg
  refine callsIn_of_wp Tryd.func87 rfl trivial ?_ rfl
  simp only [Tryd.ntmps87, List.size_toArray, List.length_cons, List.length_nil, Nat.reduceAdd, Nat.reduceSub, Array.replicate_succ, Array.replicate_zero, List.push_toArray, List.append_toArray, List.nil_append, List.cons_append]
  have cw := (SEE.out W (Inside.refl _ _)).2.1
  gi_wp2
  clear cw
  gi_loopw [4, 5, 8] (fun _ _ s wr => ∃ i : Nat, i ≤ n ∧ s = .int .i64 i ∧ W.heap.size ≤ wr.heap.size ∧ Inside (seeR w0.heap.size Bw Bg) W wr ∧ ∃ V1, (∀ j, V1 j → V j ∨ W.heap.size ≤ j) ∧ J V1 (mayTo n Z G i) wr) (fun _ _ s _ => n - (intOf s).toNat)
  case atStart => exact ⟨0, Nat.zero_le _, rfl, Nat.le_refl _, Inside.refl _ _, V, fun j h => .inl h, H0.out⟩
  case round =>
    obtain ⟨i, hi, rfl, hsz, hin, V1, hV1, hj⟩ := hrel
    have HV1 := Lib.hid hV1
    have J1 := Lib.hid hj
    have IN1 := Lib.hid hin
    clear hV1 hj hin
    by_cases hlt : i < n
    · gi_wp2
      gi_loopw [5] (fun s wr => ∃ k : Nat, i + 1 ≤ k ∧ k ≤ n ∧ s = .int .i64 k ∧ W.heap.size ≤ wr.heap.size ∧ Inside (seeR w0.heap.size Bw Bg) W wr ∧ ∃ V2, (∀ j, V2 j → V j ∨ W.heap.size ≤ j) ∧ J V2 (mayTo n Z G i ++ rowMay n Z G i k) wr) (fun s _ => n - (intOf s).toNat)
      case atStart => exact ⟨i + 1, Nat.le_refl _, by omega, by go_num, hsz, IN1.out, V1, HV1.out, by rw [rowMay_low (Nat.le_refl _), List.append_nil]; exact J1.out⟩
      case round =>
        obtain ⟨k, hk1, hk2, rfl, hsz2, hin2, V2, hV2, hj2⟩ := hrel
        clear HV1 J1 IN1
        have HV2 := Lib.hid hV2
        have J2 := Lib.hid hj2
        have IN2 := Lib.hid hin2
        obtain ⟨htab, cw, hag⟩ := SEE.out _ hin2
        have HT := Lib.hid htab
        have AG := Lib.hid hag
        clear hV2 hj2 hin2 htab hag
        by_cases hkn : k < n
        · have WC := Lib.hid (welcomes_any n c i k a A L C Z G wr HG.out HT.out hlt hkn)
          have STEP := Lib.hid (show ∀ X, Below wr.heap.size wr X → W.heap.size ≤ X.heap.size ∧ Inside (seeR w0.heap.size Bw Bg) W X ∧ J V2 (mayTo n Z G i ++ rowMay n Z G i k) X from fun X h =>
            ⟨Nat.le_trans hsz2 h.size, IN2.out.trans (Inside.of_below h fun j hj => Nat.lt_of_lt_of_le (RW.out j hj) hsz2), hJ.steady _ _ _ _ J2.out (Inside.of_below h fun j hj => hj.elim (hJ.lies _ _ _ J2.out j) (fun ho => Nat.lt_of_lt_of_le (OW.out j ho) hsz2))⟩)
          by_cases hm : MayP n Z G i k
          · have T1 := Lib.hid (tt_of hm)
            have M1 := Lib.hid (rowMay_yes (n := n) (Z := Z) (G := G) ⟨show i < k by omega, hm⟩)
            have PF := Lib.hid (show (mayTo n Z G i ++ rowMay n Z G i k) ++ [(i, k)] <+: mayL n Z G by rw [List.append_assoc, ← M1.out]; exact may_front hlt (by omega))
            clear hm
            gi_wp2_with (first
              | ((with_reducible refine stI_load 6 _ _ _ _ _ _ ?_ AG.out Tryd.underlying60 rfl Tryd.sizeHeld ?_); exact rfl)
              | (gi_at_call 88; refine (callsIn_wide.2 WC.out).mono ?_; rintro e w5 ⟨rfl, hb5⟩; rw [T1.out]; have B5 := Lib.hid hb5; obtain ⟨hs5, hi5, hj5⟩ := STEP.out _ hb5; have S5 := Lib.hid hs5; have I5 := Lib.hid hi5; have J5 := Lib.hid hj5; clear hs5 hi5 hj5 hb5; obtain ⟨fn, tmps, assign, body, hy, hR⟩ := HY.out V2 _ (i, k) w5 J5.out PF.out; simp only [pairV] at hy; have HR := Lib.hid hR; clear hR))
            refine (roundIn_wide HR.out).mono ?_
            have SEE2 := Lib.hid (show ∀ W2, Outside V2 w5 W2 → Inside (seeR w0.heap.size Bw Bg) W W2 from fun W2 h => I5.out.trans (h.inside (fun j hj => Nat.lt_of_lt_of_le (RW.out j hj) S5.out) (fun j hj hv => by
              rcases HV2.out j hv with h' | h'
              · exact NV.out j hj h'
              · exact absurd (RW.out j hj) (by omega))))
            rintro e W2 ⟨ho2, V3, hV3, (⟨rfl, hj3⟩ | ⟨rfl, hj3⟩)⟩
            · have IN3 := Lib.hid (SEE2.out W2 ho2)
              have S3 := Lib.hid (Nat.le_trans S5.out ho2.size)
              have HV3 := Lib.hid (show ∀ j, V3 j → V j ∨ W.heap.size ≤ j from fun j h => by rcases hV3 j h with h' | h'; exact HV2.out j h'; exact .inr (Nat.le_trans S5.out h'))
              have J3 := Lib.hid hj3
              clear ho2 hV3 hj3 hy HR
              gi_wp2
              go_roundw
              case rel => exact ⟨k + 1, by omega, by omega, by go_num, S3.out, IN3.out, V3, HV3.out, by rw [M1.out, ← List.append_assoc]; exact J3.out⟩
              case measure => simp [intOf]; omega
            · have J3 := Lib.hid hj3
              clear ho2 hV3 hj3 hy HR
              gi_wp2
              refine bodyPost_ret (results_none rfl _ _ _) rfl ?_
              exact ⟨⟨_, rfl⟩, .inr ⟨V3, _, PF.out, J3.out⟩⟩
          · have T1 := Lib.hid (tt_no hm)
            have M1 := Lib.hid (rowMay_no (n := n) (Z := Z) (G := G) (i := i) (k := k) (fun h => hm h.2))
            clear hm
            gi_wp2_with (first
              | ((with_reducible refine stI_load 6 _ _ _ _ _ _ ?_ AG.out Tryd.underlying60 rfl Tryd.sizeHeld ?_); exact rfl)
              | (gi_at_call 88; refine (callsIn_wide.2 WC.out).mono ?_; rintro e w5 ⟨rfl, hb5⟩; rw [T1.out]; obtain ⟨hs5, hi5, hj5⟩ := STEP.out _ hb5; have S5 := Lib.hid hs5; have I5 := Lib.hid hi5; have J5 := Lib.hid hj5; clear hs5 hi5 hj5 hb5))
            go_roundw
            case rel => exact ⟨k + 1, by omega, by omega, by go_num, S5.out, I5.out, V2, HV2.out, by rw [M1.out]; exact J5.out⟩
            case measure => simp [intOf]; omega
        · obtain rfl : k = n := by omega
          gi_wp2
          go_roundw
          case rel => exact ⟨i + 1, by omega, by go_num, hsz2, IN2.out, V2, HV2.out, by rw [mayTo_succ]; exact J2.out⟩
          case measure => simp [intOf]; omega
    · obtain rfl : i = n := by omega
      gi_wp2
      go_end0
      exact ⟨⟨_, rfl⟩, .inl ⟨V1, J1.out⟩⟩
end
end Go.Proofs.YtgjegpponchdaaaDoor
