/- Texts joined: SplitS, Atoi, IdxF, IndexI, Contains, Clone, Ways, Rounds, ReadRates, UnitAfter, Value, Size, RoundValue. -/
import Derived.Test.YtabdbgnkiebcdaaDoorPartR5
import Derived.Shelf.Abstract
import Derived.WalkKit
import Derived.OwnWalkIn
import Derived.TacticsInMore
import Derived.LoopNIn
import Derived.LoopIn
import Derived.Test.YtabdbgnkiebcdaaDoorPartR1
import Derived.Test.YtabdbgnkiebcdaaDoorProg
import Derived.Test.YtabdbgnkiebcdaaDoorPartR2
import Derived.Shelf.Strconv.AtoiAll
import Derived.Lib.AtoiErrMem
import Derived.Lib.MinMax
import Derived.Test.YtabdbgnkiebcdaaDoorPartR3
namespace Go.Proofs.YtabdbgnkiebcdaaDoor
set_option linter.unusedVariables false
set_option linter.unusedSimpArgs false
open Go.RowKit

section
attribute [local go_sem] Oper.semAt_some wide_fn wide_round_fn

def strV (D : List UInt8) : Array Value := #[.string (strU D)]

theorem splitSeq_any (s : ByteArray) (w : World) :
    Calls Tryd.prog 150 #[.string s, .string ⟨#[32]⟩, .int .i64 0] w fun e w' => e = .returned (.func (.func 166) #[] #[.pointer (some ⟨w.heap.size + 1, 0, none⟩), .pointer (some ⟨w.heap.size, 0, none⟩), .pointer (some ⟨w.heap.size + 1 + 1, 0, none⟩)]) ∧
      w' = ((w.alloc (.cells #[.string s] 9)).alloc (.cells #[.string ⟨#[32]⟩] 9)).alloc (.cells #[.int .i64 0] 3) := by
  go_enter Tryd.func150, Tryd.ntmps150
  go_wp2
  go_ret
  exact ⟨rfl, rfl⟩
theorem splitSeqS_any (s : ByteArray) (w : World) :
    Calls Tryd.prog 128 #[.string s, .string ⟨#[32]⟩] w fun e w' => e = .returned (.func (.func 166) #[] #[.pointer (some ⟨w.heap.size + 1, 0, none⟩), .pointer (some ⟨w.heap.size, 0, none⟩), .pointer (some ⟨w.heap.size + 1 + 1, 0, none⟩)]) ∧
      w' = ((w.alloc (.cells #[.string s] 9)).alloc (.cells #[.string ⟨#[32]⟩] 9)).alloc (.cells #[.int .i64 0] 3) := by
  have H := Lib.hid (splitSeq_any s w)
  go_enter Tryd.func128, Tryd.ntmps128
  go_wp2_with (go_at_call 150; refine H.out.mono ?_; rintro e w1 ⟨rfl, rfl⟩)
  go_ret
  exact ⟨rfl, rfl⟩

/-- How long the text in a box is. -/
def lenAt (b : Nat) (w : World) : Nat := match w.heap[b]? with
  | some (.cells cs _ _) => (match cs[0]? with
    | some (Value.string s) => s.size
    | _ => 0)
  | _ => 0
theorem lenAt_is {b : Nat} {w : World} {q : List UInt8} (h : w.heap[b]? = some (.cells #[.string (strU q)] 9 (0, 0))) : lenAt b w = q.length := by
  unfold lenAt
  rw [h]
  exact strU_size q
/-- The iterator's three boxes. -/
def SplR (b : Nat) (k : Nat) : Prop := k = b ∨ k = b + 1 ∨ k = b + 1 + 1

set_option maxRecDepth 100000 in
set_option maxHeartbeats 6400000 in
theorem seq_split (b : Nat) (r : List UInt8) (w : World) (hlen : r.length ≤ 1048576) (hs : w.heap[b]? = some (.cells #[.string (strU r)] 9 (0, 0))) (h1 : w.cell? ⟨b + 1, 0, none⟩ = some (.string ⟨#[32]⟩)) (h0 : w.cell? ⟨b + 1 + 1, 0, none⟩ = some (.int .i64 0)) :
    SeqW Tryd.prog strV 166 #[.pointer (some ⟨b + 1, 0, none⟩), .pointer (some ⟨b, 0, none⟩), .pointer (some ⟨b + 1 + 1, 0, none⟩)] (SplR b) (splitB r) w := by
  intro l O V J Jx W hin hR hO hRO hJ hJx hY hJ0
  have hsW : W.heap[b]? = some (.cells #[.string (strU r)] 9 (0, 0)) := (hin.block b (.inl rfl)).trans hs
  have h1W : W.cell? ⟨b + 1, 0, none⟩ = some (.string ⟨#[32]⟩) := hin.cell (p := ⟨b + 1, 0, none⟩) (.inr (.inl rfl)) h1
  have h0W : W.cell? ⟨b + 1 + 1, 0, none⟩ = some (.int .i64 0) := hin.cell (p := ⟨b + 1 + 1, 0, none⟩) (.inr (.inr rfl)) h0
  have hbl : b + 1 + 1 < W.heap.size := World.block_lt_of_cell? _ _ h0W
  have NV := Lib.hid hR
  have NO := Lib.hid hRO
  have OW := Lib.hid hO
  have HY := Lib.hid hY
  have J0 := Lib.hid hJ0
  have HS := Lib.hid hsW
  have H1 := Lib.hid h1W
  have H0 := Lib.hid h0W
  have HLE := Lib.hid hlen
  have z1 : (⟨#[32]⟩ : ByteArray).size = 1 := rfl
  clear hin hR hO hRO hY hJ0 hs h1 h0 hsW h0W hlen
  refine callsIn_of_wp Tryd.func166 rfl trivial ?_ rfl
  simp only [Tryd.ntmps166, List.size_toArray, List.length_cons, List.length_nil, Nat.reduceAdd, Nat.reduceSub, Array.replicate_succ, Array.replicate_zero, List.push_toArray, List.append_toArray, List.nil_append, List.cons_append]
  gi_wp2
  clear h1W
  gi_loopw [7, 8] (fun _ _ wr => ∃ (P : List (List UInt8)) (q : List UInt8), splitB r = P ++ splitB q ∧ q.length ≤ 1048576 ∧ W.heap.size ≤ wr.heap.size ∧ wr.heap[b]? = some (.cells #[.string (strU q)] 9 (0, 0)) ∧ wr.cell? ⟨b + 1, 0, none⟩ = some (.string ⟨#[32]⟩) ∧ wr.cell? ⟨b + 1 + 1, 0, none⟩ = some (.int .i64 0) ∧ ∃ V1, (∀ j, V1 j → V j ∨ W.heap.size ≤ j) ∧ J V1 P wr) (fun _ _ wr => lenAt b wr)
  case atStart => exact ⟨[], r, rfl, HLE.out, Nat.le_refl _, HS.out, H1.out, H0.out, V, fun j h => .inl h, J0.out⟩
  case round =>
    obtain ⟨P, q, hP, hq, hsz, hb, c1, c2, V1, hV1, hj⟩ := hrel
    have HP := Lib.hid hP
    have HQ := Lib.hid hq
    have HB := Lib.hid hb
    have HV1 := Lib.hid hV1
    have J1 := Lib.hid hj
    have C1 := Lib.hid c1
    have C2 := Lib.hid c2
    have c0 : wr.cell? ⟨b, 0, none⟩ = some (.string (strU q)) := (Lib.cell_of_heap hb 0).trans rfl
    have f0 : wr.frozen? ⟨b, 0, none⟩ = false := Lib.frozen_of_heap hb 0
    have z2 : (strU q).size = q.length := strU_size q
    have IX := Lib.hid (indexS_any (strU q) 32 wr)
    rw [strU_list] at IX
    have SAFE := Lib.hid (show ∀ V2 : Nat → Prop, (∀ j, V2 j → V j ∨ W.heap.size ≤ j) → ∀ k, SplR b k → ¬ V2 k from fun V2 h k hk hv => by
      rcases h k hv with h' | h'
      · exact NV.out k hk h'
      · rcases hk with rfl | rfl | rfl <;> omega)
    have MEAS := Lib.hid (lenAt_is hb)
    clear hP hq hb hV1 hj J0
    rcases space_cases q with ⟨x1, x2⟩ | ⟨i, x1, x2, x3, x4⟩
    · rw [x1] at IX
      have LL := Lib.hid (show splitB r = P ++ [q] by rw [HP.out, splitB_miss q x2])
      clear x1 x2
      obtain ⟨fn, tmps, assign, body, hy, hR⟩ := HY.out V1 P q wr J1.out (by rw [LL.out]; exact List.prefix_refl _)
      simp only [strV] at hy
      have HR := Lib.hid hR
      clear hR
      gi_wp2_with (gi_at_call 168; refine (callsIn_wide.2 IX.out).mono ?_; rintro e w5 ⟨rfl, rfl⟩)
      refine (roundIn_wide HR.out).mono ?_
      rintro e W2 ⟨ho2, V3, hV3, (⟨rfl, hj3⟩ | ⟨rfl, hj3⟩)⟩
      · have J3 := Lib.hid hj3
        clear ho2 hV3 hj3 hy HR
        gi_wp2
        go_end0
        exact ⟨⟨_, rfl⟩, .inl ⟨V3, by rw [LL.out]; exact J3.out⟩⟩
      · have J3 := Lib.hid hj3
        clear ho2 hV3 hj3 hy HR
        gi_wp2
        go_end0
        exact ⟨⟨_, rfl⟩, .inr ⟨V3, _, (by rw [LL.out]; exact List.prefix_refl _), J3.out⟩⟩
    · rw [x1] at IX
      have SP := Lib.hid (split_at x3 x4)
      have LL := Lib.hid (show splitB r = (P ++ [q.take i]) ++ splitB (q.drop (i + 1)) by rw [HP.out, SP.out, List.append_assoc]; rfl)
      have e1 : (strU q).extract 0 i = strU (q.take i) := by rw [extract_take, strU_list]
      have e2 : (strU q).extract (i + 1) q.length = strU (q.drop (i + 1)) := by
        have h := extract_drop (strU q) (i + 1)
        rw [z2, strU_list] at h; exact h
      have i1 : (0 : Int) ≤ (i : Int) := by omega
      have i2 : (i : Int) ≤ (q.length : Int) := by omega
      have i3 : (0 : Int) ≤ (i : Int) + 1 := by omega
      have i4 : (i : Int) + 1 ≤ (q.length : Int) := by omega
      have d1 : decide ((i : Int) < 0) = false := decide_eq_false (by omega)
      have hq9 := HQ.out
      have hw : IntKind.i64.wrap ((i : Int) + 1) = (i : Int) + 1 := by rw [IntWalk.i64_in _ (by omega)]
      have hw0 : IntKind.i64.wrap (i : Int) = (i : Int) := by rw [IntWalk.i64_in _ (by omega)]
      have ht : ((i : Int) + 1).toNat = i + 1 := by omega
      have LN := Lib.hid (show (q.drop (i + 1)).length < q.length ∧ (q.drop (i + 1)).length ≤ 1048576 by rw [List.length_drop]; omega)
      obtain ⟨q2, hq2⟩ : ∃ q2, q2 = q.drop (i + 1) := ⟨_, rfl⟩
      obtain ⟨fr, hfr⟩ : ∃ fr, fr = q.take i := ⟨_, rfl⟩
      rw [← hq2] at LL LN e2
      rw [← hfr] at LL e1
      clear x1 x2 x3 x4 SP hq2 hfr
      obtain ⟨fn, tmps, assign, body, hy, hR⟩ := HY.out V1 P fr wr J1.out (by rw [LL.out]; exact List.prefix_append _ _)
      simp only [strV] at hy
      have HR := Lib.hid hR
      clear hR
      gi_wp2_with (gi_at_call 168; refine (callsIn_wide.2 IX.out).mono ?_; rintro e w5 ⟨rfl, rfl⟩)
      refine (roundIn_wide HR.out).mono ?_
      rintro e W2 ⟨ho2, V3, hV3, (⟨rfl, hj3⟩ | ⟨rfl, hj3⟩)⟩
      · have J3 := Lib.hid hj3
        have hbw := hsz
        have nb := SAFE.out V1 HV1.out
        have HB2 := Lib.hid (show W2.heap[b]? = some (.cells #[.string (strU q)] 9 (0, 0)) from (ho2.block b (by omega) (nb b (.inl rfl))).trans HB.out)
        have c0 : W2.cell? ⟨b, 0, none⟩ = some (.string (strU q)) := (Lib.cell_of_heap HB2.out 0).trans rfl
        have f0 : W2.frozen? ⟨b, 0, none⟩ = false := Lib.frozen_of_heap HB2.out 0
        have c1 : W2.cell? ⟨b + 1, 0, none⟩ = some (.string ⟨#[32]⟩) := ho2.cell (p := ⟨b + 1, 0, none⟩) (nb _ (.inr (.inl rfl))) C1.out
        have c2 : W2.cell? ⟨b + 1 + 1, 0, none⟩ = some (.int .i64 0) := ho2.cell (p := ⟨b + 1 + 1, 0, none⟩) (nb _ (.inr (.inr rfl))) C2.out
        have C1' := Lib.hid c1
        have C2' := Lib.hid c2
        have S2 := Lib.hid (Nat.le_trans hsz ho2.size)
        have HV3 := Lib.hid (show ∀ j, V3 j → V j ∨ W.heap.size ≤ j from fun j h => by rcases hV3 j h with h' | h'; exact HV1.out j h'; exact .inr (Nat.le_trans hsz h'))
        clear ho2 hV3 hj3 hy HR nb
        gi_wp2
        go_roundw
        case rel =>
          have hB3 : (W2.setCell ⟨b, 0, none⟩ (.string (strU q2))).heap[b]? = some (.cells #[.string (strU q2)] 9 (0, 0)) := by
            simp [World.setCell, Array.getElem?_modify, HB2.out]
          refine ⟨P ++ [fr], q2, LL.out, LN.out.2, by have := S2.out; simp [World.setCell]; exact this, hB3, ?_, ?_, V3, HV3.out, ?_⟩
          · exact (World.cell?_of_block (a := ⟨b + 1, 0, none⟩) (Below.heap_setCell _ _ _ _ (by simp))).trans C1'.out
          · exact (World.cell?_of_block (a := ⟨b + 1 + 1, 0, none⟩) (Below.heap_setCell _ _ _ _ (by simp; omega))).trans C2'.out
          · refine hJ.steady _ _ _ _ J3.out ⟨rfl, rfl, rfl, by simp [World.setCell], fun k hk => Below.heap_setCell _ _ _ _ (fun e => ?_)⟩
            rcases hk with hk | hk
            · exact SAFE.out V3 HV3.out b (.inl rfl) (by first | (have e' : k = b := e; rw [← e']; exact hk) | (have e' : b = k := e; rw [e']; exact hk))
            · exact NO.out b (.inl rfl) (by first | (have e' : k = b := e; rw [← e']; exact hk) | (have e' : b = k := e; rw [e']; exact hk))
        case measure =>
          have hB3 : (W2.setCell ⟨b, 0, none⟩ (.string (strU q2))).heap[b]? = some (.cells #[.string (strU q2)] 9 (0, 0)) := by
            simp [World.setCell, Array.getElem?_modify, HB2.out]
          rw [lenAt_is hB3, MEAS.out]
          exact LN.out.1
      · have J3 := Lib.hid hj3
        clear ho2 hV3 hj3 hy HR
        gi_wp2
        refine bodyPost_ret (results_none rfl _ _ _) rfl ?_
        exact ⟨⟨_, rfl⟩, .inr ⟨V3, _, (by rw [LL.out]; exact List.prefix_append _ _), J3.out⟩⟩
end
end Go.Proofs.YtabdbgnkiebcdaaDoor

namespace Go.Proofs.YtabdbgnkiebcdaaDoor
set_option linter.unusedVariables false
set_option linter.unusedSimpArgs false
open Go.RowKit

def laysC172_ren : Go.Shelf.Ren := ⟨fun | 172 => 129 | 244 => 151 | 245 => 152 | 247 => 169 | 279 => 170 | 280 => 171 | 281 => 172 | 282 => 173 | 287 => 184 | 316 => 185 | 171 => 83 | 205 => 186 | 321 => 189 | 322 => 190 | 243 => 119 | 246 => 147 | 283 => 161 | 284 => 162 | 285 => 163 | 286 => 164 | 129 => 176 | 317 => 175 | 318 => 177 | 319 => 178 | 320 => 142 | 337 => 159 | 338 => 160 | n => n, fun | 9 => 9 | 3 => 3 | 75 => 99 | 76 => 100 | 4 => 4 | 5 => 5 | 167 => 159 | 37 => 38 | 0 => 0 | 85 => 160 | 2 => 2 | 168 => 162 | 53 => 150 | 175 => 171 | 46 => 138 | 210 => 175 | 127 => 118 | 145 => 186 | 143 => 184 | 21 => 21 | 171 => 151 | 173 => 153 | 212 => 168 | 51 => 148 | 20 => 20 | 213 => 169 | 232 => 165 | 233 => 166 | 80 => 61 | n => n, fun | 15 => 4 | 16 => 5 | 17 => 2 | 18 => 0 | 19 => 1 | n => n⟩
theorem laysC172 : Go.Proofs.LaysC.n172 Tryd.prog laysC172_ren := {
  mixed := by kernel_rfl
  f129 := Tryd.func176.trans (congrArg some (by kernel_rfl))
  f171 := Tryd.func83.trans (congrArg some (by kernel_rfl))
  f172 := Tryd.func129.trans (congrArg some (by kernel_rfl))
  f205 := Tryd.func186.trans (congrArg some (by kernel_rfl))
  f243 := Tryd.func119.trans (congrArg some (by kernel_rfl))
  f244 := Tryd.func151.trans (congrArg some (by kernel_rfl))
  f245 := Tryd.func152.trans (congrArg some (by kernel_rfl))
  f246 := Tryd.func147.trans (congrArg some (by kernel_rfl))
  f247 := Tryd.func169.trans (congrArg some (by kernel_rfl))
  f279 := Tryd.func170.trans (congrArg some (by kernel_rfl))
  f280 := Tryd.func171.trans (congrArg some (by kernel_rfl))
  f281 := Tryd.func172.trans (congrArg some (by kernel_rfl))
  f282 := Tryd.func173.trans (congrArg some (by kernel_rfl))
  f283 := Tryd.func161.trans (congrArg some (by kernel_rfl))
  f284 := Tryd.func162.trans (congrArg some (by kernel_rfl))
  f285 := Tryd.func163.trans (congrArg some (by kernel_rfl))
  f286 := Tryd.func164.trans (congrArg some (by kernel_rfl))
  f287 := Tryd.func184.trans (congrArg some (by kernel_rfl))
  f316 := Tryd.func185.trans (congrArg some (by kernel_rfl))
  f317 := Tryd.func175.trans (congrArg some (by kernel_rfl))
  f318 := Tryd.func177.trans (congrArg some (by kernel_rfl))
  f319 := Tryd.func178.trans (congrArg some (by kernel_rfl))
  f320 := Tryd.func142.trans (congrArg some (by kernel_rfl))
  f321 := Tryd.func189.trans (congrArg some (by kernel_rfl))
  f322 := Tryd.func190.trans (congrArg some (by kernel_rfl))
  f337 := Tryd.func159.trans (congrArg some (by kernel_rfl))
  f338 := Tryd.func160.trans (congrArg some (by kernel_rfl))
  t0 := Tryd.underlying0
  a0 := Tryd.isAgg0
  z0 := Tryd.sizeOf0
  v0 := Tryd.zeroValue0
  t2 := Tryd.underlying2
  a2 := Tryd.isAgg2
  z2 := Tryd.sizeOf2
  v2 := Tryd.zeroValue2
  t3 := Tryd.underlying3
  a3 := Tryd.isAgg3
  z3 := Tryd.sizeOf3
  v3 := Tryd.zeroValue3
  t4 := Tryd.underlying4
  a4 := Tryd.isAgg4
  z4 := Tryd.sizeOf4
  v4 := Tryd.zeroValue4
  t5 := Tryd.underlying5
  a5 := Tryd.isAgg5
  z5 := Tryd.sizeOf5
  v5 := Tryd.zeroValue5
  t9 := Tryd.underlying9
  a9 := Tryd.isAgg9
  z9 := Tryd.sizeOf9
  v9 := Tryd.zeroValue9
  t20 := Tryd.underlying20
  a20 := Tryd.isAgg20
  z20 := Tryd.sizeOf20
  v20 := Tryd.zeroValue20
  t21 := Tryd.underlying21
  a21 := Tryd.isAgg21
  z21 := Tryd.sizeOf21
  v21 := Tryd.zeroValue21
  t37 := Tryd.underlying38
  a37 := Tryd.isAgg38
  z37 := Tryd.sizeOf38
  v37 := Tryd.zeroValue38
  t46 := Tryd.underlying138
  a46 := Tryd.isAgg138
  z46 := Tryd.sizeOf138
  v46 := Tryd.zeroValue138
  t51 := Tryd.underlying148
  a51 := Tryd.isAgg148
  z51 := Tryd.sizeOf148
  v51 := Tryd.zeroValue148
  t53 := Tryd.underlying150
  a53 := Tryd.isAgg150
  z53 := Tryd.sizeOf150
  v53 := Tryd.zeroValue150
  t75 := Tryd.underlying99
  a75 := Tryd.isAgg99
  z75 := Tryd.sizeOf99
  v75 := Tryd.zeroValue99
  t76 := Tryd.underlying100
  a76 := Tryd.isAgg100
  z76 := Tryd.sizeOf100
  v76 := Tryd.zeroValue100
  t85 := Tryd.underlying160
  a85 := Tryd.isAgg160
  z85 := Tryd.sizeOf160
  v85 := Tryd.zeroValue160
  t127 := Tryd.underlying118
  a127 := Tryd.isAgg118
  z127 := Tryd.sizeOf118
  v127 := Tryd.zeroValue118
  t143 := Tryd.underlying184
  a143 := Tryd.isAgg184
  z143 := Tryd.sizeOf184
  v143 := Tryd.zeroValue184
  t145 := Tryd.underlying186
  a145 := Tryd.isAgg186
  z145 := Tryd.sizeOf186
  v145 := Tryd.zeroValue186
  t167 := Tryd.underlying159
  a167 := Tryd.isAgg159
  z167 := Tryd.sizeOf159
  v167 := Tryd.zeroValue159
  t168 := Tryd.underlying162
  a168 := Tryd.isAgg162
  z168 := Tryd.sizeOf162
  v168 := Tryd.zeroValue162
  t171 := Tryd.underlying151
  a171 := Tryd.isAgg151
  z171 := Tryd.sizeOf151
  v171 := Tryd.zeroValue151
  t173 := Tryd.underlying153
  a173 := Tryd.isAgg153
  z173 := Tryd.sizeOf153
  v173 := Tryd.zeroValue153
  t175 := Tryd.underlying171
  a175 := Tryd.isAgg171
  z175 := Tryd.sizeOf171
  v175 := Tryd.zeroValue171
  t210 := Tryd.underlying175
  a210 := Tryd.isAgg175
  z210 := Tryd.sizeOf175
  v210 := Tryd.zeroValue175
  t212 := Tryd.underlying168
  a212 := Tryd.isAgg168
  z212 := Tryd.sizeOf168
  v212 := Tryd.zeroValue168
  t213 := Tryd.underlying169
  a213 := Tryd.isAgg169
  z213 := Tryd.sizeOf169
  t232 := Tryd.underlying165
  a232 := Tryd.isAgg165
  z232 := Tryd.sizeOf165
  v232 := Tryd.zeroValue165
  t233 := Tryd.underlying166
  a233 := Tryd.isAgg166
  z233 := Tryd.sizeOf166
  v233 := Tryd.zeroValue166
  g15 := by kernel_rfl
  g16 := by kernel_rfl
  g17 := by kernel_rfl
  g18 := by kernel_rfl
  g19 := by kernel_rfl
  t80 := Tryd.underlying61
  a80 := Tryd.isAgg61
  z80 := Tryd.sizeOf61
  v80 := Tryd.zeroValue61
  i0 := by kernel_rfl
  i2 := by kernel_rfl
  i3 := by kernel_rfl
  i4 := by kernel_rfl
  i5 := by kernel_rfl
  i9 := by kernel_rfl
  i20 := by kernel_rfl
  i21 := by kernel_rfl
  i37 := by kernel_rfl
  i46 := by kernel_rfl
  i51 := by kernel_rfl
  i53 := by kernel_rfl
  i75 := by kernel_rfl
  i76 := by kernel_rfl
  i80 := by kernel_rfl
  i85 := by kernel_rfl
  i127 := by kernel_rfl
  i143 := by kernel_rfl
  i145 := by kernel_rfl
  i167 := by kernel_rfl
  i168 := by kernel_rfl
  i171 := by kernel_rfl
  i173 := by kernel_rfl
  i175 := by kernel_rfl
  i210 := by kernel_rfl
  i212 := by kernel_rfl
  i232 := by kernel_rfl
  i233 := by kernel_rfl
  m15 := by kernel_rfl
  m16 := by kernel_rfl
  m17 := by kernel_rfl
  m18 := by kernel_rfl
  m19 := by kernel_rfl
  c0 := by kernel_rfl
  c2 := by kernel_rfl
  c3 := by kernel_rfl
  c4 := by kernel_rfl
  c5 := by kernel_rfl
  c9 := by kernel_rfl
  c20 := by kernel_rfl
  c21 := by kernel_rfl
  c37 := by kernel_rfl
  c46 := by kernel_rfl
  c51 := by kernel_rfl
  c53 := by kernel_rfl
  c75 := by kernel_rfl
  c76 := by kernel_rfl
  c80 := by kernel_rfl
  c85 := by kernel_rfl
  c127 := by kernel_rfl
  c143 := by kernel_rfl
  c145 := by kernel_rfl
  c167 := by kernel_rfl
  c168 := by kernel_rfl
  c171 := by kernel_rfl
  c173 := by kernel_rfl
  c175 := by kernel_rfl
  c210 := by kernel_rfl
  c212 := by kernel_rfl
  c213 := by kernel_rfl
  c232 := by kernel_rfl
  c233 := by kernel_rfl }
/-- The library's two errors lie in their variables. -/
def NumErrAt (w : World) : Prop := (∃ t p, w.cell? ⟨4, 0, none⟩ = some (.iface t p)) ∧ ∃ t p, w.cell? ⟨5, 0, none⟩ = some (.iface t p)
theorem NumErrAt.below {w w' : World} {B : Nat} (h : NumErrAt w) (hB : w.heap.size ≤ B) (hb : Below B w w') : NumErrAt w' := by
  obtain ⟨⟨t, p, h1⟩, ⟨u, q, h2⟩⟩ := h
  exact ⟨⟨t, p, (hb.cell (p := ⟨_, 0, none⟩) (Nat.lt_of_lt_of_le (World.block_lt_of_cell? _ _ h1) hB)).trans h1⟩, ⟨u, q, (hb.cell (p := ⟨_, 0, none⟩) (Nat.lt_of_lt_of_le (World.block_lt_of_cell? _ _ h2) hB)).trans h2⟩⟩
/-- What Atoi hands back. -/
def RetAtoi (s : ByteArray) (w : World) (e : Ending) (w' : World) : Prop :=
  Below w.heap.size w w' ∧ ((∃ v : Int, Lib.atoiAll s.data.toList = .ok v ∧ e = .returned (.tuple #[.int .i64 v, .nilIface])) ∨ ((∀ v, Lib.atoiAll s.data.toList ≠ .ok v) ∧ ∃ x t p, e = .returned (.tuple #[.int .i64 x, .iface t p])))
theorem atoi_any (s : ByteArray) (w : World) (hs : s.size ≤ 1048576) (hE : NumErrAt w) : Calls Tryd.prog 129 #[.string s] w (RetAtoi s w) := by
  obtain ⟨⟨t, p, h1⟩, ⟨u, q, h2⟩⟩ := hE
  cases h : Lib.atoiAll s.data.toList with
  | ok v =>
    refine (Any.strconv_Atoi_ok laysC172 s (by omega) v h w).mono ?_
    rintro e w' ⟨rfl, hw⟩
    refine ⟨?_, .inl ⟨v, h, rfl⟩⟩
    rcases hw with rfl | ⟨z, rfl⟩
    · exact Below.refl _ _
    · exact Lib.bytesWorld_below w _ z
  | «syntax» =>
    refine (Any.strconv_Atoi_syntax laysC172 s (by omega) h _ w h1 (.inr ⟨_, _, rfl⟩)).mono ?_
    rintro e w' ⟨N, rfl, _, _, hb⟩
    exact ⟨hb, .inr ⟨fun v hv => (by rw [h] at hv; cases hv), _, _, _, rfl⟩⟩
  | range =>
    refine (Any.strconv_Atoi_range laysC172 s (by omega) h _ w h2 (.inr ⟨_, _, rfl⟩)).mono ?_
    rintro e w' ⟨N, rfl, _, _, hb⟩
    exact ⟨hb, .inr ⟨fun v hv => (by rw [h] at hv; cases hv), _, _, _, rfl⟩⟩
end Go.Proofs.YtabdbgnkiebcdaaDoor

namespace Go.Proofs.YtabdbgnkiebcdaaDoor
set_option linter.unusedVariables false
set_option linter.unusedSimpArgs false
open Go.RowKit

/-- Where x first stands among the first n; -1 if nowhere. -/
noncomputable def idxF (X : Nat → Int) (x : Int) : Nat → Int
  | 0 => -1
  | k + 1 => if idxF X x k = -1 then (if X k = x then (k : Int) else -1) else idxF X x k
theorem idxF_none {X : Nat → Int} {x : Int} {n : Nat} (h : ∀ k, k < n → X k ≠ x) : idxF X x n = -1 := by
  induction n with
  | zero => rfl
  | succ n ih =>
    unfold idxF
    rw [if_pos (ih fun k hk => h k (by omega)), if_neg (h n (by omega))]
theorem idxF_some {X : Nat → Int} {x : Int} {n k : Nat} (h : ∀ j, j < k → X j ≠ x) (hk : X k = x) (hn : k < n) : idxF X x n = k := by
  induction n with
  | zero => omega
  | succ n ih =>
    unfold idxF
    by_cases e : k = n
    · subst e
      rw [if_pos (idxF_none h), if_pos hk]
    · rw [ih (by omega), if_neg (by omega)]
/-- Does x stand among the first n? -/
def HasI (n : Nat) (X : Nat → Int) (x : Int) : Prop := ∃ k, k < n ∧ X k = x
theorem idxF_has {X : Nat → Int} {x : Int} {n : Nat} : HasI n X x ↔ 0 ≤ idxF X x n := by
  induction n with
  | zero => constructor
            · rintro ⟨k, h, _⟩; omega
            · intro h; simp [idxF] at h
  | succ n ih =>
    unfold idxF
    constructor
    · rintro ⟨k, hk, e⟩
      by_cases h1 : HasI n X x
      · have := ih.1 h1
        rw [if_neg (by omega)]; exact this
      · have hkn : k = n := by
          by_cases h2 : k < n
          · exact absurd ⟨k, h2, e⟩ h1
          · omega
        subst hkn
        rw [if_pos (idxF_none fun j hj e' => h1 ⟨j, hj, e'⟩), if_pos e]; omega
    · intro h
      by_cases h1 : idxF X x n = -1
      · rw [if_pos h1] at h
        by_cases h2 : X n = x
        · exact ⟨n, by omega, h2⟩
        · rw [if_neg h2] at h; omega
      · rw [if_neg h1] at h
        obtain ⟨k, hk, e⟩ := ih.2 h
        exact ⟨k, by omega, e⟩
end Go.Proofs.YtabdbgnkiebcdaaDoor

namespace Go.Proofs.YtabdbgnkiebcdaaDoor
set_option linter.unusedVariables false
set_option linter.unusedSimpArgs false
open Go.RowKit

set_option maxHeartbeats 400000 in
theorem index_any (n c : Nat) (a : Option Addr) (X : Nat → Int) (x : Int) (w : World) (hn : n ≤ 1048576) (ha : Rd w a n X) :
    Calls Tryd.prog 174 #[.slice a n c, .int .i64 x] w fun e w' => e = .returned (.int .i64 (idxF X x n)) ∧ w = w' := by
  go_enter Tryd.func174, Tryd.ntmps174
  go_wp2
  go_loop [4, 5, 8] (fun _ _ i => ∃ k : Nat, k ≤ n ∧ i = .int .i64 k ∧ ∀ j, j < k → X j ≠ x) (fun _ _ i => n - (intOf i).toNat)
  case atStart => exact ⟨0, Nat.zero_le _, rfl, fun j hj => absurd hj (Nat.not_lt_zero _)⟩
  case round =>
    obtain ⟨k, hk, rfl, hno⟩ := hrel
    have HN := Lib.hid hno
    clear hno
    by_cases hlt : k < n
    · obtain ⟨ba, oa, rfl, hca⟩ := ha k hlt
      clear ha
      by_cases hx : X k = x
      · have hd : decide (x = X k) = true := by simpa using hx.symm
        have hd2 : (x == X k) = true := by simpa using hx.symm
        have HX := Lib.hid (idxF_some HN.out hx hlt)
        clear hx
        go_wp2
        go_ret
        exact ⟨by rw [HX.out]; rfl, rfl⟩
      · have hd : decide (x = X k) = false := by simpa using fun e : x = X k => hx e.symm
        have hd2 : (x == X k) = false := by simpa using fun e : x = X k => hx e.symm
        have HX := Lib.hid hx
        clear hx
        go_wp2
        go_round
        case rel => exact ⟨k + 1, by omega, by go_num, fun j hj => by
          by_cases e : j = k
          · subst e; exact HX.out
          · exact HN.out j (by omega)⟩
        case measure => simp [intOf]; omega
    · obtain rfl : k = n := by omega
      clear ha
      have HX := Lib.hid (idxF_none HN.out)
      go_wp2
      go_ret
      exact ⟨by rw [HX.out]; rfl, rfl⟩

end Go.Proofs.YtabdbgnkiebcdaaDoor

namespace Go.Proofs.YtabdbgnkiebcdaaDoor
set_option linter.unusedVariables false
open Go.RowKit

set_option maxHeartbeats 400000 in
theorem contains_any (n c : Nat) (a : Option Addr) (X : Nat → Int) (x : Int) (w : World) (hn : n ≤ 1048576) (ha : Rd w a n X) :
    Calls Tryd.prog 154 #[.slice a n c, .int .i64 x] w fun e w' => e = .returned (.bool (tt (HasI n X x))) ∧ w = w' := by
  have H1 := Lib.hid (index_any n c a X x w hn ha)
  obtain ⟨r, hr⟩ : ∃ r, r = idxF X x n := ⟨_, rfl⟩
  have hd : decide (0 ≤ r) = tt (HasI n X x) := by
    rw [hr]
    by_cases h : HasI n X x
    · rw [tt_of h]; simpa using idxF_has.1 h
    · rw [tt_no h]
      have := fun h' => h (idxF_has.2 h')
      simpa using this
  have HD := Lib.hid hd
  have HR := Lib.hid hr
  clear hd ha hr
  go_enter Tryd.func154, Tryd.ntmps154
  go_wp2_with (go_at_call 174; refine H1.out.mono ?_; rintro e w' ⟨rfl, rfl⟩; rw [← HR.out])
  go_ret
  exact ⟨by rw [← HD.out]; rfl, rfl⟩
end Go.Proofs.YtabdbgnkiebcdaaDoor

namespace Go.Proofs.YtabdbgnkiebcdaaDoor
set_option linter.unusedVariables false
open Go.RowKit

set_option maxHeartbeats 400000 in
theorem clone_any (m c : Nat) (a : Option Addr) (X : Nat → Int) (w : World) (hm1 : 1 ≤ m) (hm : m ≤ 1048576) (ha : Rd w a m X) :
    Calls Tryd.prog 153 #[.slice a m c] w (RetList 3 m X w) := by
  obtain ⟨ba, oa, rfl, hlt, hc0⟩ := ha.lt (show 0 < m by omega)
  obtain ⟨i0, hi, hz0, hz1, hz2⟩ := info_parts Tryd.infoInt
  have hnil := fun (w : World) (a : Option Addr) (n c n' c' : Nat) => Lib.run_eql_slice_nil (P := Tryd.prog) w 32 3 a n c n' c' Tryd.underlying32
  have HA := Lib.hid ha
  clear ha hc0
  go_enter Tryd.func153, Tryd.ntmps153
  go_wp2_with (at_builtin; refine wpList_append_grows _ (by rfl) (.tmp 5) (.tmp 6) 32 (by rfl) 3 i0 (.int .i64 0) 1 8 Tryd.underlying32 hi hz0 hz1 hz2 (by rfl) (by decide) _ 0 0 [] (by rfl) (fun h => by cases h) (by rfl) (fun _ _ j u h => absurd h (by simp)) ⟨ba, oa, none⟩ m c (cellsL m X) (by rfl) ((cellsL_length m X).trans (Nat.mul_one m).symm) (HA.out.news (by repeat (first | exact Below.refl _ _ | refine Below.drew ?_ | refine below_alloc ?_ _))) (cellsL_one m X) (by omega) (by unfold maxLen; omega) (by omega) ?_; intro v1 w1 hown0 hgrow1; simp only [Nat.zero_add, List.nil_append] at hown0)
  obtain ⟨h1, (⟨he, h0⟩ | ⟨g, cap, cur, rfl, hg, hr⟩)⟩ := hown0
  · omega
  · have hB : Below w.heap.size w w1 := (below_alloc (Below.refl w.heap.size w) _).grown hgrow1 (by simp) (fun k h => by cases h)
    go_ret
    exact ⟨g, cap, rfl, ⟨h1, .inr ⟨g, cap, cur, rfl, by simp at hg; omega, hr⟩⟩, hB⟩
end Go.Proofs.YtabdbgnkiebcdaaDoor

namespace Go.Proofs.YtabdbgnkiebcdaaDoor
set_option linter.unusedVariables false

section
open Go.RowKit
attribute [local go_sem] Oper.semAt_some wide_fn wide_round_fn

theorem hasI_mem {B : List Int} {x : Int} : HasI B.length (nth B) x ↔ x ∈ B := mem_nth.symm
theorem cellsD_snoc (B : List Int) (x : Int) : cellsD B ++ [.int .i64 x] = cellsD (B ++ [x]) := by
  unfold cellsD
  rw [cellsL_snoc, List.length_append]
  exact cellsL_congr fun k hk => by
    have hk' : k < B.length + 1 := hk
    by_cases e : k < B.length
    · rw [if_pos e, nth_snoc_lt e]
    · have : k = B.length := by omega
      rw [if_neg e, this, nth_snoc]
theorem yieldAt_mono {m : Nat} {P : Program} {l : Nat} {args : Array Value} {W : World} {R R' : Ending → World → Prop} (h : YieldAt Fence.wide 9 P l args W R) (hr : ∀ e w, R e w → R' e w) : YieldAt Fence.wide m P l args W R' := by
  obtain ⟨fn, tmps, assign, body, hy, hR⟩ := h
  exact ⟨fn, tmps, assign, body, hy, roundIn_wide (hR.mono hr)⟩

/-- What longer hands back. -/
def RetLater (tI s g cap : Nat) (B : List Int) (V : Nat → Prop) (J Jx : (Nat → Prop) → List (List Int) → World → Prop) (pre LB : List (List Int)) (W : World) (e : Ending) (W' : World) : Prop :=
  Outside (fun k => V k ∨ k = g) W W' ∧ W'.ownsRow s tI 1 (.slice (some ⟨g, 0, none⟩) B.length cap) B.length (cellsD B) ∧ ∃ V', (∀ k, V' k → V k ∨ W.heap.size ≤ k) ∧
    (e = .returned (.bool true) ∧ J V' (pre ++ LB) W' ∨ e = .returned (.bool false) ∧ ∃ q, q <+: LB ∧ Jx V' (pre ++ q) W')

set_option maxRecDepth 100000 in
set_option maxHeartbeats 4000000 in
theorem longer_in6 (n least s l : Nat) (J Jx : (Nat → Prop) → List (List Int) → World → Prop) (LL : List (List Int)) (hn2 : 2 ≤ n) (hn : n ≤ 6) (hle : least ≤ n) (hJ : Caller J) (hJx : Caller Jx) (hY : Yields Tryd.prog 3 s l J Jx LL) (f : Nat) :
    ∀ (B : List Int) (g cap : Nat) (V : Nat → Prop) (pre : List (List Int)) (W : World), Diff n B → 1 ≤ B.length → B.length + f = n → J V pre W → ¬ V g → s ≤ W.heap.size →
      W.ownsRow s 3 1 (.slice (some ⟨g, 0, none⟩) B.length cap) B.length (cellsD B) → (pre ++ later n least f B) <+: LL →
      CallsIn Fence.wide 9 Tryd.prog 131 #[.int .i64 n, .int .i64 least, .slice (some ⟨g, 0, none⟩) B.length cap, .func (.yield l) #[] #[]] W (RetLater 3 s g cap B V J Jx pre (later n least f B) W) := by
  induction f using Nat.strongRecOn with
  | ind f ih =>
    intro B g cap V pre W hd hm1 hf hj hg hs hown hpre
    obtain ⟨i0, hi, hz0, hz1, hz2⟩ := info_parts Tryd.infoInt
    have hle5 := diff_le hd
    have IH := Lib.hid ih
    have HD := Lib.hid hd
    have HG := Lib.hid hg
    have HJ := Lib.hid hj
    have HO := Lib.hid hown
    have hgl := (owns_cap hown).2.2
    have hcap := (owns_cap hown).1
    have EQ := Lib.hid (later_eq (least := least) hd hf)
    rw [later_eq (least := least) hd hf] at hpre ⊢
    have HP := Lib.hid hpre
    have HY := Lib.hid hY
    clear ih hd hg hj hown hpre hY
    by_cases h2 : 2 ≤ B.length
    · have hq : decide (2 ≤ (B.length : Int)) = true := by simp; omega
      have H0 := Lib.hid (show laterTo n least (f - 1) B least = [B] by rw [laterTo_least, if_pos h2])
      refine callsIn_of_wp Tryd.func131 rfl trivial ?_ rfl
      simp only [Tryd.ntmps131, List.size_toArray, List.length_cons, List.length_nil, Nat.reduceAdd, Nat.reduceSub, Array.replicate_succ, Array.replicate_zero, List.push_toArray, List.append_toArray, List.nil_append, List.cons_append]
      gi_wp2_with (gi_at_call 153; refine (callsIn_wide.2 (clone_any B.length cap (some ⟨g, 0, none⟩) (nth B) _ (by omega) (by omega) (owns_rd HO.out))).mono ?_; rintro e W1 ⟨g3, cap3, rfl, hown3, hb3⟩; have B3 := Lib.hid hb3; have J3 := Lib.hid (hJ.steady _ _ _ _ HJ.out (Inside.of_below hb3 (hJ.lies _ _ _ HJ.out))); have O3 := Lib.hid (owns_base hown3 hs); have hg3 := (owns_cap hown3).2.1; have F3 := Lib.hid (show ¬ V g3 from fun h => by have h2 := hJ.lies _ _ _ HJ.out _ h; omega); clear hown3 hb3; obtain ⟨fn, tmps, assign, body, hy, hR⟩ := HY.out V pre B g3 cap3 W1 J3.out (by have h1 := HP.out; have h2 := laterTo_front (n := n) (least := least) (f := f - 1) (B := B) hle; rw [H0.out] at h2; exact ((List.prefix_append_right_inj _).2 h2).trans h1) O3.out F3.out; have HR := Lib.hid hR; clear hR)
      refine (roundIn_wide HR.out).mono ?_
      rintro e W2 ⟨ho2, V2, hV2, (⟨rfl, hj2⟩ | ⟨rfl, hj2⟩)⟩
      · have O2 := Lib.hid (show Outside (fun j => V j ∨ j = g) W W2 from ((Outside.of_below (V := fun j => V j ∨ j = g) B3.out).trans' ho2 (fun _ _ h => .inl h)))
        have W2o := Lib.hid (owns_at HO.out ((ho2.block g (by have := B3.out.size; omega) HG.out).trans (B3.out.block g hgl)))
        have J2 := Lib.hid hj2
        have V2' := Lib.hid (show ∀ j, V2 j → V j ∨ W.heap.size ≤ j from fun j h => by rcases hV2 j h with h | h | h; exact .inl h; exact .inr (by omega); exact .inr (by have := B3.out.size; omega))
        clear ho2 hV2 hj2 hy HR
        gi_wp2
        gi_loopw [8, 9] (fun _ i wr => ∃ k : Nat, least ≤ k ∧ k ≤ n ∧ i = .int .i64 k ∧ Outside (fun j => V j ∨ j = g) W wr ∧ wr.ownsRow s 3 1 (.slice (some ⟨g, 0, none⟩) B.length cap) B.length (cellsD B) ∧
            ∃ V1, (∀ j, V1 j → V j ∨ W.heap.size ≤ j) ∧ J V1 (pre ++ laterTo n least (f - 1) B k) wr) (fun _ i _ => n - (intOf i).toNat)
        case atStart => exact ⟨least, Nat.le_refl _, hle, rfl, O2.out, W2o.out, V2, V2'.out, by rw [H0.out]; exact J2.out⟩
        case round =>
          obtain ⟨k, hk0, hk, rfl, hout, hown, V1, hV1, hj⟩ := hrel
          have OUT := Lib.hid hout
          have OWN := Lib.hid hown
          have HV1 := Lib.hid hV1
          have J1 := Lib.hid hj
          have G1 := Lib.hid (show ¬ V1 g from fun h => by rcases hV1 g h with h | h; exact HG.out h; omega)
          have hsz := hout.size
          have L1 := Lib.hid (hJ.lies _ _ _ hj)
          clear hout hown hV1 hj
          by_cases hlt : k < n
          · by_cases hin : (k : Int) ∈ B
            · have T1 := Lib.hid (tt_of (hasI_mem.2 hin))
              have N1 := Lib.hid (laterTo_no (n := n) (least := least) (f := f - 1) (k := k) (B := B) (fun h => h.2 hin))
              clear hin
              gi_wp2_with (gi_at_call 154; refine (callsIn_wide.2 (contains_any B.length cap (some ⟨g, 0, none⟩) (nth B) _ _ (by omega) (owns_rd OWN.out))).mono ?_; rintro e w1 ⟨rfl, rfl⟩; rw [T1.out])
              go_roundw
              case rel => exact ⟨k + 1, by omega, by omega, by go_num, OUT.out, OWN.out, V1, HV1.out, by rw [N1.out]; exact J1.out⟩
              case measure => simp [intOf]; omega
            · have T1 := Lib.hid (tt_no (fun h => hin (hasI_mem.1 h)))
              have N1 := Lib.hid (laterTo_yes (n := n) (least := least) (f := f - 1) (k := k) (B := B) ⟨hk0, hin⟩)
              have hnd := (HD.out.snoc_iff hlt).2 hin
              have hle2 := diff_le hnd
              rw [List.length_append] at hle2
              simp only [List.length_cons, List.length_nil] at hle2
              have ND := Lib.hid hnd
              have PF := Lib.hid (show (pre ++ laterTo n least (f - 1) B k) ++ later n least (f - 1) (B ++ [(k : Int)]) <+: LL by
                have h1 := laterTo_front (n := n) (least := least) (f := f - 1) (B := B) (show k + 1 ≤ n by omega)
                rw [N1.out] at h1
                rw [List.append_assoc]
                exact ((List.prefix_append_right_inj _).2 h1).trans HP.out)
              clear hin hnd
              gi_wp2_with (first
                | (gi_at_call 154; refine (callsIn_wide.2 (contains_any B.length cap (some ⟨g, 0, none⟩) (nth B) _ _ (by omega) (owns_rd OWN.out))).mono ?_; rintro e w1 ⟨rfl, rfl⟩; rw [T1.out])
                | (gi_at_builtin; refine wpListIn_append1_g _ (4, true) (.tmp 33) (.tmp 35) (by rfl) 3 i0 Tryd.underlying32 hi hz0 hz1 hz2 s g B.length cap (cellsD B) (by rfl) (OWN.out.alloc _) ⟨wr.heap.size, 0, none⟩ 1 (.int .i64 k) (by rfl) (by simp) (by rfl) (by omega) ?_; intro g4 cap4 w4 hown4 hown5 hgr4 hat4; rw [cellsD_snoc] at hown4; have O4 := Lib.hid hown4; have O5 := Lib.hid hown5; have G4 := Lib.hid hgr4; have A4 := Lib.hid hat4; clear hown4 hown5 hgr4 hat4))
              have e1 : (B ++ [(k : Int)]).length = B.length + 1 := by simp
              have hs4 := G4.out.size
              simp only [World.size_alloc] at hs4
              have HIN := Lib.hid (show Inside V1 wr w4 from ((Outside.of_below (below_alloc (Below.refl _ wr) (.cells #[.int .i64 k] 3)) : Outside (fun _ => False) wr _).inside L1.out (fun _ _ h => h)).trans ((Outside.of_grown (V := fun j => j = g) G4.out (fun j h => by cases h; rfl)).inside (fun j h => by have := L1.out j h; simp; omega) (fun j h e => G1.out (by rw [← e]; exact h))))
              have hg4 : ¬ V1 g4 := fun h => by
                rcases A4.out with ⟨rfl, _⟩ | h'
                · exact G1.out h
                · have := L1.out _ h; (try simp only [World.size_alloc] at h'); omega
              have hc : CallsIn Fence.wide 9 Tryd.prog 131 #[.int .i64 n, .int .i64 least, .slice (some ⟨g4, 0, none⟩) (B.length + 1) cap4, .func (.yield l) #[] #[]] w4 (RetLater 3 s g4 cap4 (B ++ [(k : Int)]) V1 J Jx (pre ++ laterTo n least (f - 1) B k) (later n least (f - 1) (B ++ [(k : Int)])) w4) := by
                have h := IH.out (f - 1) (by omega) (B ++ [(k : Int)]) g4 cap4 V1 (pre ++ laterTo n least (f - 1) B k) w4 ND.out (by rw [e1]; omega) (by rw [e1]; omega) (hJ.steady _ _ _ _ J1.out HIN.out) hg4 (by omega) (by rw [e1]; exact O4.out) PF.out
                rw [e1] at h
                exact h
              refine (callsIn_wide.2 (callsIn_wide.1 hc)).mono ?_
              have HOUT := Lib.hid (show ∀ W5, Outside (fun j => V1 j ∨ j = g4) w4 W5 → Outside (fun j => V j ∨ j = g) W W5 from fun W5 h => by
                have o1 : Outside (fun j => V j ∨ j = g) wr w4 := (Outside.of_below (V := fun j => V j ∨ j = g) (below_alloc (Below.refl _ wr) (.cells #[.int .i64 k] 3))).trans' (Outside.of_grown (V := fun j => V j ∨ j = g) G4.out (fun j h => by cases h; exact .inr rfl)) (fun _ _ h => h)
                refine (OUT.out.trans' o1 (fun _ _ h => h)).trans' h (fun j hj hv => ?_)
                rcases hv with hv | rfl
                · rcases HV1.out j hv with h' | h'
                  · exact .inl h'
                  · omega
                · rcases A4.out with ⟨h', _⟩ | h'
                  · exact .inr h'
                  · (try simp only [World.size_alloc] at h'); omega)
              have HOWN := Lib.hid (show ∀ W5, Outside (fun j => V1 j ∨ j = g4) w4 W5 → W5.ownsRow s 3 1 (.slice (some ⟨g4, 0, none⟩) (B.length + 1) cap4) (B.length + 1) (cellsD (B ++ [(k : Int)])) → W5.ownsRow s 3 1 (.slice (some ⟨g, 0, none⟩) B.length cap) B.length (cellsD B) from fun W5 h hw => by
                rcases A4.out with ⟨h1, h2⟩ | h'
                · rw [h1, h2, ← cellsD_snoc] at hw
                  exact owns_front hw (cellsL_length _ _)
                · (try simp only [World.size_alloc] at h')
                  exact owns_at O5.out (h.block g (by omega) (fun hv => by rcases hv with hv | hv; exact G1.out hv; omega)))
              have HV2 := Lib.hid (show ∀ V2 : Nat → Prop, (∀ j, V2 j → V1 j ∨ w4.heap.size ≤ j) → ∀ j, V2 j → V j ∨ W.heap.size ≤ j from fun V2 h j hj => by
                rcases h j hj with h' | h'
                · exact HV1.out j h'
                · exact .inr (by omega))
              have FR := Lib.hid (show laterTo n least (f - 1) B k ++ later n least (f - 1) (B ++ [(k : Int)]) <+: laterTo n least (f - 1) B n by rw [← N1.out]; exact laterTo_front (by omega))
              clear hc hg4 hs4
              rintro e W5 ⟨hout5, hown5, V2, hV2, (⟨rfl, hj5⟩ | ⟨rfl, q, hq, hj5⟩)⟩
              · have OUT5 := Lib.hid (HOUT.out W5 hout5)
                have OWN5 := Lib.hid (HOWN.out W5 hout5 (by rw [e1] at hown5; exact hown5))
                have V5 := Lib.hid (HV2.out V2 hV2)
                have J5 := Lib.hid hj5
                clear hout5 hown5 hV2 hj5 e1
                gi_wp2
                go_roundw
                case rel => exact ⟨k + 1, by omega, by omega, by go_num, OUT5.out, OWN5.out, V2, V5.out, by rw [N1.out, ← List.append_assoc]; exact J5.out⟩
                case measure => simp [intOf]; omega
              · have OUT5 := Lib.hid (HOUT.out W5 hout5)
                have OWN5 := Lib.hid (HOWN.out W5 hout5 (by rw [e1] at hown5; exact hown5))
                have V5 := Lib.hid (HV2.out V2 hV2)
                have J5 := Lib.hid hj5
                have Q5 := Lib.hid hq
                clear hout5 hown5 hV2 hj5 e1 hq
                gi_wp2
                go_ret
                exact ⟨OUT5.out, OWN5.out, V2, V5.out, .inr ⟨rfl, laterTo n least (f - 1) B k ++ q, ((List.prefix_append_right_inj _).2 Q5.out).trans FR.out, by rw [← List.append_assoc]; exact J5.out⟩⟩
          · obtain rfl : k = n := by omega
            gi_wp2
            go_ret
            exact ⟨OUT.out, OWN.out, V1, HV1.out, .inl ⟨rfl, J1.out⟩⟩
      · have O2 := Lib.hid (show Outside (fun j => V j ∨ j = g) W W2 from ((Outside.of_below (V := fun j => V j ∨ j = g) B3.out).trans' ho2 (fun _ _ h => .inl h)))
        have W2o := Lib.hid (owns_at HO.out ((ho2.block g (by have := B3.out.size; omega) HG.out).trans (B3.out.block g hgl)))
        have J2 := Lib.hid hj2
        have V2' := Lib.hid (show ∀ j, V2 j → V j ∨ W.heap.size ≤ j from fun j h => by rcases hV2 j h with h | h | h; exact .inl h; exact .inr (by omega); exact .inr (by have := B3.out.size; omega))
        have PQ := Lib.hid (laterTo_front (n := n) (least := least) (f := f - 1) (B := B) hle)
        clear ho2 hV2 hj2 hy HR
        gi_wp2
        go_ret
        exact ⟨O2.out, W2o.out, V2, V2'.out, .inr ⟨rfl, [B], by rw [← H0.out]; exact PQ.out, J2.out⟩⟩
    · have hq : decide (2 ≤ (B.length : Int)) = false := by simp; omega
      have H0 := Lib.hid (show laterTo n least (f - 1) B least = [] by rw [laterTo_least, if_neg h2])
      refine callsIn_of_wp Tryd.func131 rfl trivial ?_ rfl
      simp only [Tryd.ntmps131, List.size_toArray, List.length_cons, List.length_nil, Nat.reduceAdd, Nat.reduceSub, Array.replicate_succ, Array.replicate_zero, List.push_toArray, List.append_toArray, List.nil_append, List.cons_append]
      gi_wp2
      gi_loopw [8, 9] (fun _ i wr => ∃ k : Nat, least ≤ k ∧ k ≤ n ∧ i = .int .i64 k ∧ Outside (fun j => V j ∨ j = g) W wr ∧ wr.ownsRow s 3 1 (.slice (some ⟨g, 0, none⟩) B.length cap) B.length (cellsD B) ∧
          ∃ V1, (∀ j, V1 j → V j ∨ W.heap.size ≤ j) ∧ J V1 (pre ++ laterTo n least (f - 1) B k) wr) (fun _ i _ => n - (intOf i).toNat)
      case atStart => exact ⟨least, Nat.le_refl _, hle, rfl, Outside.refl _ _, HO.out, V, (fun j h => .inl h), by rw [H0.out, List.append_nil]; exact HJ.out⟩
      case round =>
        obtain ⟨k, hk0, hk, rfl, hout, hown, V1, hV1, hj⟩ := hrel
        have OUT := Lib.hid hout
        have OWN := Lib.hid hown
        have HV1 := Lib.hid hV1
        have J1 := Lib.hid hj
        have G1 := Lib.hid (show ¬ V1 g from fun h => by rcases hV1 g h with h | h; exact HG.out h; omega)
        have hsz := hout.size
        have L1 := Lib.hid (hJ.lies _ _ _ hj)
        clear hout hown hV1 hj
        by_cases hlt : k < n
        · by_cases hin : (k : Int) ∈ B
          · have T1 := Lib.hid (tt_of (hasI_mem.2 hin))
            have N1 := Lib.hid (laterTo_no (n := n) (least := least) (f := f - 1) (k := k) (B := B) (fun h => h.2 hin))
            clear hin
            gi_wp2_with (gi_at_call 154; refine (callsIn_wide.2 (contains_any B.length cap (some ⟨g, 0, none⟩) (nth B) _ _ (by omega) (owns_rd OWN.out))).mono ?_; rintro e w1 ⟨rfl, rfl⟩; rw [T1.out])
            go_roundw
            case rel => exact ⟨k + 1, by omega, by omega, by go_num, OUT.out, OWN.out, V1, HV1.out, by rw [N1.out]; exact J1.out⟩
            case measure => simp [intOf]; omega
          · have T1 := Lib.hid (tt_no (fun h => hin (hasI_mem.1 h)))
            have N1 := Lib.hid (laterTo_yes (n := n) (least := least) (f := f - 1) (k := k) (B := B) ⟨hk0, hin⟩)
            have hnd := (HD.out.snoc_iff hlt).2 hin
            have hle2 := diff_le hnd
            rw [List.length_append] at hle2
            simp only [List.length_cons, List.length_nil] at hle2
            have ND := Lib.hid hnd
            have PF := Lib.hid (show (pre ++ laterTo n least (f - 1) B k) ++ later n least (f - 1) (B ++ [(k : Int)]) <+: LL by
              have h1 := laterTo_front (n := n) (least := least) (f := f - 1) (B := B) (show k + 1 ≤ n by omega)
              rw [N1.out] at h1
              rw [List.append_assoc]
              exact ((List.prefix_append_right_inj _).2 h1).trans HP.out)
            clear hin hnd
            gi_wp2_with (first
              | (gi_at_call 154; refine (callsIn_wide.2 (contains_any B.length cap (some ⟨g, 0, none⟩) (nth B) _ _ (by omega) (owns_rd OWN.out))).mono ?_; rintro e w1 ⟨rfl, rfl⟩; rw [T1.out])
              | (gi_at_builtin; refine wpListIn_append1_g _ (4, true) (.tmp 33) (.tmp 35) (by rfl) 3 i0 Tryd.underlying32 hi hz0 hz1 hz2 s g B.length cap (cellsD B) (by rfl) (OWN.out.alloc _) ⟨wr.heap.size, 0, none⟩ 1 (.int .i64 k) (by rfl) (by simp) (by rfl) (by omega) ?_; intro g4 cap4 w4 hown4 hown5 hgr4 hat4; rw [cellsD_snoc] at hown4; have O4 := Lib.hid hown4; have O5 := Lib.hid hown5; have G4 := Lib.hid hgr4; have A4 := Lib.hid hat4; clear hown4 hown5 hgr4 hat4))
            have e1 : (B ++ [(k : Int)]).length = B.length + 1 := by simp
            have hs4 := G4.out.size
            simp only [World.size_alloc] at hs4
            have HIN := Lib.hid (show Inside V1 wr w4 from ((Outside.of_below (below_alloc (Below.refl _ wr) (.cells #[.int .i64 k] 3)) : Outside (fun _ => False) wr _).inside L1.out (fun _ _ h => h)).trans ((Outside.of_grown (V := fun j => j = g) G4.out (fun j h => by cases h; rfl)).inside (fun j h => by have := L1.out j h; simp; omega) (fun j h e => G1.out (by rw [← e]; exact h))))
            have hg4 : ¬ V1 g4 := fun h => by
              rcases A4.out with ⟨rfl, _⟩ | h'
              · exact G1.out h
              · have := L1.out _ h; (try simp only [World.size_alloc] at h'); omega
            have hc : CallsIn Fence.wide 9 Tryd.prog 131 #[.int .i64 n, .int .i64 least, .slice (some ⟨g4, 0, none⟩) (B.length + 1) cap4, .func (.yield l) #[] #[]] w4 (RetLater 3 s g4 cap4 (B ++ [(k : Int)]) V1 J Jx (pre ++ laterTo n least (f - 1) B k) (later n least (f - 1) (B ++ [(k : Int)])) w4) := by
              have h := IH.out (f - 1) (by omega) (B ++ [(k : Int)]) g4 cap4 V1 (pre ++ laterTo n least (f - 1) B k) w4 ND.out (by rw [e1]; omega) (by rw [e1]; omega) (hJ.steady _ _ _ _ J1.out HIN.out) hg4 (by omega) (by rw [e1]; exact O4.out) PF.out
              rw [e1] at h
              exact h
            refine (callsIn_wide.2 (callsIn_wide.1 hc)).mono ?_
            have HOUT := Lib.hid (show ∀ W5, Outside (fun j => V1 j ∨ j = g4) w4 W5 → Outside (fun j => V j ∨ j = g) W W5 from fun W5 h => by
              have o1 : Outside (fun j => V j ∨ j = g) wr w4 := (Outside.of_below (V := fun j => V j ∨ j = g) (below_alloc (Below.refl _ wr) (.cells #[.int .i64 k] 3))).trans' (Outside.of_grown (V := fun j => V j ∨ j = g) G4.out (fun j h => by cases h; exact .inr rfl)) (fun _ _ h => h)
              refine (OUT.out.trans' o1 (fun _ _ h => h)).trans' h (fun j hj hv => ?_)
              rcases hv with hv | rfl
              · rcases HV1.out j hv with h' | h'
                · exact .inl h'
                · omega
              · rcases A4.out with ⟨h', _⟩ | h'
                · exact .inr h'
                · (try simp only [World.size_alloc] at h'); omega)
            have HOWN := Lib.hid (show ∀ W5, Outside (fun j => V1 j ∨ j = g4) w4 W5 → W5.ownsRow s 3 1 (.slice (some ⟨g4, 0, none⟩) (B.length + 1) cap4) (B.length + 1) (cellsD (B ++ [(k : Int)])) → W5.ownsRow s 3 1 (.slice (some ⟨g, 0, none⟩) B.length cap) B.length (cellsD B) from fun W5 h hw => by
              rcases A4.out with ⟨h1, h2⟩ | h'
              · rw [h1, h2, ← cellsD_snoc] at hw
                exact owns_front hw (cellsL_length _ _)
              · (try simp only [World.size_alloc] at h')
                exact owns_at O5.out (h.block g (by omega) (fun hv => by rcases hv with hv | hv; exact G1.out hv; omega)))
            have HV2 := Lib.hid (show ∀ V2 : Nat → Prop, (∀ j, V2 j → V1 j ∨ w4.heap.size ≤ j) → ∀ j, V2 j → V j ∨ W.heap.size ≤ j from fun V2 h j hj => by
              rcases h j hj with h' | h'
              · exact HV1.out j h'
              · exact .inr (by omega))
            have FR := Lib.hid (show laterTo n least (f - 1) B k ++ later n least (f - 1) (B ++ [(k : Int)]) <+: laterTo n least (f - 1) B n by rw [← N1.out]; exact laterTo_front (by omega))
            clear hc hg4 hs4
            rintro e W5 ⟨hout5, hown5, V2, hV2, (⟨rfl, hj5⟩ | ⟨rfl, q, hq, hj5⟩)⟩
            · have OUT5 := Lib.hid (HOUT.out W5 hout5)
              have OWN5 := Lib.hid (HOWN.out W5 hout5 (by rw [e1] at hown5; exact hown5))
              have V5 := Lib.hid (HV2.out V2 hV2)
              have J5 := Lib.hid hj5
              clear hout5 hown5 hV2 hj5 e1
              gi_wp2
              go_roundw
              case rel => exact ⟨k + 1, by omega, by omega, by go_num, OUT5.out, OWN5.out, V2, V5.out, by rw [N1.out, ← List.append_assoc]; exact J5.out⟩
              case measure => simp [intOf]; omega
            · have OUT5 := Lib.hid (HOUT.out W5 hout5)
              have OWN5 := Lib.hid (HOWN.out W5 hout5 (by rw [e1] at hown5; exact hown5))
              have V5 := Lib.hid (HV2.out V2 hV2)
              have J5 := Lib.hid hj5
              have Q5 := Lib.hid hq
              clear hout5 hown5 hV2 hj5 e1 hq
              gi_wp2
              go_ret
              exact ⟨OUT5.out, OWN5.out, V2, V5.out, .inr ⟨rfl, laterTo n least (f - 1) B k ++ q, ((List.prefix_append_right_inj _).2 Q5.out).trans FR.out, by rw [← List.append_assoc]; exact J5.out⟩⟩
        · obtain rfl : k = n := by omega
          gi_wp2
          go_ret
          exact ⟨OUT.out, OWN.out, V1, HV1.out, .inl ⟨rfl, J1.out⟩⟩
end

section
open Go.RowKit
attribute [local go_sem] Oper.semAt_some wide_fn wide_round_fn

theorem waysFrom_any (n i : Int) (w : World) :
    Calls Tryd.prog 99 #[.int .i64 n, .int .i64 i] w fun e w' => e = .returned (.func (.func 130) #[] #[.pointer (some ⟨w.heap.size, 0, none⟩), .pointer (some ⟨w.heap.size + 1, 0, none⟩)]) ∧ w' = (w.alloc (.cells #[.int .i64 n] 3)).alloc (.cells #[.int .i64 i] 3) := by
  go_enter Tryd.func99, Tryd.ntmps99
  go_wp2
  go_ret
  exact ⟨rfl, rfl⟩

theorem owns_new (w : World) (s tI : Nat) (x : Int) (hs : s ≤ w.heap.size) : (w.alloc (.cells #[.int .i64 x] tI)).ownsRow s tI 1 (.slice (some ⟨w.heap.size, 0, none⟩) 1 1) 1 (cellsD [x]) :=
  ⟨rfl, .inr ⟨w.heap.size, 1, #[.int .i64 x], rfl, hs, World.alloc_heap_new w _, Nat.le_refl _, by unfold maxLen; omega, rfl, rfl⟩⟩
theorem diff_one {n k : Nat} (h : k < n) : Diff n [(k : Int)] := by
  have := (Diff.nil n).snoc_iff (x := k) h
  simp at this
  exact this

set_option maxRecDepth 100000 in
set_option maxHeartbeats 2000000 in
theorem seq_ways6 (n i Bn Bi : Nat) (w : World) (hn2 : 2 ≤ n) (hn : n ≤ 6) (hi : i < n) (hc : w.cell? ⟨Bn, 0, none⟩ = some (.int .i64 n)) (hci : w.cell? ⟨Bi, 0, none⟩ = some (.int .i64 i)) :
    SeqL Tryd.prog 3 130 #[.pointer (some ⟨Bn, 0, none⟩), .pointer (some ⟨Bi, 0, none⟩)] (fun k => k = Bn ∨ k = Bi) (longer n (n - 1) [(i : Int)]) w := by
  intro l V J Jx W hin hR hJ hJx hY h0
  have hcW : W.cell? ⟨Bn, 0, none⟩ = some (.int .i64 n) := hin.cell (p := ⟨Bn, 0, none⟩) (.inl rfl) hc
  have hciW : W.cell? ⟨Bi, 0, none⟩ = some (.int .i64 i) := hin.cell (p := ⟨Bi, 0, none⟩) (.inr rfl) hci
  have J2 := hJ.steady _ _ _ _ h0 (Inside.of_below (below_alloc (Below.refl _ W) (.cells #[.int .i64 i] 3)) (hJ.lies _ _ _ h0))
  have hcl := longer_in6 n 0 W.heap.size l J Jx (longer n (n - 1) [(i : Int)]) hn2 hn (by omega) hJ hJx hY (n - 1) [(i : Int)] W.heap.size 1 V [] (W.alloc (.cells #[.int .i64 i] 3)) (diff_one hi) (by simp) (by simp; omega) J2
    (fun h => by have := hJ.lies _ _ _ h0 _ h; omega) (by simp) (owns_new W _ _ _ (Nat.le_refl _)) (by rw [later_zero, List.nil_append]; exact List.prefix_refl _)
  rw [later_zero, show ((0 : Nat) : Int) = 0 by rfl] at hcl
  simp only [List.length_cons, List.length_nil, Nat.zero_add] at hcl
  have HC := Lib.hid hcl
  clear hin hR hY h0 J2 hcl hc hci
  refine callsIn_of_wp Tryd.func130 rfl trivial ?_ rfl
  simp only [Tryd.ntmps130, List.size_toArray, List.length_cons, List.length_nil, Nat.reduceAdd, Nat.reduceSub, Array.replicate_succ, Array.replicate_zero, List.push_toArray, List.append_toArray, List.nil_append, List.cons_append]
  gi_wp2
  refine (callsIn_wide.2 (callsIn_wide.1 HC.out)).mono ?_
  rintro e W5 ⟨hout5, hown5, V2, hV2, (⟨rfl, hj5⟩ | ⟨rfl, q, hq, hj5⟩)⟩
  · have J5 := Lib.hid hj5
    clear hout5 hown5 hV2 hj5
    gi_wp2
    go_end0
    exact ⟨⟨_, rfl⟩, .inl ⟨V2, by have := J5.out; rwa [List.nil_append] at this⟩⟩
  · have J5 := Lib.hid hj5
    have Q5 := Lib.hid hq
    clear hout5 hown5 hV2 hj5 hq
    gi_wp2
    go_end0
    exact ⟨⟨_, rfl⟩, .inr ⟨V2, q, Q5.out, by have := J5.out; rwa [List.nil_append] at this⟩⟩
theorem seq_ways (n i Bn Bi : Nat) (w : World) (hn2 : 2 ≤ n) (hn : n ≤ 5) (hi : i < n) (hc : w.cell? ⟨Bn, 0, none⟩ = some (.int .i64 n)) (hci : w.cell? ⟨Bi, 0, none⟩ = some (.int .i64 i)) :
    SeqL Tryd.prog 3 130 #[.pointer (some ⟨Bn, 0, none⟩), .pointer (some ⟨Bi, 0, none⟩)] (fun k => k = Bn ∨ k = Bi) (longer n (n - 1) [(i : Int)]) w :=
  seq_ways6 n i Bn Bi w hn2 (by omega) hi hc hci
end

end Go.Proofs.YtabdbgnkiebcdaaDoor

namespace Go.Proofs.YtabdbgnkiebcdaaDoor
set_option linter.unusedVariables false

section
open Go.RowKit
attribute [local go_sem] Oper.semAt_some wide_fn wide_round_fn

theorem rounds_any (n : Int) (w : World) :
    Calls Tryd.prog 106 #[.int .i64 n] w fun e w' => e = .returned (.func (.func 136) #[] #[.pointer (some ⟨w.heap.size, 0, none⟩)]) ∧ w' = w.alloc (.cells #[.int .i64 n] 3) := by
  go_enter Tryd.func106, Tryd.ntmps106
  go_wp2
  go_ret
  exact ⟨rfl, rfl⟩
set_option maxRecDepth 100000 in
set_option maxHeartbeats 2000000 in
theorem seq_rounds (n Bn : Nat) (w : World) (hn2 : 2 ≤ n) (hn : n ≤ 5) (hc : w.cell? ⟨Bn, 0, none⟩ = some (.int .i64 n)) :
    SeqL Tryd.prog 3 136 #[.pointer (some ⟨Bn, 0, none⟩)] (fun k => k = Bn) (roundsTo n n) w := by
  intro l V J Jx W hin hR hJ hJx hY h0
  have hcW : W.cell? ⟨Bn, 0, none⟩ = some (.int .i64 n) := hin.cell (p := ⟨Bn, 0, none⟩) rfl hc
  have HB := Lib.hid (hR Bn rfl)
  have HY := Lib.hid hY
  have H0 := Lib.hid h0
  clear hin hR hY h0
  refine callsIn_of_wp Tryd.func136 rfl trivial ?_ rfl
  simp only [Tryd.ntmps136, List.size_toArray, List.length_cons, List.length_nil, Nat.reduceAdd, Nat.reduceSub, Array.replicate_succ, Array.replicate_zero, List.push_toArray, List.append_toArray, List.nil_append, List.cons_append]
  gi_wp2
  gi_loopw [3, 5] (fun _ i wr => ∃ k : Nat, k ≤ n ∧ i = .int .i64 k ∧ W.heap.size ≤ wr.heap.size ∧ wr.cell? ⟨Bn, 0, none⟩ = some (.int .i64 n) ∧ ∃ V1, (∀ j, V1 j → V j ∨ W.heap.size ≤ j) ∧ J V1 (roundsTo n k) wr) (fun _ i _ => n - (intOf i).toNat)
  case atStart => exact ⟨0, Nat.zero_le _, rfl, Nat.le_refl _, hcW, V, fun j h => .inl h, H0.out⟩
  case round =>
    obtain ⟨k, hk, rfl, hsz, hcr, V1, hV1, hj⟩ := hrel
    have hBlt := World.block_lt_of_cell? _ _ hcW
    have NB : Hid (¬ V1 Bn) := Lib.hid (fun h => by rcases hV1 Bn h with h | h; exact HB.out h; exact absurd (show Bn < W.heap.size from hBlt) (by omega))
    have HV1 := Lib.hid hV1
    have J1 := Lib.hid hj
    clear hV1 hj
    by_cases hlt : k < n
    · have J2 := Lib.hid (hJ.steady _ _ _ _ J1.out (Inside.of_below (below_alloc (Below.refl _ wr) (.cells #[.int .i64 k] 3)) (hJ.lies _ _ _ J1.out)))
      have hc := longer_in6 n (k + 1) W.heap.size l J Jx (roundsTo n n) hn2 (by omega) (by omega) hJ hJx HY.out (n - 1) [(k : Int)] wr.heap.size 1 V1 (roundsTo n k) (wr.alloc (.cells #[.int .i64 k] 3)) (diff_one hlt) (by simp) (by simp; omega) J2.out
        (fun h => by have := hJ.lies _ _ _ J1.out _ h; omega) (by simp; omega) (owns_new wr _ _ _ hsz) (by rw [← roundsTo_succ]; exact roundsTo_front (by omega))
      rw [show ((k + 1 : Nat) : Int) = (k : Int) + 1 by omega] at hc
      simp only [List.length_cons, List.length_nil, Nat.zero_add] at hc
      have HC := Lib.hid hc
      clear hc
      gi_wp2
      refine (callsIn_wide.2 (callsIn_wide.1 HC.out)).mono ?_
      have hs1 : (wr.alloc (.cells #[.int .i64 k] 3)).heap.size = wr.heap.size + 1 := by simp
      rintro e W5 ⟨hout5, hown5, V2, hV2, (⟨rfl, hj5⟩ | ⟨rfl, q, hq, hj5⟩)⟩
      · have hc5 : W5.cell? ⟨Bn, 0, none⟩ = some (.int .i64 n) := hout5.cell (p := ⟨Bn, 0, none⟩) (fun h => by rcases h with h | h; exact NB.out h; have h' : Bn = wr.heap.size := h; omega) (by rw [World.cell?_of_block (w := wr) (Below.heap_alloc wr _ Bn (by omega))]; exact hcr)
        have S5 := hout5.size
        have J5 := Lib.hid hj5
        have V5 := Lib.hid (show ∀ j, V2 j → V j ∨ W.heap.size ≤ j from fun j h => by rcases hV2 j h with h' | h'; exact HV1.out j h'; exact .inr (by omega))
        clear hout5 hown5 hV2 hj5
        gi_wp2
        go_roundw
        case rel => exact ⟨k + 1, by omega, by go_num, by omega, hc5, V2, V5.out, by rw [roundsTo_succ]; exact J5.out⟩
        case measure => simp [intOf]; omega
      · have J5 := Lib.hid hj5
        have Q5 := Lib.hid hq
        clear hout5 hown5 hV2 hj5 hq
        gi_wp2
        refine bodyPost_ret (results_none rfl _ _ _) rfl ?_
        exact ⟨⟨_, rfl⟩, .inr ⟨V2, _, ((List.prefix_append_right_inj _).2 Q5.out).trans (by rw [← roundsTo_succ]; exact roundsTo_front (by omega)), J5.out⟩⟩
    · obtain rfl : k = n := by omega
      gi_wp2
      go_end0
      exact ⟨⟨_, rfl⟩, .inl ⟨V1, J1.out⟩⟩

end

end Go.Proofs.YtabdbgnkiebcdaaDoor

namespace Go.Proofs.YtabdbgnkiebcdaaDoor
set_option linter.unusedVariables false
open Go.RowKit

theorem Tryd.zeroRates (w : World) : (zeroValue 52).run Tryd.prog w = .ok (.agg (cellsV 25 fun _ => 0)) w := by kernel_rfl
theorem Tryd.builtRates : Tryd.prog.built 52 [] = some (cellsV 25 fun _ => 0) := by kernel_rfl
theorem Tryd.sizeRates : (Tryd.prog.info? 52).map (·.size) = some 25 := by kernel_rfl

/-- What is kept: the table's numbers, 0 behind them; all 0 if it is no table of rates. -/
noncomputable def rateF (n : Nat) (L : Nat → Nat) (Z : Nat → Nat → Int) (j : Nat) : Int := if tt (IsRates n L Z) = true ∧ j / 5 < n ∧ j % 5 < n then Z (j / 5) (j % 5) else 0

theorem rateF_no {n : Nat} {L : Nat → Nat} {Z : Nat → Nat → Int} (h : ¬ IsRates n L Z) (j : Nat) : 0 = rateF n L Z j := by
  unfold rateF; rw [tt_no h]; simp
theorem rateF_yes {n : Nat} {L : Nat → Nat} {Z : Nat → Nat → Int} (h : IsRates n L Z) (j : Nat) : (if j / 5 < n ∧ j % 5 < n then Z (j / 5) (j % 5) else 0) = rateF n L Z j := by
  unfold rateF; rw [tt_of h]; simp


theorem readRates_len (n c : Nat) (a : Option Addr) (L : Nat → Nat) (Z : Nat → Nat → Int) (w : World) (hn : n ≤ 1048576) (h1 : n < 2 ∨ 5 < n) :
    Calls Tryd.prog 39 #[.slice a n c] w fun e w' => e = .returned (.tuple #[.agg (cellsV 25 (rateF n L Z)), .bool (tt (IsRates n L Z))]) ∧ Below w.heap.size w w' := by
  have hno : ¬ IsRates n L Z := fun h => by have := h.1; omega
  have H1 := Lib.hid h1
  have Hno := Lib.hid hno
  clear hno
  by_cases h2 : n < 2
  all_goals
    clear h1
    have h3 := H1.out
    have h4 : ¬ n < 2 → 5 < n := by omega
    clear h3
    try have h5 := h4 h2
    clear h4
    go_enter Tryd.func39, Tryd.ntmps39
    go_wp2_with (first
      | ((with_reducible refine arr_alloc 25 _ (Tryd.zeroRates _) ?_); intro w1 hA1 hs1 hb1; have S1 := Lib.hid hs1; clear hs1)
      | (with_reducible refine arr_build0 25 _ Tryd.builtRates ?_)
      | ((with_reducible refine arr_store 25 _ _ _ _ _ _ (fun _ => 0) ?_ ?_ hA1 Tryd.sizeRates ?_); exact rfl; exact rfl; intro w2 hA2 hs2 ho2 hb2; clear hA1))
    all_goals
      refine bodyPost_ret (v := .tuple #[.agg (cellsV 25 (rateF n L Z)), .bool (tt (IsRates n L Z))]) ?_ rfl ⟨rfl, hb1.trans hb2⟩
      rw [results_arr_tmp (F := rateF n L Z) Tryd.results39 _ _ w.heap.size 52 25 _ _ rfl (hA2.congr fun j _ => rateF_no Hno.out j) Tryd.underlying52 Tryd.sizeRates, tt_no Hno.out]
      rfl

/-- What is written when i rows and k numbers of the next one are read. -/
def partF (n i k : Nat) (Z : Nat → Nat → Int) (j : Nat) : Int := if (j / 5 < i ∨ j / 5 = i ∧ j % 5 < k) ∧ j % 5 < n then Z (j / 5) (j % 5) else 0

theorem partF_step {n i k : Nat} {Z : Nat → Nat → Int} (hk : k < n) (hn : n ≤ 5) (j : Nat) : (if j = i * 5 + k then Z i k else partF n i k Z j) = partF n i (k + 1) Z j := by
  unfold partF
  by_cases e : j = i * 5 + k
  · have e1 : j / 5 = i := by omega
    have e2 : j % 5 = k := by omega
    rw [if_pos e, e1, e2, if_pos (by omega)]
  · rw [if_neg e]
    by_cases h : (j / 5 < i ∨ j / 5 = i ∧ j % 5 < k) ∧ j % 5 < n
    · rw [if_pos h, if_pos (by omega)]
    · rw [if_neg h, if_neg (by omega)]
theorem partF_row {n i : Nat} {Z : Nat → Nat → Int} (j : Nat) : partF n i n Z j = partF n (i + 1) 0 Z j := by
  unfold partF
  by_cases h : (j / 5 < i ∨ j / 5 = i ∧ j % 5 < n) ∧ j % 5 < n
  · rw [if_pos h, if_pos (by omega)]
  · rw [if_neg h, if_neg (by omega)]
theorem partF_zero {n : Nat} {Z : Nat → Nat → Int} (j : Nat) : 0 = partF n 0 0 Z j := by
  unfold partF; rw [if_neg (by omega)]
theorem partF_all {n : Nat} {Z : Nat → Nat → Int} (j : Nat) : partF n n 0 Z j = if j / 5 < n ∧ j % 5 < n then Z (j / 5) (j % 5) else 0 := by
  unfold partF
  by_cases h : j / 5 < n ∧ j % 5 < n
  · rw [if_pos h, if_pos (by omega)]
  · rw [if_neg h, if_neg (by omega)]

set_option maxHeartbeats 1000000 in
theorem readRates_mid (n c : Nat) (a : Option Addr) (A : Nat → Option Addr) (L C : Nat → Nat) (Z : Nat → Nat → Int) (w : World) (hn2 : 2 ≤ n) (hn5 : n ≤ 5) (hL : ∀ r, r < n → L r ≤ 1048576) (ha : Tab w a n A L C Z) :
    Calls Tryd.prog 39 #[.slice a n c] w fun e w' => e = .returned (.tuple #[.agg (cellsV 25 (rateF n L Z)), .bool (tt (IsRates n L Z))]) ∧ Below w.heap.size w w' := by
  go_enter Tryd.func39, Tryd.ntmps39
  have hd : decide (5 < (n : Int)) = false := by simp; omega
  have tk : True := trivial
  go_wp2_with (first
    | (have _t := tk; (with_reducible refine arr_alloc 25 _ (Tryd.zeroRates _) ?_); clear tk; intro w1 hA1 hs1 hb1; have S1 := Lib.hid hs1; clear hs1)
    | ((with_reducible refine arr_alloc 25 _ (Tryd.zeroRates _) ?_); intro w2 hA2 hs2 hb2; have S2 := Lib.hid hs2; clear hs2))
  have e0 : w1.heap.size = w.heap.size + 1 := S1.out
  have e1 : w2.heap.size = w.heap.size + 2 := by rw [S2.out, e0]
  have hR := hA1.below (by rw [e0]; omega) hb2
  have hB := hb1.trans (hb2.mono (by rw [e0]; omega))
  rw [e0] at hA2 ⊢
  have R1 := Lib.hid hR
  have R2 := Lib.hid (hA2.congr fun j _ => partF_zero (n := n) (Z := Z) j)
  have R3 := Lib.hid hB
  have E1 := Lib.hid e1
  clear hA1 hA2 hb1 hb2 hR hB e0 e1 S1 S2
  go_loopw [3, 6, 7, 8, 9, 21] (fun r _ _ _ _ i wr => ∃ k : Nat, k ≤ n ∧ i = .int .i64 k ∧ r = .bool false ∧ (∀ i, i < k → L i = n ∧ ∀ k, k < n → (1 ≤ Z i k ∧ Z i k ≤ 144) ∧ (i = k → Z i k = 12)) ∧
      ArrAt wr w.heap.size 52 25 (fun _ => 0) ∧ ArrAt wr (w.heap.size + 1) 52 25 (partF n k 0 Z) ∧ wr.heap.size = w.heap.size + 2 ∧ Below w.heap.size w wr) (fun _ _ _ _ _ i _ => n - (intOf i).toNat)
  case atStart => exact ⟨0, Nat.zero_le _, rfl, rfl, fun j hj => absurd hj (Nat.not_lt_zero _), R1.out, R2.out, E1.out, R3.out⟩
  case round =>
    obtain ⟨k, hk, rfl, rfl, hs, hZ, hP, hsz, hb⟩ := hrel
    clear R1 R2 R3 E1
    by_cases hlt : k < n
    · obtain ⟨ba, oa, rfl, hca0, hra0⟩ := ha k hlt
      have hra := hra0.below (Nat.le_refl _) hb
      have hca := (hb.cell (p := ⟨ba, oa + k, none⟩) (World.block_lt_of_cell? _ _ hca0)).trans hca0
      have hLk := hL k hlt
      have H1 := Lib.hid hs
      have H2 := Lib.hid hZ
      have H3 := Lib.hid hP
      have H4 := Lib.hid hsz
      have H5 := Lib.hid hb
      have H6 := Lib.hid hra0
      clear hs ha hL hZ hP hsz hb hra hra0 hca0
      by_cases hln : L k = n
      · have hne : ((L k : Int) != (n : Int)) = false := by simp; omega
        have H7 := Lib.hid hln
        clear hln
        go_wp2
        go_loopw [3, 8, 9, 33] (fun r _ _ i wi => ∃ j : Nat, j ≤ n ∧ i = .int .i64 j ∧ r = .bool false ∧ (∀ j', j' < j → (1 ≤ Z k j' ∧ Z k j' ≤ 144) ∧ (k = j' → Z k j' = 12)) ∧
            ArrAt wi w.heap.size 52 25 (fun _ => 0) ∧ ArrAt wi (w.heap.size + 1) 52 25 (partF n k j Z) ∧ wi.heap.size = w.heap.size + 2 ∧ Below w.heap.size w wi) (fun _ _ _ i _ => n - (intOf i).toNat)
        case atStart => exact ⟨0, Nat.zero_le _, rfl, rfl, fun j hj => absurd hj (Nat.not_lt_zero _), H2.out, H3.out, H4.out, H5.out⟩
        case round =>
          obtain ⟨j, hj, rfl, rfl, hs, hZ, hP, hsz, hb⟩ := hrel
          clear H2 H3 H4 H5 hca
          have hra := H6.out.below (Nat.le_refl _) hb
          by_cases hjlt : j < n
          · obtain ⟨bb, ob, hA, hcb⟩ := hra j (by have := H7.out; omega)
            rw [hA]
            have hLj : j < L k := by have := H7.out; omega
            have hP1 := hP.cell (j := k * 5 + j) (by omega)
            have hP2 := hP.frozen (k * 5 + j)
            have H2 := Lib.hid hZ
            have H3 := Lib.hid hP
            have H4 := Lib.hid hsz
            have H5 := Lib.hid hb
            have H8 := Lib.hid hs
            have H9 := Lib.hid hA
            clear hs hra hA hZ hP hsz hb
            by_cases hlo : Z k j < 1
            · have hdl : decide (Z k j < 1) = true := by simpa using hlo
              have Hno := Lib.hid (show ¬ IsRates n L Z from fun h => by have := ((h.2 k hlt).2 j hjlt).1; omega)
              have hA1 := H2.out
              go_wp2_with (first | (with_reducible refine arr_build0 25 _ Tryd.builtRates ?_) | ((with_reducible refine arr_store 25 _ _ _ _ _ _ (fun _ => 0) ?_ ?_ hA1 Tryd.sizeRates ?_); exact rfl; exact rfl; intro w2 hA2 hs2 ho2 hb2; clear hA1))
              refine bodyPost_ret (v := .tuple #[.agg (cellsV 25 (rateF n L Z)), .bool (tt (IsRates n L Z))]) ?_ rfl ⟨rfl, H5.out.trans hb2⟩
              rw [results_arr_tmp (F := rateF n L Z) Tryd.results39 _ _ w.heap.size 52 25 _ _ rfl (hA2.congr fun j _ => rateF_no Hno.out j) Tryd.underlying52 Tryd.sizeRates, tt_no Hno.out]
              rfl
            · by_cases hhi : 144 < Z k j
              · have hdl : decide (144 < Z k j) = true := by simpa using hhi
                have Hno := Lib.hid (show ¬ IsRates n L Z from fun h => by have := ((h.2 k hlt).2 j hjlt).1; omega)
                have hA1 := H2.out
                go_wp2_with (first | (with_reducible refine arr_build0 25 _ Tryd.builtRates ?_) | ((with_reducible refine arr_store 25 _ _ _ _ _ _ (fun _ => 0) ?_ ?_ hA1 Tryd.sizeRates ?_); exact rfl; exact rfl; intro w2 hA2 hs2 ho2 hb2; clear hA1))
                refine bodyPost_ret (v := .tuple #[.agg (cellsV 25 (rateF n L Z)), .bool (tt (IsRates n L Z))]) ?_ rfl ⟨rfl, H5.out.trans hb2⟩
                rw [results_arr_tmp (F := rateF n L Z) Tryd.results39 _ _ w.heap.size 52 25 _ _ rfl (hA2.congr fun j _ => rateF_no Hno.out j) Tryd.underlying52 Tryd.sizeRates, tt_no Hno.out]
                rfl
              · have hi2 : decide (144 < Z k j) = false := by simpa using hhi
                by_cases hkj : k = j
                · subst hkj
                  by_cases hz : Z k k = 12
                  · have hb1 : (Z k k != 12) = false := by simp [hz]
                    have HZ := Lib.hid hz
                    clear hz
                    go_wp2
                    go_roundw
                    case rel =>
                      refine ⟨k + 1, by omega, by go_num, rfl, fun j' hj' => ?_, H2.out.setOther (by show w.heap.size ≠ w.heap.size + 1; omega) _, (H3.out.set _ _).congr (fun j' _ => partF_step hjlt hn5 j'), ?_, H5.out.setCell (Nat.le_succ _) _⟩
                      · by_cases e : j' = k
                        · subst e; exact ⟨by omega, fun _ => HZ.out⟩
                        · exact H8.out j' (by omega)
                      · rw [← H4.out]; simp [World.setCell]
                    case measure => simp [intOf]; omega
                  · have hb1 : (Z k k != 12) = true := by simp [hz]
                    have Hno := Lib.hid (show ¬ IsRates n L Z from fun h => hz (((h.2 k hlt).2 k hlt).2 rfl))
                    have hA1 := H2.out
                    go_wp2_with (first | (with_reducible refine arr_build0 25 _ Tryd.builtRates ?_) | ((with_reducible refine arr_store 25 _ _ _ _ _ _ (fun _ => 0) ?_ ?_ hA1 Tryd.sizeRates ?_); exact rfl; exact rfl; intro w2 hA2 hs2 ho2 hb2; clear hA1))
                    refine bodyPost_ret (v := .tuple #[.agg (cellsV 25 (rateF n L Z)), .bool (tt (IsRates n L Z))]) ?_ rfl ⟨rfl, H5.out.trans hb2⟩
                    rw [results_arr_tmp (F := rateF n L Z) Tryd.results39 _ _ w.heap.size 52 25 _ _ rfl (hA2.congr fun j _ => rateF_no Hno.out j) Tryd.underlying52 Tryd.sizeRates, tt_no Hno.out]
                    rfl
                · have hb1 : ((k : Int) == (j : Int)) = false := by simp; omega
                  go_wp2
                  go_roundw
                  case rel =>
                    refine ⟨j + 1, by omega, by go_num, rfl, fun j' hj' => ?_, H2.out.setOther (by show w.heap.size ≠ w.heap.size + 1; omega) _, (H3.out.set _ _).congr (fun j' _ => partF_step hjlt hn5 j'), ?_, H5.out.setCell (Nat.le_succ _) _⟩
                    · by_cases e : j' = j
                      · subst e; exact ⟨by omega, fun e => absurd e hkj⟩
                      · exact H8.out j' (by omega)
                    · rw [← H4.out]; simp [World.setCell]
                  case measure => simp [intOf]; omega
          · have H2 := Lib.hid hZ
            have H3 := Lib.hid hP
            have H4 := Lib.hid hsz
            have H5 := Lib.hid hb
            have H8 := Lib.hid hs
            clear hs hra hZ hP hsz hb
            have hge : ¬ j < L k := by have := H7.out; omega
            obtain rfl : j = n := by omega
            go_wp2
            go_roundw
            case rel =>
              exact ⟨k + 1, by omega, by go_num, rfl, fun i' hi' => by
                by_cases e : i' = k
                · subst e; exact ⟨H7.out, fun j' hj' => H8.out j' (by omega)⟩
                · exact H1.out i' (by omega), H2.out, H3.out.congr (fun j _ => partF_row j), H4.out, H5.out⟩
            case measure => simp [intOf]; omega
      · have hne : ((L k : Int) != (n : Int)) = true := by simp; omega
        have Hno := Lib.hid (show ¬ IsRates n L Z from fun h => hln (h.2 k hlt).1)
        have hA1 := H2.out
        go_wp2_with (first | (with_reducible refine arr_build0 25 _ Tryd.builtRates ?_) | ((with_reducible refine arr_store 25 _ _ _ _ _ _ (fun _ => 0) ?_ ?_ hA1 Tryd.sizeRates ?_); exact rfl; exact rfl; intro w2 hA2 hs2 ho2 hb2; clear hA1))
        refine bodyPost_ret (v := .tuple #[.agg (cellsV 25 (rateF n L Z)), .bool (tt (IsRates n L Z))]) ?_ rfl ⟨rfl, H5.out.trans hb2⟩
        rw [results_arr_tmp (F := rateF n L Z) Tryd.results39 _ _ w.heap.size 52 25 _ _ rfl (hA2.congr fun j _ => rateF_no Hno.out j) Tryd.underlying52 Tryd.sizeRates, tt_no Hno.out]
        rfl
    · obtain rfl : k = n := by omega
      have hyes : IsRates k L Z := ⟨⟨hn2, hn5⟩, hs⟩
      have Hyes := Lib.hid hyes
      have hP2 := hP.congr (G := rateF k L Z) (fun j _ => (partF_all j).trans (rateF_yes hyes j))
      clear hP hyes hs ha hL
      go_wp2_with (first
        | ((with_reducible refine arr_load 25 _ _ _ _ _ _ _ ?_ hP2 Tryd.underlying52 Tryd.sizeRates ?_); exact rfl)
        | ((with_reducible refine arr_store 25 _ _ _ _ _ _ (rateF k L Z) ?_ ?_ hZ Tryd.sizeRates ?_); exact rfl; exact rfl; intro w2 hA2 hs2 ho2 hb2; clear hZ))
      refine bodyPost_ret (v := .tuple #[.agg (cellsV 25 (rateF k L Z)), .bool (tt (IsRates k L Z))]) ?_ rfl ⟨rfl, hb.trans hb2⟩
      rw [results_arr_tmp (F := rateF k L Z) Tryd.results39 _ _ w.heap.size 52 25 _ _ rfl hA2 Tryd.underlying52 Tryd.sizeRates, tt_of Hyes.out]
      rfl

/-- THE PROGRAM's readRates. -/
theorem readRates_any (n c : Nat) (a : Option Addr) (A : Nat → Option Addr) (L C : Nat → Nat) (Z : Nat → Nat → Int) (w : World) (hn : n ≤ 1048576) (hL : ∀ r, r < n → L r ≤ 1048576) (ha : Tab w a n A L C Z) :
    Calls Tryd.prog 39 #[.slice a n c] w fun e w' => e = .returned (.tuple #[.agg (cellsV 25 (rateF n L Z)), .bool (tt (IsRates n L Z))]) ∧ Below w.heap.size w w' := by
  by_cases h : n < 2 ∨ 5 < n
  · exact readRates_len n c a L Z w hn h
  · exact readRates_mid n c a A L C Z w (by omega) (by omega) hL ha
end Go.Proofs.YtabdbgnkiebcdaaDoor

namespace Go.Proofs.YtabdbgnkiebcdaaDoor
set_option linter.unusedVariables false
open Go.RowKit

set_option maxHeartbeats 400000 in
theorem unitAfter_any (n : Int) (w : World) (hn : n ≤ 10) (h0 : -1000000000 ≤ n) :
    Calls Tryd.prog 138 #[.int .i64 n] w fun e w' => e = .returned (.int .i64 (p12 n.toNat)) ∧ w = w' := by
  go_enter Tryd.func138, Tryd.ntmps138
  go_wp2
  go_loop [3, 5] (fun p i => ∃ k : Nat, k ≤ n.toNat ∧ i = .int .i64 k ∧ p = .int .i64 (p12 k)) (fun _ i => n.toNat - (intOf i).toNat)
  case atStart => exact ⟨0, Nat.zero_le _, rfl, rfl⟩
  case round =>
    obtain ⟨k, hk, rfl, rfl⟩ := hrel
    obtain ⟨hp1, hp2⟩ := p12_le k (by omega)
    by_cases hlt : (k : Int) < n
    · go_wp2
      go_round
      case rel => exact ⟨k + 1, by omega, by go_num, rfl⟩
      case measure => simp [intOf]; omega
    · have hkn := Lib.hid (show k = n.toNat by omega)
      go_wp2
      go_ret
      exact ⟨by rw [← hkn.out]; rfl, rfl⟩
end Go.Proofs.YtabdbgnkiebcdaaDoor

namespace Go.Proofs.YtabdbgnkiebcdaaDoor
set_option linter.unusedVariables false
open Go.RowKit

/-- The array's number of row i at k. -/
def atF (F : Nat → Int) (i k : Nat) : Int := F (i * 5 + k)

set_option maxHeartbeats 800000 in
theorem value_any (n m d : Nat) (F : Nat → Int) (b : Option Addr) (W : Nat → Int) (steps : Int) (w : World) (hn5 : n ≤ 5) (hF : ∀ i k, i < n → k < n → 0 ≤ atF F i k ∧ atF F i k ≤ 144) (hb : Rd w b m W)
    (hm1 : 2 ≤ m) (hm2 : m ≤ 6) (hmd : m ≤ d) (hs1 : steps - m + 1 ≤ 6) (hs0 : 0 ≤ steps) (hW : ∀ i, i < m → 0 ≤ W i ∧ W i < n) :
    Calls Tryd.prog 158 #[.agg (cellsV 25 F), .slice b m d, .int .i64 steps] w fun e w' => e = .returned (.int .i64 (valF (atF F) W (p12 (steps - m + 1).toNat) (m - 1))) ∧ Below w.heap.size w w' := by
  have hv := p12_small (steps - m + 1).toNat (by omega)
  have hZ' : ∀ j, j + 1 < m → 0 ≤ atF F (W j).toNat (W (j + 1)).toNat ∧ atF F (W j).toNat (W (j + 1)).toNat ≤ 144 := fun j hj => by
    have h1 := hW j (by omega)
    have h2 := hW (j + 1) hj
    exact hF _ _ (by omega) (by omega)
  obtain ⟨v0, hv0⟩ : ∃ v0, v0 = p12 (steps - m + 1).toNat := ⟨_, rfl⟩
  rw [← hv0] at hv ⊢
  obtain ⟨bb, ob, rfl, -⟩ := hb 0 (by omega)
  have hlt := (hb.lt (show 0 < m by omega))
  have V0 := Lib.hid hv0
  have V1 := Lib.hid hZ'
  have V4 := Lib.hid hb
  have V5 := Lib.hid hW
  have e1 : ((m : Int) - 1).toNat = m - 1 := by omega
  clear hv0 hF hZ' hb hW hlt
  go_enter Tryd.func158, Tryd.ntmps158
  go_wp2_with (first
    | ((with_reducible refine arr_box 25 _ _ F ?_ ?_); exact rfl; intro w1 hA1 hs1 hb1; have S1 := Lib.hid hs1; clear hs1)
    | (go_at_call 138; refine (unitAfter_any _ _ (by omega) (by omega)).mono ?_; rintro e w' ⟨rfl, rfl⟩; rw [← V0.out]))
  have A1 := Lib.hid hA1
  have B1 := Lib.hid hb1
  clear hA1 hb1
  go_loop [7, 8, 9, 19] (fun v _ _ i => ∃ k : Nat, k + 1 ≤ m ∧ i = .int .i64 k ∧ v = .int .i64 (valF (atF F) W v0 k)) (fun _ _ _ i => m - (intOf i).toNat)
  case atStart => exact ⟨0, by omega, rfl, rfl⟩
  case round =>
    obtain ⟨k, hk, rfl, rfl⟩ := hrel
    obtain ⟨hb1, hb2⟩ := valF_bound (Z := atF F) (W := W) k (by omega) hv (fun j hj => V1.out j (by omega))
    by_cases hlt : k + 1 < m
    · obtain ⟨hb3, hb4⟩ := valF_bound (Z := atF F) (W := W) (k + 1) (by omega) hv (fun j hj => V1.out j (by omega))
      have hstep : valF (atF F) W v0 (k + 1) = valF (atF F) W v0 k * atF F (W k).toNat (W (k + 1)).toNat := rfl
      have hR := V4.out.below (Nat.le_refl _) B1.out
      obtain ⟨bb', ob', hbe, hcb1⟩ := hR k (by omega)
      obtain ⟨rfl, rfl⟩ : bb' = bb ∧ ob' = ob := by simpa using hbe.symm
      obtain ⟨bb2, ob2, hbe2, hcb2⟩ := hR (k + 1) hlt
      obtain ⟨rfl, rfl⟩ : bb2 = bb' ∧ ob2 = ob' := by simpa using hbe2.symm
      rw [show ob2 + (k + 1) = ob2 + 1 + k from by omega] at hcb2
      obtain ⟨hx1, hx2⟩ := V5.out k (by omega)
      obtain ⟨hy1, hy2⟩ := V5.out (k + 1) hlt
      obtain ⟨x, hx⟩ := Int.eq_ofNat_of_zero_le hx1
      obtain ⟨y, hy⟩ := Int.eq_ofNat_of_zero_le hy1
      rw [hx] at hx2 hcb1
      rw [hy] at hy2 hcb2
      rw [hx, hy, Int.toNat_natCast, Int.toNat_natCast] at hstep
      have hxn : x < n := by omega
      have hyn : y < n := by omega
      have hcell : w1.cell? ⟨w.heap.size, x * 5 + y, none⟩ = some (.int .i64 (atF F x y)) := A1.out.cell (j := x * 5 + y) (by omega)
      have hmul : wrap64 (valF (atF F) W v0 k * atF F x y) = valF (atF F) W v0 (k + 1) := by rw [← hstep]; exact IntWalk.wrap64_in _ ⟨by omega, by omega⟩
      have hk1 : k < m - 1 := by omega
      have hx5 : x < 5 := by omega
      have hy5 : y < 5 := by omega
      have E := Lib.hid hmul
      clear hx hy hx1 hy1 hbe hbe2 hstep hmul hR
      go_wp2
      go_round
      case rel => exact ⟨k + 1, by omega, by go_num, by rw [E.out]⟩
      case measure => simp [intOf]; omega
    · obtain rfl : k + 1 = m := by omega
      go_wp2
      go_ret
      exact ⟨ret_int rfl, B1.out⟩
end Go.Proofs.YtabdbgnkiebcdaaDoor

namespace Go.Proofs.YtabdbgnkiebcdaaDoor
set_option linter.unusedVariables false
open Go.RowKit

/-- The array F is kept for n moneys. -/
structure Kept (n : Nat) (F : Nat → Int) : Prop where
  le : n ≤ 5
  diag : ∀ i, i < n → atF F i i ≠ 0
  none : n < 5 → atF F n n = 0
  rate : ∀ i k, i < n → k < n → 0 ≤ atF F i k ∧ atF F i k ≤ 144

theorem atF_rate {n : Nat} {L : Nat → Nat} {Z : Nat → Nat → Int} (h : IsRates n L Z) {i k : Nat} (hi : i < n) (hk : k < n) : atF (rateF n L Z) i k = Z i k := by
  have h5 := h.1.2
  have e1 : (i * 5 + k) / 5 = i := by omega
  have e2 : (i * 5 + k) % 5 = k := by omega
  unfold atF
  rw [← rateF_yes h, e1, e2, if_pos ⟨hi, hk⟩]

theorem Kept.of_rates {n : Nat} {L : Nat → Nat} {Z : Nat → Nat → Int} (h : IsRates n L Z) : Kept n (rateF n L Z) := by
  refine ⟨h.1.2, fun i hi => ?_, fun h5 => ?_, fun i k hi hk => ?_⟩
  · rw [atF_rate h hi hi, ((h.2 i hi).2 i hi).2 rfl]; decide
  · have e1 : (n * 5 + n) / 5 = n := by omega
    unfold atF
    rw [← rateF_yes h, e1, if_neg (by omega)]
  · rw [atF_rate h hi hk]
    have := ((h.2 i hi).2 k hk).1
    omega

set_option maxHeartbeats 400000 in
theorem size_any (n : Nat) (F : Nat → Int) (w : World) (h : Kept n F) :
    Calls Tryd.prog 107 #[.agg (cellsV 25 F)] w fun e w' => e = .returned (.int .i64 n) ∧ Below w.heap.size w w' := by
  have hn5 := h.le
  have H := Lib.hid h
  clear h
  go_enter Tryd.func107, Tryd.ntmps107
  go_wp2_with ((with_reducible refine arr_box 25 _ _ F ?_ ?_); exact rfl; intro w1 hA1 hs1 hb1)
  have A1 := Lib.hid hA1
  have B1 := Lib.hid hb1
  clear hA1 hs1 hb1
  go_loop [3] (fun i => ∃ k : Nat, k ≤ n ∧ i = .int .i64 k) (fun i => n - (intOf i).toNat)
  case atStart => exact ⟨0, by omega, rfl⟩
  case round =>
    obtain ⟨k, hk, rfl⟩ := hrel
    by_cases hlt : k < n
    · have hcell : w1.cell? ⟨w.heap.size, k * 5 + k, none⟩ = some (.int .i64 (atF F k k)) := A1.out.cell (j := k * 5 + k) (by omega)
      have hne : (atF F k k != 0) = true := by simpa using H.out.diag k hlt
      have hk5 : k < 5 := by omega
      have hd : decide ((k : Int) < 5) = true := by simp; omega
      go_wp2
      go_round
      case rel => exact ⟨k + 1, by omega, by go_num⟩
      case measure => simp [intOf]; omega
    · obtain rfl : k = n := by omega
      by_cases hk5 : k < 5
      · have hcell : w1.cell? ⟨w.heap.size, k * 5 + k, none⟩ = some (.int .i64 (atF F k k)) := A1.out.cell (j := k * 5 + k) (by omega)
        have hne : (atF F k k != 0) = false := by simpa using H.out.none hk5
        have hd : decide ((k : Int) < 5) = true := by simp; omega
        go_wp2
        go_ret
        exact ⟨rfl, B1.out⟩
      · have hd : decide ((k : Int) < 5) = false := by simp; omega
        go_wp2
        go_ret
        exact ⟨rfl, B1.out⟩
end Go.Proofs.YtabdbgnkiebcdaaDoor

namespace Go.Proofs.YtabdbgnkiebcdaaDoor
set_option linter.unusedVariables false
open Go.RowKit

set_option maxHeartbeats 1000000 in
theorem roundValue_any (n m d : Nat) (F : Nat → Int) (b : Option Addr) (X : Nat → Int) (w : World) (h : Kept n F) (hn2 : 2 ≤ n) (hway : IsWay n m X) (hb : Rd w b m X) :
    Calls Tryd.prog 137 #[.agg (cellsV 25 F), .slice b m d] w fun e w' => e = .returned (.int .i64 (roundV n (atF F) m X)) ∧ Below w.heap.size w w' := by
  have hn5 := h.le
  have hm2 := hway.2.1
  have hmn := hway.2.2
  have hW := Lib.hid (closeF_in hway)
  obtain ⟨ba, oa, rfl, hlt, hc0⟩ := hb.lt (show 0 < m by omega)
  rw [Nat.add_zero] at hc0
  obtain ⟨i0, hi, hz0, hz1, hz2⟩ := info_parts Tryd.infoInt
  have H := Lib.hid h
  have HB := Lib.hid hb
  have HC := Lib.hid hc0
  have hi1 : 0 < m := by omega
  clear h hb hway hc0
  go_enter Tryd.func137, Tryd.ntmps137
  go_wp2_with ((with_reducible refine arr_box 25 _ _ F ?_ ?_); exact rfl; intro w1 hA1 hs1 hb1)
  have hlt1 : ba < w1.heap.size := by rw [hs1]; omega
  have hc1 : w1.cell? ⟨ba, oa, none⟩ = some (.int .i64 (X 0)) := (hb1.cell (p := ⟨ba, oa, none⟩) hlt).trans HC.out
  have HB1 := Lib.hid (HB.out.below (Nat.le_refl _) hb1)
  have A1 := Lib.hid hA1
  have B1 := Lib.hid hb1
  clear hA1 hs1 hb1
  go_region_held3 (fun W => W.cell? ⟨ba, oa, none⟩ = some (.int .i64 (X 0)) ∧ Below w1.heap.size w1 W)
    (first | exact keep_drew ⟨hc1, Below.refl _ _⟩ | exact keep_drew (by assumption) | exact keep_alloc (by assumption) _ | exact keep_below (by assumption) hlt1 hbl | exact keep_grown (by assumption) hlt1 hgrow2 hrow1)
    ((first
      | (go_at_call 153; refine (clone_any m d (some ⟨ba, oa, none⟩) X _ (by omega) (by omega) (HB1.out.below (Nat.le_refl _) (by repeat (first | exact Below.refl _ _ | refine Below.drew ?_ | refine below_alloc ?_ _)))).mono ?_; rintro e w3 ⟨g3, cap3, rfl, hown3, hbl⟩; have hown1 := owns_base (base' := w1.heap.size) hown3 (by simp <;> omega); have hrow1 : ∀ k, (Value.slice (some ⟨g3, 0, none⟩) m cap3).ownBlock = some k → w1.heap.size ≤ k := fun k hk => (hown1.lt k hk).1; clear hown3)
      | (have _t := hown1; refine step_append_lies _ (by rfl) (.tmp 7) (.tmp 11) 32 (by rfl) w1.heap.size 3 i0 (.int .i64 0) 1 8 Tryd.underlying32 hi hz0 hz1 hz2 (by rfl) (by decide) (.slice (some ⟨g3, 0, none⟩) m cap3) m (cellsL m X) (by rfl) (by first | exact hown1 | exact hown1.alloc _) ⟨_, 0, none⟩ 1 1 [.int .i64 (X 0)] (by rfl) (by rfl) (news_one (by first | (simp; done) | exact (hbl.cell (p := ⟨_, 0, none⟩) (by simp)).trans (by simp))) (by simp [Value.oneCell']) (by omega) (by unfold maxLen; omega) (by omega) (by have h1 := hbl.size; simp at h1 ⊢; omega) _ rfl ?_; intro g2 cap2 w2 hown2 hgrow2 hat2 hlt2)))
  all_goals
    have hB := (show w2.cell? ⟨ba, oa, none⟩ = some (.int .i64 (X 0)) ∧ Below w1.heap.size w1 w2 from by assumption).2
    rw [cellsL_snoc] at hown2
    have hcap := (owns_cap hown2).1
    have HO := Lib.hid (owns_rd hown2)
    have A2 := Lib.hid (A1.out.below A1.out.lt hB)
    have B2 := Lib.hid (B1.out.trans (hB.mono B1.out.size))
    clear hown2 hB hown1 hgrow2 hat2 hrow1 hbl hc1 hlt2
    go_wp2
    refine wp_region_later (by kernel_rfl) (by kernel_rfl) ?_
    repeat (first
      | ((with_reducible refine quiet_load_arr 25 _ _ _ 52 _ w.heap.size F ?_ ?_ Tryd.underlying52 Tryd.sizeRates ?_); exact rfl; (rintro _ ⟨r, rfl⟩; exact later_arr A2.out r))
      | quiet_step ((first
          | (go_at_call 107; exact calls_later _ (size_any n F _ H.out))
          | (go_at_call 158; exact calls_later _ (value_any n (m + 1) cap2 F _ (closeF m X) (n : Int) _ hn5 H.out.rate (HO.out.below (Nat.le_refl _) (Later.h _)) (by omega) (by omega) hcap (by omega) (by omega) (fun i _ => hW.out i))))))
    refine wpQuiet_nil ?_
    rintro _ ⟨r, rfl⟩
    go_wp2
    go_ret
    exact ⟨rfl, B2.out.trans (r.h.mono B2.out.size)⟩
end Go.Proofs.YtabdbgnkiebcdaaDoor
