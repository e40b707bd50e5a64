/- Texts joined: SplitS, Atoi, Range, Numbers, Builder, ProofText, IsProof, ReadRates, UnitAfter, Value, Size. -/
import Derived.Test.YtabdbgnkiebcdaaDoorPartR5
import Derived.Shelf.Abstract
import Derived.WalkKit
import Derived.OwnWalkIn
import Derived.TacticsInMore
import Derived.LoopNIn
import Derived.LoopIn
import Derived.Test.YtabdbgnkiebcdaaDoorPartR1
import Derived.Test.YtabdbgnkiebcdaaDoorProg
import Derived.Test.YtabdbgnkiebcdaaDoorPartR2
import Derived.Shelf.Strconv.AtoiAll
import Derived.Lib.AtoiErrMem
import Derived.Test.YtabdbgnkiebcdaaDoorPartR3
import Derived.Test.YtabdbgnkiebcdaaDoorPartR4
import Derived.Shelf.Strings.BuilderK
import Derived.Lib.AppendStr
import Derived.Laws.EntriesVeiled
namespace Go.Proofs.YtabdbgnkiebcdaaDoor
set_option linter.unusedVariables false
set_option linter.unusedSimpArgs false
open Go.RowKit

section
attribute [local go_sem] Oper.semAt_some wide_fn wide_round_fn

def strV (D : List UInt8) : Array Value := #[.string (strU D)]

theorem splitSeq_any (s : ByteArray) (w : World) :
    Calls Tryd.prog 150 #[.string s, .string ⟨#[32]⟩, .int .i64 0] w fun e w' => e = .returned (.func (.func 166) #[] #[.pointer (some ⟨w.heap.size + 1, 0, none⟩), .pointer (some ⟨w.heap.size, 0, none⟩), .pointer (some ⟨w.heap.size + 1 + 1, 0, none⟩)]) ∧
      w' = ((w.alloc (.cells #[.string s] 9)).alloc (.cells #[.string ⟨#[32]⟩] 9)).alloc (.cells #[.int .i64 0] 3) := by
  go_enter Tryd.func150, Tryd.ntmps150
  go_wp2
  go_ret
  exact ⟨rfl, rfl⟩
theorem splitSeqS_any (s : ByteArray) (w : World) :
    Calls Tryd.prog 128 #[.string s, .string ⟨#[32]⟩] w fun e w' => e = .returned (.func (.func 166) #[] #[.pointer (some ⟨w.heap.size + 1, 0, none⟩), .pointer (some ⟨w.heap.size, 0, none⟩), .pointer (some ⟨w.heap.size + 1 + 1, 0, none⟩)]) ∧
      w' = ((w.alloc (.cells #[.string s] 9)).alloc (.cells #[.string ⟨#[32]⟩] 9)).alloc (.cells #[.int .i64 0] 3) := by
  have H := Lib.hid (splitSeq_any s w)
  go_enter Tryd.func128, Tryd.ntmps128
  go_wp2_with (go_at_call 150; refine H.out.mono ?_; rintro e w1 ⟨rfl, rfl⟩)
  go_ret
  exact ⟨rfl, rfl⟩

/-- How long the text in a box is. -/
def lenAt (b : Nat) (w : World) : Nat := match w.heap[b]? with
  | some (.cells cs _ _) => (match cs[0]? with
    | some (Value.string s) => s.size
    | _ => 0)
  | _ => 0
theorem lenAt_is {b : Nat} {w : World} {q : List UInt8} (h : w.heap[b]? = some (.cells #[.string (strU q)] 9 (0, 0))) : lenAt b w = q.length := by
  unfold lenAt
  rw [h]
  exact strU_size q
/-- The iterator's three boxes. -/
def SplR (b : Nat) (k : Nat) : Prop := k = b ∨ k = b + 1 ∨ k = b + 1 + 1

set_option maxRecDepth 100000 in
set_option maxHeartbeats 6400000 in
theorem seq_split (b : Nat) (r : List UInt8) (w : World) (hlen : r.length ≤ 1048576) (hs : w.heap[b]? = some (.cells #[.string (strU r)] 9 (0, 0))) (h1 : w.cell? ⟨b + 1, 0, none⟩ = some (.string ⟨#[32]⟩)) (h0 : w.cell? ⟨b + 1 + 1, 0, none⟩ = some (.int .i64 0)) :
    SeqW Tryd.prog strV 166 #[.pointer (some ⟨b + 1, 0, none⟩), .pointer (some ⟨b, 0, none⟩), .pointer (some ⟨b + 1 + 1, 0, none⟩)] (SplR b) (splitB r) w := by
  intro l O V J Jx W hin hR hO hRO hJ hJx hY hJ0
  have hsW : W.heap[b]? = some (.cells #[.string (strU r)] 9 (0, 0)) := (hin.block b (.inl rfl)).trans hs
  have h1W : W.cell? ⟨b + 1, 0, none⟩ = some (.string ⟨#[32]⟩) := hin.cell (p := ⟨b + 1, 0, none⟩) (.inr (.inl rfl)) h1
  have h0W : W.cell? ⟨b + 1 + 1, 0, none⟩ = some (.int .i64 0) := hin.cell (p := ⟨b + 1 + 1, 0, none⟩) (.inr (.inr rfl)) h0
  have hbl : b + 1 + 1 < W.heap.size := World.block_lt_of_cell? _ _ h0W
  have NV := Lib.hid hR
  have NO := Lib.hid hRO
  have OW := Lib.hid hO
  have HY := Lib.hid hY
  have J0 := Lib.hid hJ0
  have HS := Lib.hid hsW
  have H1 := Lib.hid h1W
  have H0 := Lib.hid h0W
  have HLE := Lib.hid hlen
  have z1 : (⟨#[32]⟩ : ByteArray).size = 1 := rfl
  clear hin hR hO hRO hY hJ0 hs h1 h0 hsW h0W hlen
  refine callsIn_of_wp Tryd.func166 rfl trivial ?_ rfl
  simp only [Tryd.ntmps166, List.size_toArray, List.length_cons, List.length_nil, Nat.reduceAdd, Nat.reduceSub, Array.replicate_succ, Array.replicate_zero, List.push_toArray, List.append_toArray, List.nil_append, List.cons_append]
  gi_wp2
  clear h1W
  gi_loopw [7, 8] (fun _ _ wr => ∃ (P : List (List UInt8)) (q : List UInt8), splitB r = P ++ splitB q ∧ q.length ≤ 1048576 ∧ W.heap.size ≤ wr.heap.size ∧ wr.heap[b]? = some (.cells #[.string (strU q)] 9 (0, 0)) ∧ wr.cell? ⟨b + 1, 0, none⟩ = some (.string ⟨#[32]⟩) ∧ wr.cell? ⟨b + 1 + 1, 0, none⟩ = some (.int .i64 0) ∧ ∃ V1, (∀ j, V1 j → V j ∨ W.heap.size ≤ j) ∧ J V1 P wr) (fun _ _ wr => lenAt b wr)
  case atStart => exact ⟨[], r, rfl, HLE.out, Nat.le_refl _, HS.out, H1.out, H0.out, V, fun j h => .inl h, J0.out⟩
  case round =>
    obtain ⟨P, q, hP, hq, hsz, hb, c1, c2, V1, hV1, hj⟩ := hrel
    have HP := Lib.hid hP
    have HQ := Lib.hid hq
    have HB := Lib.hid hb
    have HV1 := Lib.hid hV1
    have J1 := Lib.hid hj
    have C1 := Lib.hid c1
    have C2 := Lib.hid c2
    have c0 : wr.cell? ⟨b, 0, none⟩ = some (.string (strU q)) := (Lib.cell_of_heap hb 0).trans rfl
    have f0 : wr.frozen? ⟨b, 0, none⟩ = false := Lib.frozen_of_heap hb 0
    have z2 : (strU q).size = q.length := strU_size q
    have IX := Lib.hid (indexS_any (strU q) 32 wr)
    rw [strU_list] at IX
    have SAFE := Lib.hid (show ∀ V2 : Nat → Prop, (∀ j, V2 j → V j ∨ W.heap.size ≤ j) → ∀ k, SplR b k → ¬ V2 k from fun V2 h k hk hv => by
      rcases h k hv with h' | h'
      · exact NV.out k hk h'
      · rcases hk with rfl | rfl | rfl <;> omega)
    have MEAS := Lib.hid (lenAt_is hb)
    clear hP hq hb hV1 hj J0
    rcases space_cases q with ⟨x1, x2⟩ | ⟨i, x1, x2, x3, x4⟩
    · rw [x1] at IX
      have LL := Lib.hid (show splitB r = P ++ [q] by rw [HP.out, splitB_miss q x2])
      clear x1 x2
      obtain ⟨fn, tmps, assign, body, hy, hR⟩ := HY.out V1 P q wr J1.out (by rw [LL.out]; exact List.prefix_refl _)
      simp only [strV] at hy
      have HR := Lib.hid hR
      clear hR
      gi_wp2_with (gi_at_call 168; refine (callsIn_wide.2 IX.out).mono ?_; rintro e w5 ⟨rfl, rfl⟩)
      refine (roundIn_wide HR.out).mono ?_
      rintro e W2 ⟨ho2, V3, hV3, (⟨rfl, hj3⟩ | ⟨rfl, hj3⟩)⟩
      · have J3 := Lib.hid hj3
        clear ho2 hV3 hj3 hy HR
        gi_wp2
        go_end0
        exact ⟨⟨_, rfl⟩, .inl ⟨V3, by rw [LL.out]; exact J3.out⟩⟩
      · have J3 := Lib.hid hj3
        clear ho2 hV3 hj3 hy HR
        gi_wp2
        go_end0
        exact ⟨⟨_, rfl⟩, .inr ⟨V3, _, (by rw [LL.out]; exact List.prefix_refl _), J3.out⟩⟩
    · rw [x1] at IX
      have SP := Lib.hid (split_at x3 x4)
      have LL := Lib.hid (show splitB r = (P ++ [q.take i]) ++ splitB (q.drop (i + 1)) by rw [HP.out, SP.out, List.append_assoc]; rfl)
      have e1 : (strU q).extract 0 i = strU (q.take i) := by rw [extract_take, strU_list]
      have e2 : (strU q).extract (i + 1) q.length = strU (q.drop (i + 1)) := by
        have h := extract_drop (strU q) (i + 1)
        rw [z2, strU_list] at h; exact h
      have i1 : (0 : Int) ≤ (i : Int) := by omega
      have i2 : (i : Int) ≤ (q.length : Int) := by omega
      have i3 : (0 : Int) ≤ (i : Int) + 1 := by omega
      have i4 : (i : Int) + 1 ≤ (q.length : Int) := by omega
      have d1 : decide ((i : Int) < 0) = false := decide_eq_false (by omega)
      have hq9 := HQ.out
      have hw : IntKind.i64.wrap ((i : Int) + 1) = (i : Int) + 1 := by rw [IntWalk.i64_in _ (by omega)]
      have hw0 : IntKind.i64.wrap (i : Int) = (i : Int) := by rw [IntWalk.i64_in _ (by omega)]
      have ht : ((i : Int) + 1).toNat = i + 1 := by omega
      have LN := Lib.hid (show (q.drop (i + 1)).length < q.length ∧ (q.drop (i + 1)).length ≤ 1048576 by rw [List.length_drop]; omega)
      obtain ⟨q2, hq2⟩ : ∃ q2, q2 = q.drop (i + 1) := ⟨_, rfl⟩
      obtain ⟨fr, hfr⟩ : ∃ fr, fr = q.take i := ⟨_, rfl⟩
      rw [← hq2] at LL LN e2
      rw [← hfr] at LL e1
      clear x1 x2 x3 x4 SP hq2 hfr
      obtain ⟨fn, tmps, assign, body, hy, hR⟩ := HY.out V1 P fr wr J1.out (by rw [LL.out]; exact List.prefix_append _ _)
      simp only [strV] at hy
      have HR := Lib.hid hR
      clear hR
      gi_wp2_with (gi_at_call 168; refine (callsIn_wide.2 IX.out).mono ?_; rintro e w5 ⟨rfl, rfl⟩)
      refine (roundIn_wide HR.out).mono ?_
      rintro e W2 ⟨ho2, V3, hV3, (⟨rfl, hj3⟩ | ⟨rfl, hj3⟩)⟩
      · have J3 := Lib.hid hj3
        have hbw := hsz
        have nb := SAFE.out V1 HV1.out
        have HB2 := Lib.hid (show W2.heap[b]? = some (.cells #[.string (strU q)] 9 (0, 0)) from (ho2.block b (by omega) (nb b (.inl rfl))).trans HB.out)
        have c0 : W2.cell? ⟨b, 0, none⟩ = some (.string (strU q)) := (Lib.cell_of_heap HB2.out 0).trans rfl
        have f0 : W2.frozen? ⟨b, 0, none⟩ = false := Lib.frozen_of_heap HB2.out 0
        have c1 : W2.cell? ⟨b + 1, 0, none⟩ = some (.string ⟨#[32]⟩) := ho2.cell (p := ⟨b + 1, 0, none⟩) (nb _ (.inr (.inl rfl))) C1.out
        have c2 : W2.cell? ⟨b + 1 + 1, 0, none⟩ = some (.int .i64 0) := ho2.cell (p := ⟨b + 1 + 1, 0, none⟩) (nb _ (.inr (.inr rfl))) C2.out
        have C1' := Lib.hid c1
        have C2' := Lib.hid c2
        have S2 := Lib.hid (Nat.le_trans hsz ho2.size)
        have HV3 := Lib.hid (show ∀ j, V3 j → V j ∨ W.heap.size ≤ j from fun j h => by rcases hV3 j h with h' | h'; exact HV1.out j h'; exact .inr (Nat.le_trans hsz h'))
        clear ho2 hV3 hj3 hy HR nb
        gi_wp2
        go_roundw
        case rel =>
          have hB3 : (W2.setCell ⟨b, 0, none⟩ (.string (strU q2))).heap[b]? = some (.cells #[.string (strU q2)] 9 (0, 0)) := by
            simp [World.setCell, Array.getElem?_modify, HB2.out]
          refine ⟨P ++ [fr], q2, LL.out, LN.out.2, by have := S2.out; simp [World.setCell]; exact this, hB3, ?_, ?_, V3, HV3.out, ?_⟩
          · exact (World.cell?_of_block (a := ⟨b + 1, 0, none⟩) (Below.heap_setCell _ _ _ _ (by simp))).trans C1'.out
          · exact (World.cell?_of_block (a := ⟨b + 1 + 1, 0, none⟩) (Below.heap_setCell _ _ _ _ (by simp; omega))).trans C2'.out
          · refine hJ.steady _ _ _ _ J3.out ⟨rfl, rfl, rfl, by simp [World.setCell], fun k hk => Below.heap_setCell _ _ _ _ (fun e => ?_)⟩
            rcases hk with hk | hk
            · exact SAFE.out V3 HV3.out b (.inl rfl) (by first | (have e' : k = b := e; rw [← e']; exact hk) | (have e' : b = k := e; rw [e']; exact hk))
            · exact NO.out b (.inl rfl) (by first | (have e' : k = b := e; rw [← e']; exact hk) | (have e' : b = k := e; rw [e']; exact hk))
        case measure =>
          have hB3 : (W2.setCell ⟨b, 0, none⟩ (.string (strU q2))).heap[b]? = some (.cells #[.string (strU q2)] 9 (0, 0)) := by
            simp [World.setCell, Array.getElem?_modify, HB2.out]
          rw [lenAt_is hB3, MEAS.out]
          exact LN.out.1
      · have J3 := Lib.hid hj3
        clear ho2 hV3 hj3 hy HR
        gi_wp2
        refine bodyPost_ret (results_none rfl _ _ _) rfl ?_
        exact ⟨⟨_, rfl⟩, .inr ⟨V3, _, (by rw [LL.out]; exact List.prefix_append _ _), J3.out⟩⟩
end
end Go.Proofs.YtabdbgnkiebcdaaDoor

namespace Go.Proofs.YtabdbgnkiebcdaaDoor
set_option linter.unusedVariables false
set_option linter.unusedSimpArgs false
open Go.RowKit

def laysC172_ren : Go.Shelf.Ren := ⟨fun | 172 => 129 | 244 => 151 | 245 => 152 | 247 => 169 | 279 => 170 | 280 => 171 | 281 => 172 | 282 => 173 | 287 => 184 | 316 => 185 | 171 => 83 | 205 => 186 | 321 => 189 | 322 => 190 | 243 => 119 | 246 => 147 | 283 => 161 | 284 => 162 | 285 => 163 | 286 => 164 | 129 => 176 | 317 => 175 | 318 => 177 | 319 => 178 | 320 => 142 | 337 => 159 | 338 => 160 | n => n, fun | 9 => 9 | 3 => 3 | 75 => 99 | 76 => 100 | 4 => 4 | 5 => 5 | 167 => 159 | 37 => 38 | 0 => 0 | 85 => 160 | 2 => 2 | 168 => 162 | 53 => 150 | 175 => 171 | 46 => 138 | 210 => 175 | 127 => 118 | 145 => 186 | 143 => 184 | 21 => 21 | 171 => 151 | 173 => 153 | 212 => 168 | 51 => 148 | 20 => 20 | 213 => 169 | 232 => 165 | 233 => 166 | 80 => 61 | n => n, fun | 15 => 4 | 16 => 5 | 17 => 2 | 18 => 0 | 19 => 1 | n => n⟩
theorem laysC172 : Go.Proofs.LaysC.n172 Tryd.prog laysC172_ren := {
  mixed := by kernel_rfl
  f129 := Tryd.func176.trans (congrArg some (by kernel_rfl))
  f171 := Tryd.func83.trans (congrArg some (by kernel_rfl))
  f172 := Tryd.func129.trans (congrArg some (by kernel_rfl))
  f205 := Tryd.func186.trans (congrArg some (by kernel_rfl))
  f243 := Tryd.func119.trans (congrArg some (by kernel_rfl))
  f244 := Tryd.func151.trans (congrArg some (by kernel_rfl))
  f245 := Tryd.func152.trans (congrArg some (by kernel_rfl))
  f246 := Tryd.func147.trans (congrArg some (by kernel_rfl))
  f247 := Tryd.func169.trans (congrArg some (by kernel_rfl))
  f279 := Tryd.func170.trans (congrArg some (by kernel_rfl))
  f280 := Tryd.func171.trans (congrArg some (by kernel_rfl))
  f281 := Tryd.func172.trans (congrArg some (by kernel_rfl))
  f282 := Tryd.func173.trans (congrArg some (by kernel_rfl))
  f283 := Tryd.func161.trans (congrArg some (by kernel_rfl))
  f284 := Tryd.func162.trans (congrArg some (by kernel_rfl))
  f285 := Tryd.func163.trans (congrArg some (by kernel_rfl))
  f286 := Tryd.func164.trans (congrArg some (by kernel_rfl))
  f287 := Tryd.func184.trans (congrArg some (by kernel_rfl))
  f316 := Tryd.func185.trans (congrArg some (by kernel_rfl))
  f317 := Tryd.func175.trans (congrArg some (by kernel_rfl))
  f318 := Tryd.func177.trans (congrArg some (by kernel_rfl))
  f319 := Tryd.func178.trans (congrArg some (by kernel_rfl))
  f320 := Tryd.func142.trans (congrArg some (by kernel_rfl))
  f321 := Tryd.func189.trans (congrArg some (by kernel_rfl))
  f322 := Tryd.func190.trans (congrArg some (by kernel_rfl))
  f337 := Tryd.func159.trans (congrArg some (by kernel_rfl))
  f338 := Tryd.func160.trans (congrArg some (by kernel_rfl))
  t0 := Tryd.underlying0
  a0 := Tryd.isAgg0
  z0 := Tryd.sizeOf0
  v0 := Tryd.zeroValue0
  t2 := Tryd.underlying2
  a2 := Tryd.isAgg2
  z2 := Tryd.sizeOf2
  v2 := Tryd.zeroValue2
  t3 := Tryd.underlying3
  a3 := Tryd.isAgg3
  z3 := Tryd.sizeOf3
  v3 := Tryd.zeroValue3
  t4 := Tryd.underlying4
  a4 := Tryd.isAgg4
  z4 := Tryd.sizeOf4
  v4 := Tryd.zeroValue4
  t5 := Tryd.underlying5
  a5 := Tryd.isAgg5
  z5 := Tryd.sizeOf5
  v5 := Tryd.zeroValue5
  t9 := Tryd.underlying9
  a9 := Tryd.isAgg9
  z9 := Tryd.sizeOf9
  v9 := Tryd.zeroValue9
  t20 := Tryd.underlying20
  a20 := Tryd.isAgg20
  z20 := Tryd.sizeOf20
  v20 := Tryd.zeroValue20
  t21 := Tryd.underlying21
  a21 := Tryd.isAgg21
  z21 := Tryd.sizeOf21
  v21 := Tryd.zeroValue21
  t37 := Tryd.underlying38
  a37 := Tryd.isAgg38
  z37 := Tryd.sizeOf38
  v37 := Tryd.zeroValue38
  t46 := Tryd.underlying138
  a46 := Tryd.isAgg138
  z46 := Tryd.sizeOf138
  v46 := Tryd.zeroValue138
  t51 := Tryd.underlying148
  a51 := Tryd.isAgg148
  z51 := Tryd.sizeOf148
  v51 := Tryd.zeroValue148
  t53 := Tryd.underlying150
  a53 := Tryd.isAgg150
  z53 := Tryd.sizeOf150
  v53 := Tryd.zeroValue150
  t75 := Tryd.underlying99
  a75 := Tryd.isAgg99
  z75 := Tryd.sizeOf99
  v75 := Tryd.zeroValue99
  t76 := Tryd.underlying100
  a76 := Tryd.isAgg100
  z76 := Tryd.sizeOf100
  v76 := Tryd.zeroValue100
  t85 := Tryd.underlying160
  a85 := Tryd.isAgg160
  z85 := Tryd.sizeOf160
  v85 := Tryd.zeroValue160
  t127 := Tryd.underlying118
  a127 := Tryd.isAgg118
  z127 := Tryd.sizeOf118
  v127 := Tryd.zeroValue118
  t143 := Tryd.underlying184
  a143 := Tryd.isAgg184
  z143 := Tryd.sizeOf184
  v143 := Tryd.zeroValue184
  t145 := Tryd.underlying186
  a145 := Tryd.isAgg186
  z145 := Tryd.sizeOf186
  v145 := Tryd.zeroValue186
  t167 := Tryd.underlying159
  a167 := Tryd.isAgg159
  z167 := Tryd.sizeOf159
  v167 := Tryd.zeroValue159
  t168 := Tryd.underlying162
  a168 := Tryd.isAgg162
  z168 := Tryd.sizeOf162
  v168 := Tryd.zeroValue162
  t171 := Tryd.underlying151
  a171 := Tryd.isAgg151
  z171 := Tryd.sizeOf151
  v171 := Tryd.zeroValue151
  t173 := Tryd.underlying153
  a173 := Tryd.isAgg153
  z173 := Tryd.sizeOf153
  v173 := Tryd.zeroValue153
  t175 := Tryd.underlying171
  a175 := Tryd.isAgg171
  z175 := Tryd.sizeOf171
  v175 := Tryd.zeroValue171
  t210 := Tryd.underlying175
  a210 := Tryd.isAgg175
  z210 := Tryd.sizeOf175
  v210 := Tryd.zeroValue175
  t212 := Tryd.underlying168
  a212 := Tryd.isAgg168
  z212 := Tryd.sizeOf168
  v212 := Tryd.zeroValue168
  t213 := Tryd.underlying169
  a213 := Tryd.isAgg169
  z213 := Tryd.sizeOf169
  t232 := Tryd.underlying165
  a232 := Tryd.isAgg165
  z232 := Tryd.sizeOf165
  v232 := Tryd.zeroValue165
  t233 := Tryd.underlying166
  a233 := Tryd.isAgg166
  z233 := Tryd.sizeOf166
  v233 := Tryd.zeroValue166
  g15 := by kernel_rfl
  g16 := by kernel_rfl
  g17 := by kernel_rfl
  g18 := by kernel_rfl
  g19 := by kernel_rfl
  t80 := Tryd.underlying61
  a80 := Tryd.isAgg61
  z80 := Tryd.sizeOf61
  v80 := Tryd.zeroValue61
  i0 := by kernel_rfl
  i2 := by kernel_rfl
  i3 := by kernel_rfl
  i4 := by kernel_rfl
  i5 := by kernel_rfl
  i9 := by kernel_rfl
  i20 := by kernel_rfl
  i21 := by kernel_rfl
  i37 := by kernel_rfl
  i46 := by kernel_rfl
  i51 := by kernel_rfl
  i53 := by kernel_rfl
  i75 := by kernel_rfl
  i76 := by kernel_rfl
  i80 := by kernel_rfl
  i85 := by kernel_rfl
  i127 := by kernel_rfl
  i143 := by kernel_rfl
  i145 := by kernel_rfl
  i167 := by kernel_rfl
  i168 := by kernel_rfl
  i171 := by kernel_rfl
  i173 := by kernel_rfl
  i175 := by kernel_rfl
  i210 := by kernel_rfl
  i212 := by kernel_rfl
  i232 := by kernel_rfl
  i233 := by kernel_rfl
  m15 := by kernel_rfl
  m16 := by kernel_rfl
  m17 := by kernel_rfl
  m18 := by kernel_rfl
  m19 := by kernel_rfl
  c0 := by kernel_rfl
  c2 := by kernel_rfl
  c3 := by kernel_rfl
  c4 := by kernel_rfl
  c5 := by kernel_rfl
  c9 := by kernel_rfl
  c20 := by kernel_rfl
  c21 := by kernel_rfl
  c37 := by kernel_rfl
  c46 := by kernel_rfl
  c51 := by kernel_rfl
  c53 := by kernel_rfl
  c75 := by kernel_rfl
  c76 := by kernel_rfl
  c80 := by kernel_rfl
  c85 := by kernel_rfl
  c127 := by kernel_rfl
  c143 := by kernel_rfl
  c145 := by kernel_rfl
  c167 := by kernel_rfl
  c168 := by kernel_rfl
  c171 := by kernel_rfl
  c173 := by kernel_rfl
  c175 := by kernel_rfl
  c210 := by kernel_rfl
  c212 := by kernel_rfl
  c213 := by kernel_rfl
  c232 := by kernel_rfl
  c233 := by kernel_rfl }
/-- The library's two errors lie in their variables. -/
def NumErrAt (w : World) : Prop := (∃ t p, w.cell? ⟨4, 0, none⟩ = some (.iface t p)) ∧ ∃ t p, w.cell? ⟨5, 0, none⟩ = some (.iface t p)
theorem NumErrAt.below {w w' : World} {B : Nat} (h : NumErrAt w) (hB : w.heap.size ≤ B) (hb : Below B w w') : NumErrAt w' := by
  obtain ⟨⟨t, p, h1⟩, ⟨u, q, h2⟩⟩ := h
  exact ⟨⟨t, p, (hb.cell (p := ⟨_, 0, none⟩) (Nat.lt_of_lt_of_le (World.block_lt_of_cell? _ _ h1) hB)).trans h1⟩, ⟨u, q, (hb.cell (p := ⟨_, 0, none⟩) (Nat.lt_of_lt_of_le (World.block_lt_of_cell? _ _ h2) hB)).trans h2⟩⟩
/-- What Atoi hands back. -/
def RetAtoi (s : ByteArray) (w : World) (e : Ending) (w' : World) : Prop :=
  Below w.heap.size w w' ∧ ((∃ v : Int, Lib.atoiAll s.data.toList = .ok v ∧ e = .returned (.tuple #[.int .i64 v, .nilIface])) ∨ ((∀ v, Lib.atoiAll s.data.toList ≠ .ok v) ∧ ∃ x t p, e = .returned (.tuple #[.int .i64 x, .iface t p])))
theorem atoi_any (s : ByteArray) (w : World) (hs : s.size ≤ 1048576) (hE : NumErrAt w) : Calls Tryd.prog 129 #[.string s] w (RetAtoi s w) := by
  obtain ⟨⟨t, p, h1⟩, ⟨u, q, h2⟩⟩ := hE
  cases h : Lib.atoiAll s.data.toList
  case ok v =>
    refine (Any.strconv_Atoi_ok laysC172 s (by omega) v h w).mono ?_
    rintro e w' ⟨rfl, hw⟩
    refine ⟨?_, .inl ⟨v, h, rfl⟩⟩
    rcases hw with rfl | ⟨z, rfl⟩
    · exact Below.refl _ _
    · exact Lib.bytesWorld_below w _ z
  case range =>
    refine (Any.strconv_Atoi_range laysC172 s (by omega) h _ w h2 (.inr ⟨_, _, rfl⟩)).mono ?_
    rintro e w' ⟨N, rfl, _, _, hb⟩
    exact ⟨hb, .inr ⟨fun v hv => (by rw [h] at hv; cases hv), _, _, _, rfl⟩⟩
  refine (Any.strconv_Atoi_syntax laysC172 s (by omega) h _ w h1 (.inr ⟨_, _, rfl⟩)).mono ?_
  rintro e w' ⟨N, rfl, _, _, hb⟩
  exact ⟨hb, .inr ⟨fun v hv => (by rw [h] at hv; cases hv), _, _, _, rfl⟩⟩
end Go.Proofs.YtabdbgnkiebcdaaDoor

namespace Go.Proofs.YtabdbgnkiebcdaaDoor
set_option linter.unusedVariables false
set_option linter.unusedSimpArgs false
open Go.RowKit
attribute [local go_sem] Oper.semAt_some wide_fn wide_round_fn

theorem below_inside {n : Nat} {V : Nat → Prop} {a b c : World} (h : Below n a b) (hin : Inside V b c) (hv : ∀ k, k < n → V k) : Below n a c :=
  ⟨hin.os.trans h.os, hin.tape.trans h.tape, hin.output.trans h.output, Nat.le_trans h.size hin.size, fun k hk => (hin.block k (hv k hk)).trans (h.block k hk)⟩
theorem frozen_inside {V : Nat → Prop} {a b : World} (hin : Inside V a b) {p : Addr} (hv : V p.block) : b.frozen? p = a.frozen? p := World.frozen?_of_block (w := a) (hin.block p.block hv)
theorem run_loadVar_one {P : Program} (w : World) (ty : TypeId) (d : TypeDesc) (p : Addr) (v : Value) (hu : P.underlying ty = some d) (hd : (match d with | .struct _ | .array _ _ => true | _ => false) = false) (hc : w.cell? p = some v) : (loadVar ty p).run P w = .ok v w := by
  have hagg : (isAgg ty).run P w = .ok false w := by
    unfold isAgg
    rw [Sem.run_bind, run_underlying hu w]
    cases d <;> simp_all
  simp [loadVar, Sem.run_bind, hagg, hc]
theorem results_cells {P : Program} {fn : Func} {p q : Tmp} {ty ty' : TypeId} (h : fn.results = #[.cell p ty, .cell q ty']) (tmps : Array Value) (w : World) (g g' : Addr) (v u : Value) (d d' : TypeDesc)
    (hp : tmps.getD p undef = .pointer (some g)) (hq : tmps.getD q undef = .pointer (some g')) (hu : P.underlying ty = some d) (hd : (match d with | .struct _ | .array _ _ => true | _ => false) = false) (hu' : P.underlying ty' = some d') (hd' : (match d' with | .struct _ | .array _ _ => true | _ => false) = false)
    (h1 : w.cell? g = some v) (h2 : w.cell? g' = some u) : (results fn tmps).run P w = .ok (.tuple #[v, u]) w := by
  have hp' : tmps[p]?.getD undef = .pointer (some g) := by simpa using hp
  have hq' : tmps[q]?.getD undef = .pointer (some g') := by simpa using hq
  simp [results, h, hp', hq', asAddr, run_loadVar_one w ty d g v hu hd h1, run_loadVar_one w ty' d' g' u hu' hd' h2]

/-- What a row of one's own needs no room for: it has some. -/
theorem ownI_of_owns {w : World} {base tI n cap g lo : Nat} {X : Nat → Int} (h : w.ownsRow base tI 1 (.slice (some ⟨g, 0, none⟩) n cap) n (cellsL n X)) (hb : lo ≤ base) : OwnI w lo w.heap.size (some ⟨g, 0, none⟩) n X :=
  .inr ⟨g, Nat.le_trans hb (owns_cap h).2.1, (owns_cap h).2.2, OwnR.of_owns h⟩

theorem results_cell1 {P : Program} {fn : Func} {p : Tmp} {ty : TypeId} (h : fn.results = #[.cell p ty]) (tmps : Array Value) (w : World) (g : Addr) (v : Value) (d : TypeDesc)
    (hp : tmps.getD p undef = .pointer (some g)) (hu : P.underlying ty = some d) (hd : (match d with | .struct _ | .array _ _ => true | _ => false) = false) (h1 : w.cell? g = some v) : (results fn tmps).run P w = .ok v w := by
  have hp' : tmps[p]?.getD undef = .pointer (some g) := by simpa using hp
  simp [results, h, hp', asAddr, run_loadVar_one w ty d g v hu hd h1]
theorem frozen_set {w : World} {a b : Addr} {v : Value} (h : w.frozen? b = false) : (w.setCell a v).frozen? b = false := by rw [World.frozen?_setCell]; exact h
section
variable {P : Program} {N : Nat} {Fc : Fence} {ops : Array Oper} {rest : List Oper} {a : Act} {w : World} {Q : Exit → Act → World → Prop} {d : Option Nat} {ot : TypeId} {pos : String} {aft : Array Edge}
/-- A parameter that is an array or a struct: a new block of its cells, in a fenced walk. -/
theorem arrI_box (n ty : Nat) (x : Operand) (F : Nat → Int) (hx : a.eval x = .agg (cellsV n F))
    (h : ∀ w1, ArrAt w1 w.heap.size ty n F → w1.heap.size = w.heap.size + 1 → Below w.heap.size w w1 → wpListIn Fc N P ops Q rest (a.put d (.pointer (some ⟨w.heap.size, 0, none⟩))) w1) :
    wpListIn Fc N P ops Q (⟨d, Op.box ty x, ot, pos, aft, none⟩ :: rest) a w :=
  wpListIn_step fun K hK => by
    rw [if_pos (show Region.wanted (⟨d, Op.box ty x, ot, pos, aft, none⟩ : Oper) (yielded ops a.tmps) = true from rfl)]
    refine wpIn_of_run (by intro c hc; cases hc) (by simp [Oper.about]) (v := .pointer (some ⟨w.heap.size, 0, none⟩)) (w' := w.alloc (.cells (cellsV n F) ty)) ?_ (hK _ _ (h _ (ArrAt.new w ty n _) (by simp) ((Below.refl _ _).alloc (Nat.le_refl _) _)))
    unfold execOp
    simp [Instr.box, hx, newVar, newRow, newObj, Value.cells]
    rfl
theorem wpListIn_append_lies {o : Oper} {w : World} (hgd : o.guard = none) (s x : Operand) (t : TypeId)
    (ho : o.op = .call { callee := .builtin .append, args := #[s, x], argTypes := #[t, t] })
    (base : Nat) (e : TypeId) (i : TypeInfo) (z : Value) (size bytes : Nat) (ht : P.underlying t = some (.slice e)) (hi : P.info? e = some i) (hz : i.zero = some z)
    (hsize : i.size = size) (hby : i.bytes = bytes) (hzs : z.cells.size = size) (hsz : 0 < size)
    (v : Value) (n : Nat) (xs : List Value) (hs : a.eval s = v) (hown : w.ownsRow base e size v n xs)
    (ad : Addr) (m c : Nat) (news : List Value) (hx : a.eval x = .slice (some ad) m c) (hl : news.length = m * size) (hnews : ∀ j u, news[j]? = some u → w.cell? (ad.add j) = some u) (h1 : ∀ u ∈ news, u.oneCell' = true)
    (hm : 0 < m) (h63 : n + m ≤ maxLen) (hbytes : (n + m) * bytes ≤ 140737488355328) (hbase : base ≤ w.heap.size) (H : Nat) (hH : w.heap.size = H)
    (h : ∀ g cap w', w'.ownsRow base e size (.slice (some ⟨g, 0, none⟩) (n + m) cap) (n + m) (xs ++ news) → w.grownBy w' v.ownBlock → (v.ownBlock = some g ∨ g = H) → g < w'.heap.size → wpListIn Fc N P ops Q rest (a.put o.dst (.slice (some ⟨g, 0, none⟩) (n + m) cap)) w') :
    wpListIn Fc N P ops Q (o :: rest) a w := by
  refine wpListIn_plain hgd fun K hK => ?_
  obtain ⟨g, cap, w', hr, h2, h3, h4, h5⟩ := run_append_lies (P := P) (w := w) t o.type base e i z size bytes ht hi hz hsize hby hzs hsz v n xs hown ad m c news hl hnews h1 hm h63 hbytes hbase H hH
  unfold Oper.wpIn
  refine ⟨by simp [Oper.about, ho, resolve, Target.leads, Sem.run_pure], ?_⟩
  rw [Oper.semAt_plain Fc _ _ (by rw [ho]; intro c hc'; cases hc')]
  simp [execOp, ho, resolve, invoke, builtin, hs, hx, hr, Result.andThen]
  exact hK _ _ (h g cap w' h2 h3 h4 h5)
end
/-- The mark of a range over a function in a frame. -/
def markD (D : Nat) : Deferred := { target := .collected D, args := #[] }
/-- A frame leaves over marks whose rounds have deferred nothing. -/
theorem leaves_marks {F : Fence} {n : Nat} {P : Program} {fn : Func} {tmps : Array Value} {R : Ending → World → Prop} {u : FrameMode} {V : Nat → Prop} (hu : u ≠ .run) : ∀ (Ds : List Nat) (W : World), Ds.Nodup → (∀ D, D ∈ Ds → W.heap[D]? = some (.deferred (some []))) → (∀ D, D ∈ Ds → ¬ V D) →
    (∀ W', Inside V W W' → LeavesInM F n P fn tmps R [] u W') → LeavesInM F n P fn tmps R (Ds.map markD) u W
  | [], W, _, _, _, h => h W (Inside.refl _ _)
  | D :: Ds, W, hn, hW, hV, h => by
    rw [List.nodup_cons] at hn
    refine ⟨hu, .inl ⟨D, _, rfl, run_takeDeferred (hW D (by simp)), leaves_marks hu Ds _ hn.2 (fun E hE => ?_) (fun E hE => hV E (by simp [hE])) (fun W' hin => ?_)⟩⟩
    · exact (World.putObj_heap_other (fun e => hn.1 (by rw [← e]; exact hE))).trans (hW E (by simp [hE]))
    · exact h W' ((Inside.putObj (hV D (by simp)) _).trans hin)

end Go.Proofs.YtabdbgnkiebcdaaDoor

namespace Go.Proofs.YtabdbgnkiebcdaaDoor
set_option linter.unusedVariables false
set_option linter.unusedSimpArgs false
open Go.RowKit
attribute [local go_sem] Oper.semAt_some wide_fn wide_round_fn

/-- What numbersBehind hands back. -/
def RetNums (l : List UInt8) (w : World) (e : Ending) (w' : World) : Prop :=
  ∃ (a : Option Addr) (m c : Nat) (X : Nat → Int) (b : Bool), e = .returned (.tuple #[.slice a m c, .bool b]) ∧ Below w.heap.size w w' ∧ m ≤ l.length + 1 ∧ Rd w' a m X ∧
    (b = true ∧ numsOf (splitB (behindB l)) = some (numsL m X) ∨ b = false ∧ numsOf (splitB (behindB l)) = none)

/-- What holds between the rounds. -/
def NumJ (s q : Nat) (w : World) (V : Nat → Prop) (pre : List (List UInt8)) (Wx : World) : Prop :=
  ∃ (rv : Value) (L : List Int), V = (fun k => k < s + 2 ∨ k = q ∨ rv.ownBlock = some k) ∧ numsOf pre = some L ∧ Below s w Wx ∧ Wx.cell? ⟨s, 0, none⟩ = some (.slice none 0 0) ∧ Wx.frozen? ⟨s, 0, none⟩ = false ∧ Wx.cell? ⟨s + 1, 0, none⟩ = some (.bool false) ∧ Wx.frozen? ⟨s + 1, 0, none⟩ = false ∧
    Wx.cell? ⟨q, 0, none⟩ = some rv ∧ Wx.frozen? ⟨q, 0, none⟩ = false ∧ Wx.ownsRow (q + 1) 3 1 rv L.length (L.map (Value.int .i64))
/-- What holds where a round has found what is no number. -/
def NumX (s q : Nat) (w : World) (c : Code) (V : Nat → Prop) (pre : List (List UInt8)) (Wx : World) : Prop :=
  c = .ret ∧ V = (fun k => k < s + 2) ∧ (∃ P D, pre = P ++ [D] ∧ ∀ v, Lib.atoiAll D ≠ .ok v) ∧ Below s w Wx ∧ Wx.cell? ⟨s, 0, none⟩ = some (.slice none 0 0) ∧ Wx.cell? ⟨s + 1, 0, none⟩ = some (.bool false)

theorem owns_belowN {w w' : World} {base e n : Nat} {v : Value} {xs : List Value} (h : w.ownsRow base e 1 v n xs) (hb : Below w.heap.size w w') : w'.ownsRow base e 1 v n xs := by
  obtain ⟨k1, (k2 | ⟨g, cap, cur, k3, k4, k5, k6⟩)⟩ := h
  · exact ⟨k1, .inl k2⟩
  · exact ⟨k1, .inr ⟨g, cap, cur, k3, k4, (hb.block g (Array.getElem?_eq_some_iff.1 k5).1).trans k5, k6⟩⟩
theorem owns_inside {V : Nat → Prop} {A B : World} {base e n : Nat} {v : Value} {xs : List Value} (h : A.ownsRow base e 1 v n xs) (hin : Inside V A B) (hV : ∀ k, v.ownBlock = some k → V k) : B.ownsRow base e 1 v n xs := by
  obtain ⟨k1, (k2 | ⟨g, cap, cur, k3, k4, k5, k6⟩)⟩ := h
  · exact ⟨k1, .inl k2⟩
  · exact ⟨k1, .inr ⟨g, cap, cur, k3, k4, (hin.block g (hV g (by rw [k3]; rfl))).trans k5, k6⟩⟩

theorem own_sl {w : World} {base e n : Nat} {v : Value} {xs : List Value} (h : w.ownsRow base e 1 v n xs) : ∃ a c, v = .slice a n c := by
  obtain ⟨_, (⟨h1, h0⟩ | ⟨g, cap, _, hv, _⟩)⟩ := h
  · exact ⟨none, 0, by rw [h1, h0]⟩
  · exact ⟨some ⟨g, 0, none⟩, cap, hv⟩
theorem rd_list {w : World} {base : Nat} {v : Value} {L : List Int} {a : Option Addr} {n c : Nat} (h : w.ownsRow base 3 1 v L.length (L.map (Value.int .i64))) (hv : v = .slice a n c) : n = L.length ∧ Rd w a L.length (nth L) := by
  have h6 := h
  rw [show L.map (Value.int .i64) = cellsL L.length (nth L) from by
    unfold cellsL nth
    apply List.ext_getElem
    · simp
    · intro i h1 h2
      simp at h1
      simp [List.getD_eq_getElem?_getD, List.getElem?_eq_getElem h1]] at h6
  obtain ⟨_, (⟨h1, h0⟩ | ⟨g, cap, _, hv2, _⟩)⟩ := id h6
  · rw [hv] at h1
    injection h1 with e1 e2 e3
    exact ⟨by omega, fun k hk => absurd hk (by rw [h0]; exact Nat.not_lt_zero _)⟩
  · rw [hv] at hv2
    injection hv2 with e1 e2 e3
    subst hv
    subst e1 e2
    rw [e3] at h6
    exact ⟨rfl, owns_rd h6⟩
theorem splitB_mem : ∀ (l a : List UInt8), a ∈ splitB l → a.length ≤ l.length := by
  intro l
  induction l with
  | nil => intro a ha; simp [splitB] at ha; subst ha; exact Nat.le_refl _
  | cons c r ih =>
    intro a ha
    unfold splitB at ha
    split at ha
    · rcases List.mem_cons.1 ha with ha | ha
      · subst ha; simp
      · have := ih a ha; simp; omega
    · split at ha
      · rw [List.mem_singleton] at ha; subst ha; simp
      · rename_i b m hm
        rcases List.mem_cons.1 ha with ha | ha
        · subst ha
          have := ih b (by rw [hm]; exact List.mem_cons_self ..)
          simp; omega
        · have := ih a (by rw [hm]; exact List.mem_cons_of_mem _ ha)
          simp; omega
theorem numsL_nth (L : List Int) : numsL L.length (nth L) = L := by
  unfold numsL nth
  apply List.ext_getElem
  · simp
  · intro i h1 h2
    simp [List.getD_eq_getElem?_getD, List.getElem?_eq_getElem h2]
theorem numJ_caller (s q : Nat) (w : World) : CallerV (fun _ => False) (NumJ s q w) := by
  constructor
  · rintro V pre Wx ⟨rv, L, rfl, _, h1, h2, h3, h4, h5, h6, h7, h8⟩ k (hk | hk | hk)
    · exact Nat.lt_of_le_of_lt (Nat.le_of_lt_succ hk) (World.block_lt_of_cell? _ _ h4)
    · subst hk; exact World.block_lt_of_cell? _ _ h6
    · exact (h8.lt k hk).2
  · rintro V pre A B ⟨rv, L, rfl, h0, h1, h2, h3, h4, h5, h6, h7, h8⟩ hin
    have hin' : Inside (fun k => k < s + 2 ∨ k = q ∨ rv.ownBlock = some k) A B := hin.mono fun k hk => .inl hk
    exact ⟨rv, L, rfl, h0, below_inside h1 hin' (fun k hk => .inl (by omega)), hin'.cell (p := ⟨s, 0, none⟩) (.inl (show s < s + 2 by omega)) h2, (frozen_inside hin' (p := ⟨s, 0, none⟩) (.inl (show s < s + 2 by omega))).trans h3, hin'.cell (p := ⟨s + 1, 0, none⟩) (.inl (show s + 1 < s + 2 by omega)) h4, (frozen_inside hin' (p := ⟨s + 1, 0, none⟩) (.inl (show s + 1 < s + 2 by omega))).trans h5,
      hin'.cell (p := ⟨q, 0, none⟩) (.inr (.inl rfl)) h6, (frozen_inside hin' (p := ⟨q, 0, none⟩) (.inr (.inl rfl))).trans h7, owns_inside h8 hin' (fun k hk => .inr (.inr hk))⟩
theorem numX_caller (s q : Nat) (w : World) (c : Code) : CallerV (fun _ => False) (NumX s q w c) := by
  constructor
  · rintro V pre Wx ⟨rfl, rfl, _, h1, h2, h4⟩ k hk
    exact Nat.lt_of_le_of_lt (Nat.le_of_lt_succ hk) (World.block_lt_of_cell? _ _ h4)
  · rintro V pre A B ⟨rfl, rfl, h0, h1, h2, h4⟩ hin
    have hin' : Inside (fun k => k < s + 2) A B := hin.mono fun k hk => .inl hk
    exact ⟨rfl, rfl, h0, below_inside h1 hin' (fun k hk => by show k < s + 2; omega), hin'.cell (p := ⟨s, 0, none⟩) (show s < s + 2 by omega) h2, hin'.cell (p := ⟨s + 1, 0, none⟩) (show s + 1 < s + 2 by omega) h4⟩

set_option maxRecDepth 100000 in
set_option maxHeartbeats 6400000 in
theorem numbers_any (t : ByteArray) (w : World) (hs : t.size ≤ 1048576) (hE : NumErrAt w) :
    Calls Tryd.prog 93 #[.string t] w (RetNums t.data.toList w) := by
  have hl : t.data.toList.length = t.size := by rw [Array.length_toList]; rfl
  have hbl := behind_len t.data.toList
  have hspl := splitB_len (behindB t.data.toList)
  obtain ⟨i0, hi, hz0, hz1, hz2⟩ := info_parts Tryd.infoInt
  have CT := Lib.hid (cut_any t ((w.alloc (.cells #[.slice none 0 0] 32)).alloc (.cells #[.bool false] 4)) hs)
  have HE := Lib.hid hE
  refine (callsIn_wide (n := 9)).1 ?_
  refine callsIn_of_wp_marks Tryd.func93 rfl trivial ?_ rfl
  simp only [Tryd.ntmps93, List.size_toArray, List.length_cons, List.length_nil, Nat.reduceAdd, Nat.reduceSub, Array.replicate_succ, Array.replicate_zero, List.push_toArray, List.append_toArray, List.nil_append, List.cons_append]
  obtain ⟨r, hr⟩ : ∃ r, r = behindB t.data.toList := ⟨_, rfl⟩
  have QR := Lib.hid hr
  rw [← hr] at hbl hspl
  have HL := Lib.hid (And.intro hl (And.intro hbl hspl))
  clear hr hE hl hbl hspl
  gi_wp2_with (first
    | (gi_at_call 127; refine (callsIn_wide.2 CT.out).mono ?_; rintro e w2 ⟨⟨b1, b3, rfl⟩, hb2⟩; rw [← QR.out]; simp only [World.size_alloc] at hb2; have hz2' : w.heap.size + 1 + 1 ≤ w2.heap.size := by have := hb2.size; simpa using this)
    | (gi_at_call 128; refine (callsIn_wide.2 (splitSeqS_any (strU r) _)).mono ?_; rintro e w4 ⟨rfl, hw4⟩; have HW4 := Lib.hid hw4; clear hw4))
  obtain ⟨s, hsw⟩ : ∃ s, s = w.heap.size := ⟨_, rfl⟩
  obtain ⟨q, hq⟩ : ∃ q, q = w2.heap.size := ⟨_, rfl⟩
  have hqs : s + 2 ≤ q := by omega
  have hb4 : Below q w2 w4 := by rw [HW4.out, hq]; exact below_alloc (below_alloc (below_alloc (below_alloc (Below.refl _ w2) _) _) _) _
  have hs4 : w4.heap.size = q + 4 := by rw [HW4.out, hq]; simp
  have B4 := Lib.hid (hb2.trans (hb4.mono (by omega)))
  have C0 := Lib.hid (show w4.cell? ⟨s, 0, none⟩ = some (.slice none 0 0) from (B4.out.cell (p := ⟨s, 0, none⟩) (show s < w.heap.size + 1 + 1 by omega)).trans (by
    rw [hsw, World.cell?_of_block (w := w.alloc _) (Below.heap_alloc _ _ _ (by simp))]; simp))
  have C1 := Lib.hid (show w4.cell? ⟨s + 1, 0, none⟩ = some (.bool false) from (B4.out.cell (p := ⟨s + 1, 0, none⟩) (show s + 1 < w.heap.size + 1 + 1 by omega)).trans (by
    rw [hsw]; have := World.cell?_alloc_new (w.alloc (.cells #[.slice none 0 0] 32)) #[.bool false] 4 0; simp))
  have F0 := Lib.hid (show w4.frozen? ⟨s, 0, none⟩ = false by
    rw [World.frozen?_of_block (w := (w.alloc _).alloc _) (B4.out.block s (by omega)), hsw, World.frozen?_of_block (w := w.alloc _) (Below.heap_alloc _ _ _ (by simp))]; simp)
  have F1 := Lib.hid (show w4.frozen? ⟨s + 1, 0, none⟩ = false by
    rw [World.frozen?_of_block (w := (w.alloc _).alloc _) (B4.out.block (s + 1) (by omega)), hsw]; simp)
  have BB := Lib.hid (show Below s w w4 by
    rw [hsw]; exact (below_alloc (below_alloc (Below.refl _ w) _) _).trans (B4.out.mono (by omega)))
  have HQ := Lib.hid (show w4.heap[q]? = some (.cells #[.slice none 0 0] 32 (0, 0)) by
    rw [HW4.out, hq, Below.heap_alloc _ _ _ (by simp; omega), Below.heap_alloc _ _ _ (by simp; omega), Below.heap_alloc _ _ _ (by simp)]; exact heap_alloc_last w2 _)
  have HS := Lib.hid (show w4.heap[q + 1]? = some (.cells #[.string (strU r)] 9 (0, 0)) by
    rw [HW4.out, hq, Below.heap_alloc _ _ _ (by simp), Below.heap_alloc _ _ _ (by simp)]
    have h := heap_alloc_last (w2.alloc (.cells #[.slice none 0 0] 32)) (.cells #[.string (strU r)] 9)
    rwa [World.size_alloc] at h)
  have C2 := Lib.hid (show w4.cell? ⟨q + 1 + 1, 0, none⟩ = some (.string ⟨#[32]⟩) by
    have h1 : w4.heap[q + 1 + 1]? = some (.cells #[.string ⟨#[32]⟩] 9 (0, 0)) := by
      rw [HW4.out, hq, Below.heap_alloc _ _ _ (by simp)]
      have h := heap_alloc_last ((w2.alloc (.cells #[.slice none 0 0] 32)).alloc (.cells #[.string (strU r)] 9)) (.cells #[.string ⟨#[32]⟩] 9)
      rwa [World.size_alloc, World.size_alloc] at h
    exact (Lib.cell_of_heap h1 0).trans rfl)
  have C3 := Lib.hid (show w4.cell? ⟨q + 1 + 1 + 1, 0, none⟩ = some (.int .i64 0) by
    have h1 : w4.heap[q + 1 + 1 + 1]? = some (.cells #[.int .i64 0] 3 (0, 0)) := by
      rw [HW4.out, hq]
      have h := heap_alloc_last (((w2.alloc (.cells #[.slice none 0 0] 32)).alloc (.cells #[.string (strU r)] 9)).alloc (.cells #[.string ⟨#[32]⟩] 9)) (.cells #[.int .i64 0] 3)
      rwa [World.size_alloc, World.size_alloc, World.size_alloc] at h
    exact (Lib.cell_of_heap h1 0).trans rfl)
  have CQ := Lib.hid (show w4.cell? ⟨q, 0, none⟩ = some (.slice none 0 0) from (Lib.cell_of_heap HQ.out 0).trans rfl)
  have FQ := Lib.hid (show w4.frozen? ⟨q, 0, none⟩ = false from Lib.frozen_of_heap HQ.out 0)
  have hsw4 : s ≤ w4.heap.size := by omega
  rw [← hsw, ← hq]
  have HSW := Lib.hid hsw
  have S4 := Lib.hid hs4
  have HLr := HL.out
  clear hsw hq hb4 hs4 hb2 hz2' B4 HQ
  refine wp_seqW (av := strV) (gf := 166) (lb := #[.pointer (some ⟨q + 1 + 1, 0, none⟩), .pointer (some ⟨q + 1, 0, none⟩), .pointer (some ⟨q + 1 + 1 + 1, 0, none⟩)]) rfl (enters_of Tryd.func166 (by kernel_rfl) rfl) (fun _ => rfl) (R := SplR (q + 1)) (LL := splitB r)
    (seq_split (q + 1) r w4 (by omega) HS.out C2.out C3.out) (fun k => k < s + 2 ∨ k = q ∨ (Value.slice none 0 0).ownBlock = some k) (fun k hk => ⟨fun h => ?hv, ?hk⟩)
    (NumJ s q w) (NumX s q w) (fun _ => False) (fun k hk => hk.elim) (fun k _ h => h) (numJ_caller s q w) (numX_caller s q w) ⟨.slice none 0 0, [], rfl, rfl, BB.out, C0.out, F0.out, C1.out, F1.out, CQ.out, FQ.out, ⟨rfl, .inl ⟨rfl, rfl⟩⟩⟩
    (fun v a' _ => a' = { tmps := #[.string t, undef, .pointer (some ⟨s, 0, none⟩), .pointer (some ⟨s + 1, 0, none⟩), .string b1, .string (strU r), .bool b3, .pointer (some ⟨q, 0, none⟩), .string (strU v), undef, undef, .tuple #[.string b1, .string (strU r), .bool b3], .string t, .tuple #[.string b1, .string (strU r), .bool b3], .string b1, .string (strU r), .bool b3, .string (strU r),
      .func (.func 166) #[] #[.pointer (some ⟨q + 1 + 1, 0, none⟩), .pointer (some ⟨q + 1, 0, none⟩), .pointer (some ⟨q + 1 + 1 + 1, 0, none⟩)], .string (strU v), undef, undef, undef, undef, undef, undef, undef, undef, undef, undef, undef, undef], defers := [] })
    (fun v a' W l r o h _ => h) ?assign ?body ?done ?stop
  case hv =>
    rcases h with h | h | h
    · rcases hk with hk | hk | hk <;> omega
    · rcases hk with hk | hk | hk <;> omega
    · cases h
  case hk =>
    have := S4.out
    rcases hk with hk | hk | hk <;> omega
  case assign =>
    intro l' v Wx K hK
    gi_wp2
    exact hK _ _ (Outside.refl _ _) (by simp [strV])
  case body =>
    rintro l' V pre D a' Wx ⟨rv, L, rfl, h0, h1, h2, h3, h4, h5, h6, h7, h8⟩ hpre hV rfl
    have H0 := Lib.hid h0
    have B1 := Lib.hid h1
    have OW := Lib.hid h8
    have C2' := Lib.hid h2
    have F3 := Lib.hid h3
    have C4 := Lib.hid h4
    have F5 := Lib.hid h5
    have C6 := Lib.hid h6
    have F7 := Lib.hid h7
    have hLn := (nums_i64 _ _ h0).1
    have hpl := hpre.length_le
    rw [List.length_append, List.length_singleton] at hpl
    have hLb : L.length ≤ 1048577 := by omega
    clear hLn
    have hDl : D.length ≤ r.length := splitB_mem r D (hpre.subset (by simp))
    have AT := Lib.hid (atoi_any (strU D) Wx (by rw [strU_size]; omega) (HE.out.below (by rw [← HSW.out]; exact Nat.le_refl _) h1))
    unfold RetAtoi at AT
    rw [strU_list] at AT
    have hql : q < Wx.heap.size := World.block_lt_of_cell? _ _ h6
    have hsl : s + 1 < Wx.heap.size := World.block_lt_of_cell? _ _ h4
    have hBx := h1.size
    have HPRE := Lib.hid hpre
    by_cases hok : ∃ v, Lib.atoiAll D = .ok v
    · obtain ⟨v, hv⟩ := hok
      have HV := Lib.hid hv
      have AT2 := Lib.hid (show Calls Tryd.prog 129 #[.string (strU D)] Wx fun e w' => e = .returned (.tuple #[.int .i64 v, .nilIface]) ∧ Below Wx.heap.size Wx w' from AT.out.mono fun e w' h => by
        obtain ⟨hb, (⟨v', h1, rfl⟩ | ⟨hno, _⟩)⟩ := h
        · rw [hv] at h1; injection h1 with h1; subst h1; exact ⟨rfl, hb⟩
        · exact absurd hv (hno v))
      clear AT h0 h1 h8 hpre hV hv h2 h3 h4 h5
      gi_wp2_with (first
        | (gi_at_call 129; refine (callsIn_wide.2 AT2.out).mono ?_; rintro e w5 ⟨rfl, hb5⟩; have B5 := Lib.hid hb5; have hs5 := hb5.size; have c6 : w5.cell? ⟨q, 0, none⟩ = some rv := (hb5.cell (p := ⟨q, 0, none⟩) hql).trans C6.out; have f6 : w5.frozen? ⟨q, 0, none⟩ = false := (World.frozen?_of_block (w := Wx) (hb5.block _ hql)).trans F7.out; have O5 := Lib.hid (owns_belowN OW.out hb5); clear hb5 h6 h7)
        | (gi_at_builtin; go_loud (refine wpListIn_append_lies (by rfl) (.tmp 27) (.tmp 29) 32 (by rfl) (q + 1) 3 i0 (.int .i64 0) 1 8 Tryd.underlying32 hi hz0 hz1 hz2 (by rfl) (by decide) rv L.length (L.map (Value.int .i64)) (by rfl) (O5.out.alloc _) ⟨_, 0, none⟩ 1 1 [.int .i64 v] (by rfl) (by rfl) (news_one (by first | (simp; done) | exact World.cell?_alloc_new w5 _ _ 0)) (fun u hu => by rw [List.mem_singleton.1 hu]; rfl) (by omega) (by unfold maxLen; omega) (by omega) (by simp; omega) _ rfl ?_; intro g2 cap2 w6 hown6 hgrow6 hat6 hlt6; have N6 := Lib.hid hown6; have G6 := Lib.hid hgrow6; have A6 := Lib.hid hat6; have nq : rv.ownBlock ≠ some q := fun e => (by have := (OW.out.lt q e).1; omega); have c7 : w6.cell? ⟨q, 0, none⟩ = some rv := (World.cell?_of_block (w := w5.alloc _) (hgrow6.block q (by simp; omega) (fun e => nq e.symm))).trans ((World.cell?_of_block (w := w5) (Below.heap_alloc _ _ _ (show q < w5.heap.size by omega))).trans c6); have f7 : w6.frozen? ⟨q, 0, none⟩ = false := (World.frozen?_of_block (w := w5.alloc _) (hgrow6.block q (by simp; omega) (fun e => nq e.symm))).trans ((World.frozen?_of_block (w := w5) (Below.heap_alloc _ _ _ (show q < w5.heap.size by omega))).trans f6); clear hown6 hgrow6 hat6 c6 f6)))
      have hcl : ∀ g, rv.ownBlock = some g → q + 1 ≤ g := fun g h => (OW.out.lt g h).1
      have BL := Lib.hid (show Below Wx.heap.size Wx (w5.alloc (.cells #[.int .i64 v] 3)) from below_alloc B5.out _)
      have hb6 : ∀ k, k < Wx.heap.size → rv.ownBlock ≠ some k → w6.heap[k]? = Wx.heap[k]? := fun k hk hn => (G6.out.block k (by simp; omega) (fun e => hn e.symm)).trans (BL.out.block k hk)
      have hc6 : ∀ k, k < q → (w6.setCell ⟨q, 0, none⟩ (.slice (some ⟨g2, 0, none⟩) (L.length + 1) cap2)).heap[k]? = Wx.heap[k]? := fun k hk => (Below.heap_setCell _ _ _ _ (by show k ≠ q; omega)).trans (hb6 k (by omega) (fun e => by have := hcl k e; omega))
      refine ⟨?_, fun k => k < s + 2 ∨ k = q ∨ (Value.slice (some ⟨g2, 0, none⟩) (L.length + 1) cap2).ownBlock = some k, ?_, .slice (some ⟨g2, 0, none⟩) (L.length + 1) cap2, L ++ [v], rfl, nums_snoc _ _ _ _ H0.out HV.out, ?_, ?_, ?_, ?_, ?_, ?_, ?_, ?_⟩
      · have V1 : Outside (fun k => k < s + 2 ∨ k = q ∨ rv.ownBlock = some k) Wx w6 := (Outside.of_below BL.out).trans' (Outside.of_grown (V := fun k => k < s + 2 ∨ k = q ∨ rv.ownBlock = some k) (row := rv.ownBlock) G6.out (fun k hk => .inr (.inr hk))) (fun _ _ h => h)
        exact V1.setCell (p := ⟨q, 0, none⟩) (.inr (.inl rfl)) _
      · rintro k (hk | hk | hk)
        · exact .inl (.inl hk)
        · exact .inl (.inr (.inl hk))
        · simp only [Value.ownBlock, Option.some.injEq] at hk
          subst hk
          rcases A6.out with h | h
          · exact .inl (.inr (.inr h))
          · right; simp at h; omega
      · have h9 := ((B1.out.trans (BL.out.mono (by omega))).grown G6.out (by simp; omega) (fun k hk => by have := hcl k hk; omega)).setCell (p := ⟨q, 0, none⟩) (show s ≤ q by omega) (.slice (some ⟨g2, 0, none⟩) (L.length + 1) cap2)
        exact h9
      · exact (World.cell?_of_block (a := ⟨s, 0, none⟩) (hc6 s (by omega))).trans C2'.out
      · exact (World.frozen?_of_block (a := ⟨s, 0, none⟩) (hc6 s (by omega))).trans F3.out
      · exact (World.cell?_of_block (a := ⟨s + 1, 0, none⟩) (hc6 (s + 1) (by omega))).trans C4.out
      · exact (World.frozen?_of_block (a := ⟨s + 1, 0, none⟩) (hc6 (s + 1) (by omega))).trans F5.out
      · exact World.cell?_setCell_same' _ _ _ (by rw [c7]; rfl)
      · exact frozen_set f7
      · have h9 := N6.out
        have hg := h9.lt g2 rfl
        have h10 := owns_at h9 (Below.heap_setCell w6 ⟨q, 0, none⟩ (.slice (some ⟨g2, 0, none⟩) (L.length + 1) cap2) g2 (by show g2 ≠ q; omega))
        rw [List.length_append, List.map_append]
        exact h10
    · have hno : ∀ v, Lib.atoiAll D ≠ .ok v := fun v h => hok ⟨v, h⟩
      have HNO := Lib.hid hno
      have AT2 := Lib.hid (show Calls Tryd.prog 129 #[.string (strU D)] Wx fun e w' => (∃ x t p, e = .returned (.tuple #[.int .i64 x, .iface t p])) ∧ Below Wx.heap.size Wx w' from AT.out.mono fun e w' h => by
        obtain ⟨hb, (⟨v', h1, _⟩ | ⟨_, h2⟩)⟩ := h
        · exact absurd h1 (hno v')
        · exact ⟨h2, hb⟩)
      clear AT h0 h1 h8 hpre hV hok hno
      gi_wp2_with (gi_at_call 129; refine (callsIn_wide.2 AT2.out).mono ?_; rintro e w5 ⟨⟨x, tt1, pp, rfl⟩, hb5⟩; have B5 := Lib.hid hb5; have hs5 := hb5.size; have c2 : w5.cell? ⟨s, 0, none⟩ = some (.slice none 0 0) := (hb5.cell (p := ⟨s, 0, none⟩) (by show s < Wx.heap.size; omega)).trans C2'.out; have f2 : w5.frozen? ⟨s, 0, none⟩ = false := (World.frozen?_of_block (w := Wx) (hb5.block s (by omega))).trans F3.out; have c4 : w5.cell? ⟨s + 1, 0, none⟩ = some (.bool false) := (hb5.cell (p := ⟨s + 1, 0, none⟩) hsl).trans C4.out; have f4 : w5.frozen? ⟨s + 1, 0, none⟩ = false := (World.frozen?_of_block (w := Wx) (hb5.block _ hsl)).trans F5.out; clear hb5 h2 h3 h4 h5 h6 h7)
      refine ⟨?_, fun k => k < s + 2, fun k hk => .inl (.inl hk), rfl, rfl, ⟨pre, D, rfl, HNO.out⟩, ?_, ?_, ?_⟩
      · exact ((Outside.of_below B5.out).setCell (p := ⟨s, 0, none⟩) (.inl (show s < s + 2 by omega)) _).setCell (p := ⟨s + 1, 0, none⟩) (.inl (show s + 1 < s + 2 by omega)) _
      · exact ((B1.out.trans (B5.out.mono (by omega))).setCell (p := ⟨s, 0, none⟩) (Nat.le_refl _) _).setCell (p := ⟨s + 1, 0, none⟩) (by show s ≤ s + 1; omega) _
      · rw [World.cell?_of_block (Below.heap_setCell _ _ _ _ (show s ≠ s + 1 by omega))]
        exact World.cell?_setCell_same' _ _ _ (by rw [c2]; rfl)
      · exact World.cell?_setCell_same' _ _ _ (by rw [World.cell?_of_block (Below.heap_setCell _ _ _ _ (show s + 1 ≠ s by omega)), c4]; rfl)
  case done =>
    rintro D V Wx hD hV hnD ⟨rv, L, rfl, h0, h1, h2, h3, h4, h5, h6, h7, h8⟩ hKD
    have HB := Lib.hid h1
    have H0 := Lib.hid h0
    have OW := Lib.hid h8
    have hLn := Lib.hid (nums_i64 _ _ h0).1
    obtain ⟨a9, c9, rfl⟩ := own_sl h8
    have RL := Lib.hid (rd_list h8 rfl).2
    have hDs : s + 2 ≤ D := by
      have : ¬ (D < s + 2 ∨ _) := hnD
      omega
    clear h0 h1 h8
    gi_wp2
    have hKD2 : ((Wx.setCell ⟨s, 0, none⟩ (.slice a9 L.length c9)).setCell ⟨s + 1, 0, none⟩ (.bool true)).heap[D]? = some (.deferred (some [])) :=
      ((Below.heap_setCell _ _ _ _ (show D ≠ s + 1 by omega)).trans (Below.heap_setCell _ _ _ _ (show D ≠ s by omega))).trans hKD
    refine ⟨by simp, .inl ⟨_, _, rfl, run_takeDeferred hKD2, ?_⟩⟩
    refine ⟨_, results_cells rfl _ _ ⟨s, 0, none⟩ ⟨s + 1, 0, none⟩ (.slice a9 L.length c9) (.bool true) _ _ rfl rfl Tryd.underlying32 rfl Tryd.underlying4 rfl ?_ ?_, a9, L.length, c9, nth L, true, rfl, ?_, ?_, ?_, .inl ⟨rfl, ?_⟩⟩
    · rw [World.cell?_of_block (World.putObj_heap_other (show s ≠ D by omega)), World.cell?_of_block (Below.heap_setCell _ _ _ _ (show s ≠ s + 1 by omega))]
      exact World.cell?_setCell_same' _ _ _ (by rw [h2]; rfl)
    · rw [World.cell?_of_block (World.putObj_heap_other (show s + 1 ≠ D by omega))]
      exact World.cell?_setCell_same' _ _ _ (by rw [World.cell?_of_block (Below.heap_setCell _ _ _ _ (show s + 1 ≠ s by omega)), h4]; rfl)
    · rw [← HSW.out]
      exact below_inside (V := fun k => k < s + 2) ((HB.out.setCell (p := ⟨s, 0, none⟩) (Nat.le_refl _) _).setCell (p := ⟨s + 1, 0, none⟩) (by show s ≤ s + 1; omega) _) (Inside.putObj (V := fun k => k < s + 2) (fun h => by have h' : D < s + 2 := h; omega) _) (fun k hk => show k < s + 2 by omega)
    · have := hLn.out; have := HL.out; omega
    · intro k hk
      obtain ⟨bb, oo, rfl, hc⟩ := RL.out k hk
      refine ⟨bb, oo, rfl, ?_⟩
      have hbb : bb ≠ s ∧ bb ≠ s + 1 ∧ bb ≠ D := by
        obtain ⟨_, (⟨e1, e2⟩ | ⟨g, cap, cur, e3, e4, e5, _⟩)⟩ := id OW.out
        · omega
        · injection e3 with e6 e7 e8
          injection e6 with e9
          injection e9 with e10 e11
          subst e10
          refine ⟨by omega, by omega, fun e => hnD (.inr (.inr ?_))⟩
          rw [← e]; rfl
      rw [World.cell?_of_block (World.putObj_heap_other (show bb ≠ D from hbb.2.2)), World.cell?_of_block (Below.heap_setCell _ _ _ _ (show bb ≠ s + 1 from hbb.2.1)), World.cell?_of_block (Below.heap_setCell _ _ _ _ (show bb ≠ s from hbb.1))]
      exact hc
    · rw [numsL_nth, ← QR.out]; exact H0.out
  case stop =>
    rintro D c V pre Wx hD hV hnD hpre ⟨rfl, rfl, ⟨P, D1, rfl, hno⟩, h1, h2, h4⟩ hKD
    have E0 := Lib.hid (show numsOf (splitB r) = none by
      obtain ⟨z, hz⟩ := hpre
      rw [← hz, List.append_assoc]
      exact nums_bad P D1 z hno)
    have HB := Lib.hid h1
    have hDs : s + 2 ≤ D := by
      have : ¬ (D < s + 2) := hnD
      omega
    clear h1 hpre
    gi_wp2
    refine ⟨by simp, .inl ⟨_, _, rfl, run_takeDeferred hKD, ?_⟩⟩
    refine ⟨_, results_cells rfl _ _ ⟨s, 0, none⟩ ⟨s + 1, 0, none⟩ (.slice none 0 0) (.bool false) _ _ rfl rfl Tryd.underlying32 rfl Tryd.underlying4 rfl ?_ ?_, none, 0, 0, fun _ => 0, false, rfl, ?_, Nat.zero_le _, fun k hk => absurd hk (Nat.not_lt_zero _), .inr ⟨rfl, by rw [← QR.out]; exact E0.out⟩⟩
    · rw [World.cell?_of_block (World.putObj_heap_other (show s ≠ D by omega))]; exact h2
    · rw [World.cell?_of_block (World.putObj_heap_other (show s + 1 ≠ D by omega))]; exact h4
    · rw [← HSW.out]
      exact below_inside (V := fun k => k < s + 2) HB.out (Inside.putObj (V := fun k => k < s + 2) hnD _) (fun k hk => show k < s + 2 by omega)
end Go.Proofs.YtabdbgnkiebcdaaDoor

namespace Go.Proofs.YtabdbgnkiebcdaaDoor
set_option linter.unusedVariables false
set_option linter.unusedSimpArgs false
open Go.RowKit

def lays169_ren : Go.Shelf.Ren := ⟨fun | 169 => 84 | n => n, fun | 70 => 95 | 9 => 9 | 0 => 0 | 72 => 97 | 37 => 38 | 127 => 118 | 3 => 3 | 5 => 5 | n => n, fun | n => n⟩
theorem lays169 : Go.Proofs.Lays.n169 Tryd.prog lays169_ren := {
  mixed := by kernel_rfl
  f169 := Tryd.func84.trans (congrArg some (by kernel_rfl))
  t0 := Tryd.underlying0
  a0 := Tryd.isAgg0
  z0 := Tryd.sizeOf0
  v0 := Tryd.zeroValue0
  t3 := Tryd.underlying3
  a3 := Tryd.isAgg3
  z3 := Tryd.sizeOf3
  v3 := Tryd.zeroValue3
  t9 := Tryd.underlying9
  a9 := Tryd.isAgg9
  z9 := Tryd.sizeOf9
  v9 := Tryd.zeroValue9
  t37 := Tryd.underlying38
  a37 := Tryd.isAgg38
  z37 := Tryd.sizeOf38
  v37 := Tryd.zeroValue38
  t70 := Tryd.underlying95
  a70 := Tryd.isAgg95
  z70 := Tryd.sizeOf95
  v70 := Tryd.zeroValue95
  t72 := Tryd.underlying97
  a72 := Tryd.isAgg97
  z72 := Tryd.sizeOf97
  v72 := Tryd.zeroValue97
  t127 := Tryd.underlying118
  a127 := Tryd.isAgg118
  z127 := Tryd.sizeOf118
  v127 := Tryd.zeroValue118 }
theorem extra169 : Builder.Extra Tryd.prog lays169_ren := {
  sizeBuilder := by kernel_rfl
  liesBuilder := by kernel_rfl
  t5 := Tryd.underlying5
  a5 := Tryd.isAgg5
  z5 := Tryd.sizeOf5
  v5 := Tryd.zeroValue5
  infoByte := by kernel_rfl
  cellsByte := by kernel_rfl
  sizeByte := by kernel_rfl
  neB5 := by decide }

/-- A builder that holds these bytes, used or not; its blocks lie from B on. -/
def BldAt (w : World) (B b : Nat) (l : List UInt8) : Prop := Lib.IsBuilder 97 5 B b (Lib.byteCells l) w
theorem BldAt.new {w : World} {B b : Nat} (hB : B ≤ b) (h : w.heap[b]? = some (.cells #[.pointer none, .slice none 0 0] 97 (0, 0))) : BldAt w B b [] :=
  .inl ⟨hB, _, h, ⟨rfl, .inl ⟨rfl, rfl⟩⟩, by simp [Value.ownBlock]⟩
theorem BldAt.at {w : World} {B b : Nat} {l : List UInt8} (h : BldAt w B b l) : ∃ p, Lib.BuilderAt 97 5 B b p (Lib.byteCells l) w := by
  rcases h with h | h
  · exact ⟨_, h⟩
  · exact ⟨_, h⟩
theorem BldAt.lt {w : World} {B b : Nat} {l : List UInt8} (h : BldAt w B b l) : b < w.heap.size := by
  obtain ⟨p, h⟩ := h.at
  exact h.lt

theorem BldAt.belowB {w w' : World} {B b : Nat} {l : List UInt8} (h : BldAt w B b l) (hb : Below w.heap.size w w') : BldAt w' B b l := by
  have key : ∀ p, Lib.BuilderAt 97 5 B b p (Lib.byteCells l) w → Lib.BuilderAt 97 5 B b p (Lib.byteCells l) w' := by
    rintro p ⟨h1, v, h2, h3, h4⟩
    refine ⟨h1, v, (hb.block b (Array.getElem?_eq_some_iff.1 h2).1).trans h2, ?_, h4⟩
    obtain ⟨k1, (k2 | ⟨g, cap, cur, k3, k4, k5, k6⟩)⟩ := h3
    · exact ⟨k1, .inl k2⟩
    · exact ⟨k1, .inr ⟨g, cap, cur, k3, k4, (hb.block g (Array.getElem?_eq_some_iff.1 k5).1).trans k5, k6⟩⟩
  rcases h with h | h
  · exact .inl (key _ h)
  · exact .inr (key _ h)
theorem own_slice {w : World} {base e n : Nat} {v : Value} {xs : List Value} (h : w.ownsRow base e 1 v n xs) : ∃ a c, v = .slice a n c := by
  obtain ⟨_, (⟨h1, h0⟩ | ⟨g, cap, _, hv, _⟩)⟩ := h
  · exact ⟨none, 0, by rw [h1, h0]⟩
  · exact ⟨some ⟨g, 0, none⟩, cap, hv⟩

set_option maxRecDepth 100000 in
set_option maxHeartbeats 1600000 in
theorem copyCheck_any (B b : Nat) (bs : List Value) (w : World) (h : Lib.IsBuilder 97 5 B b bs w) :
    Calls Tryd.prog 118 #[.pointer (some ⟨b, 0, none⟩)] w fun e w' => e = .returned (.tuple #[]) ∧ Lib.BuilderAt 97 5 B b (.pointer (some ⟨b, 0, none⟩)) bs w' ∧ Below B w w' := by
  obtain ⟨j, hj, hjs⟩ := Option.map_eq_some_iff.1 extra169.sizeBuilder
  rcases h with h | h
  · have h0 := h.cell0
    have hsh := h.shape
    have hfz := h.frozen0
    have HU := Lib.hid (h.used (.pointer (some ⟨b, 0, none⟩)))
    have hB := h.1
    have c1 := fun (w1 : World) (hs : w1.shape? b = some (97, 2)) => Lib.run_to_unsafe (P := Tryd.prog) w1 ⟨b, 0, none⟩ Tryd.underlying95 Tryd.underlying140 hj (by rw [hjs]; decide) hs (Nat.zero_lt_succ 1)
    have c2 := fun (w1 : World) (hs : w1.shape? b = some (97, 2)) => Lib.run_from_unsafe (P := Tryd.prog) w1 ⟨b, 0, none⟩ Tryd.underlying140 Tryd.underlying95 hj hs extra169.liesBuilder
    have C1 := Lib.hid (c1 w hsh)
    have C2 := Lib.hid (c2 w hsh)
    clear c1 c2 h hj hjs
    go_enter Tryd.func118, Tryd.ntmps118
    go_wp2
    rw [C1.out]
    simp only [Result.andThen]
    rw [Oper.upon_value]
    go_wp2
    rw [run_callFunc_extern Tryd.func146 (by kernel_rfl) (by kernel_rfl) (by kernel_rfl) (e := Extern.AbiNoEscape.same) (by kernel_rfl)]
    rw [Lib.run_noEscape]
    simp only [Result.andThen]
    rw [Oper.upon_value]
    go_wp2
    rw [C2.out]
    simp only [Result.andThen]
    rw [Oper.upon_value]
    go_wp2
    go_end0
    exact ⟨rfl, HU.out, (Below.refl B w).setCell (p := ⟨b, 0, none⟩) hB _⟩
  · have h0 := h.cell0
    have HU := Lib.hid h
    have CN := Lib.hid (Lib.run_neq_ptr_same (P := Tryd.prog) w ⟨b, 0, none⟩ Tryd.underlying95 hj)
    clear h hj hjs
    go_enter Tryd.func118, Tryd.ntmps118
    go_wp2
    rw [CN.out]
    go_wp2
    go_end0
    exact ⟨rfl, HU.out, Below.refl B _⟩

set_option maxRecDepth 100000 in
set_option maxHeartbeats 1600000 in
theorem writeByte_any (B b : Nat) (l : List UInt8) (c : UInt8) (w : World) (h : BldAt w B b l) (hlen : l.length ≤ 1000000) (hBw : B ≤ w.heap.size) :
    Calls Tryd.prog 82 #[.pointer (some ⟨b, 0, none⟩), .int .u8 (c.toNat : Nat)] w fun e w' => e = .returned .nilIface ∧ BldAt w' B b (l ++ [c]) ∧ Below B w w' := by
  obtain ⟨i0, hi, hz0, hz1, hz2⟩ := info_parts extra169.infoByte
  have H := Lib.hid h
  clear h
  go_enter Tryd.func82, Tryd.ntmps82
  go_wp2_with (go_at_call 118; refine (copyCheck_any B b _ _ H.out).mono ?_)
  rintro e w1 ⟨rfl, h1, hb1⟩
  obtain ⟨hB, v, hbk, hown, hne⟩ := h1
  have c0 : w1.cell? ⟨b, 0, none⟩ = some (.pointer (some ⟨b, 0, none⟩)) := by rw [Lib.cell_of_heap hbk]; rfl
  have c1 : w1.cell? ⟨b, 1, none⟩ = some v := by rw [Lib.cell_of_heap hbk]; rfl
  have hlt : b < w1.heap.size := (Array.getElem?_eq_some_iff.1 hbk).1
  have OW := Lib.hid hown
  have NE := Lib.hid hne
  have HBK := Lib.hid hbk
  have B1 := Lib.hid hb1
  have hs1 := hb1.size
  have hln := Lib.byteCells_length l
  rw [hln] at OW
  clear hown hne hbk hb1
  go_wp2_with (at_builtin; refine wpList_append_lies _ (by rfl) _ _ 38 (by rfl) B 5 i0 (.int .u8 0) 1 1 Tryd.underlying38 hi hz0 hz1 hz2 (by rfl) (by decide) v l.length (Lib.byteCells l) (by rfl) (OW.out.alloc _) ⟨w1.heap.size, 0, none⟩ 1 1 [.int .u8 (c.toNat : Nat)] (by rfl) (by rfl) (news_one (by simp)) (by simp [Value.oneCell']) (by omega) (by unfold maxLen; omega) (by omega) (by simp; omega) _ rfl ?_; intro g2 cap2 w2 hown2 hgrow2 hat2 hlt2; have N2 := Lib.hid hown2; have G2 := Lib.hid hgrow2; have hb2 : w2.heap[b]? = some (.cells #[.pointer (some ⟨b, 0, none⟩), v] 97 (0, 0)) := (hgrow2.block b (by simp; omega) (fun e => NE.out e.symm)).trans ((Lib.alloc_old w1 _ b hlt).trans HBK.out); have d0 : w2.cell? ⟨b, 0, none⟩ = some (.pointer (some ⟨b, 0, none⟩)) := (Lib.cell_of_heap hb2 0).trans rfl; have d1 : w2.cell? ⟨b, 1, none⟩ = some v := (Lib.cell_of_heap hb2 1).trans rfl; have f1 : w2.frozen? ⟨b, 1, none⟩ = false := Lib.frozen_of_heap hb2 1; have HB2 := Lib.hid hb2; clear hown2 hgrow2 hat2 hb2)
  go_ret
  refine ⟨rfl, .inr ?_, ?_⟩
  · refine Lib.BuilderAt.put hB HB2.out ?_ extra169.neB5
    have h5 := N2.out
    rw [show Lib.byteCells (l ++ [c]) = Lib.byteCells l ++ [.int .u8 (c.toNat : Nat)] by simp [Lib.byteCells], List.length_append, hln]
    exact h5
  · exact ((B1.out.alloc (by omega) _).grown G2.out (by simp; omega) (fun k hk => (OW.out.lt k hk).1)).setCell (p := ⟨b, 1, none⟩) hB _

set_option maxRecDepth 100000 in
set_option maxHeartbeats 1600000 in
theorem writeString_any (B b : Nat) (l s : List UInt8) (w : World) (h : BldAt w B b l) (hlen : l.length ≤ 1000000) (hs : s.length ≤ 1000000) (hBw : B ≤ w.heap.size) :
    Calls Tryd.prog 81 #[.pointer (some ⟨b, 0, none⟩), .string ⟨s.toArray⟩] w fun e w' => (∃ x, e = .returned x) ∧ BldAt w' B b (l ++ s) ∧ Below B w w' := by
  obtain ⟨i0, hi, hz0, hz1, hz2⟩ := info_parts extra169.infoByte
  have H := Lib.hid h
  clear h
  go_enter Tryd.func81, Tryd.ntmps81
  go_wp2_with (go_at_call 118; refine (copyCheck_any B b _ _ H.out).mono ?_)
  rintro e w1 ⟨rfl, h1, hb1⟩
  obtain ⟨hB, v, hbk, hown, hne⟩ := h1
  have c0 : w1.cell? ⟨b, 0, none⟩ = some (.pointer (some ⟨b, 0, none⟩)) := by rw [Lib.cell_of_heap hbk]; rfl
  have c1 : w1.cell? ⟨b, 1, none⟩ = some v := by rw [Lib.cell_of_heap hbk]; rfl
  have hlt : b < w1.heap.size := (Array.getElem?_eq_some_iff.1 hbk).1
  have OW := Lib.hid hown
  have NE := Lib.hid hne
  have HBK := Lib.hid hbk
  have B1 := Lib.hid hb1
  have hs1 := hb1.size
  have hln := Lib.byteCells_length l
  have hsz : (⟨s.toArray⟩ : ByteArray).size = s.length := by show s.toArray.size = _; simp
  rw [hln] at OW
  clear hown hne hbk hb1
  go_wp2_with (at_builtin; refine Lib.wpList_append_own_string _ (by rfl) _ _ 38 9 (by rfl) B 5 i0 Tryd.underlying38 Tryd.underlying9 hi hz0 hz1 hz2 v l.length (Lib.byteCells l) (by rfl) OW.out ⟨s.toArray⟩ (by rfl) (by rw [hsz]; unfold maxLen; omega) (by rw [hsz]; omega) (by omega) ?_; intro v2 w2 hown2 hgrow2 hat2; obtain ⟨ao, cap2, rfl⟩ := own_slice hown2; have N2 := Lib.hid hown2; have G2 := Lib.hid hgrow2; have hb2 : w2.heap[b]? = some (.cells #[.pointer (some ⟨b, 0, none⟩), v] 97 (0, 0)) := (hgrow2.block b hlt (fun e => NE.out e.symm)).trans HBK.out; have d0 : w2.cell? ⟨b, 0, none⟩ = some (.pointer (some ⟨b, 0, none⟩)) := (Lib.cell_of_heap hb2 0).trans rfl; have d1 : w2.cell? ⟨b, 1, none⟩ = some v := (Lib.cell_of_heap hb2 1).trans rfl; have f1 : w2.frozen? ⟨b, 1, none⟩ = false := Lib.frozen_of_heap hb2 1; have HB2 := Lib.hid hb2; clear hown2 hgrow2 hat2 hb2)
  go_ret2
  refine ⟨⟨_, rfl⟩, .inr ?_, ?_⟩
  · refine Lib.BuilderAt.put hB HB2.out ?_ extra169.neB5
    have h5 := N2.out
    rw [show Lib.byteCells (l ++ s) = Lib.byteCells l ++ Lib.strCells ⟨s.toArray⟩ by simp [Lib.byteCells, Lib.strCells], List.length_append, hln, Lib.strCells_length]
    exact h5
  · exact (B1.out.grown G2.out (by omega) (fun k hk => (OW.out.lt k hk).1)).setCell (p := ⟨b, 1, none⟩) hB _

theorem builderString_any (B b : Nat) (l : List UInt8) (w : World) (h : BldAt w B b l) (hBw : B ≤ w.heap.size) :
    Calls Tryd.prog 84 #[.pointer (some ⟨b, 0, none⟩)] w fun e w' => e = .returned (.string ⟨l.toArray⟩) ∧ Below B w w' := by
  refine (Any.Builder_String_any_k lays169 extra169 B b l w (Lib.IsBuilderF.of h) hBw).mono ?_
  rintro e w' ⟨rfl, _, hb, _⟩
  exact ⟨rfl, hb⟩
end Go.Proofs.YtabdbgnkiebcdaaDoor

namespace Go.Proofs.YtabdbgnkiebcdaaDoor
set_option linter.unusedVariables false
set_option linter.unusedSimpArgs false
open Go.RowKit

theorem writeSpace_any (B b : Nat) (l : List UInt8) (w : World) (h : BldAt w B b l) (hlen : l.length ≤ 1000000) (hBw : B ≤ w.heap.size) :
    Calls Tryd.prog 82 #[.pointer (some ⟨b, 0, none⟩), .int .u8 32] w fun e w' => e = .returned .nilIface ∧ BldAt w' B b (l ++ [32]) ∧ Below B w w' :=
  writeByte_any B b l 32 w h hlen hBw

set_option maxRecDepth 100000 in
set_option maxHeartbeats 1600000 in
theorem proofText_any (W : List UInt8) (m c : Nat) (a : Option Addr) (X : Nat → Int) (fv : Value) (w : World) (hW : W.length ≤ 100) (hm : m ≤ 1000) (hX : ∀ k, k < m → FewDig (X k)) (ha : Rd w a m X) (hT : PowAt w) (hf : fv.oneCell' = true) :
    Calls Tryd.prog 42 #[.agg #[.string (strU W), .slice a m c, fv]] w fun e w' => e = .returned (.string (strU (wordsB W (numsL m X)))) ∧ Below w.heap.size w w' := by
  have HA := Lib.hid ha
  have HX := Lib.hid hX
  have HT := Lib.hid hT
  have E0 := Lib.hid (show wordsB W (numsL 0 X) = W from List.append_nil W)
  have HN := Lib.hid (show BldAt ((w.alloc (.cells #[.string (strU W), .slice a m c, fv] 59)).alloc (.cells #[.pointer none, .slice none 0 0] 97)) (w.heap.size + 1) (w.heap.size + 1) [] from
    BldAt.new (Nat.le_refl _) (by have := heap_alloc_last (w.alloc (.cells #[.string (strU W), .slice a m c, fv] 59)) (.cells #[.pointer none, .slice none 0 0] 97); rwa [World.size_alloc] at this))
  clear ha hX hT
  go_enter Tryd.func42, Tryd.ntmps42
  go_wp2_with (go_at_call 81; refine (writeString_any _ _ [] W _ HN.out (by simp) (by omega) (by simp)).mono ?_)
  rintro e w1 ⟨⟨x, rfl⟩, hbl, hbel⟩
  rw [List.nil_append] at hbl
  have cb : w1.cell? ⟨w.heap.size, 1, none⟩ = some (.slice a m c) := (hbel.cell (p := ⟨w.heap.size, 1, none⟩) (by simp)).trans (by simp)
  have B1 := Lib.hid (show Below w.heap.size w w1 from (below_alloc (below_alloc (Below.refl _ w) _) _).trans (hbel.mono (by omega)))
  have S1 := Lib.hid (show w.heap.size + 1 ≤ w1.heap.size from by have := hbel.size; simp at this; omega)
  have R1 := Lib.hid (HA.out.below (Nat.le_refl _) B1.out)
  have T1 := Lib.hid (HT.out.below (Nat.le_refl _) B1.out)
  obtain ⟨b, hb⟩ : ∃ b, b = w.heap.size + 1 := ⟨_, rfl⟩
  have BL := Lib.hid hbl
  rw [← hb] at BL S1 ⊢
  have HBB := Lib.hid hb
  clear hbl hbel HN hb
  go_wp2_with fail
  go_loopw [5, 12] (fun _ i wr => ∃ k : Nat, k ≤ m ∧ i = .int .i64 (k : Nat) ∧ BldAt wr b b (wordsB W (numsL k X)) ∧ Below b w1 wr) (fun _ i _ => m - (intOf i).toNat)
  case atStart => exact ⟨0, Nat.zero_le _, rfl, by rw [E0.out]; exact BL.out, Below.refl _ _⟩
  case round =>
    obtain ⟨k, hk, rfl, hbd, hbe⟩ := hrel
    have BR := Lib.hid hbe
    have BD := Lib.hid hbd
    have hsz := hbe.size
    have hs1 := S1.out
    have BW := Lib.hid (show Below w.heap.size w wr from B1.out.trans (hbe.mono (by rw [HBB.out]; omega)))
    clear BL hbd hbe cb
    by_cases hlt : k < m
    · obtain ⟨ba, oa, rfl, hca⟩ := (HA.out.below (Nat.le_refl _) BW.out) k hlt
      have hf := HX.out k hlt
      have hl := words_len W (numsL k X) (numsL_few fun j hj => HX.out j (by omega))
      rw [numsL_len] at hl
      have hs := words_snoc W k X
      obtain ⟨x, hx⟩ : ∃ x, x = X k := ⟨_, rfl⟩
      rw [← hx] at hca hf hs
      have hil := itoa_len hf
      obtain ⟨T, hT⟩ : ∃ T, T = wordsB W (numsL k X) := ⟨_, rfl⟩
      rw [← hT] at BD hl hs
      have HS := Lib.hid (show (T ++ [32]) ++ Lib.itoa x = wordsB W (numsL (k + 1) X) by rw [hs, List.append_assoc])
      have HF := Lib.hid hf
      have hla : (T ++ [32]).length ≤ 1000000 := by simp; omega
      have i1 : (0 : Int) ≤ (k : Int) := by omega
      have i2 : (k : Int) < (m : Int) := by omega
      clear hs hT hx hf
      go_wp2_with (first
        | (go_at_call 82; refine (writeSpace_any b b T _ BD.out (by omega) (by omega)).mono ?_; rintro e w2 ⟨rfl, h2, b2⟩; have D2 := Lib.hid h2; have hs2 := b2.size; have BR2 := Lib.hid (BR.out.trans b2); have BW2 := Lib.hid (BW.out.trans (b2.mono (by rw [HBB.out]; omega))); clear h2 b2)
        | (go_at_call 83; refine (itoa_any x _ (by have := HF.out.1; omega) (by have := HF.out.2; omega) (HT.out.below (Nat.le_refl _) BW2.out)).mono ?_; rintro e w3 ⟨rfl, b3⟩; have D3 := Lib.hid (D2.out.belowB b3); have hs3 := b3.size; have BR3 := Lib.hid (BR2.out.trans (b3.mono (by omega))); clear b3)
        | (go_at_call 81; refine (writeString_any b b (T ++ [32]) (Lib.itoa x) _ D3.out hla (by omega) (by omega)).mono ?_; rintro e w4 ⟨⟨y, rfl⟩, h4, b4⟩; have D4 := Lib.hid h4; have BR4 := Lib.hid (BR3.out.trans b4); clear h4 b4))
      go_roundw
      case rel => exact ⟨k + 1, by omega, by go_num, by rw [← HS.out]; exact D4.out, BR4.out⟩
      case measure => simp [intOf]; omega
    · obtain rfl : k = m := by omega
      go_wp2_with (go_at_call 84; refine (builderString_any b b _ _ BD.out (by omega)).mono ?_; rintro e w2 ⟨rfl, b2⟩; have B2 := Lib.hid (BW.out.trans (b2.mono (by rw [HBB.out]; omega))); clear b2)
      go_ret
      exact ⟨rfl, B2.out⟩
end Go.Proofs.YtabdbgnkiebcdaaDoor

namespace Go.Proofs.YtabdbgnkiebcdaaDoor
set_option linter.unusedVariables false
set_option linter.unusedSimpArgs false
open Go.RowKit

/-- What the makers of proofs promise. -/
def MakesAt (gm gs : Nat) (recv : Value) (W : List UInt8) (w : World) : Prop :=
  ∀ W1 a m c, Below w.heap.size w W1 → Calls Tryd.prog gm #[recv, .slice a m c] W1 fun e w' => e = .returned (.agg #[.string (strU W), .slice a m c, .func (.func gs) #[recv] #[]]) ∧ Below W1.heap.size W1 w'
/-- What the checks promise. -/
def ShowsAt (gs : Nat) (recv : Value) (Q : List Int → Prop) (w : World) : Prop :=
  ∀ W1 a m c X, Below w.heap.size w W1 → m ≤ 1048576 → (∀ k, k < m → I64 (X k)) → Rd W1 a m X → Calls Tryd.prog gs #[recv, .slice a m c] W1 fun e w' => e = .returned (.bool (tt (Q (numsL m X)))) ∧ Below W1.heap.size W1 w'

theorem ShowsAt.mono {gs : Nat} {recv : Value} {Q : List Int → Prop} {w w' : World} (h : ShowsAt gs recv Q w) (hb : Below w.heap.size w w') : ShowsAt gs recv Q w' :=
  fun W1 a m c X h1 h2 h3 h4 => h W1 a m c X (below_chain hb h1) h2 h3 h4

set_option maxHeartbeats 1600000 in
theorem checks_any (gs : Nat) (recv : Value) (W : List UInt8) (Q : List Int → Prop) (a : Option Addr) (m c : Nat) (X : Nat → Int) (w : World) (egs : ∀ args w, (callFunc gs args).run Tryd.prog w = .ok (.enter gs args) w) (hS : ShowsAt gs recv Q w) (hm : m ≤ 1048576) (hX : ∀ k, k < m → I64 (X k)) (ha : Rd w a m X) :
    Calls Tryd.prog 58 #[.agg #[.string (strU W), .slice a m c, .func (.func gs) #[recv] #[]]] w fun e w' => e = .returned (.bool (tt (Q (numsL m X)))) ∧ Below w.heap.size w w' := by
  have hb1 : Below w.heap.size w (w.alloc (.cells #[.string (strU W), .slice a m c, .func (.func gs) #[recv] #[]] 59)) := below_alloc (Below.refl _ w) _
  have H := Lib.hid (hS _ a m c X hb1 hm hX (ha.below (Nat.le_refl _) hb1))
  have B1 := Lib.hid hb1
  clear hS ha hX hb1
  go_enter Tryd.func58, Tryd.ntmps58
  go_wp2_with (go_at_fn gs; refine H.out.mono ?_; rintro e w1 ⟨rfl, hb⟩; have B2 := Lib.hid (below_chain B1.out hb); clear hb)
  go_ret
  exact ⟨rfl, B2.out⟩

set_option maxRecDepth 100000 in
set_option maxHeartbeats 3200000 in
theorem isProof_any (gm gs : Nat) (recv : Value) (W : List UInt8) (Q : List Int → Prop) (t : ByteArray) (w : World) (hr : recv.oneCell' = recv.oneCell') (egm : ∀ args w, (callFunc gm args).run Tryd.prog w = .ok (.enter gm args) w) (egs : ∀ args w, (callFunc gs args).run Tryd.prog w = .ok (.enter gs args) w)
    (hM : MakesAt gm gs recv W w) (hS : ShowsAt gs recv Q w) (hW : ∀ c ∈ W, c ≠ 32) (hWl : W.length ≤ 100) (hQ : ∀ L, Q L → L ≠ [] ∧ L.length ≤ 1000 ∧ FewAll L) (ht : t.size ≤ 1048576) (hE : NumErrAt w) (hT : PowAt w) :
    Calls Tryd.prog 51 #[.string t, .func (.func gm) #[recv] #[]] w fun e w' => e = .returned (.bool (tt (ProofP W Q t))) ∧ Below w.heap.size w w' := by
  have N := Lib.hid (numbers_any t w ht hE)
  have hl : t.data.toList.length = t.size := by rw [Array.length_toList]; rfl
  cases hn : numsOf (splitB (behindB t.data.toList)) with
  | none =>
    have E := Lib.hid (tt_no (proof_none hW hQ hn))
    have N0 := Lib.hid (show Calls Tryd.prog 93 #[.string t] w fun e w' => (∃ a m c, e = .returned (.tuple #[.slice a m c, .bool false])) ∧ Below w.heap.size w w' from N.out.mono fun e w' h => by
      obtain ⟨a, m, c, X, b, rfl, hb, _, _, (⟨_, h1⟩ | ⟨rfl, _⟩)⟩ := h
      · rw [hn] at h1; cases h1
      · exact ⟨⟨a, m, c, rfl⟩, hb⟩)
    clear N hn hM hS hQ hE hT hW
    go_enter Tryd.func51, Tryd.ntmps51
    go_wp2_with (go_at_call 93; refine N0.out.mono ?_; rintro e w1 ⟨⟨a, m, c, rfl⟩, hb⟩; have B1 := Lib.hid hb; clear hb)
    go_ret
    exact ⟨by rw [E.out]; rfl, B1.out⟩
  | some L0 =>
    have I := proof_iff hW hQ hn
    have N0 := Lib.hid (show Calls Tryd.prog 93 #[.string t] w fun e w' => ∃ a m c X, e = .returned (.tuple #[.slice a m c, .bool true]) ∧ Below w.heap.size w w' ∧ m ≤ 1048576 ∧ Rd w' a m X ∧ numsL m X = L0 from N.out.mono fun e w' h => by
      obtain ⟨a, m, c, X, b, rfl, hb, hm, hr, (⟨rfl, h1⟩ | ⟨_, h1⟩)⟩ := h
      · rw [hn] at h1; injection h1 with h1
        exact ⟨a, m, c, X, rfl, hb, (by have h2 := nums_le hn; rw [h1, numsL_len] at h2; omega), hr, h1.symm⟩
      · rw [hn] at h1; cases h1)
    have I64A := Lib.hid (nums_i64 _ _ hn).2
    have HM := Lib.hid hM
    have HS := Lib.hid hS
    have HT := Lib.hid hT
    by_cases hq : Q L0
    · have T1 := Lib.hid (tt_of hq)
      obtain ⟨_, q2, q3⟩ := hQ L0 hq
      have Q2 := Lib.hid (And.intro q2 q3)
      have hcmp : (t.toList == (strU (wordsB W L0)).toList) = tt (ProofP W Q t) := by
        refine tt_eq ?_
        rw [I, beq_iff_eq, ByteArray.toList_eq, ByteArray.toList_eq]
        constructor
        · intro h; exact ⟨hq, ByteArray.ext (Array.toList_inj.1 h)⟩
        · rintro ⟨_, h⟩; rw [← h]
      have hcmp2 : ((strU (wordsB W L0)).toList == t.toList) = tt (ProofP W Q t) := by
        rw [← hcmp]; exact Bool.eq_iff_iff.2 (by rw [beq_iff_eq, beq_iff_eq]; exact eq_comm)
      have E := Lib.hid hcmp2
      clear N hn hM hS hQ hE hT hW I hq hcmp hcmp2 q2 q3
      go_enter Tryd.func51, Tryd.ntmps51
      go_wp2_with (first
        | (go_at_call 93; refine N0.out.mono ?_; rintro e w1 ⟨a, m, c, X, rfl, hb, hm, hrd, hL⟩; have B1 := Lib.hid hb; have R1 := Lib.hid hrd; have EL := Lib.hid hL; have HM1 := Lib.hid hm; clear hb hrd hL hm)
        | (go_at_fn gm; refine (HM.out _ a m c B1.out).mono ?_; rintro e w2 ⟨rfl, hb⟩; have B2 := Lib.hid (below_chain B1.out hb); have R2 := Lib.hid (R1.out.below (Nat.le_refl _) hb); have A2 := Lib.hid (below_alloc B2.out (.cells #[.string (strU W), .slice a m c, .func (.func gs) #[recv] #[]] 59)); have R3 := Lib.hid (R2.out.below (Nat.le_refl _) (below_alloc (Below.refl _ w2) (.cells #[.string (strU W), .slice a m c, .func (.func gs) #[recv] #[]] 59))); clear hb)
        | (go_at_call 58; refine (checks_any gs recv W Q a m c X _ egs (HS.out.mono A2.out) HM1.out (fun k hk => I64A.out (X k) (by rw [← EL.out]; exact numsL_mem.2 ⟨k, hk, rfl⟩)) R3.out).mono ?_; rintro e w3 ⟨rfl, hb⟩; rw [EL.out, T1.out]; have B3 := Lib.hid (A2.out.trans (hb.mono A2.out.size)); have c0 : w3.cell? ⟨w2.heap.size, 0, none⟩ = some (.string (strU W)) := (hb.cell (p := ⟨w2.heap.size, 0, none⟩) (by simp)).trans (by simp); have c1 : w3.cell? ⟨w2.heap.size, 1, none⟩ = some (.slice a m c) := (hb.cell (p := ⟨w2.heap.size, 1, none⟩) (by simp)).trans (by simp); have c2 : w3.cell? ⟨w2.heap.size, 2, none⟩ = some (.func (.func gs) #[recv] #[]) := (hb.cell (p := ⟨w2.heap.size, 2, none⟩) (by simp)).trans (by simp); have R4 := Lib.hid (R3.out.below (Nat.le_refl _) hb); clear hb)
        | (go_at_call 42; refine (proofText_any W m c a X (.func (.func gs) #[recv] #[]) _ hWl (by have := Q2.out.1; rw [← EL.out, numsL_len] at this; exact this) (fun k hk => Q2.out.2 (X k) (by rw [← EL.out]; exact numsL_mem.2 ⟨k, hk, rfl⟩)) R4.out (HT.out.below (Nat.le_refl _) B3.out) rfl).mono ?_; rintro e w4 ⟨rfl, hb⟩; rw [EL.out]; have B4 := Lib.hid (B3.out.trans (hb.mono B3.out.size)); clear hb))
      go_ret
      exact ⟨by rw [← E.out]; rfl, B4.out⟩
    · have T1 := Lib.hid (tt_no hq)
      have E := Lib.hid (tt_no (show ¬ ProofP W Q t from fun h => hq (I.1 h).1))
      clear N hn hM hS hQ hE hT hW I hq
      go_enter Tryd.func51, Tryd.ntmps51
      go_wp2_with (first
        | (go_at_call 93; refine N0.out.mono ?_; rintro e w1 ⟨a, m, c, X, rfl, hb, hm, hrd, hL⟩; have B1 := Lib.hid hb; have R1 := Lib.hid hrd; have EL := Lib.hid hL; have HM1 := Lib.hid hm; clear hb hrd hL hm)
        | (go_at_fn gm; refine (HM.out _ a m c B1.out).mono ?_; rintro e w2 ⟨rfl, hb⟩; have B2 := Lib.hid (below_chain B1.out hb); have R2 := Lib.hid (R1.out.below (Nat.le_refl _) hb); have A2 := Lib.hid (below_alloc B2.out (.cells #[.string (strU W), .slice a m c, .func (.func gs) #[recv] #[]] 59)); have R3 := Lib.hid (R2.out.below (Nat.le_refl _) (below_alloc (Below.refl _ w2) (.cells #[.string (strU W), .slice a m c, .func (.func gs) #[recv] #[]] 59))); clear hb)
        | (go_at_call 58; refine (checks_any gs recv W Q a m c X _ egs (HS.out.mono A2.out) HM1.out (fun k hk => I64A.out (X k) (by rw [← EL.out]; exact numsL_mem.2 ⟨k, hk, rfl⟩)) R3.out).mono ?_; rintro e w3 ⟨rfl, hb⟩; rw [EL.out, T1.out]; have B3 := Lib.hid (A2.out.trans (hb.mono A2.out.size)); have c0 : w3.cell? ⟨w2.heap.size, 0, none⟩ = some (.string (strU W)) := (hb.cell (p := ⟨w2.heap.size, 0, none⟩) (by simp)).trans (by simp); have c1 : w3.cell? ⟨w2.heap.size, 1, none⟩ = some (.slice a m c) := (hb.cell (p := ⟨w2.heap.size, 1, none⟩) (by simp)).trans (by simp); have c2 : w3.cell? ⟨w2.heap.size, 2, none⟩ = some (.func (.func gs) #[recv] #[]) := (hb.cell (p := ⟨w2.heap.size, 2, none⟩) (by simp)).trans (by simp); have R4 := Lib.hid (R3.out.below (Nat.le_refl _) hb); clear hb))
      go_ret
      exact ⟨by rw [E.out]; rfl, B3.out⟩
end Go.Proofs.YtabdbgnkiebcdaaDoor

namespace Go.Proofs.YtabdbgnkiebcdaaDoor
set_option linter.unusedVariables false
open Go.RowKit

theorem Tryd.zeroRates (w : World) : (zeroValue 52).run Tryd.prog w = .ok (.agg (cellsV 25 fun _ => 0)) w := by kernel_rfl
theorem Tryd.builtRates : Tryd.prog.built 52 [] = some (cellsV 25 fun _ => 0) := by kernel_rfl
theorem Tryd.sizeRates : (Tryd.prog.info? 52).map (·.size) = some 25 := by kernel_rfl

/-- What is kept: the table's numbers, 0 behind them; all 0 if it is no table of rates. -/
noncomputable def rateF (n : Nat) (L : Nat → Nat) (Z : Nat → Nat → Int) (j : Nat) : Int := if tt (IsRates n L Z) = true ∧ j / 5 < n ∧ j % 5 < n then Z (j / 5) (j % 5) else 0

theorem rateF_no {n : Nat} {L : Nat → Nat} {Z : Nat → Nat → Int} (h : ¬ IsRates n L Z) (j : Nat) : 0 = rateF n L Z j := by
  unfold rateF; rw [tt_no h]; simp
theorem rateF_yes {n : Nat} {L : Nat → Nat} {Z : Nat → Nat → Int} (h : IsRates n L Z) (j : Nat) : (if j / 5 < n ∧ j % 5 < n then Z (j / 5) (j % 5) else 0) = rateF n L Z j := by
  unfold rateF; rw [tt_of h]; simp


theorem readRates_len (n c : Nat) (a : Option Addr) (L : Nat → Nat) (Z : Nat → Nat → Int) (w : World) (hn : n ≤ 1048576) (h1 : n < 2 ∨ 5 < n) :
    Calls Tryd.prog 39 #[.slice a n c] w fun e w' => e = .returned (.tuple #[.agg (cellsV 25 (rateF n L Z)), .bool (tt (IsRates n L Z))]) ∧ Below w.heap.size w w' := by
  have hno : ¬ IsRates n L Z := fun h => by have := h.1; omega
  have H1 := Lib.hid h1
  have Hno := Lib.hid hno
  clear hno
  by_cases h2 : n < 2
  all_goals
    clear h1
    have h3 := H1.out
    have h4 : ¬ n < 2 → 5 < n := by omega
    clear h3
    try have h5 := h4 h2
    clear h4
    go_enter Tryd.func39, Tryd.ntmps39
    go_wp2_with (first
      | ((with_reducible refine arr_alloc 25 _ (Tryd.zeroRates _) ?_); intro w1 hA1 hs1 hb1; have S1 := Lib.hid hs1; clear hs1)
      | (with_reducible refine arr_build0 25 _ Tryd.builtRates ?_)
      | ((with_reducible refine arr_store 25 _ _ _ _ _ _ (fun _ => 0) ?_ ?_ hA1 Tryd.sizeRates ?_); exact rfl; exact rfl; intro w2 hA2 hs2 ho2 hb2; clear hA1))
    all_goals
      refine bodyPost_ret (v := .tuple #[.agg (cellsV 25 (rateF n L Z)), .bool (tt (IsRates n L Z))]) ?_ rfl ⟨rfl, hb1.trans hb2⟩
      rw [results_arr_tmp (F := rateF n L Z) Tryd.results39 _ _ w.heap.size 52 25 _ _ rfl (hA2.congr fun j _ => rateF_no Hno.out j) Tryd.underlying52 Tryd.sizeRates, tt_no Hno.out]
      rfl

/-- What is written when i rows and k numbers of the next one are read. -/
def partF (n i k : Nat) (Z : Nat → Nat → Int) (j : Nat) : Int := if (j / 5 < i ∨ j / 5 = i ∧ j % 5 < k) ∧ j % 5 < n then Z (j / 5) (j % 5) else 0

theorem partF_step {n i k : Nat} {Z : Nat → Nat → Int} (hk : k < n) (hn : n ≤ 5) (j : Nat) : (if j = i * 5 + k then Z i k else partF n i k Z j) = partF n i (k + 1) Z j := by
  unfold partF
  by_cases e : j = i * 5 + k
  · have e1 : j / 5 = i := by omega
    have e2 : j % 5 = k := by omega
    rw [if_pos e, e1, e2, if_pos (by omega)]
  · rw [if_neg e]
    by_cases h : (j / 5 < i ∨ j / 5 = i ∧ j % 5 < k) ∧ j % 5 < n
    · rw [if_pos h, if_pos (by omega)]
    · rw [if_neg h, if_neg (by omega)]
theorem partF_row {n i : Nat} {Z : Nat → Nat → Int} (j : Nat) : partF n i n Z j = partF n (i + 1) 0 Z j := by
  unfold partF
  by_cases h : (j / 5 < i ∨ j / 5 = i ∧ j % 5 < n) ∧ j % 5 < n
  · rw [if_pos h, if_pos (by omega)]
  · rw [if_neg h, if_neg (by omega)]
theorem partF_zero {n : Nat} {Z : Nat → Nat → Int} (j : Nat) : 0 = partF n 0 0 Z j := by
  unfold partF; rw [if_neg (by omega)]
theorem partF_all {n : Nat} {Z : Nat → Nat → Int} (j : Nat) : partF n n 0 Z j = if j / 5 < n ∧ j % 5 < n then Z (j / 5) (j % 5) else 0 := by
  unfold partF
  by_cases h : j / 5 < n ∧ j % 5 < n
  · rw [if_pos h, if_pos (by omega)]
  · rw [if_neg h, if_neg (by omega)]

set_option maxHeartbeats 1000000 in
theorem readRates_mid (n c : Nat) (a : Option Addr) (A : Nat → Option Addr) (L C : Nat → Nat) (Z : Nat → Nat → Int) (w : World) (hn2 : 2 ≤ n) (hn5 : n ≤ 5) (hL : ∀ r, r < n → L r ≤ 1048576) (ha : Tab w a n A L C Z) :
    Calls Tryd.prog 39 #[.slice a n c] w fun e w' => e = .returned (.tuple #[.agg (cellsV 25 (rateF n L Z)), .bool (tt (IsRates n L Z))]) ∧ Below w.heap.size w w' := by
  go_enter Tryd.func39, Tryd.ntmps39
  have hd : decide (5 < (n : Int)) = false := by simp; omega
  have tk : True := trivial
  go_wp2_with (first
    | (have _t := tk; (with_reducible refine arr_alloc 25 _ (Tryd.zeroRates _) ?_); clear tk; intro w1 hA1 hs1 hb1; have S1 := Lib.hid hs1; clear hs1)
    | ((with_reducible refine arr_alloc 25 _ (Tryd.zeroRates _) ?_); intro w2 hA2 hs2 hb2; have S2 := Lib.hid hs2; clear hs2))
  have e0 : w1.heap.size = w.heap.size + 1 := S1.out
  have e1 : w2.heap.size = w.heap.size + 2 := by rw [S2.out, e0]
  have hR := hA1.below (by rw [e0]; omega) hb2
  have hB := hb1.trans (hb2.mono (by rw [e0]; omega))
  rw [e0] at hA2 ⊢
  have R1 := Lib.hid hR
  have R2 := Lib.hid (hA2.congr fun j _ => partF_zero (n := n) (Z := Z) j)
  have R3 := Lib.hid hB
  have E1 := Lib.hid e1
  clear hA1 hA2 hb1 hb2 hR hB e0 e1 S1 S2
  go_loopw [3, 6, 7, 8, 9, 21] (fun r _ _ _ _ i wr => ∃ k : Nat, k ≤ n ∧ i = .int .i64 k ∧ r = .bool false ∧ (∀ i, i < k → L i = n ∧ ∀ k, k < n → (1 ≤ Z i k ∧ Z i k ≤ 144) ∧ (i = k → Z i k = 12)) ∧
      ArrAt wr w.heap.size 52 25 (fun _ => 0) ∧ ArrAt wr (w.heap.size + 1) 52 25 (partF n k 0 Z) ∧ wr.heap.size = w.heap.size + 2 ∧ Below w.heap.size w wr) (fun _ _ _ _ _ i _ => n - (intOf i).toNat)
  case atStart => exact ⟨0, Nat.zero_le _, rfl, rfl, fun j hj => absurd hj (Nat.not_lt_zero _), R1.out, R2.out, E1.out, R3.out⟩
  case round =>
    obtain ⟨k, hk, rfl, rfl, hs, hZ, hP, hsz, hb⟩ := hrel
    clear R1 R2 R3 E1
    by_cases hlt : k < n
    · obtain ⟨ba, oa, rfl, hca0, hra0⟩ := ha k hlt
      have hra := hra0.below (Nat.le_refl _) hb
      have hca := (hb.cell (p := ⟨ba, oa + k, none⟩) (World.block_lt_of_cell? _ _ hca0)).trans hca0
      have hLk := hL k hlt
      have H1 := Lib.hid hs
      have H2 := Lib.hid hZ
      have H3 := Lib.hid hP
      have H4 := Lib.hid hsz
      have H5 := Lib.hid hb
      have H6 := Lib.hid hra0
      clear hs ha hL hZ hP hsz hb hra hra0 hca0
      by_cases hln : L k = n
      · have hne : ((L k : Int) != (n : Int)) = false := by simp; omega
        have H7 := Lib.hid hln
        clear hln
        go_wp2
        go_loopw [3, 8, 9, 33] (fun r _ _ i wi => ∃ j : Nat, j ≤ n ∧ i = .int .i64 j ∧ r = .bool false ∧ (∀ j', j' < j → (1 ≤ Z k j' ∧ Z k j' ≤ 144) ∧ (k = j' → Z k j' = 12)) ∧
            ArrAt wi w.heap.size 52 25 (fun _ => 0) ∧ ArrAt wi (w.heap.size + 1) 52 25 (partF n k j Z) ∧ wi.heap.size = w.heap.size + 2 ∧ Below w.heap.size w wi) (fun _ _ _ i _ => n - (intOf i).toNat)
        case atStart => exact ⟨0, Nat.zero_le _, rfl, rfl, fun j hj => absurd hj (Nat.not_lt_zero _), H2.out, H3.out, H4.out, H5.out⟩
        case round =>
          obtain ⟨j, hj, rfl, rfl, hs, hZ, hP, hsz, hb⟩ := hrel
          clear H2 H3 H4 H5 hca
          have hra := H6.out.below (Nat.le_refl _) hb
          by_cases hjlt : j < n
          · obtain ⟨bb, ob, hA, hcb⟩ := hra j (by have := H7.out; omega)
            rw [hA]
            have hLj : j < L k := by have := H7.out; omega
            have hP1 := hP.cell (j := k * 5 + j) (by omega)
            have hP2 := hP.frozen (k * 5 + j)
            have H2 := Lib.hid hZ
            have H3 := Lib.hid hP
            have H4 := Lib.hid hsz
            have H5 := Lib.hid hb
            have H8 := Lib.hid hs
            have H9 := Lib.hid hA
            clear hs hra hA hZ hP hsz hb
            by_cases hlo : Z k j < 1
            · have hdl : decide (Z k j < 1) = true := by simpa using hlo
              have Hno := Lib.hid (show ¬ IsRates n L Z from fun h => by have := ((h.2 k hlt).2 j hjlt).1; omega)
              have hA1 := H2.out
              go_wp2_with (first | (with_reducible refine arr_build0 25 _ Tryd.builtRates ?_) | ((with_reducible refine arr_store 25 _ _ _ _ _ _ (fun _ => 0) ?_ ?_ hA1 Tryd.sizeRates ?_); exact rfl; exact rfl; intro w2 hA2 hs2 ho2 hb2; clear hA1))
              refine bodyPost_ret (v := .tuple #[.agg (cellsV 25 (rateF n L Z)), .bool (tt (IsRates n L Z))]) ?_ rfl ⟨rfl, H5.out.trans hb2⟩
              rw [results_arr_tmp (F := rateF n L Z) Tryd.results39 _ _ w.heap.size 52 25 _ _ rfl (hA2.congr fun j _ => rateF_no Hno.out j) Tryd.underlying52 Tryd.sizeRates, tt_no Hno.out]
              rfl
            · by_cases hhi : 144 < Z k j
              · have hdl : decide (144 < Z k j) = true := by simpa using hhi
                have Hno := Lib.hid (show ¬ IsRates n L Z from fun h => by have := ((h.2 k hlt).2 j hjlt).1; omega)
                have hA1 := H2.out
                go_wp2_with (first | (with_reducible refine arr_build0 25 _ Tryd.builtRates ?_) | ((with_reducible refine arr_store 25 _ _ _ _ _ _ (fun _ => 0) ?_ ?_ hA1 Tryd.sizeRates ?_); exact rfl; exact rfl; intro w2 hA2 hs2 ho2 hb2; clear hA1))
                refine bodyPost_ret (v := .tuple #[.agg (cellsV 25 (rateF n L Z)), .bool (tt (IsRates n L Z))]) ?_ rfl ⟨rfl, H5.out.trans hb2⟩
                rw [results_arr_tmp (F := rateF n L Z) Tryd.results39 _ _ w.heap.size 52 25 _ _ rfl (hA2.congr fun j _ => rateF_no Hno.out j) Tryd.underlying52 Tryd.sizeRates, tt_no Hno.out]
                rfl
              · have hi2 : decide (144 < Z k j) = false := by simpa using hhi
                by_cases hkj : k = j
                · subst hkj
                  by_cases hz : Z k k = 12
                  · have hb1 : (Z k k != 12) = false := by simp [hz]
                    have HZ := Lib.hid hz
                    clear hz
                    go_wp2
                    go_roundw
                    case rel =>
                      refine ⟨k + 1, by omega, by go_num, rfl, fun j' hj' => ?_, H2.out.setOther (by show w.heap.size ≠ w.heap.size + 1; omega) _, (H3.out.set _ _).congr (fun j' _ => partF_step hjlt hn5 j'), ?_, H5.out.setCell (Nat.le_succ _) _⟩
                      · by_cases e : j' = k
                        · subst e; exact ⟨by omega, fun _ => HZ.out⟩
                        · exact H8.out j' (by omega)
                      · rw [← H4.out]; simp [World.setCell]
                    case measure => simp [intOf]; omega
                  · have hb1 : (Z k k != 12) = true := by simp [hz]
                    have Hno := Lib.hid (show ¬ IsRates n L Z from fun h => hz (((h.2 k hlt).2 k hlt).2 rfl))
                    have hA1 := H2.out
                    go_wp2_with (first | (with_reducible refine arr_build0 25 _ Tryd.builtRates ?_) | ((with_reducible refine arr_store 25 _ _ _ _ _ _ (fun _ => 0) ?_ ?_ hA1 Tryd.sizeRates ?_); exact rfl; exact rfl; intro w2 hA2 hs2 ho2 hb2; clear hA1))
                    refine bodyPost_ret (v := .tuple #[.agg (cellsV 25 (rateF n L Z)), .bool (tt (IsRates n L Z))]) ?_ rfl ⟨rfl, H5.out.trans hb2⟩
                    rw [results_arr_tmp (F := rateF n L Z) Tryd.results39 _ _ w.heap.size 52 25 _ _ rfl (hA2.congr fun j _ => rateF_no Hno.out j) Tryd.underlying52 Tryd.sizeRates, tt_no Hno.out]
                    rfl
                · have hb1 : ((k : Int) == (j : Int)) = false := by simp; omega
                  go_wp2
                  go_roundw
                  case rel =>
                    refine ⟨j + 1, by omega, by go_num, rfl, fun j' hj' => ?_, H2.out.setOther (by show w.heap.size ≠ w.heap.size + 1; omega) _, (H3.out.set _ _).congr (fun j' _ => partF_step hjlt hn5 j'), ?_, H5.out.setCell (Nat.le_succ _) _⟩
                    · by_cases e : j' = j
                      · subst e; exact ⟨by omega, fun e => absurd e hkj⟩
                      · exact H8.out j' (by omega)
                    · rw [← H4.out]; simp [World.setCell]
                  case measure => simp [intOf]; omega
          · have H2 := Lib.hid hZ
            have H3 := Lib.hid hP
            have H4 := Lib.hid hsz
            have H5 := Lib.hid hb
            have H8 := Lib.hid hs
            clear hs hra hZ hP hsz hb
            have hge : ¬ j < L k := by have := H7.out; omega
            obtain rfl : j = n := by omega
            go_wp2
            go_roundw
            case rel =>
              exact ⟨k + 1, by omega, by go_num, rfl, fun i' hi' => by
                by_cases e : i' = k
                · subst e; exact ⟨H7.out, fun j' hj' => H8.out j' (by omega)⟩
                · exact H1.out i' (by omega), H2.out, H3.out.congr (fun j _ => partF_row j), H4.out, H5.out⟩
            case measure => simp [intOf]; omega
      · have hne : ((L k : Int) != (n : Int)) = true := by simp; omega
        have Hno := Lib.hid (show ¬ IsRates n L Z from fun h => hln (h.2 k hlt).1)
        have hA1 := H2.out
        go_wp2_with (first | (with_reducible refine arr_build0 25 _ Tryd.builtRates ?_) | ((with_reducible refine arr_store 25 _ _ _ _ _ _ (fun _ => 0) ?_ ?_ hA1 Tryd.sizeRates ?_); exact rfl; exact rfl; intro w2 hA2 hs2 ho2 hb2; clear hA1))
        refine bodyPost_ret (v := .tuple #[.agg (cellsV 25 (rateF n L Z)), .bool (tt (IsRates n L Z))]) ?_ rfl ⟨rfl, H5.out.trans hb2⟩
        rw [results_arr_tmp (F := rateF n L Z) Tryd.results39 _ _ w.heap.size 52 25 _ _ rfl (hA2.congr fun j _ => rateF_no Hno.out j) Tryd.underlying52 Tryd.sizeRates, tt_no Hno.out]
        rfl
    · obtain rfl : k = n := by omega
      have hyes : IsRates k L Z := ⟨⟨hn2, hn5⟩, hs⟩
      have Hyes := Lib.hid hyes
      have hP2 := hP.congr (G := rateF k L Z) (fun j _ => (partF_all j).trans (rateF_yes hyes j))
      clear hP hyes hs ha hL
      go_wp2_with (first
        | ((with_reducible refine arr_load 25 _ _ _ _ _ _ _ ?_ hP2 Tryd.underlying52 Tryd.sizeRates ?_); exact rfl)
        | ((with_reducible refine arr_store 25 _ _ _ _ _ _ (rateF k L Z) ?_ ?_ hZ Tryd.sizeRates ?_); exact rfl; exact rfl; intro w2 hA2 hs2 ho2 hb2; clear hZ))
      refine bodyPost_ret (v := .tuple #[.agg (cellsV 25 (rateF k L Z)), .bool (tt (IsRates k L Z))]) ?_ rfl ⟨rfl, hb.trans hb2⟩
      rw [results_arr_tmp (F := rateF k L Z) Tryd.results39 _ _ w.heap.size 52 25 _ _ rfl hA2 Tryd.underlying52 Tryd.sizeRates, tt_of Hyes.out]
      rfl

/-- THE PROGRAM's readRates. -/
theorem readRates_any (n c : Nat) (a : Option Addr) (A : Nat → Option Addr) (L C : Nat → Nat) (Z : Nat → Nat → Int) (w : World) (hn : n ≤ 1048576) (hL : ∀ r, r < n → L r ≤ 1048576) (ha : Tab w a n A L C Z) :
    Calls Tryd.prog 39 #[.slice a n c] w fun e w' => e = .returned (.tuple #[.agg (cellsV 25 (rateF n L Z)), .bool (tt (IsRates n L Z))]) ∧ Below w.heap.size w w' := by
  by_cases h : n < 2 ∨ 5 < n
  · exact readRates_len n c a L Z w hn h
  · exact readRates_mid n c a A L C Z w (by omega) (by omega) hL ha
end Go.Proofs.YtabdbgnkiebcdaaDoor

namespace Go.Proofs.YtabdbgnkiebcdaaDoor
set_option linter.unusedVariables false
open Go.RowKit

set_option maxHeartbeats 400000 in
theorem unitAfter_any (n : Int) (w : World) (hn : n ≤ 10) (h0 : -1000000000 ≤ n) :
    Calls Tryd.prog 138 #[.int .i64 n] w fun e w' => e = .returned (.int .i64 (p12 n.toNat)) ∧ w = w' := by
  go_enter Tryd.func138, Tryd.ntmps138
  go_wp2
  go_loop [3, 5] (fun p i => ∃ k : Nat, k ≤ n.toNat ∧ i = .int .i64 k ∧ p = .int .i64 (p12 k)) (fun _ i => n.toNat - (intOf i).toNat)
  case atStart => exact ⟨0, Nat.zero_le _, rfl, rfl⟩
  case round =>
    obtain ⟨k, hk, rfl, rfl⟩ := hrel
    obtain ⟨hp1, hp2⟩ := p12_le k (by omega)
    by_cases hlt : (k : Int) < n
    · go_wp2
      go_round
      case rel => exact ⟨k + 1, by omega, by go_num, rfl⟩
      case measure => simp [intOf]; omega
    · have hkn := Lib.hid (show k = n.toNat by omega)
      go_wp2
      go_ret
      exact ⟨by rw [← hkn.out]; rfl, rfl⟩
end Go.Proofs.YtabdbgnkiebcdaaDoor

namespace Go.Proofs.YtabdbgnkiebcdaaDoor
set_option linter.unusedVariables false
open Go.RowKit

/-- The array's number of row i at k. -/
def atF (F : Nat → Int) (i k : Nat) : Int := F (i * 5 + k)

set_option maxHeartbeats 800000 in
theorem value_any (n m d : Nat) (F : Nat → Int) (b : Option Addr) (W : Nat → Int) (steps : Int) (w : World) (hn5 : n ≤ 5) (hF : ∀ i k, i < n → k < n → 0 ≤ atF F i k ∧ atF F i k ≤ 144) (hb : Rd w b m W)
    (hm1 : 2 ≤ m) (hm2 : m ≤ 6) (hmd : m ≤ d) (hs1 : steps - m + 1 ≤ 6) (hs0 : 0 ≤ steps) (hW : ∀ i, i < m → 0 ≤ W i ∧ W i < n) :
    Calls Tryd.prog 158 #[.agg (cellsV 25 F), .slice b m d, .int .i64 steps] w fun e w' => e = .returned (.int .i64 (valF (atF F) W (p12 (steps - m + 1).toNat) (m - 1))) ∧ Below w.heap.size w w' := by
  have hv := p12_small (steps - m + 1).toNat (by omega)
  have hZ' : ∀ j, j + 1 < m → 0 ≤ atF F (W j).toNat (W (j + 1)).toNat ∧ atF F (W j).toNat (W (j + 1)).toNat ≤ 144 := fun j hj => by
    have h1 := hW j (by omega)
    have h2 := hW (j + 1) hj
    exact hF _ _ (by omega) (by omega)
  obtain ⟨v0, hv0⟩ : ∃ v0, v0 = p12 (steps - m + 1).toNat := ⟨_, rfl⟩
  rw [← hv0] at hv ⊢
  obtain ⟨bb, ob, rfl, -⟩ := hb 0 (by omega)
  have hlt := (hb.lt (show 0 < m by omega))
  have V0 := Lib.hid hv0
  have V1 := Lib.hid hZ'
  have V4 := Lib.hid hb
  have V5 := Lib.hid hW
  have e1 : ((m : Int) - 1).toNat = m - 1 := by omega
  clear hv0 hF hZ' hb hW hlt
  go_enter Tryd.func158, Tryd.ntmps158
  go_wp2_with (first
    | ((with_reducible refine arr_box 25 _ _ F ?_ ?_); exact rfl; intro w1 hA1 hs1 hb1; have S1 := Lib.hid hs1; clear hs1)
    | (go_at_call 138; refine (unitAfter_any _ _ (by omega) (by omega)).mono ?_; rintro e w' ⟨rfl, rfl⟩; rw [← V0.out]))
  have A1 := Lib.hid hA1
  have B1 := Lib.hid hb1
  clear hA1 hb1
  go_loop [7, 8, 9, 19] (fun v _ _ i => ∃ k : Nat, k + 1 ≤ m ∧ i = .int .i64 k ∧ v = .int .i64 (valF (atF F) W v0 k)) (fun _ _ _ i => m - (intOf i).toNat)
  case atStart => exact ⟨0, by omega, rfl, rfl⟩
  case round =>
    obtain ⟨k, hk, rfl, rfl⟩ := hrel
    obtain ⟨hb1, hb2⟩ := valF_bound (Z := atF F) (W := W) k (by omega) hv (fun j hj => V1.out j (by omega))
    by_cases hlt : k + 1 < m
    · obtain ⟨hb3, hb4⟩ := valF_bound (Z := atF F) (W := W) (k + 1) (by omega) hv (fun j hj => V1.out j (by omega))
      have hstep : valF (atF F) W v0 (k + 1) = valF (atF F) W v0 k * atF F (W k).toNat (W (k + 1)).toNat := rfl
      have hR := V4.out.below (Nat.le_refl _) B1.out
      obtain ⟨bb', ob', hbe, hcb1⟩ := hR k (by omega)
      obtain ⟨rfl, rfl⟩ : bb' = bb ∧ ob' = ob := by simpa using hbe.symm
      obtain ⟨bb2, ob2, hbe2, hcb2⟩ := hR (k + 1) hlt
      obtain ⟨rfl, rfl⟩ : bb2 = bb' ∧ ob2 = ob' := by simpa using hbe2.symm
      rw [show ob2 + (k + 1) = ob2 + 1 + k from by omega] at hcb2
      obtain ⟨hx1, hx2⟩ := V5.out k (by omega)
      obtain ⟨hy1, hy2⟩ := V5.out (k + 1) hlt
      obtain ⟨x, hx⟩ := Int.eq_ofNat_of_zero_le hx1
      obtain ⟨y, hy⟩ := Int.eq_ofNat_of_zero_le hy1
      rw [hx] at hx2 hcb1
      rw [hy] at hy2 hcb2
      rw [hx, hy, Int.toNat_natCast, Int.toNat_natCast] at hstep
      have hxn : x < n := by omega
      have hyn : y < n := by omega
      have hcell : w1.cell? ⟨w.heap.size, x * 5 + y, none⟩ = some (.int .i64 (atF F x y)) := A1.out.cell (j := x * 5 + y) (by omega)
      have hmul : wrap64 (valF (atF F) W v0 k * atF F x y) = valF (atF F) W v0 (k + 1) := by rw [← hstep]; exact IntWalk.wrap64_in _ ⟨by omega, by omega⟩
      have hk1 : k < m - 1 := by omega
      have hx5 : x < 5 := by omega
      have hy5 : y < 5 := by omega
      have E := Lib.hid hmul
      clear hx hy hx1 hy1 hbe hbe2 hstep hmul hR
      go_wp2
      go_round
      case rel => exact ⟨k + 1, by omega, by go_num, by rw [E.out]⟩
      case measure => simp [intOf]; omega
    · obtain rfl : k + 1 = m := by omega
      go_wp2
      go_ret
      exact ⟨ret_int rfl, B1.out⟩
end Go.Proofs.YtabdbgnkiebcdaaDoor

namespace Go.Proofs.YtabdbgnkiebcdaaDoor
set_option linter.unusedVariables false
open Go.RowKit

/-- The array F is kept for n moneys. -/
structure Kept (n : Nat) (F : Nat → Int) : Prop where
  le : n ≤ 5
  diag : ∀ i, i < n → atF F i i ≠ 0
  none : n < 5 → atF F n n = 0
  rate : ∀ i k, i < n → k < n → 0 ≤ atF F i k ∧ atF F i k ≤ 144

theorem atF_rate {n : Nat} {L : Nat → Nat} {Z : Nat → Nat → Int} (h : IsRates n L Z) {i k : Nat} (hi : i < n) (hk : k < n) : atF (rateF n L Z) i k = Z i k := by
  have h5 := h.1.2
  have e1 : (i * 5 + k) / 5 = i := by omega
  have e2 : (i * 5 + k) % 5 = k := by omega
  unfold atF
  rw [← rateF_yes h, e1, e2, if_pos ⟨hi, hk⟩]

theorem Kept.of_rates {n : Nat} {L : Nat → Nat} {Z : Nat → Nat → Int} (h : IsRates n L Z) : Kept n (rateF n L Z) := by
  refine ⟨h.1.2, fun i hi => ?_, fun h5 => ?_, fun i k hi hk => ?_⟩
  · rw [atF_rate h hi hi, ((h.2 i hi).2 i hi).2 rfl]; decide
  · have e1 : (n * 5 + n) / 5 = n := by omega
    unfold atF
    rw [← rateF_yes h, e1, if_neg (by omega)]
  · rw [atF_rate h hi hk]
    have := ((h.2 i hi).2 k hk).1
    omega

set_option maxHeartbeats 400000 in
theorem size_any (n : Nat) (F : Nat → Int) (w : World) (h : Kept n F) :
    Calls Tryd.prog 107 #[.agg (cellsV 25 F)] w fun e w' => e = .returned (.int .i64 n) ∧ Below w.heap.size w w' := by
  have hn5 := h.le
  have H := Lib.hid h
  clear h
  go_enter Tryd.func107, Tryd.ntmps107
  go_wp2_with ((with_reducible refine arr_box 25 _ _ F ?_ ?_); exact rfl; intro w1 hA1 hs1 hb1)
  have A1 := Lib.hid hA1
  have B1 := Lib.hid hb1
  clear hA1 hs1 hb1
  go_loop [3] (fun i => ∃ k : Nat, k ≤ n ∧ i = .int .i64 k) (fun i => n - (intOf i).toNat)
  case atStart => exact ⟨0, by omega, rfl⟩
  case round =>
    obtain ⟨k, hk, rfl⟩ := hrel
    by_cases hlt : k < n
    · have hcell : w1.cell? ⟨w.heap.size, k * 5 + k, none⟩ = some (.int .i64 (atF F k k)) := A1.out.cell (j := k * 5 + k) (by omega)
      have hne : (atF F k k != 0) = true := by simpa using H.out.diag k hlt
      have hk5 : k < 5 := by omega
      have hd : decide ((k : Int) < 5) = true := by simp; omega
      go_wp2
      go_round
      case rel => exact ⟨k + 1, by omega, by go_num⟩
      case measure => simp [intOf]; omega
    · obtain rfl : k = n := by omega
      by_cases hk5 : k < 5
      · have hcell : w1.cell? ⟨w.heap.size, k * 5 + k, none⟩ = some (.int .i64 (atF F k k)) := A1.out.cell (j := k * 5 + k) (by omega)
        have hne : (atF F k k != 0) = false := by simpa using H.out.none hk5
        have hd : decide ((k : Int) < 5) = true := by simp; omega
        go_wp2
        go_ret
        exact ⟨rfl, B1.out⟩
      · have hd : decide ((k : Int) < 5) = false := by simp; omega
        go_wp2
        go_ret
        exact ⟨rfl, B1.out⟩
end Go.Proofs.YtabdbgnkiebcdaaDoor
