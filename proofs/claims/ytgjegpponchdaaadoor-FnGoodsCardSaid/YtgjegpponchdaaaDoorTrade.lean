/- The program's trade: the giving that comes by trading in circles, and who is on circles each time. -/
import Derived.Test.YtgjegpponchdaaaDoorDeleteFunc
import Derived.Test.YtgjegpponchdaaaDoorOutside
import Derived.Test.YtgjegpponchdaaaDoorTradeModel
import Derived.Test.YtgjegpponchdaaaDoorInfoInts
namespace Go.Proofs.YtgjegpponchdaaaDoor
set_option linter.unusedVariables false
set_option linter.unusedSimpArgs false
open Go.RowKit

/-- The mask of those on circles in round t. -/
noncomputable def leaveF (Z : Nat → Nat → Int) (n t : Nat) : Int := (maskN (circB Z n (tS Z n t)) n : Nat)

theorem stay_eq {Z : Nat → Nat → Int} {n t : Nat} {gn : Nat → Bool} (h : ∀ r, r < n → gn r = !tS Z n t r) : stay n gn = tS Z n t := by
  funext y
  unfold stay
  by_cases hy : y < n
  · rw [h y hy]; simp [hy]
  · have : tS Z n t y = false := by
      cases e : tS Z n t y
      · rfl
      · exact absurd (tS_ppl Z n t y e) hy
    rw [this]; simp [hy]
/-- Those of the people left who are on circles, as a list. -/
noncomputable def circL (Z : Nat → Nat → Int) (n t : Nat) : List Nat := (pplL n (tS Z n t)).filter (circB Z n (tS Z n t))
theorem circL_back {Z : Nat → Nat → Int} {n t : Nat} {L : Nat → Nat} (hW : IsWishes n L Z) : (pplL n (tS Z n t)).filter (backB (ptS Z n (tS Z n t)) (pplL n (tS Z n t)).length) = circL Z n t := by
  unfold circL
  refine List.filter_congr fun r hr => ?_
  have h1 := (mem_pplL (tS_ppl Z n t)).1 hr
  rw [Bool.eq_iff_iff, circB_steps hW (tS_ppl Z n t) h1]
  exact tt_iff
theorem mem_circL {Z : Nat → Nat → Int} {n t r : Nat} : r ∈ circL Z n t ↔ circB Z n (tS Z n t) r = true := by
  unfold circL
  rw [List.mem_filter, mem_pplL (tS_ppl Z n t)]
  exact ⟨fun h => h.2, fun h => ⟨circB_in h, h⟩⟩
theorem mem_take_succ {D : List Nat} {k y : Nat} (h : k < D.length) : y ∈ D.take (k + 1) ↔ y ∈ D.take k ∨ y = D.getD k 0 := by
  rw [take_getD h, List.mem_append, List.mem_singleton]
/-- What has been got when the first k of D have taken theirs. -/
def takeF (f : Nat → Nat) (G : Nat → Nat) (D : List Nat) (k y : Nat) : Int := if y ∈ D.take k then (f y : Int) else (G y : Int)
theorem takeF_zero (f G : Nat → Nat) (D : List Nat) (y : Nat) : takeF f G D 0 y = (G y : Int) := by unfold takeF; rw [if_neg (by simp)]
theorem takeF_step (f G : Nat → Nat) (D : List Nat) {k r : Nat} (h : k < D.length) (hr : r = D.getD k 0) (y : Nat) : (if y = r then (f r : Int) else takeF f G D k y) = takeF f G D (k + 1) y := by
  unfold takeF
  by_cases e : y = r
  · subst e
    rw [if_pos rfl, if_pos ((mem_take_succ h).2 (.inr hr))]
  · rw [if_neg e]
    by_cases h' : y ∈ D.take k
    · rw [if_pos h', if_pos ((mem_take_succ h).2 (.inl h'))]
    · rw [if_neg h', if_neg (fun h'' => by rcases (mem_take_succ h).1 h'' with h1 | h1; exact h' h1; exact e (h1.trans hr.symm))]
theorem takeF_all {Z : Nat → Nat → Int} {n t : Nat} (y : Nat) : takeF (ptS Z n (tS Z n t)) (gF Z n t) (circL Z n t) (circL Z n t).length y = (gF Z n (t + 1) y : Int) := by
  unfold takeF
  rw [List.take_length]
  show _ = (((if circB Z n (tS Z n t) y = true then ptS Z n (tS Z n t) y else gF Z n t y) : Nat) : Int)
  by_cases h : circB Z n (tS Z n t) y = true
  · rw [if_pos (mem_circL.2 h), if_pos h]
  · rw [if_neg (fun h' => h (mem_circL.1 h')), if_neg h]
/-- Who is gone when the first k of D are. -/
def goneF (gn : Nat → Bool) (D : List Nat) (k y : Nat) : Bool := gn y || decide (y ∈ D.take k)
theorem goneF_zero (gn : Nat → Bool) (D : List Nat) (y : Nat) : gn y = goneF gn D 0 y := by unfold goneF; simp
theorem goneF_step (gn : Nat → Bool) (D : List Nat) {k r : Nat} (h : k < D.length) (hr : r = D.getD k 0) (y : Nat) : (if y = r then true else goneF gn D k y) = goneF gn D (k + 1) y := by
  unfold goneF
  by_cases e : y = r
  · subst e
    rw [if_pos rfl, decide_eq_true ((mem_take_succ h).2 (.inr hr)), Bool.or_true]
  · rw [if_neg e]
    congr 1
    rw [decide_eq_decide, mem_take_succ h]
    exact ⟨.inl, fun h' => h'.elim id (fun h1 => absurd (h1.trans hr.symm) e)⟩
theorem goneF_all {Z : Nat → Nat → Int} {n t : Nat} {gn : Nat → Bool} (h : ∀ r, r < n → gn r = !tS Z n t r) {y : Nat} (hy : y < n) : goneF gn (circL Z n t) (circL Z n t).length y = !tS Z n (t + 1) y := by
  unfold goneF
  rw [List.take_length, h y hy]
  show _ = !(tS Z n t y && !circB Z n (tS Z n t) y)
  by_cases hc : circB Z n (tS Z n t) y = true
  · rw [decide_eq_true (mem_circL.2 hc), hc]; simp
  · rw [decide_eq_false (fun h' => hc (mem_circL.1 h'))]
    have : circB Z n (tS Z n t) y = false := by simpa using hc
    rw [this]; simp
theorem left_next {Z : Nat → Nat → Int} {n t : Nat} {gn : Nat → Bool} (h : ∀ r, r < n → gn r = !tS Z n (t + 1) r) : ((pplL n (tS Z n t)).filter fun r => !gn r) = pplL n (tS Z n (t + 1)) := by
  unfold pplL
  rw [List.filter_filter]
  refine List.filter_congr fun r hr => ?_
  rw [h r (List.mem_range.1 hr), Bool.not_not, Bool.eq_iff_iff, Bool.and_eq_true]
  exact ⟨fun h => h.1, fun h => ⟨h, tS_down h⟩⟩
theorem left_less {Z : Nat → Nat → Int} {n t : Nat} {L : Nat → Nat} (hW : IsWishes n L Z) (h : 0 < (pplL n (tS Z n t)).length) : (pplL n (tS Z n (t + 1))).length < (pplL n (tS Z n t)).length := by
  obtain ⟨j, hj⟩ := List.exists_mem_of_length_pos h
  obtain ⟨z, hz⟩ := circB_some hW (tS_ppl Z n t) ((mem_pplL (tS_ppl Z n t)).1 hj)
  have e : pplL n (tS Z n (t + 1)) = (pplL n (tS Z n t)).filter (tS Z n (t + 1)) := by
    unfold pplL
    rw [List.filter_filter]
    refine List.filter_congr fun r _ => ?_
    rw [Bool.eq_iff_iff, Bool.and_eq_true]
    exact ⟨fun h => ⟨h, tS_down h⟩, fun h => h.1⟩
  rw [e]
  refine List.length_filter_lt_length_iff_exists.2 ⟨z, (mem_pplL (tS_ppl Z n t)).2 (circB_in hz), ?_⟩
  rw [circB_gone hz]; decide
/-- The set of the first k of D. -/
def MaskL (n M : Nat) (D : List Nat) (k : Nat) : Prop := M < 2 ^ n ∧ ∀ y, M.testBit y = true ↔ y ∈ D.take k
theorem MaskL.zero (n : Nat) (D : List Nat) : MaskL n 0 D 0 := ⟨Nat.two_pow_pos n, fun y => by simp⟩
theorem MaskL.next {n M k r : Nat} {D : List Nat} (h : MaskL n M D k) (hk : k < D.length) (hr : r = D.getD k 0) (hn : r < n) : MaskL n (M ||| 2 ^ r) D (k + 1) :=
  ⟨bit_put_lt h.1 hn, fun y => by rw [bit_put_has, h.2 y, mem_take_succ hk, hr]⟩
theorem MaskL.all {Z : Nat → Nat → Int} {n t M : Nat} (h : MaskL n M (circL Z n t) (circL Z n t).length) : (M : Int) = leaveF Z n t := by
  unfold leaveF
  congr 1
  refine Nat.eq_of_testBit_eq fun y => ?_
  rw [(maskN_is (circB_ppl Z (tS_ppl Z n t))).2 y, Bool.eq_iff_iff, h.2 y, List.take_length, mem_circL]

/-- What trade hands back. -/
def RetTrade (n : Nat) (Z : Nat → Nat → Int) (w : World) (e : Ending) (w' : World) : Prop :=
  ∃ v, e = .returned (.tuple #[.slice (some ⟨w.heap.size, 0, none⟩) n n, v]) ∧ w'.rowIs w.heap.size 3 n (fun y => .int .i64 (giveF Z n y)) ∧ w'.ownsRow (w.heap.size + 1) 3 1 v (turnsN Z n) (cellsL (turnsN Z n) (leaveF Z n)) ∧ Below w.heap.size w w'

/-- The blocks of people. -/
def PplB (n G k : Nat) : Prop := G + 2 ≤ k ∧ k < G + 2 + n
/-- The block of the giving, and those of people. -/
def GivB (n G k : Nat) : Prop := k = G ∨ (G + 2 ≤ k ∧ k < G + 2 + n)
theorem ppl_zero (Z : Nat → Nat → Int) (n : Nat) : pplL n (tS Z n 0) = List.range n := by
  unfold pplL
  rw [List.filter_eq_self]
  intro r hr
  show decide (r < n) = true
  simpa using hr
theorem owns_grown {w w' : World} {base e n : Nat} {v : Value} {xs : List Value} {V : Nat → Prop} (h : w.ownsRow base e 1 v n xs) (k : Outside V w w') (hv : ∀ x, base ≤ x → ¬ V x) : w'.ownsRow base e 1 v n xs :=
  owns_any h fun g hg => k.block g (h.lt g hg).2 (hv g (h.lt g hg).1)

theorem Trd.outside {w w' : World} {n : Nat} {V : Nat → Prop} {Z : Nat → Nat → Int} {tb wb cp : Nat → Nat} {pt : Nat → Option Addr} {gn : Nat → Bool} (h : Trd w n Z tb wb cp pt gn) (k : Outside V w w') (h1 : ∀ r, r < n → ¬ V (tb r)) (h2 : ∀ r, r < n → ¬ V (wb r)) : Trd w' n Z tb wb cp pt gn :=
  h.of_blocks (fun r hr => k.block _ (h.lt hr) (h1 r hr)) (fun r hr => k.block _ (h.wlt hr) (h2 r hr))

theorem mem_getD {l : List Nat} {r : Nat} (h : r ∈ l) : ∃ j, j < l.length ∧ l.getD j 0 = r := by
  obtain ⟨j, hj, e⟩ := List.mem_iff_getElem.1 h
  exact ⟨j, hj, by rw [List.getD_eq_getElem?_getD, List.getElem?_eq_getElem hj, e]; rfl⟩
theorem ptrs_get {tb : Nat → Nat} {D : List Nat} {k : Nat} (h : k < D.length) : (ptrs tb D)[k]? = some (.pointer (some ⟨tb (D.getD k 0), 0, none⟩)) := by
  unfold ptrs
  rw [List.getElem?_map, List.getD_eq_getElem?_getD, List.getElem?_eq_getElem h]; rfl
/-- What the loads of one taking read. -/
def Held2 (p q r f : Nat) (W : World) : Prop := W.cell? ⟨p, 0, none⟩ = some (.int .i64 (r : Nat)) ∧ W.cell? ⟨p, 2, none⟩ = some (.pointer (some ⟨q, 0, none⟩)) ∧ W.cell? ⟨q, 0, none⟩ = some (.int .i64 (f : Nat))
theorem held2_drew {p q r f : Nat} {W : World} (h : Held2 p q r f W) : Held2 p q r f W.drew := ⟨by simpa using h.1, by simpa using h.2.1, by simpa using h.2.2⟩
theorem held2_set {p q r f G i : Nat} {W : World} (h : Held2 p q r f W) (h1 : p ≠ G) (h2 : q ≠ G) (v : Value) : Held2 p q r f (W.setCell ⟨G, i, none⟩ v) :=
  ⟨(World.cell?_of_block (w := W) (a := ⟨p, 0, none⟩) (Below.heap_setCell _ _ _ _ h1)).trans h.1, (World.cell?_of_block (w := W) (a := ⟨p, 2, none⟩) (Below.heap_setCell _ _ _ _ h1)).trans h.2.1, (World.cell?_of_block (w := W) (a := ⟨q, 0, none⟩) (Below.heap_setCell _ _ _ _ h2)).trans h.2.2⟩
theorem grown_outside {wr w5 : World} {o : Obj} {row : Option Nat} {B2 : Nat} (hg : (wr.alloc o).grownBy w5 row) (h : ∀ x, row = some x → B2 ≤ x) : Outside (fun k => B2 ≤ k) wr w5 :=
  (Outside.of_below (V := fun k => B2 ≤ k) (below_alloc (Below.refl wr.heap.size wr) o)).trans' (Outside.of_grown hg h) (fun _ _ h => h)

set_option maxHeartbeats 3200000 in
theorem trade_of (n c : Nat) (a : Option Addr) (L : Nat → Nat) (Z : Nat → Nat → Int) (w : World) (hW : IsWishes n L Z)
    (hTr : ∀ w', Below w.heap.size w w' → Calls Tryd.prog 66 #[.slice a n c] w' (RetTraders n Z w')) :
    Calls Tryd.prog 45 #[.slice a n c] w (RetTrade n Z w) := by
  have hn5 := hW.1.2
  have hn2 := hW.1.1
  have HW := Lib.hid hW
  obtain ⟨i0, hi, hz0, hz1, hz2⟩ := info_parts Tryd.infoInt
  have hmk := run_make_row' (P := Tryd.prog) 23 3 (.int .i64 0) 8 Tryd.underlying23 Tryd.infoInt rfl .i64 .i64 n (by omega) (by omega)
  have R0 := Lib.hid ((World.rowIs_made w (.int .i64 0) n 3).congr (g := fun y => .int .i64 (gF Z n 0 y : Nat)) (fun y _ => rfl))
  have B0 := Lib.hid (below_alloc (Below.refl _ w) (.cells (madeCells #[.int .i64 0] n) 3))
  have HTr := Lib.hid (hTr _ B0.out)
  have S0 := Lib.hid (show (w.alloc (.cells (madeCells #[.int .i64 0] n) 3)).heap.size = w.heap.size + 1 by simp)
  clear hW hTr
  go_enter Tryd.func45, Tryd.ntmps45
  go_wp2_with (go_at_call 66; refine HTr.out.mono ?_; rintro e w2 ⟨rfl, wb, cp, hT, hP, hwb, hb2⟩)
  clear hmk
  rw [S0.out] at hT hP hwb hb2
  obtain ⟨G, hG⟩ : ∃ G, G = w.heap.size := ⟨_, rfl⟩
  have QG := Lib.hid hG
  have hR2 := rowIs_below R0.out (show w.heap.size < w.heap.size + 1 by omega) hb2
  have hB2' := B0.out.trans (hb2.mono (by omega))
  rw [← hG] at hT hP hwb hb2 hR2 ⊢
  obtain ⟨tb, htb⟩ : ∃ tb, tb = fun r => G + 1 + 1 + r := ⟨_, rfl⟩
  have htb' : ∀ r, tb r = G + 2 + r := fun r => by rw [htb]
  rw [← htb] at hT hP
  obtain ⟨B2, hB2⟩ : ∃ B2, B2 = w2.heap.size := ⟨_, rfl⟩
  have HTB := Lib.hid htb'
  have HWB := Lib.hid (show ∀ r, r < n → G + 2 + n ≤ wb r ∧ wb r < B2 from fun r hr => ⟨by have := hwb r hr; omega, by rw [hB2]; exact hT.wlt hr⟩)
  have hGB : G + 2 + n ≤ B2 := by have := (HWB.out 0 (by omega)); omega
  have T0 := Lib.hid hT
  have P0 := Lib.hid hP
  have R2 := Lib.hid hR2
  have BW := Lib.hid hB2'
  have QB2 := Lib.hid hB2
  clear hT hP hwb hb2 hR2 hB2' htb htb' hB2 hG R0 B0 S0 HTr
  go_loopg [5, 6] n (fun g lv lf wr => ∃ (t : Nat) (v : Value) (gn : Nat → Bool) (pt : Nat → Option Addr), t + g = n ∧ v = lv ∧ lf = .slice (some ⟨G + 1, 0, none⟩) (pplL n (tS Z n t)).length n ∧ (pplL n (tS Z n t)).length ≤ g ∧ (∀ s, s < t → ∃ y, tS Z n s y = true) ∧ (∀ r, r < n → gn r = !tS Z n t r) ∧
      Trd wr n Z tb wb cp pt gn ∧ PtrW wr (G + 1) tb (pplL n (tS Z n t)) ∧ wr.rowIs G 3 n (fun y => .int .i64 (gF Z n t y : Nat)) ∧ wr.ownsRow B2 3 1 v t (cellsL t (leaveF Z n)) ∧ Below w.heap.size w wr ∧ B2 ≤ wr.heap.size)
  case atStart => exact ⟨0, _, _, _, by omega, rfl, by rw [ppl_zero, List.length_range], by rw [ppl_zero, List.length_range]; exact Nat.le_refl _, fun s hs => absurd hs (Nat.not_lt_zero _), fun r hr => by show false = !decide (r < n); simp [hr], T0.out, by rw [ppl_zero]; exact P0.out, R2.out, ⟨rfl, .inl ⟨rfl, rfl⟩⟩, BW.out, by rw [QB2.out]; exact Nat.le_refl _⟩
  case round =>
    obtain ⟨t, v, gn, pt, htg, rfl, rfl, hlg, hsome, hgn, hT, hP, hR, hO, hB, hBs⟩ := hrel
    have HSome := Lib.hid hsome
    have HGn := Lib.hid hgn
    have HStay := Lib.hid (stay_eq hgn)
    have HT := Lib.hid hT
    have HP := Lib.hid hP
    have HR := Lib.hid hR
    have HO := Lib.hid hO
    have HB := Lib.hid hB
    obtain ⟨l, hl⟩ : ∃ l, l = pplL n (tS Z n t) := ⟨_, rfl⟩
    have QL := Lib.hid hl
    rw [← hl] at hlg HP ⊢
    obtain ⟨m, hm⟩ : ∃ m, m = l.length := ⟨_, rfl⟩
    have QM := Lib.hid hm
    rw [← hm] at hlg ⊢
    have hm5 : m ≤ 5 := by omega
    have hmn : m ≤ n := by omega
    have hmemL : ∀ r, r ∈ l → tS Z n t r = true ∧ r < n := fun r hr => by
      rw [hl] at hr
      have := (mem_pplL (tS_ppl Z n t)).1 hr
      exact ⟨this, tS_ppl Z n t r this⟩
    have HMem := Lib.hid hmemL
    clear hsome hgn hT hP hR hO hB hl hm hmemL T0 P0 R2 BW
    obtain ⟨f, hf⟩ : ∃ f, f = ptS Z n (tS Z n t) := ⟨_, rfl⟩
    have QF := Lib.hid hf
    clear hf
    by_cases hpos : 0 < m
    · have hdp : decide (0 < m) = true := by simpa using hpos
      obtain ⟨wo, rfl⟩ : ∃ wo : World, wo = wr := ⟨_, rfl⟩
      go_wp2
      go_loopw [8, 22] (fun _ s wi => ∃ (k : Nat) (pt' : Nat → Option Addr), k ≤ m ∧ s = .int .i64 k ∧ Trd wi n Z tb wb cp pt' gn ∧ (∀ j, j < k → pt' (l.getD j 0) = some ⟨tb (f (l.getD j 0)), 0, none⟩) ∧ Outside (PplB n G) wo wi) (fun _ s _ => m - (intOf s).toNat)
      case atStart => exact ⟨0, _, Nat.zero_le _, rfl, HT.out, fun j hj => absurd hj (Nat.not_lt_zero _), Outside.refl _ _⟩
      case round =>
        obtain ⟨k, pt', hk, rfl, hT, hpt, hout⟩ := hrel
        have HT2 := Lib.hid hT
        have HPt := Lib.hid hpt
        have HOut := Lib.hid hout
        clear hT hpt hout
        by_cases hkm : k < m
        · have hkl : k < l.length := by rw [← QM.out]; exact hkm
          obtain ⟨r, hr⟩ : ∃ r, r = l.getD k 0 := ⟨_, rfl⟩
          have hrl : r ∈ l := by rw [hr]; exact getD_mem hkl
          have hck := (HP.out.of_block (HOut.out.block (G + 1) (by omega) (by unfold PplB; omega)) k hkl).1
          rw [← hr] at hck
          have hrn := (HMem.out r hrl).2
          have HPo := Lib.hid (point_any n r L Z tb wb cp pt' gn wr HW.out HT2.out hrn (by rw [HGn.out r hrn, (HMem.out r hrl).1]; rfl))
          have QR := Lib.hid hr
          have QP := Lib.hid (show ptS Z n (stay n gn) r = f r by rw [HStay.out, QF.out])
          clear hr hrl hkl
          go_wp2_with (go_at_call 67; refine HPo.out.mono ?_; rintro e w' ⟨rfl, rfl⟩; rw [QP.out])
          go_roundw
          case rel =>
            refine ⟨k + 1, _, by omega, by go_num, HT2.out.setPt hrn _, fun j hj => ?_, HOut.out.setCell (show PplB n G (tb r) by unfold PplB; rw [HTB.out]; omega) _⟩
            by_cases e : l.getD j 0 = r
            · rw [if_pos e, e]
            · rw [if_neg e]
              exact HPt.out j (by
                rcases Nat.lt_or_ge j k with h | h
                · exact h
                · exact absurd (show l.getD j 0 = r by rw [QR.out, show j = k by omega]) e)
          case measure => simp [intOf]; omega
        · obtain rfl : m = k := by omega
          obtain ⟨wq, rfl⟩ : ∃ wq : World, wq = wr := ⟨_, rfl⟩
          obtain ⟨D, hD⟩ : ∃ D, D = l.filter (backB f l.length) := ⟨_, rfl⟩
          have hDc : D = circL Z n t := by rw [hD, QL.out, QF.out]; exact circL_back HW.out
          have hfl : ∀ r, r ∈ l → f r ∈ l := fun r hr => by
            rw [QL.out] at hr ⊢
            rw [QF.out]
            exact (mem_pplL (tS_ppl Z n t)).2 (ptS_in HW.out (tS_ppl Z n t) ((mem_pplL (tS_ppl Z n t)).1 hr))
          have hptl : ∀ r, r ∈ l → pt' r = some ⟨tb (f r), 0, none⟩ := fun r hr => by
            obtain ⟨j, hj, e⟩ := mem_getD hr
            have := HPt.out j (by rw [QM.out]; exact hj)
            rwa [e] at this
          have hDpos : 0 < D.length := by
            obtain ⟨j, hj⟩ := List.exists_mem_of_length_pos (show 0 < l.length by rw [← QM.out]; exact hpos)
            obtain ⟨z, hz⟩ := circB_some HW.out (tS_ppl Z n t) (HMem.out j hj).1
            rw [hDc]
            exact List.length_pos_of_mem (mem_circL.2 hz)
          have hDl : D.length ≤ m := by rw [hD, QM.out]; exact List.length_filter_le _ _
          have hDmem : ∀ r, r ∈ D → r ∈ l := fun r hr => by rw [hD] at hr; exact (List.mem_filter.1 hr).1
          have hoc := onCircles_any n n (G + 1) l f Z tb wb cp pt' gn wq HT2.out (fun r hr => ⟨(HMem.out r hr).2, hfl r hr, hptl r hr⟩) (by rw [← QM.out]; exact hm5) (HP.out.of_block (HOut.out.block (G + 1) (by omega) (by unfold PplB; omega))).at (by have := HOut.out.size; omega)
          rw [← hD, ← QM.out] at hoc
          have HLo := Lib.hid hoc
          have QD := Lib.hid hDc
          have HDm := Lib.hid hDmem
          have HPtl := Lib.hid hptl
          have HFl := Lib.hid hfl
          have hqs := HOut.out.size
          clear hoc hD hDc hDmem hptl hfl HPt
          go_wp2_with (go_at_call 68; refine HLo.out.mono ?_; rintro e w3 ⟨vd, rfl, hown3, hb3⟩; obtain ⟨gd, capd, rfl⟩ := owns_form hown3 hDpos)
          obtain ⟨d, hd⟩ : ∃ d, d = D.length := ⟨_, rfl⟩
          rw [← hd] at hDpos hDl hown3 ⊢
          have QDl := Lib.hid hd
          have hgl := hown3.lt gd rfl
          have hs3 := hb3.size
          have T3 := Lib.hid ((HT2.out.below hb3).congr (gn' := goneF gn D 0) (fun r _ => rfl) (fun r _ => goneF_zero gn D r))
          have R3 := Lib.hid (((HR.out.of_block (HOut.out.block G (by have := HR.out.lt; omega) (by unfold PplB; omega))).of_block (hb3.block G (by have := HR.out.lt; omega))).congr (g := fun y => .int .i64 (takeF f (gF Z n t) D 0 y)) (fun y _ => by rw [takeF_zero]))
          have HO3 := Lib.hid hown3
          have HB3 := Lib.hid hb3
          clear hd hown3 hb3 HLo
          go_loopw [9, 11, 32] (fun st _ s wi => ∃ (k M : Nat), k ≤ d ∧ s = .int .i64 k ∧ st = .int .i64 (M : Nat) ∧ MaskL n M D k ∧ wi.rowIs G 3 n (fun y => .int .i64 (takeF f (gF Z n t) D k y)) ∧ Trd wi n Z tb wb cp pt' (goneF gn D k) ∧ Outside (GivB n G) w3 wi) (fun _ _ s _ => d - (intOf s).toNat)
          case atStart => exact ⟨0, 0, Nat.zero_le _, rfl, rfl, MaskL.zero _ _, R3.out, T3.out, Outside.refl _ _⟩
          case round =>
            obtain ⟨k, M, hk, rfl, rfl, hM, hR, hT, hout⟩ := hrel
            clear R3 T3
            have HM := Lib.hid hM
            have HR4 := Lib.hid hR
            have HT4 := Lib.hid hT
            have HO4 := Lib.hid hout
            by_cases hkd : k < d
            · have hkD : k < D.length := by rw [← QDl.out]; exact hkd
              obtain ⟨r, hr⟩ : ∃ r, r = D.getD k 0 := ⟨_, rfl⟩
              have hrD : r ∈ D := by rw [hr]; exact getD_mem hkD
              have hrl := HDm.out r hrD
              have hrn := (HMem.out r hrl).2
              obtain ⟨q, hq⟩ : ∃ q, q = f r := ⟨_, rfl⟩
              have hqn : q < n := by rw [hq]; exact (HMem.out _ (HFl.out r hrl)).2
              have cD : wr.cell? ⟨gd, k, none⟩ = some (.pointer (some ⟨tb r, 0, none⟩)) := by
                have h1 := HO3.out.cells (g := gd) rfl k _ (ptrs_get hkD)
                rw [Go.WideShapes.add_plain, Nat.zero_add, ← hr] at h1
                exact hout.cell (by show ¬ GivB n G gd; unfold GivB; omega) h1
              have c0 := hT.c0 hrn
              have c2 := hT.c2 hrn
              rw [HPtl.out r hrl, ← hq] at c2
              have cq := hT.c0 hqn
              have c3 := hT.c3 hrn
              have f3 := hT.fz hrn 3
              obtain ⟨g0, hg0⟩ : ∃ g0, g0 = goneF gn D k r := ⟨_, rfl⟩
              rw [← hg0] at c3
              have cG := hR.cell hrn
              have fG := hR.frozen r
              have htr := HTB.out r
              have htq := HTB.out q
              have hnr : tb r ≠ G := by omega
              have hnq : tb q ≠ G := by omega
              have s3 : ∀ v, (wr.setCell ⟨G, r, none⟩ v).cell? ⟨tb r, 3, none⟩ = some (.bool g0) := fun v => (World.cell?_of_block (w := wr) (a := ⟨tb r, 3, none⟩) (Below.heap_setCell _ _ _ _ hnr)).trans c3
              have s3f : ∀ v, (wr.setCell ⟨G, r, none⟩ v).frozen? ⟨tb r, 3, none⟩ = false := fun v => by rw [World.frozen?_setCell]; exact f3
              have s0 : ∀ v u, ((wr.setCell ⟨G, r, none⟩ v).setCell ⟨tb r, 3, none⟩ u).cell? ⟨tb r, 0, none⟩ = some (.int .i64 (r : Nat)) := fun v u => by
                rw [World.cell?_setCell_other (a := ⟨tb r, 3, none⟩) (b := ⟨tb r, 0, none⟩) (h := fun h => by simp at h)]
                exact (World.cell?_of_block (w := wr) (a := ⟨tb r, 0, none⟩) (Below.heap_setCell _ _ _ _ hnr)).trans c0
              have hput := bit_put M r (Nat.lt_trans hM.1 (two_pow_lt (by omega))) (by omega)
              obtain ⟨M', hM'⟩ : ∃ M', M' = M ||| 2 ^ r := ⟨_, rfl⟩
              rw [← hM'] at hput
              have HM' := Lib.hid (show MaskL n M' D (k + 1) by rw [hM']; exact hM.next hkD hr hrn)
              have HN := Lib.hid (fun y => takeF_step f (gF Z n t) D hkD hr y)
              have HGo := Lib.hid (fun y => goneF_step gn D hkD hr y)
              have QQ := Lib.hid hq
              have hr0 : (0 : Int) ≤ (r : Int) := by omega
              have hrn' : (r : Int) < (n : Int) := by omega
              have hbtr := Lib.hid htr
              clear hM' hq hg0 hr hrD hrl hkD hM hR hT hout htr htq
              go_wp2
              go_region_held3 (fun W => W.cell? ⟨tb r, 0, none⟩ = some (.int .i64 (r : Nat)) ∧ W.cell? ⟨tb r, 2, none⟩ = some (.pointer (some ⟨tb q, 0, none⟩)) ∧ W.cell? ⟨tb q, 0, none⟩ = some (.int .i64 (q : Nat)))
                (first | exact held2_drew ⟨c0, c2, cq⟩ | exact held2_set (by assumption) hnr hnq _) (fail)
              go_wp2
              go_roundw
              case rel =>
                refine ⟨k + 1, M', by omega, by go_num, rfl, HM'.out, ?_, ?_, ?_⟩
                · refine ((HR4.out.set r (.int .i64 (q : Nat))).of_block (Below.heap_setCell _ _ _ _ (Ne.symm hnr))).congr (fun y _ => ?_)
                  rw [← HN.out y]
                  by_cases e : y = r
                  · rw [if_pos e, if_pos e, QQ.out]
                  · rw [if_neg e, if_neg e]
                · refine (((HT4.out.setCell ⟨G, r, none⟩ (.int .i64 (q : Nat)) (fun x hx => by rw [HTB.out]; show _ ≠ G; omega) (fun x hx => by have := (HWB.out x hx).1; show _ ≠ G; omega)).setGn hrn true).congr (fun _ _ => rfl) (fun y _ => HGo.out y)).of_blocks (fun _ _ => rfl) (fun _ _ => rfl)
                · have ho := (HO4.out.setCell (p := ⟨G, r, none⟩) (show GivB n G G from .inl rfl) (.int .i64 (q : Nat))).setCell (p := ⟨tb r, 3, none⟩) (show GivB n G (tb r) from .inr (by have := hbtr.out; omega)) (.bool true)
                  exact ⟨ho.os, ho.tape, ho.output, ho.size, ho.block⟩
              case measure => simp [intOf]; omega
            · obtain rfl : d = k := by omega
              have hMl : (M : Int) = leaveF Z n t := by
                have h1 := hM
                rw [QDl.out, QD.out] at h1
                exact h1.all
              have hvl : ∀ x, v.ownBlock = some x → B2 ≤ x := fun x hx => (HO.out.lt x hx).1
              have o1 : wq.ownsRow B2 3 1 v t (cellsL t (leaveF Z n)) := owns_grown HO.out HOut.out (fun x hx h => by unfold PplB at h; omega)
              have o2 : w3.ownsRow B2 3 1 v t (cellsL t (leaveF Z n)) := owns_any o1 fun g hg => HB3.out.block g (o1.lt g hg).2
              have o3 : wr.ownsRow B2 3 1 v t (cellsL t (leaveF Z n)) := owns_grown o2 hout (fun x hx h => by unfold GivB at h; omega)
              have hso := hout.size
              have p3 : PtrW wr (G + 1) tb l := ((HP.out.of_block (HOut.out.block (G + 1) (by omega) (by unfold PplB; omega))).of_block (HB3.out.block (G + 1) (by omega))).of_block (hout.block (G + 1) (by omega) (by unfold GivB; omega))
              have hBr : Below w.heap.size w wr := ((HB.out.trans (HOut.out.below HB.out.size (fun x hx => by unfold PplB at hx; rw [← QG.out]; omega))).trans (HB3.out.mono (by have := HB.out.size; omega))).trans (hout.below (by have := HB.out.size; omega) (fun x hx => by unfold GivB at hx; rw [← QG.out]; omega))
              have HVl := Lib.hid hvl
              have HO3' := Lib.hid o3
              have HP3 := Lib.hid p3
              have HBr := Lib.hid hBr
              have HMl := Lib.hid hMl
              clear hMl hvl o1 o2 o3 p3 hBr hM hR hT hout
              go_wp2_with (first
                | (at_builtin; refine wpList_append_lies _ (by rfl) (.tmp 60) (.tmp 62) 23 (by rfl) B2 3 i0 (.int .i64 0) 1 8 Tryd.underlying23 hi hz0 hz1 hz2 (by rfl) (by decide) v t (cellsL t (leaveF Z n)) (by rfl) (HO3'.out.alloc _) ⟨_, 0, none⟩ 1 1 [.int .i64 (M : Nat)] (by rfl) (by rfl) (news_one (by simp)) (by simp [Value.oneCell']) (by omega) (by unfold maxLen; omega) (by omega) (by simp; omega) _ rfl ?_; intro g5 cap5 w5 hown5 hgrow5 hat5 hlt5; have N5 := Lib.hid hown5; have G5 := Lib.hid (grown_outside hgrow5 HVl.out); clear hown5 hgrow5 hat5 hlt5; have HDl := Lib.hid (deleteFunc_any n n (G + 1) l Z tb wb cp pt' (goneF gn D d) w5 (HT4.out.outside G5.out (fun x hx => by rw [HTB.out]; omega) (fun x hx => by have := (HWB.out x hx).2; omega)) (fun x hx => by rw [HTB.out]; omega) (fun x hx => by have := (HWB.out x hx).1; omega) (fun x hx => (HMem.out x hx).2) (by rw [← QM.out]; exact hm5) (by rw [← QM.out]; exact hmn) hn5 (HP3.out.of_block (G5.out.block (G + 1) (by omega) (by omega)))))
                | (go_at_call 69; have hdl := HDl.out; rw [← QM.out] at hdl; refine hdl.mono ?_; rintro e w6 ⟨rfl, hP6, hK6⟩))
              have hGn' : ∀ r, r < n → goneF gn D d r = !tS Z n (t + 1) r := fun r hr => by rw [QDl.out, QD.out]; exact goneF_all HGn.out hr
              have hleft : (l.filter fun r => !goneF gn D d r) = pplL n (tS Z n (t + 1)) := by rw [QL.out]; exact left_next hGn'
              rw [hleft] at hP6 ⊢
              have hless : (pplL n (tS Z n (t + 1))).length < m := by
                have := left_less HW.out (show 0 < (pplL n (tS Z n t)).length by rw [← QL.out, ← QM.out]; exact hpos)
                rwa [← QL.out, ← QM.out] at this
              have h5s := G5.out.size
              have T6 := Lib.hid (((HT4.out.outside G5.out (fun x hx => by rw [HTB.out]; omega) (fun x hx => by have := (HWB.out x hx).2; omega)).keeps hK6 (fun x hx => by rw [HTB.out]; omega) (fun x hx => by have := (HWB.out x hx).1; omega)).congr (gn' := goneF gn D d) (fun _ _ => rfl) (fun _ _ => rfl))
              have R6 := Lib.hid (((HR4.out.of_block (G5.out.block G (by omega) (by omega))).of_block (hK6.block G (by omega))).congr (g := fun y => .int .i64 (gF Z n (t + 1) y : Nat)) (fun y _ => by rw [QDl.out, QD.out, QF.out, takeF_all]))
              have O6 : Hid (w6.ownsRow B2 3 1 (.slice (some ⟨g5, 0, none⟩) (t + 1) cap5) (t + 1) (cellsL (t + 1) (leaveF Z n))) := Lib.hid (by
                have h1 := owns_at N5.out (hK6.block g5 (by have := (N5.out.lt g5 rfl).1; omega))
                rw [HMl.out, cellsL_snoc, cellsL_congr (Y := leaveF Z n) (fun j hj => by
                  by_cases e : j < t
                  · rw [if_pos e]
                  · rw [if_neg e, show j = t by omega])] at h1
                exact h1)
              have B6 := Lib.hid ((HBr.out.trans (G5.out.below (by have := HBr.out.size; omega) (fun x hx => by rw [← QG.out]; omega))).trans (hK6.below.mono (by rw [← QG.out]; omega)))
              have HP6 := Lib.hid hP6
              have hk6 := hK6.size
              clear hP6 hK6
              go_wp2
              go_roundg (gk - 1)
              case measure => omega
              case rel =>
                exact ⟨t + 1, _, _, _, by omega, rfl, rfl, by omega, fun s hs => by
                  by_cases e : s = t
                  · subst e
                    obtain ⟨j, hj⟩ := List.exists_mem_of_length_pos (show 0 < l.length by rw [← QM.out]; exact hpos)
                    exact ⟨j, (HMem.out j hj).1⟩
                  · exact HSome.out s (by omega), hGn', T6.out, HP6.out, R6.out, O6.out, B6.out, by omega⟩
    · obtain rfl : m = 0 := by omega
      have hnil : l = [] := List.eq_nil_of_length_eq_zero QM.out.symm
      have HTn := Lib.hid (show turnsN Z n = t from turnsN_of ⟨fun y => by
        cases e : tS Z n t y
        · rfl
        · have := (mem_pplL (tS_ppl Z n t)).2 e
          rw [← QL.out, hnil] at this; simp at this, HSome.out⟩)
      clear hnil
      go_wp2
      go_ret2
      refine ⟨v, by rw [← QG.out]; rfl, ?_, ?_, HB.out⟩
      · rw [← QG.out]
        refine HR.out.congr fun y _ => ?_
        unfold giveF
        rw [HTn.out]
      · rw [HTn.out]; exact owns_base HO.out (by rw [← QG.out]; omega)
end Go.Proofs.YtgjegpponchdaaaDoor
