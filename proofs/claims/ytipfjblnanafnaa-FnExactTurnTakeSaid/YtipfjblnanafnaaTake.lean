/- The program's take and TurnTake. -/
import Derived.Test.YtipfjblnanafnaaTakeModel
import Derived.Test.YtipfjblnanafnaaL5Take
import Derived.Test.YtipfjblnanafnaaReadGiven
import Derived.Test.YtipfjblnanafnaaBox
import Derived.StillTailTactics
namespace Go.Proofs.Ytipfjblnanafnaa
set_option linter.unusedVariables false
set_option linter.unusedSimpArgs false
open Go.RowKit

section
variable {P : Program} {ops : Array Oper} {rest : List Oper} {a : Act} {w : World} {Q : Exit → Act → World → Prop} {d : Option Nat} {ot : TypeId} {pos : String} {aft : Array Edge}
/-- A whole struct of two words is stored. -/
theorem row2_store (ty t : Nat) (x y : Operand) (g : Nat) (v1 v2 u1 u2 : Value) (hx : a.eval x = .pointer (some ⟨g, 0, none⟩)) (hy : a.eval y = .agg #[u1, u2]) (hg : w.heap[g]? = some (.cells #[v1, v2] t (0, 0))) (hi : (P.info? ty).map (·.size) = some 2) (h1 : u1.oneCell' = true) (h2 : u2.oneCell' = true)
    (h : ∀ w1 : World, w1.heap[g]? = some (.cells #[u1, u2] t (0, 0)) → w1.heap.size = w.heap.size → (∀ k, k ≠ g → w1.heap[k]? = w.heap[k]?) → Below g w w1 → wpList P ops Q rest (a.put d undef) w1) : wpList P ops Q (⟨d, Op.store ty x y, ot, pos, aft, none⟩ :: rest) a w := by
  refine wpList_plain rfl fun K hK' => ?_
  refine wp_store_row ty x y rfl g #[u1, u2] hx hy t #[v1, v2] hg hi rfl (by simp [h1, h2]) (hK' _ _ ?_)
  exact h _ (setRow_heap w g #[v1, v2] #[u1, u2] t (0, 0) hg) (by simp) (fun k hk => setRow_other w g k _ hk) (below_setRow w _ (Nat.le_refl _))
end
/-- The result of a function that hands back a struct of two words. -/
theorem results_row2 {P : Program} {fn : Func} {p : Tmp} {ty : TypeId} (h : fn.results = #[.cell p ty]) (tmps : Array Value) (w : World) (g t : Nat) (v1 v2 : Value) (dd : TypeDesc)
    (hp : tmps.getD p undef = .pointer (some ⟨g, 0, none⟩)) (hg : w.heap[g]? = some (.cells #[v1, v2] t (0, 0))) (hu : P.underlying ty = some dd) (hd : (match dd with | .struct _ | .array _ _ => true | _ => false) = true) (hi : (P.info? ty).map (·.size) = some 2) :
    (results fn tmps).run P w = .ok (.agg #[v1, v2]) w :=
  results_cell_row h tmps w g t #[v1, v2] (0, 0) _ hp hg hu hd hi
theorem Try.sizeTaking : (Try.prog.info? 53).map (·.size) = some 2 := by kernel_rfl

theorem everybodyP_any (n c : Nat) (a : Option Addr) (w : World) (hn : n ≤ 5) :
    Calls Try.prog 64 #[.slice a n c] w fun e w' => e = .returned (.int .i64 ((2 ^ n - 1 : Nat) : Int)) ∧ w = w' := by
  have hw := wrap_pow (show n < 62 by omega)
  have h2 : (2 : Nat) ^ n ≤ 32 := Nat.pow_le_pow_right (show 0 < 2 by omega) hn
  have h1 : 1 ≤ (2 : Nat) ^ n := Nat.pow_pos (by omega)
  have e : ((2 ^ n : Nat) : Int) = (2 : Int) ^ n := by simp
  have hw1 := Lib.hid (show Ending.returned (Value.int .i64 (wrap64 (2 ^ n - 1))) = .returned (.int .i64 ((2 ^ n - 1 : Nat) : Int)) by
    rw [← e, IntWalk.wrap64_in _ ⟨by omega, by omega⟩, show ((2 ^ n - 1 : Nat) : Int) = ((2 ^ n : Nat) : Int) - 1 by omega])
  clear e
  go_enter Try.func64, Try.ntmps64
  go_wp2
  go_ret
  exact ⟨hw1.out, rfl⟩

/-- Is a house left, as the program asks. -/
theorem leftHas_any (g M x : Nat) (w : World) (hM : M ≤ 31) (hx5 : x ≤ 5) (hc : w.cell? ⟨g, 0, none⟩ = some (.int .i64 (M : Nat))) :
    Calls Try.prog 66 #[.int .i64 (x : Nat), .pointer (some ⟨g, 0, none⟩)] w fun e w' => e = .returned (.bool (M.testBit x)) ∧ w = w' := by
  have hhas := bit_has M x (by omega)
  have HE := Lib.hid hhas
  have HX := Lib.hid (show (0 : Int) ≤ (x : Int) by omega)
  clear hhas
  obtain ⟨B, hB⟩ : ∃ B, B = M.testBit x := ⟨_, rfl⟩
  have hhas := HE.out
  rw [← hB] at hhas ⊢
  clear HE hB
  go_enter Try.func66, Try.ntmps66
  go_wp2
  go_ret
  exact ⟨rfl, rfl⟩

set_option maxHeartbeats 800000 in
/-- The library's IndexFunc at a set: the first place that is in it. -/
theorem indexLeft_any (n c g M j : Nat) (a : Option Addr) (X : Nat → Int) (w : World) (hn5 : n ≤ 5) (hM : M ≤ 31) (hd : IsDiff n n X) (hc : w.cell? ⟨g, 0, none⟩ = some (.int .i64 (M : Nat))) (ha : Rd w a n X) (hj : j < n) (hyes : M.testBit (X j).toNat = true) (hno : ∀ i, i < j → M.testBit (X i).toNat = false) :
    Calls Try.prog 65 #[.slice a n c, .func (.func 66) #[] #[.pointer (some ⟨g, 0, none⟩)]] w fun e w' => e = .returned (.int .i64 (j : Nat)) ∧ w = w' := by
  have HA := Lib.hid ha
  have HD := Lib.hid hd
  have HC := Lib.hid (fun x hx => leftHas_any g M x w hM hx hc)
  have HY := Lib.hid hyes
  have HN := Lib.hid hno
  clear ha hd hc hyes hno
  go_enter Try.func65, Try.ntmps65
  go_wp2
  go_loop [4, 5, 8] (fun _ _ s => ∃ k : Nat, k ≤ j ∧ s = .int .i64 k) (fun _ _ s => n - (intOf s).toNat)
  case atStart => exact ⟨0, Nat.zero_le _, rfl⟩
  case round =>
    obtain ⟨k, hk, rfl⟩ := hrel
    have hkn : k < n := by omega
    obtain ⟨ba, oa, rfl, hca⟩ := HA.out k hkn
    obtain ⟨x, hx, hxn⟩ := diff_nat HD.out hkn
    rw [hx] at hca
    have hXn : (X k).toNat = x := by rw [hx]; rfl
    by_cases hlt : k < j
    · have T1 := Lib.hid (show M.testBit x = false by rw [← hXn]; exact HN.out k hlt)
      clear hx hXn
      go_wp2_with (go_at_call 66; refine (HC.out x (by omega)).mono ?_; rintro e w' ⟨rfl, rfl⟩; rw [T1.out])
      go_round
      case rel => exact ⟨k + 1, by omega, by go_num⟩
      case measure => simp [intOf]; omega
    · obtain rfl : k = j := by omega
      have T1 := Lib.hid (show M.testBit x = true by rw [← hXn]; exact HY.out)
      clear hx hXn
      go_wp2_with (go_at_call 66; refine (HC.out x (by omega)).mono ?_; rintro e w' ⟨rfl, rfl⟩; rw [T1.out])
      go_ret
      exact ⟨rfl, rfl⟩

/-- What take hands back: the order as it came, and a giving of its own. -/
def RetTake (b : Option Addr) (d n : Nat) (X : Nat → Int) (w : World) (e : Ending) (w' : World) : Prop :=
  ∃ g cap, e = .returned (.agg #[.slice b n d, .slice (some ⟨g, 0, none⟩) n cap]) ∧ (w.heap.size ≤ g ∧ g < w'.heap.size ∧ n ≤ cap) ∧ OwnR w' g (some ⟨g, 0, none⟩) n X ∧ Below w.heap.size w w'

set_option maxRecDepth 100000 in
set_option maxHeartbeats 3200000 in
theorem take_any (n c d : Nat) (a b : Option Addr) (A : Nat → Option Addr) (L C : Nat → Nat) (Z : Nat → Nat → Int) (O : Nat → Int) (w : World) (hg : GivenOk n L Z n O) (ha0 : Tab w a n A L C Z) (hb0 : Rd w b n O) :
    Calls Try.prog 42 #[.slice a n c, .slice b n d] w (RetTake b d n (tkF Z n O n) w) := by
  have hn5 := hg.1.1.2
  have hn2 := hg.1.1.1
  have HA := Lib.hid ha0
  have HBB := Lib.hid hb0
  have HG := Lib.hid hg
  have hmk := run_make_row' (P := Try.prog) 23 3 (.int .i64 0) 8 Try.underlying23 Try.infoInt rfl .i64 .i64 n (by omega) (by omega)
  obtain ⟨M0, hM0⟩ : ∃ M0, M0 = 2 ^ n - 1 := ⟨_, rfl⟩
  have hp : 2 ^ n ≤ 2 ^ 5 := Nat.pow_le_pow_right (by omega) hn5
  have HM0 := Lib.hid (show M0 ≤ 31 ∧ ∀ y, M0.testBit y = tkS Z n O 0 y from ⟨by omega, fun y => by rw [hM0, Nat.testBit_two_pow_sub_one]; rfl⟩)
  have HE := Lib.hid (fun w1 => show Calls Try.prog 64 #[.slice a n c] w1 fun e w' => e = .returned (.int .i64 (M0 : Int)) ∧ w1 = w' from by rw [hM0]; exact everybodyP_any n c a w1 hn5)
  clear ha0 hb0 hg hM0 hp
  go_enter Try.func42, Try.ntmps42
  go_wp2_with (go_at_call 64; refine (HE.out _).mono ?_; rintro e w' ⟨rfl, rfl⟩)
  clear hmk
  obtain ⟨s, hs⟩ : ∃ s, s = w.heap.size := ⟨_, rfl⟩
  obtain ⟨w0, hw0⟩ : ∃ w0, w0 = ((w.alloc (.cells #[.slice none 0 0, .slice none 0 0] 53)).alloc (.cells (madeCells #[.int .i64 0] n) 3)).alloc (.cells #[.int .i64 M0] 3) := ⟨_, rfl⟩
  rw [← hw0, ← hs]
  have R0 := Lib.hid (show w0.rowIs (s + 1) 3 n (fun y => .int .i64 (tkF Z n O 0 y)) from by
    have h := (World.rowIs_made (w.alloc (.cells #[.slice none 0 0, .slice none 0 0] 53)) (.int .i64 0) n 3).congr (g := fun y => .int .i64 (tkF Z n O 0 y)) (fun y _ => rfl)
    rw [World.size_alloc, ← hs] at h
    rw [hw0]
    exact h.of_block (Below.heap_alloc _ _ _ (by simp; omega)))
  have K0 := Lib.hid (show w0.heap[s]? = some (.cells #[.slice none 0 0, .slice none 0 0] 53 (0, 0)) from by
    rw [hw0, hs, Below.heap_alloc _ _ _ (by simp; omega), Below.heap_alloc _ _ _ (by simp)]
    exact heap_alloc_last w _)
  have C0 := Lib.hid (show w0.cell? ⟨s + 1 + 1, 0, none⟩ = some (.int .i64 M0) ∧ w0.frozen? ⟨s + 1 + 1, 0, none⟩ = false from by
    have h := heap_alloc_last ((w.alloc (.cells #[.slice none 0 0, .slice none 0 0] 53)).alloc (.cells (madeCells #[.int .i64 0] n) 3)) (.cells #[.int .i64 M0] 3)
    rw [World.size_alloc, World.size_alloc, ← hs, ← hw0] at h
    exact ⟨cell_of_row _ _ 0 _ _ _ h, frozen_of_row _ _ 0 _ _ h⟩)
  have B0 := Lib.hid (show Below w.heap.size w w0 from by rw [hw0]; exact below_alloc (below_alloc (below_alloc (Below.refl _ w) _) _) _)
  have S0 := Lib.hid (show w0.heap.size = s + 3 from by rw [hw0, hs]; simp)
  have hsw : w.heap.size ≤ s := by omega
  have hsw2 : s ≤ w.heap.size := by omega
  clear hs hw0
  go_loopw [8, 9, 10, 18] (fun _ _ _ i wr => ∃ k M : Nat, k ≤ n ∧ i = .int .i64 k ∧ M ≤ 31 ∧ (∀ y, M.testBit y = tkS Z n O k y) ∧ wr.rowIs (s + 1) 3 n (fun y => .int .i64 (tkF Z n O k y)) ∧ wr.heap[s]? = some (.cells #[.slice none 0 0, .slice none 0 0] 53 (0, 0)) ∧ (wr.cell? ⟨s + 1 + 1, 0, none⟩ = some (.int .i64 M) ∧ wr.frozen? ⟨s + 1 + 1, 0, none⟩ = false) ∧ Below w.heap.size w wr) (fun _ _ _ i _ => n - (intOf i).toNat)
  case atStart => exact ⟨0, M0, Nat.zero_le _, rfl, HM0.out.1, HM0.out.2, R0.out, K0.out, C0.out, B0.out⟩
  case round =>
    obtain ⟨k, M, hk, rfl, hM, hbit, hrow, hbl, ⟨hcl, hfl⟩, hB⟩ := hrel
    clear R0 B0 K0 C0 S0 HM0 HE
    by_cases hlt : k < n
    · obtain ⟨bo, oo, rfl, hco⟩ := HBB.out.below (Nat.le_refl _) hB k hlt
      obtain ⟨p, hOp, hpn⟩ := diff_nat HG.out.2.2 hlt
      rw [hOp] at hco
      have hOn : (O k).toNat = p := by rw [hOp]; rfl
      obtain ⟨ba, oa, rfl, hca, hra⟩ := HA.out.below (Nat.le_refl _) hB p hpn
      rw [(HG.out.1.2 p hpn).1] at hca hra
      obtain ⟨j, hj, hyes, hno, hxe⟩ := tkX_spec (O := O) (k := k) HG.out.1 (by omega) hlt
      rw [hOn] at hyes hno hxe
      obtain ⟨x, hZx, hxn⟩ := diff_nat (HG.out.1.2 p hpn).2 hj
      have hx : x = tkX Z n O k := by rw [hxe, hZx]; rfl
      obtain ⟨M', hand, hle, hbit'⟩ := left_next (by omega) (show x < 62 by omega) hbit hx
      have HB' := Lib.hid hbit'
      have HP := Lib.hid (indexLeft_any n (C p) (s + 1 + 1) M j (A p) (Z p) wr hn5 hM (HG.out.1.2 p hpn).2 hcl hra hj (by rw [hbit]; exact hyes) (fun i hi => by rw [hbit]; exact hno i hi))
      obtain ⟨br, or, hrw, hcj⟩ := hra j hj
      rw [hZx] at hcj
      rw [hrw] at hca HP
      have hc1 := hrow.cell hpn
      have hf1 := hrow.frozen p
      have HN := Lib.hid ((hrow.set p (.int .i64 (x : Nat))).congr (g := fun y => .int .i64 (tkF Z n O (k + 1) y)) (fun y _ => by
        rw [← tkF_next hOn hx y]
        by_cases e : y = p
        · rw [if_pos e, if_pos e]
        · rw [if_neg e, if_neg e]))
      have HBn := Lib.hid hB
      have HBL := Lib.hid hbl
      have HBS := Lib.hid hbit
      have i1 : (0 : Int) ≤ (p : Int) := by omega
      have i2 : (p : Int) < (n : Int) := by omega
      have i3 : (0 : Int) ≤ (j : Int) := by omega
      have i4 : (j : Int) < (n : Int) := by omega
      have hcl2 : (wr.setCell ⟨s + 1, p, none⟩ (.int .i64 (x : Nat))).cell? ⟨s + 1 + 1, 0, none⟩ = some (.int .i64 M) := by
        rw [World.cell?_setCell_other (a := ⟨s + 1, p, none⟩) (b := ⟨s + 1 + 1, 0, none⟩) (h := fun h => by simp only [Addr.mk.injEq] at h; omega)]; exact hcl
      have hfl2 : (wr.setCell ⟨s + 1, p, none⟩ (.int .i64 (x : Nat))).frozen? ⟨s + 1 + 1, 0, none⟩ = false := by rw [World.frozen?_setCell]; exact hfl
      clear hbit hbit' hOp hOn hx hrow hB hra hbl hyes hno hxe hZx hrw
      go_wp2_with (go_at_call 65; refine HP.out.mono ?_; rintro e w' ⟨rfl, rfl⟩)
      obtain ⟨w1, hw1⟩ : ∃ w1, w1 = wr.setCell ⟨s + 1, p, none⟩ (.int .i64 (x : Nat)) := ⟨_, rfl⟩
      rw [← hw1]
      rw [← hw1] at hcl2 hfl2
      have HW1 := Lib.hid hw1
      clear hw1 hcl hfl hc1 hf1
      go_still_tail 4, (by kernel_rfl)
      go_wp2
      go_roundw
      case rel =>
        
        have e1 := HW1.out
        refine ⟨k + 1, M', by omega, by go_num, by omega, HB'.out, ?_, ?_, ?_, ?_⟩
        · rw [← e1] at HN
          exact HN.out.of_block (Below.heap_setCell _ _ _ _ (show s + 1 ≠ s + 1 + 1 by omega))
        · show (World.setCell w1 _ _).heap[s]? = _
          rw [Below.heap_setCell _ _ _ _ (show s ≠ s + 1 + 1 by omega), e1, Below.heap_setCell _ _ _ _ (show s ≠ s + 1 by omega)]
          exact HBL.out
        · exact ⟨World.cell?_setCell_same' _ _ _ (by rw [hcl2]; rfl), by show (w1.setCell _ _).frozen? _ = false; rw [World.frozen?_setCell]; exact hfl2⟩
        · have := HBn.out.setCell (p := ⟨s + 1, p, none⟩) (by show w.heap.size ≤ s + 1; omega) (.int .i64 (x : Nat))
          rw [← e1] at this
          exact (this.setCell (p := ⟨s + 1 + 1, 0, none⟩) (by show w.heap.size ≤ s + 1 + 1; omega) _).drew
      case measure => simp [intOf]; omega
    · obtain rfl : k = n := by omega
      have HR := Lib.hid hrow
      have HB := Lib.hid hB
      have HBL := Lib.hid hbl
      clear hrow hB hbl
      have c0 : wr.cell? ⟨s, 0, none⟩ = some (.slice none 0 0) := cell_of_row wr s 0 _ _ (0, 0) HBL.out
      have f0 : wr.frozen? ⟨s, 0, none⟩ = false := frozen_of_row wr s 0 _ _ HBL.out
      have f1 : ∀ v, (wr.setCell ⟨s, 0, none⟩ v).frozen? ⟨s, 1, none⟩ = false := fun v => by rw [World.frozen?_setCell]; exact frozen_of_row wr s 1 _ _ HBL.out
      have c1 : ∀ v, (wr.setCell ⟨s, 0, none⟩ v).cell? ⟨s, 1, none⟩ = some (.slice none 0 0) := fun v => by
        rw [World.cell?_setCell_other (a := ⟨s, 0, none⟩) (b := ⟨s, 1, none⟩) (h := fun h => by simp only [Addr.mk.injEq] at h; omega)]
        exact cell_of_row wr s 1 _ _ (0, 0) HBL.out
      have h5 := fun u1 u2 => heap_setCell_same _ s 1 _ 53 u2 (heap_setCell_same wr s 0 _ 53 u1 HBL.out)
      have H5 := Lib.hid h5
      clear h5
      go_wp2
      refine bodyPost_ret (results_row2 rfl _ _ _ _ _ _ _ rfl (H5.out _ _) Try.underlying53 rfl Try.sizeTaking) rfl ?_
      have hl := HR.out.lt
      refine ⟨s + 1, k, rfl, ⟨by omega, by simpa [World.setCell] using hl, Nat.le_refl _⟩, (OwnR.of_row HR.out).of_block ?_, (HB.out.setCell hsw _).setCell hsw _⟩
      rw [Below.heap_setCell _ _ _ _ (show s + 1 ≠ s by omega), Below.heap_setCell _ _ _ _ (show s + 1 ≠ s by omega)]

/-- The giving out of what take hands back. -/
theorem field_giving (v u : Value) (w : World) : (Instr.field 53 (.agg #[v, u]) 1).run Try.prog w = .ok u w := by kernel_rfl

set_option maxRecDepth 100000 in
set_option maxHeartbeats 800000 in
theorem turnTake_any (n c : Nat) (a : Option Addr) (A : Nat → Option Addr) (L C : Nat → Nat) (Z : Nat → Nat → Int) (m d : Nat) (b : Option Addr) (G : Nat → Int) (w : World) (hn0 : n ≤ 1048576) (hL0 : ∀ r, r < n → L r ≤ 1048576) (ha0 : Tab w a n A L C Z) (hm1 : m ≤ 1048576) (hmd1 : m ≤ d) (hb1 : Rd w b m G) :
    Calls Try.prog 14 #[.slice a n c, .slice b m d] w (RetIB (tt (GivenOk n L Z m G)) (takeN n L Z m G) (tkF Z n G n) w) := by
  have H := Lib.hid (readWishes_any n c a A L C Z w hn0 hL0 ha0)
  by_cases h1 : IsWishes n L Z
  · have T1 := Lib.hid (tt_of h1)
    have hn5 := h1.1.2
    have HE := Lib.hid (hasEach_any n m d b G w hn5 hm1 hb1)
    by_cases h2 : IsEach n m G
    · have T2 := Lib.hid (tt_of h2)
      have hg : GivenOk n L Z m G := ⟨h1, h2⟩
      have T3 := Lib.hid (tt_of hg)
      have TN := Lib.hid (takeN_yes hg)
      obtain rfl : m = n := h2.1
      have HM := Lib.hid (take_any m c d a b A L C Z G w hg ha0 hb1)
      have hfl := field_giving
      clear h1 h2 hg ha0 hL0 hb1
      go_enter Try.func14, Try.ntmps14
      go_wp2_with (first
        | (go_at_call 40; refine H.out.mono ?_; rintro e w' ⟨rfl, rfl⟩; rw [T1.out])
        | (go_at_call 41; refine HE.out.mono ?_; rintro e w' ⟨rfl, rfl⟩; rw [T2.out])
        | (go_at_call 42; refine HM.out.mono ?_; rintro e w1 ⟨g, cap, rfl, ⟨hg1, hg2, hg3⟩, hO, hb⟩; have HO := Lib.hid hO; have HB := Lib.hid hb; clear hb hO))
      go_ret2
      exact ⟨_, _, by rw [T3.out, TN.out]; rfl, by rw [TN.out]; exact .inr ⟨g, hg1, hg2, HO.out⟩, HB.out⟩
    · have T2 := Lib.hid (tt_no h2)
      have T3 := Lib.hid (tt_no (show ¬ GivenOk n L Z m G from fun h => h2 h.2))
      have TN := Lib.hid (takeN_no (show ¬ GivenOk n L Z m G from fun h => h2 h.2))
      clear h1 h2 ha0 hL0 hb1
      go_enter Try.func14, Try.ntmps14
      go_wp2_with (first
        | (go_at_call 40; refine H.out.mono ?_; rintro e w' ⟨rfl, rfl⟩; rw [T1.out])
        | (go_at_call 41; refine HE.out.mono ?_; rintro e w' ⟨rfl, rfl⟩; rw [T2.out]))
      go_ret2
      exact ⟨none, 0, by rw [T3.out, TN.out]; rfl, .inl TN.out, Below.refl _ _⟩
  · have T1 := Lib.hid (tt_no h1)
    have T3 := Lib.hid (tt_no (show ¬ GivenOk n L Z m G from fun h => h1 h.1))
    have TN := Lib.hid (takeN_no (show ¬ GivenOk n L Z m G from fun h => h1 h.1))
    clear h1 ha0 hL0 hb1
    go_enter Try.func14, Try.ntmps14
    go_wp2_with (first
      | (go_at_call 40; refine H.out.mono ?_; rintro e w' ⟨rfl, rfl⟩; rw [T1.out]))
    go_ret2
    exact ⟨none, 0, by rw [T3.out, TN.out]; rfl, .inl TN.out, Below.refl _ _⟩
end Go.Proofs.Ytipfjblnanafnaa
