/- The library's TrailingZeros, where its table lies as it is laid. -/
/- The program's improves: it finds what there is. -/
/- The program's everybody, blocks and firm. -/
import Derived.Test.YtgjegpponchdaaaDoorMem
import Derived.Test.YtgjegpponchdaaaDoorProg
import Derived.Shelf.Spec.TrailingZeros
import Derived.Test.YtgjegpponchdaaaDoorBlockGiv
import Derived.Test.YtgjegpponchdaaaDoorSeq
namespace Go.Proofs.YtgjegpponchdaaaDoor
set_option linter.unusedVariables false
set_option linter.unusedSimpArgs false
open Go.RowKit

/-- The library's table lies in its variable. -/
def TzAt (w : World) : Prop := ∀ j, j < 64 → w.cell? ⟨1, j, none⟩ = some (.int .u8 ((Lib.deBruijn64tab.getD j 0 : Nat) : Int))
theorem TzAt.below {w w' : World} {B : Nat} (h : TzAt w) (hB : w.heap.size ≤ B) (hb : Below B w w') : TzAt w' := fun j hj =>
  (hb.cell (p := ⟨_, j, none⟩) (Nat.lt_of_lt_of_le (World.block_lt_of_cell? _ _ (h j hj)) hB)).trans (h j hj)

set_option maxHeartbeats 800000 in
theorem tz64_any (x k idx : Nat) (w : World) (hx0 : ((x : Int) == 0) = false)
    (key : IntKind.u64.wrap (bits BinOp.and IntKind.u64 (x : Int) (IntKind.u64.wrap (-(x : Int))) * 285870213051353865) / 288230376151711744 = (idx : Int))
    (hi : idx < 64) (hk : k < 64) (hcell : w.cell? ⟨1, idx, none⟩ = some (.int .u8 k)) :
    Calls Tryd.prog 110 #[.int .u64 x] w fun e w' => e = .returned (.int .i64 k) ∧ w = w' := by
  have g1 : Tryd.prog.globals[1]? = Tryd.prog.globals[1]? := rfl
  go_enter Tryd.func110, Tryd.ntmps110
  go_wp2_with (simp only [key])
  go_ret
  exact ⟨rfl, rfl⟩

set_option maxHeartbeats 800000 in
theorem trailing_any (x : Nat) (w : World) (hx0 : x ≠ 0) (hx : x < 2 ^ 62) (hT : TzAt w) :
    Calls Tryd.prog 101 #[.int .u64 x] w fun e w' => e = .returned (.int .i64 (Lib.ctz 64 x : Nat)) ∧ w = w' := by
  obtain ⟨hlow, hk⟩ := Lib.lowest_bit 64 x hx0 (by omega)
  obtain ⟨hi, htab⟩ := Lib.deBruijn64_at _ hk
  have hcell := hT _ hi
  rw [htab] at hcell
  have H := Lib.hid (tz64_any x _ _ w (by simp; omega) (tz64_key x _ (by omega) hx0 hlow) hi hk hcell)
  clear hlow hk hi htab hcell hT
  go_enter Tryd.func101, Tryd.ntmps101
  go_wp2_with (go_at_call 110; refine H.out.mono ?_; rintro e w' ⟨rfl, rfl⟩)
  go_ret
  exact ⟨rfl, rfl⟩
/-- The lowest one of a set. -/
theorem ctz_bit {x : Nat} (hx0 : x ≠ 0) (hx : x < 2 ^ 64) : x.testBit (Lib.ctz 64 x) = true := by
  unfold Lib.ctz
  rw [if_neg hx0]
  obtain ⟨m, hm, _⟩ := Lib.ctzFrom_spec 64 x (by omega) hx
  obtain ⟨k, hk⟩ : ∃ k, k = Lib.ctzFrom 64 x := ⟨_, rfl⟩
  rw [← hk] at hm ⊢
  rw [hm, Nat.mul_comm, Nat.testBit_mul_two_pow]
  simp
end Go.Proofs.YtgjegpponchdaaaDoor

namespace Go.Proofs.YtgjegpponchdaaaDoor
set_option linter.unusedVariables false
set_option linter.unusedSimpArgs false
open Go.RowKit

/-- What improves promises for a set of people. -/
def ImprovesAt (n c : Nat) (a : Option Addr) (A : Nat → Option Addr) (L C : Nat → Nat) (Z : Nat → Nat → Int) (d : Nat) (g : Option Addr) (G : Nat → Int) (S : Nat) : Prop :=
  ∀ (H : Nat) (b : Bool) (w : World), S < 2 ^ n → H < 2 ^ n → Tab w a n A L C Z → Rd w g n G → TzAt w →
    Calls Tryd.prog 83 #[.slice a n c, .slice g n d, .int .i64 (S : Nat), .int .i64 (H : Nat), .bool b] w fun e w' => e = .returned (.bool (tt (ImpP n Z G S H b))) ∧ Below w.heap.size w w'

set_option maxRecDepth 100000 in
set_option maxHeartbeats 6400000 in
theorem improves_any (n c : Nat) (a : Option Addr) (A : Nat → Option Addr) (L C : Nat → Nat) (Z : Nat → Nat → Int) (d : Nat) (g : Option Addr) (G : Nat → Int) (hg : GivenOk n L Z n G) (S : Nat) : ImprovesAt n c a A L C Z d g G S := by
  induction S using Nat.strongRecOn with
  | ind S ih =>
    intro H b w hS hH ha hb hT
    have hn5 := hg.1.1.2
    have hp5 : (2 : Nat) ^ n ≤ 32 := Nat.pow_le_pow_right (show 0 < 2 by omega) hn5
    by_cases h0 : S = 0
    · subst h0
      have HE := Lib.hid (show tt (ImpP n Z G 0 H b) = b by
        cases b
        · exact tt_no (fun h => by have := impP_zero.1 h; cases this)
        · exact tt_of (impP_zero.2 rfl))
      clear ih ha hb hT hg
      go_enter Tryd.func83, Tryd.ntmps83
      go_wp2
      go_ret
      exact ⟨by rw [HE.out]; rfl, Below.refl _ _⟩
    · have hbit := ctz_bit h0 (show S < 2 ^ 64 by omega)
      have hTR := Lib.hid (trailing_any S w h0 (by omega) hT)
      obtain ⟨p, hp⟩ : ∃ p, p = Lib.ctz 64 S := ⟨_, rfl⟩
      rw [← hp] at hbit
      have QP := Lib.hid hp
      have hpn := bit_lt hS hbit
      obtain ⟨ba, oa, rfl, hcp, hrp⟩ := ha p hpn
      rw [(hg.1.2 p hpn).1] at hcp hrp
      obtain ⟨bg, og, rfl, hcg⟩ := hb p hpn
      obtain ⟨y, hy⟩ : ∃ y, y = G p := ⟨_, rfl⟩
      rw [← hy] at hcg
      have QY := Lib.hid hy
      have HG := Lib.hid hg
      have HD := Lib.hid (hg.1.2 p hpn).2
      have HA := Lib.hid ha
      have HB := Lib.hid hb
      have HT := Lib.hid hT
      have HRp := Lib.hid hrp
      have HBit := Lib.hid hbit
      have IH := Lib.hid ih
      obtain ⟨S1, hand1, hle1, hb1⟩ := bits_andNot_i64 S (2 ^ p) (by omega) (two_pow_lt (by omega))
      rw [← wrap_pow (show p < 62 by omega)] at hand1
      have hS1 : ∀ y, S1.testBit y = (S.testBit y && !decide (y = p)) := fun y => by
        rw [hb1 y, Nat.testBit_two_pow]
        by_cases e : y = p
        · subst e; simp
        · have : ¬ p = y := fun h => e h.symm
          simp [e, this]
      have hlt1 : S1 < S := by
        rcases Nat.lt_or_eq_of_le hle1 with h | h
        · exact h
        · have := hS1 p
          rw [h, hbit] at this
          simp at this
      have HS1 := Lib.hid hS1
      have hwc : IntKind.u64.wrap (S : Int) = (S : Int) := by rw [IntKind.wrap_u64]; omega
      have hz : ((S : Int) == 0) = false := by simp; omega
      have p1 : (0 : Int) ≤ (p : Int) := by omega
      have p2 : (p : Int) < (n : Int) := by omega
      have hwl := World.block_lt_of_cell? _ _ hcp
      clear ih ha hb hT hg hbit hb1 hS1 hle1 hp hy hrp
      go_enter Tryd.func83, Tryd.ntmps83
      go_wp2_with (go_at_call 101; refine hTR.out.mono ?_; rintro e w' ⟨rfl, rfl⟩; rw [← QP.out])
      go_loopw [13, 14, 26] (fun _ _ s wr => ∃ k : Nat, k ≤ n ∧ s = .int .i64 k ∧ Below w.heap.size w wr ∧ ∀ j, j < k → Tried n Z G S H b p (Z p j).toNat ∧ Z p j ≠ y) (fun _ _ s _ => n - (intOf s).toNat)
      case atStart => exact ⟨0, Nat.zero_le _, rfl, Below.refl _ _, fun j hj => absurd hj (Nat.not_lt_zero _)⟩
      case round =>
        obtain ⟨k, hk, rfl, hB, hF⟩ := hrel
        have BR := Lib.hid hB
        have TR := Lib.hid hF
        clear hB hF
        by_cases hlt : k < n
        · obtain ⟨br, or, hrow, hck⟩ := (HRp.out.below (Nat.le_refl _) BR.out) k hlt
          obtain ⟨x, hx, hxn⟩ := diff_nat HD.out hlt
          rw [hx] at hck
          have QX := Lib.hid hx
          have hcg2 := (BR.out.cell (p := ⟨bg, og + p, none⟩) (World.block_lt_of_cell? _ _ hcg)).trans hcg
          rw [hrow]
          have HF2 := Lib.hid (show ∀ j, j < k → Tried n Z G S H b p (Z p j).toNat from fun j hj => (TR.out j hj).1)
          have hIdx := Lib.hid (show idxF (Z p) (x : Nat) n ≤ idxF (Z p) (G p) n by
            have e1 : idxF (Z p) (x : Nat) n = k := by rw [← QX.out]; exact idx_diff HD.out hlt
            obtain ⟨j, hj, ej⟩ := HD.out.all (r := (G p).toNat) (by have := HG.out.at hpn; have h1 := this.1; have h2 := this.2; omega)
            have ej2 : Z p j = G p := by rw [ej]; have := (HG.out.at hpn).1; omega
            have e2 : idxF (Z p) (G p) n = j := by rw [← ej2]; exact idx_diff HD.out hj
            rw [e1, e2]
            have : ¬ j < k := fun h => (TR.out j h).2 (by rw [ej2, QY.out])
            omega)
          have c1 : ∀ r : Later wr, r.W.cell? ⟨br, or + k, none⟩ = some (.int .i64 x) := fun r => later_cell hck r
          have c2 : ∀ r : Later wr, r.W.cell? ⟨bg, og + p, none⟩ = some (.int .i64 y) := fun r => later_cell hcg2 r
          have hhas := bit_has H x (by omega)
          by_cases hbx : H.testBit x = true
          · rw [hbx] at hhas
            have HBX := Lib.hid hbx
            obtain ⟨H1, hand2, hle2, hb2⟩ := bits_andNot_i64 H (2 ^ x) (by omega) (two_pow_lt (by omega))
            rw [← wrap_pow (show x < 62 by omega)] at hand2
            have hH1 : ∀ y, H1.testBit y = (H.testBit y && !decide (y = x)) := fun y => by
              rw [hb2 y, Nat.testBit_two_pow]
              by_cases e : y = x
              · subst e; simp
              · have : ¬ x = y := fun h => e h.symm
                simp [e, this]
            have HH1 := Lib.hid hH1
            have IHC := Lib.hid (fun (bb : Bool) (r : Later wr) => IH.out S1 hlt1 H1 bb r.W (by omega) (by omega) (HA.out.below (Nat.le_refl _) (BR.out.trans (r.h.mono BR.out.size))) (HB.out.below (Nat.le_refl _) (BR.out.trans (r.h.mono BR.out.size))) (HT.out.below (Nat.le_refl _) (BR.out.trans (r.h.mono BR.out.size))))
            clear hH1 hb2 hle2 hbx
            by_cases hi : ImpP n Z G S1 H1 (b || !(decide ((x : Int) = y)))
            · have HE := Lib.hid (tt_of (impP_take HBit.out HBX.out HS1.out HH1.out hIdx.out (by rw [← QY.out]; exact hi)))
              have IHX := Lib.hid (fun r : Later wr => (show Calls Tryd.prog 83 #[.slice (some ⟨ba, oa, none⟩) n c, .slice (some ⟨bg, og, none⟩) n d, .int .i64 (S1 : Nat), .int .i64 (H1 : Nat), .bool (b || !(decide ((x : Int) = y)))] r.W fun e w' => e = .returned (.bool true) ∧ Below r.W.heap.size r.W w' from by
                have := IHC.out (b || !(decide ((x : Int) = y))) r
                rwa [tt_of hi] at this))
              clear hi IHC
              by_cases hs : (x : Int) = y
              · have d1 : ((x : Int) == y) = true := by simp [hs]
                have d3 : decide ((x : Int) = y) = true := decide_eq_true hs
                have QD := Lib.hid d3
                rw [d3] at IHX
                clear hs d3
                cases b
                all_goals (
                  go_wp2
                  refine wp_region_later (by kernel_rfl) (by kernel_rfl) ?_
                  repeat go_big_quiet_step (((go_at_call 83; exact calls_later _ (IHX.out _))))
                  refine wpQuiet_nil ?_
                  rintro _ ⟨r, rfl⟩
                  have BL := Lib.hid (BR.out.trans (r.h.mono BR.out.size))
                  clear IHX c1 c2
                  go_wp2
                  go_ret
                  exact ⟨by rw [HE.out]; rfl, BL.out⟩)
              · have d1 : ((x : Int) == y) = false := by simp [hs]
                have d3 : decide ((x : Int) = y) = false := decide_eq_false hs
                rw [d3] at IHX
                clear hs d3
                cases b
                all_goals (
                  go_wp2
                  refine wp_region_later (by kernel_rfl) (by kernel_rfl) ?_
                  repeat go_big_quiet_step (((go_at_call 83; exact calls_later _ (IHX.out _))))
                  refine wpQuiet_nil ?_
                  rintro _ ⟨r, rfl⟩
                  have BL := Lib.hid (BR.out.trans (r.h.mono BR.out.size))
                  clear IHX c1 c2
                  go_wp2
                  go_ret
                  exact ⟨by rw [HE.out]; rfl, BL.out⟩)
            · have TK := Lib.hid (show Tried n Z G S H b p (Z p k).toNat by rw [QX.out]; exact tried_of HS1.out HH1.out (by rw [← QY.out]; exact hi))
              have IHX := Lib.hid (fun r : Later wr => (show Calls Tryd.prog 83 #[.slice (some ⟨ba, oa, none⟩) n c, .slice (some ⟨bg, og, none⟩) n d, .int .i64 (S1 : Nat), .int .i64 (H1 : Nat), .bool (b || !(decide ((x : Int) = y)))] r.W fun e w' => e = .returned (.bool false) ∧ Below r.W.heap.size r.W w' from by
                have := IHC.out (b || !(decide ((x : Int) = y))) r
                rwa [tt_no hi] at this))
              clear hi IHC
              by_cases hs : (x : Int) = y
              · have d1 : ((x : Int) == y) = true := by simp [hs]
                have HE := Lib.hid (tt_no (no_imp (k := k + 1) HBit.out hH HD.out (by omega) (fun j hj => by
                  by_cases e : j = k
                  · rw [e]; exact TK.out
                  · exact HF2.out j (by omega)) (.inr ⟨k, rfl, by rw [QX.out, hs, QY.out]⟩)))
                have d3 : decide ((x : Int) = y) = true := decide_eq_true hs
                rw [d3] at IHX
                clear hs d3
                cases b
                all_goals (
                  go_wp2
                  refine wp_region_later (by kernel_rfl) (by kernel_rfl) ?_
                  repeat go_big_quiet_step (((go_at_call 83; exact calls_later _ (IHX.out _))))
                  refine wpQuiet_nil ?_
                  rintro _ ⟨r, rfl⟩
                  have BL := Lib.hid (BR.out.trans (r.h.mono BR.out.size))
                  clear IHX c1 c2
                  go_wp2
                  go_ret
                  exact ⟨by rw [HE.out]; rfl, BL.out⟩)
              · have d1 : ((x : Int) == y) = false := by simp [hs]
                have HNE := Lib.hid hs
                have d3 : decide ((x : Int) = y) = false := decide_eq_false hs
                rw [d3] at IHX
                clear hs d3
                cases b
                all_goals (
                  go_wp2
                  refine wp_region_later (by kernel_rfl) (by kernel_rfl) ?_
                  repeat go_big_quiet_step (((go_at_call 83; exact calls_later _ (IHX.out _))))
                  refine wpQuiet_nil ?_
                  rintro _ ⟨r, rfl⟩
                  have BL := Lib.hid (BR.out.trans (r.h.mono BR.out.size))
                  clear IHX c1 c2
                  go_wp2
                  go_roundw
                  case rel => exact ⟨k + 1, by omega, by go_num, BL.out, fun j hj => by
                    by_cases e : j = k
                    · rw [e]; exact ⟨TK.out, by rw [QX.out]; exact HNE.out⟩
                    · exact TR.out j (by omega)⟩
                  case measure => simp [intOf]; omega)
          · have hbx' : H.testBit x = false := by simpa using hbx
            rw [hbx'] at hhas
            have TK := Lib.hid (show Tried n Z G S H b p (Z p k).toNat by rw [QX.out]; exact tried_no hbx')
            clear hbx hbx'
            by_cases hs : (x : Int) = y
            · have d1 : ((x : Int) == y) = true := by simp [hs]
              have HE := Lib.hid (tt_no (no_imp (k := k + 1) HBit.out hH HD.out (by omega) (fun j hj => by
                by_cases e : j = k
                · rw [e]; exact TK.out
                · exact HF2.out j (by omega)) (.inr ⟨k, rfl, by rw [QX.out, hs, QY.out]⟩)))
              clear hs
              go_wp2
              refine wp_region_later (by kernel_rfl) (by kernel_rfl) ?_
              repeat go_big_quiet_step (fail)
              refine wpQuiet_nil ?_
              rintro _ ⟨r, rfl⟩
              have BL := Lib.hid (BR.out.trans (r.h.mono BR.out.size))
              clear c1 c2
              go_wp2
              go_ret
              exact ⟨by rw [HE.out]; rfl, BL.out⟩
            · have d1 : ((x : Int) == y) = false := by simp [hs]
              have HNE := Lib.hid hs
              clear hs
              go_wp2
              refine wp_region_later (by kernel_rfl) (by kernel_rfl) ?_
              repeat go_big_quiet_step (fail)
              refine wpQuiet_nil ?_
              rintro _ ⟨r, rfl⟩
              have BL := Lib.hid (BR.out.trans (r.h.mono BR.out.size))
              clear c1 c2
              go_wp2
              go_roundw
              case rel => exact ⟨k + 1, by omega, by go_num, BL.out, fun j hj => by
                by_cases e : j = k
                · rw [e]; exact ⟨TK.out, by rw [QX.out]; exact HNE.out⟩
                · exact TR.out j (by omega)⟩
              case measure => simp [intOf]; omega
        · obtain rfl : k = n := by omega
          have HE := Lib.hid (tt_no (no_imp HBit.out hH HD.out (Nat.le_refl _) (fun j hj => (TR.out j hj).1) (.inl rfl)))
          go_wp2
          go_ret
          exact ⟨by rw [HE.out]; rfl, BR.out⟩
end Go.Proofs.YtgjegpponchdaaaDoor

namespace Go.Proofs.YtgjegpponchdaaaDoor
set_option linter.unusedVariables false
set_option linter.unusedSimpArgs false
open Go.RowKit

theorem everybody_any (n c : Nat) (a : Option Addr) (w : World) (hn : n ≤ 5) :
    Calls Tryd.prog 61 #[.slice a n c] w fun e w' => e = .returned (.int .i64 (((2 ^ n : Nat) : Int) - 1)) ∧ w = w' := by
  have hw := wrap_pow (show n < 62 by omega)
  have h2 : (2 : Nat) ^ n ≤ 32 := Nat.pow_le_pow_right (show 0 < 2 by omega) hn
  have h1 : 1 ≤ (2 : Nat) ^ n := Nat.pow_pos (by omega)
  have e : ((2 ^ n : Nat) : Int) = (2 : Int) ^ n := by simp
  have hw1 := Lib.hid (show Ending.returned (Value.int .i64 (wrap64 (2 ^ n - 1))) = .returned (.int .i64 (((2 ^ n : Nat) : Int) - 1)) by
    rw [← e, IntWalk.wrap64_in _ ⟨by omega, by omega⟩])
  clear e
  go_enter Tryd.func61, Tryd.ntmps61
  go_wp2
  go_ret
  exact ⟨hw1.out, rfl⟩

theorem blocks_any (n c : Nat) (a : Option Addr) (A : Nat → Option Addr) (L C : Nat → Nat) (Z : Nat → Nat → Int) (d : Nat) (g : Option Addr) (G : Nat → Int) (S : Nat) (w : World) (hg : GivenOk n L Z n G) (hS : S < 2 ^ n) (ha : Tab w a n A L C Z) (hb : Rd w g n G) (hT : TzAt w) :
    Calls Tryd.prog 60 #[.slice a n c, .slice g n d, .int .i64 (S : Nat)] w fun e w' => e = .returned (.bool (tt (BlocksP n Z G S))) ∧ Below w.heap.size w w' := by
  have H := Lib.hid (improves_any n c a A L C Z d g G hg S S false w hS hS ha hb hT)
  clear hg ha hb hT
  go_enter Tryd.func60, Tryd.ntmps60
  go_wp2_with (go_at_call 83; refine H.out.mono ?_; rintro e w1 ⟨rfl, hb1⟩; have B1 := Lib.hid hb1; clear hb1)
  go_ret
  exact ⟨rfl, B1.out⟩

set_option maxHeartbeats 800000 in
theorem firm_any (n c : Nat) (a : Option Addr) (A : Nat → Option Addr) (L C : Nat → Nat) (Z : Nat → Nat → Int) (d : Nat) (g : Option Addr) (G : Nat → Int) (w : World) (hg : GivenOk n L Z n G) (ha : Tab w a n A L C Z) (hb : Rd w g n G) (hT : TzAt w) :
    Calls Tryd.prog 55 #[.slice a n c, .slice g n d] w fun e w' => e = .returned (.bool (tt (FirmP n Z G))) ∧ Below w.heap.size w w' := by
  have hn5 := hg.1.1.2
  have h2 : (2 : Nat) ^ n ≤ 32 := Nat.pow_le_pow_right (show 0 < 2 by omega) hn5
  have h1 : 1 ≤ (2 : Nat) ^ n := Nat.pow_pos (by omega)
  have HB := Lib.hid (fun (S : Nat) (hS : S < 2 ^ n) w1 (h : Below w.heap.size w w1) => blocks_any n c a A L C Z d g G S w1 hg hS (ha.below (Nat.le_refl _) h) (hb.below (Nat.le_refl _) h) (hT.below (Nat.le_refl _) h))
  obtain ⟨E, hE⟩ : ∃ E, E = 2 ^ n := ⟨_, rfl⟩
  have QE := Lib.hid hE
  rw [← hE] at h1 h2
  clear hg ha hb hT hE
  go_enter Tryd.func55, Tryd.ntmps55
  go_wp2
  go_loopw [5] (fun s wr => ∃ k : Nat, 1 ≤ k ∧ k ≤ E ∧ s = .int .i64 k ∧ Below w.heap.size w wr ∧ ∀ S, 1 ≤ S → S < k → ¬ BlocksP n Z G S) (fun s _ => E - (intOf s).toNat)
  case atStart => exact ⟨1, Nat.le_refl _, h1, rfl, Below.refl _ _, fun S h1 h2 => by omega⟩
  case round =>
    obtain ⟨k, hk1, hk2, rfl, hB, hno⟩ := hrel
    have BR := Lib.hid hB
    have NO := Lib.hid hno
    clear hB hno
    by_cases hlt : k < E
    · have d1 : decide ((k : Int) ≤ (E : Int) - 1) = true := by simp; omega
      have HC := Lib.hid (HB.out k (by rw [← QE.out]; exact hlt) _ BR.out)
      by_cases hbk : BlocksP n Z G k
      · have T1 := Lib.hid (tt_of hbk)
        have HF := Lib.hid (tt_no (show ¬ FirmP n Z G from fun h => h k hk1 (by rw [← QE.out]; exact hlt) hbk))
        clear hbk
        go_wp2_with (first
          | (go_at_call 61; refine (everybody_any n c a _ hn5).mono ?_; rintro e w' ⟨rfl, rfl⟩; rw [← QE.out])
          | (go_at_call 60; refine HC.out.mono ?_; rintro e w1 ⟨rfl, hb1⟩; rw [T1.out]; have B1 := Lib.hid (BR.out.trans (hb1.mono BR.out.size)); clear hb1))
        go_ret
        exact ⟨by rw [HF.out]; rfl, B1.out⟩
      · have T1 := Lib.hid (tt_no hbk)
        have HN := Lib.hid hbk
        clear hbk
        go_wp2_with (first
          | (go_at_call 61; refine (everybody_any n c a _ hn5).mono ?_; rintro e w' ⟨rfl, rfl⟩; rw [← QE.out])
          | (go_at_call 60; refine HC.out.mono ?_; rintro e w1 ⟨rfl, hb1⟩; rw [T1.out]; have B1 := Lib.hid (BR.out.trans (hb1.mono BR.out.size)); clear hb1))
        go_roundw
        case rel => exact ⟨k + 1, by omega, by omega, by go_num, B1.out, fun S h1 h2 => by
          by_cases e : S = k
          · rw [e]; exact HN.out
          · exact NO.out S h1 (by omega)⟩
        case measure => simp [intOf]; omega
    · obtain rfl : k = E := by omega
      have d1 : decide ((k : Int) ≤ (k : Int) - 1) = false := by simp; omega
      have HF := Lib.hid (tt_of (show FirmP n Z G from fun S h1 h2 => NO.out S h1 (by rw [QE.out]; exact h2)))
      go_wp2_with (go_at_call 61; refine (everybody_any n c a _ hn5).mono ?_; rintro e w' ⟨rfl, rfl⟩; rw [← QE.out])
      go_ret
      exact ⟨by rw [HF.out]; rfl, BR.out⟩
end Go.Proofs.YtgjegpponchdaaaDoor
