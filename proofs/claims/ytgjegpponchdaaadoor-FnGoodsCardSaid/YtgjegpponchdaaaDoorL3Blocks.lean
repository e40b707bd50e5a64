/- The model's l3Own and l3Better. -/
/- The model's l3Better. -/
/- The model's l3Blocks and l3Firm. -/
import Derived.Test.YtgjegpponchdaaaDoorBlockGiv
import Derived.Test.YtgjegpponchdaaaDoorL3At
import Derived.Test.YtgjegpponchdaaaDoorTradeModel
import Derived.Test.YtgjegpponchdaaaDoorLater
import Derived.Test.YtgjegpponchdaaaDoorL3Givings
namespace Go.Proofs.YtgjegpponchdaaaDoor
set_option linter.unusedVariables false
set_option linter.unusedSimpArgs false
open Go.RowKit

theorem bit_none (S x : Nat) (hS : S < 2 ^ 62) : (bits .and .i64 ((S : Int) / 2 ^ x) 1 == 0) = !S.testBit x := by
  have e : ((S : Int) / 2 ^ x) = ((S / 2 ^ x : Nat) : Int) := by simp
  have hle : S / 2 ^ x ≤ S := Nat.div_le_self _ _
  rw [e, show (1 : Int) = ((1 : Nat) : Int) from rfl, bits_and_i64 _ _ (by omega) (by omega)]
  rw [Nat.testBit, Nat.shiftRight_eq_div_pow, Nat.and_comm 1]
  have h2 : S / 2 ^ x &&& 1 = 0 ∨ S / 2 ^ x &&& 1 = 1 := by rw [Nat.and_one_is_mod]; omega
  rcases h2 with h | h <;> rw [h] <;> rfl

theorem own_front {n S N : Nat} {X : Nat → Int} (hd : IsDiff n n X) (hS : S < 2 ^ n) (h : Front n (fun i => (X i).toNat) S n N) : ((N : Int) == (S : Int)) = tt (OwnP n S X) := by
  have hy : ∀ y : Nat, N.testBit y = true ↔ ∃ i, i < n ∧ S.testBit i = true ∧ X i = y := fun y => by
    rw [h.2 y]
    constructor
    · rintro ⟨x, h1, h2, h3⟩; exact ⟨x, h1, h2, by have := (hd.1 x h1).1; have h3 : (X x).toNat = y := h3; omega⟩
    · rintro ⟨x, h1, h2, h3⟩; exact ⟨x, h1, h2, by show (X x).toNat = y; omega⟩
  by_cases e : N = S
  · subst e
    rw [tt_of (show OwnP n N X from hy)]
    simp
  · rw [tt_no (fun ho : OwnP n S X => e (Nat.eq_of_testBit_eq fun y => by rw [Bool.eq_iff_iff, hy y, ho y]))]
    simp; omega

set_option maxHeartbeats 1600000 in
theorem l3Own_any (n c S : Nat) (a : Option Addr) (X : Nat → Int) (w : World) (hn5 : n ≤ 5) (hd : IsDiff n n X) (hS : S < 2 ^ n) (ha : Rd w a n X) :
    Calls Tryd.prog 100 #[.int .i64 (S : Nat), .slice a n c] w fun e w' => e = .returned (.bool (tt (OwnP n S X))) ∧ w = w' := by
  have HA := Lib.hid ha
  have HD := Lib.hid hd
  have HE := Lib.hid (fun N (h : Front n (fun i => (X i).toNat) S n N) => own_front hd hS h)
  have HS := Lib.hid hS
  clear ha hd hS
  go_enter Tryd.func100, Tryd.ntmps100
  go_wp2
  go_loop [5, 6] (fun nx i => ∃ j N : Nat, j ≤ n ∧ i = .int .i64 j ∧ nx = .int .i64 (N : Nat) ∧ Front n (fun i => (X i).toNat) S j N) (fun _ i => n - (intOf i).toNat)
  case atStart => exact ⟨0, 0, Nat.zero_le _, rfl, rfl, Front.zero _ _ _⟩
  case round =>
    obtain ⟨j, N, hj, rfl, rfl, hF⟩ := hrel
    have HF := Lib.hid hF
    clear hF
    by_cases hjl : j < n
    · have hhas := bit_has S j (Nat.lt_trans HS.out (two_pow_lt (by omega)))
      by_cases hb : S.testBit j = true
      · obtain ⟨ba, oa, rfl, hca⟩ := HA.out j hjl
        have hr := HD.out.1 j hjl
        rw [hb] at hhas
        obtain ⟨p, hp⟩ : ∃ p, p = (X j).toNat := ⟨_, rfl⟩
        have hpn : p < n := by have h1 := hr.1; have h2 := hr.2; omega
        have hX : X j = (p : Nat) := by rw [hp]; have := hr.1; omega
        rw [hX] at hca
        have hput := bit_put N p (Nat.lt_trans HF.out.1 (two_pow_lt (by omega))) (by omega)
        obtain ⟨N', hN'⟩ : ∃ N', N' = N ||| 2 ^ p := ⟨_, rfl⟩
        rw [← hN'] at hput
        have HN := Lib.hid (show Front n (fun i => (X i).toNat) S (j + 1) N' by rw [hN', hp]; exact HF.out.yes (f := fun i => (X i).toNat) hb (by show (X j).toNat < n; rw [← hp]; exact hpn))
        have i1 : (0 : Int) ≤ (j : Int) := by omega
        have i2 : (j : Int) < (n : Int) := by omega
        clear hp hN' hb hr hX
        go_wp2
        go_round
        case rel => exact ⟨j + 1, N', by omega, by go_num, rfl, HN.out⟩
        case measure => simp [intOf]; omega
      · have hb' : S.testBit j = false := by simpa using hb
        rw [hb'] at hhas
        have HN := Lib.hid (HF.out.no hb')
        clear hb hb'
        go_wp2
        go_round
        case rel => exact ⟨j + 1, N, by omega, by go_num, rfl, HN.out⟩
        case measure => simp [intOf]; omega
    · obtain rfl : j = n := by omega
      have hE := HE.out N HF.out
      go_wp2
      go_ret
      exact ⟨by rw [← hE]; rfl, rfl⟩
end Go.Proofs.YtgjegpponchdaaaDoor

namespace Go.Proofs.YtgjegpponchdaaaDoor
set_option linter.unusedVariables false
set_option linter.unusedSimpArgs false
open Go.RowKit

/-- One of the first k of S likes X better. -/
def SomeB (Z : Nat → Nat → Int) (n S : Nat) (G X : Nat → Int) (k : Nat) : Prop := ∃ i, i < k ∧ S.testBit i = true ∧ idxF (Z i) (X i) n < idxF (Z i) (G i) n
def NoneW (Z : Nat → Nat → Int) (n S : Nat) (G X : Nat → Int) (k : Nat) : Prop := ∀ i, i < k → S.testBit i = true → idxF (Z i) (X i) n ≤ idxF (Z i) (G i) n
variable {Z : Nat → Nat → Int} {n S k : Nat} {G X : Nat → Int}
theorem noneW_zero : NoneW Z n S G X 0 := fun i hi => by omega
theorem noneW_succ (h : NoneW Z n S G X k) (hk : S.testBit k = true → idxF (Z k) (X k) n ≤ idxF (Z k) (G k) n) : NoneW Z n S G X (k + 1) := fun i hi hs => by
  by_cases e : i = k
  · subst e; exact hk hs
  · exact h i (by omega) hs
theorem someB_zero : tt (SomeB Z n S G X 0) = false := tt_no (fun ⟨i, hi, _⟩ => by omega)
theorem someB_out (h : S.testBit k = false) : tt (SomeB Z n S G X (k + 1)) = tt (SomeB Z n S G X k) := tt_congr ⟨fun ⟨i, h1, h2, h3⟩ => ⟨i, by
    by_cases e : i = k
    · subst e; rw [h] at h2; cases h2
    · omega, h2, h3⟩, fun ⟨i, h1, h2, h3⟩ => ⟨i, by omega, h2, h3⟩⟩
theorem someB_in {pb pa : Int} (h : S.testBit k = true) (hb : pb = idxF (Z k) (X k) n) (ha : pa = idxF (Z k) (G k) n) : tt (SomeB Z n S G X (k + 1)) = (tt (SomeB Z n S G X k) || decide (pb < pa)) := by
  by_cases h1 : SomeB Z n S G X k
  · rw [tt_of h1, tt_of (show SomeB Z n S G X (k + 1) from by obtain ⟨i, h2, h3, h4⟩ := h1; exact ⟨i, by omega, h3, h4⟩)]; rfl
  · by_cases h2 : pb < pa
    · rw [tt_no h1, tt_of (show SomeB Z n S G X (k + 1) from ⟨k, by omega, h, by rw [← hb, ← ha]; exact h2⟩), decide_eq_true h2]; rfl
    · rw [tt_no h1, decide_eq_false h2, tt_no (show ¬ SomeB Z n S G X (k + 1) from fun ⟨i, h3, h4, h5⟩ => by
        by_cases e : i = k
        · subst e; rw [← hb, ← ha] at h5; exact h2 h5
        · exact h1 ⟨i, by omega, h4, h5⟩)]; rfl

set_option maxHeartbeats 3200000 in
theorem l3Better_any (c : Nat) (a : Option Addr) (A : Nat → Option Addr) (L C : Nat → Nat) (d e : Nat) (b g : Option Addr) (w : World) (hg : GivenOk n L Z n G) (hd : IsDiff n n X) (hS : S < 2 ^ n) (ha0 : Tab w a n A L C Z) (hb : Rd w g n G) (hx : Rd w b n X) :
    Calls Tryd.prog 57 #[.slice a n c, .int .i64 (S : Nat), .slice g n d, .slice b n e] w fun e w' => e = .returned (.bool (tt (BetterP n Z S G X))) ∧ Below w.heap.size w w' := by
  have hn5 := hg.1.1.2
  have HG := Lib.hid hg
  have HA := Lib.hid ha0
  have HB := Lib.hid hb
  have HX := Lib.hid hx
  have HD := Lib.hid hd
  have HS := Lib.hid hS
  clear hg ha0 hb hx hd hS
  go_enter Tryd.func57, Tryd.ntmps57
  go_wp2
  go_loopw [9, 10, 11, 12] (fun sm s _ _ wr => ∃ k : Nat, k ≤ n ∧ s = .int .i64 k ∧ sm = .bool (tt (SomeB Z n S G X k)) ∧ Below w.heap.size w wr ∧ NoneW Z n S G X k) (fun _ s _ _ _ => n - (intOf s).toNat)
  case atStart => exact ⟨0, Nat.zero_le _, rfl, by rw [someB_zero], Below.refl _ _, noneW_zero⟩
  case round =>
    obtain ⟨k, hk, rfl, rfl, hBw, hno⟩ := hrel
    have BR := Lib.hid hBw
    have NO := Lib.hid hno
    clear hBw hno
    by_cases hlt : k < n
    · have hhas := bit_none S k (Nat.lt_trans HS.out (two_pow_lt (by omega)))
      by_cases hbk : S.testBit k = true
      · rw [hbk] at hhas
        have hhas : (bits .and .i64 ((S : Int) / 2 ^ k) 1 == 0) = false := hhas
        obtain ⟨bg, og, rfl, hgc⟩ := (HB.out.below (Nat.le_refl _) BR.out) k hlt
        obtain ⟨bx, ox, rfl, hxc⟩ := (HX.out.below (Nat.le_refl _) BR.out) k hlt
        obtain ⟨ba, oa, rfl, hca, hra⟩ := (HA.out.below (Nat.le_refl _) BR.out) k hlt
        rw [(HG.out.1.2 k hlt).1] at hca hra
        have h1 := wishes_has HG.out.1 hlt (HG.out.at hlt)
        have h2 := wishes_has HG.out.1 hlt (show InR (X k) 0 ((n : Int) - 1) from by have := HD.out.1 k hlt; exact ⟨this.1, by have := this.2; omega⟩)
        obtain ⟨x, hxx⟩ : ∃ x, x = G k := ⟨_, rfl⟩
        obtain ⟨y, hyy⟩ : ∃ y, y = X k := ⟨_, rfl⟩
        rw [← hxx] at hgc h1
        rw [← hyy] at hxc h2
        obtain ⟨pa, hpa⟩ : ∃ p, p = idxF (Z k) x n := ⟨_, rfl⟩
        obtain ⟨pb, hpb⟩ : ∃ p, p = idxF (Z k) y n := ⟨_, rfl⟩
        have RA := Lib.hid hra
        have KA := Lib.hid (show ∀ (z p : Int), HasI n (Z k) z → p = idxF (Z k) z n → ∀ (w2 : World), Below wr.heap.size wr w2 → ∀ r : Later w2, Calls Tryd.prog 58 #[.slice (A k) n (C k), .int .i64 z] r.W fun e w' => e = .returned (.int .i64 p) ∧ Below r.W.heap.size r.W w' from fun z p hz hp w2 h2 r => by
          refine (l3At_any n (C k) (A k) (Z k) z _ (by omega) (RA.out.below (Nat.le_refl _) (h2.trans ((Later.h r).mono h2.size)))).mono ?_
          rintro e w' ⟨rfl, rfl⟩
          exact ⟨by rw [hp, atL_has hz], Below.refl _ _⟩)
        have I1 := Lib.hid (KA.out x pa h1 hpa)
        have I2 := Lib.hid (KA.out y pb h2 hpb)
        have c1 : ∀ r : Later wr, r.W.cell? ⟨ba, oa + k, none⟩ = some (.slice (A k) n (C k)) := fun r => later_cell hca r
        have c2 : ∀ r : Later wr, r.W.cell? ⟨bg, og + k, none⟩ = some (.int .i64 x) := fun r => later_cell hgc r
        have c3 := Lib.hid (show ∀ w2, Below wr.heap.size wr w2 → ∀ r : Later w2, r.W.cell? ⟨ba, oa + k, none⟩ = some (.slice (A k) n (C k)) from fun w2 h2 r => later_cell hca ⟨r.W, h2.trans (r.h.mono h2.size)⟩)
        have c4 := Lib.hid (show ∀ w2, Below wr.heap.size wr w2 → ∀ r : Later w2, r.W.cell? ⟨bx, ox + k, none⟩ = some (.int .i64 y) from fun w2 h2 r => later_cell hxc ⟨r.W, h2.trans (r.h.mono h2.size)⟩)
        have i1 : (0 : Int) ≤ (k : Int) := by omega
        have i2 : (k : Int) < (n : Int) := by omega
        have SI := Lib.hid (someB_in (Z := Z) (G := G) (X := X) hbk (show pb = idxF (Z k) (X k) n by rw [hpb, hyy]) (show pa = idxF (Z k) (G k) n by rw [hpa, hxx]))
        have HW := Lib.hid (show NoneW Z n S G X n → pb ≤ pa from fun h => by rw [hpb, hpa, hyy, hxx]; exact h k hlt hbk)
        have HNX := Lib.hid (show pb ≤ pa → NoneW Z n S G X (k + 1) from fun h => noneW_succ NO.out fun _ => by rw [← hyy, ← hxx, ← hpb, ← hpa]; exact h)
        clear hbk hgc hxc hca hra h1 h2 hxx hyy hpa hpb KA
        by_cases hle : pb ≤ pa
        · have d1 : decide (pa < pb) = false := decide_eq_false (by omega)
          have NX := Lib.hid (HNX.out hle)
          clear HNX HW
          by_cases hs : SomeB Z n S G X k
          · have T1 : tt (SomeB Z n S G X k) = true := tt_of hs
            rw [T1]
            rw [T1] at SI
            have SJ := Lib.hid (show tt (SomeB Z n S G X (k + 1)) = true by rw [SI.out]; rfl)
            go_wp2
            refine wp_region_later (by kernel_rfl) (by kernel_rfl) ?_
            repeat go_big_quiet_step ((go_at_call 58; exact calls_later _ (I1.out _ (Below.refl _ _) _)))
            refine wpQuiet_nil ?_
            rintro _ ⟨r, rfl⟩
            have J2 := Lib.hid (I2.out _ r.h)
            have c5 := c3.out _ r.h
            have c6 := c4.out _ r.h
            clear I1 I2 c1 c2 c3 c4
            go_wp2
            refine wp_region_later (by kernel_rfl) (by kernel_rfl) ?_
            repeat go_big_quiet_step ((go_at_call 58; exact calls_later _ (J2.out _)))
            refine wpQuiet_nil ?_
            rintro _ ⟨r2, rfl⟩
            have B2 := Lib.hid (BR.out.trans ((r.h.trans (r2.h.mono r.h.size)).mono BR.out.size))
            go_wp2
            go_roundw
            case rel => exact ⟨k + 1, by omega, by go_num, by rw [SJ.out], B2.out, NX.out⟩
            case measure => simp [intOf]; omega
          · have T1 : tt (SomeB Z n S G X k) = false := tt_no hs
            rw [T1]
            rw [T1] at SI
            have SJ := Lib.hid (show tt (SomeB Z n S G X (k + 1)) = decide (pb < pa) by rw [SI.out]; rfl)
            go_wp2
            refine wp_region_later (by kernel_rfl) (by kernel_rfl) ?_
            repeat go_big_quiet_step ((go_at_call 58; exact calls_later _ (I1.out _ (Below.refl _ _) _)))
            refine wpQuiet_nil ?_
            rintro _ ⟨r, rfl⟩
            have J2 := Lib.hid (I2.out _ r.h)
            have c5 := c3.out _ r.h
            have c6 := c4.out _ r.h
            clear I1 I2 c1 c2 c3 c4
            go_wp2
            refine wp_region_later (by kernel_rfl) (by kernel_rfl) ?_
            repeat go_big_quiet_step ((go_at_call 58; exact calls_later _ (J2.out _)))
            refine wpQuiet_nil ?_
            rintro _ ⟨r2, rfl⟩
            have B2 := Lib.hid (BR.out.trans ((r.h.trans (r2.h.mono r.h.size)).mono BR.out.size))
            go_wp2
            go_roundw
            case rel => exact ⟨k + 1, by omega, by go_num, by rw [SJ.out], B2.out, NX.out⟩
            case measure => simp [intOf]; omega
        · have d1 : decide (pa < pb) = true := decide_eq_true (by omega)
          have HF := Lib.hid (tt_no (show ¬ BetterP n Z S G X from fun h => hle (HW.out h.1)))
          clear HNX HW
          go_wp2
          refine wp_region_later (by kernel_rfl) (by kernel_rfl) ?_
          repeat go_big_quiet_step ((go_at_call 58; exact calls_later _ (I1.out _ (Below.refl _ _) _)))
          refine wpQuiet_nil ?_
          rintro _ ⟨r, rfl⟩
          have J2 := Lib.hid (I2.out _ r.h)
          have c5 := c3.out _ r.h
          have c6 := c4.out _ r.h
          clear I1 I2 c1 c2 c3 c4
          go_wp2
          refine wp_region_later (by kernel_rfl) (by kernel_rfl) ?_
          repeat go_big_quiet_step ((go_at_call 58; exact calls_later _ (J2.out _)))
          refine wpQuiet_nil ?_
          rintro _ ⟨r2, rfl⟩
          have B2 := Lib.hid (BR.out.trans ((r.h.trans (r2.h.mono r.h.size)).mono BR.out.size))
          go_wp2
          go_ret
          exact ⟨by rw [HF.out]; rfl, B2.out⟩
      · have hb' : S.testBit k = false := by simpa using hbk
        rw [hb'] at hhas
        have hhas : (bits .and .i64 ((S : Int) / 2 ^ k) 1 == 0) = true := hhas
        have HSM := Lib.hid (someB_out (Z := Z) (n := n) (G := G) (X := X) hb')
        have NX := Lib.hid (noneW_succ NO.out (fun h => absurd h hbk))
        clear hbk hb'
        go_wp2
        go_roundw
        case rel => exact ⟨k + 1, by omega, by go_num, by rw [HSM.out], BR.out, NX.out⟩
        case measure => simp [intOf]; omega
    · obtain rfl : k = n := by omega
      have HE := Lib.hid (show tt (SomeB Z k S G X k) = tt (BetterP k Z S G X) from tt_congr ⟨fun h => ⟨NO.out, h⟩, fun h => h.2⟩)
      go_wp2
      go_ret
      exact ⟨by rw [HE.out]; rfl, BR.out⟩
end Go.Proofs.YtgjegpponchdaaaDoor

namespace Go.Proofs.YtgjegpponchdaaaDoor
set_option linter.unusedVariables false
set_option linter.unusedSimpArgs false
open Go.RowKit

/-- This giving shows that the set blocks. -/
def Shows (n : Nat) (Z : Nat → Nat → Int) (G : Nat → Int) (S : Nat) (D : List Int) : Prop := OwnP n S (nth D) ∧ BetterP n Z S G (nth D)
set_option maxHeartbeats 1600000 in
theorem l3Blocks_any (n c : Nat) (a : Option Addr) (A : Nat → Option Addr) (L C : Nat → Nat) (Z : Nat → Nat → Int) (d : Nat) (g : Option Addr) (G : Nat → Int) (S : Nat) (w : World) (hg : GivenOk n L Z n G) (hS : S < 2 ^ n) (ha0 : Tab w a n A L C Z) (hb : Rd w g n G) :
    Calls Tryd.prog 81 #[.slice a n c, .slice g n d, .int .i64 (S : Nat)] w fun e w' => e = .returned (.bool (tt (BlocksP n Z G S))) ∧ Below w.heap.size w w' := by
  have hn2 := hg.1.1.1
  have hn5 := hg.1.1.2
  have HI := Lib.hid (blocks_iff hg hS)
  obtain ⟨LL, hLL⟩ : ∃ LL, LL = givs n n [] := ⟨_, rfl⟩
  have QL := Lib.hid hLL
  have hM := Nat.le_trans (givs_le (n := n) hn5 n []) (Nat.pow_le_pow_right (show 0 < 6 by omega) hn5)
  rw [← hLL] at hM
  obtain ⟨M, hM2⟩ : ∃ M, M = LL.length := ⟨_, rfl⟩
  rw [← hM2] at hM
  have QM := Lib.hid hM2
  have AT := Lib.hid (show ∀ x, x < M → LL.getD x [] ∈ givs n n [] ∧ lenL LL x = n ∧ IsDiff n n (nth (LL.getD x [])) from fun x hx => by
    rw [hM2] at hx
    have hm : LL.getD x [] ∈ LL := by
      rw [List.getD_eq_getElem?_getD, List.getElem?_eq_getElem hx]
      exact List.getElem_mem hx
    rw [hLL] at hm ⊢
    have h3 := (mem_givs n [] (Diff.nil n) (by simp) _).1 hm
    refine ⟨hm, h3.2.1, ?_⟩
    have h4 := h3.1
    unfold Diff at h4
    rwa [h3.2.1] at h4)
  have HA := Lib.hid ha0
  have HG := Lib.hid hg
  have HBB := Lib.hid hb
  have HS := Lib.hid hS
  clear hg ha0 hb hS hLL hM2
  go_enter Tryd.func81, Tryd.ntmps81
  go_wp2_with (go_at_call 35; refine (l3GivingsAll_any n hn2 hn5 _ 0 _ (by simp)).mono ?_; rintro e w1 ⟨v, G', Cp, rfl, hMk, hb⟩; rw [← QL.out, ← QM.out] at hMk; obtain ⟨a1, c1, rfl, hO⟩ := hMk.slice; have HO := Lib.hid hO.tab; have HB := Lib.hid ((below_alloc (Below.refl w.heap.size w) _).trans (hb.mono (by simp))); clear hb hO hMk)
  go_loopw [8] (fun i wr => ∃ x : Nat, x ≤ M ∧ i = .int .i64 x ∧ Below w1.heap.size w1 wr ∧ ∀ j, j < x → ¬ Shows n Z G S (LL.getD j [])) (fun i _ => M - (intOf i).toNat)
  case atStart => exact ⟨0, Nat.zero_le _, rfl, Below.refl _ _, fun j hj => by omega⟩
  case round =>
    obtain ⟨x, hx, rfl, hB, hno⟩ := hrel
    have BR := Lib.hid hB
    have NO := Lib.hid hno
    clear hB hno
    by_cases hlt : x < M
    · obtain ⟨hmem, hlen, hdd⟩ := AT.out x hlt
      obtain ⟨bt, ot, rfl, hct, hrow⟩ := (HO.out.below (Nat.le_refl _) BR.out) x hlt
      rw [hlen] at hct hrow
      have hrow2 : Rd wr _ n (nth (LL.getD x [])) := hrow
      have hBW := HB.out.trans (BR.out.mono HB.out.size)
      have BW := Lib.hid hBW
      have HC1 := Lib.hid (fun e => l3Own_any n e S _ (nth (LL.getD x [])) wr hn5 hdd HS.out hrow2)
      have HC2 := Lib.hid (fun e => l3Better_any (X := nth (LL.getD x [])) c a A L C d e _ g wr HG.out hdd HS.out (HA.out.below (Nat.le_refl _) hBW) (HBB.out.below (Nat.le_refl _) hBW) hrow2)
      have i1 : (0 : Int) ≤ (x : Int) := by omega
      have i2 : (x : Int) < (M : Int) := by omega
      have MEM := Lib.hid hmem
      clear hmem hlen hrow hrow2 hBW hdd
      by_cases ho : OwnP n S (nth (LL.getD x []))
      · have T1 := Lib.hid (tt_of ho)
        by_cases hb : BetterP n Z S G (nth (LL.getD x []))
        · have T2 := Lib.hid (tt_of hb)
          have HF := Lib.hid (tt_of (HI.out.2 ⟨_, MEM.out, ho, hb⟩))
          clear ho hb
          go_wp2_with (first
            | (go_at_call 100; refine (HC1.out _).mono ?_; rintro e w2 ⟨rfl, rfl⟩; rw [T1.out])
            | (go_at_call 57; refine (HC2.out _).mono ?_; rintro e w2 ⟨rfl, hb2⟩; rw [T2.out]; have B2 := Lib.hid (BW.out.trans (hb2.mono BW.out.size)); clear hb2 hct))
          go_ret
          exact ⟨by rw [HF.out]; rfl, B2.out⟩
        · have T2 := Lib.hid (tt_no hb)
          have HN := Lib.hid (show ¬ Shows n Z G S (LL.getD x []) from fun h => hb h.2)
          clear ho hb
          go_wp2_with (first
            | (go_at_call 100; refine (HC1.out _).mono ?_; rintro e w2 ⟨rfl, rfl⟩; rw [T1.out])
            | (go_at_call 57; refine (HC2.out _).mono ?_; rintro e w2 ⟨rfl, hb2⟩; rw [T2.out]; have B2 := Lib.hid (BR.out.trans (hb2.mono BR.out.size)); clear hb2 hct))
          go_roundw
          case rel => exact ⟨x + 1, by omega, by go_num, B2.out, fun j hj => by
            by_cases e : j = x
            · rw [e]; exact HN.out
            · exact NO.out j (by omega)⟩
          case measure => simp [intOf]; omega
      · have T1 := Lib.hid (tt_no ho)
        have HN := Lib.hid (show ¬ Shows n Z G S (LL.getD x []) from fun h => ho h.1)
        clear ho
        go_wp2_with (first
          | (go_at_call 100; refine (HC1.out _).mono ?_; rintro e w2 ⟨rfl, rfl⟩; rw [T1.out]))
        go_roundw
        case rel => exact ⟨x + 1, by omega, by go_num, BR.out, fun j hj => by
          by_cases e : j = x
          · rw [e]; exact HN.out
          · exact NO.out j (by omega)⟩
        case measure => simp [intOf]; omega
    · obtain rfl : x = M := by omega
      have HF := Lib.hid (tt_no (show ¬ BlocksP n Z G S from fun h => by
        obtain ⟨D, hD, h1, h2⟩ := HI.out.1 h
        rw [← QL.out] at hD
        obtain ⟨j, hj, e⟩ := List.getElem_of_mem hD
        refine NO.out j (by rw [QM.out]; exact hj) ?_
        rw [List.getD_eq_getElem?_getD, List.getElem?_eq_getElem hj]
        rw [show (some LL[j]).getD [] = D from e]
        exact ⟨h1, h2⟩))
      go_wp2
      go_ret
      exact ⟨by rw [HF.out]; rfl, HB.out.trans (BR.out.mono HB.out.size)⟩

set_option maxHeartbeats 800000 in
theorem l3Firm_any (n c : Nat) (a : Option Addr) (A : Nat → Option Addr) (L C : Nat → Nat) (Z : Nat → Nat → Int) (d : Nat) (g : Option Addr) (G : Nat → Int) (w : World) (hg : GivenOk n L Z n G) (ha : Tab w a n A L C Z) (hb : Rd w g n G) :
    Calls Tryd.prog 54 #[.slice a n c, .slice g n d] w fun e w' => e = .returned (.bool (tt (FirmP n Z G))) ∧ Below w.heap.size w w' := by
  have hn5 := hg.1.1.2
  have h2 : (2 : Nat) ^ n ≤ 32 := Nat.pow_le_pow_right (show 0 < 2 by omega) hn5
  have h1 : 1 ≤ (2 : Nat) ^ n := Nat.pow_pos (by omega)
  have HB := Lib.hid (fun (S : Nat) (hS : S < 2 ^ n) w1 (h : Below w.heap.size w w1) => l3Blocks_any n c a A L C Z d g G S w1 hg hS (ha.below (Nat.le_refl _) h) (hb.below (Nat.le_refl _) h))
  have hwp := wrap_pow (show n < 62 by omega)
  obtain ⟨E, hE⟩ : ∃ E, E = 2 ^ n := ⟨_, rfl⟩
  have QE := Lib.hid hE
  rw [← hE] at h1 h2 hwp
  clear hg ha hb hE
  go_enter Tryd.func54, Tryd.ntmps54
  go_wp2
  go_loopw [5] (fun s wr => ∃ k : Nat, 1 ≤ k ∧ k ≤ E ∧ s = .int .i64 k ∧ Below w.heap.size w wr ∧ ∀ S, 1 ≤ S → S < k → ¬ BlocksP n Z G S) (fun s _ => E - (intOf s).toNat)
  case atStart => exact ⟨1, Nat.le_refl _, h1, rfl, Below.refl _ _, fun S h1 h2 => by omega⟩
  case round =>
    obtain ⟨k, hk1, hk2, rfl, hB, hno⟩ := hrel
    have BR := Lib.hid hB
    have NO := Lib.hid hno
    clear hB hno
    by_cases hlt : k < E
    · have HC := Lib.hid (HB.out k (by rw [← QE.out]; exact hlt) _ BR.out)
      by_cases hbk : BlocksP n Z G k
      · have T1 := Lib.hid (tt_of hbk)
        have HF := Lib.hid (tt_no (show ¬ FirmP n Z G from fun h => h k hk1 (by rw [← QE.out]; exact hlt) hbk))
        clear hbk
        go_wp2_with (go_at_call 81; refine HC.out.mono ?_; rintro e w1 ⟨rfl, hb1⟩; rw [T1.out]; have B1 := Lib.hid (BR.out.trans (hb1.mono BR.out.size)); clear hb1)
        go_ret
        exact ⟨by rw [HF.out]; rfl, B1.out⟩
      · have T1 := Lib.hid (tt_no hbk)
        have HN := Lib.hid hbk
        clear hbk
        go_wp2_with (go_at_call 81; refine HC.out.mono ?_; rintro e w1 ⟨rfl, hb1⟩; rw [T1.out]; have B1 := Lib.hid (BR.out.trans (hb1.mono BR.out.size)); clear hb1)
        go_roundw
        case rel => exact ⟨k + 1, by omega, by omega, by go_num, B1.out, fun S h1 h2 => by
          by_cases e : S = k
          · rw [e]; exact HN.out
          · exact NO.out S h1 (by omega)⟩
        case measure => simp [intOf]; omega
    · obtain rfl : k = E := by omega
      have HF := Lib.hid (tt_of (show FirmP n Z G from fun S h1 h2 => NO.out S h1 (by rw [QE.out]; exact h2)))
      go_wp2
      go_ret
      exact ⟨by rw [HF.out]; rfl, BR.out⟩
end Go.Proofs.YtgjegpponchdaaaDoor
