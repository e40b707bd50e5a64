/- The walk of the law FnEnds: it answers true at every code that can be read. -/
import Derived.Test.YtipfjblnanafnaaDrawSwapEnds
import Derived.Test.YtipfjblnanafnaaSwapEnds
import Derived.Test.YtipfjblnanafnaaSpecSwapEnds
import Derived.Test.YtipfjblnanafnaaSwapStill
import Derived.Test.YtipfjblnanafnaaHouseLikes
import Derived.Test.YtipfjblnanafnaaSameRows
namespace Go.Proofs.Ytipfjblnanafnaa
set_option linter.unusedVariables false
set_option linter.unusedSimpArgs false
open Go.RowKit

section
variable {n : Nat} {L : Nat → Nat} {Z : Nat → Nat → Int}
/-- Nobody gets less than the own house. -/
theorem led_likes {t : Nat} {D : List Int} (h : Led n Z t D) : ∀ i, i < n → idxF (Z i) (nth D i) n ≤ idxF (Z i) i n := by
  induction h with
  | start => intro i hi; rw [ownL_nth hi]; omega
  | @step t D p q h1 h2 h3 h4 ih =>
    intro i hi
    have h0 := ih i hi
    rw [swapL_nth hi]
    by_cases e1 : i = p
    · subst e1; rw [swapF_i]; have := h4.1; omega
    · by_cases e2 : i = q
      · subst e2; rw [swapF_k]; have := h4.2; omega
      · rw [swapF_o _ e1 e2]; omega
theorem ends_at (hW : IsWishes n L Z) {x : Nat} (hx : x < (endsAll n L Z).length) : StillOk n L Z n (nthL (endsAll n L Z) x) ∧ lenL (endsAll n L Z) x = n ∧ (∀ i, i < n → ¬ LikesOk n L Z (i : Nat) (i : Nat) (nthL (endsAll n L Z) x i)) ∧ ∀ i, i < n → I64 (nthL (endsAll n L Z) x i) := by
  have hm : (endsAll n L Z).getD x [] ∈ endsL n Z (givs n n []) := by
    rw [endsAll_yes hW] at hx ⊢
    rw [List.getD_eq_getElem?_getD, List.getElem?_eq_getElem hx]
    exact List.getElem_mem hx
  obtain ⟨h1, h2⟩ := List.mem_filter.1 hm
  obtain ⟨h3, h4⟩ := tt_iff.1 h2
  obtain ⟨s, hs⟩ := (long_pos hW).1 h3
  have hg := givsN_given hW h1
  have hn5 := hW.1.2
  refine ⟨⟨hg, h4⟩, ((mem_givs n [] (Diff.nil n) (by simp) _).1 h1).2.1, fun i hi h => ?_, fun i hi => ?_⟩
  · have a1 := led_likes hs i hi
    have a2 := h.2.2.2.2
    rw [Int.toNat_natCast] at a2
    have a3 : nthL (endsAll n L Z) x i = nth ((endsAll n L Z).getD x []) i := rfl
    rw [a3] at a2
    omega
  · have := hg.at hi
    have b1 := this.1
    have b2 := this.2
    show I64 (nth ((endsAll n L Z).getD x []) i)
    exact ⟨by omega, by omega⟩
theorem ends_one (hW : IsWishes n L Z) : 1 ≤ (endsAll n L Z).length := by
  obtain ⟨t, h1, h2⟩ := greatest (P := fun t => ∃ G, Led n Z t G) 10 ⟨0, _, .start⟩ (fun r ⟨G, hr⟩ => led_ten hW hr)
  have h3 : ∀ G, ¬ Led n Z (t + 1) G := fun G hG => by have := h2 (t + 1) ⟨G, hG⟩; omega
  obtain ⟨X, hX⟩ := ends_some h1 h3
  exact List.length_pos_of_mem ((ends_is hW h3 X).1 hX)
end

set_option maxRecDepth 100000 in
set_option maxHeartbeats 3200000 in
theorem fnEnds_walk (n c : Nat) (a : Option Addr) (B : Nat → Nat) (w : World) (hc : n ≤ c) (hb : RdB w a n B) (hab : 0 < n → ∀ b o, a = some ⟨b, o, none⟩ → b < w.heap.size) :
    Calls Try.prog 8 #[.slice a n c] w fun e w' => e = .returned (.bool true) ∧ Below w.heap.size w w' := by
  by_cases hfit : n ≤ 1048576
  · have hd : ¬ (1048576 < n) := by omega
    have HD := Lib.hid (drawSwapEnds_any n c a B w hfit hc hb hab)
    clear hb hab
    go_enter Try.func8, Try.ntmps8
    go_wp2_with fail
    refine HD.out.mono ?_
    rintro e w1 ⟨ga, N, gc, A, L, C, Z, rfl, ⟨hN1, hN5⟩, hL, hT, hb1⟩
    have HT := Lib.hid hT
    have HL := Lib.hid (show ∀ r, r < N → L r ≤ 1048576 from fun r hr => by have := hL r hr; omega)
    have B1 := Lib.hid hb1
    clear hT hL hb1 HD
    by_cases hw : IsWishes N L Z
    · have KW := Lib.hid (tt_of hw)
      have KAT := Lib.hid (fun x (hx : x < (endsAll N L Z).length) => ends_at hw hx)
      have hone := ends_one hw
      obtain ⟨LL, hLL⟩ : ∃ LL, LL = endsAll N L Z := ⟨_, rfl⟩
      have hsm := ends_small N L Z
      rw [← hLL] at KAT hsm hone
      obtain ⟨M, hM⟩ : ∃ M, M = LL.length := ⟨_, rfl⟩
      rw [← hM] at KAT hsm hone
      have hM1 := hsm.1
      have HLE := Lib.hid (show ∀ r, r < M → lenL LL r ≤ 9223372036854775807 from fun r hr => by have := (KAT.out r hr).2.1; omega)
      have QL := Lib.hid hLL
      have QM := Lib.hid hM
      have d1 : decide (1 ≤ M) = true := by simpa using hone
      have d2 : decide ((1 : Int) ≤ (M : Int)) = true := by simp; omega
      have d3 : decide ((M : Int) < 1) = false := by simp; omega
      clear hw hLL hM hsm
      go_wp2_with fail
      refine (swapEnds_any N gc ga A L C Z _ (by omega) HL.out HT.out).mono ?_
      rintro e w2 ⟨a2, c2, A2, C2, rfl, hO2, hb2⟩
      rw [KW.out, ← QL.out, ← QM.out]
      rw [← QL.out, ← QM.out] at hO2
      have O2 := Lib.hid hO2
      have B2 := Lib.hid hb2
      clear hO2 hb2
      go_wp2_with fail
      refine (specSwapEnds_any N gc ga A L C Z _ (by omega) HL.out (HT.out.below (Nat.le_refl _) B2.out)).mono ?_
      rintro e w3 ⟨a3, c3, A3, C3, rfl, hO3, hb3⟩
      rw [KW.out, ← QL.out, ← QM.out]
      rw [← QL.out, ← QM.out] at hO3
      have O3 := Lib.hid hO3
      have R2 := Lib.hid (O2.out.below (Nat.le_refl _) hb3).tab
      have B3 := Lib.hid (below_chain B2.out hb3)
      clear hO3 hb3
      go_wp2_with (go_at_call 32; refine (sameRows_any M M c2 c3 a2 a3 A2 A3 _ _ C2 C3 _ _ _ (by omega) (by omega) HLE.out HLE.out R2.out O3.out.tab).mono ?_; rintro e w4 ⟨rfl, q4, rfl⟩; rw [tt_of (show SameT M M (lenL LL) (lenL LL) (nthL LL) (nthL LL) from ⟨rfl, fun _ _ => ⟨rfl, fun _ _ => rfl⟩⟩)])
      clear O3
      obtain ⟨w5, hw5⟩ : ∃ w5, w5 = w3.drewN q4 := ⟨_, rfl⟩
      have B5 := Lib.hid (show Below w1.heap.size w1 w5 by rw [hw5]; exact below_drewN B3.out _)
      have R5 := Lib.hid (show Tab w5 a2 M A2 (lenL LL) C2 (nthL LL) by rw [hw5]; exact R2.out.drewN _)
      clear R2
      rw [← hw5]
      clear hw5
      go_loopw [8] (fun s wr => ∃ x : Nat, x ≤ M ∧ s = .int .i64 x ∧ Below w5.heap.size w5 wr) (fun s _ => M - (intOf s).toNat)
      case atStart => exact ⟨0, Nat.zero_le _, rfl, Below.refl _ _⟩
      case round =>
        obtain ⟨x, hx, rfl, hB⟩ := hrel
        obtain ⟨wo, rfl⟩ : ∃ wo, wo = wr := ⟨_, rfl⟩
        have BB := Lib.hid hB
        have BR := Lib.hid (below_chain B5.out hB)
        clear hB
        by_cases hlt : x < M
        · obtain ⟨hst, hlx, hlk, h64⟩ := KAT.out x hlt
          obtain ⟨bt, ot, rfl, hct, hrow⟩ := (R5.out.below (Nat.le_refl _) BB.out) x hlt
          rw [hlx] at hct hrow
          obtain ⟨ax, hax⟩ : ∃ ax, ax = A2 x := ⟨_, rfl⟩
          rw [← hax] at hct hrow
          clear hax
          obtain ⟨br, or, rfl, _⟩ := hrow 0 (by omega)
          have K2 := Lib.hid (tt_of hst)
          have LK := Lib.hid hlk
          have L64 := Lib.hid h64
          have ROW := Lib.hid hrow
          have CT := Lib.hid hct
          have hbl := World.block_lt_of_cell? _ _ hct
          have HC := Lib.hid (swapStill_anyc N gc ga A L C Z N (C2 x) _ (nthL LL x) wo (by omega) HL.out (HT.out.below (Nat.le_refl _) BR.out) (by omega) hrow)
          have i1 : (0 : Int) ≤ (x : Int) := by omega
          have i2 : (x : Int) < (M : Int) := by omega
          clear hst hlx hrow hlk h64
          go_wp2_with (go_at_call 33; refine HC.out.mono ?_; rintro e w6 ⟨rfl, hb6⟩; rw [K2.out]; have B6 := Lib.hid hb6; clear hb6 hct)
          go_loopw [9] (fun s wx => ∃ i : Nat, i ≤ N ∧ s = .int .i64 i ∧ Below wo.heap.size wo wx) (fun s _ => N - (intOf s).toNat)
          case atStart => exact ⟨0, Nat.zero_le _, rfl, B6.out⟩
          case round =>
            obtain ⟨i, hi, rfl, hB⟩ := hrel
            have BI := Lib.hid hB
            have BX := Lib.hid (below_chain BR.out hB)
            clear hB
            by_cases hil : i < N
            · have hct2 := (BI.out.cell (p := ⟨bt, ot + x, none⟩) hbl).trans CT.out
              obtain ⟨br', or', hAr, hcr⟩ := (ROW.out.below (Nat.le_refl _) BI.out) i hil
              have K3 := Lib.hid (tt_no (LK.out i hil))
              have h6 := L64.out i hil
              obtain ⟨g, hg⟩ : ∃ g, g = nthL LL x i := ⟨_, rfl⟩
              rw [← hg] at K3 h6 hcr
              cases hAr
              have HK := Lib.hid (fun wy (hby : Below wo.heap.size wo wy) => houseLikes_any N gc ga A L C Z (i : Nat) (i : Nat) g wy (by omega) HL.out (HT.out.below (Nat.le_refl _) (below_chain BR.out hby)) ⟨by omega, by omega⟩ ⟨by omega, by omega⟩ h6)
              have j1 : (0 : Int) ≤ (i : Int) := by omega
              have j2 : (i : Int) < (N : Int) := by omega
              clear hg h6
              go_wp2_with (go_at_call 34; refine (HK.out _ (by first | exact BI.out | exact below_drewN BI.out _)).mono ?_; rintro e w7 ⟨rfl, hb7⟩; rw [K3.out]; have B7 := Lib.hid (below_chain BI.out hb7); clear hb7)
              go_roundw
              case rel => exact ⟨i + 1, by omega, by go_num, B7.out⟩
              case measure => simp [intOf]; omega
            · obtain rfl : i = N := by omega
              go_wp2_with fail
              go_roundw
              case rel => exact ⟨x + 1, by omega, by go_num, below_chain BB.out BI.out⟩
              case measure => simp [intOf]; omega
        · obtain rfl : x = M := by omega
          go_wp2_with fail
          go_ret
          exact ⟨by first | rfl | simp [d1, d2, d3], below_chain B1.out BR.out⟩
    · have KW := Lib.hid (tt_no hw)
      have KD := Lib.hid (endsAll_no hw)
      clear hw
      go_wp2_with fail
      refine (swapEnds_any N gc ga A L C Z _ (by omega) HL.out HT.out).mono ?_
      rintro e w2 ⟨a2, c2, A2, C2, rfl, hO2, hb2⟩
      rw [KW.out, KD.out]
      rw [KD.out] at hO2
      have B2 := Lib.hid hb2
      clear hO2 hb2
      go_wp2_with fail
      refine (specSwapEnds_any N gc ga A L C Z _ (by omega) HL.out (HT.out.below (Nat.le_refl _) B2.out)).mono ?_
      rintro e w3 ⟨a3, c3, A3, C3, rfl, hO3, hb3⟩
      rw [KW.out, KD.out]
      have B3 := Lib.hid (below_chain B2.out hb3)
      clear hO3 hb3
      go_wp2_with (go_at_call 32; refine (sameRows_any 0 0 c2 c3 a2 a3 A2 A3 (lenL []) (lenL []) C2 C3 (nthL []) (nthL []) _ (by omega) (by omega) (fun k hk => absurd hk (Nat.not_lt_zero _)) (fun k hk => absurd hk (Nat.not_lt_zero _)) (fun k hk => absurd hk (Nat.not_lt_zero _)) (fun k hk => absurd hk (Nat.not_lt_zero _))).mono ?_; rintro e w4 ⟨rfl, q4, rfl⟩; rw [tt_of (show SameT 0 0 (lenL []) (lenL []) (nthL []) (nthL []) from ⟨rfl, fun k hk => absurd hk (Nat.not_lt_zero _)⟩)])
      go_ret
      exact ⟨by first | rfl | simp, below_chain B1.out (by first | exact B3.out | exact below_drewN B3.out _ | exact below_drewN (below_drewN B3.out _) _)⟩
  · have hd : 1048576 < n := by omega
    clear hb hab
    go_enter Try.func8, Try.ntmps8
    go_wp2_with fail
    go_ret
    exact ⟨rfl, Below.refl _ _⟩
end Go.Proofs.Ytipfjblnanafnaa
