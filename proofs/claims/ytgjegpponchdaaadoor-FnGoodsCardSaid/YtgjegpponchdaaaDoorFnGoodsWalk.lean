/- The walk of the law FnGoods: it answers true at every code that can be read. -/
import Derived.Test.YtgjegpponchdaaaDoorDrawTurnGoods
import Derived.Test.YtgjegpponchdaaaDoorTurnGoods
import Derived.Test.YtgjegpponchdaaaDoorSpecTurnGoods
import Derived.Test.YtgjegpponchdaaaDoorHouseTrade
import Derived.Test.YtgjegpponchdaaaDoorSameRows
import Derived.Test.YtgjegpponchdaaaDoorFirmTrade
import Derived.Test.YtgjegpponchdaaaDoorHasRow
namespace Go.Proofs.YtgjegpponchdaaaDoor
set_option linter.unusedVariables false
set_option linter.unusedSimpArgs false
open Go.RowKit

theorem good_of_firm {n : Nat} {Z : Nat → Nat → Int} {G : Nat → Int} (hn : 2 ≤ n) (h : FirmP n Z G) : GoodP n Z G := by
  have h1 : 2 ^ 1 ≤ 2 ^ n := Nat.pow_le_pow_right (by omega) (by omega)
  exact h (2 ^ n - 1) (by omega) (all_lt n)
/-- What comes by trading in circles is among the good givings. -/
theorem trade_among {n : Nat} {L : Nat → Nat} {Z : Nat → Nat → Int} (hW : IsWishes n L Z) : HasRowP (goodsAll n L Z).length n (lenL (goodsAll n L Z)) (nthL (goodsAll n L Z)) (giveF Z n) := by
  obtain ⟨k1, k2, k3⟩ := isDiff_nth (trade_giving hW)
  have hD : (List.range n).map (giveF Z n) ∈ givs n n [] := (mem_givs n [] (Diff.nil n) (by simp) _).2 ⟨k1, k2, List.nil_prefix⟩
  have hG : (List.range n).map (giveF Z n) ∈ goodsAll n L Z := by
    rw [goodsAll_yes hW]
    exact List.mem_filter.2 ⟨hD, tt_of (good_of_firm hW.1.1 (firm_congr (fun i hi => (k3 i hi).symm) (trade_firm hW)))⟩
  obtain ⟨i, hi, e⟩ := List.getElem_of_mem hG
  have e2 : (goodsAll n L Z).getD i [] = (List.range n).map (giveF Z n) := by rw [List.getD_eq_getElem?_getD, List.getElem?_eq_getElem hi]; exact e
  exact ⟨i, hi, by show ((goodsAll n L Z).getD i []).length = n; rw [e2]; exact k2, fun j hj => by
    have hj' : j < n := by
      have : lenL (goodsAll n L Z) i = n := by show ((goodsAll n L Z).getD i []).length = n; rw [e2]; exact k2
      omega
    show nth ((goodsAll n L Z).getD i []) j = _
    rw [e2]; exact k3 j hj'⟩
theorem goods_at {n : Nat} {L : Nat → Nat} {Z : Nat → Nat → Int} (hW : IsWishes n L Z) {x : Nat} (hx : x < (goodsAll n L Z).length) : GoodOk n L Z n (nthL (goodsAll n L Z) x) ∧ lenL (goodsAll n L Z) x = n := by
  have hm : (goodsAll n L Z).getD x [] ∈ goodsL n Z (givs n n []) := by
    rw [goodsAll_yes hW] at hx ⊢
    rw [List.getD_eq_getElem?_getD, List.getElem?_eq_getElem hx]
    exact List.getElem_mem hx
  obtain ⟨h1, h2⟩ := List.mem_filter.1 hm
  exact ⟨⟨givsN_given hW h1, tt_iff.1 h2⟩, ((mem_givs n [] (Diff.nil n) (by simp) _).1 h1).2.1⟩

set_option maxRecDepth 100000 in
set_option maxHeartbeats 3200000 in
theorem fnGoods_walk (n c : Nat) (a : Option Addr) (B : Nat → Nat) (w : World) (hTZ : TzAt w) (hc : n ≤ c) (hb : RdB w a n B) (hab : 0 < n → ∀ b o, a = some ⟨b, o, none⟩ → b < w.heap.size) :
    Calls Tryd.prog 5 #[.slice a n c] w fun e w' => e = .returned (.bool true) ∧ Below w.heap.size w w' := by
  by_cases hfit : n ≤ 1048576
  · have hd : ¬ (1048576 < n) := by omega
    have HD := Lib.hid (drawTurnGoods_any n c a B w hfit hc hb hab)
    have TZ := Lib.hid hTZ
    clear hb hab hTZ
    go_enter Tryd.func5, Tryd.ntmps5
    go_wp2_with fail
    refine HD.out.mono ?_
    rintro e w1 ⟨ga, N, gc, A, L, C, Z, rfl, ⟨hN1, hN5⟩, hL, hT, hb1⟩
    have HT := Lib.hid hT
    have HL := Lib.hid (show ∀ r, r < N → L r ≤ 1048576 from fun r hr => by have := hL r hr; omega)
    have B1 := Lib.hid hb1
    have TZ1 := Lib.hid (TZ.out.below (Nat.le_refl _) hb1)
    clear hT hL hb1 HD TZ
    by_cases hw : IsWishes N L Z
    · have KW := Lib.hid (tt_of hw)
      have KN := Lib.hid (tradeN_yes hw)
      have KH := Lib.hid (tt_of (trade_among hw))
      have KAT := Lib.hid (fun x (hx : x < (goodsAll N L Z).length) => goods_at hw hx)
      obtain ⟨LL, hLL⟩ : ∃ LL, LL = goodsAll N L Z := ⟨_, rfl⟩
      have hsm := goods_small N L Z
      rw [← hLL] at KH KAT hsm
      obtain ⟨M, hM⟩ : ∃ M, M = LL.length := ⟨_, rfl⟩
      rw [← hM] at KH KAT hsm
      have hM1 := hsm.1
      have HLE := Lib.hid (show ∀ r, r < M → lenL LL r ≤ 9223372036854775807 from fun r hr => by have := (KAT.out r hr).2; omega)
      have QL := Lib.hid hLL
      have QM := Lib.hid hM
      clear hw hLL hM hsm
      go_wp2_with fail
      refine (turnGoods_any N gc ga A L C Z _ TZ1.out (by omega) HL.out HT.out).mono ?_
      rintro e w2 ⟨a2, c2, A2, C2, rfl, hO2, hb2⟩
      rw [KW.out, ← QL.out, ← QM.out]
      rw [← QL.out, ← QM.out] at hO2
      have O2 := Lib.hid hO2
      have B2 := Lib.hid hb2
      clear hO2 hb2
      go_wp2_with fail
      refine (specTurnGoods_any N gc ga A L C Z _ (by omega) HL.out (HT.out.below (Nat.le_refl _) B2.out)).mono ?_
      rintro e w3 ⟨a3, c3, A3, C3, rfl, hO3, hb3⟩
      rw [KW.out, ← QL.out, ← QM.out]
      rw [← QL.out, ← QM.out] at hO3
      have O3 := Lib.hid hO3
      have R2 := Lib.hid (O2.out.below (Nat.le_refl _) hb3).tab
      have B3 := Lib.hid (below_chain B2.out hb3)
      clear hO3 hb3
      go_wp2_with (go_at_call 21; refine (sameRows_any M M c2 c3 a2 a3 A2 A3 _ _ C2 C3 _ _ _ (by omega) (by omega) HLE.out HLE.out R2.out O3.out.tab).mono ?_; rintro e w4 ⟨rfl, q4, rfl⟩; rw [tt_of (show SameT M M (lenL LL) (lenL LL) (nthL LL) (nthL LL) from ⟨rfl, fun _ _ => ⟨rfl, fun _ _ => rfl⟩⟩)])
      clear O3
      go_wp2_with fail
      refine (houseTrade_any N gc ga A L C Z _ (by omega) HL.out (HT.out.below (Nat.le_refl _) (below_drewN B3.out _))).mono ?_
      rintro e w5 ⟨a5, c5, rfl, hO5, hb5⟩
      rw [KN.out] at hO5
      rw [KW.out, KN.out]
      have O5 := Lib.hid hO5.rd
      have B5 := Lib.hid (below_chain (below_drewN B3.out _) hb5)
      have R5 := Lib.hid (R2.out.below (Nat.le_refl _) ((below_drewN (Below.refl _ _) q4).trans (hb5.mono (by simp))))
      clear hO5 hb5
      go_wp2
      go_loopw [10] (fun s wr => ∃ x : Nat, x ≤ M ∧ s = .int .i64 x ∧ Below w5.heap.size w5 wr) (fun s _ => M - (intOf s).toNat)
      case atStart => exact ⟨0, Nat.zero_le _, rfl, Below.refl _ _⟩
      case round =>
        obtain ⟨x, hx, rfl, hB⟩ := hrel
        have BB := Lib.hid hB
        have BR := Lib.hid (below_chain B5.out hB)
        clear hB
        by_cases hlt : x < M
        · obtain ⟨hgd, hlx⟩ := KAT.out x hlt
          obtain ⟨bt, ot, rfl, hct, hrow⟩ := (R5.out.below (Nat.le_refl _) BB.out) x hlt
          rw [hlx] at hct hrow
          have K2 := Lib.hid (tt_of hgd)
          have HC := Lib.hid (turnGood_any N gc ga A L C Z N (C2 x) (A2 x) (nthL LL x) wr (TZ1.out.below (Nat.le_refl _) BR.out) (by omega) HL.out (HT.out.below (Nat.le_refl _) BR.out) (by omega) hrow)
          have i1 : (0 : Int) ≤ (x : Int) := by omega
          have i2 : (x : Int) < (M : Int) := by omega
          clear hgd hlx hrow
          go_wp2_with (go_at_call 13; refine HC.out.mono ?_; rintro e w6 ⟨rfl, hb6⟩; rw [K2.out]; have B6 := Lib.hid (below_chain BB.out hb6); clear hb6 hct)
          go_roundw
          case rel => exact ⟨x + 1, by omega, by go_num, B6.out⟩
          case measure => simp [intOf]; omega
        · obtain rfl : x = M := by omega
          go_wp2_with (go_at_call 23; refine (hasRow_any x N c2 c5 _ a5 A2 _ C2 _ _ _ (by omega) (by omega) HLE.out (R5.out.below (Nat.le_refl _) BB.out) (O5.out.below (Nat.le_refl _) BB.out)).mono ?_; rintro e w6 ⟨rfl, q6, rfl⟩; rw [KH.out])
          go_ret
          exact ⟨by first | rfl | simp, below_chain B1.out (below_drewN BR.out _)⟩
    · have KW := Lib.hid (tt_no hw)
      have KD := Lib.hid (goodsAll_no hw)
      clear hw
      go_wp2_with fail
      refine (turnGoods_any N gc ga A L C Z _ TZ1.out (by omega) HL.out HT.out).mono ?_
      rintro e w2 ⟨a2, c2, A2, C2, rfl, hO2, hb2⟩
      rw [KW.out, KD.out]
      rw [KD.out] at hO2
      have B2 := Lib.hid hb2
      clear hO2 hb2
      go_wp2_with fail
      refine (specTurnGoods_any N gc ga A L C Z _ (by omega) HL.out (HT.out.below (Nat.le_refl _) B2.out)).mono ?_
      rintro e w3 ⟨a3, c3, A3, C3, rfl, hO3, hb3⟩
      rw [KW.out, KD.out]
      have B3 := Lib.hid (below_chain B2.out hb3)
      clear hO3 hb3
      go_wp2_with (go_at_call 21; refine (sameRows_any 0 0 c2 c3 a2 a3 A2 A3 (lenL []) (lenL []) C2 C3 (nthL []) (nthL []) _ (by omega) (by omega) (fun k hk => absurd hk (Nat.not_lt_zero _)) (fun k hk => absurd hk (Nat.not_lt_zero _)) (fun k hk => absurd hk (Nat.not_lt_zero _)) (fun k hk => absurd hk (Nat.not_lt_zero _))).mono ?_; rintro e w4 ⟨rfl, q4, rfl⟩; rw [tt_of (show SameT 0 0 (lenL []) (lenL []) (nthL []) (nthL []) from ⟨rfl, fun k hk => absurd hk (Nat.not_lt_zero _)⟩)])
      go_ret
      exact ⟨by first | rfl | simp, below_chain B1.out (by first | exact B3.out | exact below_drewN B3.out _ | exact below_drewN (below_drewN B3.out _) _)⟩
  · have hd : 1048576 < n := by omega
    clear hb hab hTZ
    go_enter Tryd.func5, Tryd.ntmps5
    go_wp2_with fail
    go_ret
    exact ⟨rfl, Below.refl _ _⟩
end Go.Proofs.YtgjegpponchdaaaDoor
