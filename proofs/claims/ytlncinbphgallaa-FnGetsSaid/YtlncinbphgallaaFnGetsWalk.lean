/- The walk of the law FnGets: it answers true at every code that can be read. -/
import Derived.Test.YtlncinbphgallaaDrawHouseGets
import Derived.Test.YtlncinbphgallaaHouseGets
import Derived.Test.YtlncinbphgallaaSpecHouseGets
import Derived.Test.YtlncinbphgallaaHouseTrade
import Derived.Test.YtlncinbphgallaaHouseLikes
import Derived.Test.YtlncinbphgallaaStrategy
namespace Go.Proofs.Ytlncinbphgallaa
set_option linter.unusedVariables false
set_option linter.unusedSimpArgs false
open Go.RowKit

theorem put_same (p : Nat) (Z : Nat → Nat → Int) : putZ p (Z p) Z = Z := by
  funext r
  unfold putZ
  by_cases e : r = p
  · rw [if_pos e, e]
  · rw [if_neg e]

set_option maxHeartbeats 3200000 in
set_option maxRecDepth 100000 in
theorem fnGets_walk (n c : Nat) (a : Option Addr) (B : Nat → Nat) (w : World) (hc : n ≤ c) (hb : RdB w a n B) (hab : 0 < n → ∀ b o, a = some ⟨b, o, none⟩ → b < w.heap.size) :
    Calls Try.prog 14 #[.slice a n c] w fun e w' => e = .returned (.bool true) ∧ Below w.heap.size w w' := by
  by_cases hfit : n ≤ 1048576
  · have hd : ¬ (1048576 < n) := by omega
    have HD := Lib.hid (drawHouseGets_any n c a B w hfit hc hb hab)
    clear hb hab
    go_enter Try.func14, Try.ntmps14
    go_wp2_with fail
    refine HD.out.mono ?_
    rintro e w1 ⟨ga, N, gc, A, L, C, Z, x, b, m, d, X, rfl, ⟨⟨hN1, hN5⟩, hmd, hm6, hx1, hx2⟩, hL, hT, hX, hb1⟩
    have HT := Lib.hid hT
    have HX := Lib.hid hX
    have HL := Lib.hid (show ∀ r, r < N → L r ≤ 1048576 from fun r hr => by have := hL r hr; omega)
    have B1 := Lib.hid hb1
    clear hT hX hL hb1 HD
    by_cases hok : GetsOk N L Z x m X
    · have K1 := Lib.hid (tt_of hok)
      have KA := Lib.hid (getsAns_yes hok)
      obtain ⟨p, rfl⟩ := Int.eq_ofNat_of_zero_le hok.2.1.1
      have hp : p < N := by have := hok.2.1.2; omega
      have hW := hok.1
      have KW := Lib.hid (tt_of hW)
      have KN := Lib.hid (tradeN_yes hW)
      have HLp := Lib.hid (hW.2 p hp).1
      have hok2 : GetsOk N L Z p N (Z p) := ⟨hW, hok.2.1, rfl, (hW.2 p hp).2⟩
      have K2 := Lib.hid (tt_of hok2)
      have KA2 := Lib.hid (show getsAns N L Z p N (Z p) = giveF Z N p by rw [getsAns_yes hok2]; show giveF (putZ p (Z p) Z) N p = _; rw [put_same])
      have hV := put_wishes (p := p) hW hok.2.2
      have hnb := no_better (Y := putZ p X Z) hW hV (fun i hi => by unfold putZ; rw [if_neg hi]) hp
      have hrt := give_range hW hp
      have hro := give_range hV hp
      obtain ⟨u, hu⟩ : ∃ u, u = giveF (putZ p X Z) N p := ⟨_, rfl⟩
      obtain ⟨v, hv⟩ : ∃ v, v = giveF Z N p := ⟨_, rfl⟩
      have KU := Lib.hid (show getsAns N L Z p m X = u by rw [KA.out]; exact hu.symm)
      have KV := Lib.hid hv
      rw [← hu] at hnb hro
      rw [← hv] at hnb hrt
      have KL := Lib.hid (tt_no (show ¬ LikesOk N L Z p u v from fun h => by have h5 := h.2.2.2.2; rw [Int.toNat_natCast] at h5; omega))
      have hu1 : I64 u := ⟨by omega, by omega⟩
      have hv1 : I64 v := ⟨by omega, by omega⟩
      clear hok hok2 hW hV hnb hrt hro hu hv
      go_wp2_with fail
      refine (houseGets_anyc N gc ga A L C Z p m d b X _ (by omega) HL.out HT.out ⟨by omega, by omega⟩ (by omega) HX.out).mono ?_
      rintro e w2 ⟨rfl, hb2⟩
      rw [K1.out, KU.out]
      have B2 := Lib.hid hb2
      clear hb2
      go_wp2_with fail
      refine (specHouseGets_any N gc ga A L C Z p m d b X _ (by omega) HL.out (HT.out.below (Nat.le_refl _) B2.out) ⟨by omega, by omega⟩ (by omega) (HX.out.below (Nat.le_refl _) B2.out)).mono ?_
      rintro e w3 ⟨rfl, hb3⟩
      rw [K1.out, KU.out]
      have B3 := Lib.hid (below_chain B2.out hb3)
      clear hb3
      go_wp2_with fail
      refine (houseTrade_any N gc ga A L C Z _ (by omega) HL.out (HT.out.below (Nat.le_refl _) B3.out)).mono ?_
      rintro e w4 ⟨a4, c4, rfl, hO4, hb4⟩
      rw [KW.out, KN.out]
      rw [KN.out] at hO4
      have O4 := Lib.hid hO4
      have B4 := Lib.hid (below_chain B3.out hb4)
      obtain ⟨ba, oa, rfl, hcp, hrp⟩ := (HT.out.below (Nat.le_refl _) B4.out) p hp
      rw [HLp.out] at hcp hrp
      have HRP := Lib.hid hrp
      have i1 : (0 : Int) ≤ (p : Int) := by omega
      have i2 : (p : Int) < (N : Int) := by omega
      clear hO4 hb4 hrp
      go_wp2_with fail
      refine (houseGets_anyc N gc _ A L C Z p N (C p) (A p) (Z p) _ (by omega) HL.out (HT.out.below (Nat.le_refl _) B4.out) ⟨by omega, by omega⟩ (by omega) HRP.out).mono ?_
      rintro e w5 ⟨rfl, hb5⟩
      rw [K2.out, KA2.out, ← KV.out]
      have B5 := Lib.hid (below_chain B4.out hb5)
      obtain ⟨bt, ot, rfl, hct⟩ := (O4.out.below (Nat.le_refl _) hb5).rd p hp
      rw [← KV.out] at hct
      clear hb5 hcp
      go_wp2_with (go_at_call 39; refine (houseLikes_any N gc _ A L C Z p u v _ (by omega) HL.out (HT.out.below (Nat.le_refl _) B5.out) ⟨by omega, by omega⟩ hu1 hv1).mono ?_; rintro e w6 ⟨rfl, hb6⟩; rw [KL.out]; have B6 := Lib.hid (below_chain B5.out hb6); clear hb6)
      go_ret
      exact ⟨by first | rfl | simp, below_chain B1.out B6.out⟩
    · have K1 := Lib.hid (tt_no hok)
      have KA := Lib.hid (getsAns_no hok)
      clear hok
      go_wp2_with fail
      refine (houseGets_anyc N gc ga A L C Z x m d b X _ (by omega) HL.out HT.out ⟨by omega, by omega⟩ (by omega) HX.out).mono ?_
      rintro e w2 ⟨rfl, hb2⟩
      rw [K1.out, KA.out]
      have B2 := Lib.hid hb2
      clear hb2
      go_wp2_with fail
      refine (specHouseGets_any N gc ga A L C Z x m d b X _ (by omega) HL.out (HT.out.below (Nat.le_refl _) B2.out) ⟨by omega, by omega⟩ (by omega) (HX.out.below (Nat.le_refl _) B2.out)).mono ?_
      rintro e w3 ⟨rfl, hb3⟩
      rw [K1.out, KA.out]
      have B3 := Lib.hid (below_chain B2.out hb3)
      clear hb3
      go_wp2
      go_ret
      exact ⟨by first | rfl | simp, below_chain B1.out B3.out⟩
  · have hd : 1048576 < n := by omega
    clear hb hab
    go_enter Try.func14, Try.ntmps14
    go_wp2_with fail
    go_ret
    exact ⟨rfl, Below.refl _ _⟩
end Go.Proofs.Ytlncinbphgallaa
