/- The walk of the law FnStills: it answers true at every code that can be read. -/
import Derived.Test.YtgjegpponchdaaaDoorDrawSwapStills
import Derived.Test.YtgjegpponchdaaaDoorSwapStills
import Derived.Test.YtgjegpponchdaaaDoorSpecSwapStills
import Derived.Test.YtgjegpponchdaaaDoorSwapEnds
import Derived.Test.YtgjegpponchdaaaDoorTurnGoods
namespace Go.Proofs.YtgjegpponchdaaaDoor
set_option linter.unusedVariables false
set_option linter.unusedSimpArgs false
open Go.RowKit

section
variable {n : Nat} {L : Nat → Nat} {Z : Nat → Nat → Int}
theorem filter_less {α : Type} {p q : α → Bool} : ∀ {l : List α}, (∀ x, x ∈ l → p x = true → q x = true) → (l.filter p).length ≤ (l.filter q).length
  | [], _ => Nat.le_refl _
  | x :: l, h => by
    have ih := filter_less (p := p) (q := q) (l := l) (fun y hy => h y (by simp [hy]))
    have hx := h x (by simp)
    by_cases e : p x = true
    · rw [List.filter_cons_of_pos e, List.filter_cons_of_pos (hx e)]
      simp only [List.length_cons]; omega
    · rw [List.filter_cons_of_neg e]
      by_cases e2 : q x = true
      · rw [List.filter_cons_of_pos e2]; simp only [List.length_cons]; omega
      · rw [List.filter_cons_of_neg e2]; exact ih
/-- What is good is still. -/
theorem still_of_good (hW : IsWishes n L Z) {D : List Int} (hD : D ∈ givs n n []) (h : GoodP n Z (nth D)) : StillP n Z (nth D) := by
  intro i k hi hk hm
  have hne : i ≠ k := may_ne hm
  refine (good_iff (givsN_given hW hD)).1 h (swapL n D i k) (swap_giv hW hD hi hk) ⟨fun j hj _ => ?_, i, hi, by rw [all_bit, decide_eq_true_iff]; exact hi, by rw [swapL_nth hi, swapF_i]; exact hm.1⟩
  · rw [swapL_nth hj]
    by_cases e1 : j = i
    · subst e1; rw [swapF_i]; have := hm.1; omega
    · by_cases e2 : j = k
      · subst e2; rw [swapF_k]; have := hm.2; omega
      · rw [swapF_o _ e1 e2]; omega
theorem stills_all (hW : IsWishes n L Z) : (endsAll n L Z).length ≤ stillN n L Z ∧ (goodsAll n L Z).length ≤ stillN n L Z ∧ 1 ≤ stillN n L Z ∧ stillN n L Z ≤ 7776 := by
  have h1 : (endsAll n L Z).length ≤ stillN n L Z := by
    rw [endsAll_yes hW, stillN_yes hW]
    exact filter_less fun D hD h => tt_of (tt_iff.1 h).2
  obtain ⟨t, k1, k2⟩ := greatest (P := fun t => ∃ G, Led n Z t G) 10 ⟨0, _, .start⟩ (fun r ⟨G, hr⟩ => led_ten hW hr)
  have k3 : ∀ G, ¬ Led n Z (t + 1) G := fun G hG => by have := k2 (t + 1) ⟨G, hG⟩; omega
  obtain ⟨X, hX⟩ := ends_some k1 k3
  have h2 := List.length_pos_of_mem ((ends_is hW k3 X).1 hX)
  refine ⟨h1, ?_, by omega, ?_⟩
  · rw [goodsAll_yes hW, stillN_yes hW]
    exact filter_less fun D hD h => tt_of (still_of_good hW hD (tt_iff.1 h))
  · rw [stillN_yes hW]
    exact Nat.le_trans (stillL_le _ _ _) (givsN_le hW.1.2)
end

set_option maxRecDepth 100000 in
set_option maxHeartbeats 3200000 in
theorem fnStills_walk (n c : Nat) (a : Option Addr) (B : Nat → Nat) (w : World) (hTZ : TzAt w) (hc : n ≤ c) (hb : RdB w a n B) (hab : 0 < n → ∀ b o, a = some ⟨b, o, none⟩ → b < w.heap.size) :
    Calls Tryd.prog 6 #[.slice a n c] w fun e w' => e = .returned (.bool true) ∧ Below w.heap.size w w' := by
  by_cases hfit : n ≤ 1048576
  · have hd : ¬ (1048576 < n) := by omega
    have HD := Lib.hid (drawSwapStills_any n c a B w hfit hc hb hab)
    have TZ := Lib.hid hTZ
    clear hb hab hTZ
    go_enter Tryd.func6, Tryd.ntmps6
    go_wp2_with fail
    refine HD.out.mono ?_
    rintro e w1 ⟨ga, N, gc, A, L, C, Z, rfl, ⟨hN1, hN5⟩, hL, hT, hb1⟩
    have HT := Lib.hid hT
    have HL := Lib.hid (show ∀ r, r < N → L r ≤ 1048576 from fun r hr => by have := hL r hr; omega)
    have B1 := Lib.hid hb1
    have TZ1 := Lib.hid (TZ.out.below (Nat.le_refl _) hb1)
    clear hT hL hb1 HD TZ
    go_wp2_with fail
    refine (swapStills_any N gc ga A L C Z _ (by omega) HL.out HT.out).mono ?_
    rintro e w2 ⟨rfl, hb2⟩
    have B2 := Lib.hid hb2
    clear hb2
    go_wp2_with fail
    refine (specSwapStills_any N gc ga A L C Z _ (by omega) HL.out (HT.out.below (Nat.le_refl _) B2.out)).mono ?_
    rintro e w3 ⟨rfl, hb3⟩
    have B3 := Lib.hid (below_chain B2.out hb3)
    clear hb3
    by_cases hw : IsWishes N L Z
    · have KW := Lib.hid (tt_of hw)
      have hall := stills_all hw
      rw [KW.out]
      obtain ⟨S, hS⟩ : ∃ S, S = stillN N L Z := ⟨_, rfl⟩
      obtain ⟨E, hE⟩ : ∃ E, E = (endsAll N L Z).length := ⟨_, rfl⟩
      obtain ⟨G, hG⟩ : ∃ G, G = (goodsAll N L Z).length := ⟨_, rfl⟩
      rw [← hS, ← hE, ← hG] at hall
      rw [← hS]
      obtain ⟨s1, s2, s3, s4⟩ := hall
      have QE := Lib.hid hE
      have QG := Lib.hid hG
      have d1 : decide ((E : Int) ≤ (S : Int)) = true := by simp; omega
      have d2 : decide ((G : Int) ≤ (S : Int)) = true := by simp; omega
      have d3 : decide ((1 : Int) ≤ (S : Int)) = true := by simp; omega
      have d4 : decide ((S : Int) < (E : Int)) = false := by simp; omega
      have d5 : decide ((S : Int) < (G : Int)) = false := by simp; omega
      have d6 : decide ((S : Int) < 1) = false := by simp; omega
      clear hw hS hE hG
      go_wp2_with fail
      refine (swapEnds_any N gc ga A L C Z _ (by omega) HL.out (HT.out.below (Nat.le_refl _) (by first | exact B3.out | exact below_drewN B3.out _))).mono ?_
      rintro e w4 ⟨a2, c2, A2, C2, rfl, hO2, hb4⟩
      rw [KW.out, ← QE.out]
      have B4 := Lib.hid (below_chain (show Below w1.heap.size w1 _ by first | exact B3.out | exact below_drewN B3.out _) hb4)
      clear hO2 hb4
      go_wp2_with fail
      refine (turnGoods_any N gc ga A L C Z _ (TZ1.out.below (Nat.le_refl _) B4.out) (by omega) HL.out (HT.out.below (Nat.le_refl _) B4.out)).mono ?_
      rintro e w5 ⟨a3, c3, A3, C3, rfl, hO3, hb5⟩
      rw [KW.out, ← QG.out]
      have B5 := Lib.hid (below_chain B4.out hb5)
      clear hO3 hb5
      go_wp2_with fail
      go_ret
      exact ⟨by first | rfl | simp [d1, d2, d3, d4, d5, d6], below_chain B1.out (by first | exact B5.out | exact below_drewN B5.out _)⟩
    · have KW := Lib.hid (tt_no hw)
      have KD := Lib.hid (stillN_no hw)
      rw [KW.out, KD.out]
      clear hw
      go_wp2_with fail
      go_ret
      exact ⟨by first | rfl | simp, below_chain B1.out (by first | exact B3.out | exact below_drewN B3.out _ | exact below_drewN (below_drewN B3.out _) _)⟩
  · have hd : 1048576 < n := by omega
    clear hb hab hTZ
    go_enter Tryd.func6, Tryd.ntmps6
    go_wp2_with fail
    go_ret
    exact ⟨rfl, Below.refl _ _⟩
end Go.Proofs.YtgjegpponchdaaaDoor
