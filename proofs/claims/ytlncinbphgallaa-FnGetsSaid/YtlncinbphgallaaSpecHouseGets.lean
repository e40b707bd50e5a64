/- The model's HouseGets. -/
import Derived.Test.YtlncinbphgallaaHouseGets
import Derived.Test.YtlncinbphgallaaSpecHouseIn
namespace Go.Proofs.Ytlncinbphgallaa
set_option linter.unusedVariables false
set_option linter.unusedSimpArgs false
open Go.RowKit

set_option maxHeartbeats 1600000 in
theorem specHouseGets_any (n c : Nat) (a : Option Addr) (A : Nat → Option Addr) (L C : Nat → Nat) (Z : Nat → Nat → Int) (x : Int) (m d : Nat) (b : Option Addr) (X : Nat → Int) (w : World) (hn0 : n ≤ 1048576) (hL0 : ∀ r, r < n → L r ≤ 1048576) (ha0 : Tab w a n A L C Z) (hx1 : I64 x) (hm2 : m ≤ 1048576) (hb2 : Rd w b m X) :
    Calls Try.prog 47 #[.slice a n c, .int .i64 x, .slice b m d] w fun e w' => e = .returned (.tuple #[.int .i64 (getsAns n L Z x m X), .bool (tt (GetsOk n L Z x m X))]) ∧ Below w.heap.size w w' := by
  have H := Lib.hid (specHouseIn_any n c a A L C Z w hn0 hL0 ha0)
  by_cases h1 : IsWishes n L Z
  · have T1 := Lib.hid (tt_of h1)
    have hn5 := h1.1.2
    have hn1 := h1.1.1
    by_cases h2 : InR x 0 ((n : Int) - 1)
    · have T2 := Lib.hid (tt_of h2)
      by_cases hm : m = n
      · subst hm
        have hd : ((m : Int) != (m : Int)) = false := by simp
        have HE := Lib.hid (l1Every_any m d b X w (by omega) hb2)
        by_cases h3 : IsDiff m m X
        · have T3 := Lib.hid (tt_of h3)
          have hok : GetsOk m L Z x m X := ⟨h1, h2, rfl, h3⟩
          have T4 := Lib.hid (tt_of hok)
          have TN := Lib.hid (getsAns_yes hok)
          obtain ⟨p, rfl⟩ := Int.eq_ofNat_of_zero_le h2.1
          have hp : p < m := by have := h2.2; omega
          have HA := Lib.hid (fun r (hr : r < m) => show Rd w (A r) (L r) (Z r) from by obtain ⟨_, _, _, _, h⟩ := ha0 r hr; exact h)
          have HX := Lib.hid hb2
          have HW' := Lib.hid (put_wishes (p := p) h1 (show IsEach m m X from ⟨rfl, h3⟩))
          obtain ⟨i0, hi, hz0, hz1, hz2⟩ := info_parts Try.infoInts
          obtain ⟨ba, oa, rfl, hc0, hr0⟩ := ha0 0 (by omega)
          have HT0 := Lib.hid ha0
          have i1 : (0 : Int) ≤ (p : Int) := by omega
          have i2 : (p : Int) < (m : Int) := by omega
          clear h1 h2 h3 hok ha0 hL0 hb2 hx1 hc0 hr0
          go_enter Try.func47, Try.ntmps47
          go_wp2_with (first
            | (go_at_call 62; refine H.out.mono ?_; rintro e w' ⟨rfl, rfl⟩; rw [T1.out])
            | (go_at_call 81; refine (l6In_any _ _ _ _).mono ?_; rintro e w' ⟨rfl, rfl⟩; rw [T2.out])
            | (go_at_call 82; refine HE.out.mono ?_; rintro e w' ⟨rfl, rfl⟩; rw [T3.out])
            | (at_builtin; refine wpList_append_grows _ (by rfl) (.tmp 34) (.tmp 35) 22 (by rfl) 23 i0 (.slice none 0 0) 1 24 Try.underlying22 hi hz0 hz1 hz2 (by rfl) (by decide) _ 0 0 [] (by rfl) (fun h => by cases h) (by rfl) (fun _ _ j u h => absurd h (by simp)) ⟨ba, oa, none⟩ m c (rowsL m A L C) (by rfl) ((rowsL_length m A L C).trans (Nat.mul_one m).symm) (HT0.out.news (by repeat (first | exact Below.refl _ _ | refine Below.drew ?_ | refine below_alloc ?_ _))) (rowsL_one m A L C) (by omega) (by unfold maxLen; omega) (by omega) ?_; intro v1 w1 hown0 hgrow1; simp only [Nat.zero_add, List.nil_append] at hown0; have ho1 := owns_base (base' := w.heap.size) hown0 (by simp <;> omega); have hb : Below w.heap.size w w1 := (below_alloc (Below.refl w.heap.size w) _).grown hgrow1 (by simp) (fun k h => by cases h); obtain ⟨g, cap, rfl⟩ := owns_form ho1 (by omega); have hcg : w1.cell? ⟨g, p, none⟩ = some (.slice (A p) (L p) (C p)) := (by have := ho1.cells (g := g) rfl p _ (rowsL_get A L C hp); rwa [Go.WideShapes.add_plain, Nat.zero_add] at this); have hfg : w1.frozen? ⟨g, p, none⟩ = false := owns_free ho1 p; have hgl := ho1.lt g rfl; have HT := Lib.hid (put_tab (d := d) ho1 hp HA.out HX.out hgl.1 hb); have HB := Lib.hid (hb.setCell (p := ⟨g, p, none⟩) hgl.1 (.slice b m d)); clear ho1 hown0 hgrow1 hb)
            | (go_at_call 83; clear hcg hfg; refine (l3Trade_any m cap _ _ _ _ _ _ HW'.out HT.out).mono ?_; rintro e w2 ⟨ga, gc, rfl, hnc, hO, hb⟩; obtain ⟨br, or, hga, hcr⟩ := hO.rd p hp; subst hga; have HB2 := Lib.hid (below_chain HB.out hb); clear hO hb))
          go_ret2
          exact ⟨by rw [T4.out, TN.out]; rfl, HB2.out⟩
        · have T3 := Lib.hid (tt_no h3)
          have hno : ¬ GetsOk m L Z x m X := fun h => h3 h.2.2.2
          have T4 := Lib.hid (tt_no hno)
          have TN := Lib.hid (getsAns_no hno)
          clear h1 h2 h3 ha0 hL0 hb2 hx1 hno
          go_enter Try.func47, Try.ntmps47
          go_wp2_with (first
            | (go_at_call 62; refine H.out.mono ?_; rintro e w' ⟨rfl, rfl⟩; rw [T1.out])
            | (go_at_call 81; refine (l6In_any _ _ _ _).mono ?_; rintro e w' ⟨rfl, rfl⟩; rw [T2.out])
            | (go_at_call 82; refine HE.out.mono ?_; rintro e w' ⟨rfl, rfl⟩; rw [T3.out]))
          go_ret2
          exact ⟨by rw [T4.out, TN.out]; rfl, Below.refl _ _⟩
      · have hd : ((m : Int) != (n : Int)) = true := by simp; omega
        have hno : ¬ GetsOk n L Z x m X := fun h => hm h.2.2.1
        have T4 := Lib.hid (tt_no hno)
        have TN := Lib.hid (getsAns_no hno)
        clear h1 h2 ha0 hL0 hb2 hx1 hno
        go_enter Try.func47, Try.ntmps47
        go_wp2_with (first
          | (go_at_call 62; refine H.out.mono ?_; rintro e w' ⟨rfl, rfl⟩; rw [T1.out])
          | (go_at_call 81; refine (l6In_any _ _ _ _).mono ?_; rintro e w' ⟨rfl, rfl⟩; rw [T2.out]))
        go_ret2
        exact ⟨by rw [T4.out, TN.out]; rfl, Below.refl _ _⟩
    · have T2 := Lib.hid (tt_no h2)
      have hno : ¬ GetsOk n L Z x m X := fun h => h2 h.2.1
      have T4 := Lib.hid (tt_no hno)
      have TN := Lib.hid (getsAns_no hno)
      clear h1 h2 ha0 hL0 hb2 hx1 hno
      go_enter Try.func47, Try.ntmps47
      go_wp2_with (first
        | (go_at_call 62; refine H.out.mono ?_; rintro e w' ⟨rfl, rfl⟩; rw [T1.out])
        | (go_at_call 81; refine (l6In_any _ _ _ _).mono ?_; rintro e w' ⟨rfl, rfl⟩; rw [T2.out]))
      go_ret2
      exact ⟨by rw [T4.out, TN.out]; rfl, Below.refl _ _⟩
  · have T1 := Lib.hid (tt_no h1)
    have hno : ¬ GetsOk n L Z x m X := fun h => h1 h.1
    have T4 := Lib.hid (tt_no hno)
    have TN := Lib.hid (getsAns_no hno)
    clear h1 ha0 hL0 hb2 hx1 hno
    go_enter Try.func47, Try.ntmps47
    go_wp2_with (first
      | (go_at_call 62; refine H.out.mono ?_; rintro e w' ⟨rfl, rfl⟩; rw [T1.out]))
    go_ret2
    exact ⟨by rw [T4.out, TN.out]; rfl, Below.refl _ _⟩
end Go.Proofs.Ytlncinbphgallaa
