/- The program's HouseGets, and the model's words for it. -/
import Derived.Test.YtlncinbphgallaaTradeEnds
import Derived.Test.YtlncinbphgallaaHasW
namespace Go.Proofs.Ytlncinbphgallaa
set_option linter.unusedVariables false
set_option linter.unusedSimpArgs false
open Go.RowKit

/-- The rows of a table as cells. -/
def rowsL (n : Nat) (A : Nat → Option Addr) (L C : Nat → Nat) : List Value := (List.range n).map fun r => .slice (A r) (L r) (C r)
theorem rowsL_length (n : Nat) (A : Nat → Option Addr) (L C : Nat → Nat) : (rowsL n A L C).length = n := by simp [rowsL]
theorem rowsL_get {n j : Nat} (A : Nat → Option Addr) (L C : Nat → Nat) (h : j < n) : (rowsL n A L C)[j]? = some (.slice (A j) (L j) (C j)) := by simp [rowsL, h]
theorem rowsL_one (n : Nat) (A : Nat → Option Addr) (L C : Nat → Nat) : ∀ u ∈ rowsL n A L C, u.oneCell' = true := by
  intro u hu
  simp only [rowsL, List.mem_map] at hu
  obtain ⟨k, _, rfl⟩ := hu
  rfl
theorem Tab.news {w W : World} {b o n : Nat} {A : Nat → Option Addr} {L C : Nat → Nat} {Z : Nat → Nat → Int} (h : Tab w (some ⟨b, o, none⟩) n A L C Z) (hb : Below w.heap.size w W) : ∀ j u, (rowsL n A L C)[j]? = some u → W.cell? ((⟨b, o, none⟩ : Addr).add j) = some u := by
  intro j u hu
  have hj : j < n := by
    rcases Nat.lt_or_ge j n with h' | h'
    · exact h'
    · rw [List.getElem?_eq_none (by rw [rowsL_length]; exact h')] at hu; cases hu
  obtain ⟨b', o', ha, hc, _⟩ := (h.below (Nat.le_refl _) hb) j hj
  simp only [Option.some.injEq, Addr.mk.injEq] at ha
  obtain ⟨rfl, rfl, -⟩ := ha
  rw [Go.WideShapes.add_plain, hc, ← hu, rowsL_get A L C hj]

theorem owns_free {w : World} {base e n cap g : Nat} {xs : List Value} (h : w.ownsRow base e 1 (.slice (some ⟨g, 0, none⟩) n cap) n xs) (j : Nat) : w.frozen? ⟨g, j, none⟩ = false := by
  obtain ⟨_, (⟨he, _⟩ | ⟨g', cap', cur, hv, _, hh, _⟩)⟩ := h
  · cases he
  · cases hv
    exact frozen_of_row _ _ _ _ _ hh

/-- Another list of wishes in the place p. -/
def putA (p : Nat) (x : Option Addr) (A : Nat → Option Addr) (r : Nat) : Option Addr := if r = p then x else A r
def putN (p x : Nat) (L : Nat → Nat) (r : Nat) : Nat := if r = p then x else L r
def putZ (p : Nat) (X : Nat → Int) (Z : Nat → Nat → Int) (r : Nat) : Nat → Int := if r = p then X else Z r
/-- The table with the row at p put in place. -/
theorem put_tab {w w' : World} {n g cap p m d : Nat} {b : Option Addr} {A : Nat → Option Addr} {L C : Nat → Nat} {Z : Nat → Nat → Int} {X : Nat → Int} {base t : Nat} (hrow : w'.ownsRow base t 1 (.slice (some ⟨g, 0, none⟩) n cap) n (rowsL n A L C)) (hp : p < n)
    (ha : ∀ r, r < n → Rd w (A r) (L r) (Z r)) (hb : Rd w b m X) (hlt : w.heap.size ≤ g) (hbl : Below w.heap.size w w') :
    Tab (w'.setCell ⟨g, p, none⟩ (.slice b m d)) (some ⟨g, 0, none⟩) n (putA p b A) (putN p m L) (putN p d C) (putZ p X Z) := by
  have hbs : Below w.heap.size w (w'.setCell ⟨g, p, none⟩ (.slice b m d)) := hbl.setCell hlt _
  have hcell := fun k (hk : k < n) => (by
    have := hrow.cells (g := g) rfl k _ (rowsL_get A L C hk)
    rwa [Go.WideShapes.add_plain, Nat.zero_add] at this : w'.cell? ⟨g, k, none⟩ = some (.slice (A k) (L k) (C k)))
  intro r hr
  refine ⟨g, 0, rfl, ?_, ?_⟩
  · rw [Nat.zero_add]
    unfold putA putN
    by_cases e : r = p
    · subst e
      rw [World.cell?_setCell_same' _ _ _ (by rw [hcell r hr]; rfl), if_pos rfl, if_pos rfl, if_pos rfl]
    · rw [World.cell?_setCell_other (a := ⟨g, p, none⟩) (b := ⟨g, r, none⟩) (h := fun h => e (by simp only [Addr.mk.injEq] at h; omega)), hcell r hr, if_neg e, if_neg e, if_neg e]
  · unfold putA putN putZ
    by_cases e : r = p
    · rw [if_pos e, if_pos e, if_pos e]; exact hb.below (Nat.le_refl _) hbs
    · rw [if_neg e, if_neg e, if_neg e]; exact (ha r hr).below (Nat.le_refl _) hbs
theorem put_wishes {n p m : Nat} {L : Nat → Nat} {Z : Nat → Nat → Int} {X : Nat → Int} (h : IsWishes n L Z) (hx : IsEach n m X) : IsWishes n (putN p m L) (putZ p X Z) := by
  refine ⟨h.1, fun i hi => ?_⟩
  unfold putN putZ
  by_cases e : i = p
  · rw [if_pos e, if_pos e]; exact hx
  · rw [if_neg e, if_neg e]; exact h.2 i hi

/-- May one ask what a person gets for another list? -/
def GetsOk (n : Nat) (L : Nat → Nat) (Z : Nat → Nat → Int) (p : Int) (m : Nat) (X : Nat → Int) : Prop := IsWishes n L Z ∧ InR p 0 (n - 1) ∧ IsEach n m X
noncomputable def getsAns (n : Nat) (L : Nat → Nat) (Z : Nat → Nat → Int) (p : Int) (m : Nat) (X : Nat → Int) : Int := if tt (GetsOk n L Z p m X) = true then giveF (putZ p.toNat X Z) n p.toNat else 0
theorem getsAns_yes {n m : Nat} {L : Nat → Nat} {Z : Nat → Nat → Int} {p : Int} {X : Nat → Int} (h : GetsOk n L Z p m X) : getsAns n L Z p m X = giveF (putZ p.toNat X Z) n p.toNat := by unfold getsAns; rw [tt_of h]; rfl
theorem getsAns_no {n m : Nat} {L : Nat → Nat} {Z : Nat → Nat → Int} {p : Int} {X : Nat → Int} (h : ¬ GetsOk n L Z p m X) : getsAns n L Z p m X = 0 := by unfold getsAns; rw [tt_no h]; rfl

set_option maxHeartbeats 400000 in
theorem cloneW_any (n c : Nat) (a : Option Addr) (A : Nat → Option Addr) (L C : Nat → Nat) (Z : Nat → Nat → Int) (w : World) (hn1 : 1 ≤ n) (hn : n ≤ 5) (ha : Tab w a n A L C Z) :
    Calls Try.prog 79 #[.slice a n c] w fun e w' => ∃ g cap, e = .returned (.slice (some ⟨g, 0, none⟩) n cap) ∧ w'.ownsRow w.heap.size 23 1 (.slice (some ⟨g, 0, none⟩) n cap) n (rowsL n A L C) ∧ Below w.heap.size w w' := by
  obtain ⟨ba, oa, rfl, hc0, hr0⟩ := ha 0 (by omega)
  obtain ⟨i0, hi, hz0, hz1, hz2⟩ := info_parts Try.infoInts
  have hnil := fun (w : World) (a : Option Addr) (n c n' c' : Nat) => Lib.run_eql_slice_nil (P := Try.prog) w 51 23 a n c n' c' Try.underlying51
  have HA := Lib.hid ha
  clear ha hc0 hr0
  go_enter Try.func79, Try.ntmps79
  go_wp2_with (at_builtin; refine wpList_append_grows _ (by rfl) (.tmp 5) (.tmp 6) 51 (by rfl) 23 i0 (.slice none 0 0) 1 24 Try.underlying51 hi hz0 hz1 hz2 (by rfl) (by decide) _ 0 0 [] (by rfl) (fun h => by cases h) (by rfl) (fun _ _ j u h => absurd h (by simp)) ⟨ba, oa, none⟩ n c (rowsL n A L C) (by rfl) ((rowsL_length n A L C).trans (Nat.mul_one n).symm) (HA.out.news (by repeat (first | exact Below.refl _ _ | refine Below.drew ?_ | refine below_alloc ?_ _))) (rowsL_one n A L C) (by omega) (by unfold maxLen; omega) (by omega) ?_; intro v1 w1 hown0 hgrow1; simp only [Nat.zero_add, List.nil_append] at hown0)
  obtain ⟨h1, (⟨he, h0⟩ | ⟨g, cap, cur, rfl, hg, hr⟩)⟩ := hown0
  · omega
  · have hB : Below w.heap.size w w1 := (below_alloc (Below.refl w.heap.size w) _).grown hgrow1 (by simp) (fun k h => by cases h)
    go_ret
    exact ⟨g, cap, rfl, ⟨h1, .inr ⟨g, cap, cur, rfl, by simp at hg; omega, hr⟩⟩, hB⟩

set_option maxHeartbeats 1600000 in
theorem houseGets_anyc (n c : Nat) (a : Option Addr) (A : Nat → Option Addr) (L C : Nat → Nat) (Z : Nat → Nat → Int) (x : Int) (m d : Nat) (b : Option Addr) (X : Nat → Int) (w : World) (hn0 : n ≤ 1048576) (hL0 : ∀ r, r < n → L r ≤ 1048576) (ha0 : Tab w a n A L C Z) (hx1 : I64 x) (hm2 : m ≤ 1048576) (hb2 : Rd w b m X) :
    Calls Try.prog 46 #[.slice a n c, .int .i64 x, .slice b m d] w fun e w' => e = .returned (.tuple #[.int .i64 (getsAns n L Z x m X), .bool (tt (GetsOk n L Z x m X))]) ∧ Below w.heap.size w w' := by
  have H := Lib.hid (readWishes_any n c a A L C Z w hn0 hL0 ha0)
  by_cases h1 : IsWishes n L Z
  · have T1 := Lib.hid (tt_of h1)
    by_cases h2 : InR x 0 ((n : Int) - 1)
    · have T2 := Lib.hid (tt_of h2)
      have HE := Lib.hid (hasEach_any n m d b X w h1.1.2 hm2 hb2)
      by_cases h3 : IsEach n m X
      · have T3 := Lib.hid (tt_of h3)
        have T4 := Lib.hid (tt_of (show GetsOk n L Z x m X from ⟨h1, h2, h3⟩))
        have TN := Lib.hid (getsAns_yes (show GetsOk n L Z x m X from ⟨h1, h2, h3⟩))
        obtain ⟨p, rfl⟩ := Int.eq_ofNat_of_zero_le h2.1
        have hp : p < n := by have := h2.2; omega
        have hn1 := h1.1.1
        have hn5 := h1.1.2
        have HC := Lib.hid (cloneW_any n c a A L C Z w (by omega) hn5 ha0)
        have HA := Lib.hid (fun r (hr : r < n) => show Rd w (A r) (L r) (Z r) from by obtain ⟨_, _, _, _, h⟩ := ha0 r hr; exact h)
        have HX := Lib.hid hb2
        have HW' := Lib.hid (put_wishes (p := p) h1 h3)
        have i1 : (0 : Int) ≤ (p : Int) := by omega
        have i2 : (p : Int) < (n : Int) := by omega
        clear h1 h2 h3 ha0 hL0 hb2 hx1
        go_enter Try.func46, Try.ntmps46
        go_wp2_with (first
          | (go_at_call 64; refine H.out.mono ?_; rintro e w' ⟨rfl, rfl⟩; rw [T1.out])
          | (go_at_call 53; refine (hasW_any n c a _ _ hn0).mono ?_; rintro e w' ⟨rfl, rfl⟩; rw [T2.out])
          | (go_at_call 78; refine HE.out.mono ?_; rintro e w' ⟨rfl, rfl⟩; rw [T3.out])
          | (go_at_call 79; refine HC.out.mono ?_; rintro e w1 ⟨g, cap, rfl, ho, hb⟩; have hcg : w1.cell? ⟨g, p, none⟩ = some (.slice (A p) (L p) (C p)) := (by have := ho.cells (g := g) rfl p _ (rowsL_get A L C hp); rwa [Go.WideShapes.add_plain, Nat.zero_add] at this); have hfg : w1.frozen? ⟨g, p, none⟩ = false := owns_free ho p; have hgl := ho.lt g rfl; have HT := Lib.hid (put_tab (d := d) ho hp HA.out HX.out hgl.1 hb); have HB := Lib.hid (hb.setCell (p := ⟨g, p, none⟩) hgl.1 (.slice b m d)); clear ho hb)
          | (go_at_call 80; clear hcg hfg; refine (trade_any n cap _ _ _ _ _ _ HW'.out HT.out).mono ?_; rintro e w2 ⟨v, rfl, hR, hO, hb⟩; have hcr := hR.cell hp; rw [show (w1.setCell ⟨g, p, none⟩ (.slice b m d)).heap.size = w1.heap.size from by simp [World.setCell]] at hcr; have HB2 := Lib.hid (below_chain HB.out hb); clear hR hO hb))
        go_ret2
        exact ⟨by rw [T4.out, TN.out]; rfl, HB2.out⟩
      · have T3 := Lib.hid (tt_no h3)
        have T4 := Lib.hid (tt_no (show ¬ GetsOk n L Z x m X from fun h => h3 h.2.2))
        have TN := Lib.hid (getsAns_no (show ¬ GetsOk n L Z x m X from fun h => h3 h.2.2))
        clear h1 h2 h3 ha0 hL0 hb2 hx1
        go_enter Try.func46, Try.ntmps46
        go_wp2_with (first
          | (go_at_call 64; refine H.out.mono ?_; rintro e w' ⟨rfl, rfl⟩; rw [T1.out])
          | (go_at_call 53; refine (hasW_any n c a _ _ hn0).mono ?_; rintro e w' ⟨rfl, rfl⟩; rw [T2.out])
          | (go_at_call 78; refine HE.out.mono ?_; rintro e w' ⟨rfl, rfl⟩; rw [T3.out]))
        go_ret2
        exact ⟨by rw [T4.out, TN.out]; rfl, Below.refl _ _⟩
    · have T2 := Lib.hid (tt_no h2)
      have T4 := Lib.hid (tt_no (show ¬ GetsOk n L Z x m X from fun h => h2 h.2.1))
      have TN := Lib.hid (getsAns_no (show ¬ GetsOk n L Z x m X from fun h => h2 h.2.1))
      clear h1 h2 ha0 hL0 hb2 hx1
      go_enter Try.func46, Try.ntmps46
      go_wp2_with (first
        | (go_at_call 64; refine H.out.mono ?_; rintro e w' ⟨rfl, rfl⟩; rw [T1.out])
        | (go_at_call 53; refine (hasW_any n c a _ _ hn0).mono ?_; rintro e w' ⟨rfl, rfl⟩; rw [T2.out]))
      go_ret2
      exact ⟨by rw [T4.out, TN.out]; rfl, Below.refl _ _⟩
  · have T1 := Lib.hid (tt_no h1)
    have T4 := Lib.hid (tt_no (show ¬ GetsOk n L Z x m X from fun h => h1 h.1))
    have TN := Lib.hid (getsAns_no (show ¬ GetsOk n L Z x m X from fun h => h1 h.1))
    clear h1 ha0 hL0 hb2 hx1
    go_enter Try.func46, Try.ntmps46
    go_wp2_with (first
      | (go_at_call 64; refine H.out.mono ?_; rintro e w' ⟨rfl, rfl⟩; rw [T1.out]))
    go_ret2
    exact ⟨by rw [T4.out, TN.out]; rfl, Below.refl _ _⟩
theorem houseGets_any (n c : Nat) (a : Option Addr) (A : Nat → Option Addr) (L C : Nat → Nat) (Z : Nat → Nat → Int) (x : Int) (m d : Nat) (b : Option Addr) (X : Nat → Int) (w : World) (hn0 : n ≤ 1048576) (hL0 : ∀ r, r < n → L r ≤ 1048576) (ha0 : Tab w a n A L C Z) (hx1 : I64 x) (hm2 : m ≤ 1048576) (hmd2 : m ≤ d) (hb2 : Rd w b m X) :
    Calls Try.prog 46 #[.slice a n c, .int .i64 x, .slice b m d] w fun e w' => e = .returned (.tuple #[.int .i64 (getsAns n L Z x m X), .bool (tt (GetsOk n L Z x m X))]) ∧ Below w.heap.size w w' :=
  houseGets_anyc n c a A L C Z x m d b X w hn0 hL0 ha0 hx1 hm2 hb2
end Go.Proofs.Ytlncinbphgallaa
