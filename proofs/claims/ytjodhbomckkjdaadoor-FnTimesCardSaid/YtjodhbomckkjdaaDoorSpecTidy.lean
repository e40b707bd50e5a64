/- The model's TermTidy, TermSame and TermTimes. -/
import Derived.Test.YtjodhbomckkjdaaDoorTidyMore
import Derived.Test.YtjodhbomckkjdaaDoorTermGives
namespace Go.Proofs.YtjodhbomckkjdaaDoor
set_option linter.unusedVariables false
set_option linter.unusedSimpArgs false
open Go.RowKit

/-- The tidy text of what a text tells. -/
noncomputable def tidyN (n : Int) (s : ByteArray) : List Nat := match termN n s with
  | none => []
  | some t => textN (cycS n.toNat (givD n.toNat (giv n.toNat t)))
theorem tidy_none {n : Int} {s : ByteArray} (h : termN n s = none) : tidyN n s = [] := by unfold tidyN; rw [h]
theorem tidy_some {n : Int} {s : ByteArray} {t : Tm} (h : termN n s = some t) : tidyN n s = textN (cycS n.toNat (givD n.toNat (giv n.toNat t))) := by unfold tidyN; rw [h]
/-- What is known of a text that is a term. -/
theorem term_perm {n : Int} {s : ByteArray} {t : Tm} (h : termN n s = some t) : ∃ N : Nat, n = N ∧ (2 ≤ N ∧ N ≤ 5) ∧ IsDiff N N (giv N t) := by
  have hs := termN_some h
  obtain ⟨N, hN⟩ := Int.eq_ofNat_of_zero_le (show 0 ≤ n by have := hs.1.1; omega)
  subst hN
  exact ⟨N, rfl, ⟨by have := hs.1.1; omega, by have := hs.1.2; omega⟩, giv_perm (termN_wf h) (by have := hs.2.2; omega)⟩
theorem specTermTidy_any (n : Int) (s : ByteArray) (w : World) (hx0 : I64 n) : Calls Tryd.prog 9 #[.int .i64 n, .string s] w fun e w' => e = .returned (.tuple #[.string (strN (tidyN n s)), .bool (termB n s)]) ∧ Below w.heap.size w w' := by
  have H := Lib.hid (specTermGives_any n s w hx0)
  clear hx0
  cases ho : termN n s with
  | none =>
    have E := Lib.hid (term_none ho)
    have E2 := Lib.hid (tidy_none ho)
    rw [E.out.1, E.out.2] at H
    clear ho
    go_enter Tryd.func9, Tryd.ntmps9
    go_wp2_with (go_at_call 26; refine H.out.mono ?_; rintro e w1 ⟨a, c, rfl, ho, hb⟩; have X := Lib.hid hb; clear ho hb)
    go_ret2
    rw [E2.out, E.out.1]
    exact ⟨rfl, X.out⟩
  | some t =>
    have E := Lib.hid (term_some ho)
    have E2 := Lib.hid (tidy_some ho)
    obtain ⟨N, rfl, hN, hP⟩ := term_perm ho
    have HP := Lib.hid (And.intro hN hP)
    rw [E.out.1, E.out.2.1, E.out.2.2, Int.toNat_natCast] at H
    rw [Int.toNat_natCast] at E2
    clear ho hP hN
    go_enter Tryd.func9, Tryd.ntmps9
    go_wp2_with (first
      | (go_at_call 26; refine H.out.mono ?_; rintro e w1 ⟨a, c, rfl, ho, hb⟩; have X := Lib.hid (And.intro ho hb); clear ho hb)
      | (go_at_call 27; refine (l10Text_any N c a (giv N t) w1 HP.out.1.1 HP.out.1.2 HP.out.2 X.out.1.rd).mono ?_; rintro e w2 ⟨rfl, hb⟩; have Y := Lib.hid hb; clear hb))
    go_ret2
    rw [E2.out, E.out.1]
    exact ⟨rfl, below_chain X.out.2 Y.out⟩

/-- Do two texts tell the same? -/
noncomputable def sameB (n : Int) (s t : ByteArray) : Bool := termB n s && (termB n t && tt (∀ i, i < n.toNat → termX n s i = termX n t i))
theorem sameB_no1 {n : Int} {s t : ByteArray} (h : termB n s = false) : sameB n s t = false := by unfold sameB; rw [h]; rfl
theorem sameB_no2 {n : Int} {s t : ByteArray} (h : termB n t = false) : sameB n s t = false := by unfold sameB; rw [h]; simp
theorem termB_some {n : Int} {s : ByteArray} (h : termB n s = true) : ∃ t, termN n s = some t := Option.isSome_iff_exists.1 h
theorem texts_eq {n : Int} {s t : ByteArray} (h1 : termB n s = true) (h2 : termB n t = true) : ((strN (tidyN n s)).toList == (strN (tidyN n t)).toList) = sameB n s t := by
  obtain ⟨u, hu⟩ := termB_some h1
  obtain ⟨v, hv⟩ := termB_some h2
  have e1 := term_some hu
  have e2 := term_some hv
  obtain ⟨N, rfl, hN, hP⟩ := term_perm hu
  obtain ⟨N', hN', hN2, hQ⟩ := term_perm hv
  obtain rfl : N = N' := by omega
  rw [tidy_some hu, tidy_some hv]
  unfold sameB
  rw [h1, h2, e1.2.2, e2.2.2, Int.toNat_natCast]
  have hi := strN_inj (cyc_lt hN.1 hN.2 hP) (cyc_lt hN.1 hN.2 hQ)
  have hs := text_same hN.1 hN.2 hP hQ
  show _ = (true && (true && tt _))
  rw [Bool.true_and, Bool.true_and]
  refine tt_eq ?_
  rw [← hs, ← hi, beq_iff_eq, ByteArray.toList_eq, ByteArray.toList_eq]
  constructor
  · intro h; exact ByteArray.ext (Array.toList_inj.1 h)
  · intro h; rw [h]
theorem specTermSame_any (n : Int) (s t : ByteArray) (w : World) (hx0 : I64 n) : Calls Tryd.prog 14 #[.int .i64 n, .string s, .string t] w fun e w' => e = .returned (.bool (sameB n s t)) ∧ Below w.heap.size w w' := by
  have H := Lib.hid (specTermTidy_any n s w hx0)
  have H2 := Lib.hid (fun w1 => specTermTidy_any n t w1 hx0)
  clear hx0
  cases hp : termB n s with
  | false =>
    have E := Lib.hid (sameB_no1 (t := t) hp)
    rw [hp] at H
    clear hp
    obtain ⟨q, hq⟩ : ∃ q, q = termB n t := ⟨_, rfl⟩
    rw [← hq] at H2
    clear hq
    go_enter Tryd.func14, Tryd.ntmps14
    have tk : True := trivial
    go_wp2_with (first
      | (have _t := tk; go_at_call 9; refine H.out.mono ?_; clear tk; rintro e w1 ⟨rfl, hb⟩; have X := Lib.hid hb; clear hb)
      | (go_at_call 9; refine (H2.out _).mono ?_; rintro e w2 ⟨rfl, hb⟩; have Y := Lib.hid hb; clear hb))
    go_ret
    exact ⟨by rw [E.out]; rfl, below_chain X.out Y.out⟩
  | true =>
    cases hq : termB n t with
    | false =>
      have E := Lib.hid (sameB_no2 (s := s) hq)
      rw [hp] at H
      rw [hq] at H2
      clear hp hq
      go_enter Tryd.func14, Tryd.ntmps14
      have tk : True := trivial
      go_wp2_with (first
        | (have _t := tk; go_at_call 9; refine H.out.mono ?_; clear tk; rintro e w1 ⟨rfl, hb⟩; have X := Lib.hid hb; clear hb)
        | (go_at_call 9; refine (H2.out _).mono ?_; rintro e w2 ⟨rfl, hb⟩; have Y := Lib.hid hb; clear hb))
      go_ret
      exact ⟨by rw [E.out]; rfl, below_chain X.out Y.out⟩
    | true =>
      have hc := texts_eq hp hq
      rw [hp] at H
      rw [hq] at H2
      obtain ⟨T1, hT1⟩ : ∃ T1, T1 = strN (tidyN n s) := ⟨_, rfl⟩
      obtain ⟨T2, hT2⟩ : ∃ T2, T2 = strN (tidyN n t) := ⟨_, rfl⟩
      obtain ⟨bb, hbb⟩ : ∃ bb, bb = sameB n s t := ⟨_, rfl⟩
      rw [← hT1, ← hT2, ← hbb] at hc
      rw [← hT1] at H
      rw [← hT2] at H2
      rw [← hbb]
      clear hp hq hT1 hT2 hbb
      go_enter Tryd.func14, Tryd.ntmps14
      have tk : True := trivial
      go_wp2_with (first
        | (have _t := tk; go_at_call 9; refine H.out.mono ?_; clear tk; rintro e w1 ⟨rfl, hb⟩; have X := Lib.hid hb; clear hb)
        | (go_at_call 9; refine (H2.out _).mono ?_; rintro e w2 ⟨rfl, hb⟩; have Y := Lib.hid hb; clear hb))
      go_ret
      exact ⟨rfl, below_chain X.out Y.out⟩
end Go.Proofs.YtjodhbomckkjdaaDoor
