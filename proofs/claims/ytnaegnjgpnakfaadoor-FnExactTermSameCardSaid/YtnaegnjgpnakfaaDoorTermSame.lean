/- The program's TermSame. -/
import Derived.Test.YtnaegnjgpnakfaaDoorSpecTidy
import Derived.Test.YtnaegnjgpnakfaaDoorSameB
namespace Go.Proofs.YtnaegnjgpnakfaaDoor
set_option linter.unusedVariables false
set_option linter.unusedSimpArgs false
open Go.RowKit


set_option maxHeartbeats 400000 in
theorem equal_any (n m ca cb : Nat) (a b : Option Addr) (X Y : Nat → Int) (w : World) (hn : n ≤ 9223372036854775807) (hm : m ≤ 9223372036854775807) (ha : Rd w a n X) (hb : Rd w b m Y) :
    Calls Tryd.prog 44 #[.slice a n ca, .slice b m cb] w fun e w' => e = .returned (.bool (tt (SameB n m X Y))) ∧ ∃ q, w' = w.drewN q := by
  by_cases hnm : n = m
  · subst hnm
    go_enter Tryd.func44, Tryd.ntmps44
    go_wp2
    go_loopw [5, 13] (fun _ i wr => ∃ k : Nat, k ≤ n ∧ i = .int .i64 k ∧ (∀ j, j < k → X j = Y j) ∧ ∃ q, wr = w.drewN q) (fun _ i _ => n - (intOf i).toNat)
    case atStart => exact ⟨0, Nat.zero_le _, rfl, fun j hj => absurd hj (Nat.not_lt_zero _), 0, rfl⟩
    case round =>
      obtain ⟨k, hk, rfl, hs, q, rfl⟩ := hrel
      by_cases hlt : k < n
      · obtain ⟨ba, oa, rfl, hca⟩ := ha k hlt
        obtain ⟨bb, ob, rfl, hcb⟩ := hb k hlt
        have H1 := Lib.hid hs
        clear hs ha hb
        go_wp2
        go_quiet (fail)
        go_wp2
        · have ht : (X k != Y k) = true := by assumption
          have hf : ¬ SameB n n X Y := fun h => by have := h.2 k hlt; simp [this] at ht
          go_ret
          exact ⟨by rw [tt_no hf]; rfl, q + nq, by rw [World.drewN_drewN]⟩
        · have ht : (X k != Y k) = false := by assumption
          have he : X k = Y k := by simpa using ht
          go_roundw
          case rel =>
            exact ⟨k + 1, by omega, by go_num, fun j hj => by
              by_cases e : j = k
              · rw [e]; exact he
              · exact H1.out j (by omega), _, rfl⟩
          case measure => simp [intOf]; omega
      · have H1 := Lib.hid hs
        clear hs ha hb
        go_wp2
        go_ret
        exact ⟨by rw [tt_of ⟨rfl, fun j hj => H1.out j (by omega)⟩]; rfl, _, rfl⟩
  · go_enter Tryd.func44, Tryd.ntmps44
    have hne : ((n : Int) != (m : Int)) = true := by simp; omega
    go_wp2
    go_ret
    exact ⟨by rw [tt_no (fun h => hnm h.1)]; rfl, 0, rfl⟩

theorem termSame_any (n : Int) (s t : ByteArray) (w : World) (hE : ErrAt w) (hx0 : I64 n) : Calls Tryd.prog 24 #[.int .i64 n, .string s, .string t] w fun e w' => e = .returned (.bool (sameB n s t)) ∧ Below w.heap.size w w' := by
  have H := Lib.hid (readTrade_any n s w hE hx0)
  have H2 := Lib.hid (fun (w1 : World) (h : Below w.heap.size w w1) => readTrade_any n t w1 (hE.below h) hx0)
  clear hx0 hE
  cases hp : termB n s with
  | false =>
    have E := Lib.hid (sameB_no1 (t := t) hp)
    rw [hp] at H
    clear hp
    obtain ⟨q, hq⟩ : ∃ q, q = termB n t := ⟨_, rfl⟩
    rw [← hq] at H2
    clear hq
    go_enter Tryd.func24, Tryd.ntmps24
    have tk : True := trivial
    go_wp2_with (first
      | (have _t := tk; go_at_call 41; refine H.out.mono ?_; clear tk; rintro e w1 ⟨a, c, rfl, ho, hb⟩; have X := Lib.hid hb; clear ho hb)
      | (go_at_call 41; refine (H2.out _ X.out).mono ?_; rintro e w2 ⟨a2, c2, rfl, ho, hb⟩; have Y := Lib.hid hb; clear ho hb))
    go_ret
    exact ⟨by rw [E.out]; rfl, below_chain X.out Y.out⟩
  | true =>
    cases hq : termB n t with
    | false =>
      have E := Lib.hid (sameB_no2 (s := s) hq)
      rw [hp] at H
      rw [hq] at H2
      clear hp hq
      go_enter Tryd.func24, Tryd.ntmps24
      have tk : True := trivial
      go_wp2_with (first
        | (have _t := tk; go_at_call 41; refine H.out.mono ?_; clear tk; rintro e w1 ⟨a, c, rfl, ho, hb⟩; have X := Lib.hid hb; clear ho hb)
        | (go_at_call 41; refine (H2.out _ X.out).mono ?_; rintro e w2 ⟨a2, c2, rfl, ho, hb⟩; have Y := Lib.hid hb; clear ho hb))
      go_ret
      exact ⟨by rw [E.out]; rfl, below_chain X.out Y.out⟩
    | true =>
      obtain ⟨u, hu⟩ := termB_some hp
      obtain ⟨v, hv⟩ := termB_some hq
      have e1 := term_some hu
      have e2 := term_some hv
      obtain ⟨N, rfl, hN, hP⟩ := term_perm hu
      have E := Lib.hid (show tt (SameB N N (giv N u) (giv N v)) = sameB (N : Int) s t by
        unfold sameB
        rw [hp, hq, e1.2.2, e2.2.2, Int.toNat_natCast]
        show _ = (true && (true && tt _))
        rw [Bool.true_and, Bool.true_and]
        exact tt_congr ⟨fun h => h.2, fun h => ⟨rfl, h⟩⟩)
      have HN := Lib.hid hN
      rw [hp, e1.2.1, e1.2.2, Int.toNat_natCast] at H
      rw [hq, e2.2.1, e2.2.2, Int.toNat_natCast] at H2
      clear hp hq e1 e2 hu hv hP hN
      go_enter Tryd.func24, Tryd.ntmps24
      have tk : True := trivial
      go_wp2_with (first
        | (have _t := tk; go_at_call 41; refine H.out.mono ?_; clear tk; rintro e w1 ⟨a, c, rfl, ho, hb⟩; have X := Lib.hid (And.intro ho hb); clear ho hb)
        | (go_at_call 41; refine (H2.out _ X.out.2).mono ?_; rintro e w2 ⟨a2, c2, rfl, ho, hb⟩; have Y := Lib.hid (And.intro ho hb); clear ho hb)
        | (go_at_call 44; refine (equal_any N N c c2 a a2 (giv N u) (giv N v) w2 (by have := HN.out.2; omega) (by have := HN.out.2; omega) (X.out.1.rd.below (Nat.le_refl _) Y.out.2) Y.out.1.rd).mono ?_; rintro e w3 ⟨rfl, q, rfl⟩; rw [E.out]))
      go_ret
      exact ⟨rfl, below_drewN (below_chain X.out.2 Y.out.2) _⟩
end Go.Proofs.YtnaegnjgpnakfaaDoor
