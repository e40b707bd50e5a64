/- TermGives and TermIn, of the model and of the program. -/
import Derived.Test.YtnaegnjgpnakfaaDoorSpecGive2
import Derived.Test.YtnaegnjgpnakfaaDoorSpecGiveC
import Derived.Test.YtnaegnjgpnakfaaDoorTermBool
import Derived.Test.YtnaegnjgpnakfaaDoorTradeOf
namespace Go.Proofs.YtnaegnjgpnakfaaDoor
set_option linter.unusedVariables false
set_option linter.unusedSimpArgs false
open Go.RowKit

theorem give_all (n : Nat) (h2 : 2 ≤ n) (h5 : n ≤ 5) : ∀ (t : Tm), WF t → ppl t ≤ n → GiveC n t
  | .keep, _, _ => give_keep n h2 h5
  | .circ L, hw, hp => give_circ n h2 h5 L hw hp
  | .back t, hw, hp => give_back n h2 h5 t hw hp (give_all n h2 h5 t hw hp)
  | .times k t, hw, hp => give_times n h2 h5 k hw.1 t hw.2 hp (give_all n h2 h5 t hw.2 hp)
  | .pair a b, hw, hp => give_pair n h2 h5 a b hw.1 (by unfold ppl at hp; omega) (give_all n h2 h5 a hw.1 (by unfold ppl at hp; omega)) (give_all n h2 h5 b hw.2 (by unfold ppl at hp; omega))

/-- What does a text tell? -/
noncomputable def termX (n : Int) (s : ByteArray) : Nat → Int := match termN n s with
  | none => fun _ => 0
  | some t => giv n.toNat t
noncomputable def termL (n : Int) (s : ByteArray) : Nat := if termB n s then n.toNat else 0
theorem term_none {n : Int} {s : ByteArray} (h : termN n s = none) : termB n s = false ∧ termL n s = 0 := by
  have e : termB n s = false := by unfold termB; rw [h]; rfl
  exact ⟨e, by unfold termL; rw [e]; rfl⟩
theorem term_some {n : Int} {s : ByteArray} {t : Tm} (h : termN n s = some t) : termB n s = true ∧ termL n s = n.toNat ∧ termX n s = giv n.toNat t := by
  have e : termB n s = true := by unfold termB; rw [h]; rfl
  exact ⟨e, by unfold termL; rw [e]; rfl, by unfold termX; rw [h]⟩

theorem specTermGives_any (n : Int) (s : ByteArray) (w : World) (hx0 : I64 n) : Calls Tryd.prog 16 #[.int .i64 n, .string s] w (RetIB (termB n s) (termL n s) (termX n s) w) := by
  have H := Lib.hid (l10Of_any n s w hx0)
  clear hx0
  cases ho : termN n s with
  | none =>
    have E := Lib.hid (term_none ho)
    rw [ho] at H
    clear ho
    go_enter Tryd.func16, Tryd.ntmps16
    go_wp2_with (go_at_call 38; refine H.out.mono ?_; rintro e w1 ⟨hb, c, L, a, m, k, ok, rfl, hok⟩; have hok' : ok = false := hok; subst hok'; have X := Lib.hid hb; clear hb)
    go_ret2
    rw [E.out.1, E.out.2]
    exact ⟨_, _, rfl, .inl rfl, below_alloc (below_alloc X.out _) _⟩
  | some t =>
    have E := Lib.hid (term_some ho)
    have hs := termN_some ho
    obtain ⟨N, hN⟩ := Int.eq_ofNat_of_zero_le (show 0 ≤ n by have := hs.1.1; omega)
    subst hN
    have hN2 : 2 ≤ N ∧ N ≤ 5 := ⟨by have := hs.1.1; omega, by have := hs.1.2; omega⟩
    have HG := Lib.hid (give_all N hN2.1 hN2.2 t (termN_wf ho) (by have := hs.2.2; omega))
    rw [ho] at H
    clear ho hs hN2
    go_enter Tryd.func16, Tryd.ntmps16
    go_wp2_with (go_at_call 38; refine H.out.mono ?_; rintro e w1 ⟨hb, c, L, a, m, k, ok, rfl, rfl, hv⟩; have X := Lib.hid (And.intro hb hv); clear hb hv)
    refine (HG.out _ c L a m k _ (X.out.2.below (below_alloc (Below.refl _ _) _))).mono ?_
    rintro e w2 ⟨g, cap, rfl, hg, ho2, hb2⟩
    have Y := Lib.hid (show (w.heap.size ≤ g ∧ g < w2.heap.size) ∧ OwnR w2 g (some ⟨g, 0, none⟩) N (giv N t) ∧ Below w.heap.size w w2 from ⟨⟨by have := hg.1; rw [World.size_alloc] at this; have := X.out.1.size; omega, hg.2.1⟩, ho2, below_chain X.out.1 (((Below.refl _ _).alloc (Nat.le_refl _) _).trans (hb2.mono (by simp)))⟩)
    clear hg ho2 hb2
    go_wp2_with fail
    go_ret2
    rw [E.out.1, E.out.2.1, E.out.2.2]
    exact ⟨_, cap, rfl, .inr ⟨g, Y.out.1.1, Y.out.1.2, Y.out.2.1⟩, Y.out.2.2⟩

theorem readTrade_any (n : Int) (s : ByteArray) (w : World) (hE : ErrAt w) (hn : I64 n) : Calls Tryd.prog 41 #[.int .i64 n, .string s] w (RetIB (termB n s) (termL n s) (termX n s) w) := by
  have H := Lib.hid (readTerm_any n s w hE hn)
  clear hn hE
  cases ho : termN n s with
  | none =>
    have E := Lib.hid (term_none ho)
    rw [ho] at H
    clear ho
    go_enter Tryd.func41, Tryd.ntmps41
    go_wp2_with (go_at_call 39; refine H.out.mono ?_; rintro e w1 ⟨hb, rfl⟩; have X := Lib.hid hb; clear hb)
    go_ret2
    rw [E.out.1, E.out.2]
    exact ⟨_, _, rfl, .inl rfl, X.out⟩
  | some t =>
    have E := Lib.hid (term_some ho)
    have hs := termN_some ho
    obtain ⟨N, hN⟩ := Int.eq_ofNat_of_zero_le (show 0 ≤ n by have := hs.1.1; omega)
    subst hN
    have hN2 : 2 ≤ N ∧ N ≤ 5 := ⟨by have := hs.1.1; omega, by have := hs.1.2; omega⟩
    have HG := Lib.hid (trade_all N hN2.1 hN2.2 t (termN_wf ho) (by have := hs.2.2; omega))
    rw [ho] at H
    clear ho hs hN2
    go_enter Tryd.func41, Tryd.ntmps41
    go_wp2_with (first
      | (go_at_call 39; refine H.out.mono ?_; rintro e w1 ⟨hb, v, rfl, hv⟩; have X := Lib.hid (And.intro hb hv); clear hb hv)
      | (go_at_call 64; refine (HG.out _ _ _ X.out.2).mono ?_; rintro e w2 ⟨g, cap, rfl, hg, ho2, hb2⟩; have Y := Lib.hid (And.intro hg (And.intro ho2 hb2)); clear hg ho2 hb2))
    go_ret2
    rw [E.out.1, E.out.2.1, E.out.2.2]
    exact ⟨_, cap, rfl, .inr ⟨g, by have := Y.out.1.1; have := X.out.1.size; omega, Y.out.1.2.1, Y.out.2.1⟩, below_chain X.out.1 Y.out.2.2⟩
theorem termGives_any (n : Int) (s : ByteArray) (w : World) (hE : ErrAt w) (hx0 : I64 n) : Calls Tryd.prog 17 #[.int .i64 n, .string s] w (RetIB (termB n s) (termL n s) (termX n s) w) := by
  have H := Lib.hid (readTrade_any n s w hE hx0)
  clear hx0 hE
  go_enter Tryd.func17, Tryd.ntmps17
  go_wp2_with (go_at_call 41; refine H.out.mono ?_; rintro e w1 ⟨a, c, rfl, ho, hb⟩; have X := Lib.hid (And.intro ho hb); clear ho hb)
  go_ret2
  exact ⟨a, c, rfl, X.out.1, X.out.2⟩
theorem termL_small (n : Int) (s : ByteArray) : termL n s ≤ 1048576 := by
  cases ho : termN n s with
  | none => rw [(term_none ho).2]; omega
  | some t => rw [(term_some ho).2.1]; have := (termN_some ho).1.2; omega
end Go.Proofs.YtnaegnjgpnakfaaDoor
