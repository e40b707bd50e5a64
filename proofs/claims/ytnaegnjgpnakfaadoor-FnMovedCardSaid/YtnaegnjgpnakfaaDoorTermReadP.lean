/- The program reads a term. -/
import Derived.Test.YtnaegnjgpnakfaaDoorTermTerm
import Derived.Test.YtnaegnjgpnakfaaDoorTermPeople
import Derived.Test.YtnaegnjgpnakfaaDoorTermAsHit
import Derived.Test.YtnaegnjgpnakfaaDoorPeopleP
namespace Go.Proofs.YtnaegnjgpnakfaaDoor
set_option linter.unusedVariables false
set_option linter.unusedSimpArgs false
open Go.RowKit

theorem TxtAt.new (w : World) (s : ByteArray) : TxtAt (w.alloc (.cells #[.string s, .int .i64 0] 86)) w.heap.size s 0 :=
  World.rowIs_alloc w #[.string s, .int .i64 0] 86 _ (fun i hi => by
    have : i < 2 := hi
    rcases (by omega : i = 0 ∨ i = 1) with rfl | rfl <;> rfl)
theorem PV.mono {w : World} {B B' : Nat} (hB : B' ≤ B) : ∀ {t : Tm} {v : Value}, PV w B t v → PV w B' t v
  | .keep, v, h => h
  | .circ L, v, ⟨b, c, e, ⟨h1, h2⟩, h3⟩ => ⟨b, c, e, ⟨by omega, h2⟩, h3⟩
  | .back t, v, ⟨u, e, h⟩ => ⟨u, e, PV.mono hB h⟩
  | .times k t, v, ⟨u, e, h⟩ => ⟨u, e, PV.mono hB h⟩
  | .pair a b, v, ⟨u1, u2, e, h1, h2⟩ => ⟨u1, u2, e, PV.mono hB h1, PV.mono hB h2⟩

set_option maxHeartbeats 1600000 in
theorem parseTerm_any (s : ByteArray) (w : World) : Calls Tryd.prog 61 #[.string s] w (RetParse w (termOf s)) := by
  by_cases h60 : 60 < s.size
  · have d1 : decide ((60 : Int) < (s.size : Int)) = true := decide_eq_true (by omega)
    have d1n : decide (60 < s.size) = true := decide_eq_true h60
    have E := Lib.hid (show termOf s = none by unfold termOf; rw [if_pos h60])
    clear h60
    go_enter Tryd.func61, Tryd.ntmps61
    go_wp2
    go_ret2
    rw [E.out]
    exact ⟨Below.refl _ _, _, rfl⟩
  · have d1 : decide ((60 : Int) < (s.size : Int)) = false := decide_eq_false (by omega)
    have d1n : decide (60 < s.size) = false := decide_eq_false h60
    have H60 := Lib.hid (show s.size ≤ 60 by omega)
    clear h60
    go_enter Tryd.func61, Tryd.ntmps61
    go_wp2_with fail
    obtain ⟨g, hg⟩ : ∃ g, g = w.heap.size := ⟨_, rfl⟩
    obtain ⟨w1, hw1⟩ : ∃ w1, w1 = w.alloc (.cells #[.string s, .int .i64 0] 86) := ⟨_, rfl⟩
    have T1 := TxtAt.new w s
    rw [← hw1, ← hg] at T1
    have B1 := Lib.hid (show Below w.heap.size w w1 from by rw [hw1]; exact (Below.refl _ _).alloc (Nat.le_refl _) _)
    rw [← hw1, ← hg]
    have HG := Lib.hid hg
    clear hw1 hg
    refine (RetTerm.calls (term_all s g H60.out s.size 0 w1 (Nat.zero_le _) (by omega) T1)).mono ?_
    rintro e w2 ⟨v1, v2, rfl, hr⟩
    have hB2 : Below w.heap.size w w2 := by
      refine B1.out.trans ?_
      rw [← HG.out]
      exact (hr.1.toBelow (Nat.le_of_lt T1.lt))
    have B2 := Lib.hid hB2
    clear hB2 T1
    cases ho : readT s s.size 0 with
    | none =>
      rw [ho] at hr
      obtain ⟨_, ⟨q, hq⟩, _⟩ := hr
      cases hq
      have E := Lib.hid (show termOf s = none by unfold termOf; rw [if_neg (by have := H60.out; omega), ho])
      clear ho
      go_wp2
      go_ret2
      rw [E.out]
      exact ⟨B2.out, _, rfl⟩
    | some o =>
      obtain ⟨t, p⟩ := o
      have hb := (readT_bound _ _ _ _ ho).2
      rw [ho] at hr
      obtain ⟨_, v, hq, hv, htx⟩ := hr
      cases hq
      obtain ⟨V, x, rfl⟩ := hv.iface
      have hc : w2.cell? ⟨g, 1, none⟩ = some (.int .i64 (p : Nat)) := htx.cell (i := 1) (by omega)
      have HV := Lib.hid (hv.mono (B' := w.heap.size) (by have := HG.out; omega))
      clear hv htx
      by_cases hp : p < s.size
      · have d2 : decide ((p : Int) < (s.size : Int)) = true := decide_eq_true (by omega)
        have d2n : decide (p < s.size) = true := decide_eq_true hp
        have E := Lib.hid (show termOf s = none by unfold termOf; rw [if_neg (by have := H60.out; omega), ho]; simp only; rw [if_neg (by omega)])
        clear ho hb hp
        go_wp2
        go_quiet (fail)
        go_wp2
        go_ret2
        rw [E.out]
        exact ⟨B2.out.trans ⟨rfl, rfl, rfl, Nat.le_refl _, fun _ _ => rfl⟩, _, rfl⟩
      · have d2 : decide ((p : Int) < (s.size : Int)) = false := decide_eq_false (by omega)
        have d2n : decide (p < s.size) = false := decide_eq_false hp
        have E := Lib.hid (show termOf s = some t by unfold termOf; rw [if_neg (by have := H60.out; omega), ho]; simp only; rw [if_pos (by omega)])
        clear ho hb hp
        go_wp2
        go_ret2
        rw [E.out]
        exact ⟨B2.out, _, rfl, HV.out⟩
/-- What readTerm hands back. -/
def RetRead (w : World) (o : Option Tm) (e : Ending) (w' : World) : Prop :=
  Below w.heap.size w w' ∧ match o with
    | none => e = .returned (.tuple #[.nilIface, .bool false])
    | some t => ∃ v, e = .returned (.tuple #[v, .bool true]) ∧ PV w' w.heap.size t v
theorem termOf_dep {s : ByteArray} {t : Tm} (h : termOf s = some t) : dep t ≤ 60 ∧ DepOk t := by
  obtain ⟨h1, h2⟩ := termOf_some h
  have := readT_dep _ _ _ _ h2
  exact ⟨by omega, this.2 h1⟩
theorem ppl_le {t : Tm} (h : WF t) : ppl t ≤ 5 := by
  induction t with
  | keep => exact Nat.zero_le _
  | circ L => exact maxL_le fun j hj => by have := (h.2.1 j hj).2; unfold nthN at this; omega
  | back t ih => exact ih h
  | times k t ih => exact ih h.2
  | pair a b iha ihb => have := iha h.1; have := ihb h.2; unfold ppl; omega

set_option maxRecDepth 100000 in
set_option maxHeartbeats 3200000 in
theorem readTerm_any (n : Int) (s : ByteArray) (w : World) (hE : ErrAt w) (hn : I64 n) : Calls Tryd.prog 39 #[.int .i64 n, .string s] w (RetRead w (termN n s)) := by
  have P0 := Lib.hid (parseTerm_any s w)
  have HE := Lib.hid hE
  clear hE
  cases ho : termOf s with
  | none =>
    have E := Lib.hid (termN_none (n := n) ho)
    rw [ho] at P0
    clear ho hn
    go_enter Tryd.func39, Tryd.ntmps39
    go_wp2_with (go_at_call 61; refine P0.out.mono ?_; rintro e w1 ⟨hb, q, rfl⟩; have B1 := Lib.hid hb; clear hb)
    have hsz := Lib.hid B1.out.size
    refine (asHit w1.heap.size q (.int .i64 0) _ ((HE.out.below B1.out).below (below_alloc (Below.refl _ _) _)) (by rw [World.cell?_alloc_at _ _ _ _ (by simp)]; rfl) (frozen_of_row _ _ 0 _ _ (heap_alloc_last _ _))).mono ?_
    rintro e w2 ⟨rfl, hb2⟩
    have B2 := Lib.hid (show Below w.heap.size w w2 from B1.out.trans (((Below.refl _ _).alloc (Nat.le_refl _) _).trans hb2 |>.mono hsz.out))
    clear hb2
    go_wp2_with fail
    go_ret2
    rw [E.out]
    exact ⟨B2.out, rfl⟩
  | some t =>
    rw [ho] at P0
    have hwf := readT_wf _ _ _ _ (termOf_some ho).2
    have hdp := termOf_dep ho
    have hpl := ppl_le hwf
    have hC := fun (w1 : World) (V : TypeId) (x : Value) (h : PV w1 w.heap.size t (.iface V x)) => (people_all w1 w.heap.size t V x hwf hpl hdp.2 h).c hdp.1
    have HC := Lib.hid hC
    clear hC hwf hdp
    by_cases hp : People n
    · have T1 := Lib.hid (tt_of hp)
      have hnn : InR n 2 5 := hp
      by_cases hle : ppl t ≤ n.toNat
      · have E := Lib.hid (termN_fits hnn ho hle)
        have d1 : decide (n < (ppl t : Int)) = false := decide_eq_false (by have := hp.1; omega)
        clear hle hpl hp hnn ho hn
        obtain ⟨K, hK⟩ : ∃ K, K = ppl t := ⟨_, rfl⟩
        rw [← hK] at d1 HC
        clear hK
        go_enter Tryd.func39, Tryd.ntmps39
        go_wp2_with (go_at_call 61; refine P0.out.mono ?_; rintro e w1 ⟨hb, v, rfl, hv⟩; obtain ⟨V, x, hvx⟩ := hv.iface; subst hvx; have B1 := Lib.hid hb; have V1 := Lib.hid hv; obtain ⟨f, r, m1, n1, H1⟩ := HC.out w1 V x hv; have X1 := Lib.hid H1; clear hb hv H1)
        refine (asNil _ _).mono ?_
        rintro e w2 ⟨rfl, rfl⟩
        go_wp2_with (first
          | (go_at_call 52; refine (arePeople_any _ _).mono ?_; rintro e w' ⟨rfl, rfl⟩; rw [T1.out])
          | (refine (X1.out _ (below_alloc (Below.refl _ _) _)).mono ?_; rintro e w3 ⟨rfl, hb3⟩; have B3 := Lib.hid hb3; clear hb3))
        have B4 := Lib.hid ((Below.refl w1.heap.size w1).alloc (Nat.le_refl _) (.cells #[.int .i64 0] 74) |>.trans (B3.out.mono (by simp)))
        go_ret2
        rw [E.out]
        exact ⟨below_chain B1.out B4.out, _, rfl, V1.out.below B4.out⟩
      · have E := Lib.hid (termN_more (n := n) ho hle)
        have d1 : decide (n < (ppl t : Int)) = true := decide_eq_true (by have := hp.1; omega)
        clear hle hpl hp hnn ho hn
        obtain ⟨K, hK⟩ : ∃ K, K = ppl t := ⟨_, rfl⟩
        rw [← hK] at d1 HC
        clear hK
        go_enter Tryd.func39, Tryd.ntmps39
        go_wp2_with (go_at_call 61; refine P0.out.mono ?_; rintro e w1 ⟨hb, v, rfl, hv⟩; obtain ⟨V, x, hvx⟩ := hv.iface; subst hvx; have B1 := Lib.hid hb; have V1 := Lib.hid hv; obtain ⟨f, r, m1, n1, H1⟩ := HC.out w1 V x hv; have X1 := Lib.hid H1; clear hb hv H1)
        refine (asNil _ _).mono ?_
        rintro e w2 ⟨rfl, rfl⟩
        go_wp2_with (first
          | (go_at_call 52; refine (arePeople_any _ _).mono ?_; rintro e w' ⟨rfl, rfl⟩; rw [T1.out])
          | (refine (X1.out _ (below_alloc (Below.refl _ _) _)).mono ?_; rintro e w3 ⟨rfl, hb3⟩; have B3 := Lib.hid hb3; clear hb3))
        have B4 := Lib.hid ((Below.refl w1.heap.size w1).alloc (Nat.le_refl _) (.cells #[.int .i64 0] 74) |>.trans (B3.out.mono (by simp)))
        go_ret2
        rw [E.out]
        exact ⟨below_chain B1.out B4.out, rfl⟩
    · have T1 := Lib.hid (tt_no hp)
      have E := Lib.hid (termN_out (n := n) (s := s) hp)
      clear hp hpl ho hn HC
      go_enter Tryd.func39, Tryd.ntmps39
      go_wp2_with (go_at_call 61; refine P0.out.mono ?_; rintro e w1 ⟨hb, v, rfl, hv⟩; obtain ⟨V, x, hvx⟩ := hv.iface; subst hvx; have B1 := Lib.hid hb; clear hb hv)
      refine (asNil _ _).mono ?_
      rintro e w2 ⟨rfl, rfl⟩
      go_wp2_with (go_at_call 52; refine (arePeople_any _ _).mono ?_; rintro e w' ⟨rfl, rfl⟩; rw [T1.out])
      have B4 := Lib.hid ((Below.refl w1.heap.size w1).alloc (Nat.le_refl _) (.cells #[.int .i64 0] 74))
      go_ret2
      rw [E.out]
      exact ⟨below_chain B1.out B4.out, rfl⟩
end Go.Proofs.YtnaegnjgpnakfaaDoor
