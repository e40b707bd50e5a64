/- The least number of people for a term, as the program asks. -/
import Derived.Test.YtnaegnjgpnakfaaDoorTermTerm
import Derived.Test.YtnaegnjgpnakfaaDoorSeq
namespace Go.Proofs.YtnaegnjgpnakfaaDoor
set_option linter.unusedVariables false
set_option linter.unusedSimpArgs false
open Go.RowKit

theorem meth_back (fuel : Nat) (T : TypeId) (x : Value) (w : World) : (Go.method (fuel + 1) 103 (.agg #[.iface T x]) "loop.example/tradecircles/impl.people").run Tryd.prog w = (Go.method fuel T x "loop.example/tradecircles/impl.people").run Tryd.prog w := by kernel_rfl
theorem meth_times (fuel : Nat) (T : TypeId) (x : Value) (k : Int) (w : World) : (Go.method (fuel + 1) 106 (.agg #[.iface T x, .int .i64 k]) "loop.example/tradecircles/impl.people").run Tryd.prog w = (Go.method fuel T x "loop.example/tradecircles/impl.people").run Tryd.prog w := by kernel_rfl
theorem meth_keep (fuel : Nat) (w : World) : (Go.method (fuel + 1) 119 (.agg #[]) "loop.example/tradecircles/impl.people").run Tryd.prog w = .ok (121, .agg #[]) w := by kernel_rfl
theorem meth_circ (fuel : Nat) (a : Option Addr) (n c : Nat) (w : World) : (Go.method (fuel + 1) 101 (.slice a n c) "loop.example/tradecircles/impl.people").run Tryd.prog w = .ok (117, .slice a n c) w := by kernel_rfl
theorem meth_pair (fuel : Nat) (T U : TypeId) (x y : Value) (w : World) : (Go.method (fuel + 1) 109 (.agg #[.iface T x, .iface U y]) "loop.example/tradecircles/impl.people").run Tryd.prog w = .ok (119, .agg #[.iface T x, .iface U y]) w := by kernel_rfl

theorem peopleKeep (w : World) : Calls Tryd.prog 121 #[.agg #[]] w fun e w' => e = .returned (.int .i64 (0 : Nat)) ∧ Below w.heap.size w w' := by
  go_enter Tryd.func121, Tryd.ntmps121
  go_wp2
  go_ret
  exact ⟨rfl, (Below.refl _ _).alloc (Nat.le_refl _) _⟩

def maxG (X : Nat → Int) : Nat → Int
  | 0 => X 0
  | k + 1 => max (maxG X k) (X (k + 1))
theorem ite_max (a b : Int) : (if a < b then b else a) = max a b := by split <;> omega
theorem maxG_ge (X : Nat → Int) (k : Nat) : ∀ i, i ≤ k → X i ≤ maxG X k := by
  induction k with
  | zero => intro i hi; obtain rfl : i = 0 := by omega
            exact Int.le_refl _
  | succ k ih =>
    intro i hi
    show X i ≤ max (maxG X k) (X (k + 1))
    by_cases e : i = k + 1
    · subst e; exact Int.le_max_right _ _
    · have := ih i (by omega); omega
theorem maxG_is (X : Nat → Int) (k : Nat) : ∃ i, i ≤ k ∧ maxG X k = X i := by
  induction k with
  | zero => exact ⟨0, Nat.le_refl _, rfl⟩
  | succ k ih =>
    obtain ⟨i, hi, e⟩ := ih
    by_cases h : maxG X k ≤ X (k + 1)
    · exact ⟨k + 1, Nat.le_refl _, by show max (maxG X k) (X (k + 1)) = _; omega⟩
    · exact ⟨i, by omega, by show max (maxG X k) (X (k + 1)) = _; omega⟩
/-- A value's people are so many, whatever the world it is asked in. -/
def PplC (w : World) (T : TypeId) (x : Value) (k : Nat) : Prop :=
  ∃ (f : FuncId) (r : Value), (∀ (n : Nat) (w' : World), (Go.method (n + 61) T x "loop.example/tradecircles/impl.people").run Tryd.prog w' = .ok (f, r) w') ∧ (∀ (w' : World), (callFunc f #[r]).run Tryd.prog w' = .ok (.enter f #[r]) w') ∧
    ∀ w' : World, Below w.heap.size w w' → Calls Tryd.prog f #[r] w' fun e w2 => e = .returned (.int .i64 (k : Nat)) ∧ Below w'.heap.size w' w2

theorem PplC.later {w w1 : World} {T : TypeId} {x : Value} {k : Nat} (h : PplC w T x k) (hb : Below w.heap.size w w1) : PplC w1 T x k := by
  obtain ⟨f, r, h1, h2, h3⟩ := h
  exact ⟨f, r, h1, h2, fun w' hb' => h3 w' (hb.trans (hb'.mono hb.size))⟩
theorem peoplePair (T U : TypeId) (x y : Value) (k l : Nat) (w : World) (h1 : PplC w T x k) (h2 : PplC w U y l) : Calls Tryd.prog 119 #[.agg #[.iface T x, .iface U y]] w fun e w' => e = .returned (.int .i64 ((max k l : Nat) : Int)) ∧ Below w.heap.size w w' := by
  obtain ⟨f1, r1, m1, n1, H1⟩ := h1
  obtain ⟨f2, r2, m2, n2, H2⟩ := h2
  have E1 := Lib.hid H1
  have E2 := Lib.hid H2
  clear H1 H2
  go_enter Tryd.func119, Tryd.ntmps119
  go_wp2
  obtain ⟨s, hs⟩ : ∃ s, s = w.heap.size := ⟨_, rfl⟩
  obtain ⟨w0, hw0⟩ : ∃ w0, w0 = w.alloc (.cells #[.iface T x, .iface U y] 109) := ⟨_, rfl⟩
  have c0 : w0.cell? ⟨s, 0, none⟩ = some (.iface T x) := by rw [hw0, hs]; exact cell_of_row _ _ 0 _ _ (0, 0) (heap_alloc_last w _)
  have c1 : w0.cell? ⟨s, 1, none⟩ = some (.iface U y) := by rw [hw0, hs]; exact cell_of_row _ _ 1 _ _ (0, 0) (heap_alloc_last w _)
  have B0 := Lib.hid (show Below w.heap.size w w0 from by rw [hw0]; exact (Below.refl _ _).alloc (Nat.le_refl _) _)
  rw [← hw0, ← hs]
  clear hw0 hs
  have l0 := fun (r : Later w0) => later_cell c0 r
  have l1 := fun (r : Later w0) => later_cell c1 r
  clear c0 c1
  refine wp_region_later (by kernel_rfl) (by kernel_rfl) ?_
  have X1 := Lib.hid (fun r : Later w0 => E1.out r.W (B0.out.trans (r.h.mono B0.out.size)))
  have X2 := Lib.hid (fun r : Later w0 => E2.out r.W (B0.out.trans (r.h.mono B0.out.size)))
  clear E1 E2
  repeat go_big_quiet_step (first | exact calls_later _ (X1.out _) | exact calls_later _ (X2.out _))
  refine wpQuiet_nil ?_
  rintro _ ⟨r, rfl⟩
  have BL := Lib.hid (B0.out.trans (r.h.mono B0.out.size))
  clear X1 X2 l0 l1 m1 m2 n1 n2
  go_wp2
  · go_ret
    exact ⟨by rw [show max k l = l from Nat.max_eq_right (Nat.le_of_lt h)]; rfl, BL.out⟩
  · go_ret
    exact ⟨by rw [show max k l = k from Nat.max_eq_left (Nat.le_of_not_lt h)]; rfl, BL.out⟩

set_option maxHeartbeats 400000 in
theorem peopleMax (m c : Nat) (a : Option Addr) (X : Nat → Int) (w : World) (hm1 : 1 ≤ m) (hm : m ≤ 1048576) (ha : Rd w a m X) :
    Calls Tryd.prog 118 #[.slice a m c] w fun e w' => e = .returned (.int .i64 (maxG X (m - 1))) ∧ w = w' := by
  obtain ⟨ba, oa, rfl, hlt, hc0⟩ := ha.lt (show 0 < m by omega)
  rw [Nat.add_zero] at hc0
  have hi1 : 0 < m := by omega
  have hd : decide ((m : Int) < 1) = false := by simp; omega
  have HA := Lib.hid ha
  clear ha hlt
  go_enter Tryd.func118, Tryd.ntmps118
  go_wp2
  go_loop [3, 4] (fun s i => ∃ k : Nat, k + 1 ≤ m ∧ i = .int .i64 ((k : Int) + 1) ∧ s = .int .i64 (maxG X k)) (fun _ i => m - (intOf i).toNat)
  case atStart => exact ⟨0, by omega, rfl, rfl⟩
  case round =>
    obtain ⟨k, hk, rfl, rfl⟩ := hrel
    clear hc0
    by_cases hklt : k + 1 < m
    · obtain ⟨bb, ob, he, hc1⟩ := HA.out (k + 1) hklt
      obtain ⟨rfl, rfl⟩ : bb = ba ∧ ob = oa := by simpa using he.symm
      have hd1 : decide ((k : Int) + 1 < m) = true := by simp; omega
      have hi2 : (0 : Int) ≤ (k : Int) + 1 := by omega
      have hi3 : (k : Int) + 1 < m := by omega
      have hi4 : ((k : Int) + 1).toNat = k + 1 := by omega
      clear he
      go_wp2
      go_round
      case rel => exact ⟨k + 1, by omega, by go_num, by rw [ite_max]; rfl⟩
      case measure => simp [intOf]; omega
    · have hd1 : decide ((k : Int) + 1 < m) = false := by simp; omega
      obtain rfl : k + 1 = m := by omega
      go_wp2
      go_ret
      exact ⟨ret_int rfl, rfl⟩

theorem maxG_maxL {L : List Nat} (h : 1 ≤ L.length) : maxG (nthN L) (L.length - 1) + 1 = (maxL L : Nat) := by
  obtain ⟨i, hi, e⟩ := maxG_is (nthN L) (L.length - 1)
  have h1 := maxL_lt (L := L) (n := maxL L) (j := i) (Nat.le_refl _) (by omega)
  have h2 := maxL_le (L := L) (n := (maxG (nthN L) (L.length - 1)).toNat + 1) (fun j hj => by
    have h4 : ((L.getD j 0 : Nat) : Int) ≤ maxG (nthN L) (L.length - 1) := maxG_ge (nthN L) (L.length - 1) j (by omega)
    omega)
  have e' : maxG (nthN L) (L.length - 1) = ((L.getD i 0 : Nat) : Int) := e
  rw [e'] at h2 ⊢
  omega
theorem peopleCirc (L : List Nat) (c : Nat) (a : Option Addr) (w : World) (h2 : 1 ≤ L.length) (h5 : L.length ≤ 1048576) (hm : maxL L ≤ 5) (ha : Rd w a L.length (nthN L)) :
    Calls Tryd.prog 117 #[.slice a L.length c] w fun e w' => e = .returned (.int .i64 (maxL L : Nat)) ∧ Below w.heap.size w w' := by
  have H := Lib.hid (peopleMax L.length c a (nthN L) w h2 h5 ha)
  have E := maxG_maxL h2
  obtain ⟨M, hM⟩ : ∃ M, M = maxG (nthN L) (L.length - 1) := ⟨_, rfl⟩
  rw [← hM] at H E
  have hw : IntKind.i64.wrap (M + 1) = ((maxL L : Nat) : Int) := by rw [E]; exact IntWalk.i64_in _ (by omega)
  clear ha h2 h5 hm hM E
  go_enter Tryd.func117, Tryd.ntmps117
  go_wp2_with (go_at_call 118; refine H.out.mono ?_; rintro e w' ⟨rfl, rfl⟩)
  go_ret
  exact ⟨rfl, Below.refl _ _⟩

/-- How many signs stand in front. -/
def dep : Tm → Nat
  | .back t => dep t + 1
  | .times _ t => dep t + 1
  | _ => 0
theorem enter_keep (w : World) (args : Array Value) : (callFunc 121 args).run Tryd.prog w = .ok (.enter 121 args) w := by kernel_rfl
theorem enter_circ (w : World) (args : Array Value) : (callFunc 117 args).run Tryd.prog w = .ok (.enter 117 args) w := by kernel_rfl
theorem enter_pair (w : World) (args : Array Value) : (callFunc 119 args).run Tryd.prog w = .ok (.enter 119 args) w := by kernel_rfl

/-- .. with so many signs to spare. -/
def PplD (w : World) (T : TypeId) (x : Value) (k d : Nat) : Prop :=
  ∃ (f : FuncId) (r : Value), (∀ (n : Nat) (w' : World), (Go.method (n + d + 1) T x "loop.example/tradecircles/impl.people").run Tryd.prog w' = .ok (f, r) w') ∧ (∀ (w' : World), (callFunc f #[r]).run Tryd.prog w' = .ok (.enter f #[r]) w') ∧
    ∀ w' : World, Below w.heap.size w w' → Calls Tryd.prog f #[r] w' fun e w2 => e = .returned (.int .i64 (k : Nat)) ∧ Below w'.heap.size w' w2
theorem PplD.c {w : World} {T : TypeId} {x : Value} {k d : Nat} (h : PplD w T x k d) (hd : d ≤ 60) : PplC w T x k := by
  obtain ⟨f, r, h1, h2, h3⟩ := h
  exact ⟨f, r, fun n w' => by rw [show n + 61 = (n + (60 - d)) + d + 1 by omega]; exact h1 _ w', h2, h3⟩
/-- No signs too deep anywhere. -/
def DepOk : Tm → Prop
  | .keep => True
  | .circ L => True
  | .back t => dep t + 1 ≤ 60 ∧ DepOk t
  | .times _ t => dep t + 1 ≤ 60 ∧ DepOk t
  | .pair a b => (dep a ≤ 60 ∧ DepOk a) ∧ dep b ≤ 60 ∧ DepOk b
theorem people_all (w : World) (B : Nat) : ∀ (t : Tm) (T : TypeId) (x : Value), WF t → ppl t ≤ 5 → DepOk t → PV w B t (.iface T x) → PplD w T x (ppl t) (dep t)
  | .keep, T, x, _, _, _, h => by
    cases h
    exact ⟨_, _, fun n w' => meth_keep _ w', fun w' => enter_keep w' _, fun w' _ => peopleKeep w'⟩
  | .circ L, T, x, hw, hp, _, h => by
    obtain ⟨b, c, e, ⟨h1, h2⟩, h3⟩ := h
    cases e
    have hl := diff_le hw.2
    exact ⟨_, _, fun n w' => meth_circ _ _ _ _ w', fun w' => enter_circ w' _, fun w' hb => peopleCirc L c _ w' (by have := hw.1; omega) (by omega) hp (h3.below (Nat.le_refl _) hb)⟩
  | .back t, T, x, hw, hp, hd, h => by
    obtain ⟨u, e, h1⟩ := h
    cases e
    obtain ⟨T', x', rfl⟩ := h1.iface
    obtain ⟨f, r, m1, m2, m3⟩ := people_all w B t T' x' hw hp hd.2 h1
    exact ⟨f, r, fun n w' => by rw [show n + dep (.back t) + 1 = (n + dep t + 1) + 1 from rfl, meth_back]; exact m1 n w', m2, m3⟩
  | .times k t, T, x, hw, hp, hd, h => by
    obtain ⟨u, e, h1⟩ := h
    cases e
    obtain ⟨T', x', rfl⟩ := h1.iface
    obtain ⟨f, r, m1, m2, m3⟩ := people_all w B t T' x' hw.2 hp hd.2 h1
    exact ⟨f, r, fun n w' => by rw [show n + dep (.times k t) + 1 = (n + dep t + 1) + 1 from rfl, meth_times]; exact m1 n w', m2, m3⟩
  | .pair a b, T, x, hw, hp, hd, h => by
    obtain ⟨u1, u2, e, h1, h2⟩ := h
    cases e
    obtain ⟨T1, x1, rfl⟩ := h1.iface
    obtain ⟨T2, x2, rfl⟩ := h2.iface
    have p1 := (people_all w B a T1 x1 hw.1 (by unfold ppl at hp; omega) hd.1.2 h1).c hd.1.1
    have p2 := (people_all w B b T2 x2 hw.2 (by unfold ppl at hp; omega) hd.2.2 h2).c hd.2.1
    exact ⟨_, _, fun n w' => meth_pair _ _ _ _ _ w', fun w' => enter_pair w' _, fun w' hb => peoplePair T1 T2 x1 x2 _ _ w' (p1.later hb) (p2.later hb)⟩
/-- A term that is read from a short text has no more signs than bytes. -/
theorem readT_dep {s : ByteArray} : ∀ (f p : Nat) (t : Tm) (e : Nat), readT s f p = some (t, e) → p + dep t < e ∧ (s.size ≤ 60 → DepOk t)
  | 0, p, t, e, h => by cases h
  | f + 1, p, t, e, h => by
    have hb := readT_bound _ _ _ _ h
    by_cases h1 : bt s p = 105
    · rw [readT_keep h1] at h; cases h; exact ⟨by show p + 0 < p + 1; omega, fun _ => trivial⟩
    by_cases h2 : bt s p = 91
    · rw [readT_circ h2] at h
      by_cases hc : CircOk s (p + 1)
      · rw [circR_yes hc] at h; cases h
        exact ⟨by show p + 0 < _; omega, fun _ => trivial⟩
      · rw [circR_no hc] at h; cases h
    by_cases h3 : SignP (bt s p)
    · rw [readT_sign h3] at h
      cases hr : readT s f (p + 1) with
      | none => rw [hr] at h; cases h
      | some q =>
        obtain ⟨u, e1⟩ := q
        have hd := readT_dep f (p + 1) u _ hr
        have hb1 := readT_bound _ _ _ _ hr
        rw [hr] at h
        by_cases h5 : bt s p = 45
        · simp only [signR, if_pos h5] at h; cases h
          exact ⟨by show p + (dep u + 1) < e; omega, fun hs => ⟨by omega, hd.2 hs⟩⟩
        · simp only [signR, if_neg h5] at h; cases h
          exact ⟨by show p + (dep u + 1) < e; omega, fun hs => ⟨by omega, hd.2 hs⟩⟩
    by_cases h4 : bt s p = 40
    · rw [readT_pair h4] at h
      cases hr : aheadR s 46 (readT s f (p + 1)) with
      | none => rw [hr] at h; cases h
      | some q =>
        obtain ⟨u, e1⟩ := q
        rw [hr] at h
        obtain ⟨e2, h5, h6, _, _⟩ := aheadR_some (by omega) hr
        have b1 := readT_dep f (p + 1) u _ h5
        have c1 := readT_bound _ _ _ _ h5
        cases hr2 : aheadR s 41 (readT s f e1) with
        | none => simp only [bothR, hr2] at h; cases h
        | some q2 =>
          obtain ⟨u2, e3⟩ := q2
          simp only [bothR, hr2] at h; cases h
          obtain ⟨e4, h7, h8, _, h9⟩ := aheadR_some (by omega) hr2
          have b2 := readT_dep f e1 u2 _ h7
          have c2 := readT_bound _ _ _ _ h7
          exact ⟨by show p + 0 < _; omega, fun hs => ⟨⟨by omega, b1.2 hs⟩, by omega, b2.2 hs⟩⟩
    · rw [readT_none h1 h2 h3 h4] at h; cases h
end Go.Proofs.YtnaegnjgpnakfaaDoor
