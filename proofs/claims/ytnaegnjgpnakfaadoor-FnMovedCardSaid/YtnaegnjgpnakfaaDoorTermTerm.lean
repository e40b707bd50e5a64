/- The program's reading of terms. -/
import Derived.Test.YtnaegnjgpnakfaaDoorTermModel
import Derived.Test.YtnaegnjgpnakfaaDoorDrawKit
import Derived.Test.YtnaegnjgpnakfaaDoorInfoInts
import Derived.Test.YtnaegnjgpnakfaaDoorAreDifferent
/- The program's reader of terms: the next byte. -/
namespace Go.Proofs.YtnaegnjgpnakfaaDoor
set_option linter.unusedVariables false
set_option linter.unusedSimpArgs false
open Go.RowKit

/-- The reader of a text stands at a place. -/
def TxtAt (w : World) (g : Nat) (s : ByteArray) (p : Nat) : Prop := w.rowIs g 86 2 (fun i => if i = 0 then .string s else .int .i64 (p : Nat))
/-- The place behind the next byte. -/
def nxt (s : ByteArray) (p : Nat) : Nat := if p < s.size then p + 1 else p
theorem nxt_le {s : ByteArray} {p : Nat} (h : p ≤ s.size) : nxt s p ≤ s.size := by unfold nxt; split <;> omega
theorem nxt_in {s : ByteArray} {p : Nat} (h : p < s.size) : nxt s p = p + 1 := by unfold nxt; rw [if_pos h]
theorem run_index_bt {P : Program} (w : World) (t : TypeId) (s : ByteArray) (k : IntKind) (i : Nat) (h : P.underlying t = some .string) (hi : i < s.size) :
    (Instr.index t (.string s) (.int k (i : Nat))).run P w = .ok (.int .u8 (bt s i : Nat)) w := by
  rw [run_index_string w t s k i h, dif_pos (by omega), bt_in hi]; rfl
theorem TxtAt.move {w w' : World} {g p : Nat} {s : ByteArray} (h : TxtAt w g s p) (e : w'.heap[g]? = w.heap[g]?) : TxtAt w' g s p := World.rowIs.of_block h e
theorem TxtAt.set {w : World} {g p : Nat} {s : ByteArray} (h : TxtAt w g s p) (q : Nat) : TxtAt (w.setCell ⟨g, 1, none⟩ (.int .i64 (q : Nat))) g s q :=
  (World.rowIs.set h 1 (.int .i64 (q : Nat))).congr (fun i hi => by
    by_cases e : i = 1
    · subst e; rfl
    · have : i = 0 := by omega
      subst this; rfl)

set_option maxHeartbeats 800000 in
theorem take_any (s : ByteArray) (g p : Nat) (w : World) (hs : s.size ≤ 60) (hp : p ≤ s.size) (h : TxtAt w g s p) :
    Calls Tryd.prog 83 #[.pointer (some ⟨g, 0, none⟩)] w fun e w' => e = .returned (.int .u8 (bt s p : Nat)) ∧ TxtAt w' g s (nxt s p) ∧ Keeps g (g + 1) w w' := by
  have hc0 : w.cell? ⟨g, 0, none⟩ = some (.string s) := h.cell (i := 0) (by omega)
  have hc1 : w.cell? ⟨g, 1, none⟩ = some (.int .i64 (p : Nat)) := h.cell (i := 1) (by omega)
  have hf1 := h.frozen 1
  have HT := Lib.hid h
  have HP := Lib.hid (And.intro hs hp)
  clear h
  by_cases e : p = s.size
  · have d1 : ((p : Int) == (s.size : Int)) = true := by simp [e]
    have E1 := Lib.hid (show bt s p = 0 ∧ nxt s p = p from ⟨bt_out (by omega), by unfold nxt; rw [if_neg (by omega)]⟩)
    clear e hs hp
    go_enter Tryd.func83, Tryd.ntmps83
    go_wp2
    go_quiet (fail)
    go_wp2
    go_ret
    rw [E1.out.1, E1.out.2]
    exact ⟨rfl, HT.out.move rfl, ⟨rfl, rfl, rfl, rfl, fun _ _ => rfl⟩⟩
  · have d1 : ((p : Int) == (s.size : Int)) = false := by simp; omega
    have hlt : p < s.size := by omega
    obtain ⟨b, hb⟩ : ∃ b, b = bt s p := ⟨_, rfl⟩
    have hix : ∀ w : World, (Instr.index 9 (.string s) (.int .i64 (p : Nat))).run Tryd.prog w = .ok (.int .u8 (b : Nat)) w := fun w => by rw [hb]; exact run_index_bt w _ s _ p Tryd.underlying9 hlt
    have hw1 : IntKind.i64.wrap ((p : Int) + 1) = ((p + 1 : Nat) : Int) := by rw [IntWalk.i64_in _ (by omega)]; omega
    have hw2 : IntKind.i64.wrap (p : Int) = (p : Int) := by rw [IntWalk.i64_in _ (by omega)]
    have E1 := Lib.hid (show bt s p = b ∧ nxt s p = p + 1 from ⟨hb.symm, nxt_in hlt⟩)
    have HI := Lib.hid hix
    have HW := Lib.hid (And.intro hw1 hw2)
    clear e hb hs hp hix hw1 hw2
    go_enter Tryd.func83, Tryd.ntmps83
    go_wp2
    go_quiet (fail)
    have hw1 := HW.out.1
    go_wp2
    have T1 := (HT.out.move (w' := w.drewN nq) rfl).set (p + 1)
    have K1 : Keeps g (g + 1) w (w.drewN nq) := ⟨rfl, rfl, rfl, rfl, fun _ _ => rfl⟩
    have K2 := K1.setCell (p := ⟨g, 1, none⟩) (Nat.le_refl _) (Nat.lt_succ_self _) (.int .i64 ((p + 1 : Nat) : Int))
    have ec : (((p + 1 : Nat) : Int)) = (p : Int) + 1 := by omega
    rw [ec] at K2
    have hc2 : ((w.drewN nq).setCell ⟨g, 1, none⟩ (.int .i64 ((p + 1 : Nat) : Int))).cell? ⟨g, 0, none⟩ = some (.string s) := T1.cell (i := 0) (by omega)
    have hc3 : ((w.drewN nq).setCell ⟨g, 1, none⟩ (.int .i64 ((p + 1 : Nat) : Int))).cell? ⟨g, 1, none⟩ = some (.int .i64 ((p + 1 : Nat) : Int)) := T1.cell (i := 1) (by omega)
    rw [ec] at hc2 hc3
    obtain ⟨W, hW⟩ : ∃ W, W = (w.drewN nq).setCell ⟨g, 1, none⟩ (.int .i64 ((p : Int) + 1)) := ⟨_, rfl⟩
    have HF := Lib.hid (show TxtAt W g s (p + 1) ∧ Keeps g (g + 1) w W from ⟨by rw [hW, ← ec]; exact T1, by rw [hW]; exact K2⟩)
    rw [← hW] at hc2 hc3 ⊢
    have hix := HI.out
    have hw2 := HW.out.2
    clear hW K2 T1 K1 ec hc0 hc1 hf1 hw1
    go_quiet (fail)
    go_wp2
    go_ret
    rw [E1.out.1, E1.out.2]
    exact ⟨rfl, HF.out.1.move rfl, HF.out.2.trans ⟨rfl, rfl, rfl, rfl, fun _ _ => rfl⟩⟩
end Go.Proofs.YtnaegnjgpnakfaaDoor

/- The program's reader of terms: circles. -/
namespace Go.Proofs.YtnaegnjgpnakfaaDoor
set_option linter.unusedVariables false
set_option linter.unusedSimpArgs false
open Go.RowKit

/-- The value of a term in the program's memory, its lists at or behind block B. -/
def PV (w : World) (B : Nat) : Tm → Value → Prop
  | .keep, v => v = .iface 119 (.agg #[])
  | .circ L, v => ∃ b c : Nat, v = .iface 101 (.slice (some ⟨b, 0, none⟩) L.length c) ∧ (B ≤ b ∧ b < w.heap.size) ∧ Rd w (some ⟨b, 0, none⟩) L.length (nthN L)
  | .back t, v => ∃ u, v = .iface 103 (.agg #[u]) ∧ PV w B t u
  | .times k t, v => ∃ u, v = .iface 106 (.agg #[u, .int .i64 (k : Nat)]) ∧ PV w B t u
  | .pair a b, v => ∃ u1 u2, v = .iface 109 (.agg #[u1, u2]) ∧ PV w B a u1 ∧ PV w B b u2
theorem PV.keep {w w' : World} {B : Nat} (hs : w.heap.size ≤ w'.heap.size) (hk : ∀ k, B ≤ k → k < w.heap.size → w'.heap[k]? = w.heap[k]?) : ∀ {t : Tm} {v : Value}, PV w B t v → PV w' B t v
  | .keep, v, h => h
  | .circ L, v, ⟨b, c, e, ⟨h1, h2⟩, h3⟩ => ⟨b, c, e, ⟨h1, by omega⟩, fun k hkL => by
      obtain ⟨b', o', e', hc⟩ := h3 k hkL
      cases e'
      exact ⟨b, 0, rfl, by rw [World.cell?_of_block (w := w) (a := ⟨b, 0 + k, none⟩) (hk b h1 h2)]; exact hc⟩⟩
  | .back t, v, ⟨u, e, h⟩ => ⟨u, e, PV.keep hs hk h⟩
  | .times k t, v, ⟨u, e, h⟩ => ⟨u, e, PV.keep hs hk h⟩
  | .pair a b, v, ⟨u1, u2, e, h1, h2⟩ => ⟨u1, u2, e, PV.keep hs hk h1, PV.keep hs hk h2⟩
theorem PV.but {w w' : World} {g : Nat} {t : Tm} {v : Value} (h : PV w (g + 1) t v) (hb : ButR g w.heap.size w w') : PV w' (g + 1) t v := PV.keep hb.size (fun k h1 h2 => hb.block k h2 (by omega)) h
theorem PV.below {w w' : World} {B : Nat} {t : Tm} {v : Value} (h : PV w B t v) (hb : Below w.heap.size w w') : PV w' B t v := PV.keep hb.size (fun k h1 h2 => hb.block k h2) h
theorem PV.iface {w : World} {B : Nat} : ∀ {t : Tm} {v : Value}, PV w B t v → ∃ T x, v = .iface T x
  | .keep, v, h => ⟨_, _, h⟩
  | .circ L, v, ⟨_, _, e, _⟩ => ⟨_, _, e⟩
  | .back t, v, ⟨_, e, _⟩ => ⟨_, _, e⟩
  | .times k t, v, ⟨_, e, _⟩ => ⟨_, _, e⟩
  | .pair a b, v, ⟨_, _, e, _⟩ => ⟨_, _, e⟩

/-- What a part of the reader hands back: no term and an error, or a term; the reader stands behind it. -/
def RetTerm (s : ByteArray) (g : Nat) (w : World) (o : Option (Tm × Nat)) (e : Ending) (w' : World) : Prop :=
  ButR g w.heap.size w w' ∧ match o with
    | none => (∃ q : Int, e = .returned (.tuple #[.nilIface, .iface 74 (.agg #[.int .i64 q])])) ∧ ∃ p, p ≤ s.size ∧ TxtAt w' g s p
    | some (t, p) => ∃ v, e = .returned (.tuple #[v, .nilIface]) ∧ PV w' (g + 1) t v ∧ TxtAt w' g s p

theorem TxtAt.lt {w : World} {g p : Nat} {s : ByteArray} (h : TxtAt w g s p) : g < w.heap.size := by
  obtain ⟨c, h1, _⟩ := h
  exact (Array.getElem?_eq_some_iff.1 h1).1
theorem TxtAt.but {w w' : World} {g r p B : Nat} {s : ByteArray} (h : TxtAt w g s p) (hb : Below B w w') (hB : g < B) : TxtAt w' g s p := h.move (hb.block g hB)
theorem bt_u8 {b : Nat} (h : 97 ≤ b ∧ b ≤ 101) : IntKind.u8.wrap ((b : Int) - 97) = ((b - 97 : Nat) : Int) := by
  obtain ⟨x, rfl⟩ : ∃ x, b = x + 97 := ⟨b - 97, by omega⟩
  have : x ≤ 4 := by omega
  rcases (by omega : x = 0 ∨ x = 1 ∨ x = 2 ∨ x = 3 ∨ x = 4) with rfl | rfl | rfl | rfl | rfl <;> rfl

/-- An owned row of integers, nil or not, is a slice that can be read. -/
theorem owns_slice {w : World} {base tI n : Nat} {rv : Value} {X : Nat → Int} (h : w.ownsRow base tI 1 rv n (cellsL n X)) : (∀ a c, rv = .slice a n c → Rd w a n X) ∧ ∃ a c, rv = .slice a n c := by
  rcases Nat.eq_zero_or_pos n with rfl | hk0
  · refine ⟨fun a c _ j hj => absurd hj (Nat.not_lt_zero _), ?_⟩
    obtain ⟨_, (⟨h1, _⟩ | ⟨g', cap', cur, h1, _⟩)⟩ := h
    · exact ⟨_, _, h1⟩
    · exact ⟨_, _, h1⟩
  · obtain ⟨g', c', rfl⟩ := owns_form h hk0
    exact ⟨fun a c e => by cases e; exact owns_rd h, _, _, rfl⟩

set_option maxRecDepth 100000 in
set_option maxHeartbeats 3200000 in
theorem circle_any (s : ByteArray) (g p : Nat) (w : World) (hs : s.size ≤ 60) (hp : p ≤ s.size) (h : TxtAt w g s p) :
    Calls Tryd.prog 84 #[.pointer (some ⟨g, 0, none⟩)] w (RetTerm s g w (circR s p)) := by
  obtain ⟨i0, hi, hz0, hz1, hz2⟩ := info_parts Tryd.infoInt
  have hc1 : w.cell? ⟨g, 1, none⟩ = some (.int .i64 (p : Nat)) := h.cell (i := 1) (by omega)
  obtain ⟨m, hm⟩ : ∃ m, m = runN s p := ⟨_, rfl⟩
  have hle := runN_le hp
  have HM := Lib.hid (show p + m ≤ s.size ∧ (∀ j, j < m → LetP (bt s (p + j))) ∧ ¬ LetP (bt s (p + m)) from ⟨by omega, fun j hj => runN_let (by omega), by rw [hm]; exact runN_end s p⟩)
  have HS := Lib.hid (And.intro hs hp)
  have HG := Lib.hid h.lt
  have HMM := Lib.hid hm
  have T0 := Lib.hid (take_any s g p w hs hp h)
  clear h hm hle hs hp
  go_enter Tryd.func84, Tryd.ntmps84
  go_wp2_with (go_at_call 83; refine T0.out.mono ?_; rintro e w1 ⟨rfl, ht, hk⟩; have X1 := Lib.hid (And.intro ht hk); clear ht hk)
  go_loopw [5, 6] (fun row sg wr => ∃ k : Nat, k ≤ m ∧ sg = .int .u8 (bt s (p + k) : Nat) ∧ ∃ rv, rv = row ∧ wr.ownsRow w.heap.size 3 1 rv k (cellsL k (letF s p)) ∧ TxtAt wr g s (nxt s (p + k)) ∧ ButR g w.heap.size w wr) (fun row _ _ => m - (match row with | .slice _ n _ => n | _ => 0))
  case atStart => exact ⟨0, Nat.zero_le _, rfl, _, rfl, World.ownsRow_nil _ _ _ _, X1.out.1, ButR.keeps X1.out.2⟩
  case round =>
    obtain ⟨k, hk, rfl, rv, rfl, hown, htx, hbu⟩ := hrel
    clear X1
    obtain ⟨hrd, ra, rc, rfl⟩ := owns_slice hown
    obtain ⟨b, hb⟩ : ∃ b, b = bt s (p + k) := ⟨_, rfl⟩
    have hcell : wr.cell? ⟨g, 1, none⟩ = some (.int .i64 (nxt s (p + k) : Nat)) := htx.cell (i := 1) (by omega)
    have HO := Lib.hid hown
    have HT := Lib.hid htx
    have HU := Lib.hid hbu
    have HB := Lib.hid hb
    have hsz := hbu.size
    rw [← hb]
    clear hown htx hbu hcell hc1
    by_cases hlt : k < m
    · have hL : LetP b := by rw [hb]; exact HM.out.2.1 k hlt
      have hL' : 97 ≤ b ∧ b ≤ 101 := hL
      have d1 : decide ((97 : Int) ≤ (b : Int)) = true := decide_eq_true (by omega)
      have d1n : decide (97 ≤ b) = true := decide_eq_true (by omega)
      have d2 : decide ((b : Int) < 102) = true := decide_eq_true (by omega)
      have d2n : decide (b < 102) = true := decide_eq_true (by omega)
      have hw := bt_u8 hL'
      obtain ⟨x, hx⟩ : ∃ x, x = b - 97 := ⟨_, rfl⟩
      rw [← hx] at hw
      have HX := Lib.hid (show letF s p k = (x : Int) from by unfold letF; rw [← hb]; omega)
      have hkp : p + k < s.size := by have := HM.out.1; omega
      have HN := Lib.hid (show nxt s (p + k) = p + (k + 1) from by rw [nxt_in hkp]; omega)
      have HL := Lib.hid (show p + (k + 1) ≤ s.size by omega)
      have hkm := Lib.hid (show k + 1 ≤ m by omega)
      have hk60 := Lib.hid (show k ≤ 60 by have := HS.out.1; omega)
      have hw2 : wrap64 (x : Int) = (x : Int) := IntWalk.wrap64_in _ (by omega)
      clear hx hb hL hL' hkp hlt hk
      go_wp2_with (at_builtin; go_loud (refine wpList_append_lies _ (by rfl) (.tmp 19) (.tmp 23) 101 (by rfl) w.heap.size 3 i0 (.int .i64 0) 1 8 Tryd.underlying101 hi hz0 hz1 hz2 (by rfl) (by decide) _ k (cellsL k (letF s p)) (by rfl) (HO.out.alloc _) ⟨_, 0, none⟩ 1 1 [.int .i64 x] (by rfl) (by rfl) (news_one (by simp)) (by simp [Value.oneCell']) (by have := hk60.out; omega) (by have := hk60.out; unfold maxLen; omega) (by have := hk60.out; omega) (by have := hk60.out; first | omega | (simp; omega)) _ rfl ?_); intro g2 cap2 w2 hown2 hgrow2 hat2 hlt2; have N2 := Lib.hid hown2; have G2 := Lib.hid hgrow2; clear hown2 hgrow2 hat2)
      have hgl := HG.out
      have hge : ∀ j, (Value.slice ra k rc).ownBlock = some j → w.heap.size ≤ j := fun j hj => (HO.out.lt j hj).1
      have bu2 : ButR g w.heap.size w w2 := (HU.out.alloc hsz _).grown G2.out (by simp; omega) hge
      have tx2 : TxtAt w2 g s (p + (k + 1)) := by
        have h := HT.out
        rw [HN.out] at h
        refine h.move ?_
        rw [G2.out.block g (by simp; have := HU.out.size; omega) (fun e => by have := hge g e.symm; omega)]
        exact Below.heap_alloc _ _ _ (by have := HU.out.size; omega)
      refine (take_any s g (p + (k + 1)) w2 HS.out.1 HL.out tx2).mono ?_
      rintro e w3 ⟨rfl, tx3, k3⟩
      have NX := Lib.hid (show w3.ownsRow w.heap.size 3 1 (.slice (some ⟨g2, 0, none⟩) (k + 1) cap2) (k + 1) (cellsL (k + 1) (letF s p)) from by
        have h := owns_but N2.out hgl k3
        rw [cellsL_snoc, cellsL_congr (Y := letF s p) (fun j hj => by
          by_cases e : j < k
          · simp [e]
          · have : j = k := by omega
            subst this; simp [HX.out])] at h
        exact h)
      have BX := Lib.hid (bu2.trans (ButR.keeps k3))
      have TX := Lib.hid tx3
      clear bu2 tx2 tx3 k3 hge N2 G2 HO HT HU
      go_wp2_with fail
      go_roundw
      case rel => exact ⟨k + 1, hkm.out, rfl, _, rfl, NX.out, TX.out, BX.out⟩
      case measure => have := hkm.out; simp; omega
    · obtain rfl : k = m := by omega
      have hL : ¬ LetP b := by rw [hb]; exact HM.out.2.2
      have hL' : ¬ (97 ≤ b ∧ b ≤ 101) := hL
      have hcond : (decide ((97 : Int) ≤ (b : Int)) = false) ∨ (decide ((97 : Int) ≤ (b : Int)) = true ∧ decide ((b : Int) < 102) = false) := by
        by_cases e : 97 ≤ b
        · right; exact ⟨decide_eq_true (by omega), decide_eq_false (by omega)⟩
        · left; exact decide_eq_false (by omega)
      have hcondn : (decide (97 ≤ b) = false) ∨ (decide (97 ≤ b) = true ∧ decide (b < 102) = false) := by
        by_cases e : 97 ≤ b
        · right; exact ⟨decide_eq_true (by omega), decide_eq_false (by omega)⟩
        · left; exact decide_eq_false (by omega)
      have HD := Lib.hid (areDifferent_any 5 k rc ra (letF s p) wr (by omega) (by have := HS.out.1; have := HM.out.1; omega) (hrd _ _ rfl))
      have hsk : k ≤ 60 := by have := HS.out.1; have := HM.out.1; omega
      have HK := Lib.hid hsk
      clear hrd
      have hnl : nxt s (p + k) ≤ s.size := nxt_le (by have := HM.out.1; omega)
      by_cases e93 : b = 93
      · have d0 : decide ((97 : Int) ≤ (b : Int)) = false := decide_eq_false (by omega)
        have d0n : decide (97 ≤ b) = false := decide_eq_false (by omega)
        have d3 : ((b : Int) != 93) = false := by simp [e93]
        by_cases e2 : k < 2
        · have d4 : decide ((k : Int) < 2) = true := decide_eq_true (by omega)
          have d4n : decide (k < 2) = true := decide_eq_true e2
          have HE := Lib.hid (circR_no (s := s) (p := p) (fun h => by have := h.2.1; rw [← HMM.out] at this; omega))
          have HL := Lib.hid hnl
          clear hcond hcondn hL hL' hb e93 e2 hlt hk hsz hnl hsk
          go_wp2_with fail
          go_ret2
          rw [HE.out]
          exact ⟨HU.out, ⟨_, rfl⟩, _, HL.out, HT.out⟩
        · have d4 : decide ((k : Int) < 2) = false := decide_eq_false (by omega)
          have d4n : decide (k < 2) = false := decide_eq_false e2
          by_cases e4 : IsDiff 5 k (letF s p)
          · have T4 := Lib.hid (tt_of e4)
            have HE := Lib.hid (circR_yes (s := s) (p := p) ⟨by rw [← HMM.out, ← hb, e93], by rw [← HMM.out]; omega, by rw [← HMM.out]; exact e4⟩)
            have HN := Lib.hid (show nxt s (p + k) = p + k + 1 from nxt_in (bt_pos (by rw [← hb, e93]; decide)))
            obtain ⟨b', c', he'⟩ := owns_form HO.out (by omega)
            cases he'
            clear hcond hcondn hL hL' hb e93 e2 hlt hk hsz hnl hsk e4
            go_wp2_with (go_at_call 67; refine HD.out.mono ?_; rintro e w' ⟨rfl, rfl⟩; rw [T4.out])
            go_ret2
            rw [HE.out, ← HMM.out]
            refine ⟨HU.out, _, rfl, ⟨b', rc, by rw [lets_len]; rfl, ⟨?_, ?_⟩, ?_⟩, by have h := HT.out; rw [HN.out] at h; exact h⟩
            · have := owns_cap HO.out; have := HG.out; omega
            · have := owns_cap HO.out; omega
            · rw [lets_len]
              intro j hj
              have := owns_rd HO.out j hj
              rw [lets_nth hj (by rw [← HMM.out]; exact Nat.le_refl _)]
              exact this
          · have T4 := Lib.hid (tt_no e4)
            have HE := Lib.hid (circR_no (s := s) (p := p) (fun h => e4 (by have := h.2.2; rwa [← HMM.out] at this)))
            have HL := Lib.hid hnl
            clear hcond hcondn hL hL' hb e93 e2 hlt hk hsz hnl hsk e4
            go_wp2_with (go_at_call 67; refine HD.out.mono ?_; rintro e w' ⟨rfl, rfl⟩; rw [T4.out])
            go_ret2
            rw [HE.out]
            exact ⟨HU.out, ⟨_, rfl⟩, _, HL.out, HT.out⟩
      · have d3 : ((b : Int) != 93) = true := by simp; omega
        have HE := Lib.hid (circR_no (s := s) (p := p) (fun h => by have := h.1; rw [← HMM.out, ← hb] at this; exact e93 this))
        have HL := Lib.hid hnl
        rcases hcond with d0 | ⟨d0, d0b⟩
        · have d0n : decide (97 ≤ b) = false := by rcases hcondn with h | ⟨h, _⟩; exact h; exact absurd (of_decide_eq_true h) (by have := of_decide_eq_false d0; omega)
          clear hcondn hL hL' hb e93 hlt hk hsz hnl hsk
          go_wp2_with fail
          go_ret2
          rw [HE.out]
          exact ⟨HU.out, ⟨_, rfl⟩, _, HL.out, HT.out⟩
        · have d0n : decide (97 ≤ b) = true := decide_eq_true (by have := of_decide_eq_true d0; omega)
          have d0bn : decide (b < 102) = false := decide_eq_false (by have := of_decide_eq_false d0b; omega)
          clear hcondn hL hL' hb e93 hlt hk hsz hnl hsk
          go_wp2_with fail
          go_ret2
          rw [HE.out]
          exact ⟨HU.out, ⟨_, rfl⟩, _, HL.out, HT.out⟩
end Go.Proofs.YtnaegnjgpnakfaaDoor

/- The program's reader of terms: terms, and whole texts. -/
namespace Go.Proofs.YtnaegnjgpnakfaaDoor
set_option linter.unusedVariables false
set_option linter.unusedSimpArgs false
open Go.RowKit

/-- The contract of the reader's term, from a place on with so much left. -/
def TermC (s : ByteArray) (g f : Nat) : Prop := ∀ (p : Nat) (w : World), p ≤ s.size → s.size ≤ p + f → TxtAt w g s p →
  Calls Tryd.prog 70 #[.pointer (some ⟨g, 0, none⟩)] w (RetTerm s g w (readT s f p))

theorem sign_num {c : Nat} (h : SignP c) (h' : c ≠ 45) : IntKind.u8.wrap ((c : Int) - 48) = ((c - 48 : Nat) : Int) ∧ wrap64 ((c - 48 : Nat) : Int) = ((c - 48 : Nat) : Int) := by
  unfold SignP at h
  refine ⟨?_, IntWalk.wrap64_in _ (by omega)⟩
  obtain ⟨x, rfl⟩ : ∃ x, c = x + 50 := ⟨c - 50, by omega⟩
  have : x ≤ 7 := by omega
  rcases (by omega : x = 0 ∨ x = 1 ∨ x = 2 ∨ x = 3 ∨ x = 4 ∨ x = 5 ∨ x = 6 ∨ x = 7) with rfl | rfl | rfl | rfl | rfl | rfl | rfl | rfl <;> rfl

set_option maxHeartbeats 1600000 in
theorem signed_any (s : ByteArray) (g f p c : Nat) (w : World) (H : TermC s g f) (hp : p ≤ s.size) (hf : s.size ≤ p + f) (h : TxtAt w g s p) (hc : SignP c) :
    Calls Tryd.prog 86 #[.pointer (some ⟨g, 0, none⟩), .int .u8 (c : Nat)] w (RetTerm s g w (signR c (readT s f p))) := by
  have T0 := Lib.hid (H p w hp hf h)
  clear h H hp hf
  cases ho : readT s f p with
  | none =>
    rw [ho] at T0
    go_enter Tryd.func86, Tryd.ntmps86
    go_wp2_with (go_at_call 70; refine T0.out.mono ?_; rintro e w1 ⟨hb, ⟨q, rfl⟩, hr⟩; have X1 := Lib.hid (And.intro hb hr); clear hb hr)
    go_ret2
    exact ⟨X1.out.1, ⟨q, rfl⟩, X1.out.2⟩
  | some o =>
    obtain ⟨t, e⟩ := o
    rw [ho] at T0
    by_cases e45 : c = 45
    · have d1 : ((c : Int) == 45) = true := by simp [e45]
      have E := Lib.hid (show signR c (some (t, e)) = some (.back t, e) by unfold signR; simp [e45])
      clear e45 hc
      go_enter Tryd.func86, Tryd.ntmps86
      go_wp2_with (go_at_call 70; refine T0.out.mono ?_; rintro e w1 ⟨hb, v, rfl, hr⟩; obtain ⟨T1, x1, hv⟩ := hr.1.iface; subst hv; have X1 := Lib.hid (And.intro hb hr); clear hb hr)
      go_ret2
      rw [E.out]
      exact ⟨X1.out.1, _, rfl, ⟨_, rfl, X1.out.2.1⟩, X1.out.2.2⟩
    · have d1 : ((c : Int) == 45) = false := by simp; omega
      have E := Lib.hid (show signR c (some (t, e)) = some (.times (c - 48) t, e) by unfold signR; simp [e45])
      obtain ⟨hw1, hw2⟩ := sign_num hc e45
      obtain ⟨k, hk⟩ : ∃ k, k = c - 48 := ⟨_, rfl⟩
      rw [← hk] at hw1 hw2 E
      clear e45 hc hk
      go_enter Tryd.func86, Tryd.ntmps86
      go_wp2_with (go_at_call 70; refine T0.out.mono ?_; rintro e w1 ⟨hb, v, rfl, hr⟩; obtain ⟨T1, x1, hv⟩ := hr.1.iface; subst hv; have X1 := Lib.hid (And.intro hb hr); clear hb hr)
      go_ret2
      rw [E.out]
      exact ⟨X1.out.1, _, rfl, ⟨_, rfl, X1.out.2.1⟩, X1.out.2.2⟩

set_option maxHeartbeats 1600000 in
theorem ahead_any (s : ByteArray) (g f p c : Nat) (w : World) (H : TermC s g f) (hs : s.size ≤ 60) (hp : p ≤ s.size) (hf : s.size ≤ p + f) (h : TxtAt w g s p) (hc : c ≠ 0) :
    Calls Tryd.prog 93 #[.pointer (some ⟨g, 0, none⟩), .int .u8 (c : Nat)] w (RetTerm s g w (aheadR s c (readT s f p))) := by
  have T0 := Lib.hid (H p w hp hf h)
  have HS := Lib.hid hs
  have HC := Lib.hid hc
  clear h H hf hs hc hp
  cases ho : readT s f p with
  | none =>
    rw [ho] at T0
    go_enter Tryd.func93, Tryd.ntmps93
    go_wp2_with (go_at_call 70; refine T0.out.mono ?_; rintro e w1 ⟨hb, ⟨q, rfl⟩, hr⟩; have X1 := Lib.hid (And.intro hb hr); clear hb hr)
    go_ret2
    exact ⟨X1.out.1, ⟨q, rfl⟩, X1.out.2⟩
  | some o =>
    obtain ⟨t, e⟩ := o
    have HE := Lib.hid (readT_bound _ _ _ _ ho).2
    rw [ho] at T0
    obtain ⟨b, hb⟩ : ∃ b, b = bt s e := ⟨_, rfl⟩
    have HB := Lib.hid hb
    clear ho hb
    have arm := fun (w1 : World) (h1 : ButR g w.heap.size w w1) (h2 : TxtAt w1 g s e) => take_any s g e w1 HS.out HE.out h2
    have HA := Lib.hid arm
    clear arm
    by_cases ec : b = c
    · have d1 : ((b : Int) != (c : Int)) = false := by simp [ec]
      have E := Lib.hid (show aheadR s c (some (t, e)) = some (t, e + 1) by show (if bt s e = c then some (t, e + 1) else none) = _; rw [if_pos (by rw [← HB.out, ec])])
      have HN := Lib.hid (show nxt s e = e + 1 from nxt_in (bt_pos (by rw [← HB.out, ec]; exact HC.out)))
      clear ec
      go_enter Tryd.func93, Tryd.ntmps93
      go_wp2_with (go_at_call 70; refine T0.out.mono ?_; rintro e' w1 ⟨hb, v, rfl, hr⟩; obtain ⟨T1, x1, hv⟩ := hr.1.iface; subst hv; have hcell : w1.cell? ⟨g, 1, none⟩ = some (.int .i64 (e : Nat)) := hr.2.cell (i := 1) (by omega); have X1 := Lib.hid (And.intro hb hr); clear hb hr)
      refine (HA.out w1 X1.out.1 X1.out.2.2).mono ?_
      rintro e' w2 ⟨rfl, tx, k2⟩
      rw [← HB.out]
      have X2 := Lib.hid (And.intro tx k2)
      clear tx k2 hcell
      go_wp2_with fail
      go_ret2
      rw [E.out]
      refine ⟨X1.out.1.trans (ButR.keeps X2.out.2), _, rfl, X1.out.2.1.but (ButR.keeps X2.out.2), ?_⟩
      have h := X2.out.1
      rwa [HN.out] at h
    · have d1 : ((b : Int) != (c : Int)) = true := by simp; omega
      have E := Lib.hid (show aheadR s c (some (t, e)) = none by show (if bt s e = c then some (t, e + 1) else none) = _; rw [if_neg (by rw [← HB.out]; exact ec)])
      have HN := Lib.hid (nxt_le HE.out)
      clear ec
      go_enter Tryd.func93, Tryd.ntmps93
      go_wp2_with (go_at_call 70; refine T0.out.mono ?_; rintro e' w1 ⟨hb, v, rfl, hr⟩; obtain ⟨T1, x1, hv⟩ := hr.1.iface; subst hv; have hcell : w1.cell? ⟨g, 1, none⟩ = some (.int .i64 (e : Nat)) := hr.2.cell (i := 1) (by omega); have X1 := Lib.hid (And.intro hb hr); clear hb hr)
      refine (HA.out w1 X1.out.1 X1.out.2.2).mono ?_
      rintro e' w2 ⟨rfl, tx, k2⟩
      rw [← HB.out]
      have X2 := Lib.hid (And.intro tx k2)
      clear tx k2 hcell
      go_wp2_with fail
      go_ret2
      rw [E.out]
      exact ⟨X1.out.1.trans (ButR.keeps X2.out.2), ⟨_, rfl⟩, _, HN.out, X2.out.1⟩

theorem RetTerm.back {s : ByteArray} {g : Nat} {w w1 w2 : World} {o : Option (Tm × Nat)} {e : Ending} (h : ButR g w.heap.size w w1) (hr : RetTerm s g w1 o e w2) : RetTerm s g w o e w2 :=
  ⟨h.trans (hr.1.mono h.size), hr.2⟩

/-- What comes back are two values. -/
theorem RetTerm.calls {f : Nat} {args : Array Value} {s : ByteArray} {g : Nat} {w : World} {o : Option (Tm × Nat)} (h : Calls Tryd.prog f args w (RetTerm s g w o)) :
    Calls Tryd.prog f args w fun e w' => ∃ v1 v2, e = .returned (.tuple #[v1, v2]) ∧ RetTerm s g w o (.returned (.tuple #[v1, v2])) w' :=
  h.mono fun e w' hr => by
    obtain ⟨h1, h2⟩ := hr
    cases o with
    | none =>
      obtain ⟨⟨q, rfl⟩, h3⟩ := h2
      exact ⟨_, _, rfl, h1, ⟨q, rfl⟩, h3⟩
    | some o =>
      obtain ⟨v, rfl, h3⟩ := h2
      exact ⟨_, _, rfl, h1, v, rfl, h3⟩
set_option maxHeartbeats 1600000 in
theorem pair_any (s : ByteArray) (g f p : Nat) (w : World) (H : TermC s g f) (hs : s.size ≤ 60) (hp : p ≤ s.size) (hf : s.size ≤ p + f) (h : TxtAt w g s p) :
    Calls Tryd.prog 85 #[.pointer (some ⟨g, 0, none⟩)] w (RetTerm s g w (bothR (aheadR s 46 (readT s f p)) (fun e => aheadR s 41 (readT s f e)))) := by
  have T0 := Lib.hid (ahead_any s g f p 46 w H hs hp hf h (by decide))
  have T1 := Lib.hid (fun (e : Nat) (w1 : World) (he : p ≤ e) (he2 : e ≤ s.size) (h1 : TxtAt w1 g s e) => ahead_any s g f e 41 w1 H hs he2 (by omega) h1 (by decide))
  clear h H hs
  cases ho : aheadR s 46 (readT s f p) with
  | none =>
    rw [ho] at T0
    clear T1 hp hf
    go_enter Tryd.func85, Tryd.ntmps85
    go_wp2_with (go_at_call 93; refine T0.out.mono ?_; rintro e w1 ⟨hb, ⟨q, rfl⟩, hr⟩; have X1 := Lib.hid (And.intro hb hr); clear hb hr)
    go_ret2
    exact ⟨X1.out.1, ⟨q, rfl⟩, X1.out.2⟩
  | some o =>
    obtain ⟨t, e⟩ := o
    have HE := Lib.hid (show p ≤ e ∧ e ≤ s.size by
      obtain ⟨e', h1, h2, _, h3⟩ := aheadR_some (by decide) ho
      have := readT_bound _ _ _ _ h1
      omega)
    rw [ho] at T0
    clear ho hp hf
    cases ho2 : aheadR s 41 (readT s f e) with
    | none =>
      have E := Lib.hid (show bothR (some (t, e)) (fun e => aheadR s 41 (readT s f e)) = none by simp only [bothR, ho2])
      go_enter Tryd.func85, Tryd.ntmps85
      go_wp2_with (go_at_call 93; refine T0.out.mono ?_; clear T0; rintro e' w1 ⟨hb, v, rfl, hr⟩; obtain ⟨V1, x1, hv⟩ := hr.1.iface; subst hv; have X1 := Lib.hid (And.intro hb hr); clear hb hr)
      refine (T1.out e w1 HE.out.1 HE.out.2 X1.out.2.2).mono ?_
      rw [ho2]
      rintro e' w2 ⟨hb, ⟨q, rfl⟩, hr⟩
      have X2 := Lib.hid (And.intro hb hr)
      clear hb hr ho2
      go_wp2_with fail
      go_ret2
      rw [E.out]
      exact ⟨X1.out.1.trans (X2.out.1.mono X1.out.1.size), ⟨q, rfl⟩, X2.out.2⟩
    | some o2 =>
      obtain ⟨t2, e2⟩ := o2
      have E := Lib.hid (show bothR (some (t, e)) (fun e => aheadR s 41 (readT s f e)) = some (.pair t t2, e2) by simp only [bothR, ho2])
      go_enter Tryd.func85, Tryd.ntmps85
      go_wp2_with (go_at_call 93; refine T0.out.mono ?_; clear T0; rintro e' w1 ⟨hb, v, rfl, hr⟩; obtain ⟨V1, x1, hv⟩ := hr.1.iface; subst hv; have X1 := Lib.hid (And.intro hb hr); clear hb hr)
      refine (T1.out e w1 HE.out.1 HE.out.2 X1.out.2.2).mono ?_
      rw [ho2]
      rintro e' w2 ⟨hb, v2, rfl, hr⟩
      obtain ⟨V2, x2, hv⟩ := hr.1.iface
      subst hv
      have X2 := Lib.hid (And.intro hb hr)
      clear hb hr ho2
      go_wp2_with fail
      go_ret2
      rw [E.out]
      exact ⟨X1.out.1.trans (X2.out.1.mono X1.out.1.size), _, rfl, ⟨_, _, rfl, X1.out.2.1.but X2.out.1, X2.out.2.1⟩, X2.out.2.2⟩
end Go.Proofs.YtnaegnjgpnakfaaDoor

/- The program's reader of terms: whole texts. -/
namespace Go.Proofs.YtnaegnjgpnakfaaDoor
set_option linter.unusedVariables false
set_option linter.unusedSimpArgs false
open Go.RowKit

set_option maxRecDepth 100000 in
set_option maxHeartbeats 3200000 in
theorem term_step (s : ByteArray) (g f : Nat) (hs : s.size ≤ 60) (H : ∀ f', f = f' + 1 → TermC s g f') : TermC s g f := by
  intro p w hp hf h
  have hc1 : w.cell? ⟨g, 1, none⟩ = some (.int .i64 (p : Nat)) := h.cell (i := 1) (by omega)
  have T0 := Lib.hid (take_any s g p w hs hp h)
  obtain ⟨b, hb⟩ : ∃ b, b = bt s p := ⟨_, rfl⟩
  rw [← hb] at T0
  have hsz := h.lt
  by_cases hpos : b = 0
  · have e1 : ((b : Int) == 105) = false := by simp; omega
    have e2 : ((b : Int) == 91) = false := by simp; omega
    have e3 : ((b : Int) == 40) = false := by simp; omega
    have e4 : ((b : Int) == 45) = false := by simp; omega
    have e5 : decide ((50 : Int) ≤ (b : Int)) = false := decide_eq_false (by omega)
    have e5n : decide (50 ≤ b) = false := decide_eq_false (by omega)
    have HE := Lib.hid (show readT s f p = none from readT_none (by omega) (by omega) (by unfold SignP; omega) (by omega))
    have HN := Lib.hid (nxt_le hp)
    clear hpos hb h hp hf H hs hsz
    go_enter Tryd.func70, Tryd.ntmps70
    go_wp2_with (go_at_call 83; refine T0.out.mono ?_; rintro e w1 ⟨rfl, ht, hk⟩; have X1 := Lib.hid (And.intro ht hk); clear ht hk)
    go_ret2
    rw [HE.out]
    exact ⟨ButR.keeps X1.out.2, ⟨_, rfl⟩, _, HN.out, X1.out.1⟩
  · have hlt : p < s.size := bt_pos (by omega)
    obtain ⟨f', rfl⟩ : ∃ f', f = f' + 1 := ⟨f - 1, by omega⟩
    have HH := Lib.hid (H f' rfl)
    have HN := Lib.hid (show nxt s p = p + 1 from nxt_in hlt)
    have HP := Lib.hid (show p + 1 ≤ s.size ∧ s.size ≤ p + 1 + f' ∧ s.size ≤ 60 from ⟨by omega, by omega, hs⟩)
    clear H hpos hlt hf hp hs h
    by_cases c1 : b = 105
    · have e1 : ((b : Int) == 105) = true := by simp [c1]
      have HE := Lib.hid (show readT s (f' + 1) p = some (.keep, p + 1) from readT_keep (by omega))
      clear c1 hb hsz
      go_enter Tryd.func70, Tryd.ntmps70
      go_wp2_with (go_at_call 83; refine T0.out.mono ?_; rintro e w1 ⟨rfl, ht, hk⟩; have X1 := Lib.hid (And.intro ht hk); clear ht hk)
      go_ret2
      rw [HE.out]
      exact ⟨ButR.keeps X1.out.2, _, rfl, rfl, by have h := X1.out.1; rwa [HN.out] at h⟩
    have e1 : ((b : Int) == 105) = false := by simp; omega
    by_cases c2 : b = 91
    · have e2 : ((b : Int) == 91) = true := by simp [c2]
      have HE := Lib.hid (show readT s (f' + 1) p = circR s (p + 1) from readT_circ (by omega))
      clear c1 c2 hb hsz
      go_enter Tryd.func70, Tryd.ntmps70
      go_wp2_with (go_at_call 83; refine T0.out.mono ?_; rintro e w1 ⟨rfl, ht, hk⟩; have X1 := Lib.hid (And.intro (HN.out ▸ ht) hk); clear ht hk)
      refine (RetTerm.calls (circle_any s g (p + 1) w1 HP.out.2.2 HP.out.1 X1.out.1)).mono ?_
      rintro e w2 ⟨v1, v2, rfl, hr⟩
      have hr := RetTerm.back (ButR.keeps X1.out.2) hr
      rw [← HE.out] at hr
      have X2 := Lib.hid hr
      clear hr
      go_wp2_with fail
      go_ret2
      exact X2.out
    have e2 : ((b : Int) == 91) = false := by simp; omega
    by_cases c3 : b = 40
    · have e3 : ((b : Int) == 40) = true := by simp [c3]
      have HE := Lib.hid (show readT s (f' + 1) p = _ from readT_pair (by omega))
      clear c1 c2 c3 hb hsz
      go_enter Tryd.func70, Tryd.ntmps70
      go_wp2_with (go_at_call 83; refine T0.out.mono ?_; rintro e w1 ⟨rfl, ht, hk⟩; have X1 := Lib.hid (And.intro (HN.out ▸ ht) hk); clear ht hk)
      refine (RetTerm.calls (pair_any s g f' (p + 1) w1 HH.out HP.out.2.2 HP.out.1 HP.out.2.1 X1.out.1)).mono ?_
      rintro e w2 ⟨v1, v2, rfl, hr⟩
      have hr := RetTerm.back (ButR.keeps X1.out.2) hr
      rw [← HE.out] at hr
      have X2 := Lib.hid hr
      clear hr
      go_wp2_with fail
      go_ret2
      exact X2.out
    have e3 : ((b : Int) == 40) = false := by simp; omega
    by_cases c4 : SignP b
    · have HE := Lib.hid (show readT s (f' + 1) p = signR b (readT s f' (p + 1)) from by rw [hb]; exact readT_sign (by rw [← hb]; exact c4))
      have HC := Lib.hid c4
      have hcase : ((b : Int) == 45) = true ∨ (((b : Int) == 45) = false ∧ decide ((50 : Int) ≤ (b : Int)) = true ∧ decide (50 ≤ b) = true ∧ decide ((b : Int) ≤ 57) = true ∧ decide (b ≤ 57) = true) := by
        unfold SignP at c4
        by_cases e : b = 45
        · left; simp [e]
        · right; exact ⟨by simp; omega, decide_eq_true (by omega), decide_eq_true (by omega), decide_eq_true (by omega), decide_eq_true (by omega)⟩
      clear c1 c2 c3 c4 hb hsz
      rcases hcase with e4 | ⟨e4, e5, e5n, e6, e6n⟩
      all_goals
        go_enter Tryd.func70, Tryd.ntmps70
        go_wp2_with (go_at_call 83; refine T0.out.mono ?_; rintro e w1 ⟨rfl, ht, hk⟩; have X1 := Lib.hid (And.intro (HN.out ▸ ht) hk); clear ht hk)
        refine (RetTerm.calls (signed_any s g f' (p + 1) b w1 HH.out HP.out.1 HP.out.2.1 X1.out.1 HC.out)).mono ?_
        rintro e w2 ⟨v1, v2, rfl, hr⟩
        have hr := RetTerm.back (ButR.keeps X1.out.2) hr
        rw [← HE.out] at hr
        have X2 := Lib.hid hr
        clear hr
        go_wp2_with fail
        go_ret2
        exact X2.out
    · have HE := Lib.hid (show readT s (f' + 1) p = none from readT_none (by omega) (by omega) (by rw [← hb]; exact c4) (by omega))
      have hcase : (decide ((50 : Int) ≤ (b : Int)) = false ∧ decide (50 ≤ b) = false) ∨ (decide ((50 : Int) ≤ (b : Int)) = true ∧ decide (50 ≤ b) = true ∧ decide ((b : Int) ≤ 57) = false ∧ decide (b ≤ 57) = false) := by
        unfold SignP at c4
        by_cases e : 50 ≤ b
        · right; exact ⟨decide_eq_true (by omega), decide_eq_true (by omega), decide_eq_false (by omega), decide_eq_false (by omega)⟩
        · left; exact ⟨decide_eq_false (by omega), decide_eq_false (by omega)⟩
      have e4 : ((b : Int) == 45) = false := by unfold SignP at c4; simp; omega
      clear c1 c2 c3 c4 hb hsz
      rcases hcase with ⟨e5, e5n⟩ | ⟨e5, e5n, e6, e6n⟩
      all_goals
        go_enter Tryd.func70, Tryd.ntmps70
        go_wp2_with (go_at_call 83; refine T0.out.mono ?_; rintro e w1 ⟨rfl, ht, hk⟩; have X1 := Lib.hid (And.intro (HN.out ▸ ht) hk); clear ht hk)
        go_ret2
        rw [HE.out]
        exact ⟨ButR.keeps X1.out.2, ⟨_, rfl⟩, _, HP.out.1, X1.out.1⟩
theorem term_all (s : ByteArray) (g : Nat) (hs : s.size ≤ 60) : ∀ f, TermC s g f
  | 0 => term_step s g 0 hs (fun f' h => by cases h)
  | f + 1 => term_step s g (f + 1) hs (fun f' h => by cases h; exact term_all s g hs f)

/-- What parseTerm hands back. -/
def RetParse (w : World) (o : Option Tm) (e : Ending) (w' : World) : Prop :=
  Below w.heap.size w w' ∧ match o with
    | none => ∃ q : Int, e = .returned (.tuple #[.nilIface, .iface 74 (.agg #[.int .i64 q])])
    | some t => ∃ v, e = .returned (.tuple #[v, .nilIface]) ∧ PV w' w.heap.size t v
end Go.Proofs.YtnaegnjgpnakfaaDoor
