/- The program's reader of terms: circles. -/
import Derived.Test.YtnaegnjgpnakfaaDoorTermTake
import Derived.Test.YtnaegnjgpnakfaaDoorInfoInts
import Derived.Test.YtnaegnjgpnakfaaDoorAreDifferent
namespace Go.Proofs.YtnaegnjgpnakfaaDoor
set_option linter.unusedVariables false
set_option linter.unusedSimpArgs false
open Go.RowKit

/-- The value of a term in the program's memory, its lists at or behind block B. -/
def PV (w : World) (B : Nat) : Tm → Value → Prop
  | .keep, v => v = .iface 119 (.agg #[])
  | .circ L, v => ∃ b c : Nat, v = .iface 101 (.slice (some ⟨b, 0, none⟩) L.length c) ∧ (B ≤ b ∧ b < w.heap.size) ∧ Rd w (some ⟨b, 0, none⟩) L.length (nthN L)
  | .back t, v => ∃ u, v = .iface 103 (.agg #[u]) ∧ PV w B t u
  | .times k t, v => ∃ u, v = .iface 106 (.agg #[u, .int .i64 (k : Nat)]) ∧ PV w B t u
  | .pair a b, v => ∃ u1 u2, v = .iface 109 (.agg #[u1, u2]) ∧ PV w B a u1 ∧ PV w B b u2
theorem PV.keep {w w' : World} {B : Nat} (hs : w.heap.size ≤ w'.heap.size) (hk : ∀ k, B ≤ k → k < w.heap.size → w'.heap[k]? = w.heap[k]?) : ∀ {t : Tm} {v : Value}, PV w B t v → PV w' B t v
  | .keep, v, h => h
  | .circ L, v, ⟨b, c, e, ⟨h1, h2⟩, h3⟩ => ⟨b, c, e, ⟨h1, by omega⟩, fun k hkL => by
      obtain ⟨b', o', e', hc⟩ := h3 k hkL
      cases e'
      exact ⟨b, 0, rfl, by rw [World.cell?_of_block (w := w) (a := ⟨b, 0 + k, none⟩) (hk b h1 h2)]; exact hc⟩⟩
  | .back t, v, ⟨u, e, h⟩ => ⟨u, e, PV.keep hs hk h⟩
  | .times k t, v, ⟨u, e, h⟩ => ⟨u, e, PV.keep hs hk h⟩
  | .pair a b, v, ⟨u1, u2, e, h1, h2⟩ => ⟨u1, u2, e, PV.keep hs hk h1, PV.keep hs hk h2⟩
theorem PV.but {w w' : World} {g : Nat} {t : Tm} {v : Value} (h : PV w (g + 1) t v) (hb : ButR g w.heap.size w w') : PV w' (g + 1) t v := PV.keep hb.size (fun k h1 h2 => hb.block k h2 (by omega)) h
theorem PV.below {w w' : World} {B : Nat} {t : Tm} {v : Value} (h : PV w B t v) (hb : Below w.heap.size w w') : PV w' B t v := PV.keep hb.size (fun k h1 h2 => hb.block k h2) h
theorem PV.iface {w : World} {B : Nat} : ∀ {t : Tm} {v : Value}, PV w B t v → ∃ T x, v = .iface T x
  | .keep, v, h => ⟨_, _, h⟩
  | .circ L, v, ⟨_, _, e, _⟩ => ⟨_, _, e⟩
  | .back t, v, ⟨_, e, _⟩ => ⟨_, _, e⟩
  | .times k t, v, ⟨_, e, _⟩ => ⟨_, _, e⟩
  | .pair a b, v, ⟨_, _, e, _⟩ => ⟨_, _, e⟩

/-- What a part of the reader hands back: no term and an error, or a term; the reader stands behind it. -/
def RetTerm (s : ByteArray) (g : Nat) (w : World) (o : Option (Tm × Nat)) (e : Ending) (w' : World) : Prop :=
  ButR g w.heap.size w w' ∧ match o with
    | none => (∃ q : Int, e = .returned (.tuple #[.nilIface, .iface 74 (.agg #[.int .i64 q])])) ∧ ∃ p, p ≤ s.size ∧ TxtAt w' g s p
    | some (t, p) => ∃ v, e = .returned (.tuple #[v, .nilIface]) ∧ PV w' (g + 1) t v ∧ TxtAt w' g s p

theorem TxtAt.lt {w : World} {g p : Nat} {s : ByteArray} (h : TxtAt w g s p) : g < w.heap.size := by
  obtain ⟨c, h1, _⟩ := h
  exact (Array.getElem?_eq_some_iff.1 h1).1
theorem TxtAt.but {w w' : World} {g r p B : Nat} {s : ByteArray} (h : TxtAt w g s p) (hb : Below B w w') (hB : g < B) : TxtAt w' g s p := h.move (hb.block g hB)
theorem bt_u8 {b : Nat} (h : 97 ≤ b ∧ b ≤ 101) : IntKind.u8.wrap ((b : Int) - 97) = ((b - 97 : Nat) : Int) := by
  obtain ⟨x, rfl⟩ : ∃ x, b = x + 97 := ⟨b - 97, by omega⟩
  have : x ≤ 4 := by omega
  rcases (by omega : x = 0 ∨ x = 1 ∨ x = 2 ∨ x = 3 ∨ x = 4) with rfl | rfl | rfl | rfl | rfl <;> rfl

/-- An owned row of integers, nil or not, is a slice that can be read. -/
theorem owns_slice {w : World} {base tI n : Nat} {rv : Value} {X : Nat → Int} (h : w.ownsRow base tI 1 rv n (cellsL n X)) : (∀ a c, rv = .slice a n c → Rd w a n X) ∧ ∃ a c, rv = .slice a n c := by
  rcases Nat.eq_zero_or_pos n with rfl | hk0
  · refine ⟨fun a c _ j hj => absurd hj (Nat.not_lt_zero _), ?_⟩
    obtain ⟨_, (⟨h1, _⟩ | ⟨g', cap', cur, h1, _⟩)⟩ := h
    · exact ⟨_, _, h1⟩
    · exact ⟨_, _, h1⟩
  · obtain ⟨g', c', rfl⟩ := owns_form h hk0
    exact ⟨fun a c e => by cases e; exact owns_rd h, _, _, rfl⟩

set_option maxRecDepth 100000 in
set_option maxHeartbeats 3200000 in
theorem circle_any (s : ByteArray) (g p : Nat) (w : World) (hs : s.size ≤ 60) (hp : p ≤ s.size) (h : TxtAt w g s p) :
    Calls Tryd.prog 84 #[.pointer (some ⟨g, 0, none⟩)] w (RetTerm s g w (circR s p)) := by
  obtain ⟨i0, hi, hz0, hz1, hz2⟩ := info_parts Tryd.infoInt
  have hc1 : w.cell? ⟨g, 1, none⟩ = some (.int .i64 (p : Nat)) := h.cell (i := 1) (by omega)
  obtain ⟨m, hm⟩ : ∃ m, m = runN s p := ⟨_, rfl⟩
  have hle := runN_le hp
  have HM := Lib.hid (show p + m ≤ s.size ∧ (∀ j, j < m → LetP (bt s (p + j))) ∧ ¬ LetP (bt s (p + m)) from ⟨by omega, fun j hj => runN_let (by omega), by rw [hm]; exact runN_end s p⟩)
  have HS := Lib.hid (And.intro hs hp)
  have HG := Lib.hid h.lt
  have HMM := Lib.hid hm
  have T0 := Lib.hid (take_any s g p w hs hp h)
  clear h hm hle hs hp
  go_enter Tryd.func84, Tryd.ntmps84
  go_wp2_with (go_at_call 83; refine T0.out.mono ?_; rintro e w1 ⟨rfl, ht, hk⟩; have X1 := Lib.hid (And.intro ht hk); clear ht hk)
  go_loopw [5, 6] (fun row sg wr => ∃ k : Nat, k ≤ m ∧ sg = .int .u8 (bt s (p + k) : Nat) ∧ ∃ rv, rv = row ∧ wr.ownsRow w.heap.size 3 1 rv k (cellsL k (letF s p)) ∧ TxtAt wr g s (nxt s (p + k)) ∧ ButR g w.heap.size w wr) (fun row _ _ => m - (match row with | .slice _ n _ => n | _ => 0))
  case atStart => exact ⟨0, Nat.zero_le _, rfl, _, rfl, World.ownsRow_nil _ _ _ _, X1.out.1, ButR.keeps X1.out.2⟩
  case round =>
    obtain ⟨k, hk, rfl, rv, rfl, hown, htx, hbu⟩ := hrel
    clear X1
    obtain ⟨hrd, ra, rc, rfl⟩ := owns_slice hown
    obtain ⟨b, hb⟩ : ∃ b, b = bt s (p + k) := ⟨_, rfl⟩
    have hcell : wr.cell? ⟨g, 1, none⟩ = some (.int .i64 (nxt s (p + k) : Nat)) := htx.cell (i := 1) (by omega)
    have HO := Lib.hid hown
    have HT := Lib.hid htx
    have HU := Lib.hid hbu
    have HB := Lib.hid hb
    have hsz := hbu.size
    rw [← hb]
    clear hown htx hbu hcell hc1
    by_cases hlt : k < m
    · have hL : LetP b := by rw [hb]; exact HM.out.2.1 k hlt
      have hL' : 97 ≤ b ∧ b ≤ 101 := hL
      have d1 : decide ((97 : Int) ≤ (b : Int)) = true := decide_eq_true (by omega)
      have d1n : decide (97 ≤ b) = true := decide_eq_true (by omega)
      have d2 : decide ((b : Int) < 102) = true := decide_eq_true (by omega)
      have d2n : decide (b < 102) = true := decide_eq_true (by omega)
      have hw := bt_u8 hL'
      obtain ⟨x, hx⟩ : ∃ x, x = b - 97 := ⟨_, rfl⟩
      rw [← hx] at hw
      have HX := Lib.hid (show letF s p k = (x : Int) from by unfold letF; rw [← hb]; omega)
      have hkp : p + k < s.size := by have := HM.out.1; omega
      have HN := Lib.hid (show nxt s (p + k) = p + (k + 1) from by rw [nxt_in hkp]; omega)
      have HL := Lib.hid (show p + (k + 1) ≤ s.size by omega)
      have hkm := Lib.hid (show k + 1 ≤ m by omega)
      have hk60 := Lib.hid (show k ≤ 60 by have := HS.out.1; omega)
      have hw2 : wrap64 (x : Int) = (x : Int) := IntWalk.wrap64_in _ (by omega)
      clear hx hb hL hL' hkp hlt hk
      go_wp2_with (at_builtin; go_loud (refine wpList_append_lies _ (by rfl) (.tmp 19) (.tmp 23) 101 (by rfl) w.heap.size 3 i0 (.int .i64 0) 1 8 Tryd.underlying101 hi hz0 hz1 hz2 (by rfl) (by decide) _ k (cellsL k (letF s p)) (by rfl) (HO.out.alloc _) ⟨_, 0, none⟩ 1 1 [.int .i64 x] (by rfl) (by rfl) (news_one (by simp)) (by simp [Value.oneCell']) (by have := hk60.out; omega) (by have := hk60.out; unfold maxLen; omega) (by have := hk60.out; omega) (by have := hk60.out; first | omega | (simp; omega)) _ rfl ?_); intro g2 cap2 w2 hown2 hgrow2 hat2 hlt2; have N2 := Lib.hid hown2; have G2 := Lib.hid hgrow2; clear hown2 hgrow2 hat2)
      have hgl := HG.out
      have hge : ∀ j, (Value.slice ra k rc).ownBlock = some j → w.heap.size ≤ j := fun j hj => (HO.out.lt j hj).1
      have bu2 : ButR g w.heap.size w w2 := (HU.out.alloc hsz _).grown G2.out (by simp; omega) hge
      have tx2 : TxtAt w2 g s (p + (k + 1)) := by
        have h := HT.out
        rw [HN.out] at h
        refine h.move ?_
        rw [G2.out.block g (by simp; have := HU.out.size; omega) (fun e => by have := hge g e.symm; omega)]
        exact Below.heap_alloc _ _ _ (by have := HU.out.size; omega)
      refine (take_any s g (p + (k + 1)) w2 HS.out.1 HL.out tx2).mono ?_
      rintro e w3 ⟨rfl, tx3, k3⟩
      have NX := Lib.hid (show w3.ownsRow w.heap.size 3 1 (.slice (some ⟨g2, 0, none⟩) (k + 1) cap2) (k + 1) (cellsL (k + 1) (letF s p)) from by
        have h := owns_but N2.out hgl k3
        rw [cellsL_snoc, cellsL_congr (Y := letF s p) (fun j hj => by
          by_cases e : j < k
          · simp [e]
          · have : j = k := by omega
            subst this; simp [HX.out])] at h
        exact h)
      have BX := Lib.hid (bu2.trans (ButR.keeps k3))
      have TX := Lib.hid tx3
      clear bu2 tx2 tx3 k3 hge N2 G2 HO HT HU
      go_wp2_with fail
      go_roundw
      case rel => exact ⟨k + 1, hkm.out, rfl, _, rfl, NX.out, TX.out, BX.out⟩
      case measure => have := hkm.out; simp; omega
    · obtain rfl : k = m := by omega
      have hL : ¬ LetP b := by rw [hb]; exact HM.out.2.2
      have hL' : ¬ (97 ≤ b ∧ b ≤ 101) := hL
      have hcond : (decide ((97 : Int) ≤ (b : Int)) = false) ∨ (decide ((97 : Int) ≤ (b : Int)) = true ∧ decide ((b : Int) < 102) = false) := by
        by_cases e : 97 ≤ b
        · right; exact ⟨decide_eq_true (by omega), decide_eq_false (by omega)⟩
        · left; exact decide_eq_false (by omega)
      have hcondn : (decide (97 ≤ b) = false) ∨ (decide (97 ≤ b) = true ∧ decide (b < 102) = false) := by
        by_cases e : 97 ≤ b
        · right; exact ⟨decide_eq_true (by omega), decide_eq_false (by omega)⟩
        · left; exact decide_eq_false (by omega)
      have HD := Lib.hid (areDifferent_any 5 k rc ra (letF s p) wr (by omega) (by have := HS.out.1; have := HM.out.1; omega) (hrd _ _ rfl))
      have hsk : k ≤ 60 := by have := HS.out.1; have := HM.out.1; omega
      have HK := Lib.hid hsk
      clear hrd
      have hnl : nxt s (p + k) ≤ s.size := nxt_le (by have := HM.out.1; omega)
      by_cases e93 : b = 93
      · have d0 : decide ((97 : Int) ≤ (b : Int)) = false := decide_eq_false (by omega)
        have d0n : decide (97 ≤ b) = false := decide_eq_false (by omega)
        have d3 : ((b : Int) != 93) = false := by simp [e93]
        by_cases e2 : k < 2
        · have d4 : decide ((k : Int) < 2) = true := decide_eq_true (by omega)
          have d4n : decide (k < 2) = true := decide_eq_true e2
          have HE := Lib.hid (circR_no (s := s) (p := p) (fun h => by have := h.2.1; rw [← HMM.out] at this; omega))
          have HL := Lib.hid hnl
          clear hcond hcondn hL hL' hb e93 e2 hlt hk hsz hnl hsk
          go_wp2_with fail
          go_ret2
          rw [HE.out]
          exact ⟨HU.out, ⟨_, rfl⟩, _, HL.out, HT.out⟩
        · have d4 : decide ((k : Int) < 2) = false := decide_eq_false (by omega)
          have d4n : decide (k < 2) = false := decide_eq_false e2
          by_cases e4 : IsDiff 5 k (letF s p)
          · have T4 := Lib.hid (tt_of e4)
            have HE := Lib.hid (circR_yes (s := s) (p := p) ⟨by rw [← HMM.out, ← hb, e93], by rw [← HMM.out]; omega, by rw [← HMM.out]; exact e4⟩)
            have HN := Lib.hid (show nxt s (p + k) = p + k + 1 from nxt_in (bt_pos (by rw [← hb, e93]; decide)))
            obtain ⟨b', c', he'⟩ := owns_form HO.out (by omega)
            cases he'
            clear hcond hcondn hL hL' hb e93 e2 hlt hk hsz hnl hsk e4
            go_wp2_with (go_at_call 67; refine HD.out.mono ?_; rintro e w' ⟨rfl, rfl⟩; rw [T4.out])
            go_ret2
            rw [HE.out, ← HMM.out]
            refine ⟨HU.out, _, rfl, ⟨b', rc, by rw [lets_len]; rfl, ⟨?_, ?_⟩, ?_⟩, by have h := HT.out; rw [HN.out] at h; exact h⟩
            · have := owns_cap HO.out; have := HG.out; omega
            · have := owns_cap HO.out; omega
            · rw [lets_len]
              intro j hj
              have := owns_rd HO.out j hj
              rw [lets_nth hj (by rw [← HMM.out]; exact Nat.le_refl _)]
              exact this
          · have T4 := Lib.hid (tt_no e4)
            have HE := Lib.hid (circR_no (s := s) (p := p) (fun h => e4 (by have := h.2.2; rwa [← HMM.out] at this)))
            have HL := Lib.hid hnl
            clear hcond hcondn hL hL' hb e93 e2 hlt hk hsz hnl hsk e4
            go_wp2_with (go_at_call 67; refine HD.out.mono ?_; rintro e w' ⟨rfl, rfl⟩; rw [T4.out])
            go_ret2
            rw [HE.out]
            exact ⟨HU.out, ⟨_, rfl⟩, _, HL.out, HT.out⟩
      · have d3 : ((b : Int) != 93) = true := by simp; omega
        have HE := Lib.hid (circR_no (s := s) (p := p) (fun h => by have := h.1; rw [← HMM.out, ← hb] at this; exact e93 this))
        have HL := Lib.hid hnl
        rcases hcond with d0 | ⟨d0, d0b⟩
        · have d0n : decide (97 ≤ b) = false := by rcases hcondn with h | ⟨h, _⟩; exact h; exact absurd (of_decide_eq_true h) (by have := of_decide_eq_false d0; omega)
          clear hcondn hL hL' hb e93 hlt hk hsz hnl hsk
          go_wp2_with fail
          go_ret2
          rw [HE.out]
          exact ⟨HU.out, ⟨_, rfl⟩, _, HL.out, HT.out⟩
        · have d0n : decide (97 ≤ b) = true := decide_eq_true (by have := of_decide_eq_true d0; omega)
          have d0bn : decide (b < 102) = false := decide_eq_false (by have := of_decide_eq_false d0b; omega)
          clear hcondn hL hL' hb e93 hlt hk hsz hnl hsk
          go_wp2_with fail
          go_ret2
          rw [HE.out]
          exact ⟨HU.out, ⟨_, rfl⟩, _, HL.out, HT.out⟩
end Go.Proofs.YtnaegnjgpnakfaaDoor
