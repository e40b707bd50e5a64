/- The program's hasDeal and readBidsAndDeal. -/
import Derived.Test.YtaipodnhnekpjaaReadBids
import Derived.Test.YtaipodnhnekpjaaDelInts
import Derived.Test.YtaipodnhnekpjaaClone
import Derived.Test.YtaipodnhnekpjaaAreDifferent
import Derived.Test.YtaipodnhnekpjaaLists
namespace Go.Proofs.Ytaipodnhnekpjaa
set_option linter.unusedVariables false
set_option linter.unusedSimpArgs false
open Go.RowKit

/-- The bidders who get an item. -/
def gotL (q : Nat) (D : Nat → Int) : List Nat := (List.range q).filter fun r => !decide (D r = -1)
theorem gotL_mem {q : Nat} {D : Nat → Int} {i : Nat} : i ∈ gotL q D ↔ i < q ∧ D i ≠ -1 := by unfold gotL; simp
theorem gotL_at {q : Nat} {D : Nat → Int} {p : Nat} (h : p < (gotL q D).length) : (gotL q D).getD p 0 < q ∧ D ((gotL q D).getD p 0) ≠ -1 := gotL_mem.1 (getD_in h)
theorem gotL_inj {q : Nat} {D : Nat → Int} {p r : Nat} (hp : p < (gotL q D).length) (hr : r < (gotL q D).length) (h : (gotL q D).getD p 0 = (gotL q D).getD r 0) : p = r := by
  have hn : (gotL q D).Nodup := List.nodup_range.filter _
  rw [List.getD_eq_getElem?_getD, List.getD_eq_getElem?_getD, List.getElem?_eq_getElem hp, List.getElem?_eq_getElem hr] at h
  simp only [Option.getD_some] at h
  unfold List.Nodup at hn
  rw [List.pairwise_iff_getElem] at hn
  rcases Nat.lt_trichotomy p r with e | e | e
  · exact absurd h (hn p r _ _ e)
  · exact e
  · exact absurd h.symm (hn r p _ _ e)
theorem gotL_pos {q : Nat} {D : Nat → Int} {i : Nat} (h : i ∈ gotL q D) : ∃ p, p < (gotL q D).length ∧ (gotL q D).getD p 0 = i := by
  obtain ⟨p, hp, e⟩ := List.getElem_of_mem h
  exact ⟨p, hp, by rw [List.getD_eq_getElem?_getD, List.getElem?_eq_getElem hp]; simpa using e⟩
theorem got_deal {q m : Nat} {D : Nat → Int} : IsDiff m (gotL q D).length (fun p => D ((gotL q D).getD p 0)) ↔ IsDeal q m D := by
  constructor
  · intro h
    refine ⟨fun i hi => ?_, fun i j hi hj hne e => ?_⟩
    · by_cases hd : D i = -1
      · rw [hd]; omega
      · obtain ⟨p, hp, e⟩ := gotL_pos (gotL_mem.2 ⟨hi, hd⟩)
        have : 0 ≤ D ((gotL q D).getD p 0) ∧ D ((gotL q D).getD p 0) < m := h.1 p hp
        rw [e] at this
        omega
    · by_cases hd : D i = -1
      · exact hd
      · exfalso
        obtain ⟨p, hp, e1⟩ := gotL_pos (gotL_mem.2 ⟨hi, hd⟩)
        obtain ⟨r, hr, e2⟩ := gotL_pos (gotL_mem.2 (show j < q ∧ D j ≠ -1 from ⟨hj, by rw [← e]; exact hd⟩))
        have hpr : p ≠ r := fun e3 => hne (by rw [← e1, ← e2, e3])
        rcases Nat.lt_or_ge p r with h4 | h4
        · have : D ((gotL q D).getD p 0) ≠ D ((gotL q D).getD r 0) := h.2 p r h4 hr
          rw [e1, e2] at this
          exact this e
        · have : D ((gotL q D).getD r 0) ≠ D ((gotL q D).getD p 0) := h.2 r p (by omega) hp
          rw [e1, e2] at this
          exact this e.symm
  · intro h
    refine ⟨fun p hp => ?_, fun p r h1 h2 e => ?_⟩
    · obtain ⟨h3, h4⟩ := gotL_at hp
      have := h.1 _ h3
      show 0 ≤ D ((gotL q D).getD p 0) ∧ D ((gotL q D).getD p 0) < m
      omega
    · obtain ⟨h3, h4⟩ := gotL_at (q := q) (D := D) (p := p) (by omega)
      obtain ⟨h5, h6⟩ := gotL_at h2
      exact h4 (h.2 _ _ h3 h5 (fun e2 => by have := gotL_inj (by omega) h2 e2; omega) e)

theorem noItem_any (x : Int) (w : World) : Calls Try.prog 86 #[.int .i64 x] w fun e w' => e = .returned (.bool (decide (x = -1))) ∧ w = w' := by
  have E := Lib.hid (show (x == -1) = decide (x = -1) by by_cases h : x = -1 <;> simp [h])
  go_enter Try.func86, Try.ntmps86
  go_wp2
  go_ret
  exact ⟨by rw [← E.out]; rfl, rfl⟩

theorem range_at {q k : Nat} (h : k < q) : (List.range q).getD k 0 = k := by
  rw [List.getD_eq_getElem?_getD, List.getElem?_range h]; rfl

set_option maxRecDepth 100000 in
set_option maxHeartbeats 1600000 in
theorem hasDeal_any (n c q d : Nat) (a b : Option Addr) (A : Nat → Option Addr) (L C : Nat → Nat) (Z : Nat → Nat → Int) (D : Nat → Int) (w : World) (hn1 : 1 ≤ n) (hn : n ≤ 4) (hm4 : L 0 ≤ 4) (hq : q ≤ 1048576) (ha0 : Tab w a n A L C Z) (hb0 : Rd w b q D) :
    Calls Try.prog 50 #[.slice a n c, .slice b q d] w fun e w' => e = .returned (.bool (tt (IsDeal q (L 0) D ∧ q = n))) ∧ Below w.heap.size w w' := by
  by_cases hqn : q = n
  · have T0 := Lib.hid (tt_congr (show (IsDeal q (L 0) D ∧ q = n) ↔ IsDeal q (L 0) D from ⟨fun h => h.1, fun h => ⟨h, hqn⟩⟩))
    have d1 : ((q : Int) != (n : Int)) = false := by simp [hqn]
    have hq1 : 1 ≤ q := by omega
    have HC := Lib.hid (clone_any q d b D w hq1 hq hb0)
    have HI := Lib.hid (fun w' (hb : Below w.heap.size w w') => bidItems_any n c a A L C Z w' (by omega) (ha0.below (Nat.le_refl _) hb))
    have QN := Lib.hid hqn
    clear ha0 hb0 hqn
    go_enter Try.func50, Try.ntmps50
    go_wp2_with fail
    refine HC.out.mono ?_
    rintro e w1 ⟨g, cap, rfl, hown, hb1⟩
    have hlt := hown.lt g rfl
    have hO := OwnR.of_owns hown
    have hcap := owns_fits hown
    have B1 := Lib.hid hb1
    have HD := Lib.hid (intsDelete_any 86 #[] (enters_of Try.func86 (by kernel_rfl) rfl) (fun r => .int .i64 (D r)) (fun _ => rfl) (fun r => decide (D r = -1)) (List.range q) g cap q w1 (by simp) hq hcap.1 hcap.2 (fun k hk => by
      have hk : k < q := by simpa using hk
      rw [range_at hk]; exact hO.at hk) (fun W r hr hk => (noItem_any (D r) W).mono fun e w' ⟨h1, h2⟩ => ⟨h1, 0, h2.symm⟩))
    clear hown hO hb1
    go_wp2_with fail
    refine HD.out.mono ?_
    rintro e w2 ⟨rfl, hcells, hk2⟩
    obtain ⟨M, hM⟩ : ∃ M, M = (gotL q D).length := ⟨_, rfl⟩
    have hM2 : M ≤ 1048576 := by rw [hM]; unfold gotL; exact Nat.le_trans (List.length_filter_le _ _) (by simpa using hq)
    have B2 := Lib.hid (B1.out.trans (hk2.below.mono hlt.1))
    have HX := Lib.hid (show Rd w2 (some ⟨g, 0, none⟩) M (fun p => D ((gotL q D).getD p 0)) from fun p hp => ⟨g, 0, rfl, by rw [Nat.zero_add]; exact (hcells p (by rw [hM] at hp; exact hp)).1⟩)
    have HA := Lib.hid (areDifferent_any (L 0) M cap (some ⟨g, 0, none⟩) _ w2 (by omega) hM2 HX.out)
    have T1 := Lib.hid (show tt (IsDiff (L 0) M fun p => D ((gotL q D).getD p 0)) = tt (IsDeal q (L 0) D ∧ q = n) from by rw [hM, T0.out]; exact tt_congr got_deal)
    have QM := Lib.hid (show ((List.range q).filter fun r => !decide (D r = -1)).length = M from hM.symm)
    clear hcells hk2 hM
    go_wp2_with (first
      | (go_at_call 61; refine (HI.out _ B2.out).mono ?_; rintro e w' ⟨rfl, rfl⟩)
      | (go_at_call 87; rw [QM.out]; refine HA.out.mono ?_; rintro e w' ⟨rfl, rfl⟩; rw [T1.out]))
    go_ret
    exact ⟨rfl, B2.out⟩
  · have d1 : ((q : Int) != (n : Int)) = true := bne_iff_ne.2 (by omega)
    have T0 := Lib.hid (tt_no (show ¬ (IsDeal q (L 0) D ∧ q = n) from fun h => hqn h.2))
    clear ha0 hb0 hqn
    go_enter Try.func50, Try.ntmps50
    go_wp2
    go_ret
    exact ⟨by rw [T0.out]; rfl, Below.refl _ _⟩

end Go.Proofs.Ytaipodnhnekpjaa
