/- Just one giving is firm: what comes by trading in circles. -/
/- Just one giving is firm, as a list. -/
import Derived.Test.YtgjegpponchdaaaDoorBlockGiv
import Derived.Test.YtgjegpponchdaaaDoorTradeGiving
namespace Go.Proofs.YtgjegpponchdaaaDoor
set_option linter.unusedVariables false
set_option linter.unusedSimpArgs false
open Go.RowKit

section
variable {n : Nat} {L : Nat → Nat} {Z : Nat → Nat → Int} {G : Nat → Int}
theorem diff_inj {X : Nat → Int} (h : IsDiff n n X) {i j : Nat} (hi : i < n) (hj : j < n) (e : X i = X j) : i = j := by
  rcases Nat.lt_trichotomy i j with h1 | h1 | h1
  · exact absurd e (h.2 i j h1 hj)
  · exact h1
  · exact absurd e.symm (h.2 j i h1 hi)
/-- One that points at y on the same circle. -/
theorem circ_from (hW : IsWishes n L Z) {s y : Nat} (h : circB Z n (tS Z n s) y = true) : ∃ j k, circB Z n (tS Z n s) j = true ∧ ptS Z n (tS Z n s) j = y ∧ j = it (ptS Z n (tS Z n s)) k y := by
  obtain ⟨j, h1, h2, k, h3⟩ := (circB_circ h).pred
  refine ⟨j, k, circB_of ?_ h1, h2, h3⟩
  rw [h3]
  exact it_in (P := fun x => tS Z n s x = true) (fun i hi => ptS_in hW (tS_ppl Z n s) hi) (circB_in h) k
theorem circ_step (hW : IsWishes n L Z) {s y : Nat} (h : circB Z n (tS Z n s) y = true) : circB Z n (tS Z n s) (ptS Z n (tS Z n s) y) = true := circB_of (ptS_in hW (tS_ppl Z n s) (circB_in h)) (circB_circ h).step
/-- No set of people blocks what comes by trading in circles. -/
theorem trade_firm (hW : IsWishes n L Z) : FirmP n Z (giveF Z n) := by
  rintro S h1 hS ⟨h, hh1, hh2, hh3⟩
  have key : ∀ t, ∀ i, S.testBit i = true → circB Z n (tS Z n t) i = true → ((h i : Nat) : Int) = giveF Z n i := by
    intro t
    induction t using Nat.strongRecOn with
    | _ t ih =>
      intro i hb hc
      have hi := bit_lt hS hb
      obtain ⟨hx, hle⟩ := hh1 i hb
      have hxn := bit_lt hS hx
      have hgr := give_range hW hi
      by_cases hl : tS Z n t (h i) = true
      · have h2 := best_in hW (tS_ppl Z n t) hi hl
        rw [← give_circ hW hc] at h2
        exact idx_inj (hW.2 i hi).2 ⟨by omega, by omega⟩ ⟨hgr.1, by have := hgr.2; omega⟩ (by omega)
      · obtain ⟨s, hs, hcs⟩ := leaves (Z := Z) hxn (by simpa using hl)
        have all : ∀ k, S.testBit (it (ptS Z n (tS Z n s)) k (h i)) = true ∧ circB Z n (tS Z n s) (it (ptS Z n (tS Z n s)) k (h i)) = true := by
          intro k
          induction k with
          | zero => exact ⟨hx, hcs⟩
          | succ k ihk =>
            obtain ⟨b1, b2⟩ := ihk
            have e1 := ih s hs _ b1 b2
            rw [give_circ hW b2] at e1
            have e2 := (hh1 _ b1).1
            refine ⟨?_, circ_step hW b2⟩
            show S.testBit (ptS Z n (tS Z n s) _) = true
            rw [show ptS Z n (tS Z n s) (it (ptS Z n (tS Z n s)) k (h i)) = h (it (ptS Z n (tS Z n s)) k (h i)) by omega]
            exact e2
        obtain ⟨j, k, hj, hjy, hjk⟩ := circ_from hW hcs
        obtain ⟨b1, b2⟩ := all k
        rw [← hjk] at b1 b2
        have e1 := ih s hs _ b1 b2
        rw [give_circ hW b2, hjy] at e1
        have e2 := hh2 j i b1 hb (by omega)
        rw [e2] at b2
        have := circ_once b2 hc
        omega
  rcases hh3 with hh3 | ⟨i, hi, hne⟩
  · cases hh3
  · obtain ⟨s, hs, _, _⟩ := give_at hW (bit_lt hS hi)
    exact hne (key s i hi hs)
/-- .. and they block any other giving. -/
theorem firm_trade (hg : GivenOk n L Z n G) (hf : FirmP n Z G) : ∀ i, i < n → G i = giveF Z n i := by
  have hW := hg.1
  have hd : IsDiff n n G := ⟨fun i hi => by have h := hg.at hi; exact ⟨h.1, by have := h.2; omega⟩, hg.2.2.2⟩
  have key : ∀ t, ∀ i, circB Z n (tS Z n t) i = true → G i = giveF Z n i := by
    intro t
    induction t using Nat.strongRecOn with
    | _ t ih =>
      intro i0 hc0
      refine Classical.byContradiction fun hne => ?_
      have hbit : ∀ i, (maskN (circB Z n (tS Z n t)) n).testBit i = circB Z n (tS Z n t) i := (maskN_is (circB_ppl Z (tS_ppl Z n t))).2
      have hlt : maskN (circB Z n (tS Z n t)) n < 2 ^ n := (maskN_is (circB_ppl Z (tS_ppl Z n t))).1
      have hpos : 1 ≤ maskN (circB Z n (tS Z n t)) n := by
        rcases Nat.eq_zero_or_pos (maskN (circB Z n (tS Z n t)) n) with h | h
        · have := hbit i0
          rw [h, hc0] at this; simp at this
        · exact h
      refine hf _ hpos hlt ⟨ptS Z n (tS Z n t), fun i hi => ?_, fun i j hi hj e => ?_, .inr ⟨i0, by rw [hbit, hc0], ?_⟩⟩
      · rw [hbit] at hi
        refine ⟨by rw [hbit]; exact circ_step hW hi, ?_⟩
        have hin := tS_ppl Z n t i (circB_in hi)
        have hr := hd.1 i hin
        obtain ⟨y, hy⟩ := Int.eq_ofNat_of_zero_le hr.1
        have hyn : y < n := by have := hr.2; omega
        rw [hy]
        refine best_in hW (tS_ppl Z n t) hin ?_
        refine Classical.byContradiction fun hl => ?_
        obtain ⟨s, hs, hcs⟩ := leaves (Z := Z) hyn (by simpa using hl)
        obtain ⟨j, k, hj, hjy, hjk⟩ := circ_from hW hcs
        have e1 := ih s hs j hj
        rw [give_circ hW hj, hjy] at e1
        have e2 := diff_inj hd (tS_ppl Z n s j (circB_in hj)) hin (by rw [e1, hy])
        rw [e2] at hj
        have := circ_once hj hi
        omega
      · rw [hbit] at hi hj
        exact (circB_circ hi).inj (circB_circ hj) e
      · rw [← give_circ hW hc0]
        exact fun e => hne e.symm
  intro i hi
  obtain ⟨s, hs, _, _⟩ := give_at hW hi
  exact key s i hs
/-- Nobody likes the own house better than what comes. -/
theorem trade_own (hW : IsWishes n L Z) {i : Nat} (hi : i < n) : ¬ idxF (Z i) (i : Nat) n < idxF (Z i) (giveF Z n i) n := by
  obtain ⟨s, hs, hg, _⟩ := give_at hW hi
  have := best_in hW (tS_ppl Z n s) hi (circB_in hs)
  rw [hg]; omega
/-- Firmness looks at the places of people only. -/
theorem firm_congr {X Y : Nat → Int} (h : ∀ i, i < n → X i = Y i) (hf : FirmP n Z X) : FirmP n Z Y := fun S h1 h2 ⟨f, a1, a2, a3⟩ => by
  refine hf S h1 h2 ⟨f, fun i hi => by rw [h i (bit_lt h2 hi)]; exact a1 i hi, a2, ?_⟩
  rcases a3 with a3 | ⟨i, hi, hne⟩
  · cases a3
  · exact .inr ⟨i, hi, by rw [h i (bit_lt h2 hi)]; exact hne⟩
end
end Go.Proofs.YtgjegpponchdaaaDoor

namespace Go.Proofs.YtgjegpponchdaaaDoor
set_option linter.unusedVariables false
set_option linter.unusedSimpArgs false
open Go.RowKit

/-- What HouseFirms answers: the giving by trade, alone. -/
theorem firms_one {n : Nat} {L : Nat → Nat} {Z : Nat → Nat → Int} (hW : IsWishes n L Z) : ∃ D, firmsAll n L Z = [D] ∧ D.length = n ∧ ∀ i, i < n → nth D i = giveF Z n i := by
  obtain ⟨k1, k2, k3⟩ := isDiff_nth (trade_giving hW)
  refine ⟨_, ?_, k2, k3⟩
  rw [firmsAll_yes hW]
  unfold firmsL
  have hmem : ((List.range n).map (giveF Z n)) ∈ givs n n [] := (mem_givs n [] (Diff.nil n) (by simp) _).2 ⟨k1, k2, List.nil_prefix⟩
  refine filter_one (givs_nodup n [] (Diff.nil n) (by simp)) hmem fun D hD => ?_
  rw [tt_iff]
  constructor
  · intro hf
    have hl := ((mem_givs n [] (Diff.nil n) (by simp) D).1 hD).2.1
    have h1 := firm_trade (givsN_given hW hD) hf
    refine List.ext_getElem (by rw [hl, k2]) fun i hi hi2 => ?_
    have e1 : nth D i = D[i] := by unfold nth; rw [List.getD_eq_getElem?_getD, List.getElem?_eq_getElem hi]; rfl
    have e2 : nth ((List.range n).map (giveF Z n)) i = ((List.range n).map (giveF Z n))[i] := by unfold nth; rw [List.getD_eq_getElem?_getD, List.getElem?_eq_getElem hi2]; rfl
    rw [← e1, ← e2, h1 i (by omega), k3 i (by omega)]
  · rintro rfl
    exact firm_congr (fun i hi => (k3 i hi).symm) (trade_firm hW)
end Go.Proofs.YtgjegpponchdaaaDoor
