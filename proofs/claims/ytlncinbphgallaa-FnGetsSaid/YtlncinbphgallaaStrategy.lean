/- Nobody gets a better house by telling another list of wishes, in plain mathematics. -/
import Derived.Test.YtlncinbphgallaaTradeGiving
import Derived.Test.YtlncinbphgallaaIdxModel
namespace Go.Proofs.Ytlncinbphgallaa
set_option linter.unusedVariables false
set_option linter.unusedSimpArgs false
open Go.RowKit

section
variable {n : Nat} {L M : Nat → Nat} {Z Y : Nat → Nat → Int} {p : Nat}
theorem ptS_row {S : Nat → Bool} {i : Nat} (h : Y i = Z i) : ptS Y n S i = ptS Z n S i := by unfold ptS; rw [h]
theorem it_same {S : Nat → Bool} (hY : ∀ i, i ≠ p → Y i = Z i) {i : Nat} : ∀ k, (∀ j, j < k → it (ptS Z n S) j i ≠ p) → it (ptS Y n S) k i = it (ptS Z n S) k i
  | 0, _ => rfl
  | k + 1, h => by
    show ptS Y n S (it (ptS Y n S) k i) = ptS Z n S (it (ptS Z n S) k i)
    rw [it_same hY k (fun j hj => h j (by omega)), ptS_row (hY _ (h k (by omega)))]
theorem circ_same1 {S : Nat → Bool} (hY : ∀ i, i ≠ p → Y i = Z i) (hp : S p = true) (hno : circB Z n S p = false) {i : Nat} (h : circB Z n S i = true) : circB Y n S i = true := by
  have hc := circB_circ h
  have hav : ∀ j, it (ptS Z n S) j i ≠ p := fun j e => by
    have := circB_of (Z := Z) (n := n) hp (by have := hc.it j; rwa [e] at this)
    rw [hno] at this; cases this
  obtain ⟨k, h1, h2⟩ := hc
  exact circB_of (circB_in h) ⟨k, h1, by rw [it_same hY k (fun j _ => hav j)]; exact h2⟩
theorem circ_same {S : Nat → Bool} (hY : ∀ i, i ≠ p → Y i = Z i) (hp : S p = true) (h1 : circB Z n S p = false) (h2 : circB Y n S p = false) (i : Nat) : circB Z n S i = circB Y n S i := by
  rw [Bool.eq_iff_iff]
  exact ⟨circ_same1 hY hp h1, circ_same1 (fun i hi => (hY i hi).symm) hp h2⟩
theorem stays_circ {t : Nat} (h : tS Z n (t + 1) p = true) : circB Z n (tS Z n t) p = false := by
  unfold tS at h
  simp only [Bool.and_eq_true, Bool.not_eq_true'] at h
  exact h.2
/-- As long as p is there, as many are left, whatever p tells. -/
theorem same_left (hY : ∀ i, i ≠ p → Y i = Z i) : ∀ t, tS Z n t p = true → tS Y n t p = true → tS Z n t = tS Y n t
  | 0, _, _ => rfl
  | t + 1, h1, h2 => by
    have ih := same_left hY t (tS_down h1) (tS_down h2)
    funext y
    have hc := circ_same (n := n) (S := tS Z n t) hY (tS_down h1) (stays_circ h1) (by rw [ih]; exact stays_circ h2) y
    show (tS Z n t y && !circB Z n (tS Z n t) y) = (tS Y n t y && !circB Y n (tS Y n t) y)
    rw [hc, ih]
/-- The first one of a list that is in a set stands ahead of the others. -/
theorem best_in (hW : IsWishes n L Z) {S : Nat → Bool} (hS : Ppl n S) (hp : p < n) {h : Nat} (hh : S h = true) : idxF (Z p) (ptS Z n S p : Nat) n ≤ idxF (Z p) (h : Nat) n := by
  obtain ⟨j, hj, h1, h2, h3⟩ := ptS_spec hW hS hp hh
  have hjr : ((Z p j).toNat : Int) = Z p j := by have := (hW.2 p hp).2.1 j hj; omega
  rw [h3, hjr]
  have e1 : idxF (Z p) (Z p j) n = j := idxF_some (fun k hk e => by
    have := h2 k hk
    rw [e, h1] at this; cases this) rfl hj
  obtain ⟨k, hk, e⟩ := (hW.2 p hp).2.all (hS h hh)
  obtain ⟨k', hk1, hk2, hk3⟩ := first_place (P := fun k => Z p k = (h : Nat)) hk e
  have e2 : idxF (Z p) (h : Nat) n = k' := idxF_some hk3 hk2 (by omega)
  rw [e1, e2]
  by_cases hlt : k' < j
  · have := h2 k' hlt
    rw [show Z p k' = (h : Nat) from hk2, Int.toNat_natCast, hh] at this; cases this
  · omega
/-- Of fewer, the first one is the same if it is among them. -/
theorem ptS_sub (hW : IsWishes n L Z) {S T : Nat → Bool} (hS : Ppl n S) (hTS : ∀ y, T y = true → S y = true) {i : Nat} (hi : i < n) (hT : T (ptS Z n S i) = true) : ptS Z n T i = ptS Z n S i := by
  obtain ⟨j, hj, h1, h2, h3⟩ := ptS_spec hW hS hi (hTS _ hT)
  rw [h3] at hT ⊢
  exact ptN_first (fun k hk => by
    cases e : T (Z i k).toNat
    · rfl
    · have := hTS _ e; rw [h2 k hk] at this; cases this) hT hj

/-- Nobody gets a house that is liked better by telling another list. -/
theorem no_better (hW : IsWishes n L Z) (hV : IsWishes n M Y) (hY : ∀ i, i ≠ p → Y i = Z i) (hp : p < n) : idxF (Z p) (giveF Z n p) n ≤ idxF (Z p) (giveF Y n p) n := by
  obtain ⟨s, hs, hg, _⟩ := give_at hW hp
  obtain ⟨s', hs', hg', hn'⟩ := give_at hV hp
  rw [hg, hg']
  by_cases hlt : s ≤ s'
  · have h1 := circB_in hs
    have h2 := tS_mono hlt (circB_in hs')
    have e := same_left (n := n) hY s h1 h2
    refine best_in hW (tS_ppl Z n s) hp ?_
    rw [e]
    exact tS_mono hlt (circB_in hn')
  · have h1 := tS_mono (show s' ≤ s by omega) (circB_in hs)
    have e := same_left (n := n) hY s' h1 (circB_in hs')
    obtain ⟨k, hk1, hk2⟩ := circB_circ hs'
    have hSp := tS_ppl Y n s'
    have hin : ∀ j, tS Y n s' (it (ptS Y n (tS Y n s')) j p) = true := fun j => it_in (P := fun x => tS Y n s' x = true) (fun i hi => ptS_in hV hSp hi) (circB_in hs') j
    have key : ∀ t, s' + t ≤ s → ∀ j, j ≤ k → tS Z n (s' + t) (it (ptS Y n (tS Y n s')) j p) = true := by
      intro t
      induction t with
      | zero => intro _ j _; show tS Z n s' _ = true; rw [e]; exact hin j
      | succ t ih =>
        intro ht j hj
        have ih := ih (by omega)
        have hpt : tS Z n (s' + t) p = true := tS_mono (show s' + t ≤ s by omega) (circB_in hs)
        have hnc : circB Z n (tS Z n (s' + t)) p = false := by
          cases ec : circB Z n (tS Z n (s' + t)) p
          · rfl
          · have := circ_once ec hs; omega
        have hstep : ∀ m j, j + m = k → circB Z n (tS Z n (s' + t)) (it (ptS Y n (tS Y n s')) j p) = true → False := by
          intro m
          induction m with
          | zero =>
            intro j hjm hc
            obtain rfl : j = k := by omega
            rw [hk2, hnc] at hc; cases hc
          | succ m ihm =>
            intro j hjm hc
            by_cases ep : it (ptS Y n (tS Y n s')) j p = p
            · rw [ep, hnc] at hc; cases hc
            · refine ihm (j + 1) (by omega) ?_
              have hnext : it (ptS Y n (tS Y n s')) (j + 1) p = ptS Z n (tS Z n (s' + t)) (it (ptS Y n (tS Y n s')) j p) := by
                show ptS Y n (tS Y n s') (it (ptS Y n (tS Y n s')) j p) = _
                rw [ptS_row (hY _ ep)]
                refine (ptS_sub hW (S := tS Y n s') hSp (fun y hy => by rw [← e]; exact tS_mono (Nat.le_add_right _ _) hy) (hSp _ (hin j)) ?_).symm
                rw [← ptS_row (hY _ ep)]
                exact ih (j + 1) (by omega)
              rw [hnext]
              exact circB_of (ptS_in hW (tS_ppl Z n _) (circB_in hc)) (circB_circ hc).step
        show (tS Z n (s' + t) _ && !circB Z n (tS Z n (s' + t)) _) = true
        rw [ih j hj]
        cases ec : circB Z n (tS Z n (s' + t)) (it (ptS Y n (tS Y n s')) j p)
        · rfl
        · exact (hstep (k - j) j (by omega) ec).elim
    have h2 := key (s - s') (by omega) 1 hk1
    rw [show s' + (s - s') = s by omega] at h2
    exact best_in hW (tS_ppl Z n s) hp h2
end
end Go.Proofs.Ytlncinbphgallaa
