/- The passes of the model's l4Long, in plain mathematics. -/
import Derived.Test.YtipfjblnanafnaaLedModel
namespace Go.Proofs.Ytipfjblnanafnaa
set_option linter.unusedVariables false
set_option linter.unusedSimpArgs false
open Go.RowKit

/-- What is at a table of a call's own is kept where all blocks but one are as they were. -/
theorem table_kept {w w' : World} {lo hi g n : Nat} {a : Option Addr} {A : Nat → Option Addr} {L C : Nat → Nat} {X : Nat → Nat → Int} (h : OwnT w lo hi a n A L C X) (hg : g < lo) (hk : ∀ k, k < w.heap.size → k ≠ g → w'.heap[k]? = w.heap[k]?) : Tab w' a n A L C X := by
  intro r hr
  rcases h with h0 | ⟨b, o, K, rfl, h1, h2, h3, h4, _⟩
  · omega
  · have hb : b < w.heap.size := World.block_lt_of_cell? _ _ (h3 r hr)
    obtain ⟨k1, k2, k3, k4⟩ := h4 r hr
    refine ⟨b, o, rfl, (World.cell?_of_block (hk b hb (by omega))).trans (h3 r hr), fun k hkl => ?_⟩
    rcases k4 with h0 | ⟨o', e, hc⟩
    · omega
    · have hc1 := (hc k hkl).1
      have hb2 : K r < w.heap.size := World.block_lt_of_cell? _ _ hc1
      exact ⟨K r, o', e, (World.cell?_of_block (hk (K r) hb2 (by omega))).trans hc1⟩
/-- What is left to grow. -/
def potN (X : Nat → Int) : Nat → Nat
  | 0 => 0
  | k + 1 => potN X k + (12 - X k).toNat
theorem potN_congr {X Y : Nat → Int} : ∀ {n : Nat}, (∀ k, k < n → X k = Y k) → potN X n = potN Y n
  | 0, _ => rfl
  | n + 1, h => by
    show potN X n + _ = potN Y n + _
    rw [potN_congr (fun k hk => h k (by omega)), h n (by omega)]
theorem potN_le {X Y : Nat → Int} : ∀ {n : Nat}, (∀ k, k < n → X k ≤ Y k) → potN Y n ≤ potN X n
  | 0, _ => Nat.le_refl _
  | n + 1, h => by
    have h1 := potN_le (n := n) (fun k hk => h k (by omega))
    have h2 := h n (by omega)
    show potN Y n + _ ≤ potN X n + _
    omega
theorem potN_lt {X Y : Nat → Int} {at_ : Nat} : ∀ {n : Nat}, at_ < n → (∀ k, k < n → X k ≤ Y k) → X at_ < Y at_ → Y at_ ≤ 12 → potN Y n < potN X n
  | 0, h, _, _, _ => by omega
  | n + 1, h, hle, hlt, h12 => by
    show potN Y n + _ < potN X n + _
    have h2 := hle n (by omega)
    by_cases e : at_ = n
    · subst e
      have h1 := potN_le (n := at_) (fun k hk => hle k (by omega))
      omega
    · have h1 := potN_lt (n := n) (by omega) (fun k hk => hle k (by omega)) hlt h12
      omega
def cellI (w : World) (g i : Nat) : Int := match w.cell? ⟨g, i, none⟩ with | some (.int _ v) => v | _ => 0
theorem cellI_own {w : World} {g n : Nat} {X : Nat → Int} (h : OwnR w g (some ⟨g, 0, none⟩) n X) {i : Nat} (hi : i < n) : cellI w g i = X i := by
  unfold cellI; rw [(h.at hi).1]
def growB (v : Value) : Nat := match v with | .bool true => 1 | _ => 0
section
variable {n : Nat} {L : Nat → Nat} {Z : Nat → Nat → Int}
theorem sound_le (hW : IsWishes n L Z) {X : Nat → Int} (h : Sound n Z X) {i : Nat} (hi : i < (givs n n []).length) : -1 ≤ X i ∧ X i ≤ 10 := by
  rcases h i hi with e | ⟨t, e, ht⟩
  · omega
  · have := led_ten hW ht; omega
/-- One more is told. -/
theorem sound_set {X : Nat → Int} (h : Sound n Z X) {i j : Nat} (hi : i < (givs n n []).length) (h0 : 0 ≤ X i) {p : Nat × Nat} (hp : p ∈ mayL n Z (nth ((givs n n []).getD i []))) (hj : (givs n n []).getD j [] = swapL n ((givs n n []).getD i []) p.1 p.2) : Sound n Z (fun k => if k = j then X i + 1 else X k) := by
  intro k hk
  by_cases e : k = j
  · rcases h i hi with e1 | ⟨t, e1, ht⟩
    · omega
    · obtain ⟨g1, g2, g3⟩ := mem_mayL.1 hp
      refine .inr ⟨t + 1, ?_, ?_⟩
      · show (if k = j then X i + 1 else X k) = _
        rw [if_pos e, e1]; rfl
      · rw [e, hj]; exact Led.step ht g1 g2 g3
  · rcases h k hk with e1 | ⟨t, e1, ht⟩
    · exact .inl (by show (if k = j then X i + 1 else X k) = _; rw [if_neg e]; exact e1)
    · exact .inr ⟨t, by show (if k = j then X i + 1 else X k) = _; rw [if_neg e]; exact e1, ht⟩
/-- What is known of a pass that began with X0, behind i givings and k of the swaps of the next one. -/
def PassI (n : Nat) (Z : Nat → Nat → Int) (X0 X : Nat → Int) (o : Nat) (gb : Bool) (i k : Nat) : Prop :=
  Sound n Z X ∧ 0 ≤ X o ∧ (∀ j, j < (givs n n []).length → X0 j ≤ X j) ∧
    (gb = false → (∀ j, j < (givs n n []).length → X j = X0 j) ∧ (∀ i', i' < i → ∀ p, p ∈ mayL n Z (nth ((givs n n []).getD i' [])) → ClosedAt n Z X i' p) ∧ ∀ p, p ∈ (mayL n Z (nth ((givs n n []).getD i []))).take k → ClosedAt n Z X i p) ∧
    (gb = true → potN X (givs n n []).length < potN X0 (givs n n []).length)
theorem pass_next {X0 X : Nat → Int} {o i : Nat} {gb : Bool} (h : PassI n Z X0 X o gb i (mayL n Z (nth ((givs n n []).getD i []))).length) : PassI n Z X0 X o gb (i + 1) 0 := by
  obtain ⟨h1, h2, h3, h4, h5⟩ := h
  refine ⟨h1, h2, h3, fun hg => ?_, h5⟩
  obtain ⟨k1, k2, k3⟩ := h4 hg
  refine ⟨k1, fun i' hi' p hp => ?_, fun p hp => by simp at hp⟩
  by_cases e : i' = i
  · subst e; exact k3 p (by rw [List.take_length]; exact hp)
  · exact k2 i' (by omega) p hp
theorem pass_skip {X0 X : Nat → Int} {o i : Nat} {gb : Bool} (h : PassI n Z X0 X o gb i 0) (hx : X i < 0) : PassI n Z X0 X o gb (i + 1) 0 := by
  obtain ⟨h1, h2, h3, h4, h5⟩ := h
  refine ⟨h1, h2, h3, fun hg => ?_, h5⟩
  obtain ⟨k1, k2, k3⟩ := h4 hg
  refine ⟨k1, fun i' hi' p hp => ?_, fun p hp => by simp at hp⟩
  by_cases e : i' = i
  · subst e; exact fun h0 => by omega
  · exact k2 i' (by omega) p hp
theorem pass_stay {X0 X : Nat → Int} {o i k j : Nat} {gb : Bool} (h : PassI n Z X0 X o gb i k) (hk : k < (mayL n Z (nth ((givs n n []).getD i []))).length) (hj : j < (givs n n []).length) (hjp : (givs n n []).getD j [] = swapL n ((givs n n []).getD i []) ((mayL n Z (nth ((givs n n []).getD i [])))[k]).1 ((mayL n Z (nth ((givs n n []).getD i [])))[k]).2) (hle : X i + 1 ≤ X j) : PassI n Z X0 X o gb i (k + 1) := by
  obtain ⟨h1, h2, h3, h4, h5⟩ := h
  refine ⟨h1, h2, h3, fun hg => ?_, h5⟩
  obtain ⟨k1, k2, k3⟩ := h4 hg
  refine ⟨k1, k2, fun p hp => ?_⟩
  rw [List.take_succ_eq_append_getElem hk] at hp
  rcases List.mem_append.1 hp with hp | hp
  · exact k3 p hp
  · rw [List.mem_singleton.1 hp]
    intro _ j' hj' e
    have := giv_same hj' hj (e.trans hjp.symm)
    rw [this]; exact hle
theorem pass_grow (hW : IsWishes n L Z) {X0 X : Nat → Int} {o i k j : Nat} {gb : Bool} (h : PassI n Z X0 X o gb i k) (hi : i < (givs n n []).length) (h0 : 0 ≤ X i) (hk : k < (mayL n Z (nth ((givs n n []).getD i []))).length) (hj : j < (givs n n []).length) (hjp : (givs n n []).getD j [] = swapL n ((givs n n []).getD i []) ((mayL n Z (nth ((givs n n []).getD i [])))[k]).1 ((mayL n Z (nth ((givs n n []).getD i [])))[k]).2) (hlt : X j < X i + 1) :
    PassI n Z X0 (fun m => if m = j then X i + 1 else X m) o true i (k + 1) := by
  obtain ⟨h1, h2, h3, h4, h5⟩ := h
  have hle : ∀ m, m < (givs n n []).length → X m ≤ (fun m => if m = j then X i + 1 else X m) m := fun m hm => by
    dsimp only
    by_cases e : m = j
    · rw [if_pos e, e]; omega
    · rw [if_neg e]; omega
  have h10 := (sound_le hW h1 hi).2
  have hp := potN_lt (Y := fun m => if m = j then X i + 1 else X m) hj hle (by show X j < (if j = j then X i + 1 else X j); rw [if_pos rfl]; exact hlt) (by show (if j = j then X i + 1 else X j) ≤ 12; rw [if_pos rfl]; omega)
  refine ⟨sound_set h1 hi h0 (List.getElem_mem hk) hjp, ?_, fun m hm => Int.le_trans (h3 m hm) (hle m hm), fun hg => absurd hg (by decide), fun _ => ?_⟩
  · show 0 ≤ (if o = j then X i + 1 else X o)
    by_cases e : o = j
    · rw [if_pos e]; omega
    · rw [if_neg e]; exact h2
  · cases gb with
    | true => exact Nat.lt_trans hp (h5 rfl)
    | false => rw [← potN_congr (h4 rfl).1]; exact hp
end
end Go.Proofs.Ytipfjblnanafnaa
