/- The program's rounds are the model's, in the same order. -/
import Derived.Test.YtakipaehoeapcaaL1Rounds
import Derived.Test.YtakipaehoeapcaaLaterModel
import Derived.Test.YtakipaehoeapcaaGaining
namespace Go.Proofs.Ytakipaehoeapcaa
set_option linter.unusedVariables false

theorem flatMap_same {α β : Type} {f g : α → List β} : ∀ {l : List α}, (∀ x, x ∈ l → f x = g x) → l.flatMap f = l.flatMap g
  | [], _ => rfl
  | x :: l, h => by
    rw [List.flatMap_cons, List.flatMap_cons, h x (by simp), flatMap_same (fun y hy => h y (by simp [hy]))]
theorem longer_behind {n f : Nat} {B D : List Int} (h : D ∈ longer n f B) : B <+: D := by
  rw [← later_zero] at h
  exact later_behind f B D h
theorem nth_front {B D : List Int} (h : B <+: D) {i : Nat} (hi : i < B.length) : nth D i = nth B i := by
  obtain ⟨z, rfl⟩ := h
  unfold nth
  rw [List.getD_eq_getElem?_getD, List.getD_eq_getElem?_getD, List.getElem?_append_left hi]

/-- Behind a front that is greater than its first one, the rounds are those that go on with greater ones. -/
theorem later_rings {n a : Nat} : ∀ (f : Nat) (B : List Int), Diff n B → 1 ≤ B.length → nth B 0 = a → (∀ i, 1 ≤ i → i < B.length → (a : Int) < nth B i) →
    (longer n f B).filter (fun D => tt (IsRing n D.length (nth D))) = later n (a + 1) f B := by
  intro f
  induction f with
  | zero =>
    intro B hd h1 ha hgt
    unfold longer later
    by_cases e : 2 ≤ B.length
    · rw [if_pos e]
      have : IsRing n B.length (nth B) := ⟨⟨hd, e, diff_le hd⟩, fun i h1 h2 => by rw [ha]; exact hgt i h1 h2⟩
      simp [tt_of this]
    · rw [if_neg e]; rfl
  | succ f ih =>
    intro B hd h1 ha hgt
    unfold longer later
    rw [List.filter_append, List.filter_flatMap]
    congr 1
    · by_cases e : 2 ≤ B.length
      · rw [if_pos e]
        have : IsRing n B.length (nth B) := ⟨⟨hd, e, diff_le hd⟩, fun i h1 h2 => by rw [ha]; exact hgt i h1 h2⟩
        simp [tt_of this]
      · rw [if_neg e]; rfl
    · refine flatMap_same fun x hx => ?_
      rw [List.mem_range] at hx
      by_cases hin : (x : Int) ∈ B
      · rw [if_pos hin, if_neg (fun h => h.2 hin)]; rfl
      · rw [if_neg hin]
        by_cases hle : a + 1 ≤ x
        · rw [if_pos ⟨hle, hin⟩]
          refine ih (B ++ [(x : Int)]) ((hd.snoc_iff hx).2 hin) (by simp) (by rw [nth_snoc_lt (by omega), ha]) (fun i h1 h2 => ?_)
          rw [List.length_append] at h2
          simp only [List.length_cons, List.length_nil] at h2
          by_cases e : i < B.length
          · rw [nth_snoc_lt e]; exact hgt i h1 e
          · have : i = B.length := by omega
            rw [this, nth_snoc]; omega
        · rw [if_neg (fun h => hle h.1), List.filter_eq_nil_iff]
          intro D hD
          have hp := longer_behind hD
          have hne : ¬ IsRing n D.length (nth D) := fun hr => by
            have hl := hp.length_le
            rw [List.length_append] at hl
            simp only [List.length_cons, List.length_nil] at hl
            have h3 := hr.2 B.length h1 (by omega)
            rw [nth_front hp (show 0 < (B ++ [(x : Int)]).length by simp), nth_front hp (show B.length < (B ++ [(x : Int)]).length by simp), nth_snoc, nth_snoc_lt (by omega), ha] at h3
            omega
          rw [tt_no hne]; simp
theorem rounds_rings {n : Nat} (hn : 1 ≤ n) : (longer n n []).filter (fun D => tt (IsRing n D.length (nth D))) = roundsTo n n := by
  obtain ⟨f, rfl⟩ : ∃ f, n = f + 1 := ⟨n - 1, by omega⟩
  unfold longer roundsTo
  rw [if_neg (by simp), List.nil_append, List.filter_flatMap]
  refine flatMap_same fun x hx => ?_
  rw [List.mem_range] at hx
  rw [if_neg (by simp), List.nil_append]
  exact later_rings f [(x : Int)] (diff_one hx) (by simp) rfl (fun i h1 h2 => by simp at h2; omega)

theorem tt_and {p q : Prop} : tt (p ∧ q) = (tt p && tt q) := by
  by_cases h1 : p
  · by_cases h2 : q
    · rw [tt_of h1, tt_of h2, tt_of ⟨h1, h2⟩]; rfl
    · rw [tt_no h2, tt_no (fun h => h2 h.2)]; simp
  · rw [tt_no h1, tt_no (fun h => h1 h.1)]; rfl
theorem gainL_gaining {n : Nat} {L : Nat → Nat} {Z : Nat → Nat → Int} (h : IsRates n L Z) : gainL n (rateF n L Z) (roundsTo n n) = gaining n Z := by
  have hn : 1 ≤ n := by have := h.1.1; omega
  unfold gainL gaining
  rw [← rounds_rings hn, List.filter_filter]
  refine List.filter_congr fun D hD => ?_
  by_cases hr : IsRing n D.length (nth D)
  · have e : roundV n (atF (rateF n L Z)) D.length (nth D) = roundV n Z D.length (nth D) := valF_congr _ (fun j hj => by
      have h1 := closeF_in hr.1 j
      have h2 := closeF_in hr.1 (j + 1)
      exact atF_rate h (by omega) (by omega))
    rw [e, show Gains n Z D = (IsRing n D.length (nth D) ∧ p12 n < roundV n Z D.length (nth D)) from rfl, tt_and, Bool.and_comm]
  · rw [tt_no hr, tt_no (show ¬ Gains n Z D from fun h => hr h.1)]; simp
end Go.Proofs.Ytakipaehoeapcaa
