/- Changes behind each other and the best way. -/
import Derived.Test.YtakipaehoeapcaaWalkReduce
namespace Go.Proofs.Ytakipaehoeapcaa
set_option linter.unusedVariables false

theorem pad_along {Z : Nat → Nat → Int} {k : Int} (hk : Z k.toNat k.toNat = 12) : ∀ (m : Nat) (U : List Int), along Z (U ++ [k] ++ List.replicate m k) = along Z (U ++ [k]) * p12 m
  | 0, U => by simp [p12]
  | m + 1, U => by
    have h := pad_along hk m (U ++ [k])
    have e : U ++ [k] ++ List.replicate (m + 1) k = U ++ [k] ++ [k] ++ List.replicate m k := by simp [List.replicate_succ]
    rw [e, h, show U ++ [k] ++ [k] = U ++ [k, k] by simp, along_snoc, hk]
    show along Z (U ++ [k]) * 12 * p12 m = along Z (U ++ [k]) * (p12 m * 12)
    rw [Int.mul_assoc, Int.mul_comm 12]
theorem last_split {D : List Int} {k : Int} (h : D.getLast? = some k) : ∃ U, D = U ++ [k] := by
  rcases List.eq_nil_or_concat D with e | ⟨U, z, e⟩
  · subst e; simp at h
  · rw [List.concat_eq_append] at e
    subst e
    simp at h
    subst h
    exact ⟨U, rfl⟩
/-- A walk that ends before may stay. -/
theorem pad_walk {n : Nat} {Z : Nat → Nat → Int} (hZ : ∀ i k, i < n → k < n → 0 ≤ Z i k) {i k : Nat} (hk : k < n) (hd : Z k k = 12) {D : List Int} (h1 : D.head? = some (i : Int)) (h2 : D.getLast? = some (k : Int)) (hm : ∀ x, x ∈ D → 0 ≤ x ∧ x < n) {s : Nat} (hl : D.length ≤ s + 1) :
    p12 (s + 1 - D.length) * along Z D ≤ stepV Z n i s k := by
  obtain ⟨U, rfl⟩ := last_split h2
  have e := pad_along (Z := Z) (k := (k : Int)) hd (s + 1 - (U ++ [(k : Int)]).length) U
  rw [Int.mul_comm, ← e]
  refine walk_le hZ s k _ ⟨?_, ?_, ?_, fun x hx => ?_⟩
  · simp at hl ⊢; omega
  · cases U with
    | nil => simpa using h1
    | cons u U => simpa using h1
  · cases h : s + 1 - (U ++ [(k : Int)]).length with
    | zero => simp
    | succ m =>
      rw [List.replicate_succ', ← List.append_assoc]
      exact last_app (U ++ [(k : Int)] ++ List.replicate m (k : Int)) (k : Int) []
  · rw [List.mem_append] at hx
    rcases hx with hx | hx
    · exact hm x hx
    · have := List.eq_of_mem_replicate hx
      subst this
      omega
theorem nth_head {D : List Int} {i : Int} (h2 : 2 ≤ D.length) (h : nth D 0 = i) : D.head? = some i := by
  cases D with
  | nil => simp at h2
  | cons a t => have : a = i := h; subst this; rfl
theorem nth_last {D : List Int} {k : Int} (h2 : 2 ≤ D.length) (h : nth D (D.length - 1) = k) : D.getLast? = some k := by
  rw [List.getLast?_eq_getElem?, List.getElem?_eq_getElem (by omega)]
  unfold nth at h
  rw [List.getD_eq_getElem?_getD, List.getElem?_eq_getElem (show D.length - 1 < D.length by omega)] at h
  simpa using h
/-- The best way's value with its least one. -/
def baseB (n : Nat) (i k : Nat) : Int := if (i : Int) = (k : Int) then p12 (n - 1) else 0
theorem best_le_step {n : Nat} {L : Nat → Nat} {Z : Nat → Nat → Int} (hr : IsRates n L Z) {i k : Nat} (hi : i < n) (hk : k < n) : bestL n Z k (baseB n i k) (longer n (n - 1) [(i : Int)]) ≤ stepV Z n i (n - 1) k := by
  have hZ : ∀ i k, i < n → k < n → 0 ≤ Z i k := fun i k hi hk => by have := ((hr.2 i hi).2 k hk).1; omega
  have hd : Z k k = 12 := ((hr.2 k hk).2 k hk).2 rfl
  have hn := hr.1.1
  refine best_le _ _ ?_ fun D hD e => ?_
  · unfold baseB
    by_cases h : (i : Int) = (k : Int)
    · rw [if_pos h]
      have h' : i = k := by omega
      subst h'
      have := pad_walk hZ hk hd (D := [(i : Int)]) (s := n - 1) rfl rfl (fun x hx => by simp at hx; omega) (by simp)
      have e : n - 1 + 1 - [(i : Int)].length = n - 1 := by simp
      rw [e] at this
      simpa [along] using this
    · rw [if_neg h]
      have h0 := stepV_bound (T := Z) (n := n) (i := i) (fun x y hx hy => by have := ((hr.2 x hx).2 y hy).1; omega) (n - 1) k (by have := hr.1.2; omega) hk
      exact h0.1
  · have hw := (mem_ways hi).1 ⟨hD, e⟩
    have h2 := hw.2.1
    have hle := diff_le hw.1
    rw [wayV_along (by omega)]
    have := pad_walk hZ hk hd (nth_head h2 hw.2.2.1) (nth_last h2 hw.2.2.2) (diff_mem.1 hw.1).1 (s := n - 1) (by omega)
    have e : ((n : Int) - 1 - D.length + 1).toNat = n - 1 + 1 - D.length := by omega
    rw [e]
    exact this
theorem head_nth {D : List Int} {i : Int} (h : D.head? = some i) : nth D 0 = i := by
  cases D with
  | nil => simp at h
  | cons a t => simp at h; exact h
theorem last_nth {D : List Int} {k : Int} (h : D.getLast? = some k) : nth D (D.length - 1) = k := by
  obtain ⟨U, rfl⟩ := last_split h
  unfold nth
  rw [List.getD_eq_getElem?_getD]
  simp
theorem step_le_best {n : Nat} {L : Nat → Nat} {Z : Nat → Nat → Int} (hr : IsRates n L Z) (h0 : gaining n Z = []) {i k : Nat} (hi : i < n) (hk : k < n) : stepV Z n i (n - 1) k ≤ bestL n Z k (baseB n i k) (longer n (n - 1) [(i : Int)]) := by
  have hZ : ∀ i k, i < n → k < n → 0 ≤ Z i k := fun i k hi hk => by have := ((hr.2 i hi).2 k hk).1; omega
  have hn := hr.1.1
  have hb : 0 ≤ baseB n i k := by
    unfold baseB
    by_cases h : (i : Int) = (k : Int)
    · rw [if_pos h]; exact Int.le_of_lt (p12_pos _)
    · rw [if_neg h]; exact Int.le_refl _
  by_cases hs : 0 < stepV Z n i (n - 1) k
  · obtain ⟨W, hW, eW⟩ := walk_some hZ hi (n - 1) k hk hs
    obtain ⟨P, hP, h1, h2, h3, h4, h5⟩ := walk_way hZ (no_gain (fun i hi => ((hr.2 i hi).2 i hi).2 rfl) h0) W.length W (Nat.le_refl _) hW.first hW.last hW.mem
    rw [eW] at h5
    have hWl : W.length = n := by have := hW.len; omega
    rw [hWl] at h5 h4
    have e2 : p12 n = p12 (n - P.length) * p12 P.length := by rw [← p12_add, Nat.sub_add_cancel h4]
    rw [e2, ← Int.mul_assoc] at h5
    have h6 := Int.le_of_mul_le_mul_right h5 (p12_pos P.length)
    refine Int.le_trans h6 ?_
    by_cases hl : 2 ≤ P.length
    · have hw : WayTo n i k P := ⟨diff_mem.2 ⟨h3, hP⟩, hl, head_nth h1, last_nth h2⟩
      obtain ⟨m, e⟩ := (mem_ways hi).2 hw
      have := best_ge (n := n) (Z := Z) e _ (baseB n i k) m
      rw [wayV_along (by omega), show ((n : Int) - 1 - P.length + 1).toNat = n - P.length by omega, Int.mul_comm] at this
      exact this
    · match P, h1, h2, hl with
      | [], h1, _, _ => simp at h1
      | [a], h1, h2, _ =>
        simp at h1 h2
        have e : (i : Int) = (k : Int) := by omega
        refine Int.le_trans ?_ (best_base _ _)
        unfold baseB
        rw [if_pos e]
        show 1 * p12 (n - 1) ≤ _
        rw [Int.one_mul]
        exact Int.le_refl _
      | a :: b :: t, _, _, hl => exact absurd (by simp) hl
  · exact Int.le_trans (Int.not_lt.1 hs) (Int.le_trans hb (best_base _ _))
/-- The best way is worth at least the straight one. -/
theorem best_straight {n : Nat} {Z : Nat → Nat → Int} {i k : Nat} (hn : 2 ≤ n) (hi : i < n) (hk : k < n) (hik : i ≠ k) {b : Int} : Z i k * p12 (n - 2) ≤ bestL n Z k b (longer n (n - 1) [(i : Int)]) := by
  have hw : WayTo n i k [(i : Int), (k : Int)] := ⟨diff_mem.2 ⟨fun x hx => by simp at hx; rcases hx with h | h <;> subst h <;> omega, by simp; omega⟩, by simp, rfl, rfl⟩
  obtain ⟨m, e⟩ := (mem_ways hi).2 hw
  have := best_ge (n := n) (Z := Z) e _ b m
  rw [wayV_along (by simp)] at this
  have e2 : ((n : Int) - 1 - ([(i : Int), (k : Int)].length : Nat) + 1).toNat = n - 2 := by simp; omega
  rw [e2, Int.mul_comm] at this
  simpa [along] using this
end Go.Proofs.Ytakipaehoeapcaa
