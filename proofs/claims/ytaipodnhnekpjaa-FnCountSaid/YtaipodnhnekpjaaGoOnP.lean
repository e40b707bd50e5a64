/- The program's goOn: the next list of item prices. -/
import Derived.Test.YtaipodnhnekpjaaFairFn
import Derived.Test.YtaipodnhnekpjaaLists
import Derived.Test.YtaipodnhnekpjaaProg
namespace Go.Proofs.Ytaipodnhnekpjaa
set_option linter.unusedVariables false
set_option linter.unusedSimpArgs false
open Go.RowKit

theorem dig_next {m t k : Nat} (h1 : 1 ≤ m) (h2 : m ≤ 2) (ht : t < 21 ^ m) (hk : k < m) (hlt : dig m t k < 20) (hall : ∀ j, k < j → j < m → dig m t j = 20) : t + 1 < 21 ^ m ∧ ∀ j, j < m → dig m (t + 1) j = if j = k then dig m t k + 1 else if k < j then 0 else dig m t j := by
  by_cases e : m = 1
  · subst e
    obtain rfl : k = 0 := by omega
    unfold dig at hlt ⊢
    simp at hlt ht
    refine ⟨by omega, fun j hj => ?_⟩
    obtain rfl : j = 0 := by omega
    simp
    omega
  · obtain rfl : m = 2 := by omega
    simp at ht
    have hk2 : k = 0 ∨ k = 1 := by omega
    rcases hk2 with rfl | rfl
    · have h3 := hall 1 (by omega) (by omega)
      unfold dig at hlt h3 ⊢
      simp at hlt h3
      refine ⟨by omega, fun j hj => ?_⟩
      have hj2 : j = 0 ∨ j = 1 := by omega
      rcases hj2 with rfl | rfl <;> simp <;> omega
    · unfold dig at hlt ⊢
      simp at hlt
      refine ⟨by omega, fun j hj => ?_⟩
      have hj2 : j = 0 ∨ j = 1 := by omega
      rcases hj2 with rfl | rfl <;> simp <;> omega
theorem dig_end {m t : Nat} (h1 : 1 ≤ m) (h2 : m ≤ 2) (ht : t < 21 ^ m) (hall : ∀ j, j < m → dig m t j = 20) : t + 1 = 21 ^ m := by
  by_cases e : m = 1
  · subst e
    have h3 := hall 0 (by omega)
    unfold dig at h3
    simp at h3 ht
    omega
  · obtain rfl : m = 2 := by omega
    have h3 := hall 0 (by omega)
    have h4 := hall 1 (by omega)
    unfold dig at h3 h4
    simp at h3 h4 ht
    omega
theorem dig_zero {m k : Nat} : dig m 0 k = 0 := by unfold dig; simp

set_option maxRecDepth 100000 in
set_option maxHeartbeats 1600000 in
theorem goOnP_any (m cap g t : Nat) (w : World) (h1 : 1 ≤ m) (h2 : m ≤ 2) (ht : t < 21 ^ m) (hown : OwnR w g (some ⟨g, 0, none⟩) m (dig m t)) :
    Calls Try.prog 73 #[.slice (some ⟨g, 0, none⟩) m cap] w fun e w' => e = .returned (.bool (decide (t + 1 < 21 ^ m))) ∧ (∃ V, OwnR w' g (some ⟨g, 0, none⟩) m V ∧ (t + 1 < 21 ^ m → ∀ j, j < m → V j = dig m (t + 1) j)) ∧ Below g w w' := by
  have O0 := Lib.hid hown
  have hw0 : IntKind.i64.wrap ((m : Int) - 1) = (m : Int) - 1 := by rw [IntKind.wrap_i64]; omega
  clear hown
  go_enter Try.func73, Try.ntmps73
  go_wp2
  go_loopw [3] (fun x wr => ∃ (k : Nat), k ≤ m ∧ x = .int .i64 ((k : Int) - 1) ∧ OwnR wr g (some ⟨g, 0, none⟩) m (fun j => if k ≤ j then 0 else dig m t j) ∧ (∀ j, k ≤ j → j < m → dig m t j = 20) ∧ Below g w wr) (fun x _ => (intOf x + 1).toNat)
  case atStart => exact ⟨m, Nat.le_refl _, rfl, O0.out.congr fun j hj => (if_neg (by omega)).symm, fun j h1 h2 => by omega, Below.refl _ _⟩
  case round =>
    obtain ⟨k, hk, rfl, hO, hall, hB⟩ := hrel
    have HO := Lib.hid hO
    have HA := Lib.hid hall
    have HB := Lib.hid hB
    clear hO hall hB O0
    by_cases hlt : 1 ≤ k
    · obtain ⟨k, rfl⟩ : ∃ k', k = k' + 1 := ⟨k - 1, by omega⟩
      rw [show ((k + 1 : Nat) : Int) - 1 = (k : Int) by omega]
      have hkm : k < m := by omega
      obtain ⟨hck, hfk⟩ := HO.out.at hkm
      rw [if_neg (by omega)] at hck
      have hr := dig_range m t k
      obtain ⟨x, hx⟩ : ∃ x, x = dig m t k := ⟨_, rfl⟩
      rw [← hx] at hck hr
      have QX := Lib.hid hx
      have i1 : (0 : Int) ≤ (k : Int) := by omega
      have i2 : (k : Int) < (m : Int) := by omega
      have d0 : decide ((k : Int) ≥ 0) = true := by simp
      have hw1 : IntKind.i64.wrap (x + 1) = x + 1 := by rw [IntKind.wrap_i64]; omega
      have hw2 : IntKind.i64.wrap ((k : Int) - 1) = (k : Int) - 1 := by rw [IntKind.wrap_i64]; omega
      clear hx
      by_cases h20 : x < 20
      · have d1 : decide (x < 20) = true := by simpa using h20
        have HN := Lib.hid (dig_next h1 h2 ht hkm (by rw [← QX.out]; exact h20) (fun j hj1 hj2 => HA.out j (by omega) hj2))
        go_wp2
        go_ret
        refine ⟨by rw [decide_eq_true HN.out.1]; rfl, ⟨_, HO.out.set hkm (x + 1), fun _ j hj => ?_⟩, HB.out.setCell (Nat.le_refl _) _⟩
        rw [HN.out.2 j hj]
        by_cases e : j = k
        · rw [if_pos e, if_pos e, QX.out]
        · rw [if_neg e, if_neg e]
          by_cases e2 : k + 1 ≤ j
          · rw [if_pos e2, if_pos (by omega)]
          · rw [if_neg e2, if_neg (by omega)]
      · have d1 : decide (x < 20) = false := by simpa using h20
        have h20' : x = 20 := by omega
        go_wp2
        go_roundw
        case rel =>
          refine ⟨k, by omega, by go_num, (HO.out.set hkm 0).congr fun j hj => ?_, fun j hj1 hj2 => ?_, HB.out.setCell (Nat.le_refl _) _⟩
          · by_cases e : j = k
            · rw [if_pos e, if_pos (by omega)]
            · rw [if_neg e]
              by_cases e2 : k + 1 ≤ j
              · rw [if_pos e2, if_pos (by omega)]
              · rw [if_neg e2, if_neg (by omega)]
          · by_cases e : j = k
            · rw [e, ← QX.out]; exact h20'
            · exact HA.out j (by omega) hj2
        case measure => simp [intOf]
    · obtain rfl : k = 0 := by omega
      have HE := Lib.hid (dig_end h1 h2 ht (fun j hj => HA.out j (Nat.zero_le _) hj))
      go_wp2
      go_ret
      exact ⟨by rw [decide_eq_false (by have := HE.out; omega)]; rfl, ⟨_, HO.out, fun h => by have := HE.out; omega⟩, HB.out⟩
end Go.Proofs.Ytaipodnhnekpjaa
