/- The library's slices.Index at integers. -/
import Derived.Test.YtmjbocgoinfamaaMem
import Derived.Test.YtmjbocgoinfamaaProg
namespace Go.Proofs.Ytmjbocgoinfamaa
set_option linter.unusedVariables false
open Go.RowKit

/-- Where x first stands among the first n; -1 if nowhere. -/
noncomputable def idxF (X : Nat → Int) (x : Int) : Nat → Int
  | 0 => -1
  | k + 1 => if idxF X x k = -1 then (if X k = x then (k : Int) else -1) else idxF X x k
theorem idxF_none {X : Nat → Int} {x : Int} {n : Nat} (h : ∀ k, k < n → X k ≠ x) : idxF X x n = -1 := by
  induction n with
  | zero => rfl
  | succ n ih =>
    unfold idxF
    rw [if_pos (ih fun k hk => h k (by omega)), if_neg (h n (by omega))]
theorem idxF_some {X : Nat → Int} {x : Int} {n k : Nat} (h : ∀ j, j < k → X j ≠ x) (hk : X k = x) (hn : k < n) : idxF X x n = k := by
  induction n with
  | zero => omega
  | succ n ih =>
    unfold idxF
    by_cases e : k = n
    · subst e
      rw [if_pos (idxF_none h), if_pos hk]
    · rw [ih (by omega), if_neg (by omega)]
/-- Does x stand among the first n? -/
def HasI (n : Nat) (X : Nat → Int) (x : Int) : Prop := ∃ k, k < n ∧ X k = x
theorem idxF_has {X : Nat → Int} {x : Int} {n : Nat} : HasI n X x ↔ 0 ≤ idxF X x n := by
  induction n with
  | zero => constructor
            · rintro ⟨k, h, _⟩; omega
            · intro h; simp [idxF] at h
  | succ n ih =>
    unfold idxF
    constructor
    · rintro ⟨k, hk, e⟩
      by_cases h1 : HasI n X x
      · have := ih.1 h1
        rw [if_neg (by omega)]; exact this
      · have hkn : k = n := by
          by_cases h2 : k < n
          · exact absurd ⟨k, h2, e⟩ h1
          · omega
        subst hkn
        rw [if_pos (idxF_none fun j hj e' => h1 ⟨j, hj, e'⟩), if_pos e]; omega
    · intro h
      by_cases h1 : idxF X x n = -1
      · rw [if_pos h1] at h
        by_cases h2 : X n = x
        · exact ⟨n, by omega, h2⟩
        · rw [if_neg h2] at h; omega
      · rw [if_neg h1] at h
        obtain ⟨k, hk, e⟩ := ih.2 h
        exact ⟨k, by omega, e⟩

set_option maxHeartbeats 400000 in
theorem index_any (n c : Nat) (a : Option Addr) (X : Nat → Int) (x : Int) (w : World) (hn : n ≤ 1048576) (ha : Rd w a n X) :
    Calls Try.prog 106 #[.slice a n c, .int .i64 x] w fun e w' => e = .returned (.int .i64 (idxF X x n)) ∧ w = w' := by
  go_enter Try.func106, Try.ntmps106
  go_wp2
  go_loop [4, 5, 8] (fun _ _ i => ∃ k : Nat, k ≤ n ∧ i = .int .i64 k ∧ ∀ j, j < k → X j ≠ x) (fun _ _ i => n - (intOf i).toNat)
  case atStart => exact ⟨0, Nat.zero_le _, rfl, fun j hj => absurd hj (Nat.not_lt_zero _)⟩
  case round =>
    obtain ⟨k, hk, rfl, hno⟩ := hrel
    have HN := Lib.hid hno
    clear hno
    by_cases hlt : k < n
    · obtain ⟨ba, oa, rfl, hca⟩ := ha k hlt
      clear ha
      by_cases hx : X k = x
      · have hd : decide (x = X k) = true := by simpa using hx.symm
        have hd2 : (x == X k) = true := by simpa using hx.symm
        have HX := Lib.hid (idxF_some HN.out hx hlt)
        clear hx
        go_wp2
        go_ret
        exact ⟨by rw [HX.out]; rfl, rfl⟩
      · have hd : decide (x = X k) = false := by simpa using fun e : x = X k => hx e.symm
        have hd2 : (x == X k) = false := by simpa using fun e : x = X k => hx e.symm
        have HX := Lib.hid hx
        clear hx
        go_wp2
        go_round
        case rel => exact ⟨k + 1, by omega, by go_num, fun j hj => by
          by_cases e : j = k
          · subst e; exact HX.out
          · exact HN.out j (by omega)⟩
        case measure => simp [intOf]; omega
    · obtain rfl : k = n := by omega
      clear ha
      have HX := Lib.hid (idxF_none HN.out)
      go_wp2
      go_ret
      exact ⟨by rw [HX.out]; rfl, rfl⟩

end Go.Proofs.Ytmjbocgoinfamaa
