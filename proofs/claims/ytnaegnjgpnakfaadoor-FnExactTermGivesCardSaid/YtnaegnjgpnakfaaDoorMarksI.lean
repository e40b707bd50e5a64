/- The laws' marks: rows and tables are filled with numbers in order, and asked for them. -/
import Derived.Test.YtnaegnjgpnakfaaDoorProg
import Derived.Test.YtnaegnjgpnakfaaDoorMem
namespace Go.Proofs.YtnaegnjgpnakfaaDoor
set_option linter.unusedVariables false
open Go.RowKit

/-- The numbers in order from k on. -/
def fromK (k : Int) (i : Nat) : Int := k + i

set_option maxHeartbeats 800000 in
theorem markInts_any (n c b : Nat) (a : Option Addr) (X : Nat → Int) (k : Int) (w : World) (hn : n ≤ 4000000) (hk0 : 0 ≤ k) (hk : k ≤ 4000000) (ho : OwnR w b a n X) :
    Calls Tryd.prog 19 #[.slice a n c, .int .i64 k] w fun e w' => e = .returned (.int .i64 (k + n)) ∧ OwnR w' b a n (fromK k) ∧ Keeps b (b + 1) w w' := by
  go_enter Tryd.func19, Tryd.ntmps19
  go_wp2
  go_loopw [1, 5] (fun q i wr => ∃ j : Nat, j ≤ n ∧ i = .int .i64 j ∧ q = .int .i64 (k + j) ∧ OwnR wr b a n (fun i => if i < j then fromK k i else X i) ∧ Keeps b (b + 1) w wr) (fun _ i _ => n - (intOf i).toNat)
  case atStart => exact ⟨0, Nat.zero_le _, rfl, by simp, by simpa using ho, Keeps.refl _ _ _⟩
  case round =>
    obtain ⟨j, hj, rfl, rfl, hr, hkp⟩ := hrel
    by_cases hlt : j < n
    · rcases hr with h0 | ⟨o, rfl, hc⟩
      · omega
      · obtain ⟨hcj, hfj⟩ := hc j hlt
        have H1 := Lib.hid hc
        have H2 := Lib.hid hkp
        have hkj : 0 ≤ k + (j : Int) := by omega
        clear hc hkp ho
        go_wp2
        go_roundw
        case rel =>
          refine ⟨j + 1, by omega, by go_num, by go_num, .inr ⟨o, rfl, fun i hi => ?_⟩, H2.out.setCell (Nat.le_refl _) (Nat.lt_succ_self _) _⟩
          obtain ⟨h3, h4⟩ := H1.out i hi
          dsimp only at h3 ⊢
          by_cases e : i = j
          · subst e
            rw [if_pos (Nat.lt_succ_self _)]
            exact ⟨World.cell?_setCell_same' _ _ _ (by rw [h3]; rfl), by rw [World.frozen?_setCell]; exact h4⟩
          · refine ⟨?_, by rw [World.frozen?_setCell]; exact h4⟩
            rw [World.cell?_setCell_other (a := ⟨b, o + j, none⟩) (b := ⟨b, o + i, none⟩) (h := fun h => e (by simp only [Addr.mk.injEq] at h; omega)), h3]
            by_cases h' : i < j
            · rw [if_pos h', if_pos (by omega)]
            · rw [if_neg h', if_neg (by omega)]
        case measure => simp [intOf]; omega
    · obtain rfl : j = n := by omega
      have HR := Lib.hid hr
      have H2 := Lib.hid hkp
      clear hr hkp ho
      go_wp2
      go_ret
      refine ⟨rfl, ?_, H2.out⟩
      rcases HR.out with h0 | ⟨o, ha, hc⟩
      · exact .inl h0
      · exact .inr ⟨o, ha, fun i hi => by have := hc i hi; dsimp only at this; rw [if_pos hi] at this; exact this⟩

theorem markOwn_any (n c lo hi : Nat) (a : Option Addr) (X : Nat → Int) (k : Int) (w : World) (hn : n ≤ 4000000) (hk0 : 0 ≤ k) (hk : k ≤ 4000000) (ho : OwnI w lo hi a n X) :
    Calls Tryd.prog 19 #[.slice a n c, .int .i64 k] w fun e w' => e = .returned (.int .i64 (k + n)) ∧ OwnI w' lo hi a n (fromK k) ∧ Keeps lo hi w w' := by
  rcases ho with h0 | ⟨b, h1, h2, ho⟩
  · exact (markInts_any n c w.heap.size a X k w hn hk0 hk (.inl h0)).mono fun e w' ⟨he, _, hkp⟩ => ⟨he, .inl h0, hkp.none⟩
  · exact (markInts_any n c b a X k w hn hk0 hk ho).mono fun e w' ⟨he, hr, hkp⟩ => ⟨he, .inr ⟨b, h1, h2, hr⟩, hkp.mono h1 (by omega)⟩

set_option maxHeartbeats 800000 in
theorem heldInts_any (n c : Nat) (a : Option Addr) (k : Int) (w : World) (hn : n ≤ 4000000) (hk0 : 0 ≤ k) (hk : k ≤ 4000000) (ho : Rd w a n (fromK k)) :
    Calls Tryd.prog 20 #[.slice a n c, .int .i64 k] w fun e w' => e = .returned (.int .i64 (k + n)) ∧ w = w' := by
  go_enter Tryd.func20, Tryd.ntmps20
  go_wp2
  go_loop [1, 4, 5] (fun q r i => ∃ j : Nat, j ≤ n ∧ i = .int .i64 j ∧ r = .int .i64 0 ∧ q = .int .i64 (k + j)) (fun _ _ i => n - (intOf i).toNat)
  case atStart => exact ⟨0, Nat.zero_le _, rfl, rfl, by simp⟩
  case round =>
    obtain ⟨j, hj, rfl, rfl, rfl⟩ := hrel
    by_cases hlt : j < n
    · obtain ⟨ba, oa, rfl, hc⟩ := ho j hlt
      unfold fromK at hc
      have hkj : 0 ≤ k + (j : Int) := by omega
      have HO := Lib.hid ho
      clear ho
      go_wp2
      go_round
      case rel => exact ⟨j + 1, by omega, by go_num, rfl, by go_num⟩
      case measure => simp [intOf]; omega
    · obtain rfl : j = n := by omega
      clear ho
      go_wp2
      go_ret
      exact ⟨rfl, rfl⟩
end Go.Proofs.YtnaegnjgpnakfaaDoor
