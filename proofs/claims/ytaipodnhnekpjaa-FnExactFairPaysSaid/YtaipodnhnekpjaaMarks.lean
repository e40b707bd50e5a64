/- The laws' marks: rows and tables are filled with numbers in order, and asked for them. -/
import Derived.Test.YtaipodnhnekpjaaProg
import Derived.Test.YtaipodnhnekpjaaMem
namespace Go.Proofs.Ytaipodnhnekpjaa
set_option linter.unusedVariables false
open Go.RowKit

/-- The numbers in order from k on. -/
def fromK (k : Int) (i : Nat) : Int := k + i

set_option maxHeartbeats 800000 in
theorem markInts_any (n c b : Nat) (a : Option Addr) (X : Nat → Int) (k : Int) (w : World) (hn : n ≤ 4000000) (hk0 : 0 ≤ k) (hk : k ≤ 4000000) (ho : OwnR w b a n X) :
    Calls Try.prog 27 #[.slice a n c, .int .i64 k] w fun e w' => e = .returned (.int .i64 (k + n)) ∧ OwnR w' b a n (fromK k) ∧ Keeps b (b + 1) w w' := by
  go_enter Try.func27, Try.ntmps27
  go_wp2
  go_loopw [1, 5] (fun q i wr => ∃ j : Nat, j ≤ n ∧ i = .int .i64 j ∧ q = .int .i64 (k + j) ∧ OwnR wr b a n (fun i => if i < j then fromK k i else X i) ∧ Keeps b (b + 1) w wr) (fun _ i _ => n - (intOf i).toNat)
  case atStart => exact ⟨0, Nat.zero_le _, rfl, by simp, by simpa using ho, Keeps.refl _ _ _⟩
  case round =>
    obtain ⟨j, hj, rfl, rfl, hr, hkp⟩ := hrel
    by_cases hlt : j < n
    · rcases hr with h0 | ⟨o, rfl, hc⟩
      · omega
      · obtain ⟨hcj, hfj⟩ := hc j hlt
        have H1 := Lib.hid hc
        have H2 := Lib.hid hkp
        have hkj : 0 ≤ k + (j : Int) := by omega
        clear hc hkp ho
        go_wp2
        go_roundw
        case rel =>
          refine ⟨j + 1, by omega, by go_num, by go_num, .inr ⟨o, rfl, fun i hi => ?_⟩, H2.out.setCell (Nat.le_refl _) (Nat.lt_succ_self _) _⟩
          obtain ⟨h3, h4⟩ := H1.out i hi
          dsimp only at h3 ⊢
          by_cases e : i = j
          · subst e
            rw [if_pos (Nat.lt_succ_self _)]
            exact ⟨World.cell?_setCell_same' _ _ _ (by rw [h3]; rfl), by rw [World.frozen?_setCell]; exact h4⟩
          · refine ⟨?_, by rw [World.frozen?_setCell]; exact h4⟩
            rw [World.cell?_setCell_other (a := ⟨b, o + j, none⟩) (b := ⟨b, o + i, none⟩) (h := fun h => e (by simp only [Addr.mk.injEq] at h; omega)), h3]
            by_cases h' : i < j
            · rw [if_pos h', if_pos (by omega)]
            · rw [if_neg h', if_neg (by omega)]
        case measure => simp [intOf]; omega
    · obtain rfl : j = n := by omega
      have HR := Lib.hid hr
      have H2 := Lib.hid hkp
      clear hr hkp ho
      go_wp2
      go_ret
      refine ⟨rfl, ?_, H2.out⟩
      rcases HR.out with h0 | ⟨o, ha, hc⟩
      · exact .inl h0
      · exact .inr ⟨o, ha, fun i hi => by have := hc i hi; dsimp only at this; rw [if_pos hi] at this; exact this⟩

theorem markOwn_any (n c lo hi : Nat) (a : Option Addr) (X : Nat → Int) (k : Int) (w : World) (hn : n ≤ 4000000) (hk0 : 0 ≤ k) (hk : k ≤ 4000000) (ho : OwnI w lo hi a n X) :
    Calls Try.prog 27 #[.slice a n c, .int .i64 k] w fun e w' => e = .returned (.int .i64 (k + n)) ∧ OwnI w' lo hi a n (fromK k) ∧ Keeps lo hi w w' := by
  rcases ho with h0 | ⟨b, h1, h2, ho⟩
  · exact (markInts_any n c w.heap.size a X k w hn hk0 hk (.inl h0)).mono fun e w' ⟨he, _, hkp⟩ => ⟨he, .inl h0, hkp.none⟩
  · exact (markInts_any n c b a X k w hn hk0 hk ho).mono fun e w' ⟨he, hr, hkp⟩ => ⟨he, .inr ⟨b, h1, h2, hr⟩, hkp.mono h1 (by omega)⟩

set_option maxHeartbeats 800000 in
theorem heldInts_any (n c : Nat) (a : Option Addr) (k : Int) (w : World) (hn : n ≤ 4000000) (hk0 : 0 ≤ k) (hk : k ≤ 4000000) (ho : Rd w a n (fromK k)) :
    Calls Try.prog 28 #[.slice a n c, .int .i64 k] w fun e w' => e = .returned (.int .i64 (k + n)) ∧ w = w' := by
  go_enter Try.func28, Try.ntmps28
  go_wp2
  go_loop [1, 4, 5] (fun q r i => ∃ j : Nat, j ≤ n ∧ i = .int .i64 j ∧ r = .int .i64 0 ∧ q = .int .i64 (k + j)) (fun _ _ i => n - (intOf i).toNat)
  case atStart => exact ⟨0, Nat.zero_le _, rfl, rfl, by simp⟩
  case round =>
    obtain ⟨j, hj, rfl, rfl, rfl⟩ := hrel
    by_cases hlt : j < n
    · obtain ⟨ba, oa, rfl, hc⟩ := ho j hlt
      unfold fromK at hc
      have hkj : 0 ≤ k + (j : Int) := by omega
      have HO := Lib.hid ho
      clear ho
      go_wp2
      go_round
      case rel => exact ⟨j + 1, by omega, by go_num, rfl, by go_num⟩
      case measure => simp [intOf]; omega
    · obtain rfl : j = n := by omega
      clear ho
      go_wp2
      go_ret
      exact ⟨rfl, rfl⟩

/-- The numbers in order from k on, row by row. -/
def fromT (k : Int) (L : Nat → Nat) (r i : Nat) : Int := k + tot L r + i

set_option maxHeartbeats 1600000 in
theorem markTab_any (n c lo hi : Nat) (a : Option Addr) (A : Nat → Option Addr) (L C : Nat → Nat) (X : Nat → Nat → Int) (w : World) (hn : n ≤ 1048576) (ht : tot L n ≤ 1048576) (ho : OwnT w lo hi a n A L C X) :
    Calls Try.prog 26 #[.slice a n c, .int .i64 1] w fun e w' => e = .returned (.int .i64 (1 + tot L n)) ∧ OwnT w' lo hi a n A L C (fromT 1 L) ∧ Keeps lo hi w w' := by
  go_enter Try.func26, Try.ntmps26
  go_wp2
  rcases ho with h0 | ⟨b, o, K, rfl, hb1, hb2, hc, hrows, hinj⟩
  · subst h0
    go_loop [1, 5] (fun q i => i = .int .i64 0 ∧ q = .int .i64 1) (fun _ _ => 0)
    case atStart => exact ⟨rfl, rfl⟩
    case round =>
      obtain ⟨rfl, rfl⟩ := hrel
      go_wp2
      go_ret
      exact ⟨by simp [tot], .inl rfl, Keeps.refl _ _ _⟩
  · go_loopw [1, 5] (fun q i wr => ∃ j : Nat, j ≤ n ∧ i = .int .i64 j ∧ q = .int .i64 (1 + tot L j) ∧ (∀ r, r < n → OwnR wr (K r) (A r) (L r) (if r < j then fromT 1 L r else X r)) ∧ Keeps lo hi w wr ∧ wr.heap[b]? = w.heap[b]?) (fun _ i _ => n - (intOf i).toNat)
    case atStart => exact ⟨0, Nat.zero_le _, rfl, by simp [tot], fun r hr => by rw [if_neg (Nat.not_lt_zero _)]; exact (hrows r hr).2.2.2, Keeps.refl _ _ _, rfl⟩
    case round =>
      obtain ⟨j, hj, rfl, rfl, hr, hkp, htop⟩ := hrel
      have H1 := Lib.hid hr
      have H2 := Lib.hid hkp
      have H3 := Lib.hid htop
      have HI := Lib.hid hinj
      have HR := Lib.hid hrows
      have HC := Lib.hid hc
      clear hr hkp htop hinj hrows hc
      by_cases hlt : j < n
      · have hcj : wr.cell? ⟨b, o + j, none⟩ = some (.slice (A j) (L j) (C j)) := by rw [World.cell?_of_block (w := w) (a := ⟨b, o + j, none⟩) H3.out]; exact HC.out j hlt
        have hm1 := tot_mono (L := L) (i := j) (j := n) hj
        have hm2 := le_tot (L := L) hlt
        have hrow := Lib.hid (H1.out j hlt)
        go_wp2_with fail
        refine (markInts_any (L j) (C j) (K j) (A j) _ _ _ (by omega) (by omega) (by omega) hrow.out).mono ?_
        rintro e w1 ⟨rfl, hnew, hk1⟩
        have N1 := Lib.hid hnew
        have K1 := Lib.hid hk1
        clear hnew hk1 hcj
        have hts : tot L (j + 1) = tot L j + L j := rfl
        have HT := Lib.hid hts
        clear hts
        go_wp2
        go_roundw
        case rel =>
          refine ⟨j + 1, by omega, by go_num, by rw [HT.out]; go_num, fun r hr => ?_, H2.out.trans (K1.out.mono (HR.out j hlt).1 (HR.out j hlt).2.1), (K1.out.block b (by have := (HR.out j hlt).2.2.1; omega)).trans H3.out⟩
          by_cases e : r = j
          · subst e
            rw [if_pos (Nat.lt_succ_self _)]
            exact N1.out
          · have hkr := HI.out r j hr hlt e
            have := (H1.out r hr).of_block (K1.out.block (K r) (by omega))
            by_cases h' : r < j
            · rw [if_pos h'] at this; rw [if_pos (by omega)]; exact this
            · rw [if_neg h'] at this; rw [if_neg (by omega)]; exact this
        case measure => simp [intOf]; omega
      · obtain rfl : j = n := by omega
        go_wp2
        go_ret
        refine ⟨rfl, .inr ⟨b, o, K, rfl, hb1, hb2, fun r hr => ?_, fun r hr => ⟨(HR.out r hr).1, (HR.out r hr).2.1, (HR.out r hr).2.2.1, ?_⟩, HI.out⟩, H2.out⟩
        · rw [World.cell?_of_block (w := w) (a := ⟨b, o + r, none⟩) H3.out]; exact HC.out r hr
        · have := H1.out r hr; rw [if_pos hr] at this; exact this

end Go.Proofs.Ytaipodnhnekpjaa
