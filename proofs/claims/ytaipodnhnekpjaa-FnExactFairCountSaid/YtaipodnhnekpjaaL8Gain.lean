/- The model's l8Gain: what a bidder gains at most. -/
import Derived.Test.YtaipodnhnekpjaaFairFn
import Derived.Test.YtaipodnhnekpjaaProg
import Derived.BigQuiet
import Derived.Lib.MinMax
namespace Go.Proofs.Ytaipodnhnekpjaa
set_option linter.unusedVariables false
set_option linter.unusedSimpArgs false
open Go.RowKit

set_option maxRecDepth 100000 in
set_option maxHeartbeats 1600000 in
theorem l8Gain_any (n c m d i : Nat) (a b : Option Addr) (A : Nat → Option Addr) (L C : Nat → Nat) (Z : Nat → Nat → Int) (P : Nat → Int) (w : World) (hi : i < n) (hm : m ≤ 5) (hL : ∀ r, r < n → L r = m) (hZ : ∀ r, r < n → ∀ x, x < m → 0 ≤ Z r x ∧ Z r x ≤ 20) (hP : ∀ x, x < m → 0 ≤ P x ∧ P x ≤ 20) (ha0 : Tab w a n A L C Z) (hb0 : Rd w b m P) :
    Calls Try.prog 75 #[.slice a n c, .slice b m d, .int .i64 (i : Nat)] w fun e w' => e = .returned (.int .i64 (gainM Z P i m)) ∧ ∃ q, w' = w.drewN q := by
  obtain ⟨ba, oa, rfl, hc0, hr0⟩ := ha0 i hi
  rw [hL i hi] at hc0 hr0
  have HC := Lib.hid hc0
  have HR := Lib.hid hr0
  have HB := Lib.hid hb0
  have HP := Lib.hid hP
  have HZ := Lib.hid (hZ i hi)
  have hin : (i : Int) < (n : Int) := by omega
  have hi0 : (0 : Int) ≤ (i : Int) := by omega
  clear ha0 hc0 hr0 hb0 hP hZ hL
  go_enter Try.func75, Try.ntmps75
  go_wp2
  go_loopw [7, 8] (fun s x wr => ∃ k q : Nat, k ≤ m ∧ x = .int .i64 k ∧ s = .int .i64 (gainM Z P i k) ∧ wr = w.drewN q) (fun _ x _ => m - (intOf x).toNat)
  case atStart => exact ⟨0, 0, Nat.zero_le _, rfl, rfl, rfl⟩
  case round =>
    obtain ⟨k, q, hk, rfl, rfl, rfl⟩ := hrel
    by_cases hlt : k < m
    · obtain ⟨bb, ob, rfl, hcb⟩ := HB.out k hlt
      obtain ⟨br, or', har, hcx⟩ := HR.out k hlt
      have hca := HC.out
      rw [har] at hca
      have hz := HZ.out k hlt
      have hp := HP.out k hlt
      have E := Lib.hid (show gainM Z P i (k + 1) = max (gainM Z P i k) (Z i k - P k) from rfl)
      have hG := gainM_range (Z := Z) (p := P) (i := i) (q := k) (fun x hx => HZ.out x (by omega)) (fun x hx => (HP.out x (by omega)).1)
      obtain ⟨z, hz'⟩ : ∃ z, z = Z i k := ⟨_, rfl⟩
      obtain ⟨p, hp'⟩ : ∃ p, p = P k := ⟨_, rfl⟩
      obtain ⟨G, hG'⟩ : ∃ G, G = gainM Z P i k := ⟨_, rfl⟩
      rw [← hz'] at hcx hz E
      rw [← hp'] at hcb hp E
      rw [← hG'] at hG E ⊢
      have hw1 : IntKind.i64.wrap (z - p) = z - p := by rw [IntKind.wrap_i64]; omega
      have hkm : (k : Int) < (m : Int) := by omega
      have hk0 : (0 : Int) ≤ (k : Int) := by omega
      clear har hz' hp' hG'
      go_wp2
      go_region
      all_goals (
        go_wp2
        go_roundw
        case rel => exact ⟨k + 1, _, by omega, by go_num, by rw [E.out], rfl⟩
        case measure => simp [intOf]; omega)
    · obtain rfl : k = m := by omega
      go_wp2
      go_ret
      exact ⟨rfl, q, rfl⟩
end Go.Proofs.Ytaipodnhnekpjaa
