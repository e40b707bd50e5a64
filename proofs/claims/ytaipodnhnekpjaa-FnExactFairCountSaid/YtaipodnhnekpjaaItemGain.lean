/- The program's gain and mostGain: what a bidder gains. -/
import Derived.Test.YtaipodnhnekpjaaPriceList
import Derived.BigQuiet
import Derived.Lib.MinMax
namespace Go.Proofs.Ytaipodnhnekpjaa
set_option linter.unusedVariables false
set_option linter.unusedSimpArgs false
open Go.RowKit

theorem gainNone_any (n c m d : Nat) (i : Int) (a b : Option Addr) (w : World) :
    Calls Try.prog 88 #[.slice a n c, .slice b m d, .int .i64 i, .int .i64 (-1)] w fun e w' => e = .returned (.int .i64 0) ∧ w = w' := by
  go_enter Try.func88, Try.ntmps88
  go_wp2
  go_ret
  exact ⟨rfl, rfl⟩

set_option maxHeartbeats 800000 in
theorem gainItem_any (n c m d i x : Nat) (a b : Option Addr) (A : Nat → Option Addr) (L C : Nat → Nat) (Z : Nat → Nat → Int) (P : Nat → Int) (w : World) (hi : i < n) (hx : x < m) (hL : L i = m) (hZ : 0 ≤ Z i x ∧ Z i x ≤ 20) (hP : 0 ≤ P x ∧ P x ≤ 20) (ha0 : Tab w a n A L C Z) (hb0 : Rd w b m P) :
    Calls Try.prog 88 #[.slice a n c, .slice b m d, .int .i64 (i : Nat), .int .i64 (x : Nat)] w fun e w' => e = .returned (.int .i64 (Z i x - P x)) ∧ ∃ q, w' = w.drewN q := by
  have H1 := Lib.hid (fun q => priceOf_any m d x b P (w.drewN q) hx (hb0.drewN q))
  obtain ⟨ba, oa, rfl, hca, hra⟩ := ha0 i hi
  rw [hL] at hca hra
  obtain ⟨br, or', har, hcx⟩ := hra x hx
  rw [har] at hca
  obtain ⟨z, hz'⟩ : ∃ z, z = Z i x := ⟨_, rfl⟩
  obtain ⟨p, hp'⟩ : ∃ p, p = P x := ⟨_, rfl⟩
  rw [← hz'] at hcx hZ ⊢
  rw [← hp'] at hP H1 ⊢
  have hw1 : IntKind.i64.wrap (z - p) = z - p := by rw [IntKind.wrap_i64]; omega
  have i1 : (0 : Int) ≤ (i : Int) := by omega
  have i2 : (i : Int) < (n : Int) := by omega
  have i3 : (0 : Int) ≤ (x : Int) := by omega
  have i4 : (x : Int) < (m : Int) := by omega
  have d1 : ((x : Int) == -1) = false := beq_eq_false_iff_ne.2 (by omega)
  clear ha0 hra har hb0 hz' hp' hL
  go_enter Try.func88, Try.ntmps88
  go_wp2
  go_quiet ((go_at_call 111; with_reducible exact Calls.quiet_of_same (H1.out _)))
  all_goals (
    go_wp2
    go_ret
    exact ⟨rfl, _, rfl⟩)

set_option maxRecDepth 100000 in
set_option maxHeartbeats 1600000 in
theorem mostGain_any (n c m d i : Nat) (a b : Option Addr) (A : Nat → Option Addr) (L C : Nat → Nat) (Z : Nat → Nat → Int) (P : Nat → Int) (w : World) (hi : i < n) (hm : m ≤ 5) (hL : L i = m) (hZ : ∀ x, x < m → 0 ≤ Z i x ∧ Z i x ≤ 20) (hP : ∀ x, x < m → 0 ≤ P x ∧ P x ≤ 20) (ha0 : Tab w a n A L C Z) (hb0 : Rd w b m P) :
    Calls Try.prog 77 #[.slice a n c, .slice b m d, .int .i64 (i : Nat)] w fun e w' => e = .returned (.int .i64 (gainM Z P i m)) ∧ ∃ q, w' = w.drewN q := by
  have HN := Lib.hid (gainNone_any n c m d (i : Nat) a b w)
  have HI := Lib.hid (fun q x (hx : x < m) => gainItem_any n c m d i x a b A L C Z P (w.drewN q) hi hx hL (hZ x hx) (hP x hx) (ha0.drewN q) (hb0.drewN q))
  have HP := Lib.hid hP
  have HZ := Lib.hid hZ
  clear ha0 hb0 hP hZ hL
  go_enter Try.func77, Try.ntmps77
  go_wp2_with (go_at_call 88; refine HN.out.mono ?_; rintro e w' ⟨rfl, rfl⟩)
  go_loopw [7, 8, 15] (fun s _ x wr => ∃ k q : Nat, k ≤ m ∧ x = .int .i64 k ∧ s = .int .i64 (gainM Z P i k) ∧ wr = w.drewN q) (fun _ _ x _ => m - (intOf x).toNat)
  case atStart => exact ⟨0, 0, Nat.zero_le _, rfl, rfl, rfl⟩
  case round =>
    obtain ⟨k, q, hk, rfl, rfl, rfl⟩ := hrel
    by_cases hlt : k < m
    · have hz := HZ.out k hlt
      have hp := HP.out k hlt
      have E := Lib.hid (show gainM Z P i (k + 1) = max (gainM Z P i k) (Z i k - P k) from rfl)
      have HIk := Lib.hid (HI.out q k hlt)
      obtain ⟨y, hy⟩ : ∃ y, y = Z i k - P k := ⟨_, rfl⟩
      obtain ⟨G, hG⟩ : ∃ G, G = gainM Z P i k := ⟨_, rfl⟩
      rw [← hy, ← hG] at E
      rw [← hy] at HIk
      rw [← hG]
      clear hz hp hy hG
      go_wp2_with (go_at_call 88; refine HIk.out.mono ?_; rintro e w' ⟨rfl, q2, rfl⟩)
      go_roundw
      case rel => exact ⟨k + 1, q + q2, by omega, by go_num, by rw [E.out], by simp [World.drewN, Nat.add_assoc]⟩
      case measure => simp [intOf]; omega
    · obtain rfl : k = m := by omega
      go_wp2
      go_ret
      exact ⟨rfl, q, rfl⟩
end Go.Proofs.Ytaipodnhnekpjaa
