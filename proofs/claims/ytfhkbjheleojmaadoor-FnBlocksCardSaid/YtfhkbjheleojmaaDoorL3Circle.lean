/- The model's l3Circle: the set of people on circles. -/
import Derived.Test.YtfhkbjheleojmaaDoorL3Point

namespace Go.Proofs.YtfhkbjheleojmaaDoor
set_option linter.unusedVariables false
set_option linter.unusedSimpArgs false
open Go.RowKit

/-- x is put into the set: the same, the number being a term of its own. -/
theorem bits_or_pow (S x : Nat) (hS : S < 2 ^ 62) (hx : x < 62) : bits .or .i64 (S : Int) (wrap64 (2 ^ x)) = ((S ||| 2 ^ x : Nat) : Int) := bit_put S x hS hx

/-- The set of those who are reached by all of S behind s steps. -/
def Reach (n : Nat) (f : Nat → Nat) (S : Nat → Bool) (s K : Nat) : Prop := K < 2 ^ n ∧ ∀ y, K.testBit y = true ↔ ∃ j, S j = true ∧ it f s j = y
/-- The set of those at whom the first i of K point. -/
def Front (n : Nat) (f : Nat → Nat) (K i N : Nat) : Prop := N < 2 ^ n ∧ ∀ y, N.testBit y = true ↔ ∃ x, x < i ∧ K.testBit x = true ∧ f x = y
theorem Front.zero (n : Nat) (f : Nat → Nat) (K : Nat) : Front n f K 0 0 := ⟨Nat.two_pow_pos n, fun y => by simp⟩
theorem Front.no {n K i N : Nat} {f : Nat → Nat} (h : Front n f K i N) (hi : K.testBit i = false) : Front n f K (i + 1) N := by
  refine ⟨h.1, fun y => (h.2 y).trans ?_⟩
  constructor
  · rintro ⟨x, h1, h2, h3⟩; exact ⟨x, by omega, h2, h3⟩
  · rintro ⟨x, h1, h2, h3⟩
    refine ⟨x, ?_, h2, h3⟩
    by_cases e : x = i
    · subst e; rw [hi] at h2; cases h2
    · omega
theorem Front.yes {n K i N : Nat} {f : Nat → Nat} (h : Front n f K i N) (hi : K.testBit i = true) (hf : f i < n) : Front n f K (i + 1) (N ||| 2 ^ f i) := by
  refine ⟨bit_put_lt h.1 hf, fun y => ?_⟩
  rw [bit_put_has, h.2 y]
  constructor
  · rintro (⟨x, h1, h2, h3⟩ | rfl)
    · exact ⟨x, by omega, h2, h3⟩
    · exact ⟨i, by omega, hi, rfl⟩
  · rintro ⟨x, h1, h2, h3⟩
    by_cases e : x = i
    · subst e; exact .inr h3.symm
    · exact .inl ⟨x, by omega, h2, h3⟩
theorem Reach.next {n K N s : Nat} {f : Nat → Nat} {S : Nat → Bool} (h : Reach n f S s K) (k : Front n f K n N) : Reach n f S (s + 1) N := by
  refine ⟨k.1, fun y => (k.2 y).trans ?_⟩
  constructor
  · rintro ⟨x, _, h2, h3⟩
    obtain ⟨j, h4, h5⟩ := (h.2 x).1 h2
    exact ⟨j, h4, by show f _ = _; rw [h5]; exact h3⟩
  · rintro ⟨j, h4, h5⟩
    have h6 := (h.2 (it f s j)).2 ⟨j, h4, rfl⟩
    refine ⟨it f s j, ?_, h6, h5⟩
    rcases Nat.lt_or_ge (it f s j) n with h7 | h7
    · exact h7
    · rw [Nat.testBit_lt_two_pow (Nat.lt_of_lt_of_le h.1 (Nat.pow_le_pow_right (by omega) h7))] at h6; cases h6
theorem Reach.zero {n m : Nat} (f : Nat → Nat) (hm : m < 2 ^ n) : Reach n f m.testBit 0 m := ⟨hm, fun y => ⟨fun h => ⟨y, h, rfl⟩, fun ⟨j, h1, h2⟩ => by have : j = y := h2; rw [← this]; exact h1⟩⟩
theorem mask_ppl {n m : Nat} (hm : m < 2 ^ n) : Ppl n m.testBit := fun y hy => by
  rcases Nat.lt_or_ge y n with h | h
  · exact h
  · rw [Nat.testBit_lt_two_pow (Nat.lt_of_lt_of_le hm (Nat.pow_le_pow_right (by omega) h))] at hy; cases hy
theorem circB_ppl {n : Nat} {S : Nat → Bool} (Z : Nat → Nat → Int) (hS : Ppl n S) : Ppl n (circB Z n S) := fun y hy => hS y (circB_in hy)
theorem Reach.all {n m K : Nat} {L : Nat → Nat} {Z : Nat → Nat → Int} (hW : IsWishes n L Z) (hm : m < 2 ^ n) (h : Reach n (ptS Z n m.testBit) m.testBit n K) : K = maskN (circB Z n m.testBit) n := by
  refine Nat.eq_of_testBit_eq fun y => ?_
  rw [(maskN_is (circB_ppl Z (mask_ppl hm))).2 y, Bool.eq_iff_iff, h.2 y, circB_image hW (mask_ppl hm)]

set_option maxHeartbeats 1600000 in
theorem l3Circle_any (n c m : Nat) (a : Option Addr) (A : Nat → Option Addr) (L C : Nat → Nat) (Z : Nat → Nat → Int) (w : World) (hW : IsWishes n L Z) (hm : m < 2 ^ n) (ha0 : Tab w a n A L C Z) :
    Calls Tryd.prog 71 #[.slice a n c, .int .i64 (m : Nat)] w fun e w' => e = .returned (.int .i64 (maskN (circB Z n m.testBit) n : Nat)) ∧ w = w' := by
  have hn5 := hW.1.2
  have HA := Lib.hid ha0
  have HW := Lib.hid hW
  have HM := Lib.hid hm
  have hm62 : m < 2 ^ 62 := Nat.lt_trans hm (two_pow_lt (by omega))
  have HM62 := Lib.hid hm62
  obtain ⟨f, hf⟩ : ∃ f, f = ptS Z n m.testBit := ⟨_, rfl⟩
  have QF := Lib.hid hf
  have R0 := Lib.hid (Reach.zero f hm)
  clear ha0 hW hm hm62 hf
  go_enter Tryd.func71, Tryd.ntmps71
  go_wp2
  go_loop [5, 6, 7, 8] (fun st s _ _ => ∃ k K : Nat, k ≤ n ∧ s = .int .i64 k ∧ st = .int .i64 (K : Nat) ∧ Reach n f m.testBit k K) (fun _ s _ _ => n - (intOf s).toNat)
  case atStart => exact ⟨0, m, Nat.zero_le _, rfl, rfl, R0.out⟩
  case round =>
    obtain ⟨k, K, hk, rfl, rfl, hR⟩ := hrel
    have HR := Lib.hid hR
    clear hR R0
    by_cases hlt : k < n
    · go_wp2
      go_loop [7, 8] (fun nx i => ∃ j N : Nat, j ≤ n ∧ i = .int .i64 j ∧ nx = .int .i64 (N : Nat) ∧ Front n f K j N) (fun _ i => n - (intOf i).toNat)
      case atStart => exact ⟨0, 0, Nat.zero_le _, rfl, rfl, Front.zero _ _ _⟩
      case round =>
        obtain ⟨j, N, hj, rfl, rfl, hF⟩ := hrel
        have HF := Lib.hid hF
        clear hF
        by_cases hjl : j < n
        · have hhas := bit_has K j (Nat.lt_trans HR.out.1 (two_pow_lt (by omega)))
          by_cases hb : K.testBit j = true
          · obtain ⟨ba, oa, rfl, hca, hra⟩ := HA.out j hjl
            rw [(HW.out.2 j hjl).1] at hca hra
            have HRd := Lib.hid hra
            rw [hb] at hhas
            obtain ⟨p, hp⟩ : ∃ p, p = f j := ⟨_, rfl⟩
            have hpn : p < n := by
              obtain ⟨z, h1, h2⟩ := (HR.out.2 j).1 hb
              have h3 := it_in (f := f) (P := fun x => m.testBit x = true) (fun i hi => by rw [QF.out]; exact ptS_in HW.out (mask_ppl HM.out) hi) h1 k
              rw [h2] at h3
              rw [hp, QF.out]
              exact mask_ppl HM.out _ (ptS_in HW.out (mask_ppl HM.out) h3)
            have HP := Lib.hid (show ptN (Z j) m.testBit n = p by rw [hp, QF.out]; rfl)
            have hput := bit_put N p (Nat.lt_trans HF.out.1 (two_pow_lt (by omega))) (by omega)
            obtain ⟨N', hN'⟩ : ∃ N', N' = N ||| 2 ^ p := ⟨_, rfl⟩
            rw [← hN'] at hput
            have HN := Lib.hid (show Front n f K (j + 1) N' by rw [hN', hp]; exact HF.out.yes hb (by rw [← hp]; exact hpn))
            clear hp hN' hb hra
            go_wp2_with (go_at_call 72; refine (l3Point_any n (C j) m (A j) (Z j) _ hn5 HM62.out (HW.out.2 j hjl).2 HRd.out).mono ?_; rintro e w' ⟨rfl, rfl⟩; rw [HP.out])
            go_round
            case rel => exact ⟨j + 1, N', by omega, by go_num, rfl, HN.out⟩
            case measure => simp [intOf]; omega
          · have hb' : K.testBit j = false := by simpa using hb
            rw [hb'] at hhas
            have HN := Lib.hid (HF.out.no hb')
            clear hb hb'
            go_wp2
            go_round
            case rel => exact ⟨j + 1, N, by omega, by go_num, rfl, HN.out⟩
            case measure => simp [intOf]; omega
        · obtain rfl : j = n := by omega
          have HN := Lib.hid (HR.out.next HF.out)
          go_wp2
          go_round
          case rel => exact ⟨k + 1, N, by omega, by go_num, rfl, HN.out⟩
          case measure => simp [intOf]; omega
    · obtain rfl : k = n := by omega
      have HK := Lib.hid (show K = maskN (circB Z k m.testBit) k from Reach.all HW.out HM.out (by have := HR.out; rwa [QF.out] at this))
      go_wp2
      go_ret
      exact ⟨by rw [← HK.out]; rfl, rfl⟩
end Go.Proofs.YtfhkbjheleojmaaDoor
