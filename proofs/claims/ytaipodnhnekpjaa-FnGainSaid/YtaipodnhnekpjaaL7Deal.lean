/- The model's l7Deal: whether a list is a deal. -/
import Derived.Test.YtaipodnhnekpjaaDealsWay
import Derived.Test.YtaipodnhnekpjaaL6In
import Derived.Test.YtaipodnhnekpjaaSeq
import Derived.BigQuiet
import Derived.BigGuardPart
namespace Go.Proofs.Ytaipodnhnekpjaa
set_option linter.unusedVariables false
set_option linter.unusedSimpArgs false
open Go.RowKit

/-- The items that the first k bidders get. -/
def GotBits (S k : Nat) (D : Nat → Int) : Prop := ∀ y : Nat, S.testBit y = true ↔ ∃ j, j < k ∧ D j = (y : Int)
theorem deal_none {k m : Nat} {D : Nat → Int} (h : IsDeal k m D) (e : D k = -1) : IsDeal (k + 1) m D := by
  refine ⟨fun i hi => ?_, fun i j hi hj hne he => ?_⟩
  · by_cases e1 : i = k
    · subst e1; rw [e]; omega
    · exact h.1 i (by omega)
  · by_cases e1 : i = k
    · subst e1; exact e
    · by_cases e2 : j = k
      · subst e2; rw [he]; exact e
      · exact h.2 i j (by omega) (by omega) hne he
theorem deal_item {k m x : Nat} {D : Nat → Int} (h : IsDeal k m D) (e : D k = (x : Int)) (hx : x < m) (hno : ¬ ∃ j, j < k ∧ D j = (x : Int)) : IsDeal (k + 1) m D := by
  refine ⟨fun i hi => ?_, fun i j hi hj hne he => ?_⟩
  · by_cases e1 : i = k
    · subst e1; rw [e]; omega
    · exact h.1 i (by omega)
  · by_cases e1 : i = k
    · subst e1
      exact absurd ⟨j, by omega, by rw [← he, e]⟩ hno
    · by_cases e2 : j = k
      · subst e2
        exact absurd ⟨i, by omega, by rw [he, e]⟩ hno
      · exact h.2 i j (by omega) (by omega) hne he

set_option maxRecDepth 100000 in
set_option maxHeartbeats 1600000 in
theorem l7Deal_any (n c q d m : Nat) (a b : Option Addr) (A : Nat → Option Addr) (L C : Nat → Nat) (Z : Nat → Nat → Int) (D : Nat → Int) (w : World) (hn1 : 1 ≤ n) (hm : m = L 0) (hm1 : 1 ≤ m) (hm4 : m ≤ 4) (hq : q ≤ 1048576) (ha0 : Tab w a n A L C Z) (hb0 : Rd w b q D) :
    Calls Try.prog 47 #[.slice a n c, .slice b q d] w fun e w' => e = .returned (.bool (tt (IsDeal q m D ∧ q = n))) ∧ Below w.heap.size w w' := by
  obtain ⟨ba, oa, rfl, hc0, _⟩ := ha0 0 hn1
  rw [Nat.add_zero, ← hm] at hc0
  have HC0 := Lib.hid hc0
  have HB := Lib.hid hb0
  have hw0 : IntKind.i64.wrap ((m : Int) - 1) = (m : Int) - 1 := by rw [IntKind.wrap_i64]; omega
  have HW := Lib.hid hw0
  clear ha0 hb0 hc0 hm hw0
  go_enter Try.func47, Try.ntmps47
  go_wp2
  go_loopw [5, 6] (fun s i wr => ∃ k S : Nat, k ≤ q ∧ i = .int .i64 k ∧ s = .int .i64 S ∧ S < 2 ^ m ∧ GotBits S k D ∧ IsDeal k m D ∧ Below w.heap.size w wr) (fun _ i _ => q - (intOf i).toNat)
  case atStart => exact ⟨0, 0, Nat.zero_le _, rfl, rfl, Nat.two_pow_pos _, fun y => ⟨fun h => by simp at h, fun ⟨j, hj, _⟩ => absurd hj (Nat.not_lt_zero _)⟩, ⟨fun i hi => absurd hi (Nat.not_lt_zero _), fun i j hi => absurd hi (Nat.not_lt_zero _)⟩, Below.refl _ _⟩
  case round =>
    obtain ⟨k, S, hk, rfl, rfl, hS, hbits, hdeal, hBw⟩ := hrel
    have BW := Lib.hid hBw
    have HS := Lib.hid hS
    have HBits := Lib.hid hbits
    have HD := Lib.hid hdeal
    have hS62 : S < 2 ^ 62 := Nat.lt_of_lt_of_le hS (Nat.pow_le_pow_right (by omega) (by omega))
    clear hBw hS hbits hdeal
    by_cases hlt : k < q
    · obtain ⟨bb, ob, rfl, hcb⟩ := (HB.out.below (Nat.le_refl _) BW.out) k hlt
      have hc0 := (BW.out.cell (p := ⟨ba, oa, none⟩) (World.block_lt_of_cell? _ _ HC0.out)).trans HC0.out
      have hkq : (k : Int) < (q : Int) := by omega
      have hn0 : (0 : Int) < (n : Int) := by omega
      by_cases he : D k = -1
      · have DK := Lib.hid (deal_none HD.out he)
        have BK := Lib.hid (show GotBits S (k + 1) D from fun y => (HBits.out y).trans ⟨fun ⟨j, hj, e⟩ => ⟨j, by omega, e⟩, fun ⟨j, hj, e⟩ => ⟨j, by
          have : j ≠ k := fun e1 => by rw [e1, he] at e; omega
          omega, e⟩⟩)
        rw [he] at hcb
        clear he hS62
        go_wp2
        go_roundw
        case rel => exact ⟨k + 1, S, by omega, by go_num, rfl, HS.out, BK.out, DK.out, BW.out⟩
        case measure => simp [intOf]; omega
      · by_cases hin : InR (D k) 0 ((m : Int) - 1)
        · obtain ⟨x, hx⟩ := Int.eq_ofNat_of_zero_le hin.1
          have hxm : x < m := by have := hin.2; omega
          have T1 := Lib.hid (tt_of hin)
          rw [hx] at hcb T1
          have HX := Lib.hid hx
          have d1 : ((x : Int) == -1) = false := beq_eq_false_iff_ne.2 (by omega)
          have hx64 : min x 64 = x := by omega
          have f1 := bit_has S x hS62
          have f2 := bit_put S x hS62 (by omega)
          have hx0 : (0 : Int) ≤ (x : Int) := by omega
          have hw0 := HW.out
          clear hin hx he
          cases hb : S.testBit x with
          | true =>
            rw [hb] at f1
            have NO := Lib.hid (tt_no (show ¬ (IsDeal q m D ∧ q = n) from fun h => by
              obtain ⟨j, hj, e⟩ := (HBits.out x).1 hb
              have := h.1.2 j k (by omega) hlt (by omega) (by rw [e, HX.out])
              omega))
            have I1 := Lib.hid (fun W => (show Calls Try.prog 74 #[.int .i64 (x : Int), .int .i64 0, .int .i64 ((m : Int) - 1)] W fun e w' => e = .returned (.bool true) ∧ Below W.heap.size W w' from (l6In_any _ _ _ _).mono fun e w' ⟨h1, h2⟩ => ⟨by rw [h1, T1.out], by rw [← h2]; exact Below.refl _ _⟩))
            clear hb
            go_wp2
            have LC := later_cell hcb
            have LC0 := later_cell hc0
            refine wp_region_later (by kernel_rfl) (by kernel_rfl) ?_
            repeat go_big_quiet_step ((go_at_call 74; exact calls_later _ (I1.out _)))
            refine wpQuiet_nil ?_
            rintro _ ⟨r, rfl⟩
            have B2 := Lib.hid (BW.out.trans (r.h.mono BW.out.size))
            go_wp2
            go_ret
            exact ⟨by rw [NO.out]; rfl, B2.out⟩
          | false =>
            rw [hb] at f1
            have hno : ¬ ∃ j, j < k ∧ D j = (x : Int) := fun h => by rw [(HBits.out x).2 h] at hb; cases hb
            have DK := Lib.hid (deal_item HD.out HX.out hxm hno)
            have SK := Lib.hid (bit_put_lt HS.out hxm)
            have BK := Lib.hid (show GotBits (S ||| 2 ^ x) (k + 1) D from fun y => by
              rw [bit_put_has, HBits.out y]
              constructor
              · rintro (⟨j, hj, e⟩ | rfl)
                · exact ⟨j, by omega, e⟩
                · exact ⟨k, by omega, HX.out⟩
              · rintro ⟨j, hj, e⟩
                by_cases e1 : j = k
                · right
                  rw [e1, HX.out] at e
                  omega
                · exact .inl ⟨j, by omega, e⟩)
            have I1 := Lib.hid (fun W => (show Calls Try.prog 74 #[.int .i64 (x : Int), .int .i64 0, .int .i64 ((m : Int) - 1)] W fun e w' => e = .returned (.bool true) ∧ Below W.heap.size W w' from (l6In_any _ _ _ _).mono fun e w' ⟨h1, h2⟩ => ⟨by rw [h1, T1.out], by rw [← h2]; exact Below.refl _ _⟩))
            clear hb hno
            go_wp2
            have LC := later_cell hcb
            have LC0 := later_cell hc0
            refine wp_region_later (by kernel_rfl) (by kernel_rfl) ?_
            repeat go_big_quiet_step ((go_at_call 74; exact calls_later _ (I1.out _)))
            refine wpQuiet_nil ?_
            rintro _ ⟨r, rfl⟩
            have B2 := Lib.hid (BW.out.trans (r.h.mono BW.out.size))
            have hcb2 := LC r
            clear LC LC0 hcb hc0
            go_wp2
            go_roundw
            case rel => exact ⟨k + 1, S ||| 2 ^ x, by omega, by go_num, rfl, SK.out, BK.out, DK.out, B2.out⟩
            case measure => simp [intOf]; omega
        · have T1 := Lib.hid (tt_no hin)
          have NO := Lib.hid (tt_no (show ¬ (IsDeal q m D ∧ q = n) from fun h => by have := h.1.1 k hlt; exact hin ⟨by omega, by omega⟩))
          obtain ⟨y, hy⟩ : ∃ y, y = D k := ⟨_, rfl⟩
          rw [← hy] at hcb T1 he
          have d1 : (y == -1) = false := beq_eq_false_iff_ne.2 he
          have hw0 := HW.out
          have I1 := Lib.hid (fun W => (show Calls Try.prog 74 #[.int .i64 y, .int .i64 0, .int .i64 ((m : Int) - 1)] W fun e w' => e = .returned (.bool false) ∧ Below W.heap.size W w' from (l6In_any _ _ _ _).mono fun e w' ⟨h1, h2⟩ => ⟨by rw [h1, T1.out], by rw [← h2]; exact Below.refl _ _⟩))
          clear hin hy he
          go_wp2
          have LC := later_cell hcb
          have LC0 := later_cell hc0
          refine wp_region_later (by kernel_rfl) (by kernel_rfl) ?_
          repeat go_big_quiet_step ((go_at_call 74; exact calls_later _ (I1.out _)))
          refine wpQuiet_nil ?_
          rintro _ ⟨r, rfl⟩
          have B2 := Lib.hid (BW.out.trans (r.h.mono BW.out.size))
          go_wp2
          go_ret
          exact ⟨by rw [NO.out]; rfl, B2.out⟩
    · obtain rfl : k = q := by omega
      have E := Lib.hid (show ((k : Int) == (n : Int)) = tt (IsDeal k m D ∧ k = n) from by
        by_cases e : k = n
        · rw [tt_of ⟨HD.out, e⟩]; simp [e]
        · rw [tt_no fun h => e h.2]; exact beq_eq_false_iff_ne.2 (by omega))
      clear hS62
      go_wp2
      go_ret
      exact ⟨by rw [← E.out]; rfl, BW.out⟩
end Go.Proofs.Ytaipodnhnekpjaa
