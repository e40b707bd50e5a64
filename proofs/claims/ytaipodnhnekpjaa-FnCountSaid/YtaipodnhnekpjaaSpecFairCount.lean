/- The model's FairCount. -/
import Derived.Test.YtaipodnhnekpjaaFairAns
import Derived.Test.YtaipodnhnekpjaaSpecBidIn
import Derived.Test.YtaipodnhnekpjaaL8Some
namespace Go.Proofs.Ytaipodnhnekpjaa
set_option linter.unusedVariables false
set_option linter.unusedSimpArgs false
open Go.RowKit

theorem one_rd (w : World) (x : Nat) (hx : x ≤ 20) : Rd (w.alloc (.cells #[.int .i64 (x : Nat)] 3)) (some ⟨w.heap.size, 0, none⟩) 1 (dig 1 x) := fun k hk => by
  obtain rfl : k = 0 := by omega
  refine ⟨w.heap.size, 0, rfl, ?_⟩
  rw [show dig 1 x 0 = ((x : Nat) : Int) from by unfold dig; simp; omega]
  exact cell_of_row _ _ 0 _ _ _ (heap_alloc_last w _)
theorem two_rd (w : World) (x y : Nat) (hx : x ≤ 20) (hy : y ≤ 20) : Rd (w.alloc (.cells #[.int .i64 (x : Nat), .int .i64 (y : Nat)] 3)) (some ⟨w.heap.size, 0, none⟩) 2 (dig 2 (21 * x + y)) := fun k hk => by
  refine ⟨w.heap.size, 0, rfl, ?_⟩
  by_cases e : k = 0
  · subst e
    rw [show dig 2 (21 * x + y) 0 = ((x : Nat) : Int) from by unfold dig; simp; omega]
    exact cell_of_row _ _ 0 _ _ _ (heap_alloc_last w _)
  · obtain rfl : k = 1 := by omega
    rw [show dig 2 (21 * x + y) 1 = ((y : Nat) : Int) from by unfold dig; simp; omega]
    exact cell_of_row _ _ 1 _ _ _ (heap_alloc_last w _)

set_option maxRecDepth 100000 in
set_option maxHeartbeats 3200000 in
theorem specFairCount_any (n c : Nat) (a : Option Addr) (A : Nat → Option Addr) (L C : Nat → Nat) (Z : Nat → Nat → Int) (w : World) (hn0 : n ≤ 1048576) (hL0 : ∀ r, r < n → L r ≤ 1048576) (ha0 : Tab w a n A L C Z) :
    Calls Try.prog 33 #[.slice a n c] w fun e w' => e = .returned (.tuple #[.int .i64 (ifT (CountOk n L Z) (countT n (L 0) Z (21 ^ L 0) : Nat)), .bool (tt (CountOk n L Z))]) ∧ Below w.heap.size w w' := by
  have H := Lib.hid (specBidIn_any n c a A L C Z w hn0 hL0 ha0)
  by_cases h1 : IsBids n L Z
  · have T1 := Lib.hid (tt_of h1)
    have HS := Lib.hid (fun w' b d t (hb : Below w.heap.size w w') (hr : Rd w' b (L 0) (dig (L 0) t)) => l8Some_any n c (L 0) d a b A L C Z (dig (L 0) t) w' h1 rfl (fun x _ => dig_range _ _ _) (ha0.below (Nat.le_refl _) hb) hr)
    obtain ⟨ba, oa, rfl, hc0, _⟩ := ha0 0 h1.1.1.1
    rw [Nat.add_zero] at hc0
    have HC0 := Lib.hid hc0
    have hn1 := h1.1.1.1
    have hn0' : (0 : Int) < (n : Int) := by omega
    have hm1 := h1.1.2.1
    by_cases hm2 : L 0 ≤ 2
    · have OK : CountOk n L Z := ⟨h1, hm2⟩
      rw [ifT_yes OK, tt_of OK]
      obtain ⟨m, hm⟩ : ∃ m, m = L 0 := ⟨_, rfl⟩
      rw [← hm] at HS HC0 hm1 hm2 ⊢
      clear h1 ha0 hc0 hm OK
      by_cases hme : m = 1
      · subst hme
        go_enter Try.func33, Try.ntmps33
        go_wp2_with (go_at_call 45; refine H.out.mono ?_; rintro e' w1 ⟨rfl, hb⟩; rw [T1.out]; have B1 := Lib.hid hb; have hc1 := (hb.cell (p := ⟨ba, oa, none⟩) (World.block_lt_of_cell? _ _ HC0.out)).trans HC0.out; clear hb)
        go_loopw [4, 5] (fun s x wr => ∃ k : Nat, k ≤ 21 ∧ x = .int .i64 k ∧ s = .int .i64 (countT n 1 Z k : Nat) ∧ Below w.heap.size w wr) (fun _ x _ => 21 - (intOf x).toNat)
        case atStart => exact ⟨0, Nat.zero_le _, rfl, rfl, B1.out⟩
        case round =>
          obtain ⟨k, hk, rfl, rfl, hB⟩ := hrel
          have HBw := Lib.hid hB
          have hc1 := (hB.cell (p := ⟨ba, oa, none⟩) (World.block_lt_of_cell? _ _ HC0.out)).trans HC0.out
          clear hB
          have hcl := countT_le (n := n) (m := 1) (Z := Z) k
          by_cases hlt : k ≤ 20
          · have d0 : decide ((k : Int) ≤ 20) = true := by simp; omega
            by_cases hs : SomeP n 1 Z (dig 1 k)
            · have T2 := Lib.hid (tt_of hs)
              have EX := Lib.hid (countT_yes hs)
              obtain ⟨G, hG⟩ : ∃ G, G = countT n 1 Z k := ⟨_, rfl⟩
              rw [← hG] at EX hcl ⊢
              have hw1 : IntKind.i64.wrap ((G : Int) + 1) = (G : Int) + 1 := by rw [IntKind.wrap_i64]; omega
              clear hs hG
              go_wp2_with (go_at_call 52; refine (HS.out _ _ _ _ (below_alloc HBw.out _) (one_rd _ k hlt)).mono ?_; rintro e' w3 ⟨rfl, hb⟩; rw [T2.out]; have B3 := Lib.hid ((below_alloc HBw.out _).trans (hb.mono (below_alloc HBw.out _).size)); clear hb)
              go_roundw
              case rel => exact ⟨k + 1, by omega, by go_num, by rw [EX.out]; go_num, B3.out⟩
              case measure => simp [intOf]; omega
            · have T2 := Lib.hid (tt_no hs)
              have EX := Lib.hid (countT_no hs)
              clear hs
              go_wp2_with (go_at_call 52; refine (HS.out _ _ _ _ (below_alloc HBw.out _) (one_rd _ k hlt)).mono ?_; rintro e' w3 ⟨rfl, hb⟩; rw [T2.out]; have B3 := Lib.hid ((below_alloc HBw.out _).trans (hb.mono (below_alloc HBw.out _).size)); clear hb)
              go_roundw
              case rel => exact ⟨k + 1, by omega, by go_num, by rw [EX.out], B3.out⟩
              case measure => simp [intOf]; omega
          · obtain rfl : k = 21 := by omega
            go_wp2
            go_ret2
            exact ⟨rfl, HBw.out⟩
      · obtain rfl : m = 2 := by omega
        clear hme
        go_enter Try.func33, Try.ntmps33
        go_wp2_with (go_at_call 45; refine H.out.mono ?_; rintro e' w1 ⟨rfl, hb⟩; rw [T1.out]; have B1 := Lib.hid hb; have hc1 := (hb.cell (p := ⟨ba, oa, none⟩) (World.block_lt_of_cell? _ _ HC0.out)).trans HC0.out; clear hb)
        go_loopw [4, 5, 6] (fun s x _ wr => ∃ k : Nat, k ≤ 21 ∧ x = .int .i64 k ∧ s = .int .i64 (countT n 2 Z (21 * k) : Nat) ∧ Below w.heap.size w wr) (fun _ x _ _ => 21 - (intOf x).toNat)
        case atStart => exact ⟨0, Nat.zero_le _, rfl, rfl, B1.out⟩
        case round =>
          obtain ⟨k, hk, rfl, rfl, hB⟩ := hrel
          have HBo := Lib.hid hB
          have hc1 := (hB.cell (p := ⟨ba, oa, none⟩) (World.block_lt_of_cell? _ _ HC0.out)).trans HC0.out
          clear hB
          by_cases hlt : k ≤ 20
          · have d0 : decide ((k : Int) ≤ 20) = true := by simp; omega
            obtain ⟨wo, rfl⟩ : ∃ wo, wo = wr := ⟨_, rfl⟩
            go_wp2
            go_loopw [4, 6] (fun s x wr => ∃ y : Nat, y ≤ 21 ∧ x = .int .i64 y ∧ s = .int .i64 (countT n 2 Z (21 * k + y) : Nat) ∧ Below w.heap.size w wr) (fun _ x _ => 21 - (intOf x).toNat)
            case atStart => exact ⟨0, Nat.zero_le _, rfl, rfl, HBo.out⟩
            case round =>
              obtain ⟨y, hy, rfl, rfl, hB⟩ := hrel
              have HBw := Lib.hid hB
              clear hB
              have hcl := countT_le (n := n) (m := 2) (Z := Z) (21 * k + y)
              by_cases hly : y ≤ 20
              · have d0 : decide ((y : Int) ≤ 20) = true := by simp; omega
                by_cases hs : SomeP n 2 Z (dig 2 (21 * k + y))
                · have T2 := Lib.hid (tt_of hs)
                  have EX := Lib.hid (countT_yes hs)
                  obtain ⟨G, hG⟩ : ∃ G, G = countT n 2 Z (21 * k + y) := ⟨_, rfl⟩
                  rw [← hG] at EX hcl ⊢
                  have hw1 : IntKind.i64.wrap ((G : Int) + 1) = (G : Int) + 1 := by rw [IntKind.wrap_i64]; omega
                  clear hs hG
                  go_wp2_with (go_at_call 52; refine (HS.out _ _ _ _ (below_alloc HBw.out _) (two_rd _ k y hlt hly)).mono ?_; rintro e' w3 ⟨rfl, hb⟩; rw [T2.out]; have B3 := Lib.hid ((below_alloc HBw.out _).trans (hb.mono (below_alloc HBw.out _).size)); clear hb)
                  go_roundw
                  case rel => exact ⟨y + 1, by omega, by go_num, by rw [← Nat.add_assoc, EX.out]; go_num, B3.out⟩
                  case measure => simp [intOf]; omega
                · have T2 := Lib.hid (tt_no hs)
                  have EX := Lib.hid (countT_no hs)
                  clear hs
                  go_wp2_with (go_at_call 52; refine (HS.out _ _ _ _ (below_alloc HBw.out _) (two_rd _ k y hlt hly)).mono ?_; rintro e' w3 ⟨rfl, hb⟩; rw [T2.out]; have B3 := Lib.hid ((below_alloc HBw.out _).trans (hb.mono (below_alloc HBw.out _).size)); clear hb)
                  go_roundw
                  case rel => exact ⟨y + 1, by omega, by go_num, by rw [← Nat.add_assoc, EX.out], B3.out⟩
                  case measure => simp [intOf]; omega
              · obtain rfl : y = 21 := by omega
                go_wp2
                go_roundw
                case rel => exact ⟨k + 1, by omega, by go_num, by rw [show 21 * (k + 1) = 21 * k + 21 by omega], HBw.out⟩
                case measure => simp [intOf]; omega
          · obtain rfl : k = 21 := by omega
            go_wp2
            go_ret2
            exact ⟨rfl, HBo.out⟩
    · have NO : ¬ CountOk n L Z := fun h => hm2 h.2
      rw [ifT_no NO, tt_no NO]
      obtain ⟨m, hm⟩ : ∃ m, m = L 0 := ⟨_, rfl⟩
      rw [← hm] at HC0 hm2
      have d1 : decide ((m : Int) > 2) = true := by simp; omega
      clear h1 ha0 hc0 hm NO HS
      go_enter Try.func33, Try.ntmps33
      go_wp2_with (go_at_call 45; refine H.out.mono ?_; rintro e' w1 ⟨rfl, hb⟩; rw [T1.out]; have B1 := Lib.hid hb; have hc1 := (hb.cell (p := ⟨ba, oa, none⟩) (World.block_lt_of_cell? _ _ HC0.out)).trans HC0.out; clear hb)
      go_ret2
      exact ⟨rfl, B1.out⟩
  · have T1 := Lib.hid (tt_no h1)
    have NO : ¬ CountOk n L Z := fun h => h1 h.1
    rw [ifT_no NO, tt_no NO]
    clear h1 ha0 NO
    go_enter Try.func33, Try.ntmps33
    go_wp2_with (go_at_call 45; refine H.out.mono ?_; rintro e' w1 ⟨rfl, hb⟩; rw [T1.out]; have B1 := Lib.hid hb; clear hb)
    go_ret2
    exact ⟨rfl, B1.out⟩
end Go.Proofs.Ytaipodnhnekpjaa
