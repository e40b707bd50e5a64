/- The program's ownThings, along, takers and allows. -/
import Derived.Test.YtamglhpgdaoaoaaReadWants
import Derived.Test.YtamglhpgdaoaoaaPacksModel
import Derived.Test.YtamglhpgdaoaoaaClone
namespace Go.Proofs.Ytamglhpgdaoaoaa
set_option linter.unusedVariables false
set_option linter.unusedSimpArgs false
open Go.RowKit

set_option maxHeartbeats 800000 in
theorem takers_any (m c : Nat) (a : Option Addr) (T : Nat → Int) (w : World) (hm : m ≤ 1048576) (ha : Rd w a m T) :
    Calls Try.prog 61 #[.slice a m c] w fun e w' => e = .returned (.int .i64 (movedN T m : Nat)) ∧ w = w' := by
  go_enter Try.func61, Try.ntmps61
  go_wp2
  go_loop [3, 4, 5, 8] (fun s _ _ i => ∃ k : Nat, k ≤ m ∧ i = .int .i64 k ∧ s = .int .i64 (movedN T k : Nat)) (fun _ _ _ i => m - (intOf i).toNat)
  case atStart => exact ⟨0, Nat.zero_le _, rfl, rfl⟩
  case round =>
    obtain ⟨k, hk, rfl, rfl⟩ := hrel
    by_cases hlt : k < m
    · obtain ⟨ba, oa, rfl, hca⟩ := ha k hlt
      have hle := movedN_le T k
      obtain ⟨x, hx⟩ : ∃ x, x = T k := ⟨_, rfl⟩
      obtain ⟨N, hN⟩ : ∃ N, N = movedN T k := ⟨_, rfl⟩
      have hnext : movedN T (k + 1) = N + if x = k then 0 else 1 := by rw [hx, hN]; rfl
      rw [← hx] at hca
      rw [← hN] at hle ⊢
      have HX := Lib.hid hnext
      clear ha hx hN hnext
      by_cases e : x = k
      · have d1 : (x != (k : Int)) = false := by simp [e]
        have E := Lib.hid (show movedN T (k + 1) = N by rw [HX.out, if_pos e]; rfl)
        clear e
        go_wp2
        go_round
        case rel => exact ⟨k + 1, by omega, by go_num, by rw [E.out]⟩
        case measure => simp [intOf]; omega
      · have d1 : (x != (k : Int)) = true := by simp [e]
        have E := Lib.hid (show movedN T (k + 1) = N + 1 by rw [HX.out, if_neg e])
        clear e
        go_wp2
        go_round
        case rel => exact ⟨k + 1, by omega, by go_num, by rw [E.out]; go_num⟩
        case measure => simp [intOf]; omega
    · obtain rfl : k = m := by omega
      clear ha
      go_wp2
      go_ret
      exact ⟨rfl, rfl⟩

set_option maxHeartbeats 800000 in
theorem ownThings_any (n c : Nat) (a : Option Addr) (w : World) (hn2 : 2 ≤ n) (hn : n ≤ 6) :
    Calls Try.prog 57 #[.slice a n c] w (RetI n (nth (ownF n)) w) := by
  have hmk := run_make_row' (P := Try.prog) 23 3 (.int .i64 0) 8 Try.underlying23 Try.infoInt rfl .i64 .i64 n (by omega) (by omega)
  go_enter Try.func57, Try.ntmps57
  go_wp2_with fail
  clear hmk
  obtain ⟨s, hs⟩ : ∃ s, s = w.heap.size := ⟨_, rfl⟩
  obtain ⟨w0, hw0⟩ : ∃ w0, w0 = w.alloc (.cells (madeCells #[.int .i64 0] n) 3) := ⟨_, rfl⟩
  rw [← hw0, ← hs]
  have R0 := Lib.hid (show w0.rowIs s 3 n (fun y => .int .i64 (if y < 0 then (y : Int) else 0)) from by
    have h := (World.rowIs_made w (.int .i64 0) n 3).congr (g := fun y => .int .i64 (if y < 0 then (y : Int) else 0)) (fun y _ => by rw [if_neg (Nat.not_lt_zero _)])
    rw [← hs, ← hw0] at h
    exact h)
  have B0 := Lib.hid (show Below w.heap.size w w0 from by rw [hw0]; exact below_alloc (Below.refl _ w) _)
  have hws : w.heap.size ≤ s := by omega
  have HS := Lib.hid hs
  clear hs hw0
  go_loopw [4, 10] (fun _ i wr => ∃ k : Nat, k ≤ n ∧ i = .int .i64 k ∧ wr.rowIs s 3 n (fun y => .int .i64 (if y < k then (y : Int) else 0)) ∧ Below w.heap.size w wr) (fun _ i _ => n - (intOf i).toNat)
  case atStart => exact ⟨0, Nat.zero_le _, rfl, R0.out, B0.out⟩
  case round =>
    obtain ⟨k, hk, rfl, hrow, hB⟩ := hrel
    clear R0 B0
    by_cases hlt : k < n
    · have hc0 := hrow.cell hlt
      have hf0 := hrow.frozen k
      have R1 := Lib.hid hrow
      have B2 := Lib.hid hB
      clear hrow hB
      go_wp2_with fail
      go_roundw
      case rel =>
        refine ⟨k + 1, by omega, by go_num, ?_, B2.out.setCell (p := ⟨s, k, none⟩) hws _⟩
        exact (R1.out.set k (.int .i64 (k : Nat))).congr (g := fun y => .int .i64 (if y < k + 1 then (y : Int) else 0)) (fun y _ => by
          by_cases e : y = k
          · rw [if_pos e, e, if_pos (by omega)]
          · rw [if_neg e]
            by_cases e2 : y < k
            · rw [if_pos e2, if_pos (by omega)]
            · rw [if_neg e2, if_neg (by omega)])
      case measure => simp [intOf]; omega
    · obtain rfl : k = n := by omega
      have R1 := Lib.hid hrow
      have B2 := Lib.hid hB
      clear hrow hB
      go_wp2_with fail
      go_ret
      have hl := R1.out.lt
      exact ⟨s, k, rfl, ⟨hws, hl, Nat.le_refl _⟩, (OwnR.of_row (R1.out.congr (g := fun y => .int .i64 (nth (ownF k) y)) (fun y hy => by unfold ownF; rw [nth_map hy, if_pos hy]))), B2.out⟩

theorem owns_facts {w : World} {B tI g n cap : Nat} {xs : List Value} (h : w.ownsRow B tI 1 (.slice (some ⟨g, 0, none⟩) n cap) n xs) : B ≤ g ∧ g < w.heap.size ∧ n ≤ cap := by
  obtain ⟨_, (⟨h1, _⟩ | ⟨g', cap', cur, h1, h2, h3, h4, _⟩)⟩ := h
  · cases h1
  · cases h1
    exact ⟨h2, (Array.getElem?_eq_some_iff.1 h3).1, h4⟩

set_option maxRecDepth 100000 in
set_option maxHeartbeats 1600000 in
theorem along_any (n c m d : Nat) (a b : Option Addr) (T C : Nat → Int) (w : World) (hn1 : 1 ≤ n) (hn : n ≤ 6) (hm1 : 1 ≤ m) (hm : m ≤ 1048576) (hC : ∀ j, j < m → 0 ≤ C j ∧ C j < n) (ha : Rd w a n T) (hb : Rd w b m C) :
    Calls Try.prog 56 #[.slice a n c, .slice b m d] w (RetI n (nextF T C m m) w) := by
  have H := Lib.hid (clone_any n c a T w hn1 (by omega) ha)
  have HB := Lib.hid hb
  have HC := Lib.hid hC
  clear ha hb hC
  go_enter Try.func56, Try.ntmps56
  go_wp2_with (go_at_call 69; refine H.out.mono ?_; rintro e w1 ⟨g, cap, rfl, hown, hb1⟩; obtain ⟨hg1, hg2, hg3⟩ := owns_facts hown; have O1 := Lib.hid (OwnR.of_owns hown); have B1 := Lib.hid hb1; clear hown hb1)
  go_loopw [6, 7, 12] (fun _ _ i wr => ∃ k : Nat, k ≤ m ∧ i = .int .i64 k ∧ OwnR wr g (some ⟨g, 0, none⟩) n (nextF T C m k) ∧ Below w.heap.size w wr ∧ g < wr.heap.size) (fun _ _ i _ => m - (intOf i).toNat)
  case atStart => exact ⟨0, Nat.zero_le _, rfl, O1.out, B1.out, hg2⟩
  case round =>
    obtain ⟨k, hk, rfl, hown, hB, hgs⟩ := hrel
    clear O1 B1
    by_cases hlt : k < m
    · obtain ⟨bb, ob, rfl, hcb⟩ := (HB.out.below (Nat.le_refl _) hB) k hlt
      obtain ⟨q2, hq2⟩ : ∃ q2, q2 = (k + 1) % m := ⟨_, rfl⟩
      have hq2m : q2 < m := by rw [hq2]; exact Nat.mod_lt _ (by omega)
      have htm : ((k : Int) + 1).tmod (m : Int) = (q2 : Int) := by rw [Int.tmod_eq_emod_of_nonneg (by omega), hq2, Int.natCast_emod]; rfl
      obtain ⟨b2, o2, he2, hcb2⟩ := (HB.out.below (Nat.le_refl _) hB) q2 hq2m
      cases he2
      obtain ⟨x, hx⟩ := Int.eq_ofNat_of_zero_le (HC.out k hlt).1
      have hxn : x < n := by have := (HC.out k hlt).2; omega
      obtain ⟨hc0, hf0⟩ := hown.at hxn
      rw [hx] at hcb
      obtain ⟨v, hv⟩ : ∃ v, v = C q2 := ⟨_, rfl⟩
      rw [← hv] at hcb2
      have HX := Lib.hid hx
      have HV := Lib.hid (show v = C ((k + 1) % m) by rw [hv, hq2])
      have O2 := Lib.hid hown
      have B2 := Lib.hid hB
      have i1 : (0 : Int) ≤ (x : Int) := by omega
      have i2 : (x : Int) < (n : Int) := by omega
      have i3 : (q2 : Int) < (m : Int) := by omega
      have hz : ((m : Int) == 0) = false := by simp; omega
      have hz2 : ¬ (m : Int) = 0 := by omega
      have hz3 : ¬ m = 0 := by omega
      clear hx hv hown hB hq2
      go_wp2_with fail
      go_roundw
      case rel =>
        refine ⟨k + 1, by omega, by go_num, (O2.out.set hxn v).congr (fun y _ => ?_), B2.out.setCell (p := ⟨g, x, none⟩) (by show w.heap.size ≤ g; omega) _, by simpa [World.setCell] using hgs⟩
        show _ = (if (y : Int) = C k then C ((k + 1) % m) else nextF T C m k y)
        by_cases e : y = x
        · rw [if_pos e, if_pos (by rw [HX.out, e]), HV.out]
        · rw [if_neg e, if_neg (by rw [HX.out]; omega)]
      case measure => simp [intOf]; omega
    · obtain rfl : k = m := by omega
      have O2 := Lib.hid hown
      have B2 := Lib.hid hB
      clear hown hB
      go_wp2_with fail
      go_ret
      exact ⟨g, cap, rfl, ⟨by omega, hgs, hg3⟩, O2.out, B2.out⟩

/-- Each one takes what is wanted, or keeps the own thing. -/
def AllowP (n m : Nat) (W T : Nat → Int) : Prop := ∀ i, i < m → T i = i ∨ WantsB W i (T i).toNat = true
set_option maxHeartbeats 1600000 in
theorem allows_any (n c d : Nat) (a b : Option Addr) (W T : Nat → Int) (w : World) (hW : IsWants n W) (hT : ∀ i, i < n → 0 ≤ T i ∧ T i < n) (ha : Rd w a n W) (hb : Rd w b n T) :
    Calls Try.prog 55 #[.slice a n c, .slice b n d] w fun e w' => e = .returned (.bool (tt (AllowP n n W T))) ∧ w = w' := by
  have HT := Lib.hid hT
  have HB := Lib.hid hb
  have hn6 := hW.1.2
  have HC := Lib.hid (fun i k (hi : i < n) (hk : k ≤ 61) => wants_any n c a W i k w hW ha hi hk)
  clear hT ha hb hW
  go_enter Try.func55, Try.ntmps55
  go_wp2_with fail
  go_loop [5, 6, 9] (fun _ _ i => ∃ k : Nat, k ≤ n ∧ i = .int .i64 k ∧ AllowP n k W T) (fun _ _ i => n - (intOf i).toNat)
  case atStart => exact ⟨0, Nat.zero_le _, rfl, fun j hj => absurd hj (Nat.not_lt_zero _)⟩
  case round =>
    obtain ⟨k, hk, rfl, hall⟩ := hrel
    have HA := Lib.hid hall
    clear hall
    by_cases hlt : k < n
    · obtain ⟨bb, ob, rfl, hcb⟩ := HB.out k hlt
      obtain ⟨x, hx⟩ := Int.eq_ofNat_of_zero_le (HT.out k hlt).1
      have hxn : x < n := by have := (HT.out k hlt).2; omega
      rw [hx] at hcb
      have HX := Lib.hid hx
      clear hx
      by_cases e : x = k
      · have d1 : ((x : Int) != (k : Int)) = false := by simp [e]
        have E := Lib.hid e
        clear e
        go_wp2_with fail
        go_round
        case rel => exact ⟨k + 1, by omega, by go_num, fun j hj => by
          by_cases ej : j = k
          · subst ej; left; rw [HX.out, E.out]
          · exact HA.out j (by omega)⟩
        case measure => simp [intOf]; omega
      · have d1 : ((x : Int) != (k : Int)) = true := by simp [e]; omega
        have HH := Lib.hid (HC.out k x hlt (by omega))
        have E := Lib.hid e
        clear e
        cases hb : WantsB W k x with
        | true =>
          have T1 := Lib.hid hb
          clear hb
          go_wp2_with (go_at_call 47; refine HH.out.mono ?_; rintro e w' ⟨rfl, rfl⟩; rw [T1.out])
          go_round
          case rel => exact ⟨k + 1, by omega, by go_num, fun j hj => by
            by_cases ej : j = k
            · subst ej; right; rw [HX.out, Int.toNat_natCast]; exact T1.out
            · exact HA.out j (by omega)⟩
          case measure => simp [intOf]; omega
        | false =>
          have T1 := Lib.hid hb
          have TF := Lib.hid (tt_no (show ¬ AllowP n n W T from fun h => by
            have := h k hlt
            rw [HX.out, Int.toNat_natCast, hb] at this
            rcases this with h1 | h1
            · exact E.out (by omega)
            · cases h1))
          clear hb
          go_wp2_with (go_at_call 47; refine HH.out.mono ?_; rintro e w' ⟨rfl, rfl⟩; rw [T1.out])
          go_ret
          exact ⟨by rw [TF.out]; rfl, rfl⟩
    · obtain rfl : k = n := by omega
      have TT := Lib.hid (tt_of HA.out)
      go_wp2_with fail
      go_ret
      exact ⟨by rw [TT.out]; rfl, rfl⟩
end Go.Proofs.Ytamglhpgdaoaoaa
