/- The program's ownThings, along, takers, bringBack, tradeBehind and tradeOften. -/
import Derived.Test.YtnaegnjgpnakfaaDoorTermModel
import Derived.Test.YtnaegnjgpnakfaaDoorWantModel
import Derived.Test.YtnaegnjgpnakfaaDoorLists
import Derived.Test.YtnaegnjgpnakfaaDoorInfoInts
import Derived.Test.YtnaegnjgpnakfaaDoorClone
namespace Go.Proofs.YtnaegnjgpnakfaaDoor
set_option linter.unusedVariables false
set_option linter.unusedSimpArgs false
open Go.RowKit

set_option maxHeartbeats 800000 in
theorem takers_any (m c : Nat) (a : Option Addr) (T : Nat → Int) (w : World) (hm : m ≤ 1048576) (ha : Rd w a m T) :
    Calls Tryd.prog 46 #[.slice a m c] w fun e w' => e = .returned (.int .i64 (movedN T m : Nat)) ∧ w = w' := by
  go_enter Tryd.func46, Tryd.ntmps46
  go_wp2
  go_loop [3, 4, 5, 8] (fun s _ _ i => ∃ k : Nat, k ≤ m ∧ i = .int .i64 k ∧ s = .int .i64 (movedN T k : Nat)) (fun _ _ _ i => m - (intOf i).toNat)
  case atStart => exact ⟨0, Nat.zero_le _, rfl, rfl⟩
  case round =>
    obtain ⟨k, hk, rfl, rfl⟩ := hrel
    by_cases hlt : k < m
    · obtain ⟨ba, oa, rfl, hca⟩ := ha k hlt
      have hle := movedN_le T k
      obtain ⟨x, hx⟩ : ∃ x, x = T k := ⟨_, rfl⟩
      obtain ⟨N, hN⟩ : ∃ N, N = movedN T k := ⟨_, rfl⟩
      have hnext : movedN T (k + 1) = N + if x = k then 0 else 1 := by rw [hx, hN]; rfl
      rw [← hx] at hca
      rw [← hN] at hle ⊢
      have HX := Lib.hid hnext
      clear ha hx hN hnext
      by_cases e : x = k
      · have d1 : (x != (k : Int)) = false := by simp [e]
        have E := Lib.hid (show movedN T (k + 1) = N by rw [HX.out, if_pos e]; rfl)
        clear e
        go_wp2
        go_round
        case rel => exact ⟨k + 1, by omega, by go_num, by rw [E.out]⟩
        case measure => simp [intOf]; omega
      · have d1 : (x != (k : Int)) = true := by simp [e]
        have E := Lib.hid (show movedN T (k + 1) = N + 1 by rw [HX.out, if_neg e])
        clear e
        go_wp2
        go_round
        case rel => exact ⟨k + 1, by omega, by go_num, by rw [E.out]; go_num⟩
        case measure => simp [intOf]; omega
    · obtain rfl : k = m := by omega
      clear ha
      go_wp2
      go_ret
      exact ⟨rfl, rfl⟩


set_option maxHeartbeats 800000 in
theorem own_any (n : Nat) (w : World) (hn2 : 2 ≤ n) (hn : n ≤ 6) :
    Calls Tryd.prog 76 #[.int .i64 (n : Nat)] w (RetI n idF w) := by
  have hmk := run_make_row' (P := Tryd.prog) 23 3 (.int .i64 0) 8 Tryd.underlying23 Tryd.infoInt rfl .i64 .i64 n (by omega) (by omega)
  go_enter Tryd.func76, Tryd.ntmps76
  go_wp2_with fail
  clear hmk
  obtain ⟨s, hs⟩ : ∃ s, s = w.heap.size := ⟨_, rfl⟩
  obtain ⟨w0, hw0⟩ : ∃ w0, w0 = w.alloc (.cells (madeCells #[.int .i64 0] n) 3) := ⟨_, rfl⟩
  rw [← hw0, ← hs]
  have R0 := Lib.hid (show w0.rowIs s 3 n (fun y => .int .i64 (if y < 0 then (y : Int) else 0)) from by
    have h := (World.rowIs_made w (.int .i64 0) n 3).congr (g := fun y => .int .i64 (if y < 0 then (y : Int) else 0)) (fun y _ => by rw [if_neg (Nat.not_lt_zero _)])
    rw [← hs, ← hw0] at h
    exact h)
  have B0 := Lib.hid (show Below w.heap.size w w0 from by rw [hw0]; exact below_alloc (Below.refl _ w) _)
  have hws : w.heap.size ≤ s := by omega
  have HS := Lib.hid hs
  clear hs hw0
  go_loopw [4, 9] (fun _ i wr => ∃ k : Nat, k ≤ n ∧ i = .int .i64 k ∧ wr.rowIs s 3 n (fun y => .int .i64 (if y < k then (y : Int) else 0)) ∧ Below w.heap.size w wr) (fun _ i _ => n - (intOf i).toNat)
  case atStart => exact ⟨0, Nat.zero_le _, rfl, R0.out, B0.out⟩
  case round =>
    obtain ⟨k, hk, rfl, hrow, hB⟩ := hrel
    clear R0 B0
    by_cases hlt : k < n
    · have hc0 := hrow.cell hlt
      have hf0 := hrow.frozen k
      have R1 := Lib.hid hrow
      have B2 := Lib.hid hB
      clear hrow hB
      go_wp2_with fail
      go_roundw
      case rel =>
        refine ⟨k + 1, by omega, by go_num, ?_, B2.out.setCell (p := ⟨s, k, none⟩) hws _⟩
        exact (R1.out.set k (.int .i64 (k : Nat))).congr (g := fun y => .int .i64 (if y < k + 1 then (y : Int) else 0)) (fun y _ => by
          by_cases e : y = k
          · rw [if_pos e, e, if_pos (by omega)]
          · rw [if_neg e]
            by_cases e2 : y < k
            · rw [if_pos e2, if_pos (by omega)]
            · rw [if_neg e2, if_neg (by omega)])
      case measure => simp [intOf]; omega
    · obtain rfl : k = n := by omega
      have R1 := Lib.hid hrow
      have B2 := Lib.hid hB
      clear hrow hB
      go_wp2_with fail
      go_ret
      have hl := R1.out.lt
      exact ⟨s, k, rfl, ⟨hws, hl, Nat.le_refl _⟩, (OwnR.of_row (R1.out.congr (g := fun y => .int .i64 (idF y)) (fun y hy => by show Value.int .i64 (if y < k then (y : Int) else 0) = _; rw [if_pos hy]; rfl))), B2.out⟩


theorem owns_facts {w : World} {B tI g n cap : Nat} {xs : List Value} (h : w.ownsRow B tI 1 (.slice (some ⟨g, 0, none⟩) n cap) n xs) : B ≤ g ∧ g < w.heap.size ∧ n ≤ cap := by
  obtain ⟨_, (⟨h1, _⟩ | ⟨g', cap', cur, h1, h2, h3, h4, _⟩)⟩ := h
  · cases h1
  · cases h1
    exact ⟨h2, (Array.getElem?_eq_some_iff.1 h3).1, h4⟩

set_option maxRecDepth 100000 in
set_option maxHeartbeats 1600000 in
theorem alongP_any (n c m d : Nat) (a b : Option Addr) (T C : Nat → Int) (w : World) (hn1 : 1 ≤ n) (hn : n ≤ 6) (hm1 : 1 ≤ m) (hm : m ≤ 1048576) (hC : ∀ j, j < m → 0 ≤ C j ∧ C j < n) (ha : Rd w a n T) (hb : Rd w b m C) :
    Calls Tryd.prog 75 #[.slice a n c, .slice b m d] w (RetI n (nextF T C m m) w) := by
  have H := Lib.hid (clone_any n c a T w hn1 (by omega) ha)
  have HB := Lib.hid hb
  have HC := Lib.hid hC
  clear ha hb hC
  go_enter Tryd.func75, Tryd.ntmps75
  go_wp2_with (go_at_call 90; refine H.out.mono ?_; rintro e w1 ⟨g, cap, rfl, hown, hb1⟩; obtain ⟨hg1, hg2, hg3⟩ := owns_facts hown; have O1 := Lib.hid (OwnR.of_owns hown); have B1 := Lib.hid hb1; clear hown hb1)
  go_loopw [6, 7, 12] (fun _ _ i wr => ∃ k : Nat, k ≤ m ∧ i = .int .i64 k ∧ OwnR wr g (some ⟨g, 0, none⟩) n (nextF T C m k) ∧ Below w.heap.size w wr ∧ g < wr.heap.size) (fun _ _ i _ => m - (intOf i).toNat)
  case atStart => exact ⟨0, Nat.zero_le _, rfl, O1.out, B1.out, hg2⟩
  case round =>
    obtain ⟨k, hk, rfl, hown, hB, hgs⟩ := hrel
    clear O1 B1
    by_cases hlt : k < m
    · obtain ⟨bb, ob, rfl, hcb⟩ := (HB.out.below (Nat.le_refl _) hB) k hlt
      obtain ⟨q2, hq2⟩ : ∃ q2, q2 = (k + 1) % m := ⟨_, rfl⟩
      have hq2m : q2 < m := by rw [hq2]; exact Nat.mod_lt _ (by omega)
      have htm : ((k : Int) + 1).tmod (m : Int) = (q2 : Int) := by rw [Int.tmod_eq_emod_of_nonneg (by omega), hq2, Int.natCast_emod]; rfl
      obtain ⟨b2, o2, he2, hcb2⟩ := (HB.out.below (Nat.le_refl _) hB) q2 hq2m
      cases he2
      obtain ⟨x, hx⟩ := Int.eq_ofNat_of_zero_le (HC.out k hlt).1
      have hxn : x < n := by have := (HC.out k hlt).2; omega
      obtain ⟨hc0, hf0⟩ := hown.at hxn
      rw [hx] at hcb
      obtain ⟨v, hv⟩ : ∃ v, v = C q2 := ⟨_, rfl⟩
      rw [← hv] at hcb2
      have HX := Lib.hid hx
      have HV := Lib.hid (show v = C ((k + 1) % m) by rw [hv, hq2])
      have O2 := Lib.hid hown
      have B2 := Lib.hid hB
      have i1 : (0 : Int) ≤ (x : Int) := by omega
      have i2 : (x : Int) < (n : Int) := by omega
      have i3 : (q2 : Int) < (m : Int) := by omega
      have hz : ((m : Int) == 0) = false := by simp; omega
      have hz2 : ¬ (m : Int) = 0 := by omega
      have hz3 : ¬ m = 0 := by omega
      clear hx hv hown hB hq2
      go_wp2_with fail
      go_roundw
      case rel =>
        refine ⟨k + 1, by omega, by go_num, (O2.out.set hxn v).congr (fun y _ => ?_), B2.out.setCell (p := ⟨g, x, none⟩) (by show w.heap.size ≤ g; omega) _, by simpa [World.setCell] using hgs⟩
        show _ = (if (y : Int) = C k then C ((k + 1) % m) else nextF T C m k y)
        by_cases e : y = x
        · rw [if_pos e, if_pos (by rw [HX.out, e]), HV.out]
        · rw [if_neg e, if_neg (by rw [HX.out]; omega)]
      case measure => simp [intOf]; omega
    · obtain rfl : k = m := by omega
      have O2 := Lib.hid hown
      have B2 := Lib.hid hB
      clear hown hB
      go_wp2_with fail
      go_ret
      exact ⟨g, cap, rfl, ⟨by omega, hgs, hg3⟩, O2.out, B2.out⟩


set_option maxRecDepth 100000 in
set_option maxHeartbeats 1600000 in
theorem bringBack_any (n c : Nat) (a : Option Addr) (G : Nat → Int) (w : World) (hn1 : 1 ≤ n) (hn : n ≤ 6) (hG : ∀ j, j < n → 0 ≤ G j ∧ G j < n) (ha : Rd w a n G) :
    Calls Tryd.prog 77 #[.slice a n c] w (RetI n (fun y => (invF G n y : Nat)) w) := by
  have hmk := run_make_row' (P := Tryd.prog) 23 3 (.int .i64 0) 8 Tryd.underlying23 Tryd.infoInt rfl .i64 .i64 n (by omega) (by omega)
  have HA := Lib.hid ha
  have HG := Lib.hid hG
  clear ha hG
  go_enter Tryd.func77, Tryd.ntmps77
  go_wp2_with fail
  clear hmk
  obtain ⟨s, hs⟩ : ∃ s, s = w.heap.size := ⟨_, rfl⟩
  obtain ⟨w0, hw0⟩ : ∃ w0, w0 = w.alloc (.cells (madeCells #[.int .i64 0] n) 3) := ⟨_, rfl⟩
  rw [← hw0, ← hs]
  have R0 := Lib.hid (show w0.rowIs s 3 n (fun y => .int .i64 ((invF G 0 y : Nat))) from by
    have h := (World.rowIs_made w (.int .i64 0) n 3).congr (g := fun y => .int .i64 ((invF G 0 y : Nat))) (fun y _ => rfl)
    rw [← hs, ← hw0] at h
    exact h)
  have B0 := Lib.hid (show Below w.heap.size w w0 from by rw [hw0]; exact below_alloc (Below.refl _ w) _)
  have hws : w.heap.size ≤ s := by omega
  have HS := Lib.hid hs
  clear hs hw0
  go_loopw [4, 5, 11] (fun _ _ i wr => ∃ k : Nat, k ≤ n ∧ i = .int .i64 k ∧ wr.rowIs s 3 n (fun y => .int .i64 (invF G k y : Nat)) ∧ Below w.heap.size w wr) (fun _ _ i _ => n - (intOf i).toNat)
  case atStart => exact ⟨0, Nat.zero_le _, rfl, R0.out, B0.out⟩
  case round =>
    obtain ⟨k, hk, rfl, hrow, hB⟩ := hrel
    clear R0 B0
    by_cases hlt : k < n
    · obtain ⟨ba, oa, rfl, hca⟩ := (HA.out.below (Nat.le_refl _) hB) k hlt
      obtain ⟨x, hx⟩ := Int.eq_ofNat_of_zero_le (HG.out k hlt).1
      have hxn : x < n := by have := (HG.out k hlt).2; omega
      rw [hx] at hca
      have hc0 := hrow.cell hxn
      have hf0 := hrow.frozen x
      have R1 := Lib.hid hrow
      have B2 := Lib.hid hB
      have HX := Lib.hid hx
      obtain ⟨z, hz⟩ : ∃ z, z = invF G k x := ⟨_, rfl⟩
      rw [← hz] at hc0
      clear hrow hB hx hz
      go_wp2_with fail
      go_roundw
      case rel =>
        refine ⟨k + 1, by omega, by go_num, ?_, B2.out.setCell (p := ⟨s, x, none⟩) hws _⟩
        exact (R1.out.set x (.int .i64 (k : Nat))).congr (g := fun y => .int .i64 (invF G (k + 1) y : Nat)) (fun y _ => by
          show (if y = x then _ else _) = Value.int .i64 ((if G k = y then k else invF G k y : Nat) : Int)
          by_cases e : y = x
          · rw [if_pos e, if_pos (by rw [HX.out, e])]
          · rw [if_neg e, if_neg (by rw [HX.out]; omega)])
      case measure => simp [intOf]; omega
    · obtain rfl : k = n := by omega
      have R1 := Lib.hid hrow
      have B2 := Lib.hid hB
      clear hrow hB
      go_wp2_with fail
      go_ret
      have hl := R1.out.lt
      exact ⟨s, k, rfl, ⟨hws, hl, Nat.le_refl _⟩, OwnR.of_row R1.out, B2.out⟩

set_option maxRecDepth 100000 in
set_option maxHeartbeats 1600000 in
theorem behind_any (n c d : Nat) (a b : Option Addr) (A B : Nat → Int) (w : World) (hn1 : 1 ≤ n) (hn : n ≤ 6) (hA : ∀ j, j < n → 0 ≤ A j ∧ A j < n) (ha : Rd w a n A) (hb : Rd w b n B) :
    Calls Tryd.prog 47 #[.slice a n c, .slice b n d] w (RetI n (fun i => B (A i).toNat) w) := by
  have hmk := run_make_row' (P := Tryd.prog) 23 3 (.int .i64 0) 8 Tryd.underlying23 Tryd.infoInt rfl .i64 .i64 n (by omega) (by omega)
  have HA := Lib.hid ha
  have HBB := Lib.hid hb
  have HR := Lib.hid hA
  clear ha hb hA
  go_enter Tryd.func47, Tryd.ntmps47
  go_wp2_with fail
  clear hmk
  obtain ⟨s, hs⟩ : ∃ s, s = w.heap.size := ⟨_, rfl⟩
  obtain ⟨w0, hw0⟩ : ∃ w0, w0 = w.alloc (.cells (madeCells #[.int .i64 0] n) 3) := ⟨_, rfl⟩
  rw [← hw0, ← hs]
  have R0 := Lib.hid (show w0.rowIs s 3 n (fun y => .int .i64 (if y < 0 then B (A y).toNat else 0)) from by
    have h := (World.rowIs_made w (.int .i64 0) n 3).congr (g := fun y => .int .i64 (if y < 0 then B (A y).toNat else 0)) (fun y _ => by rw [if_neg (Nat.not_lt_zero _)])
    rw [← hs, ← hw0] at h
    exact h)
  have B0 := Lib.hid (show Below w.heap.size w w0 from by rw [hw0]; exact below_alloc (Below.refl _ w) _)
  have hws : w.heap.size ≤ s := by omega
  have HS := Lib.hid hs
  clear hs hw0
  go_loopw [6, 7, 13] (fun _ _ i wr => ∃ k : Nat, k ≤ n ∧ i = .int .i64 k ∧ wr.rowIs s 3 n (fun y => .int .i64 (if y < k then B (A y).toNat else 0)) ∧ Below w.heap.size w wr) (fun _ _ i _ => n - (intOf i).toNat)
  case atStart => exact ⟨0, Nat.zero_le _, rfl, R0.out, B0.out⟩
  case round =>
    obtain ⟨k, hk, rfl, hrow, hB⟩ := hrel
    clear R0 B0
    by_cases hlt : k < n
    · obtain ⟨ba, oa, rfl, hca⟩ := (HA.out.below (Nat.le_refl _) hB) k hlt
      obtain ⟨x, hx⟩ := Int.eq_ofNat_of_zero_le (HR.out k hlt).1
      have hxn : x < n := by have := (HR.out k hlt).2; omega
      rw [hx] at hca
      obtain ⟨bb, ob, rfl, hcb⟩ := (HBB.out.below (Nat.le_refl _) hB) x hxn
      obtain ⟨v, hv⟩ : ∃ v, v = B x := ⟨_, rfl⟩
      rw [← hv] at hcb
      have hc0 := hrow.cell hlt
      have hf0 := hrow.frozen k
      have R1 := Lib.hid hrow
      have B2 := Lib.hid hB
      have HX := Lib.hid (show v = B (A k).toNat by rw [hv, hx]; rfl)
      clear hrow hB hx hv
      go_wp2_with fail
      go_roundw
      case rel =>
        refine ⟨k + 1, by omega, by go_num, ?_, B2.out.setCell (p := ⟨s, k, none⟩) hws _⟩
        exact (R1.out.set k (.int .i64 v)).congr (g := fun y => .int .i64 (if y < k + 1 then B (A y).toNat else 0)) (fun y _ => by
          by_cases e : y = k
          · rw [if_pos e, if_pos (by omega), HX.out, e]
          · rw [if_neg e]
            by_cases e2 : y < k
            · rw [if_pos e2, if_pos (by omega)]
            · rw [if_neg e2, if_neg (by omega)])
      case measure => simp [intOf]; omega
    · obtain rfl : k = n := by omega
      have R1 := Lib.hid hrow
      have B2 := Lib.hid hB
      clear hrow hB
      go_wp2_with fail
      go_ret
      have hl := R1.out.lt
      exact ⟨s, k, rfl, ⟨hws, hl, Nat.le_refl _⟩, OwnR.of_row (R1.out.congr (g := fun y => .int .i64 (B (A y).toNat)) (fun y hy => by rw [if_pos hy])), B2.out⟩

set_option maxRecDepth 100000 in
set_option maxHeartbeats 1600000 in
theorem often_any (n c q : Nat) (a : Option Addr) (G : Nat → Int) (w : World) (hq9 : q ≤ 9) (hn2 : 2 ≤ n) (hn : n ≤ 6) (hG : IsDiff n n G) (ha : Rd w a n G) :
    Calls Tryd.prog 78 #[.slice a n c, .int .i64 (q : Nat)] w (RetI n (powF G q) w) := by
  have H0 := Lib.hid (own_any n w hn2 hn)
  have HN := Lib.hid (And.intro hn2 hn)
  have HA := Lib.hid ha
  have HG := Lib.hid hG
  clear ha hG hn2 hn
  go_enter Tryd.func78, Tryd.ntmps78
  go_wp2_with (go_at_call 76; refine H0.out.mono ?_; rintro e w1 ⟨g, cap, rfl, hg, ho, hb⟩; have O1 := Lib.hid (And.intro ho hb); have G1 := Lib.hid hg; clear hg ho hb)
  go_loopw [5, 10] (fun row i wr => ∃ k : Nat, k ≤ q ∧ i = .int .i64 (k : Nat) ∧ ∃ g cap : Nat, row = .slice (some ⟨g, 0, none⟩) n cap ∧ (w.heap.size ≤ g ∧ g < wr.heap.size ∧ n ≤ cap) ∧ OwnR wr g (some ⟨g, 0, none⟩) n (powF G k) ∧ Below w.heap.size w wr) (fun _ i _ => q - (intOf i).toNat)
  case atStart => exact ⟨0, Nat.zero_le _, rfl, g, cap, rfl, G1.out, O1.out.1, O1.out.2⟩
  case round =>
    obtain ⟨k, hk, rfl, g2, cap2, rfl, hg2, ho2, hb2⟩ := hrel
    rename World => wr
    clear O1 G1
    have O2 := Lib.hid ho2
    have B2 := Lib.hid hb2
    have G2 := Lib.hid hg2
    clear ho2 hb2 hg2
    by_cases hlt : k < q
    · have HB := Lib.hid (behind_any n cap2 c (some ⟨g2, 0, none⟩) a (powF G k) G wr (by have := HN.out; omega) HN.out.2 (perm_pow HG.out k).1 O2.out.rd (HA.out.below (Nat.le_refl _) B2.out))
      go_wp2_with (go_at_call 47; refine HB.out.mono ?_; rintro e w3 ⟨g3, cap3, rfl, hg3, ho3, hb3⟩; have O3 := Lib.hid (And.intro ho3 hb3); have G3 := Lib.hid hg3; clear hg3 ho3 hb3)
      go_roundw
      case rel => exact ⟨k + 1, by omega, by go_num, g3, cap3, rfl, ⟨by have := G3.out.1; have := B2.out.size; omega, G3.out.2⟩, O3.out.1, B2.out.trans (O3.out.2.mono B2.out.size)⟩
      case measure => simp [intOf]; omega
    · obtain rfl : k = q := by omega
      go_wp2_with fail
      go_ret
      exact ⟨g2, cap2, rfl, G2.out, O2.out, B2.out⟩
end Go.Proofs.YtnaegnjgpnakfaaDoor
