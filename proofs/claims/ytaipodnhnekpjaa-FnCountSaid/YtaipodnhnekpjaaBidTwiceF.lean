/- The program's withSecond, hasItem, BidTwice, BidLess. -/
import Derived.Test.YtaipodnhnekpjaaDealsWay
import Derived.Test.YtaipodnhnekpjaaBidDeals
import Derived.Test.YtaipodnhnekpjaaReadBids
import Derived.Test.YtaipodnhnekpjaaBidMost
/- The program's withSecond: bids for one item more. -/
namespace Go.Proofs.Ytaipodnhnekpjaa
set_option linter.unusedVariables false
set_option linter.unusedSimpArgs false
open Go.RowKit

theorem second_row {m k r : Nat} {Z : Nat → Nat → Int} {j : Nat} (h : j < m + 1) : nth (ofF m (Z r) ++ [Z r k]) j = secondZ Z m k r j := by
  rw [snoc_nth (by rw [ofF_len]; exact h), ofF_len]
  unfold secondZ
  by_cases e : j < m
  · rw [if_pos e, if_pos e, ofF_nth e]
  · rw [if_neg e, if_neg e]

set_option maxRecDepth 100000 in
set_option maxHeartbeats 1600000 in
theorem withSecond_any (n c m k : Nat) (a : Option Addr) (A : Nat → Option Addr) (L C : Nat → Nat) (Z : Nat → Nat → Int) (w : World) (hn1 : 1 ≤ n) (hn : n ≤ 4) (hm : m ≤ 4) (hk : k < m) (hL : ∀ r, r < n → L r = m) (ha0 : Tab w a n A L C Z) :
    Calls Try.prog 100 #[.slice a n c, .int .i64 (k : Nat)] w fun e w' => ∃ (g : Nat) (G Cp : Nat → Nat), e = .returned (.slice (some ⟨g, 0, none⟩) n n) ∧ Tab w' (some ⟨g, 0, none⟩) n (fun r => some ⟨G r, 0, none⟩) (fun _ => m + 1) Cp (secondZ Z m k) ∧ Below w.heap.size w w' := by
  have hmk := run_make_row' (P := Try.prog) 44 23 (.slice none 0 0) 24 Try.underlying44 Try.infoInts rfl .i64 .i64 n (by omega) (by omega)
  have HA := Lib.hid ha0
  have HL := Lib.hid hL
  clear ha0 hL
  go_enter Try.func100, Try.ntmps100
  go_wp2
  clear hmk
  obtain ⟨s, hs⟩ : ∃ s, s = w.heap.size := ⟨_, rfl⟩
  obtain ⟨w0, hw0⟩ : ∃ w0, w0 = w.alloc (.cells (madeCells #[.slice none 0 0] n) 23) := ⟨_, rfl⟩
  rw [← hw0, ← hs]
  have R0 := Lib.hid (show ∀ r, r < n → (∃ u, w0.cell? ⟨s, r, none⟩ = some u) ∧ w0.frozen? ⟨s, r, none⟩ = false from fun r hr => by
    obtain ⟨cur, h1, h2, h3⟩ := World.rowIs_made w (.slice none 0 0) n 23
    rw [← hw0, ← hs] at h1
    exact ⟨⟨_, (cell_of_row _ _ r _ _ _ h1).trans (h3 r hr)⟩, frozen_of_row _ _ r _ _ h1⟩)
  have B0 := Lib.hid (show Below w.heap.size w w0 from by rw [hw0]; exact below_alloc (Below.refl _ w) _)
  have HS := Lib.hid hs
  clear hs hw0
  go_loopw [13] (fun x wr => ∃ (i : Nat) (G Cp : Nat → Nat), i ≤ n ∧ x = .int .i64 i ∧ (∀ r, r < i → wr.cell? ⟨s, r, none⟩ = some (.slice (some ⟨G r, 0, none⟩) (m + 1) (Cp r)) ∧ s < G r ∧ G r < wr.heap.size ∧ OwnR wr (G r) (some ⟨G r, 0, none⟩) (m + 1) (secondZ Z m k r)) ∧ (∀ r, r < n → (∃ u, wr.cell? ⟨s, r, none⟩ = some u) ∧ wr.frozen? ⟨s, r, none⟩ = false) ∧ Below w.heap.size w wr) (fun x _ => n - (intOf x).toNat)
  case atStart => exact ⟨0, fun _ => 0, fun _ => 0, Nat.zero_le _, rfl, fun r hr => absurd hr (Nat.not_lt_zero _), R0.out, B0.out⟩
  case round =>
    obtain ⟨i, G, Cp, hi, rfl, hrow, hcl, hB⟩ := hrel
    have HRow := Lib.hid hrow
    have HCl := Lib.hid hcl
    have HB := Lib.hid hB
    clear hrow hcl hB R0 B0
    by_cases hlt : i < n
    · obtain ⟨ba, oa, rfl, hca, hra⟩ := HA.out.below (Nat.le_refl _) HB.out i hlt
      rw [HL.out i hlt] at hca hra
      obtain ⟨bk, ok, hak, hck⟩ := hra k hk
      rw [hak] at hca
      obtain ⟨⟨u, hu⟩, hfu⟩ := HCl.out i hlt
      have hssz := World.block_lt_of_cell? _ _ hu
      have HCc := Lib.hid (concatDeal_any (ofF m (Z i)) (Z i k) (some ⟨bk, ok, none⟩) (C i) wr (by rw [ofF_len]; omega) (.inr ⟨bk, ok, C i, rfl, by rw [ofF_len]; exact (show Rd wr (some ⟨bk, ok, none⟩) m (Z i) from by rw [← hak]; exact hra).congr fun j hj => (ofF_nth hj).symm⟩))
      rw [List.length_append, ofF_len] at HCc
      have EX := Lib.hid (show Z i k = Z i k from rfl)
      obtain ⟨x, hx⟩ : ∃ x, x = Z i k := ⟨_, rfl⟩
      have QX := Lib.hid hx
      rw [← hx] at hck HCc
      have HU := Lib.hid hu
      have HFu := Lib.hid hfu
      have HSz := Lib.hid hssz
      have j1 : (k : Int) < (m : Int) := by omega
      clear hra hak hx hu hfu hssz
      go_wp2_with (first
        | (go_at_call 93; refine HCc.out.mono ?_; rintro e w1 ⟨g1, cap1, rfl, hg1, hg2, hown1, hb1⟩; have hu := (hb1.cell (p := ⟨s, i, none⟩) HSz.out).trans HU.out; have hfu := (hb1.frozen (p := ⟨s, i, none⟩) HSz.out).trans HFu.out; have O1 := Lib.hid hown1; have B1 := Lib.hid hb1; have G1 := Lib.hid (And.intro hg1 hg2); clear hown1 hg1 hg2 hb1))
      go_roundw
      case rel =>
        have hs1 := HSz.out
        obtain ⟨hg1, hg2⟩ := G1.out
        have hsz : s < wr.heap.size := hs1
        have hB1 := B1.out
        refine ⟨i + 1, fun r => if r = i then g1 else G r, fun r => if r = i then cap1 else Cp r, by omega, by go_num, fun r hr => ?_, fun r hr => ?_, (HB.out.trans (hB1.mono HB.out.size)).setCell (by show w.heap.size ≤ s; rw [HS.out]; exact Nat.le_refl _) _⟩
        · dsimp only
          by_cases e : r = i
          · subst e
            rw [if_pos rfl, if_pos rfl]
            refine ⟨World.cell?_setCell_same' _ _ _ (by rw [hu]; rfl), by omega, by simpa using hg2, ?_⟩
            have hO := O1.out
            rw [QX.out] at hO
            exact (hO.congr fun j hj => second_row hj).of_block (Below.heap_setCell _ _ _ _ (by show g1 ≠ s; omega))
          · rw [if_neg e, if_neg e]
            obtain ⟨k1, k2, k3, k4⟩ := HRow.out r (by omega)
            refine ⟨?_, k2, by simp [World.setCell]; have := hB1.size; omega, (k4.of_block (hB1.block _ k3)).of_block (Below.heap_setCell _ _ _ _ (by show G r ≠ s; omega))⟩
            rw [World.cell?_setCell_other (a := ⟨s, i, none⟩) (b := ⟨s, r, none⟩) (h := fun h => e (by simp only [Addr.mk.injEq] at h; omega))]
            exact (hB1.cell (p := ⟨s, r, none⟩) hsz).trans k1
        · obtain ⟨⟨v, hv⟩, hf⟩ := HCl.out r hr
          refine ⟨?_, by rw [World.frozen?_setCell]; exact (hB1.frozen (p := ⟨s, r, none⟩) hsz).trans hf⟩
          by_cases e : r = i
          · subst e
            exact ⟨_, World.cell?_setCell_same' _ _ _ (by rw [hu]; rfl)⟩
          · rw [World.cell?_setCell_other (a := ⟨s, i, none⟩) (b := ⟨s, r, none⟩) (h := fun h => e (by simp only [Addr.mk.injEq] at h; omega))]
            exact ⟨v, (hB1.cell (p := ⟨s, r, none⟩) hsz).trans hv⟩
      case measure => simp [intOf]; omega
    · obtain rfl : i = n := by omega
      go_wp2
      go_ret
      exact ⟨s, G, Cp, rfl, fun r hr => ⟨s, 0, rfl, by rw [Nat.zero_add]; exact (HRow.out r hr).1, (HRow.out r hr).2.2.2.rd⟩, HB.out⟩
end Go.Proofs.Ytaipodnhnekpjaa

/- The program's hasItem. -/
namespace Go.Proofs.Ytaipodnhnekpjaa
set_option linter.unusedVariables false
set_option linter.unusedSimpArgs false
open Go.RowKit

theorem hasItem_any (n c : Nat) (a : Option Addr) (A : Nat → Option Addr) (L C : Nat → Nat) (Z : Nat → Nat → Int) (x : Int) (w : World) (hn : 0 < n) (ha0 : Tab w a n A L C Z) : Calls Try.prog 99 #[.slice a n c, .int .i64 x] w fun e w' => e = .returned (.bool (tt (0 ≤ x ∧ x < (L 0 : Int)))) ∧ w = w' := by
  have HI := Lib.hid (bidItems_any n c a A L C Z w hn ha0)
  clear ha0
  by_cases h1 : 0 ≤ x
  · have d1 : decide (x ≥ 0) = true := by simpa using h1
    by_cases h2 : x < (L 0 : Int)
    · have d2 : decide (x < (L 0 : Int)) = true := by simpa using h2
      have T1 := Lib.hid (tt_of (show 0 ≤ x ∧ x < (L 0 : Int) from ⟨h1, h2⟩))
      clear h1 h2
      go_enter Try.func99, Try.ntmps99
      go_wp2_with (go_at_call 61; refine HI.out.mono ?_; rintro e w' ⟨rfl, rfl⟩)
      go_ret
      exact ⟨by rw [T1.out]; rfl, rfl⟩
    · have d2 : decide (x < (L 0 : Int)) = false := by simpa using h2
      have T1 := Lib.hid (tt_no (show ¬ (0 ≤ x ∧ x < (L 0 : Int)) from fun h => h2 h.2))
      clear h1 h2
      go_enter Try.func99, Try.ntmps99
      go_wp2_with (go_at_call 61; refine HI.out.mono ?_; rintro e w' ⟨rfl, rfl⟩)
      go_ret
      exact ⟨by rw [T1.out]; rfl, rfl⟩
  · have d1 : decide (x ≥ 0) = false := by simpa using h1
    have T1 := Lib.hid (tt_no (show ¬ (0 ≤ x ∧ x < (L 0 : Int)) from fun h => h1 h.1))
    clear h1
    go_enter Try.func99, Try.ntmps99
    go_wp2
    go_ret
    exact ⟨by rw [T1.out]; rfl, rfl⟩
end Go.Proofs.Ytaipodnhnekpjaa

/- The program's BidTwice. -/
namespace Go.Proofs.Ytaipodnhnekpjaa
set_option linter.unusedVariables false
set_option linter.unusedSimpArgs false
open Go.RowKit

theorem second_cells {n m k : Nat} {Z : Nat → Nat → Int} (hk : k < m) (hZ : ∀ r, r < n → ∀ x, x < m → 0 ≤ Z r x ∧ Z r x ≤ 20) : ∀ r, r < n → ∀ x, x < m + 1 → 0 ≤ secondZ Z m k r x ∧ secondZ Z m k r x ≤ 20 := fun r hr x hx => by
  unfold secondZ
  by_cases e : x < m
  · rw [if_pos e]; exact hZ r hr x e
  · rw [if_neg e]; exact hZ r hr k hk

set_option maxHeartbeats 800000 in
theorem bidTwice_any (n c : Nat) (a : Option Addr) (A : Nat → Option Addr) (L C : Nat → Nat) (Z : Nat → Nat → Int) (x : Int) (w : World) (hn0 : n ≤ 1048576) (hL0 : ∀ r, r < n → L r ≤ 1048576) (ha0 : Tab w a n A L C Z) (hx1 : I64 x) :
    Calls Try.prog 64 #[.slice a n c, .int .i64 x] w fun e w' => e = .returned (.tuple #[.int .i64 (ifT (IsBids n L Z ∧ 0 ≤ x ∧ x < (L 0 : Int)) (twiceV n (L 0) Z x.toNat)), .bool (tt (IsBids n L Z ∧ 0 ≤ x ∧ x < (L 0 : Int)))]) ∧ Below w.heap.size w w' := by
  have hba := Below.refl w.heap.size w
  have HA := ha0.below (Nat.le_refl _) hba
  have H := Lib.hid (readBids_any n c a A L C Z w hn0 hL0 HA)
  by_cases h1 : IsBids n L Z
  · have T1 := Lib.hid (tt_of h1)
    have HH := Lib.hid (hasItem_any n c a A L C Z x w (by have := h1.1.1.1; omega) HA)
    by_cases h2 : 0 ≤ x ∧ x < (L 0 : Int)
    · have T2 := Lib.hid (tt_of h2)
      have T3 := Lib.hid (tt_of (show IsBids n L Z ∧ 0 ≤ x ∧ x < (L 0 : Int) from ⟨h1, h2⟩))
      have T4 := Lib.hid (ifT_yes (x := twiceV n (L 0) Z x.toNat) (show IsBids n L Z ∧ 0 ≤ x ∧ x < (L 0 : Int) from ⟨h1, h2⟩))
      obtain ⟨i, rfl⟩ := Int.eq_ofNat_of_zero_le h2.1
      have hi : i < L 0 := by have := h2.2; omega
      rw [Int.toNat_natCast] at T4 ⊢
      have HW := Lib.hid (withSecond_any n c (L 0) i a A L C Z w h1.1.1.1 h1.1.1.2 h1.1.2.2 hi h1.rows HA)
      have HM := Lib.hid (fun (g : Nat) (G Cp : Nat → Nat) w' (hT : Tab w' (some ⟨g, 0, none⟩) n (fun r => some ⟨G r, 0, none⟩) (fun _ => L 0 + 1) Cp (secondZ Z (L 0) i)) => show Calls Try.prog 59 #[.slice (some ⟨g, 0, none⟩) n n, .func (.func 60) #[] #[]] w' fun e w2 => e = .returned (.int .i64 (twiceV n (L 0) Z i)) ∧ Below w'.heap.size w' w2 from by
        have h := most_all n n (L 0 + 1) _ _ _ _ _ w' h1.1.1.1 h1.1.1.2 (by have := h1.1.2.2; omega) (fun _ _ => rfl) (second_cells hi h1.cells) hT
        rw [second_way hi] at h
        exact h)

      obtain ⟨y, hy⟩ : ∃ y, y = twiceV n (L 0) Z i := ⟨_, rfl⟩
      rw [← hy] at HM T4 ⊢
      rw [T4.out]
      have BA := Lib.hid hba
      clear h1 h2 ha0 HA hy hba T4
      go_enter Try.func64, Try.ntmps64
      go_wp2_with (first
        | (go_at_call 58; refine H.out.mono ?_; rintro e w' ⟨rfl, rfl⟩; rw [T1.out, show bidsV true a n c = .slice a n c from rfl])
        | (go_at_call 99; refine HH.out.mono ?_; rintro e w' ⟨rfl, rfl⟩; rw [T2.out])
        | (go_at_call 100; refine HW.out.mono ?_; rintro e w2 ⟨g, G, Cp, rfl, hT, hb⟩; have HT := Lib.hid hT; have B2 := Lib.hid hb; clear hT hb)
        | (go_at_call 59; refine (HM.out _ _ _ _ HT.out).mono ?_; rintro e w3 ⟨rfl, hb⟩; have B := Lib.hid (B2.out.trans (hb.mono B2.out.size)); clear hb))
      go_ret2
      exact ⟨by rw [T3.out]; rfl, B.out⟩
    · have T2 := Lib.hid (tt_no h2)
      have T3 := Lib.hid (tt_no (show ¬ (IsBids n L Z ∧ 0 ≤ x ∧ x < (L 0 : Int)) from fun h => h2 h.2))
      have T4 := Lib.hid (ifT_no (x := twiceV n (L 0) Z x.toNat) (show ¬ (IsBids n L Z ∧ 0 ≤ x ∧ x < (L 0 : Int)) from fun h => h2 h.2))
      have BA := Lib.hid hba
      clear h1 h2 ha0 HA hba
      go_enter Try.func64, Try.ntmps64
      go_wp2_with (first
        | (go_at_call 58; refine H.out.mono ?_; rintro e w' ⟨rfl, rfl⟩; rw [T1.out, show bidsV true a n c = .slice a n c from rfl])
        | (go_at_call 99; refine HH.out.mono ?_; rintro e w' ⟨rfl, rfl⟩; rw [T2.out]))
      go_ret2
      exact ⟨by rw [T3.out, T4.out]; rfl, BA.out⟩
  · have T1 := Lib.hid (tt_no h1)
    have T3 := Lib.hid (tt_no (show ¬ (IsBids n L Z ∧ 0 ≤ x ∧ x < (L 0 : Int)) from fun h => h1 h.1))
    have T4 := Lib.hid (ifT_no (x := twiceV n (L 0) Z x.toNat) (show ¬ (IsBids n L Z ∧ 0 ≤ x ∧ x < (L 0 : Int)) from fun h => h1 h.1))
    have BA := Lib.hid hba
    clear h1 ha0 HA hba
    go_enter Try.func64, Try.ntmps64
    go_wp2_with (go_at_call 58; refine H.out.mono ?_; rintro e w' ⟨rfl, rfl⟩; rw [T1.out, show bidsV false a n c = .slice none 0 0 from rfl])
    go_ret2
    exact ⟨by rw [T3.out, T4.out]; rfl, BA.out⟩
end Go.Proofs.Ytaipodnhnekpjaa

/- The program's BidLess. -/
namespace Go.Proofs.Ytaipodnhnekpjaa
set_option linter.unusedVariables false
set_option linter.unusedSimpArgs false
open Go.RowKit

theorem less1_gives (ib i n cD : Nat) (aD : Option Addr) (D : Nat → Int) (W : World) (hn : n ≤ 1000) (hc : W.cell? ⟨ib, 0, none⟩ = some (.int .i64 (i : Nat))) (hd : Rd W aD n D) :
    FnGives Try.prog 101 #[.pointer (some ⟨ib, 0, none⟩)] #[.slice aD n cD] (.bool (!tt (HasI n D (i : Int)))) W := by
  unfold FnGives
  show Calls Try.prog 101 #[.slice aD n cD, .pointer (some ⟨ib, 0, none⟩)] W _
  have HC := Lib.hid (contains_any n cD aD D (i : Nat) W (by omega) hd)
  obtain ⟨b, hb⟩ : ∃ b, b = tt (HasI n D (i : Int)) := ⟨_, rfl⟩
  rw [← hb] at HC ⊢
  clear hd hb
  go_enter Try.func101, Try.ntmps101
  go_wp2_with (go_at_call 89; refine HC.out.mono ?_; rintro e w' ⟨rfl, rfl⟩)
  go_ret
  exact ⟨rfl, 0, rfl⟩

theorem less_has {n m i : Nat} {D : List Int} (h : D ∈ dealsP m n) : (!tt (HasI n (nth D) (i : Int))) = true ↔ ∀ j, j < n → nth D j ≠ (i : Int) := by
  by_cases e : HasI n (nth D) (i : Int)
  · rw [tt_of e]
    obtain ⟨j, hj, ej⟩ := e
    exact ⟨fun h => absurd h (by decide), fun h => absurd ej (h j hj)⟩
  · rw [tt_no e]
    exact ⟨fun _ j hj ej => e ⟨j, hj, ej⟩, fun _ => rfl⟩

set_option maxHeartbeats 800000 in
theorem bidLess_any (n c : Nat) (a : Option Addr) (A : Nat → Option Addr) (L C : Nat → Nat) (Z : Nat → Nat → Int) (x : Int) (w : World) (hn0 : n ≤ 1048576) (hL0 : ∀ r, r < n → L r ≤ 1048576) (ha0 : Tab w a n A L C Z) (hx1 : I64 x) :
    Calls Try.prog 66 #[.slice a n c, .int .i64 x] w fun e w' => e = .returned (.tuple #[.int .i64 (ifT (IsBids n L Z ∧ 0 ≤ x ∧ x < (L 0 : Int)) (lessV n (L 0) Z x.toNat)), .bool (tt (IsBids n L Z ∧ 0 ≤ x ∧ x < (L 0 : Int)))]) ∧ Below w.heap.size w w' := by
  have hba := below_alloc (Below.refl w.heap.size w) (.cells #[.int .i64 x] 3)
  have hxa := cell_of_row _ _ 0 _ _ _ (heap_alloc_last w (.cells #[.int .i64 x] 3))
  obtain ⟨wa, hwa⟩ : ∃ wa, wa = w.alloc (.cells #[.int .i64 x] 3) := ⟨_, rfl⟩
  rw [← hwa] at hba hxa
  have HA := ha0.below (Nat.le_refl _) hba
  have H := Lib.hid (readBids_any n c a A L C Z wa hn0 hL0 HA)
  by_cases h1 : IsBids n L Z
  · have T1 := Lib.hid (tt_of h1)
    have HH := Lib.hid (hasItem_any n c a A L C Z x wa (by have := h1.1.1.1; omega) HA)
    by_cases h2 : 0 ≤ x ∧ x < (L 0 : Int)
    · have T2 := Lib.hid (tt_of h2)
      have T3 := Lib.hid (tt_of (show IsBids n L Z ∧ 0 ≤ x ∧ x < (L 0 : Int) from ⟨h1, h2⟩))
      have T4 := Lib.hid (ifT_yes (x := lessV n (L 0) Z x.toNat) (show IsBids n L Z ∧ 0 ≤ x ∧ x < (L 0 : Int) from ⟨h1, h2⟩))
      obtain ⟨i, rfl⟩ := Int.eq_ofNat_of_zero_le h2.1
      have hi : i < L 0 := by have := h2.2; omega
      rw [Int.toNat_natCast] at T4 ⊢
      have HM := Lib.hid (show Calls Try.prog 59 #[.slice a n c, .func (.func 101) #[] #[.pointer (some ⟨w.heap.size, 0, none⟩)]] wa fun e w' => e = .returned (.int .i64 (lessV n (L 0) Z i)) ∧ Below wa.heap.size wa w' from by
        have h := most_any n c (L 0) a A L C Z wa h1.1.1.1 h1.1.1.2 (by have := h1.1.2.2; omega) h1.rows h1.cells HA _ #[.pointer (some ⟨w.heap.size, 0, none⟩)] (enters_of Try.func101 (by kernel_rfl) rfl) (fun D => !tt (HasI n (nth D) (i : Int))) (fun W D aD cD hb hD hd => less1_gives w.heap.size i n cD aD (nth D) W (by have := h1.1.1.2; omega) ((hb.cell (p := ⟨w.heap.size, 0, none⟩) (World.block_lt_of_cell? _ _ hxa)).trans hxa) hd) (by rw [tt_no]; rfl; rintro ⟨j, hj, e⟩; rw [nth_none hj] at e; omega)
        rw [less_way hi _ fun D hD => less_has hD] at h
        exact h)

      obtain ⟨y, hy⟩ : ∃ y, y = lessV n (L 0) Z i := ⟨_, rfl⟩
      rw [← hy] at HM T4 ⊢
      rw [T4.out]
      have BA := Lib.hid hba
      have HXA := Lib.hid hxa
      clear h1 h2 ha0 HA hy hba T4
      go_enter Try.func66, Try.ntmps66
      go_wp2_with fail
      rw [← hwa]
      clear hwa
      refine H.out.mono ?_
      rintro e w' ⟨rfl, rfl⟩
      rw [T1.out, show bidsV true a n c = .slice a n c from rfl]
      go_wp2_with (first
        | (go_at_call 99; refine HH.out.mono ?_; rintro e w' ⟨rfl, rfl⟩; rw [T2.out])
        | (go_at_call 59; refine HM.out.mono ?_; rintro e w2 ⟨rfl, hb⟩; have B := Lib.hid (BA.out.trans (hb.mono BA.out.size)); clear hb))
      go_ret2
      exact ⟨by rw [T3.out]; rfl, B.out⟩
    · have T2 := Lib.hid (tt_no h2)
      have T3 := Lib.hid (tt_no (show ¬ (IsBids n L Z ∧ 0 ≤ x ∧ x < (L 0 : Int)) from fun h => h2 h.2))
      have T4 := Lib.hid (ifT_no (x := lessV n (L 0) Z x.toNat) (show ¬ (IsBids n L Z ∧ 0 ≤ x ∧ x < (L 0 : Int)) from fun h => h2 h.2))
      have BA := Lib.hid hba
      clear h1 h2 ha0 HA hba
      go_enter Try.func66, Try.ntmps66
      go_wp2_with fail
      rw [← hwa]
      clear hwa
      refine H.out.mono ?_
      rintro e w' ⟨rfl, rfl⟩
      rw [T1.out, show bidsV true a n c = .slice a n c from rfl]
      go_wp2_with (first
        | (go_at_call 99; refine HH.out.mono ?_; rintro e w' ⟨rfl, rfl⟩; rw [T2.out]))
      go_ret2
      exact ⟨by rw [T3.out, T4.out]; rfl, BA.out⟩
  · have T1 := Lib.hid (tt_no h1)
    have T3 := Lib.hid (tt_no (show ¬ (IsBids n L Z ∧ 0 ≤ x ∧ x < (L 0 : Int)) from fun h => h1 h.1))
    have T4 := Lib.hid (ifT_no (x := lessV n (L 0) Z x.toNat) (show ¬ (IsBids n L Z ∧ 0 ≤ x ∧ x < (L 0 : Int)) from fun h => h1 h.1))
    have BA := Lib.hid hba
    clear h1 ha0 HA hba
    go_enter Try.func66, Try.ntmps66
    go_wp2_with fail
    rw [← hwa]
    clear hwa
    refine H.out.mono ?_
    rintro e w' ⟨rfl, rfl⟩
    rw [T1.out, show bidsV false a n c = .slice none 0 0 from rfl]
    go_wp2
    go_ret2
    exact ⟨by rw [T3.out, T4.out]; rfl, BA.out⟩
end Go.Proofs.Ytaipodnhnekpjaa
