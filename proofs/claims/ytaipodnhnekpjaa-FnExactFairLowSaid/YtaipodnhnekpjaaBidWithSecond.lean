/- The program's withSecond: bids for one item more. -/
import Derived.Test.YtaipodnhnekpjaaDealsWay
import Derived.Test.YtaipodnhnekpjaaBidDeals
namespace Go.Proofs.Ytaipodnhnekpjaa
set_option linter.unusedVariables false
set_option linter.unusedSimpArgs false
open Go.RowKit

theorem second_row {m k r : Nat} {Z : Nat → Nat → Int} {j : Nat} (h : j < m + 1) : nth (ofF m (Z r) ++ [Z r k]) j = secondZ Z m k r j := by
  rw [snoc_nth (by rw [ofF_len]; exact h), ofF_len]
  unfold secondZ
  by_cases e : j < m
  · rw [if_pos e, if_pos e, ofF_nth e]
  · rw [if_neg e, if_neg e]

set_option maxRecDepth 100000 in
set_option maxHeartbeats 1600000 in
theorem withSecond_any (n c m k : Nat) (a : Option Addr) (A : Nat → Option Addr) (L C : Nat → Nat) (Z : Nat → Nat → Int) (w : World) (hn1 : 1 ≤ n) (hn : n ≤ 4) (hm : m ≤ 4) (hk : k < m) (hL : ∀ r, r < n → L r = m) (ha0 : Tab w a n A L C Z) :
    Calls Try.prog 100 #[.slice a n c, .int .i64 (k : Nat)] w fun e w' => ∃ (g : Nat) (G Cp : Nat → Nat), e = .returned (.slice (some ⟨g, 0, none⟩) n n) ∧ Tab w' (some ⟨g, 0, none⟩) n (fun r => some ⟨G r, 0, none⟩) (fun _ => m + 1) Cp (secondZ Z m k) ∧ Below w.heap.size w w' := by
  have hmk := run_make_row' (P := Try.prog) 44 23 (.slice none 0 0) 24 Try.underlying44 Try.infoInts rfl .i64 .i64 n (by omega) (by omega)
  have HA := Lib.hid ha0
  have HL := Lib.hid hL
  clear ha0 hL
  go_enter Try.func100, Try.ntmps100
  go_wp2
  clear hmk
  obtain ⟨s, hs⟩ : ∃ s, s = w.heap.size := ⟨_, rfl⟩
  obtain ⟨w0, hw0⟩ : ∃ w0, w0 = w.alloc (.cells (madeCells #[.slice none 0 0] n) 23) := ⟨_, rfl⟩
  rw [← hw0, ← hs]
  have R0 := Lib.hid (show ∀ r, r < n → (∃ u, w0.cell? ⟨s, r, none⟩ = some u) ∧ w0.frozen? ⟨s, r, none⟩ = false from fun r hr => by
    obtain ⟨cur, h1, h2, h3⟩ := World.rowIs_made w (.slice none 0 0) n 23
    rw [← hw0, ← hs] at h1
    exact ⟨⟨_, (cell_of_row _ _ r _ _ _ h1).trans (h3 r hr)⟩, frozen_of_row _ _ r _ _ h1⟩)
  have B0 := Lib.hid (show Below w.heap.size w w0 from by rw [hw0]; exact below_alloc (Below.refl _ w) _)
  have HS := Lib.hid hs
  clear hs hw0
  go_loopw [13] (fun x wr => ∃ (i : Nat) (G Cp : Nat → Nat), i ≤ n ∧ x = .int .i64 i ∧ (∀ r, r < i → wr.cell? ⟨s, r, none⟩ = some (.slice (some ⟨G r, 0, none⟩) (m + 1) (Cp r)) ∧ s < G r ∧ G r < wr.heap.size ∧ OwnR wr (G r) (some ⟨G r, 0, none⟩) (m + 1) (secondZ Z m k r)) ∧ (∀ r, r < n → (∃ u, wr.cell? ⟨s, r, none⟩ = some u) ∧ wr.frozen? ⟨s, r, none⟩ = false) ∧ Below w.heap.size w wr) (fun x _ => n - (intOf x).toNat)
  case atStart => exact ⟨0, fun _ => 0, fun _ => 0, Nat.zero_le _, rfl, fun r hr => absurd hr (Nat.not_lt_zero _), R0.out, B0.out⟩
  case round =>
    obtain ⟨i, G, Cp, hi, rfl, hrow, hcl, hB⟩ := hrel
    have HRow := Lib.hid hrow
    have HCl := Lib.hid hcl
    have HB := Lib.hid hB
    clear hrow hcl hB R0 B0
    by_cases hlt : i < n
    · obtain ⟨ba, oa, rfl, hca, hra⟩ := HA.out.below (Nat.le_refl _) HB.out i hlt
      rw [HL.out i hlt] at hca hra
      obtain ⟨bk, ok, hak, hck⟩ := hra k hk
      rw [hak] at hca
      obtain ⟨⟨u, hu⟩, hfu⟩ := HCl.out i hlt
      have hssz := World.block_lt_of_cell? _ _ hu
      have HCc := Lib.hid (concatDeal_any (ofF m (Z i)) (Z i k) (some ⟨bk, ok, none⟩) (C i) wr (by rw [ofF_len]; omega) (.inr ⟨bk, ok, C i, rfl, by rw [ofF_len]; exact (show Rd wr (some ⟨bk, ok, none⟩) m (Z i) from by rw [← hak]; exact hra).congr fun j hj => (ofF_nth hj).symm⟩))
      rw [List.length_append, ofF_len] at HCc
      have EX := Lib.hid (show Z i k = Z i k from rfl)
      obtain ⟨x, hx⟩ : ∃ x, x = Z i k := ⟨_, rfl⟩
      have QX := Lib.hid hx
      rw [← hx] at hck HCc
      have HU := Lib.hid hu
      have HFu := Lib.hid hfu
      have HSz := Lib.hid hssz
      have j1 : (k : Int) < (m : Int) := by omega
      clear hra hak hx hu hfu hssz
      go_wp2_with (first
        | (go_at_call 93; refine HCc.out.mono ?_; rintro e w1 ⟨g1, cap1, rfl, hg1, hg2, hown1, hb1⟩; have hu := (hb1.cell (p := ⟨s, i, none⟩) HSz.out).trans HU.out; have hfu := (hb1.frozen (p := ⟨s, i, none⟩) HSz.out).trans HFu.out; have O1 := Lib.hid hown1; have B1 := Lib.hid hb1; have G1 := Lib.hid (And.intro hg1 hg2); clear hown1 hg1 hg2 hb1))
      go_roundw
      case rel =>
        have hs1 := HSz.out
        obtain ⟨hg1, hg2⟩ := G1.out
        have hsz : s < wr.heap.size := hs1
        have hB1 := B1.out
        refine ⟨i + 1, fun r => if r = i then g1 else G r, fun r => if r = i then cap1 else Cp r, by omega, by go_num, fun r hr => ?_, fun r hr => ?_, (HB.out.trans (hB1.mono HB.out.size)).setCell (by show w.heap.size ≤ s; rw [HS.out]; exact Nat.le_refl _) _⟩
        · dsimp only
          by_cases e : r = i
          · subst e
            rw [if_pos rfl, if_pos rfl]
            refine ⟨World.cell?_setCell_same' _ _ _ (by rw [hu]; rfl), by omega, by simpa using hg2, ?_⟩
            have hO := O1.out
            rw [QX.out] at hO
            exact (hO.congr fun j hj => second_row hj).of_block (Below.heap_setCell _ _ _ _ (by show g1 ≠ s; omega))
          · rw [if_neg e, if_neg e]
            obtain ⟨k1, k2, k3, k4⟩ := HRow.out r (by omega)
            refine ⟨?_, k2, by simp [World.setCell]; have := hB1.size; omega, (k4.of_block (hB1.block _ k3)).of_block (Below.heap_setCell _ _ _ _ (by show G r ≠ s; omega))⟩
            rw [World.cell?_setCell_other (a := ⟨s, i, none⟩) (b := ⟨s, r, none⟩) (h := fun h => e (by simp only [Addr.mk.injEq] at h; omega))]
            exact (hB1.cell (p := ⟨s, r, none⟩) hsz).trans k1
        · obtain ⟨⟨v, hv⟩, hf⟩ := HCl.out r hr
          refine ⟨?_, by rw [World.frozen?_setCell]; exact (hB1.frozen (p := ⟨s, r, none⟩) hsz).trans hf⟩
          by_cases e : r = i
          · subst e
            exact ⟨_, World.cell?_setCell_same' _ _ _ (by rw [hu]; rfl)⟩
          · rw [World.cell?_setCell_other (a := ⟨s, i, none⟩) (b := ⟨s, r, none⟩) (h := fun h => e (by simp only [Addr.mk.injEq] at h; omega))]
            exact ⟨v, (hB1.cell (p := ⟨s, r, none⟩) hsz).trans hv⟩
      case measure => simp [intOf]; omega
    · obtain rfl : i = n := by omega
      go_wp2
      go_ret
      exact ⟨s, G, Cp, rfl, fun r hr => ⟨s, 0, rfl, by rw [Nat.zero_add]; exact (HRow.out r hr).1, (HRow.out r hr).2.2.2.rd⟩, HB.out⟩
end Go.Proofs.Ytaipodnhnekpjaa
