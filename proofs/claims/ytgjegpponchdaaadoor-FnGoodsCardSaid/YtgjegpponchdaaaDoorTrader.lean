/- People linked by pointers, in memory; where one of them points. -/
import Derived.Test.YtgjegpponchdaaaDoorTradeModel
import Derived.Test.YtgjegpponchdaaaDoorProg
import Derived.LaidEqlPtr
namespace Go.Proofs.YtgjegpponchdaaaDoor
set_option linter.unusedVariables false
set_option linter.unusedSimpArgs false
open Go.RowKit

/-- A pointer to block b. -/
def ptrV (b : Nat) : Value := .pointer (some ⟨b, 0, none⟩)

/-- n people: each one a block, with the list of wishes in a row behind it; whom each one points at, and who is gone. -/
structure Trd (w : World) (n : Nat) (Z : Nat → Nat → Int) (tb wb cp : Nat → Nat) (pt : Nat → Option Addr) (gn : Nat → Bool) : Prop where
  box : ∀ r, r < n → w.heap[tb r]? = some (.cells #[.int .i64 (r : Nat), .slice (some ⟨wb r, 0, none⟩) n (cp r), .pointer (pt r), .bool (gn r)] 83 (0, 0))
  inj : ∀ r s, r < n → s < n → tb r = tb s → r = s
  wish : ∀ r, r < n → ∀ k, k < n → w.cell? ⟨wb r, k, none⟩ = some (.pointer (some ⟨tb (Z r k).toNat, 0, none⟩))
  apart : ∀ r s, r < n → s < n → wb r ≠ tb s

namespace Trd
variable {w w' : World} {n : Nat} {Z : Nat → Nat → Int} {tb wb cp : Nat → Nat} {pt : Nat → Option Addr} {gn : Nat → Bool}
theorem c0 (h : Trd w n Z tb wb cp pt gn) {r : Nat} (hr : r < n) : w.cell? ⟨tb r, 0, none⟩ = some (.int .i64 (r : Nat)) := by rw [cell_of_row w _ 0 _ _ _ (h.box r hr)]; rfl
theorem c1 (h : Trd w n Z tb wb cp pt gn) {r : Nat} (hr : r < n) : w.cell? ⟨tb r, 1, none⟩ = some (.slice (some ⟨wb r, 0, none⟩) n (cp r)) := by rw [cell_of_row w _ 1 _ _ _ (h.box r hr)]; rfl
theorem c2 (h : Trd w n Z tb wb cp pt gn) {r : Nat} (hr : r < n) : w.cell? ⟨tb r, 2, none⟩ = some (.pointer (pt r)) := by rw [cell_of_row w _ 2 _ _ _ (h.box r hr)]; rfl
theorem c3 (h : Trd w n Z tb wb cp pt gn) {r : Nat} (hr : r < n) : w.cell? ⟨tb r, 3, none⟩ = some (.bool (gn r)) := by rw [cell_of_row w _ 3 _ _ _ (h.box r hr)]; rfl
theorem fz (h : Trd w n Z tb wb cp pt gn) {r : Nat} (hr : r < n) (j : Nat) : w.frozen? ⟨tb r, j, none⟩ = false := frozen_of_row w _ j _ _ (h.box r hr)
theorem lt (h : Trd w n Z tb wb cp pt gn) {r : Nat} (hr : r < n) : tb r < w.heap.size := (Array.getElem?_eq_some_iff.1 (h.box r hr)).1
/-- What turns none of these blocks keeps them. -/
theorem of_blocks (h : Trd w n Z tb wb cp pt gn) (e1 : ∀ r, r < n → w'.heap[tb r]? = w.heap[tb r]?) (e2 : ∀ r, r < n → w'.heap[wb r]? = w.heap[wb r]?) : Trd w' n Z tb wb cp pt gn :=
  ⟨fun r hr => (e1 r hr).trans (h.box r hr), h.inj, fun r hr k hk => (World.cell?_of_block (w := w) (a := ⟨wb r, k, none⟩) (e2 r hr)).trans (h.wish r hr k hk), h.apart⟩
theorem wlt (h : Trd w n Z tb wb cp pt gn) {r : Nat} (hr : r < n) : wb r < w.heap.size := World.block_lt_of_cell? w ⟨wb r, 0, none⟩ (h.wish r hr 0 (by omega))
theorem below (h : Trd w n Z tb wb cp pt gn) (hb : Below w.heap.size w w') : Trd w' n Z tb wb cp pt gn :=
  h.of_blocks (fun r hr => hb.block _ (h.lt hr)) (fun r hr => hb.block _ (h.wlt hr))
theorem setCell (h : Trd w n Z tb wb cp pt gn) (a : Addr) (v : Value) (h1 : ∀ r, r < n → tb r ≠ a.block) (h2 : ∀ r, r < n → wb r ≠ a.block) : Trd (w.setCell a v) n Z tb wb cp pt gn :=
  h.of_blocks (fun r hr => Below.heap_setCell _ _ _ _ (h1 r hr)) (fun r hr => Below.heap_setCell _ _ _ _ (h2 r hr))
theorem setPt (h : Trd w n Z tb wb cp pt gn) {i : Nat} (hi : i < n) (x : Option Addr) : Trd (w.setCell ⟨tb i, 2, none⟩ (.pointer x)) n Z tb wb cp (fun r => if r = i then x else pt r) gn := by
  refine ⟨fun r hr => ?_, h.inj, fun r hr k hk => ?_, h.apart⟩
  · by_cases e : r = i
    · subst e
      rw [heap_setCell_same w _ 2 _ _ _ (h.box r hr), if_pos rfl]; rfl
    · rw [if_neg e, Below.heap_setCell _ _ _ _ (fun e' => e (h.inj r i hr hi e'))]; exact h.box r hr
  · rw [World.cell?_of_block (w := w) (a := ⟨wb r, k, none⟩) (Below.heap_setCell _ _ _ _ (h.apart r i hr hi))]; exact h.wish r hr k hk
theorem setGn (h : Trd w n Z tb wb cp pt gn) {i : Nat} (hi : i < n) (x : Bool) : Trd (w.setCell ⟨tb i, 3, none⟩ (.bool x)) n Z tb wb cp pt (fun r => if r = i then x else gn r) := by
  refine ⟨fun r hr => ?_, h.inj, fun r hr k hk => ?_, h.apart⟩
  · by_cases e : r = i
    · subst e
      rw [heap_setCell_same w _ 3 _ _ _ (h.box r hr), if_pos rfl]; rfl
    · rw [if_neg e, Below.heap_setCell _ _ _ _ (fun e' => e (h.inj r i hr hi e'))]; exact h.box r hr
  · rw [World.cell?_of_block (w := w) (a := ⟨wb r, k, none⟩) (Below.heap_setCell _ _ _ _ (h.apart r i hr hi))]; exact h.wish r hr k hk
theorem congr {pt' : Nat → Option Addr} {gn' : Nat → Bool} (h : Trd w n Z tb wb cp pt gn) (e1 : ∀ r, r < n → pt r = pt' r) (e2 : ∀ r, r < n → gn r = gn' r) : Trd w n Z tb wb cp pt' gn' :=
  ⟨fun r hr => by rw [← e1 r hr, ← e2 r hr]; exact h.box r hr, h.inj, h.wish, h.apart⟩
end Trd

/-- Those who are not gone. -/
def stay (n : Nat) (gn : Nat → Bool) (y : Nat) : Bool := decide (y < n) && !gn y
theorem stay_ppl (n : Nat) (gn : Nat → Bool) : Ppl n (stay n gn) := fun y h => by unfold stay at h; simp only [Bool.and_eq_true, decide_eq_true_eq] at h; exact h.1

set_option maxHeartbeats 1600000 in
theorem point_any (n i : Nat) (L : Nat → Nat) (Z : Nat → Nat → Int) (tb wb cp : Nat → Nat) (pt : Nat → Option Addr) (gn : Nat → Bool) (w : World) (hW : IsWishes n L Z) (h : Trd w n Z tb wb cp pt gn) (hi : i < n) (hs : gn i = false) :
    Calls Tryd.prog 67 #[.pointer (some ⟨tb i, 0, none⟩)] w fun e w' => e = .returned (.tuple #[]) ∧ w' = w.setCell ⟨tb i, 2, none⟩ (.pointer (some ⟨tb (ptS Z n (stay n gn) i), 0, none⟩)) := by
  have hn5 := hW.1.2
  have HW := Lib.hid hW
  have HT := Lib.hid h
  have HS := Lib.hid (show stay n gn i = true by unfold stay; rw [hs]; simp [hi])
  have c1 := h.c1 hi
  have c2 := h.c2 hi
  have f2 := h.fz hi 2
  clear hW h hs
  go_enter Tryd.func67, Tryd.ntmps67
  go_wp2
  go_loop [3, 9] (fun _ s => ∃ k : Nat, k ≤ n ∧ s = .int .i64 k ∧ ∀ j, j < k → stay n gn (Z i j).toNat = false) (fun _ s => n - (intOf s).toNat)
  case atStart => exact ⟨0, Nat.zero_le _, rfl, fun j hj => absurd hj (Nat.not_lt_zero _)⟩
  case round =>
    obtain ⟨k, hk, rfl, hno⟩ := hrel
    have HN := Lib.hid hno
    clear hno
    by_cases hlt : k < n
    · have hck := HT.out.wish i hi k hlt
      obtain ⟨y, hy, hyn⟩ : ∃ y : Nat, (Z i k).toNat = y ∧ y < n := by
        have := (HW.out.2 i hi).2.1 k hlt
        exact ⟨_, rfl, by omega⟩
      rw [hy] at hck
      have HY := Lib.hid hy
      clear hy
      have hcy := HT.out.c3 hyn
      by_cases hg : gn y = true
      · rw [hg] at hcy
        have HG := Lib.hid (show stay n gn y = false by unfold stay; rw [hg]; simp)
        clear hg
        go_wp2
        go_round
        case rel => exact ⟨k + 1, by omega, by go_num, fun j hj => by
          by_cases e : j = k
          · subst e; rw [HY.out]; exact HG.out
          · exact HN.out j (by omega)⟩
        case measure => simp [intOf]; omega
      · have hg' : gn y = false := by simpa using hg
        rw [hg'] at hcy
        have HG := Lib.hid (show stay n gn y = true by unfold stay; rw [hg']; simp [hyn])
        clear hg hg'
        have HP := Lib.hid (show ptS Z n (stay n gn) i = y by unfold ptS; rw [ptN_first HN.out (by rw [HY.out]; exact HG.out) hlt, HY.out])
        go_wp2
        exact bodyPost_ret (results_none rfl _ _ _) rfl ⟨rfl, by rw [HP.out]⟩
    · obtain rfl : k = n := by omega
      exfalso
      obtain ⟨j, hj, e⟩ := (HW.out.2 i hi).2.all hi
      have := HN.out j hj
      rw [e, show ((i : Int)).toNat = i by omega, HS.out] at this
      cases this
end Go.Proofs.YtgjegpponchdaaaDoor
