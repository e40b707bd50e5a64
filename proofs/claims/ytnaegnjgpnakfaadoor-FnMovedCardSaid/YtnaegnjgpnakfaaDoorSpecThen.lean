/- The model's l10Own and l10Then. -/
import Derived.Test.YtnaegnjgpnakfaaDoorTermModel
import Derived.Test.YtnaegnjgpnakfaaDoorInfoInts
namespace Go.Proofs.YtnaegnjgpnakfaaDoor
set_option linter.unusedVariables false
set_option linter.unusedSimpArgs false
open Go.RowKit

set_option maxHeartbeats 1600000 in
theorem l10Own_any (n : Nat) (w : World) (hn1 : 1 ≤ n) (hn : n ≤ 5) : Calls Tryd.prog 63 #[.int .i64 n] w (RetList 3 n idF w) := by
  obtain ⟨i0, hi, hz0, hz1, hz2⟩ := info_parts Tryd.infoInt
  go_enter Tryd.func63, Tryd.ntmps63
  go_wp2
  have R0 := Lib.hid (show (w.alloc (.cells #[] 3)).ownsRow w.heap.size 3 1 (.slice (some ⟨w.heap.size, 0, none⟩) 0 0) 0 (cellsL 0 idF) from World.ownsRow_made w #[] 0 (Nat.le_refl _) (Nat.zero_le _) (by simp))
  have B0 := Lib.hid (below_alloc (Below.refl w.heap.size w) (.cells #[] 3))
  go_loopw [3, 4] (fun row s wi => ∃ k : Nat, k ≤ n ∧ s = .int .i64 k ∧ ∃ rv, rv = row ∧ wi.ownsRow w.heap.size 3 1 rv k (cellsL k idF) ∧ Below w.heap.size w wi) (fun _ s _ => n - (intOf s).toNat)
  case atStart => exact ⟨0, Nat.zero_le _, rfl, _, rfl, R0.out, B0.out⟩
  case round =>
    obtain ⟨k, hk, rfl, rv, rfl, hown, hBu⟩ := hrel
    clear R0 B0
    have hsz := hBu.size
    by_cases hlt : k < n
    · have HO := Lib.hid hown
      have HU := Lib.hid hBu
      clear hown hBu
      go_wp2_with (at_builtin; refine wpList_append_lies _ (by rfl) (.tmp 11) (.tmp 13) 23 (by rfl) w.heap.size 3 i0 (.int .i64 0) 1 8 Tryd.underlying23 hi hz0 hz1 hz2 (by rfl) (by decide) rv k (cellsL k idF) (by rfl) (HO.out.alloc _) ⟨_, 0, none⟩ 1 1 [.int .i64 k] (by rfl) (by rfl) (news_one (by simp)) (by simp [Value.oneCell']) (by omega) (by unfold maxLen; omega) (by omega) (by first | omega | (simp; omega)) _ rfl ?_; intro g2 cap2 w2 hown2 hgrow2 hat2 hlt2; have N2 := Lib.hid hown2; have G2 := Lib.hid hgrow2; clear hown2 hgrow2 hat2)
      go_roundw
      case rel =>
        refine ⟨k + 1, by omega, by go_num, _, rfl, ?_, (below_alloc HU.out _).grown G2.out (by simp; omega) (fun k hk => (HO.out.lt k hk).1)⟩
        have h := N2.out
        rw [cellsL_snoc, cellsL_congr (Y := idF) (fun j hj => by
          by_cases e : j < k
          · simp [e]
          · have : j = k := by omega
            subst this; simp [idF])] at h
        exact h
      case measure => simp [intOf]; omega
    · obtain rfl : k = n := by omega
      obtain ⟨gr, cr, rfl⟩ := owns_form hown (by omega)
      have HO := Lib.hid hown
      have HU := Lib.hid hBu
      clear hown hBu
      go_wp2
      go_ret
      exact ⟨gr, cr, rfl, HO.out, HU.out⟩


set_option maxHeartbeats 1600000 in
theorem l10Then_any (n c d : Nat) (a b : Option Addr) (A B : Nat → Int) (w : World) (hn1 : 1 ≤ n) (hn : n ≤ 5) (hA : ∀ j, j < n → 0 ≤ A j ∧ A j < n) (ha : Rd w a n A) (hb : Rd w b n B) :
    Calls Tryd.prog 45 #[.slice a n c, .slice b n d] w (RetList 3 n (fun i => B (A i).toNat) w) := by
  obtain ⟨i0, hi, hz0, hz1, hz2⟩ := info_parts Tryd.infoInt
  have HA := Lib.hid ha
  have HBB := Lib.hid hb
  have HR := Lib.hid hA
  clear ha hb hA
  go_enter Tryd.func45, Tryd.ntmps45
  go_wp2
  have R0 := Lib.hid (show (w.alloc (.cells #[] 3)).ownsRow w.heap.size 3 1 (.slice (some ⟨w.heap.size, 0, none⟩) 0 0) 0 (cellsL 0 (fun i => B (A i).toNat)) from World.ownsRow_made w #[] 0 (Nat.le_refl _) (Nat.zero_le _) (by simp))
  have B0 := Lib.hid (below_alloc (Below.refl w.heap.size w) (.cells #[] 3))
  go_loopw [5, 6] (fun row s wi => ∃ k : Nat, k ≤ n ∧ s = .int .i64 k ∧ ∃ rv, rv = row ∧ wi.ownsRow w.heap.size 3 1 rv k (cellsL k (fun i => B (A i).toNat)) ∧ Below w.heap.size w wi) (fun _ s _ => n - (intOf s).toNat)
  case atStart => exact ⟨0, Nat.zero_le _, rfl, _, rfl, R0.out, B0.out⟩
  case round =>
    obtain ⟨k, hk, rfl, rv, rfl, hown, hBu⟩ := hrel
    clear R0 B0
    have hsz := hBu.size
    by_cases hlt : k < n
    · obtain ⟨ba, oa, rfl, hca⟩ := (HA.out.below (Nat.le_refl _) hBu) k hlt
      obtain ⟨x, hx⟩ := Int.eq_ofNat_of_zero_le (HR.out k hlt).1
      have hxn : x < n := by have := (HR.out k hlt).2; omega
      rw [hx] at hca
      obtain ⟨bb, ob, rfl, hcb⟩ := (HBB.out.below (Nat.le_refl _) hBu) x hxn
      obtain ⟨v, hv⟩ : ∃ v, v = B x := ⟨_, rfl⟩
      rw [← hv] at hcb
      have HV := Lib.hid (show B (A k).toNat = v by rw [hv, hx]; rfl)
      have HO := Lib.hid hown
      have HU := Lib.hid hBu
      clear hown hBu hx hv
      go_wp2_with (at_builtin; refine wpList_append_lies _ (by rfl) (.tmp 14) (.tmp 22) 23 (by rfl) w.heap.size 3 i0 (.int .i64 0) 1 8 Tryd.underlying23 hi hz0 hz1 hz2 (by rfl) (by decide) rv k (cellsL k (fun i => B (A i).toNat)) (by rfl) (HO.out.alloc _) ⟨_, 0, none⟩ 1 1 [.int .i64 v] (by rfl) (by rfl) (news_one (by simp)) (by simp [Value.oneCell']) (by omega) (by unfold maxLen; omega) (by omega) (by first | omega | (simp; omega)) _ rfl ?_; intro g2 cap2 w2 hown2 hgrow2 hat2 hlt2; have N2 := Lib.hid hown2; have G2 := Lib.hid hgrow2; clear hown2 hgrow2 hat2)
      go_roundw
      case rel =>
        refine ⟨k + 1, by omega, by go_num, _, rfl, ?_, (below_alloc HU.out _).grown G2.out (by simp; omega) (fun k hk => (HO.out.lt k hk).1)⟩
        have h := N2.out
        rw [cellsL_snoc, cellsL_congr (Y := fun i => B (A i).toNat) (fun j hj => by
          by_cases e : j < k
          · simp [e]
          · have : j = k := by omega
            subst this; simp [HV.out])] at h
        exact h
      case measure => simp [intOf]; omega
    · obtain rfl : k = n := by omega
      obtain ⟨gr, cr, rfl⟩ := owns_form hown (by omega)
      have HO := Lib.hid hown
      have HU := Lib.hid hBu
      clear hown hBu
      go_wp2
      go_ret
      exact ⟨gr, cr, rfl, HO.out, HU.out⟩
end Go.Proofs.YtnaegnjgpnakfaaDoor
