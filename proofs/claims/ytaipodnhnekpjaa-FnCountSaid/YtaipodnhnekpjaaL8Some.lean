/- The model's l8Some: whether item prices are fair with some deal. -/
import Derived.Test.YtaipodnhnekpjaaL8Fair
import Derived.Test.YtaipodnhnekpjaaFairAns
import Derived.Test.YtaipodnhnekpjaaL7Most
namespace Go.Proofs.Ytaipodnhnekpjaa
set_option linter.unusedVariables false
set_option linter.unusedSimpArgs false
open Go.RowKit

set_option maxRecDepth 100000 in
set_option maxHeartbeats 1600000 in
theorem l8Some_any (n c m d : Nat) (a b : Option Addr) (A : Nat → Option Addr) (L C : Nat → Nat) (Z : Nat → Nat → Int) (P : Nat → Int) (w : World) (h : IsBids n L Z) (hm : m = L 0) (hP : ∀ x, x < m → 0 ≤ P x ∧ P x ≤ 20) (ha0 : Tab w a n A L C Z) (hb0 : Rd w b m P) :
    Calls Try.prog 52 #[.slice a n c, .slice b m d] w fun r w' => r = .returned (.bool (tt (SomeP n m Z P))) ∧ Below w.heap.size w w' := by
  subst hm
  have hn4 : n ≤ 4 := h.1.1.2
  have hm4 : L 0 ≤ 4 := h.1.2.2
  have HI := Lib.hid (fun w' (hb : Below w.heap.size w w') => l7Items_any n c (L 0) 0 a A L C Z 1 w' h.1.1.1 rfl h.1.2.1 h.1.2.2 (by omega) (ha0.below (Nat.le_refl _) hb))
  have HD := Lib.hid (fun w' ba cb a2 c2 (hba : ba < w'.heap.size) (hr : Rd w' a2 (L 0) (itemsX 0 1)) => l7Deals_any n c (L 0) a h.1.1.2 h.1.2.1 h.1.2.2 n [] (itemsX 0 1) 0 cb ba 0 c2 a2 w' rfl (by omega) (items_range (by omega)) hba (fun j hj => absurd hj (Nat.not_lt_zero _)) hr)
  have HF := Lib.hid (fun w' r g2 c2 (hb : Below w.heap.size w w') (hr : r < (dealsP (L 0) n).length) (hd : Rd w' (some ⟨g2, 0, none⟩) n (nth (rowD (L 0) n r))) => l8Fair_any n c (L 0) d c2 a b (some ⟨g2, 0, none⟩) A L C Z P (nth (rowD (L 0) n r)) w' hn4 hm4 h.rows h.cells hP (row_range hr) (ha0.below (Nat.le_refl _) hb) (hb0.below (Nat.le_refl _) hb) hd)
  obtain ⟨m, hm⟩ : ∃ m, m = L 0 := ⟨_, rfl⟩
  rw [← hm] at HI HD HF hm4 ⊢
  clear ha0 hb0 h hm hP
  go_enter Try.func52, Try.ntmps52
  go_wp2_with (first
    | (go_at_call 56; refine (HI.out _ (below_alloc (Below.refl _ _) _)).mono ?_; rintro e w2 ⟨gi, ci, rfl, hg, hO, hb⟩; have RI := Lib.hid hO.rd; have B2 := Lib.hid ((below_alloc (Below.refl w.heap.size w) (.cells #[] 3)).trans (hb.mono (by simp))); have S2 := Lib.hid (show w.heap.size < w2.heap.size by have := hb.size; simp at this; omega); clear hg hO hb)
    | (go_at_call 90; refine (HD.out _ _ _ _ _ S2.out RI.out).mono ?_; rintro e w3 ⟨g, cap, G, Cp, rfl, hM, hb⟩; rw [deals_way] at hM ⊢; have HMk := Lib.hid hM; have B3 := Lib.hid (B2.out.trans (hb.mono B2.out.size)); clear hM hb))
  have hM1296 : (dealsP m n).length ≤ 1296 := dealsP_small (by omega) hn4
  have HRow := Lib.hid (fun r (hr : r < (dealsP m n).length) => making_row HMk.out hr)
  have hgl := HMk.out.1.lt g rfl
  obtain ⟨M, hMM⟩ : ∃ M, M = (dealsP m n).length := ⟨_, rfl⟩
  rw [← hMM] at HRow HF hM1296 ⊢
  have QM := Lib.hid hMM
  clear hMM RI HI HD HMk
  go_loopw [6] (fun i wr => ∃ k : Nat, k ≤ M ∧ i = .int .i64 k ∧ (∀ r, r < k → ¬ FairP n m Z P (nth (rowD m n r))) ∧ Below w3.heap.size w3 wr) (fun i _ => M - (intOf i).toNat)
  case atStart => exact ⟨0, Nat.zero_le _, rfl, fun r hr => absurd hr (Nat.not_lt_zero _), Below.refl _ _⟩
  case round =>
    obtain ⟨k, hk, rfl, hno, hB⟩ := hrel
    have HN := Lib.hid hno
    have BR := Lib.hid hB
    have BW := Lib.hid (B3.out.trans (hB.mono B3.out.size))
    clear hB hno
    by_cases hlt : k < M
    · obtain ⟨hck0, _, hg1, hg2, _, hown⟩ := HRow.out k hlt
      have hck := (BR.out.cell (p := ⟨g, k, none⟩) hgl.2).trans hck0
      have HFk := Lib.hid (HF.out wr k (G k) (Cp k) BW.out hlt (hown.rd.below (Nat.le_refl _) BR.out))
      have hkM : (k : Int) < (M : Int) := by omega
      clear hown hg1 hg2 hck0
      by_cases he : FairP n m Z P (nth (rowD m n k))
      · have T1 := Lib.hid (tt_of he)
        have T2 := Lib.hid (tt_of (some_rows.2 ⟨k, by rw [← QM.out]; exact hlt, he⟩))
        clear he
        go_wp2_with (go_at_call 48; refine HFk.out.mono ?_; rintro e w4 ⟨rfl, hb⟩; rw [T1.out]; have B4 := Lib.hid (BW.out.trans (hb.mono BW.out.size)); clear hb)
        go_ret
        exact ⟨by rw [T2.out]; rfl, B4.out⟩
      · have T1 := Lib.hid (tt_no he)
        have HE := Lib.hid he
        clear he
        go_wp2_with (go_at_call 48; refine HFk.out.mono ?_; rintro e w4 ⟨rfl, hb⟩; rw [T1.out]; have B4 := Lib.hid (BR.out.trans (hb.mono BR.out.size)); clear hb)
        go_roundw
        case rel => exact ⟨k + 1, by omega, by go_num, fun r hr => by
          by_cases e1 : r = k
          · rw [e1]; exact HE.out
          · exact HN.out r (by omega), B4.out⟩
        case measure => simp [intOf]; omega
    · obtain rfl : k = M := by omega
      have T2 := Lib.hid (tt_no (show ¬ SomeP n m Z P from fun h => by
        obtain ⟨r, hr, hf⟩ := some_rows.1 h
        exact HN.out r (by rw [QM.out]; exact hr) hf))
      go_wp2
      go_ret
      exact ⟨by rw [T2.out]; rfl, BW.out⟩
end Go.Proofs.Ytaipodnhnekpjaa
