/- The model's OddsRest. -/
import Derived.Test.YtimkgplabbcklaaSpecOddsSure
import Derived.Test.YtimkgplabbcklaaKeepP
import Derived.Test.YtimkgplabbcklaaInfoInts
namespace Go.Proofs.Ytimkgplabbcklaa
set_option linter.unusedVariables false
set_option linter.unusedSimpArgs false
open Go.RowKit

set_option maxRecDepth 100000 in
set_option maxHeartbeats 3200000 in
theorem specOddsRest_any (m c : Nat) (a : Option Addr) (X : Nat → Int) (w : World) (hm0 : m ≤ 1048576) (hb0 : Rd w a m X) :
    Calls Try.prog 25 #[.slice a m c] w fun e w' => e = .returned (.tuple #[.int .i64 (restA m X), .bool (tt (RestYes m X))]) ∧ Below w.heap.size w w' := by
  obtain ⟨i0, hi, hz0, hz1', hz2'⟩ := info_parts Try.infoInt
  have H := Lib.hid (l9Odds_any m c a X w hm0 hb0)
  by_cases h : RestOk m X
  · have T1 := Lib.hid (tt_of h.1)
    have HX := Lib.hid h.1.2
    have hm6 := h.1.1.2
    have hm2 := h.1.1.1
    have hm5 := h.2
    have HS := Lib.hid (fun x (hx : 1 ≤ x ∧ x ≤ 20) => sure_snoc h.1 h.2 hx)
    have HF := Lib.hid (fun k hk => rest_found (k := k) h hk)
    have HN := Lib.hid (rest_none h)
    obtain ⟨ba, oa, rfl, hc0⟩ := hb0 0 (by omega)
    have HA := Lib.hid hb0
    have d1 : ((m : Int) == 6) = false := by simp; omega
    clear h hb0 hc0
    go_enter Try.func25, Try.ntmps25
    go_wp2_with (go_at_call 30; refine H.out.mono ?_; rintro e' w1 ⟨rfl, rfl⟩; rw [T1.out])
    go_loopw [2, 3, 4] (fun r ok s wr => ∃ k : Nat, k ≤ 20 ∧ s = .int .i64 ((k : Int) + 1) ∧ r = .int .i64 0 ∧ ok = .bool false ∧ (∀ y : Int, 1 ≤ y → y < (k : Int) + 1 → ¬ pieceS X m + pieceN y < LC) ∧ Below w.heap.size w wr) (fun _ _ s _ => 21 - (intOf s).toNat)
    case atStart => exact ⟨0, by omega, rfl, rfl, rfl, fun y h1 h2 => by omega, Below.refl _ _⟩
    case round =>
      obtain ⟨k, hk, rfl, rfl, rfl, hno, hB⟩ := hrel
      have HNO := Lib.hid hno
      have HB := Lib.hid hB
      have hsz := hB.size
      clear hno hB
      by_cases hlt : k < 20
      · have d2 : decide ((k : Int) + 1 ≤ 20) = true := by simp; omega
        obtain ⟨x, hx⟩ : ∃ x, x = (k : Int) + 1 := ⟨_, rfl⟩
        have HR := HA.out.below (Nat.le_refl _) HB.out
        have HNW := Lib.hid (HR.news (below_alloc (Below.refl wr.heap.size wr) (.cells #[] 3)))
        have O0 := Lib.hid (show (wr.alloc (.cells #[] 3)).ownsRow wr.heap.size 3 1 (.slice (some ⟨wr.heap.size, 0, none⟩) 0 0) 0 [] from World.ownsRow_made wr #[] 0 (Nat.le_refl _) (Nat.zero_le _) (by simp))
        rw [← hx] at d2 ⊢
        have hsure : (SureP (m + 1) (snocF X m x) ↔ pieceS X m + pieceN x < LC) := HS.out x (by omega)
        have tk : True := trivial
        have QX := Lib.hid hx
        have hx1 : 1 ≤ x := by omega
        have hx2 : x ≤ 20 := by omega
        clear hx HR
        have EX := Lib.hid (show cellsL m X ++ [.int .i64 x] = cellsL (m + 1) (snocF X m x) from cellsL_snoc m X x)
        by_cases hs : SureP (m + 1) (snocF X m x)
        · have T2 := Lib.hid (tt_of hs)
          have hf := HF.out k hlt (by rw [← QX.out]; exact hsure.1 hs) HNO.out
          have K1 := Lib.hid hf.1
          have K2 := Lib.hid hf.2
          clear hs hsure hf
          go_wp2_with (first
            | (have _t := tk; at_builtin; refine wpList_append_any _ (by rfl) (.tmp 17) (.tmp 18) 23 (by rfl) wr.heap.size 3 i0 Try.underlying23 hi hz0 hz1' hz2' wr.heap.size 0 0 [] (by rfl) O0.out ⟨ba, oa, none⟩ m c (cellsL m X) (by rfl) (by simp [cellsL]) HNW.out (cellsL_one m X) (by omega) (by simp) ?_; intro g5 cap5 w5 hown5 hgrow5; clear tk; rw [Nat.zero_add, List.nil_append] at hown5; rw [Nat.zero_add]; have O5 := Lib.hid hown5; have B5 := Lib.hid ((below_alloc (Below.refl wr.heap.size wr) (.cells #[] 3)).grown hgrow5 (by simp) (fun x hx => by cases hx; exact Nat.le_refl _)); clear hown5 hgrow5)
            | (at_builtin; refine wpList_append_any _ (by rfl) (.tmp 19) (.tmp 21) 23 (by rfl) wr.heap.size 3 i0 Try.underlying23 hi hz0 hz1' hz2' g5 m cap5 (cellsL m X) (by rfl) (O5.out.alloc _) ⟨_, 0, none⟩ 1 1 [.int .i64 x] (by rfl) (by rfl) (news_one (by simp)) (by simp [Value.oneCell']) (by omega) (by have := B5.out.size; simp; omega) ?_; intro g6 cap6 w6 hown6 hgrow6; have O6 := Lib.hid hown6; have B6 := Lib.hid ((below_alloc B5.out _).grown hgrow6 (by have := B5.out.size; simp; omega) (fun x hx => by cases hx; exact (O5.out.lt g5 rfl).1)); clear hown6 hgrow6)
            | (go_at_call 10; refine (specOddsSure_any _ _ _ _ _ (hm0 := by omega) (hb0 := by have h := O6.out; rw [EX.out] at h; exact owns_rd h)).mono ?_; rintro e' w9 ⟨rfl, hb9⟩; rw [T2.out]; have B9 := Lib.hid (B6.out.trans (hb9.mono B6.out.size)); clear hb9))
          go_ret2
          exact ⟨by rw [K1.out, K2.out, QX.out]; rfl, HB.out.trans (B9.out.mono hsz)⟩
        · have T2 := Lib.hid (tt_no hs)
          have hn := Lib.hid (fun hp => hs (hsure.2 hp))
          clear hs hsure
          go_wp2_with (first
            | (have _t := tk; at_builtin; refine wpList_append_any _ (by rfl) (.tmp 17) (.tmp 18) 23 (by rfl) wr.heap.size 3 i0 Try.underlying23 hi hz0 hz1' hz2' wr.heap.size 0 0 [] (by rfl) O0.out ⟨ba, oa, none⟩ m c (cellsL m X) (by rfl) (by simp [cellsL]) HNW.out (cellsL_one m X) (by omega) (by simp) ?_; intro g5 cap5 w5 hown5 hgrow5; clear tk; rw [Nat.zero_add, List.nil_append] at hown5; rw [Nat.zero_add]; have O5 := Lib.hid hown5; have B5 := Lib.hid ((below_alloc (Below.refl wr.heap.size wr) (.cells #[] 3)).grown hgrow5 (by simp) (fun x hx => by cases hx; exact Nat.le_refl _)); clear hown5 hgrow5)
            | (at_builtin; refine wpList_append_any _ (by rfl) (.tmp 19) (.tmp 21) 23 (by rfl) wr.heap.size 3 i0 Try.underlying23 hi hz0 hz1' hz2' g5 m cap5 (cellsL m X) (by rfl) (O5.out.alloc _) ⟨_, 0, none⟩ 1 1 [.int .i64 x] (by rfl) (by rfl) (news_one (by simp)) (by simp [Value.oneCell']) (by omega) (by have := B5.out.size; simp; omega) ?_; intro g6 cap6 w6 hown6 hgrow6; have O6 := Lib.hid hown6; have B6 := Lib.hid ((below_alloc B5.out _).grown hgrow6 (by have := B5.out.size; simp; omega) (fun x hx => by cases hx; exact (O5.out.lt g5 rfl).1)); clear hown6 hgrow6)
            | (go_at_call 10; refine (specOddsSure_any _ _ _ _ _ (hm0 := by omega) (hb0 := by have h := O6.out; rw [EX.out] at h; exact owns_rd h)).mono ?_; rintro e' w9 ⟨rfl, hb9⟩; rw [T2.out]; have B9 := Lib.hid (B6.out.trans (hb9.mono B6.out.size)); clear hb9))
          go_roundw
          case rel => exact ⟨k + 1, by omega, by rw [QX.out]; go_num, rfl, rfl, fun y h1 h2 => by
              by_cases e : y = x
              · subst e; exact hn.out
              · exact HNO.out y h1 (by have := QX.out; omega), HB.out.trans (B9.out.mono hsz)⟩
          case measure => have := QX.out; simp [intOf]; omega
      · obtain rfl : k = 20 := by omega
        have hf := HN.out (fun y h1 h2 => HNO.out y h1 (by omega))
        have K1 := Lib.hid hf.1
        have K2 := Lib.hid hf.2
        clear hf
        go_wp2
        go_ret2
        exact ⟨by rw [K1.out, K2.out]; rfl, HB.out⟩
  · have hf := rest_bad h
    have K1 := Lib.hid hf.1
    have K2 := Lib.hid hf.2
    clear hf
    by_cases ho : IsOdds m X
    · have T1 := Lib.hid (tt_of ho)
      have hm5 : m = 6 := by
        by_cases e : m = 6
        · exact e
        · exact absurd ⟨ho, e⟩ h
      have d1 : ((m : Int) == 6) = true := by simp; omega
      clear h ho hb0
      have HM5 := Lib.hid hm5
      clear hm5
      go_enter Try.func25, Try.ntmps25
      go_wp2_with (go_at_call 30; refine H.out.mono ?_; rintro e' w1 ⟨rfl, rfl⟩; rw [T1.out])
      go_ret2
      exact ⟨by rw [K1.out, K2.out]; rfl, Below.refl _ _⟩
    · have T1 := Lib.hid (tt_no ho)
      clear h ho hb0
      go_enter Try.func25, Try.ntmps25
      go_wp2_with (go_at_call 30; refine H.out.mono ?_; rintro e' w1 ⟨rfl, rfl⟩; rw [T1.out])
      go_ret2
      exact ⟨by rw [K1.out, K2.out]; rfl, Below.refl _ _⟩
end Go.Proofs.Ytimkgplabbcklaa
