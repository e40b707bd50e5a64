/- The program's OddsRest. -/
import Derived.Test.YtimkgplabbcklaaReadOdds
import Derived.Test.YtimkgplabbcklaaFraction
import Derived.Test.YtimkgplabbcklaaConcatO
namespace Go.Proofs.Ytimkgplabbcklaa
set_option linter.unusedVariables false
set_option linter.unusedSimpArgs false
open Go.RowKit

set_option maxRecDepth 100000 in
set_option maxHeartbeats 3200000 in
theorem oddsRest_all (m c : Nat) (a : Option Addr) (X : Nat → Int) (w : World) (hm0 : m ≤ 1048576) (hb0 : Rd w a m X) :
    Calls Try.prog 24 #[.slice a m c] w fun e w' => e = .returned (.tuple #[.int .i64 (restA m X), .bool (tt (RestYes m X))]) ∧ Below w.heap.size w w' := by
  have H := Lib.hid (readOdds_any m c a X w hm0 hb0)
  have hmm := @run_makeMap Try.prog
  by_cases h : RestOk m X
  · have T1 := Lib.hid (tt_of h.1)
    have hm6 := h.1.1.2
    have hm2 := h.1.1.1
    have hm5 := h.2
    have HSN := Lib.hid (fun x (hx : 1 ≤ x ∧ x ≤ 20) => And.intro (snoc_odds h.1 h.2 hx) (sure_snoc h.1 h.2 hx))
    have HF := Lib.hid (fun k hk => rest_found (k := k) h hk)
    have HN := Lib.hid (rest_none h)
    obtain ⟨ba, oa, rfl, hc0⟩ := hb0 0 (by omega)
    have HCx := Lib.hid (fun x W (hb : Below w.heap.size w W) => concatOdds_any m ba oa c X x W (by omega) (hb0.below (Nat.le_refl _) hb))
    have d1 : ((m : Int) == 6) = false := by simp; omega
    clear h hb0 hc0
    go_enter Try.func24, Try.ntmps24
    go_wp2_with (go_at_call 27; refine H.out.mono ?_; rintro e w' ⟨rfl, rfl⟩; rw [T1.out, show ∀ a : Option Addr, oddsV true a m c = .slice a m c from fun _ => rfl])
    clear hmm
    obtain ⟨b, hbb⟩ : ∃ b, b = w.heap.size := ⟨_, rfl⟩
    have M0 := Lib.hid (show ∃ es ck, (w.alloc (.map #[] 0)).heap[b]? = some (.map es ck) from ⟨_, _, by rw [hbb]; exact heap_alloc_last _ _⟩)
    have B0 := Lib.hid (below_alloc (Below.refl w.heap.size w) (.map #[] 0))
    have hwb : w.heap.size ≤ b := by omega
    rw [← hbb]
    clear hbb
    go_loopw [2, 3, 7] (fun r ok s wr => ∃ k : Nat, k ≤ 20 ∧ s = .int .i64 ((k : Int) + 1) ∧ r = .int .i64 0 ∧ ok = .bool false ∧ (∀ y : Int, 1 ≤ y → y < (k : Int) + 1 → ¬ pieceS X m + pieceN y < LC) ∧ (∃ es ck, wr.heap[b]? = some (.map es ck)) ∧ Below w.heap.size w wr) (fun _ _ s _ => 21 - (intOf s).toNat)
    case atStart => exact ⟨0, by omega, rfl, rfl, rfl, fun y h1 h2 => by omega, M0.out, B0.out⟩
    case round =>
      obtain ⟨k, hk, rfl, rfl, rfl, hno, hM, hB⟩ := hrel
      have HNO := Lib.hid hno
      have HB := Lib.hid hB
      have HM := Lib.hid hM
      have hbl : b < wr.heap.size := by obtain ⟨es, ck, he⟩ := hM; exact (Array.getElem?_eq_some_iff.1 he).1
      clear hno hB hM M0 B0
      by_cases hlt : k < 20
      · have d2 : decide ((k : Int) + 1 ≤ 20) = true := by simp; omega
        obtain ⟨x, hx⟩ : ∃ x, x = (k : Int) + 1 := ⟨_, rfl⟩
        rw [← hx] at d2 ⊢
        have hx1 : 1 ≤ x := by omega
        have hx2 : x ≤ 20 := by omega
        have hsure := (HSN.out x ⟨hx1, hx2⟩).2
        have HO := Lib.hid (HSN.out x ⟨hx1, hx2⟩).1
        have HCc := Lib.hid (HCx.out x)
        have QX := Lib.hid hx
        clear hx
        by_cases hs : SureP (m + 1) (snocF X m x)
        · have T2 := Lib.hid (tt_of hs)
          have hf := HF.out k hlt (by rw [← QX.out]; exact hsure.1 hs) HNO.out
          have K1 := Lib.hid hf.1
          have K2 := Lib.hid hf.2
          clear hs hsure hf
          go_wp2_with (first
            | (go_at_call 44; refine (HCc.out wr HB.out).mono ?_; rintro e' w5 ⟨g5, cap5, rfl, hR5, hb⟩; have R5 := Lib.hid hR5; have C5 := Lib.hid (hb.block b hbl); have B5 := Lib.hid (HB.out.trans (hb.mono HB.out.size)); have S5 := Lib.hid hb.size; clear hR5 hb)
            | (go_at_call 43; refine (keep_any b (m + 1) cap5 _ (snocF X m x) _ (by omega) R5.out HO.out.2 (by obtain ⟨es, ck, he⟩ := HM.out; exact ⟨es, ck, C5.out.trans he⟩)).mono ?_; rintro e' w6 ⟨rfl, hc, hg⟩; have C6 := Lib.hid hc; have hb6 := B5.out.grown hg B5.out.size (fun k hk => by cases hk; exact hwb); have B6 := Lib.hid hb6; clear hc hg hb6)
            | (go_at_call 29; refine (lessThanOne_any b (m + 1) (snocF X m x) _ HO.out C6.out).mono ?_; rintro e' w9 ⟨rfl, hb⟩; rw [T2.out]; have B9 := Lib.hid (B6.out.trans (hb.mono B6.out.size)); have M9 := Lib.hid (C6.out.of_block (hb.block b C6.out.lt)).map; clear hb))
          go_ret2
          exact ⟨by rw [K1.out, K2.out, QX.out]; rfl, B9.out⟩
        · have T2 := Lib.hid (tt_no hs)
          have hn := Lib.hid (fun hp => hs (hsure.2 hp))
          clear hs hsure
          go_wp2_with (first
            | (go_at_call 44; refine (HCc.out wr HB.out).mono ?_; rintro e' w5 ⟨g5, cap5, rfl, hR5, hb⟩; have R5 := Lib.hid hR5; have C5 := Lib.hid (hb.block b hbl); have B5 := Lib.hid (HB.out.trans (hb.mono HB.out.size)); have S5 := Lib.hid hb.size; clear hR5 hb)
            | (go_at_call 43; refine (keep_any b (m + 1) cap5 _ (snocF X m x) _ (by omega) R5.out HO.out.2 (by obtain ⟨es, ck, he⟩ := HM.out; exact ⟨es, ck, C5.out.trans he⟩)).mono ?_; rintro e' w6 ⟨rfl, hc, hg⟩; have C6 := Lib.hid hc; have hb6 := B5.out.grown hg B5.out.size (fun k hk => by cases hk; exact hwb); have B6 := Lib.hid hb6; clear hc hg hb6)
            | (go_at_call 29; refine (lessThanOne_any b (m + 1) (snocF X m x) _ HO.out C6.out).mono ?_; rintro e' w9 ⟨rfl, hb⟩; rw [T2.out]; have B9 := Lib.hid (B6.out.trans (hb.mono B6.out.size)); have M9 := Lib.hid (C6.out.of_block (hb.block b C6.out.lt)).map; clear hb))
          go_roundw
          case rel => exact ⟨k + 1, by omega, by rw [QX.out]; go_num, rfl, rfl, fun y h1 h2 => by
              by_cases e : y = x
              · subst e; exact hn.out
              · exact HNO.out y h1 (by have := QX.out; omega), M9.out, B9.out⟩
          case measure => have := QX.out; simp [intOf]; omega
      · obtain rfl : k = 20 := by omega
        have hf := HN.out (fun y h1 h2 => HNO.out y h1 (by omega))
        have K1 := Lib.hid hf.1
        have K2 := Lib.hid hf.2
        clear hf
        go_wp2
        go_ret2
        exact ⟨by rw [K1.out, K2.out]; rfl, HB.out⟩
  · have hf := rest_bad h
    have K1 := Lib.hid hf.1
    have K2 := Lib.hid hf.2
    clear hf hmm
    by_cases ho : IsOdds m X
    · have T1 := Lib.hid (tt_of ho)
      have hm5 : m = 6 := by
        by_cases e : m = 6
        · exact e
        · exact absurd ⟨ho, e⟩ h
      have d1 : ((m : Int) == 6) = true := by simp; omega
      clear h ho hb0
      have HM5 := Lib.hid hm5
      clear hm5
      go_enter Try.func24, Try.ntmps24
      go_wp2_with (go_at_call 27; refine H.out.mono ?_; rintro e w' ⟨rfl, rfl⟩; rw [T1.out, show ∀ a : Option Addr, oddsV true a m c = .slice a m c from fun _ => rfl])
      go_ret2
      exact ⟨by rw [K1.out, K2.out]; rfl, Below.refl _ _⟩
    · have T1 := Lib.hid (tt_no ho)
      clear h ho hb0
      go_enter Try.func24, Try.ntmps24
      go_wp2_with (go_at_call 27; refine H.out.mono ?_; rintro e w' ⟨rfl, rfl⟩; rw [T1.out, show ∀ a : Option Addr, oddsV false a m c = .slice none 0 0 from fun _ => rfl])
      go_ret2
      exact ⟨by rw [K1.out, K2.out]; rfl, Below.refl _ _⟩
theorem oddsRest_any (m c : Nat) (a : Option Addr) (X : Nat → Int) (w : World) (hm0 : m ≤ 1048576) (hmd0 : m ≤ c) (hb0 : Rd w a m X) :
    Calls Try.prog 24 #[.slice a m c] w fun e w' => e = .returned (.tuple #[.int .i64 (restA m X), .bool (tt (RestYes m X))]) ∧ Below w.heap.size w w' := oddsRest_all m c a X w hm0 hb0
end Go.Proofs.Ytimkgplabbcklaa
