/- The walk of the law FnProofRate: it answers true at every code that can be read. -/
import Derived.Test.YtabdbgnkiebcdaaGreatDoorPartS2
import Derived.Test.YtabdbgnkiebcdaaGreatDoorPartS6
import Derived.Test.YtabdbgnkiebcdaaGreatDoorPartS9
namespace Go.Proofs.YtabdbgnkiebcdaaGreatDoor
set_option linter.unusedVariables false
set_option linter.unusedSimpArgs false
open Go.RowKit

theorem drawProofRate_any (n c : Nat) (a : Option Addr) (B : Nat → Nat) (w : World) (hn : n ≤ 1048576) (hc : n ≤ c) (hb : RdB w a n B) (hab : 0 < n → ∀ b o, a = some ⟨b, o, none⟩ → b < w.heap.size) :
    Calls Tryz.prog 7 #[.slice a n c] w (DrewTabTop w) := by
  have H := Lib.hid (l91One_any n c a B w hn hc hb hab)
  clear hb hab
  go_enter Tryz.func7, Tryz.ntmps7
  go_wp2_with fail
  refine H.out.mono ?_
  rintro e w1 ⟨ga, N, gc, A, L, C, Z, rfl, h⟩
  have HH := Lib.hid h
  clear h H
  go_wp2
  go_ret
  exact ⟨ga, N, gc, A, L, C, Z, rfl, HH.out⟩

/-- The text that is made is a proof, of a gain just where there is one. -/
theorem prT_proof {n : Nat} {L : Nat → Nat} {Z : Nat → Nat → Int} (hr : IsRates n L Z) : (strU (prT n L Z)).size ≤ 1048576 ∧ PrAny n L Z (strU (prT n L Z)) ∧ (PrG n L Z (strU (prT n L Z)) ↔ 0 < gainN n L Z) := by
  have hn5 := hr.1.2
  by_cases hg : 0 < gainN n L Z
  · have h1 := first_few hr hg
    have h2 := gain_few hn5 h1
    rw [prT_gain hr hg]
    have h3 : PrG n L Z (strU (wordsB gainsB (firstL n L Z))) := ⟨hr, _, h1, rfl⟩
    refine ⟨?_, ⟨hr, .inl h3.2⟩, fun _ => hg, fun _ => h3⟩
    rw [strU_size]
    have h4 := words_len gainsB _ h2.2.2
    have h5 := h2.2.1
    have h6 : gainsB.length = 5 := rfl
    omega
  · have hfo : FindOk n L Z := ⟨hr, by have h := hg; rw [gainN_yes hr] at h; omega⟩
    have FW : FewAll (numsL n (leastF (foundF Z n) n)) := numsL_few fun k hk => by
      have := (found_holds hfo).1.1.2.2 k hk
      exact ⟨by omega, by omega⟩
    have h1 : HoldQ n L Z (numsL n (leastF (foundF Z n) n)) := by
      have fh := found_holds hfo
      have eq : ∀ k, k < n → nth (numsL n (leastF (foundF Z n) n)) k = leastF (foundF Z n) n k := fun k hk => nth_nums hk
      unfold HoldQ
      rw [numsL_len]
      exact ⟨⟨⟨hr, fh.1.1.2.1, fun k hk => by rw [eq k hk]; exact fh.1.1.2.2 k hk⟩, rfl⟩, fun i hi k hk => by rw [eq i hi, eq k hk]; exact fh.2 i hi k hk⟩
    rw [prT_hold hr hg]
    refine ⟨?_, ⟨hr, .inr ⟨_, h1, rfl⟩⟩, ?_⟩
    · rw [strU_size]
      have h4 := words_len holdsB _ FW
      have h5 := numsL_len n (leastF (foundF Z n) n)
      have h6 : holdsB.length = 5 := rfl
      omega
    · refine ⟨fun h => ?_, fun h => absurd h hg⟩
      obtain ⟨_, D, _, h2⟩ := h
      exact absurd h2.symm (not_both (t := strU (wordsB gainsB D)) rfl)

set_option maxHeartbeats 3200000 in
theorem fnProofRate_walk (n c : Nat) (a : Option Addr) (B : Nat → Nat) (w : World) (hPT : PowAt w) (hNE : NumErrAt w) (hc : n ≤ c) (hb : RdB w a n B) (hab : 0 < n → ∀ b o, a = some ⟨b, o, none⟩ → b < w.heap.size) :
    Calls Tryz.prog 3 #[.slice a n c] w fun e w' => e = .returned (.bool true) ∧ Below w.heap.size w w' := by
  by_cases hfit : n ≤ 1048576
  · have hd : ¬ (1048576 < n) := by omega
    have HD := Lib.hid (drawProofRate_any n c a B w hfit hc hb hab)
    have PT := Lib.hid hPT
    have NE := Lib.hid hNE
    clear hb hab hPT hNE
    go_enter Tryz.func3, Tryz.ntmps3
    go_wp2_with fail
    refine HD.out.mono ?_
    rintro e w1 ⟨ga, N, gc, A, L, C, Z, rfl, ⟨hN1, hN5⟩, hL, hT, hb1⟩
    have HT := Lib.hid hT
    have HL := Lib.hid (show ∀ r, r < N → L r ≤ 1048576 from fun r hr => by have := hL r hr; omega)
    have B1 := Lib.hid hb1
    clear hT hL hb1 HD
    obtain ⟨X, hX⟩ : ∃ X, X = strU (prT N L Z) := ⟨_, rfl⟩
    have QX := Lib.hid hX
    by_cases hr : IsRates N L Z
    · have KR := Lib.hid (tt_of hr)
      have hp := prT_proof hr
      rw [← hX] at hp
      have KS := Lib.hid hp.1
      have KA := Lib.hid (tt_of hp.2.1)
      obtain ⟨bb, hbb⟩ : ∃ bb, bb = tt (0 < gainN N L Z) := ⟨_, rfl⟩
      have KG := Lib.hid hbb
      have hbi : (prI N L Z X = 1 ∧ bb = true) ∨ (prI N L Z X = 0 ∧ bb = false) := by
        rw [hbb]
        by_cases h : 0 < gainN N L Z
        · exact .inl ⟨prI_yes (hp.2.2.2 h), tt_of h⟩
        · exact .inr ⟨prI_no (fun h' => h (hp.2.2.1 h')), tt_no h⟩
      clear hr hp hX hbb
      rcases hbi with ⟨ki, rfl⟩ | ⟨ki, rfl⟩
      all_goals
        have KI := Lib.hid ki
        clear ki
        go_wp2_with (first
          | (go_at_call 8; refine (proofRate_any N gc ga A L C Z _ (PT.out.below (Nat.le_refl _) B1.out) (by omega) HL.out HT.out).mono ?_; rw [KR.out, ← QX.out]; rintro e w2 ⟨rfl, hb2⟩; have B2 := Lib.hid hb2; clear hb2)
          | (go_at_call 9; refine (specProofRate_any N gc ga A L C Z _ (by omega) HL.out (HT.out.below (Nat.le_refl _) B2.out)).mono ?_; rw [KR.out, ← QX.out]; rintro e w3 ⟨rfl, hb3⟩; have B3 := Lib.hid (below_chain B2.out hb3); clear hb3)
          | (go_at_call 10; refine (proofRateIs_any N gc ga A L C Z X _ (PT.out.below (Nat.le_refl _) (below_chain B1.out B3.out)) (NE.out.below (Nat.le_refl _) (below_chain B1.out B3.out)) (by omega) HL.out (HT.out.below (Nat.le_refl _) B3.out) KS.out).mono ?_; rw [KA.out, KI.out]; rintro e w4 ⟨rfl, hb4⟩; have B4 := Lib.hid (below_chain B3.out hb4); clear hb4)
          | (go_at_call 11; refine (rateGains_any N gc ga A L C Z _ (by omega) HL.out (HT.out.below (Nat.le_refl _) B4.out)).mono ?_; rw [← KG.out]; rintro e w5 ⟨rfl, hb5⟩; have B5 := Lib.hid (below_chain B4.out hb5); clear hb5))
        go_ret
        exact ⟨by first | rfl | simp, below_chain B1.out B5.out⟩
    · have KR := Lib.hid (tt_no hr)
      clear hr hX
      go_wp2_with (first
        | (go_at_call 8; refine (proofRate_any N gc ga A L C Z _ (PT.out.below (Nat.le_refl _) B1.out) (by omega) HL.out HT.out).mono ?_; rw [KR.out, ← QX.out]; rintro e w2 ⟨rfl, hb2⟩; have B2 := Lib.hid hb2; clear hb2)
        | (go_at_call 9; refine (specProofRate_any N gc ga A L C Z _ (by omega) HL.out (HT.out.below (Nat.le_refl _) B2.out)).mono ?_; rw [KR.out, ← QX.out]; rintro e w3 ⟨rfl, hb3⟩; have B3 := Lib.hid (below_chain B2.out hb3); clear hb3))
      go_ret
      exact ⟨by simp, below_chain B1.out B3.out⟩
  · have hd : 1048576 < n := by omega
    clear hb hab
    go_enter Tryz.func3, Tryz.ntmps3
    go_wp2_with fail
    go_ret
    exact ⟨rfl, Below.refl _ _⟩
end Go.Proofs.YtabdbgnkiebcdaaGreatDoor
