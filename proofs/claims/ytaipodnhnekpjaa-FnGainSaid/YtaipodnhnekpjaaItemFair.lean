/- The program's lists of item prices, gains, fair. -/
import Derived.Test.YtaipodnhnekpjaaFairFn
import Derived.Test.YtaipodnhnekpjaaReadBids
import Derived.BigQuiet
import Derived.Lib.MinMax
import Derived.Test.YtaipodnhnekpjaaContains
/- The program's lists of item prices: of, withinLimits; readBidsAndPrices. -/
namespace Go.Proofs.Ytaipodnhnekpjaa
set_option linter.unusedVariables false
set_option linter.unusedSimpArgs false
open Go.RowKit

theorem priceOf_any (q d k : Nat) (b : Option Addr) (P : Nat → Int) (w : World) (hk : k < q) (hb0 : Rd w b q P) :
    Calls Try.prog 111 #[.slice b q d, .int .i64 (k : Nat)] w fun e w' => e = .returned (.int .i64 (P k)) ∧ w' = w := by
  obtain ⟨bb, ob, rfl, hcb⟩ := hb0 k hk
  obtain ⟨p, hp⟩ : ∃ p, p = P k := ⟨_, rfl⟩
  rw [← hp] at hcb ⊢
  have i1 : (0 : Int) ≤ (k : Int) := by omega
  have i2 : (k : Int) < (q : Int) := by omega
  clear hb0 hp
  go_enter Try.func111, Try.ntmps111
  go_wp2
  go_ret
  exact ⟨rfl, rfl⟩

theorem priceOut_any (x : Int) (w : World) :
    Calls Try.prog 109 #[.int .i64 x] w fun e w' => e = .returned (.bool (tt (¬ (0 ≤ x ∧ x ≤ 20)))) ∧ w = w' := by
  by_cases h1 : x < 0
  · have d1 : decide (x < 0) = true := by simpa using h1
    have T := Lib.hid (tt_of (show ¬ (0 ≤ x ∧ x ≤ 20) from fun h => by omega))
    clear h1
    go_enter Try.func109, Try.ntmps109
    go_wp2
    go_ret
    exact ⟨by rw [T.out]; rfl, rfl⟩
  · have d1 : decide (x < 0) = false := by simpa using h1
    by_cases h2 : x > 20
    · have d2 : decide (x > 20) = true := by simpa using h2
      have T := Lib.hid (tt_of (show ¬ (0 ≤ x ∧ x ≤ 20) from fun h => by omega))
      clear h1 h2
      go_enter Try.func109, Try.ntmps109
      go_wp2
      go_ret
      exact ⟨by rw [T.out]; rfl, rfl⟩
    · have d2 : decide (x > 20) = false := by simpa using h2
      have T := Lib.hid (tt_no (show ¬ ¬ (0 ≤ x ∧ x ≤ 20) from fun h => h ⟨by omega, by omega⟩))
      clear h1 h2
      go_enter Try.func109, Try.ntmps109
      go_wp2
      go_ret
      exact ⟨by rw [T.out]; rfl, rfl⟩

set_option maxHeartbeats 800000 in
theorem indexOut_any (m d : Nat) (b : Option Addr) (P : Nat → Int) (w : World) (hm : m ≤ 1048576) (hr : Rd w b m P) :
    Calls Try.prog 118 #[.slice b m d, .func (.func 109) #[] #[]] w fun e w' => (∃ x, e = .returned (.int .i64 x) ∧ decide (x ≥ 0) = !tt (∀ k, k < m → 0 ≤ P k ∧ P k ≤ 20)) ∧ w = w' := by
  have HR := Lib.hid hr
  clear hr
  go_enter Try.func118, Try.ntmps118
  go_wp2_with fail
  go_loop [4, 5, 8] (fun _ _ s => ∃ k : Nat, k ≤ m ∧ s = .int .i64 k ∧ ∀ i, i < k → 0 ≤ P i ∧ P i ≤ 20) (fun _ _ s => m - (intOf s).toNat)
  case atStart => exact ⟨0, Nat.zero_le _, rfl, fun i hi => absurd hi (Nat.not_lt_zero _)⟩
  case round =>
    obtain ⟨k, hk, rfl, hall⟩ := hrel
    have HAll := Lib.hid hall
    clear hall
    by_cases hlt : k < m
    · obtain ⟨ba, oa, rfl, hca⟩ := HR.out k hlt
      by_cases e : 0 ≤ P k ∧ P k ≤ 20
      · have T1 := Lib.hid (tt_no (show ¬ ¬ (0 ≤ P k ∧ P k ≤ 20) from fun h => h e))
        have E := Lib.hid e
        clear e
        go_wp2_with (go_at_call 109; refine (priceOut_any _ _).mono ?_; rintro e w' ⟨rfl, rfl⟩; rw [T1.out])
        go_round
        case rel => exact ⟨k + 1, by omega, by go_num, fun i hi => by
          by_cases ei : i = k
          · rw [ei]; exact E.out
          · exact HAll.out i (by omega)⟩
        case measure => simp [intOf]; omega
      · have T1 := Lib.hid (tt_of e)
        have E := Lib.hid (tt_no (show ¬ ∀ k, k < m → 0 ≤ P k ∧ P k ≤ 20 from fun h => e (h k hlt)))
        clear e
        go_wp2_with (go_at_call 109; refine (priceOut_any _ _).mono ?_; rintro e w' ⟨rfl, rfl⟩; rw [T1.out])
        go_ret
        exact ⟨⟨_, rfl, by rw [E.out]; simp⟩, rfl⟩
    · obtain rfl : k = m := by omega
      have E := Lib.hid (tt_of HAll.out)
      go_wp2_with fail
      go_ret
      exact ⟨⟨_, rfl, by rw [E.out]; rfl⟩, rfl⟩

theorem withinLimits_any (m d : Nat) (b : Option Addr) (P : Nat → Int) (w : World) (hm : m ≤ 1048576) (hr : Rd w b m P) :
    Calls Try.prog 83 #[.slice b m d] w fun e w' => e = .returned (.bool (tt (∀ k, k < m → 0 ≤ P k ∧ P k ≤ 20))) ∧ w = w' := by
  have H := Lib.hid (indexOut_any m d b P w hm hr)
  obtain ⟨t, ht⟩ : ∃ t, t = tt (∀ k, k < m → 0 ≤ P k ∧ P k ≤ 20) := ⟨_, rfl⟩
  rw [← ht] at H ⊢
  have HC : Calls Try.prog 108 #[.slice b m d, .func (.func 109) #[] #[]] w fun e w' => e = .returned (.bool (!t)) ∧ w = w' := by
    clear hr ht
    go_enter Try.func108, Try.ntmps108
    go_wp2_with (go_at_call 118; refine H.out.mono ?_; rintro e w' ⟨⟨x, rfl, hx⟩, rfl⟩)
    go_ret
    exact ⟨by rw [← hx]; rfl, rfl⟩
  have HC := Lib.hid HC
  clear hr ht H
  go_enter Try.func83, Try.ntmps83
  go_wp2_with (go_at_call 108; refine HC.out.mono ?_; rintro e w' ⟨rfl, rfl⟩)
  go_ret
  exact ⟨by simp, rfl⟩

set_option maxHeartbeats 800000 in
theorem readBidsAndPrices_any (n c q d : Nat) (a b : Option Addr) (A : Nat → Option Addr) (L C : Nat → Nat) (Z : Nat → Nat → Int) (P : Nat → Int) (w : World) (hn0 : n ≤ 1048576) (hL0 : ∀ r, r < n → L r ≤ 1048576) (ha0 : Tab w a n A L C Z) (hm1 : q ≤ 1048576) (hb1 : Rd w b q P) :
    Calls Try.prog 49 #[.slice a n c, .slice b q d] w fun e w' => e = .returned (.tuple #[bidsV (tt (IsBids n L Z ∧ ItemP q (L 0) P)) a n c, bidsV (tt (IsBids n L Z ∧ ItemP q (L 0) P)) b q d, .bool (tt (IsBids n L Z ∧ ItemP q (L 0) P))]) ∧ w = w' := by
  have H := Lib.hid (readBids_any n c a A L C Z w hn0 hL0 ha0)
  by_cases h1 : IsBids n L Z
  · have T1 := Lib.hid (tt_of h1)
    have HI := Lib.hid (bidItems_any n c a A L C Z w (by have := h1.1.1.1; omega) ha0)
    have HW := Lib.hid (withinLimits_any q d b P w hm1 hb1)
    by_cases h2 : q = L 0
    · have d1 : ((q : Int) != (L 0 : Int)) = false := by simp [h2]
      by_cases h3 : ∀ k, k < q → 0 ≤ P k ∧ P k ≤ 20
      · have T2 := Lib.hid (tt_of h3)
        have T3 := Lib.hid (tt_of (show IsBids n L Z ∧ ItemP q (L 0) P from ⟨h1, h3, h2⟩))
        rw [T3.out]
        obtain ⟨m, hm⟩ : ∃ m, m = L 0 := ⟨_, rfl⟩
        rw [← hm] at HI d1
        clear h1 h2 h3 ha0 hb1 hm T3
        go_enter Try.func49, Try.ntmps49
        go_wp2_with (first
          | (go_at_call 58; refine H.out.mono ?_; rintro e w' ⟨rfl, rfl⟩; rw [T1.out, show bidsV true a n c = .slice a n c from rfl])
          | (go_at_call 61; refine HI.out.mono ?_; rintro e w' ⟨rfl, rfl⟩)
          | (go_at_call 83; refine HW.out.mono ?_; rintro e w' ⟨rfl, rfl⟩; rw [T2.out]))
        go_ret3
        exact ⟨rfl, rfl⟩
      · have T2 := Lib.hid (tt_no h3)
        have T3 := Lib.hid (tt_no (show ¬ (IsBids n L Z ∧ ItemP q (L 0) P) from fun h => h3 h.2.1))
        rw [T3.out]
        obtain ⟨m, hm⟩ : ∃ m, m = L 0 := ⟨_, rfl⟩
        rw [← hm] at HI d1
        clear h1 h2 h3 ha0 hb1 hm T3
        go_enter Try.func49, Try.ntmps49
        go_wp2_with (first
          | (go_at_call 58; refine H.out.mono ?_; rintro e w' ⟨rfl, rfl⟩; rw [T1.out, show bidsV true a n c = .slice a n c from rfl])
          | (go_at_call 61; refine HI.out.mono ?_; rintro e w' ⟨rfl, rfl⟩)
          | (go_at_call 83; refine HW.out.mono ?_; rintro e w' ⟨rfl, rfl⟩; rw [T2.out]))
        go_ret3
        exact ⟨rfl, rfl⟩
    · have d1 : ((q : Int) != (L 0 : Int)) = true := by simp; omega
      have T3 := Lib.hid (tt_no (show ¬ (IsBids n L Z ∧ ItemP q (L 0) P) from fun h => h2 h.2.2))
      rw [T3.out]
      obtain ⟨m, hm⟩ : ∃ m, m = L 0 := ⟨_, rfl⟩
      rw [← hm] at HI d1
      clear h1 h2 ha0 hb1 hm T3
      go_enter Try.func49, Try.ntmps49
      go_wp2_with (first
        | (go_at_call 58; refine H.out.mono ?_; rintro e w' ⟨rfl, rfl⟩; rw [T1.out, show bidsV true a n c = .slice a n c from rfl])
        | (go_at_call 61; refine HI.out.mono ?_; rintro e w' ⟨rfl, rfl⟩))
      go_ret3
      exact ⟨rfl, rfl⟩
  · have T1 := Lib.hid (tt_no h1)
    have T3 := Lib.hid (tt_no (show ¬ (IsBids n L Z ∧ ItemP q (L 0) P) from fun h => h1 h.1))
    rw [T3.out]
    clear h1 ha0 hb1 T3
    go_enter Try.func49, Try.ntmps49
    go_wp2_with (go_at_call 58; refine H.out.mono ?_; rintro e w' ⟨rfl, rfl⟩; rw [T1.out, show bidsV false a n c = .slice none 0 0 from rfl])
    go_ret3
    exact ⟨rfl, rfl⟩
end Go.Proofs.Ytaipodnhnekpjaa

/- The program's gain and mostGain: what a bidder gains. -/
namespace Go.Proofs.Ytaipodnhnekpjaa
set_option linter.unusedVariables false
set_option linter.unusedSimpArgs false
open Go.RowKit

theorem gainNone_any (n c m d : Nat) (i : Int) (a b : Option Addr) (w : World) :
    Calls Try.prog 88 #[.slice a n c, .slice b m d, .int .i64 i, .int .i64 (-1)] w fun e w' => e = .returned (.int .i64 0) ∧ w = w' := by
  go_enter Try.func88, Try.ntmps88
  go_wp2
  go_ret
  exact ⟨rfl, rfl⟩

set_option maxHeartbeats 800000 in
theorem gainItem_any (n c m d i x : Nat) (a b : Option Addr) (A : Nat → Option Addr) (L C : Nat → Nat) (Z : Nat → Nat → Int) (P : Nat → Int) (w : World) (hi : i < n) (hx : x < m) (hL : L i = m) (hZ : 0 ≤ Z i x ∧ Z i x ≤ 20) (hP : 0 ≤ P x ∧ P x ≤ 20) (ha0 : Tab w a n A L C Z) (hb0 : Rd w b m P) :
    Calls Try.prog 88 #[.slice a n c, .slice b m d, .int .i64 (i : Nat), .int .i64 (x : Nat)] w fun e w' => e = .returned (.int .i64 (Z i x - P x)) ∧ ∃ q, w' = w.drewN q := by
  have H1 := Lib.hid (fun q => priceOf_any m d x b P (w.drewN q) hx (hb0.drewN q))
  obtain ⟨ba, oa, rfl, hca, hra⟩ := ha0 i hi
  rw [hL] at hca hra
  obtain ⟨br, or', har, hcx⟩ := hra x hx
  rw [har] at hca
  obtain ⟨z, hz'⟩ : ∃ z, z = Z i x := ⟨_, rfl⟩
  obtain ⟨p, hp'⟩ : ∃ p, p = P x := ⟨_, rfl⟩
  rw [← hz'] at hcx hZ ⊢
  rw [← hp'] at hP H1 ⊢
  have hw1 : IntKind.i64.wrap (z - p) = z - p := by rw [IntKind.wrap_i64]; omega
  have i1 : (0 : Int) ≤ (i : Int) := by omega
  have i2 : (i : Int) < (n : Int) := by omega
  have i3 : (0 : Int) ≤ (x : Int) := by omega
  have i4 : (x : Int) < (m : Int) := by omega
  have d1 : ((x : Int) == -1) = false := beq_eq_false_iff_ne.2 (by omega)
  clear ha0 hra har hb0 hz' hp' hL
  go_enter Try.func88, Try.ntmps88
  go_wp2
  go_quiet ((go_at_call 111; with_reducible exact Calls.quiet_of_same (H1.out _)))
  all_goals (
    go_wp2
    go_ret
    exact ⟨rfl, _, rfl⟩)

set_option maxRecDepth 100000 in
set_option maxHeartbeats 1600000 in
theorem mostGain_any (n c m d i : Nat) (a b : Option Addr) (A : Nat → Option Addr) (L C : Nat → Nat) (Z : Nat → Nat → Int) (P : Nat → Int) (w : World) (hi : i < n) (hm : m ≤ 5) (hL : L i = m) (hZ : ∀ x, x < m → 0 ≤ Z i x ∧ Z i x ≤ 20) (hP : ∀ x, x < m → 0 ≤ P x ∧ P x ≤ 20) (ha0 : Tab w a n A L C Z) (hb0 : Rd w b m P) :
    Calls Try.prog 77 #[.slice a n c, .slice b m d, .int .i64 (i : Nat)] w fun e w' => e = .returned (.int .i64 (gainM Z P i m)) ∧ ∃ q, w' = w.drewN q := by
  have HN := Lib.hid (gainNone_any n c m d (i : Nat) a b w)
  have HI := Lib.hid (fun q x (hx : x < m) => gainItem_any n c m d i x a b A L C Z P (w.drewN q) hi hx hL (hZ x hx) (hP x hx) (ha0.drewN q) (hb0.drewN q))
  have HP := Lib.hid hP
  have HZ := Lib.hid hZ
  clear ha0 hb0 hP hZ hL
  go_enter Try.func77, Try.ntmps77
  go_wp2_with (go_at_call 88; refine HN.out.mono ?_; rintro e w' ⟨rfl, rfl⟩)
  go_loopw [7, 8, 15] (fun s _ x wr => ∃ k q : Nat, k ≤ m ∧ x = .int .i64 k ∧ s = .int .i64 (gainM Z P i k) ∧ wr = w.drewN q) (fun _ _ x _ => m - (intOf x).toNat)
  case atStart => exact ⟨0, 0, Nat.zero_le _, rfl, rfl, rfl⟩
  case round =>
    obtain ⟨k, q, hk, rfl, rfl, rfl⟩ := hrel
    by_cases hlt : k < m
    · have hz := HZ.out k hlt
      have hp := HP.out k hlt
      have E := Lib.hid (show gainM Z P i (k + 1) = max (gainM Z P i k) (Z i k - P k) from rfl)
      have HIk := Lib.hid (HI.out q k hlt)
      obtain ⟨y, hy⟩ : ∃ y, y = Z i k - P k := ⟨_, rfl⟩
      obtain ⟨G, hG⟩ : ∃ G, G = gainM Z P i k := ⟨_, rfl⟩
      rw [← hy, ← hG] at E
      rw [← hy] at HIk
      rw [← hG]
      clear hz hp hy hG
      go_wp2_with (go_at_call 88; refine HIk.out.mono ?_; rintro e w' ⟨rfl, q2, rfl⟩)
      go_roundw
      case rel => exact ⟨k + 1, q + q2, by omega, by go_num, by rw [E.out], by simp [World.drewN, Nat.add_assoc]⟩
      case measure => simp [intOf]; omega
    · obtain rfl : k = m := by omega
      go_wp2
      go_ret
      exact ⟨rfl, q, rfl⟩
end Go.Proofs.Ytaipodnhnekpjaa

/- The program's fair: whether item prices are fair with a deal. -/
namespace Go.Proofs.Ytaipodnhnekpjaa
set_option linter.unusedVariables false
set_option linter.unusedSimpArgs false
open Go.RowKit

set_option maxRecDepth 100000 in
set_option maxHeartbeats 1600000 in
theorem itemFair_any (n c m d e : Nat) (a b g : Option Addr) (A : Nat → Option Addr) (L C : Nat → Nat) (Z : Nat → Nat → Int) (P D : Nat → Int) (w : World) (hn : n ≤ 4) (hm : m ≤ 4) (hL : ∀ r, r < n → L r = m) (hZ : ∀ r, r < n → ∀ x, x < m → 0 ≤ Z r x ∧ Z r x ≤ 20) (hP : ∀ x, x < m → 0 ≤ P x ∧ P x ≤ 20) (hD : ∀ i, i < n → -1 ≤ D i ∧ D i < m) (ha0 : Tab w a n A L C Z) (hb0 : Rd w b m P) (hg0 : Rd w g n D) :
    Calls Try.prog 51 #[.slice a n c, .slice b m d, .slice g n e] w fun r w' => r = .returned (.bool (tt (FairP n m Z P D))) ∧ ∃ q, w' = w.drewN q := by
  have IFF := Lib.hid (fair_iff (Z := Z) (fun x hx => (hP x hx).1) hD)
  have HM := Lib.hid (fun q i (hi : i < n) => mostGain_any n c m d i a b A L C Z P (w.drewN q) hi (by omega) (hL i hi) (hZ i hi) hP (ha0.drewN q) (hb0.drewN q))
  have HI := Lib.hid (fun q i (hi : i < n) x (hx : x < m) => gainItem_any n c m d i x a b A L C Z P (w.drewN q) hi hx (hL i hi) (hZ i hi x hx) (hP x hx) (ha0.drewN q) (hb0.drewN q))
  have HN := Lib.hid (fun q (i : Nat) => gainNone_any n c m d (i : Nat) a b (w.drewN q))
  have HC := Lib.hid (fun q (x : Int) => contains_any n e g D x (w.drewN q) (by omega) (hg0.drewN q))
  have HB := Lib.hid hb0
  have HD := Lib.hid hg0
  have HP := Lib.hid hP
  have HDr := Lib.hid hD
  clear ha0 hb0 hg0 hP hZ hD hL
  go_enter Try.func51, Try.ntmps51
  go_wp2
  go_loopw [7, 8, 9, 14] (fun _ _ _ x wr => ∃ k q : Nat, k ≤ n ∧ x = .int .i64 k ∧ (∀ i, i < k → gainD Z P D i = gainM Z P i m) ∧ wr = w.drewN q) (fun _ _ _ x _ => n - (intOf x).toNat)
  case atStart => exact ⟨0, 0, Nat.zero_le _, rfl, fun i hi => absurd hi (Nat.not_lt_zero _), rfl⟩
  case round =>
    obtain ⟨k, q, hk, rfl, hall, rfl⟩ := hrel
    have HAll := Lib.hid hall
    clear hall
    by_cases hlt : k < n
    · obtain ⟨bb, ob, rfl, hcb⟩ := HD.out k hlt
      have hkn : (k : Int) < (n : Int) := by omega
      have hdr := HDr.out k hlt
      have NX := Lib.hid (fun (e : gainD Z P D k = gainM Z P k m) i (hi : i < k + 1) => show gainD Z P D i = gainM Z P i m from by
        by_cases e1 : i = k
        · rw [e1]; exact e
        · exact HAll.out i (by omega))
      have NO := Lib.hid (fun (e : ¬ gainD Z P D k = gainM Z P k m) => tt_no (show ¬ FairP n m Z P D from fun h => e ((IFF.out.1 h).1 k hlt)))
      have HMk := Lib.hid (fun q => HM.out q k hlt)
      obtain ⟨G, hG⟩ : ∃ G, G = gainM Z P k m := ⟨_, rfl⟩
      rw [← hG] at HMk NX NO
      by_cases he : D k = -1
      · have EG : gainD Z P D k = 0 := by unfold gainD; rw [if_pos he]
        rw [EG] at NX NO
        have HNk := Lib.hid (HN.out q k)
        rw [he] at hcb
        by_cases hq : (0 : Int) = G
        · have d1 : ((0 : Int) != G) = false := by simp [hq]
          have NX2 := Lib.hid (NX.out hq)
          clear he hG hdr EG NX NO hq
          go_wp2_with (first
            | (go_at_call 88; refine HNk.out.mono ?_; rintro r w' ⟨rfl, rfl⟩)
            | (go_at_call 77; refine (HMk.out _).mono ?_; rintro r w' ⟨rfl, q2, rfl⟩))
          go_roundw
          case rel => exact ⟨k + 1, q + q2, by omega, by go_num, NX2.out, by simp [World.drewN, Nat.add_assoc]⟩
          case measure => simp [intOf]; omega
        · have d1 : ((0 : Int) != G) = true := by simp [hq]
          have NO2 := Lib.hid (NO.out hq)
          clear he hG hdr EG NX NO hq
          go_wp2_with (first
            | (go_at_call 88; refine HNk.out.mono ?_; rintro r w' ⟨rfl, rfl⟩)
            | (go_at_call 77; refine (HMk.out _).mono ?_; rintro r w' ⟨rfl, q2, rfl⟩))
          go_ret
          exact ⟨by rw [NO2.out]; rfl, q + q2, by simp [World.drewN, Nat.add_assoc]⟩
      · obtain ⟨x, hx⟩ := Int.eq_ofNat_of_zero_le (show 0 ≤ D k by omega)
        have hxm : x < m := by omega
        have EG : gainD Z P D k = Z k x - P x := by unfold gainD; rw [if_neg he, hx, Int.toNat_natCast]
        rw [EG] at NX NO
        have HIk := Lib.hid (HI.out q k hlt x hxm)
        obtain ⟨y, hy⟩ : ∃ y, y = Z k x - P x := ⟨_, rfl⟩
        rw [← hy] at NX NO HIk
        rw [hx] at hcb
        by_cases hq : y = G
        · have d1 : (y != G) = false := by simp [hq]
          have NX2 := Lib.hid (NX.out hq)
          clear he hG hdr EG NX NO hq hy hx
          go_wp2_with (first
            | (go_at_call 88; refine HIk.out.mono ?_; rintro r w' ⟨rfl, q1, rfl⟩; rw [World.drewN_drewN])
            | (go_at_call 77; refine (HMk.out _).mono ?_; rintro r w' ⟨rfl, q2, rfl⟩))
          go_roundw
          case rel => exact ⟨k + 1, q + q1 + q2, by omega, by go_num, NX2.out, by simp [World.drewN, Nat.add_assoc]⟩
          case measure => simp [intOf]; omega
        · have d1 : (y != G) = true := by simp [hq]
          have NO2 := Lib.hid (NO.out hq)
          clear he hG hdr EG NX NO hq hy hx
          go_wp2_with (first
            | (go_at_call 88; refine HIk.out.mono ?_; rintro r w' ⟨rfl, q1, rfl⟩; rw [World.drewN_drewN])
            | (go_at_call 77; refine (HMk.out _).mono ?_; rintro r w' ⟨rfl, q2, rfl⟩))
          go_ret
          exact ⟨by rw [NO2.out]; rfl, q + q1 + q2, by simp [World.drewN, Nat.add_assoc]⟩
    · obtain rfl : k = n := by omega
      clear hlt hk HD HN HI HM
      go_wp2
      obtain ⟨q0, hq0⟩ : ∃ q0, q0 = q := ⟨_, rfl⟩
      go_loopw [10, 11, 33] (fun _ _ x wr => ∃ j q2 : Nat, j ≤ m ∧ x = .int .i64 j ∧ (∀ x : Nat, x < j → ¬ (0 < P x ∧ ∀ i, i < k → D i ≠ (x : Int))) ∧ wr = w.drewN q2) (fun _ _ x _ => m - (intOf x).toNat)
      case atStart => exact ⟨0, q, Nat.zero_le _, rfl, fun i hi => absurd hi (Nat.not_lt_zero _), rfl⟩
      case round =>
        obtain ⟨j, q2, hj, rfl, hall, rfl⟩ := hrel
        have HU := Lib.hid hall
        clear hall
        by_cases hlt : j < m
        · obtain ⟨bp, op, rfl, hcp⟩ := HB.out j hlt
          have hjm : (j : Int) < (m : Int) := by omega
          have hpr := HP.out j hlt
          have HCj := Lib.hid (HC.out q2 (j : Nat))
          have NX := Lib.hid (fun (h : ¬ (0 < P j ∧ ∀ i, i < k → D i ≠ (j : Int))) x (hx : x < j + 1) => show ¬ (0 < P x ∧ ∀ i, i < k → D i ≠ (x : Int)) from by
            by_cases e1 : x = j
            · rw [e1]; exact h
            · exact HU.out x (by omega))
          by_cases hpos : P j = 0
          · have NX2 := Lib.hid (NX.out fun h => by omega)
            rw [hpos] at hcp
            clear hpos hpr NX
            go_wp2_with fail
            go_roundw
            case rel => exact ⟨j + 1, q2, by omega, by go_num, NX2.out, rfl⟩
            case measure => simp [intOf]; omega
          · have d1 : (P j != 0) = true := by simp [hpos]
            by_cases hin : HasI k D (j : Nat)
            · have T1 := Lib.hid (tt_of hin)
              have NX2 := Lib.hid (NX.out fun h => by obtain ⟨i, hi, ei⟩ := hin; exact h.2 i hi ei)
              obtain ⟨p, hp'⟩ : ∃ p, p = P j := ⟨_, rfl⟩
              rw [← hp'] at hcp d1
              clear hpos hin NX hp' hpr
              go_wp2_with (go_at_call 89; refine HCj.out.mono ?_; rintro r w' ⟨rfl, rfl⟩; rw [T1.out])
              go_roundw
              case rel => exact ⟨j + 1, q2, by omega, by go_num, NX2.out, rfl⟩
              case measure => simp [intOf]; omega
            · have T1 := Lib.hid (tt_no hin)
              have NO := Lib.hid (tt_no (show ¬ FairP k m Z P D from fun h => (IFF.out.1 h).2 j hlt ⟨by omega, fun i hi ei => hin ⟨i, hi, ei⟩⟩))
              obtain ⟨p, hp'⟩ : ∃ p, p = P j := ⟨_, rfl⟩
              rw [← hp'] at hcp d1
              clear hpos hin NX hp' hpr
              go_wp2_with (go_at_call 89; refine HCj.out.mono ?_; rintro r w' ⟨rfl, rfl⟩; rw [T1.out])
              go_ret
              exact ⟨by rw [NO.out]; rfl, q2, rfl⟩
        · obtain rfl : j = m := by omega
          have YES := Lib.hid (tt_of (IFF.out.2 ⟨HAll.out, HU.out⟩))
          go_wp2
          go_ret
          exact ⟨by rw [YES.out]; rfl, q2, rfl⟩
end Go.Proofs.Ytaipodnhnekpjaa
