/- The model's l8Prices, l8Gain, l8Fair. -/
import Derived.Test.YtaipodnhnekpjaaFairFn
import Derived.Test.YtaipodnhnekpjaaL6In
import Derived.Test.YtaipodnhnekpjaaProg
import Derived.BigQuiet
import Derived.Lib.MinMax
import Derived.Test.YtaipodnhnekpjaaL7Deal
/- The model's l8Prices: whether a list is item prices. -/
namespace Go.Proofs.Ytaipodnhnekpjaa
set_option linter.unusedVariables false
set_option linter.unusedSimpArgs false
open Go.RowKit

set_option maxRecDepth 100000 in
set_option maxHeartbeats 800000 in
theorem l8Prices_any (n c q d : Nat) (a b : Option Addr) (A : Nat → Option Addr) (L C : Nat → Nat) (Z : Nat → Nat → Int) (P : Nat → Int) (w : World) (hn1 : 1 ≤ n) (hq : q ≤ 1048576) (ha0 : Tab w a n A L C Z) (hb0 : Rd w b q P) :
    Calls Try.prog 46 #[.slice a n c, .slice b q d] w fun e w' => e = .returned (.bool (tt (ItemP q (L 0) P))) ∧ w = w' := by
  obtain ⟨ba, oa, rfl, hc0, _⟩ := ha0 0 hn1
  rw [Nat.add_zero] at hc0
  have HB := Lib.hid hb0
  have hn0 : (0 : Int) < (n : Int) := by omega
  obtain ⟨m, hm⟩ : ∃ m, m = L 0 := ⟨_, rfl⟩
  rw [← hm] at hc0 ⊢
  clear ha0 hb0 hm
  go_enter Try.func46, Try.ntmps46
  go_wp2
  go_loop [5] (fun i => ∃ k : Nat, k ≤ q ∧ i = .int .i64 k ∧ ∀ j, j < k → 0 ≤ P j ∧ P j ≤ 20) (fun i => q - (intOf i).toNat)
  case atStart => exact ⟨0, Nat.zero_le _, rfl, fun j hj => absurd hj (Nat.not_lt_zero _)⟩
  case round =>
    obtain ⟨k, hk, rfl, hall⟩ := hrel
    have H1 := Lib.hid hall
    clear hall
    by_cases hlt : k < q
    · obtain ⟨bb, ob, rfl, hcb⟩ := HB.out k hlt
      by_cases hin : InR (P k) 0 20
      · have T1 := Lib.hid (tt_of hin)
        have HI := Lib.hid hin
        clear hin
        go_wp2_with (go_at_call 74; refine (l6In_any _ _ _ _).mono ?_; rintro e w' ⟨rfl, rfl⟩; rw [T1.out])
        go_round
        case rel =>
          exact ⟨k + 1, by omega, by go_num, fun j hj => by
            by_cases e : j = k
            · subst e; exact HI.out
            · exact H1.out j (by omega)⟩
        case measure => simp [intOf]; omega
      · have T1 := Lib.hid (tt_no hin)
        have NO := Lib.hid (tt_no (show ¬ ItemP q m P from fun h => hin (h.1 k hlt)))
        clear hin
        go_wp2_with (go_at_call 74; refine (l6In_any _ _ _ _).mono ?_; rintro e w' ⟨rfl, rfl⟩; rw [T1.out])
        go_ret
        exact ⟨by rw [NO.out]; rfl, rfl⟩
    · obtain rfl : k = q := by omega
      have E := Lib.hid (show ((k : Int) == (m : Int)) = tt (ItemP k m P) from by
        by_cases e : k = m
        · rw [tt_of ⟨H1.out, e⟩]; simp [e]
        · rw [tt_no fun h => e h.2]; exact beq_eq_false_iff_ne.2 (by omega))
      go_wp2
      go_ret
      exact ⟨by rw [← E.out]; rfl, rfl⟩
end Go.Proofs.Ytaipodnhnekpjaa

/- The model's l8Gain: what a bidder gains at most. -/
namespace Go.Proofs.Ytaipodnhnekpjaa
set_option linter.unusedVariables false
set_option linter.unusedSimpArgs false
open Go.RowKit

set_option maxRecDepth 100000 in
set_option maxHeartbeats 1600000 in
theorem l8Gain_any (n c m d i : Nat) (a b : Option Addr) (A : Nat → Option Addr) (L C : Nat → Nat) (Z : Nat → Nat → Int) (P : Nat → Int) (w : World) (hi : i < n) (hm : m ≤ 5) (hL : ∀ r, r < n → L r = m) (hZ : ∀ r, r < n → ∀ x, x < m → 0 ≤ Z r x ∧ Z r x ≤ 20) (hP : ∀ x, x < m → 0 ≤ P x ∧ P x ≤ 20) (ha0 : Tab w a n A L C Z) (hb0 : Rd w b m P) :
    Calls Try.prog 75 #[.slice a n c, .slice b m d, .int .i64 (i : Nat)] w fun e w' => e = .returned (.int .i64 (gainM Z P i m)) ∧ ∃ q, w' = w.drewN q := by
  obtain ⟨ba, oa, rfl, hc0, hr0⟩ := ha0 i hi
  rw [hL i hi] at hc0 hr0
  have HC := Lib.hid hc0
  have HR := Lib.hid hr0
  have HB := Lib.hid hb0
  have HP := Lib.hid hP
  have HZ := Lib.hid (hZ i hi)
  have hin : (i : Int) < (n : Int) := by omega
  have hi0 : (0 : Int) ≤ (i : Int) := by omega
  clear ha0 hc0 hr0 hb0 hP hZ hL
  go_enter Try.func75, Try.ntmps75
  go_wp2
  go_loopw [7, 8] (fun s x wr => ∃ k q : Nat, k ≤ m ∧ x = .int .i64 k ∧ s = .int .i64 (gainM Z P i k) ∧ wr = w.drewN q) (fun _ x _ => m - (intOf x).toNat)
  case atStart => exact ⟨0, 0, Nat.zero_le _, rfl, rfl, rfl⟩
  case round =>
    obtain ⟨k, q, hk, rfl, rfl, rfl⟩ := hrel
    by_cases hlt : k < m
    · obtain ⟨bb, ob, rfl, hcb⟩ := HB.out k hlt
      obtain ⟨br, or', har, hcx⟩ := HR.out k hlt
      have hca := HC.out
      rw [har] at hca
      have hz := HZ.out k hlt
      have hp := HP.out k hlt
      have E := Lib.hid (show gainM Z P i (k + 1) = max (gainM Z P i k) (Z i k - P k) from rfl)
      have hG := gainM_range (Z := Z) (p := P) (i := i) (q := k) (fun x hx => HZ.out x (by omega)) (fun x hx => (HP.out x (by omega)).1)
      obtain ⟨z, hz'⟩ : ∃ z, z = Z i k := ⟨_, rfl⟩
      obtain ⟨p, hp'⟩ : ∃ p, p = P k := ⟨_, rfl⟩
      obtain ⟨G, hG'⟩ : ∃ G, G = gainM Z P i k := ⟨_, rfl⟩
      rw [← hz'] at hcx hz E
      rw [← hp'] at hcb hp E
      rw [← hG'] at hG E ⊢
      have hw1 : IntKind.i64.wrap (z - p) = z - p := by rw [IntKind.wrap_i64]; omega
      have hkm : (k : Int) < (m : Int) := by omega
      have hk0 : (0 : Int) ≤ (k : Int) := by omega
      clear har hz' hp' hG'
      go_wp2
      go_region
      all_goals (
        go_wp2
        go_roundw
        case rel => exact ⟨k + 1, _, by omega, by go_num, by rw [E.out], rfl⟩
        case measure => simp [intOf]; omega)
    · obtain rfl : k = m := by omega
      go_wp2
      go_ret
      exact ⟨rfl, q, rfl⟩
end Go.Proofs.Ytaipodnhnekpjaa

/- The model's l8Fair: whether item prices are fair with a deal. -/
namespace Go.Proofs.Ytaipodnhnekpjaa
set_option linter.unusedVariables false
set_option linter.unusedSimpArgs false
open Go.RowKit

theorem bit_free (S x : Nat) (hS : S < 2 ^ 62) : (bits .and .i64 ((S : Int) / 2 ^ x) 1 == 0) = !S.testBit x := by
  have e : ((S : Int) / 2 ^ x) = ((S / 2 ^ x : Nat) : Int) := by simp
  have hle : S / 2 ^ x ≤ S := Nat.div_le_self _ _
  rw [e, show (1 : Int) = ((1 : Nat) : Int) from rfl, bits_and_i64 _ _ (by omega) (by omega)]
  rw [Nat.testBit, Nat.shiftRight_eq_div_pow, Nat.and_comm 1]
  have h2 : S / 2 ^ x &&& 1 = 0 ∨ S / 2 ^ x &&& 1 = 1 := by rw [Nat.and_one_is_mod]; omega
  rcases h2 with h | h <;> rw [h] <;> rfl

set_option maxRecDepth 100000 in
set_option maxHeartbeats 1600000 in
theorem l8Fair_any (n c m d e : Nat) (a b g : Option Addr) (A : Nat → Option Addr) (L C : Nat → Nat) (Z : Nat → Nat → Int) (P D : Nat → Int) (w : World) (hn : n ≤ 4) (hm : m ≤ 4) (hL : ∀ r, r < n → L r = m) (hZ : ∀ r, r < n → ∀ x, x < m → 0 ≤ Z r x ∧ Z r x ≤ 20) (hP : ∀ x, x < m → 0 ≤ P x ∧ P x ≤ 20) (hD : ∀ i, i < n → -1 ≤ D i ∧ D i < m) (ha0 : Tab w a n A L C Z) (hb0 : Rd w b m P) (hg0 : Rd w g n D) :
    Calls Try.prog 48 #[.slice a n c, .slice b m d, .slice g n e] w fun r w' => r = .returned (.bool (tt (FairP n m Z P D))) ∧ Below w.heap.size w w' := by
  have IFF := Lib.hid (fair_iff (Z := Z) (fun x hx => (hP x hx).1) hD)
  have HG := Lib.hid (fun i (hi : i < n) W (hB : Below w.heap.size w W) => l8Gain_any n c m d i a b A L C Z P W hi (by omega) hL hZ hP (ha0.below (Nat.le_refl _) hB) (hb0.below (Nat.le_refl _) hB))
  have HA := Lib.hid ha0
  have HB := Lib.hid hb0
  have HD := Lib.hid hg0
  have HP := Lib.hid hP
  have HZ := Lib.hid hZ
  have HDr := Lib.hid hD
  have HL := Lib.hid hL
  clear ha0 hb0 hg0 hP hZ hD hL
  go_enter Try.func48, Try.ntmps48
  go_wp2
  go_loopw [7, 8, 9] (fun s x _ wr => ∃ k S : Nat, k ≤ n ∧ x = .int .i64 k ∧ s = .int .i64 S ∧ S < 2 ^ m ∧ GotBits S k D ∧ (∀ i, i < k → gainD Z P D i = gainM Z P i m) ∧ Below w.heap.size w wr) (fun _ x _ _ => n - (intOf x).toNat)
  case atStart => exact ⟨0, 0, Nat.zero_le _, rfl, rfl, Nat.two_pow_pos _, fun y => ⟨fun h => by simp at h, fun ⟨j, hj, _⟩ => absurd hj (Nat.not_lt_zero _)⟩, fun i hi => absurd hi (Nat.not_lt_zero _), Below.refl _ _⟩
  case round =>
    obtain ⟨k, S, hk, rfl, rfl, hS, hbits, hall, hBw⟩ := hrel
    have BW := Lib.hid hBw
    have HS := Lib.hid hS
    have HBits := Lib.hid hbits
    have HAll := Lib.hid hall
    have hS62 : S < 2 ^ 62 := Nat.lt_of_lt_of_le hS (Nat.pow_le_pow_right (by omega) (by omega))
    clear hBw hS hbits hall
    by_cases hlt : k < n
    · obtain ⟨bb, ob, rfl, hcb⟩ := (HD.out.below (Nat.le_refl _) BW.out) k hlt
      have hkn : (k : Int) < (n : Int) := by omega
      have hdr := HDr.out k hlt
      have NX := Lib.hid (fun (e : gainD Z P D k = gainM Z P k m) i (hi : i < k + 1) => show gainD Z P D i = gainM Z P i m from by
        by_cases e1 : i = k
        · rw [e1]; exact e
        · exact HAll.out i (by omega))
      have NO := Lib.hid (fun (e : ¬ gainD Z P D k = gainM Z P k m) => tt_no (show ¬ FairP n m Z P D from fun h => e ((IFF.out.1 h).1 k hlt)))
      obtain ⟨G, hG⟩ : ∃ G, G = gainM Z P k m := ⟨_, rfl⟩
      have HGk := Lib.hid (fun W hB => HG.out k hlt W hB)
      rw [← hG] at HGk NX NO
      by_cases he : D k = -1
      · have EG : gainD Z P D k = 0 := by unfold gainD; rw [if_pos he]
        rw [EG] at NX NO
        have BK := Lib.hid (show GotBits S (k + 1) D from fun y => (HBits.out y).trans ⟨fun ⟨j, hj, e⟩ => ⟨j, by omega, e⟩, fun ⟨j, hj, e⟩ => ⟨j, by
          have : j ≠ k := fun e1 => by rw [e1, he] at e; omega
          omega, e⟩⟩)
        rw [he] at hcb
        by_cases hq : (0 : Int) = G
        · have d1 : ((0 : Int) != G) = false := by simp [hq]
          have NX2 := Lib.hid (NX.out hq)
          clear he hS62 hG hdr EG NX NO hq
          go_wp2_with (go_at_call 75; refine (HGk.out _ BW.out).mono ?_; rintro r w' ⟨rfl, q, rfl⟩; have B2 := Lib.hid (below_drewN BW.out q))
          go_roundw
          case rel => exact ⟨k + 1, S, by omega, by go_num, rfl, HS.out, BK.out, NX2.out, B2.out⟩
          case measure => simp [intOf]; omega
        · have d1 : ((0 : Int) != G) = true := by simp [hq]
          have NO2 := Lib.hid (NO.out hq)
          clear he hS62 hG hdr EG NX NO hq
          go_wp2_with (go_at_call 75; refine (HGk.out _ BW.out).mono ?_; rintro r w' ⟨rfl, q, rfl⟩; have B2 := Lib.hid (below_drewN BW.out q))
          go_ret
          exact ⟨by rw [NO2.out]; rfl, B2.out⟩
      · obtain ⟨x, hx⟩ := Int.eq_ofNat_of_zero_le (show 0 ≤ D k by omega)
        have hxm : x < m := by omega
        have EG : gainD Z P D k = Z k x - P x := by unfold gainD; rw [if_neg he, hx, Int.toNat_natCast]
        rw [EG] at NX NO
        have SK := Lib.hid (bit_put_lt HS.out hxm)
        have BK := Lib.hid (show GotBits (S ||| 2 ^ x) (k + 1) D from fun y => by
          rw [bit_put_has, HBits.out y]
          constructor
          · rintro (⟨j, hj, e⟩ | rfl)
            · exact ⟨j, by omega, e⟩
            · exact ⟨k, by omega, hx⟩
          · rintro ⟨j, hj, e⟩
            by_cases e1 : j = k
            · right
              rw [e1, hx] at e
              omega
            · exact .inl ⟨j, by omega, e⟩)
        obtain ⟨ba, oa, rfl, hca, hra⟩ := (HA.out.below (Nat.le_refl _) BW.out) k hlt
        rw [HL.out k hlt] at hca hra
        obtain ⟨br, or', har, hcx⟩ := hra x hxm
        rw [har] at hca
        obtain ⟨bp, op, rfl, hcp⟩ := (HB.out.below (Nat.le_refl _) BW.out) x hxm
        have hz := HZ.out k hlt x hxm
        have hp := HP.out x hxm
        obtain ⟨z, hz'⟩ : ∃ z, z = Z k x := ⟨_, rfl⟩
        obtain ⟨p, hp'⟩ : ∃ p, p = P x := ⟨_, rfl⟩
        rw [← hz', ← hp'] at NX NO
        rw [← hz'] at hcx hz
        rw [← hp'] at hcp hp
        rw [hx] at hcb
        have d0 : decide ((x : Int) ≥ 0) = true := by simp
        have i0 : (0 : Int) ≤ (x : Int) := by omega
        have hxm' : (x : Int) < (m : Int) := by omega
        have hx64 : min x 64 = x := by omega
        have f2 := bit_put S x hS62 (by omega)
        have hw1 : IntKind.i64.wrap (z - p) = z - p := by rw [IntKind.wrap_i64]; omega
        by_cases hq : z - p = G
        · have d1 : ((z - p) != G) = false := by simp [hq]
          have NX2 := Lib.hid (NX.out hq)
          clear he hG hdr EG NX NO hq hz' hp' hx hra har
          go_wp2
          go_quiet (fail)
          go_wp2_with (go_at_call 75; refine (HGk.out _ (below_drewN BW.out _)).mono ?_; rintro r w' ⟨rfl, q, hq'⟩; have B2 := Lib.hid (show Below w.heap.size w w' from by rw [hq']; exact below_drewN (below_drewN BW.out _) q); clear hq')
          go_roundw
          case rel => exact ⟨k + 1, S ||| 2 ^ x, by omega, by go_num, rfl, SK.out, BK.out, NX2.out, B2.out⟩
          case measure => simp [intOf]; omega
        · have d1 : ((z - p) != G) = true := by simp [hq]
          have NO2 := Lib.hid (NO.out hq)
          clear he hG hdr EG NX NO hq hz' hp' hx hra har
          go_wp2
          go_quiet (fail)
          go_wp2_with (go_at_call 75; refine (HGk.out _ (below_drewN BW.out _)).mono ?_; rintro r w' ⟨rfl, q, hq'⟩; have B2 := Lib.hid (show Below w.heap.size w w' from by rw [hq']; exact below_drewN (below_drewN BW.out _) q); clear hq')
          go_ret
          exact ⟨by rw [NO2.out]; rfl, B2.out⟩
    · obtain rfl : k = n := by omega
      clear hlt hk HA HG HZ HL HD
      go_wp2
      go_loopw [10] (fun x wr => ∃ j : Nat, j ≤ m ∧ x = .int .i64 j ∧ (∀ x : Nat, x < j → ¬ (0 < P x ∧ ∀ i, i < k → D i ≠ (x : Int))) ∧ Below w.heap.size w wr) (fun x _ => m - (intOf x).toNat)
      case atStart => exact ⟨0, Nat.zero_le _, rfl, fun i hi => absurd hi (Nat.not_lt_zero _), BW.out⟩
      case round =>
        obtain ⟨j, hj, rfl, hall, hBw⟩ := hrel
        have BV := Lib.hid hBw
        have HU := Lib.hid hall
        clear hBw hall
        by_cases hlt : j < m
        · obtain ⟨bp, op, rfl, hcp⟩ := (HB.out.below (Nat.le_refl _) BV.out) j hlt
          have hjm : (j : Int) < (m : Int) := by omega
          have hx64 : min j 64 = j := by omega
          have f1 := bit_free S j hS62
          have NX := Lib.hid (fun (h : ¬ (0 < P j ∧ ∀ i, i < k → D i ≠ (j : Int))) x (hx : x < j + 1) => show ¬ (0 < P x ∧ ∀ i, i < k → D i ≠ (x : Int)) from by
            by_cases e1 : x = j
            · rw [e1]; exact h
            · exact HU.out x (by omega))
          cases hb : S.testBit j with
          | true =>
            obtain ⟨i, hi, ei⟩ := (HBits.out j).1 hb
            have NX2 := Lib.hid (NX.out fun h => h.2 i hi ei)
            rw [hb] at f1
            clear hb hi ei NX
            go_wp2
            go_roundw
            case rel => exact ⟨j + 1, by omega, by go_num, NX2.out, BV.out⟩
            case measure => simp [intOf]; omega
          | false =>
            have hno : ∀ i, i < k → D i ≠ (j : Int) := fun i hi e => by rw [(HBits.out j).2 ⟨i, hi, e⟩] at hb; cases hb
            rw [hb] at f1
            by_cases hpos : P j > 0
            · have NO := Lib.hid (tt_no (show ¬ FairP k m Z P D from fun h => (IFF.out.1 h).2 j hlt ⟨hpos, hno⟩))
              have d1 : decide (P j > 0) = true := by simpa using hpos
              obtain ⟨p, hp'⟩ : ∃ p, p = P j := ⟨_, rfl⟩
              rw [← hp'] at hcp d1
              clear hb hno hpos NX hp'
              go_wp2
              go_ret
              exact ⟨by rw [NO.out]; rfl, BV.out⟩
            · have NX2 := Lib.hid (NX.out fun h => hpos h.1)
              have d1 : decide (P j > 0) = false := by simpa using hpos
              obtain ⟨p, hp'⟩ : ∃ p, p = P j := ⟨_, rfl⟩
              rw [← hp'] at hcp d1
              clear hb hno hpos NX hp'
              go_wp2
              go_roundw
              case rel => exact ⟨j + 1, by omega, by go_num, NX2.out, BV.out⟩
              case measure => simp [intOf]; omega
        · obtain rfl : j = m := by omega
          have YES := Lib.hid (tt_of (IFF.out.2 ⟨HAll.out, HU.out⟩))
          clear hS62
          go_wp2
          go_ret
          exact ⟨by rw [YES.out]; rfl, BV.out⟩
end Go.Proofs.Ytaipodnhnekpjaa
