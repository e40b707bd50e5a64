/- The program's fair: whether item prices are fair with a deal. -/
import Derived.Test.YtaipodnhnekpjaaItemGain
import Derived.Test.YtaipodnhnekpjaaContains
namespace Go.Proofs.Ytaipodnhnekpjaa
set_option linter.unusedVariables false
set_option linter.unusedSimpArgs false
open Go.RowKit

set_option maxRecDepth 100000 in
set_option maxHeartbeats 1600000 in
theorem itemFair_any (n c m d e : Nat) (a b g : Option Addr) (A : Nat → Option Addr) (L C : Nat → Nat) (Z : Nat → Nat → Int) (P D : Nat → Int) (w : World) (hn : n ≤ 4) (hm : m ≤ 4) (hL : ∀ r, r < n → L r = m) (hZ : ∀ r, r < n → ∀ x, x < m → 0 ≤ Z r x ∧ Z r x ≤ 20) (hP : ∀ x, x < m → 0 ≤ P x ∧ P x ≤ 20) (hD : ∀ i, i < n → -1 ≤ D i ∧ D i < m) (ha0 : Tab w a n A L C Z) (hb0 : Rd w b m P) (hg0 : Rd w g n D) :
    Calls Try.prog 51 #[.slice a n c, .slice b m d, .slice g n e] w fun r w' => r = .returned (.bool (tt (FairP n m Z P D))) ∧ ∃ q, w' = w.drewN q := by
  have IFF := Lib.hid (fair_iff (Z := Z) (fun x hx => (hP x hx).1) hD)
  have HM := Lib.hid (fun q i (hi : i < n) => mostGain_any n c m d i a b A L C Z P (w.drewN q) hi (by omega) (hL i hi) (hZ i hi) hP (ha0.drewN q) (hb0.drewN q))
  have HI := Lib.hid (fun q i (hi : i < n) x (hx : x < m) => gainItem_any n c m d i x a b A L C Z P (w.drewN q) hi hx (hL i hi) (hZ i hi x hx) (hP x hx) (ha0.drewN q) (hb0.drewN q))
  have HN := Lib.hid (fun q (i : Nat) => gainNone_any n c m d (i : Nat) a b (w.drewN q))
  have HC := Lib.hid (fun q (x : Int) => contains_any n e g D x (w.drewN q) (by omega) (hg0.drewN q))
  have HB := Lib.hid hb0
  have HD := Lib.hid hg0
  have HP := Lib.hid hP
  have HDr := Lib.hid hD
  clear ha0 hb0 hg0 hP hZ hD hL
  go_enter Try.func51, Try.ntmps51
  go_wp2
  go_loopw [7, 8, 9, 14] (fun _ _ _ x wr => ∃ k q : Nat, k ≤ n ∧ x = .int .i64 k ∧ (∀ i, i < k → gainD Z P D i = gainM Z P i m) ∧ wr = w.drewN q) (fun _ _ _ x _ => n - (intOf x).toNat)
  case atStart => exact ⟨0, 0, Nat.zero_le _, rfl, fun i hi => absurd hi (Nat.not_lt_zero _), rfl⟩
  case round =>
    obtain ⟨k, q, hk, rfl, hall, rfl⟩ := hrel
    have HAll := Lib.hid hall
    clear hall
    by_cases hlt : k < n
    · obtain ⟨bb, ob, rfl, hcb⟩ := HD.out k hlt
      have hkn : (k : Int) < (n : Int) := by omega
      have hdr := HDr.out k hlt
      have NX := Lib.hid (fun (e : gainD Z P D k = gainM Z P k m) i (hi : i < k + 1) => show gainD Z P D i = gainM Z P i m from by
        by_cases e1 : i = k
        · rw [e1]; exact e
        · exact HAll.out i (by omega))
      have NO := Lib.hid (fun (e : ¬ gainD Z P D k = gainM Z P k m) => tt_no (show ¬ FairP n m Z P D from fun h => e ((IFF.out.1 h).1 k hlt)))
      have HMk := Lib.hid (fun q => HM.out q k hlt)
      obtain ⟨G, hG⟩ : ∃ G, G = gainM Z P k m := ⟨_, rfl⟩
      rw [← hG] at HMk NX NO
      by_cases he : D k = -1
      · have EG : gainD Z P D k = 0 := by unfold gainD; rw [if_pos he]
        rw [EG] at NX NO
        have HNk := Lib.hid (HN.out q k)
        rw [he] at hcb
        by_cases hq : (0 : Int) = G
        · have d1 : ((0 : Int) != G) = false := by simp [hq]
          have NX2 := Lib.hid (NX.out hq)
          clear he hG hdr EG NX NO hq
          go_wp2_with (first
            | (go_at_call 88; refine HNk.out.mono ?_; rintro r w' ⟨rfl, rfl⟩)
            | (go_at_call 77; refine (HMk.out _).mono ?_; rintro r w' ⟨rfl, q2, rfl⟩))
          go_roundw
          case rel => exact ⟨k + 1, q + q2, by omega, by go_num, NX2.out, by simp [World.drewN, Nat.add_assoc]⟩
          case measure => simp [intOf]; omega
        · have d1 : ((0 : Int) != G) = true := by simp [hq]
          have NO2 := Lib.hid (NO.out hq)
          clear he hG hdr EG NX NO hq
          go_wp2_with (first
            | (go_at_call 88; refine HNk.out.mono ?_; rintro r w' ⟨rfl, rfl⟩)
            | (go_at_call 77; refine (HMk.out _).mono ?_; rintro r w' ⟨rfl, q2, rfl⟩))
          go_ret
          exact ⟨by rw [NO2.out]; rfl, q + q2, by simp [World.drewN, Nat.add_assoc]⟩
      · obtain ⟨x, hx⟩ := Int.eq_ofNat_of_zero_le (show 0 ≤ D k by omega)
        have hxm : x < m := by omega
        have EG : gainD Z P D k = Z k x - P x := by unfold gainD; rw [if_neg he, hx, Int.toNat_natCast]
        rw [EG] at NX NO
        have HIk := Lib.hid (HI.out q k hlt x hxm)
        obtain ⟨y, hy⟩ : ∃ y, y = Z k x - P x := ⟨_, rfl⟩
        rw [← hy] at NX NO HIk
        rw [hx] at hcb
        by_cases hq : y = G
        · have d1 : (y != G) = false := by simp [hq]
          have NX2 := Lib.hid (NX.out hq)
          clear he hG hdr EG NX NO hq hy hx
          go_wp2_with (first
            | (go_at_call 88; refine HIk.out.mono ?_; rintro r w' ⟨rfl, q1, rfl⟩; rw [World.drewN_drewN])
            | (go_at_call 77; refine (HMk.out _).mono ?_; rintro r w' ⟨rfl, q2, rfl⟩))
          go_roundw
          case rel => exact ⟨k + 1, q + q1 + q2, by omega, by go_num, NX2.out, by simp [World.drewN, Nat.add_assoc]⟩
          case measure => simp [intOf]; omega
        · have d1 : (y != G) = true := by simp [hq]
          have NO2 := Lib.hid (NO.out hq)
          clear he hG hdr EG NX NO hq hy hx
          go_wp2_with (first
            | (go_at_call 88; refine HIk.out.mono ?_; rintro r w' ⟨rfl, q1, rfl⟩; rw [World.drewN_drewN])
            | (go_at_call 77; refine (HMk.out _).mono ?_; rintro r w' ⟨rfl, q2, rfl⟩))
          go_ret
          exact ⟨by rw [NO2.out]; rfl, q + q1 + q2, by simp [World.drewN, Nat.add_assoc]⟩
    · obtain rfl : k = n := by omega
      clear hlt hk HD HN HI HM
      go_wp2
      obtain ⟨q0, hq0⟩ : ∃ q0, q0 = q := ⟨_, rfl⟩
      go_loopw [10, 11, 33] (fun _ _ x wr => ∃ j q2 : Nat, j ≤ m ∧ x = .int .i64 j ∧ (∀ x : Nat, x < j → ¬ (0 < P x ∧ ∀ i, i < k → D i ≠ (x : Int))) ∧ wr = w.drewN q2) (fun _ _ x _ => m - (intOf x).toNat)
      case atStart => exact ⟨0, q, Nat.zero_le _, rfl, fun i hi => absurd hi (Nat.not_lt_zero _), rfl⟩
      case round =>
        obtain ⟨j, q2, hj, rfl, hall, rfl⟩ := hrel
        have HU := Lib.hid hall
        clear hall
        by_cases hlt : j < m
        · obtain ⟨bp, op, rfl, hcp⟩ := HB.out j hlt
          have hjm : (j : Int) < (m : Int) := by omega
          have hpr := HP.out j hlt
          have HCj := Lib.hid (HC.out q2 (j : Nat))
          have NX := Lib.hid (fun (h : ¬ (0 < P j ∧ ∀ i, i < k → D i ≠ (j : Int))) x (hx : x < j + 1) => show ¬ (0 < P x ∧ ∀ i, i < k → D i ≠ (x : Int)) from by
            by_cases e1 : x = j
            · rw [e1]; exact h
            · exact HU.out x (by omega))
          by_cases hpos : P j = 0
          · have NX2 := Lib.hid (NX.out fun h => by omega)
            rw [hpos] at hcp
            clear hpos hpr NX
            go_wp2_with fail
            go_roundw
            case rel => exact ⟨j + 1, q2, by omega, by go_num, NX2.out, rfl⟩
            case measure => simp [intOf]; omega
          · have d1 : (P j != 0) = true := by simp [hpos]
            by_cases hin : HasI k D (j : Nat)
            · have T1 := Lib.hid (tt_of hin)
              have NX2 := Lib.hid (NX.out fun h => by obtain ⟨i, hi, ei⟩ := hin; exact h.2 i hi ei)
              obtain ⟨p, hp'⟩ : ∃ p, p = P j := ⟨_, rfl⟩
              rw [← hp'] at hcp d1
              clear hpos hin NX hp' hpr
              go_wp2_with (go_at_call 89; refine HCj.out.mono ?_; rintro r w' ⟨rfl, rfl⟩; rw [T1.out])
              go_roundw
              case rel => exact ⟨j + 1, q2, by omega, by go_num, NX2.out, rfl⟩
              case measure => simp [intOf]; omega
            · have T1 := Lib.hid (tt_no hin)
              have NO := Lib.hid (tt_no (show ¬ FairP k m Z P D from fun h => (IFF.out.1 h).2 j hlt ⟨by omega, fun i hi ei => hin ⟨i, hi, ei⟩⟩))
              obtain ⟨p, hp'⟩ : ∃ p, p = P j := ⟨_, rfl⟩
              rw [← hp'] at hcp d1
              clear hpos hin NX hp' hpr
              go_wp2_with (go_at_call 89; refine HCj.out.mono ?_; rintro r w' ⟨rfl, rfl⟩; rw [T1.out])
              go_ret
              exact ⟨by rw [NO.out]; rfl, q2, rfl⟩
        · obtain rfl : j = m := by omega
          have YES := Lib.hid (tt_of (IFF.out.2 ⟨HAll.out, HU.out⟩))
          go_wp2
          go_ret
          exact ⟨by rw [YES.out]; rfl, q2, rfl⟩
end Go.Proofs.Ytaipodnhnekpjaa
