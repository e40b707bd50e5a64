/- Texts joined: DrawOne, DrawRateRounds, SpecRateRounds, RateRounds. -/
import Derived.Test.YtabdbgnkiebcdaaDoorPartR8
import Derived.Test.YtabdbgnkiebcdaaDoorPartR5
import Derived.Test.YtabdbgnkiebcdaaDoorPartR7
import Derived.Test.YtabdbgnkiebcdaaDoorPartR6
namespace Go.Proofs.YtabdbgnkiebcdaaDoor
set_option linter.unusedVariables false

section
open Go.RowKit
set_option maxRecDepth 100000 in
set_option maxHeartbeats 6400000 in
theorem l91Table_any (r n c p : Nat) (a : Option Addr) (B : Nat → Nat) (w : World) (hR : RdrAt w r a n c p) (hb : RdB w a n B) (hab : 0 < n → ∀ b o, a = some ⟨b, o, none⟩ → b < w.heap.size ∧ b ≠ r) (hn : n ≤ 2000) (hp : p ≤ 1000) :
    Calls Tryd.prog 104 #[.pointer (some ⟨r, 0, none⟩)] w (DrewTab r a n c p w) := by
  obtain ⟨i0, hi, hz0, hz1, hz2⟩ := info_parts Tryd.infoInt
  obtain ⟨i1, hj, hy0, hy1, hy2⟩ := info_parts Tryd.infoInts
  have hrl := hR.lt
  have HR0 := Lib.hid hR
  have HB := Lib.hid hb
  have HAB := Lib.hid hab
  clear hR hb hab
  go_enter Tryd.func104, Tryd.ntmps104
  go_wp2_with fail
  refine (pick_any r n c p 4 a B _ HR0.out HB.out (fun h0 b o e => (HAB.out h0 b o e).2) hn (by omega) (by omega) (by omega)).mono ?_
  rintro e w1 ⟨x, rfl, hx, hR1, hK1⟩
  have HR1 := Lib.hid (hR1.alloc (.cells #[] 3))
  have hs1 : w.heap.size ≤ w1.heap.size := Nat.le_of_eq hK1.size.symm
  have HU1 := Lib.hid ((ButR.keeps (B := w.heap.size) hK1).alloc hs1 (.cells #[] 3))
  have hrl1 : r < w1.heap.size := by omega
  clear hR1 hK1
  obtain ⟨N, hN⟩ : ∃ N, N = 2 + x := ⟨_, rfl⟩
  have hN2 : 2 ≤ N := by omega
  have hN5 : N ≤ 5 := by omega
  have hNx : (2 : Int) + (x : Int) = (N : Int) := by omega
  clear hN
  go_wp2
  clear hNx
  have R0 := Lib.hid (show (w1.alloc (.cells #[] 3)).ownsRow w1.heap.size 3 1 (.slice (some ⟨w1.heap.size, 0, none⟩) 0 0) 0 (cellsL 0 (fun _ => 0)) from World.ownsRow_made w1 #[] 0 (Nat.le_refl _) (Nat.zero_le _) (by simp))
  go_loopw [4, 5] (fun row s wi => ∃ k : Nat, k ≤ N ∧ s = .int .i64 k ∧ ∃ rv X p', rv = row ∧ wi.ownsRow w1.heap.size 3 1 rv k (cellsL k X) ∧ (∀ j, j < k → 1 ≤ X j ∧ X j ≤ 12) ∧ RdrAt wi r a n c p' ∧ p' ≤ p + 1 + k ∧ w1.heap.size ≤ wi.heap.size ∧ ButR r w.heap.size w wi) (fun _ s _ => N - (intOf s).toNat)
  case atStart => exact ⟨0, Nat.zero_le _, rfl, _, fun _ => 0, p + 1, rfl, R0.out, fun j hj => absurd hj (Nat.not_lt_zero _), HR1.out, Nat.le_refl _, by simp, HU1.out⟩
  case round =>
    obtain ⟨k, hk, rfl, rv, X, p', rfl, hown, hX, hR, hp', hsz, hBu⟩ := hrel
    clear R0 HU1 HR1
    have HX := Lib.hid hX
    by_cases hlt : k < N
    · have HO := Lib.hid hown
      have HR := Lib.hid hR
      have HU := Lib.hid hBu
      clear hown hR hBu hX
      go_wp2_with (first
        | (go_at_call 66; refine (pick_any r n c p' 6 a B _ (HR.out.alloc _) (HB.out.but HAB.out (HU.out.alloc (by omega) _)) (fun h0 b o e => (HAB.out h0 b o e).2) hn (by omega) (by omega) (by omega)).mono ?_; rintro e w5 ⟨y, rfl, hy, hR5, hK5⟩; obtain ⟨v, hv12, hv⟩ := six (w := w5) (g := wr.heap.size) (x := y) ((hK5.block _ (by omega)).trans (heap_alloc_last wr _)) hy; have HV := Lib.hid hv12; have H5 := Lib.hid hR5; have hs5 : wr.heap.size + 1 ≤ w5.heap.size := (by rw [hK5.size, World.size_alloc]; exact Nat.le_refl _); have O5 := Lib.hid (owns_but (HO.out.alloc _) hrl1 hK5); have U5 := Lib.hid ((HU.out.alloc (by omega) (.cells _ 3)).trans (ButR.keeps hK5)); clear hR5 hK5 hv12)
        | (at_builtin; refine wpList_append_lies _ (by rfl) (.tmp 21) (.tmp 27) 32 (by rfl) w1.heap.size 3 i0 (.int .i64 0) 1 8 Tryd.underlying32 hi hz0 hz1 hz2 (by rfl) (by decide) rv k (cellsL k X) (by rfl) (O5.out.alloc _) ⟨_, 0, none⟩ 1 1 [.int .i64 (v : Int)] (by rfl) (by rfl) (news_one (by simp)) (by simp [Value.oneCell']) (by omega) (by unfold maxLen; omega) (by omega) (by first | omega | (simp; omega)) _ rfl ?_; intro g2 cap2 w2 hown2 hgrow2 hat2 hlt2; have N2 := Lib.hid hown2; have G2 := Lib.hid hgrow2; clear hown2 hgrow2 hat2))
      go_roundw
      case rel =>
        refine ⟨k + 1, by omega, by go_num, _, _, p' + 1, rfl, by have := N2.out; rwa [cellsL_snoc] at this, fun j hj => ?_, (H5.out.alloc _).grown G2.out (fun e => by have := (O5.out.lt r e).1; omega), by omega, by have := G2.out.size; simp at this; omega, (U5.out.alloc (by omega) _).grown G2.out (by simp; omega) (fun k hk => by have := (O5.out.lt k hk).1; omega)⟩
        show 1 ≤ (if j < k then X j else (v : Int)) ∧ (if j < k then X j else (v : Int)) ≤ 12
        by_cases e : j < k
        · rw [if_pos e]; exact HX.out j e
        · rw [if_neg e]; have := HV.out; omega
      case measure => simp [intOf]; omega
    · obtain rfl : k = N := by omega
      obtain ⟨gp, cp, rfl⟩ := owns_form hown (by omega)
      have hcap := owns_cap hown
      have HP := Lib.hid (owns_rd hown)
      have HR := Lib.hid hR
      have HU := Lib.hid hBu
      have hgp1 := hcap.2.1
      have hgp2 := hcap.2.2
      have hgpr : gp ≠ r := by omega
      clear hown hR hBu hcap hX
      go_wp2_with fail
      refine (pick_any r n c p' 5 a B _ HR.out (HB.out.but HAB.out HU.out) (fun h0 b o e => (HAB.out h0 b o e).2) hn (by omega) (by omega) (by omega)).mono ?_
      rintro e w6 ⟨kd, rfl, hkd, hR6, hK6⟩
      have hs6 : wr.heap.size ≤ w6.heap.size := Nat.le_of_eq hK6.size.symm
      have HR6 := Lib.hid (hR6.alloc (.cells #[] 32))
      have HU6 := Lib.hid ((HU.out.trans (ButR.keeps hK6)).alloc (by omega) (.cells #[] 32))
      have hgp3 : gp < w6.heap.size := by omega
      have HP6 := Lib.hid ((rd_butR HP.out hgpr hgp2 (ButR.keeps hK6)).below (Nat.le_refl _) (below_alloc (Below.refl _ _) (.cells #[] 32)))
      have hrl6 : r < w6.heap.size := by omega
      obtain ⟨pm, hpm⟩ : ∃ pm, pm = p' + 1 := ⟨_, rfl⟩
      rw [← hpm] at HR6
      have hpm1 : pm ≤ p + 7 := by omega
      clear hR6 hK6 hpm
      go_wp2
      have M0 := Lib.hid (Making.start 32 w6.heap.size (w6.alloc (.cells #[] 32)) (.slice (some ⟨w6.heap.size, 0, none⟩) 0 0) (fun _ => 0) (fun _ => 0) (fun _ => k) (fun _ _ => 0) (World.ownsRow_made w6 #[] 0 (Nat.le_refl _) (Nat.zero_le _) (by simp)))
      go_loopw [7, 8] (fun out s wr => ∃ i : Nat, i ≤ k ∧ s = .int .i64 i ∧ ∃ v G Cp XX pi, v = out ∧ Making 32 w6.heap.size wr v i G Cp (fun _ => k) XX ∧ RdrAt wr r a n c pi ∧ pi ≤ pm + 10 * i ∧ Rd wr (some ⟨gp, 0, none⟩) k X ∧ w6.heap.size ≤ wr.heap.size ∧ ButR r w.heap.size w wr) (fun _ s _ => k - (intOf s).toNat)
      case atStart => exact ⟨0, Nat.zero_le _, rfl, _, _, _, _, pm, rfl, M0.out, HR6.out, by omega, HP6.out, by simp, HU6.out⟩
      case round =>
        obtain ⟨i, hik, rfl, ov, G, Cp, XX, pi, rfl, hM, hRi, hpi, hPi, hsi, hUi⟩ := hrel
        clear M0 HR6 HU6 HP6
        obtain ⟨M, hM'⟩ : ∃ M : Nat, M = k := ⟨_, rfl⟩
        rw [← hM'] at hM hik hPi ⊢
        have HM5 := Lib.hid (show M ≤ 5 by omega)
        have hM2 : 2 ≤ M := by omega
        have hM5 : M ≤ 5 := by omega
        have HXM := Lib.hid (show ∀ j, j < M → 1 ≤ X j ∧ X j ≤ 12 by rw [hM']; exact HX.out)
        have HM := Lib.hid hM
        have HRi := Lib.hid hRi
        have HPi := Lib.hid hPi
        have HUo := Lib.hid hUi
        clear hM hRi hPi hUi hM' HX hk hlt
        by_cases hil : i < M
        · go_wp2
          obtain ⟨wo, rfl⟩ : ∃ wo : World, wo = wr := ⟨_, rfl⟩
          have hrwo : r < wo.heap.size := by omega
          have hwo : w.heap.size ≤ wo.heap.size := by omega
          have hgpo : gp < wo.heap.size := by omega
          have R0 := Lib.hid (show (wo.alloc (.cells #[] 3)).ownsRow wo.heap.size 3 1 (.slice (some ⟨wo.heap.size, 0, none⟩) 0 0) 0 (cellsL 0 (fun _ => 0)) from World.ownsRow_made wo #[] 0 (Nat.le_refl _) (Nat.zero_le _) (by simp))
          have HRr := Lib.hid (HRi.out.alloc (.cells #[] 3))
          have U0 := Lib.hid ((ButR.refl r wo.heap.size wo).alloc (Nat.le_refl _) (.cells #[] 3))
          go_loopw [9, 10] (fun row s wi => ∃ k : Nat, k ≤ M ∧ s = .int .i64 k ∧ ∃ rv Y pk, rv = row ∧ wi.ownsRow wo.heap.size 3 1 rv k (cellsL k Y) ∧ RdrAt wi r a n c pk ∧ pk ≤ pi + 2 * k ∧ wo.heap.size ≤ wi.heap.size ∧ ButR r wo.heap.size wo wi) (fun _ s _ => M - (intOf s).toNat)
          case atStart => exact ⟨0, Nat.zero_le _, rfl, _, fun _ => 0, pi, rfl, R0.out, HRr.out, Nat.le_refl _, by simp, U0.out⟩
          case round =>
            obtain ⟨k, hkM, rfl, rv, Y, pk, rfl, hown, hRk, hpk, hsk, hUk⟩ := hrel
            clear R0 HRr U0
            by_cases hkl : k < M
            · have hP := rd_butR HPi.out hgpr hgpo hUk
              obtain ⟨bi, oi, ei, hci⟩ := hP i hil
              simp only [Option.some.injEq, Addr.mk.injEq, and_true] at ei
              obtain ⟨rfl, rfl⟩ := ei
              obtain ⟨bk, ok, ek, hck⟩ := hP k hkl
              simp only [Option.some.injEq, Addr.mk.injEq, and_true] at ek
              obtain ⟨rfl, rfl⟩ := ek
              rw [Nat.zero_add] at hci hck
              have hxi := HXM.out i hil
              have hxk := HXM.out k hkl
              have hq1 : 1 ≤ 12 * X i / X k := Int.le_ediv_of_mul_le (by omega) (by omega)
              have hq2 : 12 * X i / X k ≤ 12 * X i := Int.ediv_le_self _ (by omega)
              obtain ⟨V, hV⟩ := Int.eq_ofNat_of_zero_le (show 0 ≤ 12 * X i / X k by omega)
              have hV1 : 1 ≤ V := by omega
              have hV2 : V ≤ 144 := by omega
              have hm1 : IntKind.i64.wrap (12 * X i) = 12 * X i := IntWalk.i64_in _ (by omega)
              have hm2 : (12 * X i).tdiv (X k) = (V : Int) := by rw [Int.tdiv_eq_ediv_of_nonneg (by omega)]; exact hV
              have hm3 : IntKind.i64.wrap (V : Int) = (V : Int) := IntWalk.i64_in _ (by omega)
              have hz : (X k == 0) = false := by simp; omega
              have hz2' : ¬ X k = 0 := by omega
              have HO := Lib.hid hown
              have HRk := Lib.hid hRk
              have HUk := Lib.hid hUk
              clear hown hRk hUk hP hxi hxk hq1 hq2 hV
              go_wp2
              go_quiet (fail)
              clear hm1 hm2 hm3 hz hz2' hci hck
              obtain ⟨wz0, hwz0⟩ : ∃ wz0, wz0 = wr.drewN nq := ⟨_, rfl⟩
              have ZR0 : Hid (RdrAt wz0 r a n c pk) := Lib.hid (by rw [hwz0]; exact HRk.out.of_block rfl)
              have ZU0 : Hid (ButR r wo.heap.size wo wz0) := Lib.hid (by rw [hwz0]; exact HUk.out.trans ⟨rfl, rfl, rfl, Nat.le_refl _, fun _ _ _ => rfl⟩)
              have ZO0 : Hid (wz0.ownsRow wo.heap.size 3 1 rv k (cellsL k Y)) := Lib.hid (by rw [hwz0]; exact HO.out)
              have zs0 : wo.heap.size ≤ wz0.heap.size := by rw [hwz0]; exact hsk
              rw [← hwz0]
              clear hwz0 HO HRk HUk
              by_cases hdi : i = k
              · have hd : ((i : Int) == (k : Int)) = true := by simp; omega
                clear hdi
                have ZR := ZR0
                have ZU := ZU0
                have ZO := ZO0
                have zs := zs0
                obtain ⟨pz, hpz⟩ : ∃ pz, pz = pk := ⟨_, rfl⟩
                rw [← hpz] at ZR
                have hpzle : pz ≤ pk + 2 := by omega
                clear hpz
                go_wp2_with (at_builtin; refine wpList_append_lies _ (by rfl) (.tmp 92) (.tmp 94) 32 (by rfl) wo.heap.size 3 i0 (.int .i64 0) 1 8 Tryd.underlying32 hi hz0 hz1 hz2 (by rfl) (by decide) rv k (cellsL k Y) (by rfl) (ZO.out.alloc _) ⟨_, 0, none⟩ 1 1 [.int .i64 (12)] (by rfl) (by rfl) (news_one (by simp)) (by simp [Value.oneCell']) (by omega) (by unfold maxLen; omega) (by omega) (by first | omega | (simp; omega)) _ rfl ?_; intro g2 cap2 w2 hown2 hgrow2 hat2 hlt2; have N2 := Lib.hid hown2; have G2 := Lib.hid hgrow2; clear hown2 hgrow2 hat2)
                go_roundw
                case rel =>
                  exact ⟨k + 1, by omega, by go_num, _, _, pz, rfl, by have := N2.out; rwa [cellsL_snoc] at this, (ZR.out.alloc _).grown G2.out (fun e => by have := (ZO.out.lt r e).1; omega), by omega, by have := G2.out.size; simp at this; omega, (ZU.out.alloc zs _).grown G2.out (by simp; omega) (fun k hk => (ZO.out.lt k hk).1)⟩
                case measure => simp [intOf]; omega
              · have hd : ((i : Int) == (k : Int)) = false := by simp; omega
                clear hdi
                have hkc : kd = 0 ∨ kd = 1 ∨ kd = 2 ∨ kd = 3 ∨ kd = 4 := by omega
                rcases hkc with hke | hke | hke | hke | hke
                · have e0 : ((kd : Int) == 0) = true := by simp; omega
                  clear hke
                  go_wp2_with fail
                  refine (pick_any r n c pk 40 a B _ ZR0.out (HB.out.but HAB.out (HUo.out.trans (ZU0.out.mono hwo))) (fun h0 b o e => (HAB.out h0 b o e).2) hn (by omega) (by omega) (by omega)).mono ?_
                  rintro e wz1 ⟨y, rfl, hy, hR5, hK5⟩
                  have ZR1 := Lib.hid hR5
                  have ZU1 := Lib.hid (ZU0.out.trans (ButR.keeps hK5))
                  have ZO1 := Lib.hid (owns_but ZO0.out hrwo hK5)
                  have zs1 : wo.heap.size ≤ wz1.heap.size := Nat.le_trans zs0 (Nat.le_of_eq hK5.size.symm)
                  clear hR5 hK5
                  have ZR := ZR1
                  have ZU := ZU1
                  have ZO := ZO1
                  have zs := zs1
                  obtain ⟨pz, hpz⟩ : ∃ pz, pz = pk + 1 := ⟨_, rfl⟩
                  rw [← hpz] at ZR
                  have hpzle : pz ≤ pk + 2 := by omega
                  clear hpz
                  go_wp2_with (at_builtin; refine wpList_append_lies _ (by rfl) (.tmp 92) (.tmp 94) 32 (by rfl) wo.heap.size 3 i0 (.int .i64 0) 1 8 Tryd.underlying32 hi hz0 hz1 hz2 (by rfl) (by decide) rv k (cellsL k Y) (by rfl) (ZO.out.alloc _) ⟨_, 0, none⟩ 1 1 [.int .i64 (1 + (y : Int))] (by rfl) (by rfl) (news_one (by simp)) (by simp [Value.oneCell']) (by omega) (by unfold maxLen; omega) (by omega) (by first | omega | (simp; omega)) _ rfl ?_; intro g2 cap2 w2 hown2 hgrow2 hat2 hlt2; have N2 := Lib.hid hown2; have G2 := Lib.hid hgrow2; clear hown2 hgrow2 hat2)
                  go_roundw
                  case rel =>
                    exact ⟨k + 1, by omega, by go_num, _, _, pz, rfl, by have := N2.out; rwa [cellsL_snoc] at this, (ZR.out.alloc _).grown G2.out (fun e => by have := (ZO.out.lt r e).1; omega), by omega, by have := G2.out.size; simp at this; omega, (ZU.out.alloc zs _).grown G2.out (by simp; omega) (fun k hk => (ZO.out.lt k hk).1)⟩
                  case measure => simp [intOf]; omega
                · have e0 : ((kd : Int) == 0) = false := by simp; omega
                  have e1 : ((kd : Int) == 1) = true := by simp; omega
                  clear hke
                  go_wp2_with fail
                  refine (pick_any r n c pk 2 a B _ ZR0.out (HB.out.but HAB.out (HUo.out.trans (ZU0.out.mono hwo))) (fun h0 b o e => (HAB.out h0 b o e).2) hn (by omega) (by omega) (by omega)).mono ?_
                  rintro e wz1 ⟨y, rfl, hy, hR5, hK5⟩
                  have ZR1 := Lib.hid hR5
                  have ZU1 := Lib.hid (ZU0.out.trans (ButR.keeps hK5))
                  have ZO1 := Lib.hid (owns_but ZO0.out hrwo hK5)
                  have zs1 : wo.heap.size ≤ wz1.heap.size := Nat.le_trans zs0 (Nat.le_of_eq hK5.size.symm)
                  clear hR5 hK5
                  have ZR := ZR1
                  have ZU := ZU1
                  have ZO := ZO1
                  have zs := zs1
                  obtain ⟨pz, hpz⟩ : ∃ pz, pz = pk + 1 := ⟨_, rfl⟩
                  rw [← hpz] at ZR
                  have hpzle : pz ≤ pk + 2 := by omega
                  clear hpz
                  go_wp2_with (at_builtin; refine wpList_append_lies _ (by rfl) (.tmp 92) (.tmp 94) 32 (by rfl) wo.heap.size 3 i0 (.int .i64 0) 1 8 Tryd.underlying32 hi hz0 hz1 hz2 (by rfl) (by decide) rv k (cellsL k Y) (by rfl) (ZO.out.alloc _) ⟨_, 0, none⟩ 1 1 [.int .i64 (max 1 ((V : Int) - (y : Int)))] (by rfl) (by rfl) (news_one (by simp)) (by simp [Value.oneCell']) (by omega) (by unfold maxLen; omega) (by omega) (by first | omega | (simp; omega)) _ rfl ?_; intro g2 cap2 w2 hown2 hgrow2 hat2 hlt2; have N2 := Lib.hid hown2; have G2 := Lib.hid hgrow2; clear hown2 hgrow2 hat2)
                  go_roundw
                  case rel =>
                    exact ⟨k + 1, by omega, by go_num, _, _, pz, rfl, by have := N2.out; rwa [cellsL_snoc] at this, (ZR.out.alloc _).grown G2.out (fun e => by have := (ZO.out.lt r e).1; omega), by omega, by have := G2.out.size; simp at this; omega, (ZU.out.alloc zs _).grown G2.out (by simp; omega) (fun k hk => (ZO.out.lt k hk).1)⟩
                  case measure => simp [intOf]; omega
                · have e0 : ((kd : Int) == 0) = false := by simp; omega
                  have e1 : ((kd : Int) == 1) = false := by simp; omega
                  have e2 : ((kd : Int) == 2) = true := by simp; omega
                  clear hke
                  go_wp2_with fail
                  refine (pick_any r n c pk V a B _ ZR0.out (HB.out.but HAB.out (HUo.out.trans (ZU0.out.mono hwo))) (fun h0 b o e => (HAB.out h0 b o e).2) hn (by omega) (by omega) (by omega)).mono ?_
                  rintro e wz1 ⟨y, rfl, hy, hR5, hK5⟩
                  have ZR1 := Lib.hid hR5
                  have ZU1 := Lib.hid (ZU0.out.trans (ButR.keeps hK5))
                  have ZO1 := Lib.hid (owns_but ZO0.out hrwo hK5)
                  have zs1 : wo.heap.size ≤ wz1.heap.size := Nat.le_trans zs0 (Nat.le_of_eq hK5.size.symm)
                  clear hR5 hK5
                  have ZR := ZR1
                  have ZU := ZU1
                  have ZO := ZO1
                  have zs := zs1
                  obtain ⟨pz, hpz⟩ : ∃ pz, pz = pk + 1 := ⟨_, rfl⟩
                  rw [← hpz] at ZR
                  have hpzle : pz ≤ pk + 2 := by omega
                  clear hpz
                  go_wp2_with (at_builtin; refine wpList_append_lies _ (by rfl) (.tmp 92) (.tmp 94) 32 (by rfl) wo.heap.size 3 i0 (.int .i64 0) 1 8 Tryd.underlying32 hi hz0 hz1 hz2 (by rfl) (by decide) rv k (cellsL k Y) (by rfl) (ZO.out.alloc _) ⟨_, 0, none⟩ 1 1 [.int .i64 (max 1 ((V : Int) - (y : Int)))] (by rfl) (by rfl) (news_one (by simp)) (by simp [Value.oneCell']) (by omega) (by unfold maxLen; omega) (by omega) (by first | omega | (simp; omega)) _ rfl ?_; intro g2 cap2 w2 hown2 hgrow2 hat2 hlt2; have N2 := Lib.hid hown2; have G2 := Lib.hid hgrow2; clear hown2 hgrow2 hat2)
                  go_roundw
                  case rel =>
                    exact ⟨k + 1, by omega, by go_num, _, _, pz, rfl, by have := N2.out; rwa [cellsL_snoc] at this, (ZR.out.alloc _).grown G2.out (fun e => by have := (ZO.out.lt r e).1; omega), by omega, by have := G2.out.size; simp at this; omega, (ZU.out.alloc zs _).grown G2.out (by simp; omega) (fun k hk => (ZO.out.lt k hk).1)⟩
                  case measure => simp [intOf]; omega
                · have e0 : ((kd : Int) == 0) = false := by simp; omega
                  have e1 : ((kd : Int) == 1) = false := by simp; omega
                  have e2 : ((kd : Int) == 2) = false := by simp; omega
                  have e3 : ((kd : Int) == 3) = true := by simp; omega
                  clear hke
                  go_wp2_with fail
                  refine (pick_any r n c pk 4 a B _ ZR0.out (HB.out.but HAB.out (HUo.out.trans (ZU0.out.mono hwo))) (fun h0 b o e => (HAB.out h0 b o e).2) hn (by omega) (by omega) (by omega)).mono ?_
                  rintro e wz1 ⟨y, rfl, hy, hR5, hK5⟩
                  have ZR1 := Lib.hid hR5
                  have ZU1 := Lib.hid (ZU0.out.trans (ButR.keeps hK5))
                  have ZO1 := Lib.hid (owns_but ZO0.out hrwo hK5)
                  have zs1 : wo.heap.size ≤ wz1.heap.size := Nat.le_trans zs0 (Nat.le_of_eq hK5.size.symm)
                  clear hR5 hK5
                  by_cases hy0 : y = 0
                  · have hd2 : ((y : Int) == 0) = true := by simp; omega
                    clear hy0
                    go_wp2_with fail
                    refine (pick_any r n c (pk + 1) 2 a B _ ZR1.out (HB.out.but HAB.out (HUo.out.trans (ZU1.out.mono hwo))) (fun h0 b o e => (HAB.out h0 b o e).2) hn (by omega) (by omega) (by omega)).mono ?_
                    rintro e wz2 ⟨z, rfl, hz, hR5, hK5⟩
                    have ZR2 := Lib.hid hR5
                    have ZU2 := Lib.hid (ZU1.out.trans (ButR.keeps hK5))
                    have ZO2 := Lib.hid (owns_but ZO1.out hrwo hK5)
                    have zs2 : wo.heap.size ≤ wz2.heap.size := Nat.le_trans zs1 (Nat.le_of_eq hK5.size.symm)
                    clear hR5 hK5
                    have ZR := ZR2
                    have ZU := ZU2
                    have ZO := ZO2
                    have zs := zs2
                    obtain ⟨pz, hpz⟩ : ∃ pz, pz = pk + 1 + 1 := ⟨_, rfl⟩
                    rw [← hpz] at ZR
                    have hpzle : pz ≤ pk + 2 := by omega
                    clear hpz
                    go_wp2_with (at_builtin; refine wpList_append_lies _ (by rfl) (.tmp 92) (.tmp 94) 32 (by rfl) wo.heap.size 3 i0 (.int .i64 0) 1 8 Tryd.underlying32 hi hz0 hz1 hz2 (by rfl) (by decide) rv k (cellsL k Y) (by rfl) (ZO.out.alloc _) ⟨_, 0, none⟩ 1 1 [.int .i64 ((V : Int) + (z : Int))] (by rfl) (by rfl) (news_one (by simp)) (by simp [Value.oneCell']) (by omega) (by unfold maxLen; omega) (by omega) (by first | omega | (simp; omega)) _ rfl ?_; intro g2 cap2 w2 hown2 hgrow2 hat2 hlt2; have N2 := Lib.hid hown2; have G2 := Lib.hid hgrow2; clear hown2 hgrow2 hat2)
                    go_roundw
                    case rel =>
                      exact ⟨k + 1, by omega, by go_num, _, _, pz, rfl, by have := N2.out; rwa [cellsL_snoc] at this, (ZR.out.alloc _).grown G2.out (fun e => by have := (ZO.out.lt r e).1; omega), by omega, by have := G2.out.size; simp at this; omega, (ZU.out.alloc zs _).grown G2.out (by simp; omega) (fun k hk => (ZO.out.lt k hk).1)⟩
                    case measure => simp [intOf]; omega
                  · have hd2 : ((y : Int) == 0) = false := by simp; omega
                    clear hy0
                    have ZR := ZR1
                    have ZU := ZU1
                    have ZO := ZO1
                    have zs := zs1
                    obtain ⟨pz, hpz⟩ : ∃ pz, pz = pk + 1 := ⟨_, rfl⟩
                    rw [← hpz] at ZR
                    have hpzle : pz ≤ pk + 2 := by omega
                    clear hpz
                    go_wp2_with (at_builtin; refine wpList_append_lies _ (by rfl) (.tmp 92) (.tmp 94) 32 (by rfl) wo.heap.size 3 i0 (.int .i64 0) 1 8 Tryd.underlying32 hi hz0 hz1 hz2 (by rfl) (by decide) rv k (cellsL k Y) (by rfl) (ZO.out.alloc _) ⟨_, 0, none⟩ 1 1 [.int .i64 ((V : Int))] (by rfl) (by rfl) (news_one (by simp)) (by simp [Value.oneCell']) (by omega) (by unfold maxLen; omega) (by omega) (by first | omega | (simp; omega)) _ rfl ?_; intro g2 cap2 w2 hown2 hgrow2 hat2 hlt2; have N2 := Lib.hid hown2; have G2 := Lib.hid hgrow2; clear hown2 hgrow2 hat2)
                    go_roundw
                    case rel =>
                      exact ⟨k + 1, by omega, by go_num, _, _, pz, rfl, by have := N2.out; rwa [cellsL_snoc] at this, (ZR.out.alloc _).grown G2.out (fun e => by have := (ZO.out.lt r e).1; omega), by omega, by have := G2.out.size; simp at this; omega, (ZU.out.alloc zs _).grown G2.out (by simp; omega) (fun k hk => (ZO.out.lt k hk).1)⟩
                    case measure => simp [intOf]; omega
                · have e0 : ((kd : Int) == 0) = false := by simp; omega
                  have e1 : ((kd : Int) == 1) = false := by simp; omega
                  have e2 : ((kd : Int) == 2) = false := by simp; omega
                  have e3 : ((kd : Int) == 3) = false := by simp; omega
                  clear hke
                  have ZR := ZR0
                  have ZU := ZU0
                  have ZO := ZO0
                  have zs := zs0
                  obtain ⟨pz, hpz⟩ : ∃ pz, pz = pk := ⟨_, rfl⟩
                  rw [← hpz] at ZR
                  have hpzle : pz ≤ pk + 2 := by omega
                  clear hpz
                  go_wp2_with (at_builtin; refine wpList_append_lies _ (by rfl) (.tmp 92) (.tmp 94) 32 (by rfl) wo.heap.size 3 i0 (.int .i64 0) 1 8 Tryd.underlying32 hi hz0 hz1 hz2 (by rfl) (by decide) rv k (cellsL k Y) (by rfl) (ZO.out.alloc _) ⟨_, 0, none⟩ 1 1 [.int .i64 ((V : Int))] (by rfl) (by rfl) (news_one (by simp)) (by simp [Value.oneCell']) (by omega) (by unfold maxLen; omega) (by omega) (by first | omega | (simp; omega)) _ rfl ?_; intro g2 cap2 w2 hown2 hgrow2 hat2 hlt2; have N2 := Lib.hid hown2; have G2 := Lib.hid hgrow2; clear hown2 hgrow2 hat2)
                  go_roundw
                  case rel =>
                    exact ⟨k + 1, by omega, by go_num, _, _, pz, rfl, by have := N2.out; rwa [cellsL_snoc] at this, (ZR.out.alloc _).grown G2.out (fun e => by have := (ZO.out.lt r e).1; omega), by omega, by have := G2.out.size; simp at this; omega, (ZU.out.alloc zs _).grown G2.out (by simp; omega) (fun k hk => (ZO.out.lt k hk).1)⟩
                  case measure => simp [intOf]; omega
            · obtain rfl : k = M := by omega
              obtain ⟨gr, cr, rfl⟩ := owns_form hown (by omega)
              have hrow := OwnR.of_owns hown
              have hltr := hown.lt gr rfl
              have HR2 := Lib.hid hrow
              have HM2 := Lib.hid (making_butR HM.out (by omega) hUk)
              have hvlt := fun x hx => (HM.out.1.lt x hx)
              have HV := Lib.hid hvlt
              have HRk := Lib.hid hRk
              have HUk := Lib.hid hUk
              have HU2 := Lib.hid (HUo.out.trans (hUk.mono hwo))
              have HP2 := Lib.hid (rd_butR HPi.out hgpr hgpo hUk)
              clear hown hrow hRk hUk hvlt
              go_wp2_with (at_builtin; refine wpList_append_lies _ (by rfl) (.tmp 96) (.tmp 98) 22 (by rfl) w6.heap.size 32 i1 (.slice none 0 0) 1 24 Tryd.underlying22 hj hy0 hy1 hy2 (by rfl) (by decide) ov i ((List.range i).map fun r => .slice (some ⟨G r, 0, none⟩) k (Cp r)) (by rfl) (HM2.out.1.alloc _) ⟨_, 0, none⟩ 1 1 [.slice (some ⟨gr, 0, none⟩) k cr] (by rfl) (by rfl) (news_one (by simp)) (by simp [Value.oneCell']) (by omega) (by unfold maxLen; omega) (by omega) (by first | omega | (simp; omega)) _ rfl ?_; intro g2 cap2 w2 hown2 hgrow2 hat2 hlt2; have N2 := Lib.hid hown2; have G2' := Lib.hid hgrow2; have A2 := Lib.hid hat2; clear hown2 hgrow2 hat2)
              go_roundw
              case rel =>
                refine ⟨i + 1, by omega, by go_num, _, (fun s => if s < i then G s else gr), (fun s => if s < i then Cp s else cr), (fun s => if s < i then XX s else Y), pk, rfl, ?_, (HRk.out.alloc _).grown G2'.out (fun e => by have := (HV.out r e).1; omega), by omega, ?_, by have := G2'.out.size; simp at this; omega, (HU2.out.alloc (by omega) _).grown G2'.out (by simp; omega) (fun x hx => by have := (HV.out x hx).1; omega)⟩
                · refine Making.next (w := wr.alloc _) ((making_same HM2.out (fun s hs => by show XX s = (if s < i then XX s else Y); rw [if_pos hs])).below (below_alloc (Below.refl _ _) _)) (by show OwnR _ gr _ k (if i < i then XX i else Y); rw [if_neg (Nat.lt_irrefl _)]; exact HR2.out.of_block (Below.heap_alloc _ _ _ hltr.2)) (by omega) (by simp; omega) (fun h => by have := HV.out gr h; omega) (fun s hs e => by have := (HM.out.2.1 s hs).2.1; omega) N2.out G2'.out A2.out (Nat.le_refl _)
                · intro j hj
                  obtain ⟨b', o', he, hc⟩ := HP2.out j hj
                  refine ⟨b', o', he, ?_⟩
                  simp only [Option.some.injEq, Addr.mk.injEq, and_true] at he
                  obtain ⟨rfl, rfl⟩ := he
                  have h7 : (wr.alloc (.cells #[.slice (some ⟨gr, 0, none⟩) k cr] 32)).cell? ⟨gp, 0 + j, none⟩ = some (.int .i64 (X j)) := by
                    rw [World.cell?_of_block (w := wr) (a := ⟨gp, 0 + j, none⟩) (Below.heap_alloc _ _ _ (by show gp < wr.heap.size; omega))]; exact hc
                  exact G2'.out.cell h7 (fun e => by have := (HV.out gp e.symm).1; omega)
              case measure => simp [intOf]; omega
        · obtain rfl : i = M := by omega
          obtain ⟨go, co, rfl⟩ := owns_form HM.out.1 (by omega)
          have hcapo := (owns_cap HM.out.1).1
          go_wp2_with fail
          refine (pick_any r n c pi 50 a B _ HRi.out (HB.out.but HAB.out HUo.out) (fun h0 b o e => (HAB.out h0 b o e).2) hn (by omega) (by omega) (by omega)).mono ?_
          rintro e w7 ⟨u, rfl, hu, hR7, hK7⟩
          have M7 := Lib.hid (making_but HM.out (by omega) hK7)
          have HR7 := Lib.hid hR7
          have U7 := Lib.hid (HUo.out.trans (ButR.keeps hK7))
          have T7 := Lib.hid M7.out.ownT.tab
          have hgo := M7.out.1.lt go rfl
          have hgo1 := hgo.1
          have AG7 := Lib.hid (show w.heap.size ≤ go by omega)
          have AP7 := Lib.hid (show ∀ s, s < i → w.heap.size ≤ G s from fun s hs => by have := (M7.out.2.1 s hs).1; omega)
          clear hR7 hK7 hgo
          by_cases hu0 : u = 0
          · subst hu0
            have hd : (((0 : Nat) : Int) == 0) = true := by decide
            have hct := M7.out.1.cells (g := go) rfl 0 (.slice (some ⟨G 0, 0, none⟩) i (Cp 0)) (by simp [show 0 < i by omega])
            rw [Go.WideShapes.add_plain, Nat.zero_add] at hct
            obtain ⟨hG1, hG2, hG3, hG4⟩ := M7.out.2.1 0 (by omega)
            have hne : go ≠ G 0 := fun e => hG3 (by rw [← e]; rfl)
            have hrG : r ≠ G 0 := by omega
            obtain ⟨hc1, hf1⟩ : w7.cell? ⟨G 0, 1, none⟩ = some (.int .i64 (XX 0 1)) ∧ w7.frozen? ⟨G 0, 1, none⟩ = false := by
              rcases hG4 with h0 | ⟨o, ha, hc⟩
              · have h0' : i = 0 := h0
                omega
              · simp only [Option.some.injEq, Addr.mk.injEq, true_and, and_true] at ha
                subst ha
                exact hc 1 (show 1 < i by omega)
            have HC1 := Lib.hid hc1
            clear hG3 hG4
            go_wp2
            go_ret
            refine ⟨some ⟨go, 0, none⟩, i, co, fun s => some ⟨G s, 0, none⟩, fun _ => i, Cp, (fun s k => if s = 0 ∧ k = 1 then 0 else XX s k), pi + 1, rfl, ⟨by omega, by omega⟩, ⟨fun s hs => by show i ≤ 5; omega, fun b o e => by cases e; exact AG7.out, fun s hs b o e => by cases e; exact AP7.out s hs⟩, ?_, HR7.out.of_block (Below.heap_setCell _ _ _ _ hrG), by omega, U7.out.setCell (p := ⟨G 0, 1, none⟩) (by show w.heap.size ≤ G 0; omega) _⟩
            intro s hs
            obtain ⟨b', o', e', hc', hr'⟩ := T7.out s hs
            cases e'
            refine ⟨go, 0, rfl, ?_, fun k hk => ?_⟩
            · rw [World.cell?_of_block (w := w7) (a := ⟨go, 0 + s, none⟩) (Below.heap_setCell _ _ _ _ hne)]; exact hc'
            · obtain ⟨b2, o2, e2, hc2⟩ := hr' k hk
              refine ⟨b2, o2, e2, ?_⟩
              cases e2
              rw [Nat.zero_add] at hc2 ⊢
              show _ = some (Value.int .i64 (if s = 0 ∧ k = 1 then 0 else XX s k))
              by_cases hs0 : s = 0 ∧ k = 1
              · obtain ⟨rfl, rfl⟩ := hs0
                rw [if_pos ⟨rfl, rfl⟩]
                exact World.cell?_setCell_same _ _ _ HC1.out
              · rw [if_neg hs0, World.cell?_setCell_other _ _ _ _ (fun e' => hs0 ?_)]
                · exact hc2
                · injection e' with e1 e2'
                  refine ⟨?_, e2'.symm⟩
                  rcases Nat.eq_zero_or_pos s with h' | h'
                  · exact h'
                  · exact absurd e1 (M7.out.2.2 0 s (by omega) hs (by omega))
          · have hd0 : ((u : Int) == 0) = false := by simp; omega
            by_cases hu1 : u = 1
            · subst hu1
              have hd1 : (((1 : Nat) : Int) == 1) = true := by decide
              go_wp2
              go_ret
              refine ⟨some ⟨go, 1, none⟩, i - 1, co - 1, fun s => some ⟨G (s + 1), 0, none⟩, fun _ => i, fun s => Cp (s + 1), fun s => XX (s + 1), pi + 1, rfl, ⟨by omega, by omega⟩, ⟨fun s hs => by show i ≤ 5; omega, fun b o e => by cases e; exact AG7.out, fun s hs b o e => by cases e; exact AP7.out (s + 1) (by omega)⟩, ?_, HR7.out, by omega, U7.out⟩
              intro s hs
              obtain ⟨b', o', e', hc', hr'⟩ := T7.out (s + 1) (by omega)
              cases e'
              exact ⟨go, 1, rfl, by rw [Nat.add_comm 1 s]; rw [Nat.zero_add] at hc'; exact hc', hr'⟩
            · have hd1 : ((u : Int) == 1) = false := by simp; omega
              go_wp2
              go_ret
              exact ⟨some ⟨go, 0, none⟩, i, co, fun s => some ⟨G s, 0, none⟩, fun _ => i, Cp, XX, pi + 1, rfl, ⟨by omega, by omega⟩, ⟨fun s hs => by show i ≤ 5; omega, fun b o e => by cases e; exact AG7.out, fun s hs b o e => by cases e; exact AP7.out s hs⟩, T7.out, HR7.out, by omega, U7.out⟩
end

section
open Go.RowKit
set_option maxHeartbeats 1600000 in
theorem l91One_any (n c : Nat) (a : Option Addr) (B : Nat → Nat) (w : World) (hn : n ≤ 1048576) (hc : n ≤ c) (hb : RdB w a n B) (hab : 0 < n → ∀ b o, a = some ⟨b, o, none⟩ → b < w.heap.size) :
    Calls Tryd.prog 62 #[.slice a n c] w (DrewTabTop w) := by
  have HB := Lib.hid hb
  have HAL := Lib.hid hab
  clear hb hab
  go_enter Tryd.func62, Tryd.ntmps62
  go_wp2_with fail
  refine (l6Open_any n c a _ hn hc).mono ?_
  rintro e w1 ⟨n', c', rfl, hn2, hnn, hR1, hs1, hb1⟩
  have HB1 := Lib.hid ((HB.out.below (Nat.le_refl _) hb1).sub hnn)
  have HR1 := Lib.hid hR1
  have Hb1 := Lib.hid hb1
  have hlt1 : w.heap.size < w1.heap.size := by omega
  have HAL1 := Lib.hid (show 0 < n' → ∀ b o, a = some ⟨b, o, none⟩ → b < w1.heap.size ∧ b ≠ w.heap.size from fun h0 b o e => by have := HAL.out (by omega) b o e; exact ⟨by omega, by omega⟩)
  clear hR1 hb1 hs1
  go_wp2_with fail
  refine (l91Table_any w.heap.size n' c' 0 a B _ HR1.out HB1.out HAL1.out hn2 (by omega)).mono ?_
  rintro e w2 ⟨ga, N, gc, A, L, C, Z, p2, rfl, hN, ⟨hL, -⟩, hT, hR2, hp2, hU2⟩
  have HN := Lib.hid hN
  have HL := Lib.hid hL
  have HT := Lib.hid hT
  have HU := Lib.hid (Hb1.out.trans (hU2.toBelow (Nat.le_of_lt hlt1)))
  clear hN hL hT hR2 hU2
  go_wp2
  go_ret
  exact ⟨ga, N, gc, A, L, C, Z, rfl, HN.out, HL.out, HT.out, HU.out⟩
end

end Go.Proofs.YtabdbgnkiebcdaaDoor

namespace Go.Proofs.YtabdbgnkiebcdaaDoor
set_option linter.unusedVariables false
open Go.RowKit

theorem drawRateRounds_any (n c : Nat) (a : Option Addr) (B : Nat → Nat) (w : World) (hn : n ≤ 1048576) (hc : n ≤ c) (hb : RdB w a n B) (hab : 0 < n → ∀ b o, a = some ⟨b, o, none⟩ → b < w.heap.size) :
    Calls Tryd.prog 26 #[.slice a n c] w (DrewTabTop w) := by
  have H := Lib.hid (l91One_any n c a B w hn hc hb hab)
  clear hb hab
  go_enter Tryd.func26, Tryd.ntmps26
  go_wp2_with fail
  refine H.out.mono ?_
  rintro e w1 ⟨ga, N, gc, A, L, C, Z, rfl, h⟩
  have HH := Lib.hid h
  clear h H
  go_wp2
  go_ret
  exact ⟨ga, N, gc, A, L, C, Z, rfl, HH.out⟩
end Go.Proofs.YtabdbgnkiebcdaaDoor

namespace Go.Proofs.YtabdbgnkiebcdaaDoor
set_option linter.unusedVariables false
open Go.RowKit

set_option maxHeartbeats 800000 in
theorem specRateRounds_any (n c : Nat) (a : Option Addr) (A : Nat → Option Addr) (L C : Nat → Nat) (Z : Nat → Nat → Int) (w : World) (hn0 : n ≤ 1048576) (hL0 : ∀ r, r < n → L r ≤ 1048576) (ha0 : Tab w a n A L C Z) :
    Calls Tryd.prog 28 #[.slice a n c] w fun e w' => e = .returned (.tuple #[.int .i64 (gainN n L Z : Nat), .bool (tt (IsRates n L Z))]) ∧ Below w.heap.size w w' := by
  have H1 := Lib.hid (specRateIn_any n c a A L C Z w hn0 hL0 ha0)
  by_cases hr : IsRates n L Z
  · have H2 := Lib.hid (l1Rounds_any n c a A L C Z w hr ha0)
    have T1 := Lib.hid (tt_of hr)
    have T2 := Lib.hid (gainN_yes hr)
    clear hL0 ha0 hr
    go_enter Tryd.func28, Tryd.ntmps28
    go_wp2_with (first
      | (go_at_call 35; refine H1.out.mono ?_; rintro e w' ⟨rfl, rfl⟩; rw [T1.out])
      | (go_at_call 36; refine H2.out.mono ?_; rintro e w1 ⟨v, G, Cp, rfl, hM, hb⟩; obtain ⟨ga, gc, rfl⟩ := making_len hM; have B1 := Lib.hid hb; clear hM hb))
    go_ret2
    exact ⟨by rw [T1.out, T2.out]; rfl, B1.out⟩
  · have T1 := Lib.hid (tt_no hr)
    have T2 := Lib.hid (gainN_no hr)
    clear hL0 ha0 hr
    go_enter Tryd.func28, Tryd.ntmps28
    go_wp2_with (go_at_call 35; refine H1.out.mono ?_; rintro e w' ⟨rfl, rfl⟩; rw [T1.out])
    go_ret2
    exact ⟨by rw [T1.out, T2.out]; rfl, Below.refl _ _⟩
end Go.Proofs.YtabdbgnkiebcdaaDoor

namespace Go.Proofs.YtabdbgnkiebcdaaDoor
set_option linter.unusedVariables false
open Go.RowKit
attribute [local go_sem] Oper.semAt_some wide_fn wide_round_fn

theorem gaining_le {n : Nat} {Z : Nat → Nat → Int} (hn : n ≤ 5) : (gaining n Z).length ≤ 7776 := by
  have h1 := longer_le hn n []
  have h2 := Nat.pow_le_pow_right (show 0 < 6 by omega) hn
  exact Nat.le_trans (List.length_filter_le _ _) (Nat.le_trans h1 h2)

set_option maxRecDepth 100000 in
set_option maxHeartbeats 2000000 in
theorem rateRounds_any (n c : Nat) (a : Option Addr) (A : Nat → Option Addr) (L C : Nat → Nat) (Z : Nat → Nat → Int) (w : World) (hn0 : n ≤ 1048576) (hL0 : ∀ r, r < n → L r ≤ 1048576) (ha0 : Tab w a n A L C Z) :
    Calls Tryd.prog 27 #[.slice a n c] w fun e w' => e = .returned (.tuple #[.int .i64 (gainN n L Z : Nat), .bool (tt (IsRates n L Z))]) ∧ Below w.heap.size w w' := by
  have H1 := Lib.hid (readRates_any n c a A L C Z w hn0 hL0 ha0)
  clear hL0 ha0
  refine (callsIn_wide (n := 9)).1 ?_
  refine callsIn_of_wp_marks Tryd.func27 rfl trivial ?_ rfl
  simp only [Tryd.ntmps27, List.size_toArray, List.length_cons, List.length_nil, Nat.reduceAdd, Nat.reduceSub, Array.replicate_succ, Array.replicate_zero, List.push_toArray, List.append_toArray, List.nil_append, List.cons_append]
  by_cases hr : IsRates n L Z
  · have T1 := Lib.hid (tt_of hr)
    have T2 := Lib.hid (gainN_yes hr)
    have HR := Lib.hid hr
    have HK := Lib.hid (Kept.of_rates hr)
    have hn2 := hr.1.1
    have hn5 := hr.1.2
    clear hr
    gi_wp2_with (first
      | (gi_at_call 39; refine (callsIn_wide.2 H1.out).mono ?_; rintro e w0 ⟨rfl, hb0⟩; rw [T1.out])
      | ((with_reducible refine arrI_alloc 25 _ (Tryd.zeroRates _) ?_); intro w1 hA1 hs1 hb1; have S1 := Lib.hid hs1; clear hs1)
      | ((with_reducible refine arrI_store 25 _ _ _ _ _ _ (rateF n L Z) ?_ ?_ hA1 Tryd.sizeRates ?_); exact rfl; exact rfl; intro w2 hA2 hs2 ho2 hb2; clear hA1; have B2 := Lib.hid ((hb0.trans (hb1.mono hb0.size)).trans (hb2.mono hb0.size)); clear hb0 hb1 hb2 hs2 ho2)
      | ((with_reducible refine arrI_load 25 _ _ _ _ _ _ _ ?_ (hA2.below hA2.lt (below_alloc (Below.refl _ w2) (.cells #[.int .i64 0] 3))) Tryd.underlying52 Tryd.sizeRates ?_); exact rfl)
      | (gi_at_call 63; refine (callsIn_wide.2 (gaining_any _ _)).mono ?_; rintro e w4 ⟨rfl, hA4, hs4, hb4⟩; have A4 := Lib.hid hA4; have S4 := Lib.hid hs4; have B4 := Lib.hid hb4; clear hA4 hs4 hb4))
    have hw2 := B2.out.size
    have hs4 := S4.out
    have hb4 := B4.out
    simp only [World.size_alloc] at hs4 hb4
    have A5 := Lib.hid (show ArrAt w4 (w2.heap.size + 1) 52 25 (rateF n L Z) by have := A4.out; simpa using this)
    have CC := Lib.hid (show w4.cell? ⟨w2.heap.size, 0, none⟩ = some (.int .i64 0) from (hb4.cell (p := ⟨w2.heap.size, 0, none⟩) (show w2.heap.size < w2.heap.size + 1 by omega)).trans (by simp))
    have CF := Lib.hid (show w4.frozen? ⟨w2.heap.size, 0, none⟩ = false by
      rw [World.frozen?_of_block (w := w2.alloc (.cells #[.int .i64 0] 3)) (hb4.block _ (show w2.heap.size < w2.heap.size + 1 by omega))]; simp)
    have BB := Lib.hid (show Below w.heap.size w w4 from (B2.out.trans ((below_alloc (Below.refl _ w2) (.cells #[.int .i64 0] 3)).mono hw2)).trans (hb4.mono (by omega)))
    clear hb4
    obtain ⟨bc, hbc⟩ : ∃ bc, bc = w2.heap.size := ⟨_, rfl⟩
    rw [← hbc] at A5 CC CF hs4 hw2 ⊢
    clear hbc S4 B4 A4 B2 hA2
    refine wp_seq (gf := 105) (lb := #[.pointer (some ⟨bc + 1, 0, none⟩)]) (tI := 3) rfl (enters_of Tryd.func105 (by kernel_rfl) rfl) rfl (R := fun k => k = bc + 1) (LL := gaining n Z)
      (by rw [← gainL_gaining HR.out]; exact seq_gaining n (bc + 1) _ w4 HK.out hn2 A5.out) (fun k => k < w.heap.size ∨ k = bc) (fun k hk => by subst hk; exact ⟨fun h => by omega, A5.out.lt⟩)
      (fun V pre Wx => V = (fun k => k < w.heap.size ∨ k = bc) ∧ Below w.heap.size w Wx ∧ Wx.cell? ⟨bc, 0, none⟩ = some (.int .i64 (pre.length : Nat)) ∧ Wx.frozen? ⟨bc, 0, none⟩ = false) (fun _ _ _ _ => False) ?cI (fun c => ⟨fun _ _ _ h => h.elim, fun _ _ _ _ h => h.elim⟩) ⟨rfl, BB.out, CC.out, CF.out⟩
      (fun v a' _ => a' = { tmps := #[.slice a n c, undef, .int .i64 0, .bool false, .pointer (some ⟨w0.heap.size, 0, none⟩), .bool true, .pointer (some ⟨bc, 0, none⟩), .tuple #[.agg (cellsV 25 (rateF n L Z)), .bool true], .slice a n c, .tuple #[.agg (cellsV 25 (rateF n L Z)), .bool true], .agg (cellsV 25 (rateF n L Z)), .bool true, .bool true, .bool false, .agg (cellsV 25 (rateF n L Z)), .func (.func 105) #[] #[.pointer (some ⟨bc + 1, 0, none⟩)], v, undef, undef, undef], defers := [] })
      (fun v a' W l r o h _ => h) ?assign ?body ?done ?stop
    case cI =>
      constructor
      · rintro V pre Wx ⟨rfl, h1, h2, h3⟩ k (hk | hk)
        · exact Nat.lt_of_lt_of_le hk h1.size
        · subst hk; exact World.block_lt_of_cell? _ _ h2
      · rintro V pre A B ⟨rfl, h1, h2, h3⟩ hin
        exact ⟨rfl, below_inside h1 hin (fun k hk => .inl hk), hin.cell (p := ⟨bc, 0, none⟩) (.inr rfl) h2, (frozen_inside hin (p := ⟨bc, 0, none⟩) (.inr rfl)).trans h3⟩
    case assign =>
      intro l' v Wx K hK
      gi_wp2
      exact hK _ _ (Outside.refl _ _) (by simp)
    case body =>
      rintro l' V pre D gb cap a' Wx ⟨rfl, h1, h2, h3⟩ hpre hown hgb hV rfl
      have hlen : pre.length + 1 ≤ 7776 := by
        have := hpre.length_le
        rw [List.length_append] at this
        exact Nat.le_trans this (gaining_le hn5)
      have HB := Lib.hid h1
      clear h1 hpre hown hgb hV
      gi_wp2
      refine ⟨Outside.of_grown (row := some bc) (grownBy_setCell' _ _ _) (fun k hk => by cases hk; exact .inr rfl), _, fun k hk => .inl hk, rfl, HB.out.setCell (p := ⟨bc, 0, none⟩) (by have := HB.out.size; omega) _, ?_, ?_⟩
      · have := World.cell?_setCell_same' Wx ⟨bc, 0, none⟩ (.int .i64 ((pre.length : Int) + 1)) (by rw [h2]; rfl)
        rw [List.length_append]
        simpa using this
      · simpa using h3
    case done =>
      rintro D V Wx hD hV hnD ⟨rfl, h1, h2, h3⟩ hKD
      have HB := Lib.hid h1
      clear h1
      gi_wp2
      refine ⟨by simp, .inl ⟨_, _, rfl, run_takeDeferred hKD, ?_⟩⟩
      refine ⟨_, results_tmp2 rfl _ _ _, ?_, ?_⟩
      · rw [T1.out, T2.out]; rfl
      · exact below_inside HB.out (Inside.putObj (V := fun k => k < w.heap.size ∨ k = bc) hnD _) (fun k hk => .inl hk)
    case stop =>
      rintro D c' V pre Wx _ _ _ _ h
      exact h.elim
  · have T1 := Lib.hid (tt_no hr)
    have T2 := Lib.hid (gainN_no hr)
    clear hr
    gi_wp2_with (first
      | (gi_at_call 39; refine (callsIn_wide.2 H1.out).mono ?_; rintro e w0 ⟨rfl, hb0⟩; rw [T1.out])
      | ((with_reducible refine arrI_alloc 25 _ (Tryd.zeroRates _) ?_); intro w1 hA1 hs1 hb1; have S1 := Lib.hid hs1; clear hs1)
      | ((with_reducible refine arrI_store 25 _ _ _ _ _ _ (rateF n L Z) ?_ ?_ hA1 Tryd.sizeRates ?_); exact rfl; exact rfl; intro w2 hA2 hs2 ho2 hb2; clear hA1; have B2 := Lib.hid ((hb0.trans (hb1.mono hb0.size)).trans (hb2.mono hb0.size)); clear hb0 hb1 hb2 hs2 ho2))
    refine ⟨_, results_tmp2 rfl _ _ _, ?_, B2.out⟩
    rw [T1.out, T2.out]; rfl
end Go.Proofs.YtabdbgnkiebcdaaDoor
