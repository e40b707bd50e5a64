/- Texts joined: DrawOne, DrawRateRounds, SpecRateRounds, RateRounds, PeopleP, Wishes, GivsModel, BlockGiv, L3At. -/
import Derived.Test.YtabdbgnkiebcdaaDoorPartR8
import Derived.Test.YtabdbgnkiebcdaaDoorPartR5
import Derived.Test.YtabdbgnkiebcdaaDoorPartR7
import Derived.Test.YtabdbgnkiebcdaaDoorPartR6
import Derived.Test.YtabdbgnkiebcdaaDoorPartR1
import Derived.Test.YtabdbgnkiebcdaaDoorPartR4
import Derived.Test.YtabdbgnkiebcdaaDoorProg
namespace Go.Proofs.YtabdbgnkiebcdaaDoor
set_option linter.unusedVariables false

section
open Go.RowKit
set_option maxRecDepth 100000 in
set_option maxHeartbeats 6400000 in
theorem l91Table_any (r n c p : Nat) (a : Option Addr) (B : Nat → Nat) (w : World) (hR : RdrAt w r a n c p) (hb : RdB w a n B) (hab : 0 < n → ∀ b o, a = some ⟨b, o, none⟩ → b < w.heap.size ∧ b ≠ r) (hn : n ≤ 2000) (hp : p ≤ 1000) :
    Calls Tryd.prog 104 #[.pointer (some ⟨r, 0, none⟩)] w (DrewTab r a n c p w) := by
  obtain ⟨i0, hi, hz0, hz1, hz2⟩ := info_parts Tryd.infoInt
  obtain ⟨i1, hj, hy0, hy1, hy2⟩ := info_parts Tryd.infoInts
  have hrl := hR.lt
  have HR0 := Lib.hid hR
  have HB := Lib.hid hb
  have HAB := Lib.hid hab
  clear hR hb hab
  go_enter Tryd.func104, Tryd.ntmps104
  go_wp2_with fail
  refine (pick_any r n c p 4 a B _ HR0.out HB.out (fun h0 b o e => (HAB.out h0 b o e).2) hn (by omega) (by omega) (by omega)).mono ?_
  rintro e w1 ⟨x, rfl, hx, hR1, hK1⟩
  have HR1 := Lib.hid (hR1.alloc (.cells #[] 3))
  have hs1 : w.heap.size ≤ w1.heap.size := Nat.le_of_eq hK1.size.symm
  have HU1 := Lib.hid ((ButR.keeps (B := w.heap.size) hK1).alloc hs1 (.cells #[] 3))
  have hrl1 : r < w1.heap.size := by omega
  clear hR1 hK1
  obtain ⟨N, hN⟩ : ∃ N, N = 2 + x := ⟨_, rfl⟩
  have hN2 : 2 ≤ N := by omega
  have hN5 : N ≤ 5 := by omega
  have hNx : (2 : Int) + (x : Int) = (N : Int) := by omega
  clear hN
  go_wp2
  clear hNx
  have R0 := Lib.hid (show (w1.alloc (.cells #[] 3)).ownsRow w1.heap.size 3 1 (.slice (some ⟨w1.heap.size, 0, none⟩) 0 0) 0 (cellsL 0 (fun _ => 0)) from World.ownsRow_made w1 #[] 0 (Nat.le_refl _) (Nat.zero_le _) (by simp))
  go_loopw [4, 5] (fun row s wi => ∃ k : Nat, k ≤ N ∧ s = .int .i64 k ∧ ∃ rv X p', rv = row ∧ wi.ownsRow w1.heap.size 3 1 rv k (cellsL k X) ∧ (∀ j, j < k → 1 ≤ X j ∧ X j ≤ 12) ∧ RdrAt wi r a n c p' ∧ p' ≤ p + 1 + k ∧ w1.heap.size ≤ wi.heap.size ∧ ButR r w.heap.size w wi) (fun _ s _ => N - (intOf s).toNat)
  case atStart => exact ⟨0, Nat.zero_le _, rfl, _, fun _ => 0, p + 1, rfl, R0.out, fun j hj => absurd hj (Nat.not_lt_zero _), HR1.out, Nat.le_refl _, by simp, HU1.out⟩
  case round =>
    obtain ⟨k, hk, rfl, rv, X, p', rfl, hown, hX, hR, hp', hsz, hBu⟩ := hrel
    clear R0 HU1 HR1
    have HX := Lib.hid hX
    by_cases hlt : k < N
    · have HO := Lib.hid hown
      have HR := Lib.hid hR
      have HU := Lib.hid hBu
      clear hown hR hBu hX
      go_wp2_with (first
        | (go_at_call 66; refine (pick_any r n c p' 6 a B _ (HR.out.alloc _) (HB.out.but HAB.out (HU.out.alloc (by omega) _)) (fun h0 b o e => (HAB.out h0 b o e).2) hn (by omega) (by omega) (by omega)).mono ?_; rintro e w5 ⟨y, rfl, hy, hR5, hK5⟩; obtain ⟨v, hv12, hv⟩ := six (w := w5) (g := wr.heap.size) (x := y) ((hK5.block _ (by omega)).trans (heap_alloc_last wr _)) hy; have HV := Lib.hid hv12; have H5 := Lib.hid hR5; have hs5 : wr.heap.size + 1 ≤ w5.heap.size := (by rw [hK5.size, World.size_alloc]; exact Nat.le_refl _); have O5 := Lib.hid (owns_but (HO.out.alloc _) hrl1 hK5); have U5 := Lib.hid ((HU.out.alloc (by omega) (.cells _ 3)).trans (ButR.keeps hK5)); clear hR5 hK5 hv12)
        | (at_builtin; refine wpList_append_lies _ (by rfl) (.tmp 21) (.tmp 27) 32 (by rfl) w1.heap.size 3 i0 (.int .i64 0) 1 8 Tryd.underlying32 hi hz0 hz1 hz2 (by rfl) (by decide) rv k (cellsL k X) (by rfl) (O5.out.alloc _) ⟨_, 0, none⟩ 1 1 [.int .i64 (v : Int)] (by rfl) (by rfl) (news_one (by simp)) (by simp [Value.oneCell']) (by omega) (by unfold maxLen; omega) (by omega) (by first | omega | (simp; omega)) _ rfl ?_; intro g2 cap2 w2 hown2 hgrow2 hat2 hlt2; have N2 := Lib.hid hown2; have G2 := Lib.hid hgrow2; clear hown2 hgrow2 hat2))
      go_roundw
      case rel =>
        refine ⟨k + 1, by omega, by go_num, _, _, p' + 1, rfl, by have := N2.out; rwa [cellsL_snoc] at this, fun j hj => ?_, (H5.out.alloc _).grown G2.out (fun e => by have := (O5.out.lt r e).1; omega), by omega, by have := G2.out.size; simp at this; omega, (U5.out.alloc (by omega) _).grown G2.out (by simp; omega) (fun k hk => by have := (O5.out.lt k hk).1; omega)⟩
        show 1 ≤ (if j < k then X j else (v : Int)) ∧ (if j < k then X j else (v : Int)) ≤ 12
        by_cases e : j < k
        · rw [if_pos e]; exact HX.out j e
        · rw [if_neg e]; have := HV.out; omega
      case measure => simp [intOf]; omega
    · obtain rfl : k = N := by omega
      obtain ⟨gp, cp, rfl⟩ := owns_form hown (by omega)
      have hcap := owns_cap hown
      have HP := Lib.hid (owns_rd hown)
      have HR := Lib.hid hR
      have HU := Lib.hid hBu
      have hgp1 := hcap.2.1
      have hgp2 := hcap.2.2
      have hgpr : gp ≠ r := by omega
      clear hown hR hBu hcap hX
      go_wp2_with fail
      refine (pick_any r n c p' 5 a B _ HR.out (HB.out.but HAB.out HU.out) (fun h0 b o e => (HAB.out h0 b o e).2) hn (by omega) (by omega) (by omega)).mono ?_
      rintro e w6 ⟨kd, rfl, hkd, hR6, hK6⟩
      have hs6 : wr.heap.size ≤ w6.heap.size := Nat.le_of_eq hK6.size.symm
      have HR6 := Lib.hid (hR6.alloc (.cells #[] 32))
      have HU6 := Lib.hid ((HU.out.trans (ButR.keeps hK6)).alloc (by omega) (.cells #[] 32))
      have hgp3 : gp < w6.heap.size := by omega
      have HP6 := Lib.hid ((rd_butR HP.out hgpr hgp2 (ButR.keeps hK6)).below (Nat.le_refl _) (below_alloc (Below.refl _ _) (.cells #[] 32)))
      have hrl6 : r < w6.heap.size := by omega
      obtain ⟨pm, hpm⟩ : ∃ pm, pm = p' + 1 := ⟨_, rfl⟩
      rw [← hpm] at HR6
      have hpm1 : pm ≤ p + 7 := by omega
      clear hR6 hK6 hpm
      go_wp2
      have M0 := Lib.hid (Making.start 32 w6.heap.size (w6.alloc (.cells #[] 32)) (.slice (some ⟨w6.heap.size, 0, none⟩) 0 0) (fun _ => 0) (fun _ => 0) (fun _ => k) (fun _ _ => 0) (World.ownsRow_made w6 #[] 0 (Nat.le_refl _) (Nat.zero_le _) (by simp)))
      go_loopw [7, 8] (fun out s wr => ∃ i : Nat, i ≤ k ∧ s = .int .i64 i ∧ ∃ v G Cp XX pi, v = out ∧ Making 32 w6.heap.size wr v i G Cp (fun _ => k) XX ∧ RdrAt wr r a n c pi ∧ pi ≤ pm + 10 * i ∧ Rd wr (some ⟨gp, 0, none⟩) k X ∧ w6.heap.size ≤ wr.heap.size ∧ ButR r w.heap.size w wr) (fun _ s _ => k - (intOf s).toNat)
      case atStart => exact ⟨0, Nat.zero_le _, rfl, _, _, _, _, pm, rfl, M0.out, HR6.out, by omega, HP6.out, by simp, HU6.out⟩
      case round =>
        obtain ⟨i, hik, rfl, ov, G, Cp, XX, pi, rfl, hM, hRi, hpi, hPi, hsi, hUi⟩ := hrel
        clear M0 HR6 HU6 HP6
        obtain ⟨M, hM'⟩ : ∃ M : Nat, M = k := ⟨_, rfl⟩
        rw [← hM'] at hM hik hPi ⊢
        have HM5 := Lib.hid (show M ≤ 5 by omega)
        have hM2 : 2 ≤ M := by omega
        have hM5 : M ≤ 5 := by omega
        have HXM := Lib.hid (show ∀ j, j < M → 1 ≤ X j ∧ X j ≤ 12 by rw [hM']; exact HX.out)
        have HM := Lib.hid hM
        have HRi := Lib.hid hRi
        have HPi := Lib.hid hPi
        have HUo := Lib.hid hUi
        clear hM hRi hPi hUi hM' HX hk hlt
        by_cases hil : i < M
        · go_wp2
          obtain ⟨wo, rfl⟩ : ∃ wo : World, wo = wr := ⟨_, rfl⟩
          have hrwo : r < wo.heap.size := by omega
          have hwo : w.heap.size ≤ wo.heap.size := by omega
          have hgpo : gp < wo.heap.size := by omega
          have R0 := Lib.hid (show (wo.alloc (.cells #[] 3)).ownsRow wo.heap.size 3 1 (.slice (some ⟨wo.heap.size, 0, none⟩) 0 0) 0 (cellsL 0 (fun _ => 0)) from World.ownsRow_made wo #[] 0 (Nat.le_refl _) (Nat.zero_le _) (by simp))
          have HRr := Lib.hid (HRi.out.alloc (.cells #[] 3))
          have U0 := Lib.hid ((ButR.refl r wo.heap.size wo).alloc (Nat.le_refl _) (.cells #[] 3))
          go_loopw [9, 10] (fun row s wi => ∃ k : Nat, k ≤ M ∧ s = .int .i64 k ∧ ∃ rv Y pk, rv = row ∧ wi.ownsRow wo.heap.size 3 1 rv k (cellsL k Y) ∧ RdrAt wi r a n c pk ∧ pk ≤ pi + 2 * k ∧ wo.heap.size ≤ wi.heap.size ∧ ButR r wo.heap.size wo wi) (fun _ s _ => M - (intOf s).toNat)
          case atStart => exact ⟨0, Nat.zero_le _, rfl, _, fun _ => 0, pi, rfl, R0.out, HRr.out, Nat.le_refl _, by simp, U0.out⟩
          case round =>
            obtain ⟨k, hkM, rfl, rv, Y, pk, rfl, hown, hRk, hpk, hsk, hUk⟩ := hrel
            clear R0 HRr U0
            by_cases hkl : k < M
            · have hP := rd_butR HPi.out hgpr hgpo hUk
              obtain ⟨bi, oi, ei, hci⟩ := hP i hil
              simp only [Option.some.injEq, Addr.mk.injEq, and_true] at ei
              obtain ⟨rfl, rfl⟩ := ei
              obtain ⟨bk, ok, ek, hck⟩ := hP k hkl
              simp only [Option.some.injEq, Addr.mk.injEq, and_true] at ek
              obtain ⟨rfl, rfl⟩ := ek
              rw [Nat.zero_add] at hci hck
              have hxi := HXM.out i hil
              have hxk := HXM.out k hkl
              have hq1 : 1 ≤ 12 * X i / X k := Int.le_ediv_of_mul_le (by omega) (by omega)
              have hq2 : 12 * X i / X k ≤ 12 * X i := Int.ediv_le_self _ (by omega)
              obtain ⟨V, hV⟩ := Int.eq_ofNat_of_zero_le (show 0 ≤ 12 * X i / X k by omega)
              have hV1 : 1 ≤ V := by omega
              have hV2 : V ≤ 144 := by omega
              have hm1 : IntKind.i64.wrap (12 * X i) = 12 * X i := IntWalk.i64_in _ (by omega)
              have hm2 : (12 * X i).tdiv (X k) = (V : Int) := by rw [Int.tdiv_eq_ediv_of_nonneg (by omega)]; exact hV
              have hm3 : IntKind.i64.wrap (V : Int) = (V : Int) := IntWalk.i64_in _ (by omega)
              have hz : (X k == 0) = false := by simp; omega
              have hz2' : ¬ X k = 0 := by omega
              have HO := Lib.hid hown
              have HRk := Lib.hid hRk
              have HUk := Lib.hid hUk
              clear hown hRk hUk hP hxi hxk hq1 hq2 hV
              go_wp2
              go_quiet (fail)
              clear hm1 hm2 hm3 hz hz2' hci hck
              obtain ⟨wz0, hwz0⟩ : ∃ wz0, wz0 = wr.drewN nq := ⟨_, rfl⟩
              have ZR0 : Hid (RdrAt wz0 r a n c pk) := Lib.hid (by rw [hwz0]; exact HRk.out.of_block rfl)
              have ZU0 : Hid (ButR r wo.heap.size wo wz0) := Lib.hid (by rw [hwz0]; exact HUk.out.trans ⟨rfl, rfl, rfl, Nat.le_refl _, fun _ _ _ => rfl⟩)
              have ZO0 : Hid (wz0.ownsRow wo.heap.size 3 1 rv k (cellsL k Y)) := Lib.hid (by rw [hwz0]; exact HO.out)
              have zs0 : wo.heap.size ≤ wz0.heap.size := by rw [hwz0]; exact hsk
              rw [← hwz0]
              clear hwz0 HO HRk HUk
              by_cases hdi : i = k
              · have hd : ((i : Int) == (k : Int)) = true := by simp; omega
                clear hdi
                have ZR := ZR0
                have ZU := ZU0
                have ZO := ZO0
                have zs := zs0
                obtain ⟨pz, hpz⟩ : ∃ pz, pz = pk := ⟨_, rfl⟩
                rw [← hpz] at ZR
                have hpzle : pz ≤ pk + 2 := by omega
                clear hpz
                go_wp2_with (at_builtin; refine wpList_append_lies _ (by rfl) (.tmp 92) (.tmp 94) 32 (by rfl) wo.heap.size 3 i0 (.int .i64 0) 1 8 Tryd.underlying32 hi hz0 hz1 hz2 (by rfl) (by decide) rv k (cellsL k Y) (by rfl) (ZO.out.alloc _) ⟨_, 0, none⟩ 1 1 [.int .i64 (12)] (by rfl) (by rfl) (news_one (by simp)) (by simp [Value.oneCell']) (by omega) (by unfold maxLen; omega) (by omega) (by first | omega | (simp; omega)) _ rfl ?_; intro g2 cap2 w2 hown2 hgrow2 hat2 hlt2; have N2 := Lib.hid hown2; have G2 := Lib.hid hgrow2; clear hown2 hgrow2 hat2)
                go_roundw
                case rel =>
                  exact ⟨k + 1, by omega, by go_num, _, _, pz, rfl, by have := N2.out; rwa [cellsL_snoc] at this, (ZR.out.alloc _).grown G2.out (fun e => by have := (ZO.out.lt r e).1; omega), by omega, by have := G2.out.size; simp at this; omega, (ZU.out.alloc zs _).grown G2.out (by simp; omega) (fun k hk => (ZO.out.lt k hk).1)⟩
                case measure => simp [intOf]; omega
              · have hd : ((i : Int) == (k : Int)) = false := by simp; omega
                clear hdi
                have hkc : kd = 0 ∨ kd = 1 ∨ kd = 2 ∨ kd = 3 ∨ kd = 4 := by omega
                rcases hkc with hke | hke | hke | hke | hke
                · have e0 : ((kd : Int) == 0) = true := by simp; omega
                  clear hke
                  go_wp2_with fail
                  refine (pick_any r n c pk 40 a B _ ZR0.out (HB.out.but HAB.out (HUo.out.trans (ZU0.out.mono hwo))) (fun h0 b o e => (HAB.out h0 b o e).2) hn (by omega) (by omega) (by omega)).mono ?_
                  rintro e wz1 ⟨y, rfl, hy, hR5, hK5⟩
                  have ZR1 := Lib.hid hR5
                  have ZU1 := Lib.hid (ZU0.out.trans (ButR.keeps hK5))
                  have ZO1 := Lib.hid (owns_but ZO0.out hrwo hK5)
                  have zs1 : wo.heap.size ≤ wz1.heap.size := Nat.le_trans zs0 (Nat.le_of_eq hK5.size.symm)
                  clear hR5 hK5
                  have ZR := ZR1
                  have ZU := ZU1
                  have ZO := ZO1
                  have zs := zs1
                  obtain ⟨pz, hpz⟩ : ∃ pz, pz = pk + 1 := ⟨_, rfl⟩
                  rw [← hpz] at ZR
                  have hpzle : pz ≤ pk + 2 := by omega
                  clear hpz
                  go_wp2_with (at_builtin; refine wpList_append_lies _ (by rfl) (.tmp 92) (.tmp 94) 32 (by rfl) wo.heap.size 3 i0 (.int .i64 0) 1 8 Tryd.underlying32 hi hz0 hz1 hz2 (by rfl) (by decide) rv k (cellsL k Y) (by rfl) (ZO.out.alloc _) ⟨_, 0, none⟩ 1 1 [.int .i64 (1 + (y : Int))] (by rfl) (by rfl) (news_one (by simp)) (by simp [Value.oneCell']) (by omega) (by unfold maxLen; omega) (by omega) (by first | omega | (simp; omega)) _ rfl ?_; intro g2 cap2 w2 hown2 hgrow2 hat2 hlt2; have N2 := Lib.hid hown2; have G2 := Lib.hid hgrow2; clear hown2 hgrow2 hat2)
                  go_roundw
                  case rel =>
                    exact ⟨k + 1, by omega, by go_num, _, _, pz, rfl, by have := N2.out; rwa [cellsL_snoc] at this, (ZR.out.alloc _).grown G2.out (fun e => by have := (ZO.out.lt r e).1; omega), by omega, by have := G2.out.size; simp at this; omega, (ZU.out.alloc zs _).grown G2.out (by simp; omega) (fun k hk => (ZO.out.lt k hk).1)⟩
                  case measure => simp [intOf]; omega
                · have e0 : ((kd : Int) == 0) = false := by simp; omega
                  have e1 : ((kd : Int) == 1) = true := by simp; omega
                  clear hke
                  go_wp2_with fail
                  refine (pick_any r n c pk 2 a B _ ZR0.out (HB.out.but HAB.out (HUo.out.trans (ZU0.out.mono hwo))) (fun h0 b o e => (HAB.out h0 b o e).2) hn (by omega) (by omega) (by omega)).mono ?_
                  rintro e wz1 ⟨y, rfl, hy, hR5, hK5⟩
                  have ZR1 := Lib.hid hR5
                  have ZU1 := Lib.hid (ZU0.out.trans (ButR.keeps hK5))
                  have ZO1 := Lib.hid (owns_but ZO0.out hrwo hK5)
                  have zs1 : wo.heap.size ≤ wz1.heap.size := Nat.le_trans zs0 (Nat.le_of_eq hK5.size.symm)
                  clear hR5 hK5
                  have ZR := ZR1
                  have ZU := ZU1
                  have ZO := ZO1
                  have zs := zs1
                  obtain ⟨pz, hpz⟩ : ∃ pz, pz = pk + 1 := ⟨_, rfl⟩
                  rw [← hpz] at ZR
                  have hpzle : pz ≤ pk + 2 := by omega
                  clear hpz
                  go_wp2_with (at_builtin; refine wpList_append_lies _ (by rfl) (.tmp 92) (.tmp 94) 32 (by rfl) wo.heap.size 3 i0 (.int .i64 0) 1 8 Tryd.underlying32 hi hz0 hz1 hz2 (by rfl) (by decide) rv k (cellsL k Y) (by rfl) (ZO.out.alloc _) ⟨_, 0, none⟩ 1 1 [.int .i64 (max 1 ((V : Int) - (y : Int)))] (by rfl) (by rfl) (news_one (by simp)) (by simp [Value.oneCell']) (by omega) (by unfold maxLen; omega) (by omega) (by first | omega | (simp; omega)) _ rfl ?_; intro g2 cap2 w2 hown2 hgrow2 hat2 hlt2; have N2 := Lib.hid hown2; have G2 := Lib.hid hgrow2; clear hown2 hgrow2 hat2)
                  go_roundw
                  case rel =>
                    exact ⟨k + 1, by omega, by go_num, _, _, pz, rfl, by have := N2.out; rwa [cellsL_snoc] at this, (ZR.out.alloc _).grown G2.out (fun e => by have := (ZO.out.lt r e).1; omega), by omega, by have := G2.out.size; simp at this; omega, (ZU.out.alloc zs _).grown G2.out (by simp; omega) (fun k hk => (ZO.out.lt k hk).1)⟩
                  case measure => simp [intOf]; omega
                · have e0 : ((kd : Int) == 0) = false := by simp; omega
                  have e1 : ((kd : Int) == 1) = false := by simp; omega
                  have e2 : ((kd : Int) == 2) = true := by simp; omega
                  clear hke
                  go_wp2_with fail
                  refine (pick_any r n c pk V a B _ ZR0.out (HB.out.but HAB.out (HUo.out.trans (ZU0.out.mono hwo))) (fun h0 b o e => (HAB.out h0 b o e).2) hn (by omega) (by omega) (by omega)).mono ?_
                  rintro e wz1 ⟨y, rfl, hy, hR5, hK5⟩
                  have ZR1 := Lib.hid hR5
                  have ZU1 := Lib.hid (ZU0.out.trans (ButR.keeps hK5))
                  have ZO1 := Lib.hid (owns_but ZO0.out hrwo hK5)
                  have zs1 : wo.heap.size ≤ wz1.heap.size := Nat.le_trans zs0 (Nat.le_of_eq hK5.size.symm)
                  clear hR5 hK5
                  have ZR := ZR1
                  have ZU := ZU1
                  have ZO := ZO1
                  have zs := zs1
                  obtain ⟨pz, hpz⟩ : ∃ pz, pz = pk + 1 := ⟨_, rfl⟩
                  rw [← hpz] at ZR
                  have hpzle : pz ≤ pk + 2 := by omega
                  clear hpz
                  go_wp2_with (at_builtin; refine wpList_append_lies _ (by rfl) (.tmp 92) (.tmp 94) 32 (by rfl) wo.heap.size 3 i0 (.int .i64 0) 1 8 Tryd.underlying32 hi hz0 hz1 hz2 (by rfl) (by decide) rv k (cellsL k Y) (by rfl) (ZO.out.alloc _) ⟨_, 0, none⟩ 1 1 [.int .i64 (max 1 ((V : Int) - (y : Int)))] (by rfl) (by rfl) (news_one (by simp)) (by simp [Value.oneCell']) (by omega) (by unfold maxLen; omega) (by omega) (by first | omega | (simp; omega)) _ rfl ?_; intro g2 cap2 w2 hown2 hgrow2 hat2 hlt2; have N2 := Lib.hid hown2; have G2 := Lib.hid hgrow2; clear hown2 hgrow2 hat2)
                  go_roundw
                  case rel =>
                    exact ⟨k + 1, by omega, by go_num, _, _, pz, rfl, by have := N2.out; rwa [cellsL_snoc] at this, (ZR.out.alloc _).grown G2.out (fun e => by have := (ZO.out.lt r e).1; omega), by omega, by have := G2.out.size; simp at this; omega, (ZU.out.alloc zs _).grown G2.out (by simp; omega) (fun k hk => (ZO.out.lt k hk).1)⟩
                  case measure => simp [intOf]; omega
                · have e0 : ((kd : Int) == 0) = false := by simp; omega
                  have e1 : ((kd : Int) == 1) = false := by simp; omega
                  have e2 : ((kd : Int) == 2) = false := by simp; omega
                  have e3 : ((kd : Int) == 3) = true := by simp; omega
                  clear hke
                  go_wp2_with fail
                  refine (pick_any r n c pk 4 a B _ ZR0.out (HB.out.but HAB.out (HUo.out.trans (ZU0.out.mono hwo))) (fun h0 b o e => (HAB.out h0 b o e).2) hn (by omega) (by omega) (by omega)).mono ?_
                  rintro e wz1 ⟨y, rfl, hy, hR5, hK5⟩
                  have ZR1 := Lib.hid hR5
                  have ZU1 := Lib.hid (ZU0.out.trans (ButR.keeps hK5))
                  have ZO1 := Lib.hid (owns_but ZO0.out hrwo hK5)
                  have zs1 : wo.heap.size ≤ wz1.heap.size := Nat.le_trans zs0 (Nat.le_of_eq hK5.size.symm)
                  clear hR5 hK5
                  by_cases hy0 : y = 0
                  · have hd2 : ((y : Int) == 0) = true := by simp; omega
                    clear hy0
                    go_wp2_with fail
                    refine (pick_any r n c (pk + 1) 2 a B _ ZR1.out (HB.out.but HAB.out (HUo.out.trans (ZU1.out.mono hwo))) (fun h0 b o e => (HAB.out h0 b o e).2) hn (by omega) (by omega) (by omega)).mono ?_
                    rintro e wz2 ⟨z, rfl, hz, hR5, hK5⟩
                    have ZR2 := Lib.hid hR5
                    have ZU2 := Lib.hid (ZU1.out.trans (ButR.keeps hK5))
                    have ZO2 := Lib.hid (owns_but ZO1.out hrwo hK5)
                    have zs2 : wo.heap.size ≤ wz2.heap.size := Nat.le_trans zs1 (Nat.le_of_eq hK5.size.symm)
                    clear hR5 hK5
                    have ZR := ZR2
                    have ZU := ZU2
                    have ZO := ZO2
                    have zs := zs2
                    obtain ⟨pz, hpz⟩ : ∃ pz, pz = pk + 1 + 1 := ⟨_, rfl⟩
                    rw [← hpz] at ZR
                    have hpzle : pz ≤ pk + 2 := by omega
                    clear hpz
                    go_wp2_with (at_builtin; refine wpList_append_lies _ (by rfl) (.tmp 92) (.tmp 94) 32 (by rfl) wo.heap.size 3 i0 (.int .i64 0) 1 8 Tryd.underlying32 hi hz0 hz1 hz2 (by rfl) (by decide) rv k (cellsL k Y) (by rfl) (ZO.out.alloc _) ⟨_, 0, none⟩ 1 1 [.int .i64 ((V : Int) + (z : Int))] (by rfl) (by rfl) (news_one (by simp)) (by simp [Value.oneCell']) (by omega) (by unfold maxLen; omega) (by omega) (by first | omega | (simp; omega)) _ rfl ?_; intro g2 cap2 w2 hown2 hgrow2 hat2 hlt2; have N2 := Lib.hid hown2; have G2 := Lib.hid hgrow2; clear hown2 hgrow2 hat2)
                    go_roundw
                    case rel =>
                      exact ⟨k + 1, by omega, by go_num, _, _, pz, rfl, by have := N2.out; rwa [cellsL_snoc] at this, (ZR.out.alloc _).grown G2.out (fun e => by have := (ZO.out.lt r e).1; omega), by omega, by have := G2.out.size; simp at this; omega, (ZU.out.alloc zs _).grown G2.out (by simp; omega) (fun k hk => (ZO.out.lt k hk).1)⟩
                    case measure => simp [intOf]; omega
                  · have hd2 : ((y : Int) == 0) = false := by simp; omega
                    clear hy0
                    have ZR := ZR1
                    have ZU := ZU1
                    have ZO := ZO1
                    have zs := zs1
                    obtain ⟨pz, hpz⟩ : ∃ pz, pz = pk + 1 := ⟨_, rfl⟩
                    rw [← hpz] at ZR
                    have hpzle : pz ≤ pk + 2 := by omega
                    clear hpz
                    go_wp2_with (at_builtin; refine wpList_append_lies _ (by rfl) (.tmp 92) (.tmp 94) 32 (by rfl) wo.heap.size 3 i0 (.int .i64 0) 1 8 Tryd.underlying32 hi hz0 hz1 hz2 (by rfl) (by decide) rv k (cellsL k Y) (by rfl) (ZO.out.alloc _) ⟨_, 0, none⟩ 1 1 [.int .i64 ((V : Int))] (by rfl) (by rfl) (news_one (by simp)) (by simp [Value.oneCell']) (by omega) (by unfold maxLen; omega) (by omega) (by first | omega | (simp; omega)) _ rfl ?_; intro g2 cap2 w2 hown2 hgrow2 hat2 hlt2; have N2 := Lib.hid hown2; have G2 := Lib.hid hgrow2; clear hown2 hgrow2 hat2)
                    go_roundw
                    case rel =>
                      exact ⟨k + 1, by omega, by go_num, _, _, pz, rfl, by have := N2.out; rwa [cellsL_snoc] at this, (ZR.out.alloc _).grown G2.out (fun e => by have := (ZO.out.lt r e).1; omega), by omega, by have := G2.out.size; simp at this; omega, (ZU.out.alloc zs _).grown G2.out (by simp; omega) (fun k hk => (ZO.out.lt k hk).1)⟩
                    case measure => simp [intOf]; omega
                · have e0 : ((kd : Int) == 0) = false := by simp; omega
                  have e1 : ((kd : Int) == 1) = false := by simp; omega
                  have e2 : ((kd : Int) == 2) = false := by simp; omega
                  have e3 : ((kd : Int) == 3) = false := by simp; omega
                  clear hke
                  have ZR := ZR0
                  have ZU := ZU0
                  have ZO := ZO0
                  have zs := zs0
                  obtain ⟨pz, hpz⟩ : ∃ pz, pz = pk := ⟨_, rfl⟩
                  rw [← hpz] at ZR
                  have hpzle : pz ≤ pk + 2 := by omega
                  clear hpz
                  go_wp2_with (at_builtin; refine wpList_append_lies _ (by rfl) (.tmp 92) (.tmp 94) 32 (by rfl) wo.heap.size 3 i0 (.int .i64 0) 1 8 Tryd.underlying32 hi hz0 hz1 hz2 (by rfl) (by decide) rv k (cellsL k Y) (by rfl) (ZO.out.alloc _) ⟨_, 0, none⟩ 1 1 [.int .i64 ((V : Int))] (by rfl) (by rfl) (news_one (by simp)) (by simp [Value.oneCell']) (by omega) (by unfold maxLen; omega) (by omega) (by first | omega | (simp; omega)) _ rfl ?_; intro g2 cap2 w2 hown2 hgrow2 hat2 hlt2; have N2 := Lib.hid hown2; have G2 := Lib.hid hgrow2; clear hown2 hgrow2 hat2)
                  go_roundw
                  case rel =>
                    exact ⟨k + 1, by omega, by go_num, _, _, pz, rfl, by have := N2.out; rwa [cellsL_snoc] at this, (ZR.out.alloc _).grown G2.out (fun e => by have := (ZO.out.lt r e).1; omega), by omega, by have := G2.out.size; simp at this; omega, (ZU.out.alloc zs _).grown G2.out (by simp; omega) (fun k hk => (ZO.out.lt k hk).1)⟩
                  case measure => simp [intOf]; omega
            · obtain rfl : k = M := by omega
              obtain ⟨gr, cr, rfl⟩ := owns_form hown (by omega)
              have hrow := OwnR.of_owns hown
              have hltr := hown.lt gr rfl
              have HR2 := Lib.hid hrow
              have HM2 := Lib.hid (making_butR HM.out (by omega) hUk)
              have hvlt := fun x hx => (HM.out.1.lt x hx)
              have HV := Lib.hid hvlt
              have HRk := Lib.hid hRk
              have HUk := Lib.hid hUk
              have HU2 := Lib.hid (HUo.out.trans (hUk.mono hwo))
              have HP2 := Lib.hid (rd_butR HPi.out hgpr hgpo hUk)
              clear hown hrow hRk hUk hvlt
              go_wp2_with (at_builtin; refine wpList_append_lies _ (by rfl) (.tmp 96) (.tmp 98) 22 (by rfl) w6.heap.size 32 i1 (.slice none 0 0) 1 24 Tryd.underlying22 hj hy0 hy1 hy2 (by rfl) (by decide) ov i ((List.range i).map fun r => .slice (some ⟨G r, 0, none⟩) k (Cp r)) (by rfl) (HM2.out.1.alloc _) ⟨_, 0, none⟩ 1 1 [.slice (some ⟨gr, 0, none⟩) k cr] (by rfl) (by rfl) (news_one (by simp)) (by simp [Value.oneCell']) (by omega) (by unfold maxLen; omega) (by omega) (by first | omega | (simp; omega)) _ rfl ?_; intro g2 cap2 w2 hown2 hgrow2 hat2 hlt2; have N2 := Lib.hid hown2; have G2' := Lib.hid hgrow2; have A2 := Lib.hid hat2; clear hown2 hgrow2 hat2)
              go_roundw
              case rel =>
                refine ⟨i + 1, by omega, by go_num, _, (fun s => if s < i then G s else gr), (fun s => if s < i then Cp s else cr), (fun s => if s < i then XX s else Y), pk, rfl, ?_, (HRk.out.alloc _).grown G2'.out (fun e => by have := (HV.out r e).1; omega), by omega, ?_, by have := G2'.out.size; simp at this; omega, (HU2.out.alloc (by omega) _).grown G2'.out (by simp; omega) (fun x hx => by have := (HV.out x hx).1; omega)⟩
                · refine Making.next (w := wr.alloc _) ((making_same HM2.out (fun s hs => by show XX s = (if s < i then XX s else Y); rw [if_pos hs])).below (below_alloc (Below.refl _ _) _)) (by show OwnR _ gr _ k (if i < i then XX i else Y); rw [if_neg (Nat.lt_irrefl _)]; exact HR2.out.of_block (Below.heap_alloc _ _ _ hltr.2)) (by omega) (by simp; omega) (fun h => by have := HV.out gr h; omega) (fun s hs e => by have := (HM.out.2.1 s hs).2.1; omega) N2.out G2'.out A2.out (Nat.le_refl _)
                · intro j hj
                  obtain ⟨b', o', he, hc⟩ := HP2.out j hj
                  refine ⟨b', o', he, ?_⟩
                  simp only [Option.some.injEq, Addr.mk.injEq, and_true] at he
                  obtain ⟨rfl, rfl⟩ := he
                  have h7 : (wr.alloc (.cells #[.slice (some ⟨gr, 0, none⟩) k cr] 32)).cell? ⟨gp, 0 + j, none⟩ = some (.int .i64 (X j)) := by
                    rw [World.cell?_of_block (w := wr) (a := ⟨gp, 0 + j, none⟩) (Below.heap_alloc _ _ _ (by show gp < wr.heap.size; omega))]; exact hc
                  exact G2'.out.cell h7 (fun e => by have := (HV.out gp e.symm).1; omega)
              case measure => simp [intOf]; omega
        · obtain rfl : i = M := by omega
          obtain ⟨go, co, rfl⟩ := owns_form HM.out.1 (by omega)
          have hcapo := (owns_cap HM.out.1).1
          go_wp2_with fail
          refine (pick_any r n c pi 50 a B _ HRi.out (HB.out.but HAB.out HUo.out) (fun h0 b o e => (HAB.out h0 b o e).2) hn (by omega) (by omega) (by omega)).mono ?_
          rintro e w7 ⟨u, rfl, hu, hR7, hK7⟩
          have M7 := Lib.hid (making_but HM.out (by omega) hK7)
          have HR7 := Lib.hid hR7
          have U7 := Lib.hid (HUo.out.trans (ButR.keeps hK7))
          have T7 := Lib.hid M7.out.ownT.tab
          have hgo := M7.out.1.lt go rfl
          have hgo1 := hgo.1
          have AG7 := Lib.hid (show w.heap.size ≤ go by omega)
          have AP7 := Lib.hid (show ∀ s, s < i → w.heap.size ≤ G s from fun s hs => by have := (M7.out.2.1 s hs).1; omega)
          clear hR7 hK7 hgo
          by_cases hu0 : u = 0
          · subst hu0
            have hd : (((0 : Nat) : Int) == 0) = true := by decide
            have hct := M7.out.1.cells (g := go) rfl 0 (.slice (some ⟨G 0, 0, none⟩) i (Cp 0)) (by simp [show 0 < i by omega])
            rw [Go.WideShapes.add_plain, Nat.zero_add] at hct
            obtain ⟨hG1, hG2, hG3, hG4⟩ := M7.out.2.1 0 (by omega)
            have hne : go ≠ G 0 := fun e => hG3 (by rw [← e]; rfl)
            have hrG : r ≠ G 0 := by omega
            obtain ⟨hc1, hf1⟩ : w7.cell? ⟨G 0, 1, none⟩ = some (.int .i64 (XX 0 1)) ∧ w7.frozen? ⟨G 0, 1, none⟩ = false := by
              rcases hG4 with h0 | ⟨o, ha, hc⟩
              · have h0' : i = 0 := h0
                omega
              · simp only [Option.some.injEq, Addr.mk.injEq, true_and, and_true] at ha
                subst ha
                exact hc 1 (show 1 < i by omega)
            have HC1 := Lib.hid hc1
            clear hG3 hG4
            go_wp2
            go_ret
            refine ⟨some ⟨go, 0, none⟩, i, co, fun s => some ⟨G s, 0, none⟩, fun _ => i, Cp, (fun s k => if s = 0 ∧ k = 1 then 0 else XX s k), pi + 1, rfl, ⟨by omega, by omega⟩, ⟨fun s hs => by show i ≤ 5; omega, fun b o e => by cases e; exact AG7.out, fun s hs b o e => by cases e; exact AP7.out s hs⟩, ?_, HR7.out.of_block (Below.heap_setCell _ _ _ _ hrG), by omega, U7.out.setCell (p := ⟨G 0, 1, none⟩) (by show w.heap.size ≤ G 0; omega) _⟩
            intro s hs
            obtain ⟨b', o', e', hc', hr'⟩ := T7.out s hs
            cases e'
            refine ⟨go, 0, rfl, ?_, fun k hk => ?_⟩
            · rw [World.cell?_of_block (w := w7) (a := ⟨go, 0 + s, none⟩) (Below.heap_setCell _ _ _ _ hne)]; exact hc'
            · obtain ⟨b2, o2, e2, hc2⟩ := hr' k hk
              refine ⟨b2, o2, e2, ?_⟩
              cases e2
              rw [Nat.zero_add] at hc2 ⊢
              show _ = some (Value.int .i64 (if s = 0 ∧ k = 1 then 0 else XX s k))
              by_cases hs0 : s = 0 ∧ k = 1
              · obtain ⟨rfl, rfl⟩ := hs0
                rw [if_pos ⟨rfl, rfl⟩]
                exact World.cell?_setCell_same _ _ _ HC1.out
              · rw [if_neg hs0, World.cell?_setCell_other _ _ _ _ (fun e' => hs0 ?_)]
                · exact hc2
                · injection e' with e1 e2'
                  refine ⟨?_, e2'.symm⟩
                  rcases Nat.eq_zero_or_pos s with h' | h'
                  · exact h'
                  · exact absurd e1 (M7.out.2.2 0 s (by omega) hs (by omega))
          · have hd0 : ((u : Int) == 0) = false := by simp; omega
            by_cases hu1 : u = 1
            · subst hu1
              have hd1 : (((1 : Nat) : Int) == 1) = true := by decide
              go_wp2
              go_ret
              refine ⟨some ⟨go, 1, none⟩, i - 1, co - 1, fun s => some ⟨G (s + 1), 0, none⟩, fun _ => i, fun s => Cp (s + 1), fun s => XX (s + 1), pi + 1, rfl, ⟨by omega, by omega⟩, ⟨fun s hs => by show i ≤ 5; omega, fun b o e => by cases e; exact AG7.out, fun s hs b o e => by cases e; exact AP7.out (s + 1) (by omega)⟩, ?_, HR7.out, by omega, U7.out⟩
              intro s hs
              obtain ⟨b', o', e', hc', hr'⟩ := T7.out (s + 1) (by omega)
              cases e'
              exact ⟨go, 1, rfl, by rw [Nat.add_comm 1 s]; rw [Nat.zero_add] at hc'; exact hc', hr'⟩
            · have hd1 : ((u : Int) == 1) = false := by simp; omega
              go_wp2
              go_ret
              exact ⟨some ⟨go, 0, none⟩, i, co, fun s => some ⟨G s, 0, none⟩, fun _ => i, Cp, XX, pi + 1, rfl, ⟨by omega, by omega⟩, ⟨fun s hs => by show i ≤ 5; omega, fun b o e => by cases e; exact AG7.out, fun s hs b o e => by cases e; exact AP7.out s hs⟩, T7.out, HR7.out, by omega, U7.out⟩
end

section
open Go.RowKit
set_option maxHeartbeats 1600000 in
theorem l91One_any (n c : Nat) (a : Option Addr) (B : Nat → Nat) (w : World) (hn : n ≤ 1048576) (hc : n ≤ c) (hb : RdB w a n B) (hab : 0 < n → ∀ b o, a = some ⟨b, o, none⟩ → b < w.heap.size) :
    Calls Tryd.prog 62 #[.slice a n c] w (DrewTabTop w) := by
  have HB := Lib.hid hb
  have HAL := Lib.hid hab
  clear hb hab
  go_enter Tryd.func62, Tryd.ntmps62
  go_wp2_with fail
  refine (l6Open_any n c a _ hn hc).mono ?_
  rintro e w1 ⟨n', c', rfl, hn2, hnn, hR1, hs1, hb1⟩
  have HB1 := Lib.hid ((HB.out.below (Nat.le_refl _) hb1).sub hnn)
  have HR1 := Lib.hid hR1
  have Hb1 := Lib.hid hb1
  have hlt1 : w.heap.size < w1.heap.size := by omega
  have HAL1 := Lib.hid (show 0 < n' → ∀ b o, a = some ⟨b, o, none⟩ → b < w1.heap.size ∧ b ≠ w.heap.size from fun h0 b o e => by have := HAL.out (by omega) b o e; exact ⟨by omega, by omega⟩)
  clear hR1 hb1 hs1
  go_wp2_with fail
  refine (l91Table_any w.heap.size n' c' 0 a B _ HR1.out HB1.out HAL1.out hn2 (by omega)).mono ?_
  rintro e w2 ⟨ga, N, gc, A, L, C, Z, p2, rfl, hN, ⟨hL, -⟩, hT, hR2, hp2, hU2⟩
  have HN := Lib.hid hN
  have HL := Lib.hid hL
  have HT := Lib.hid hT
  have HU := Lib.hid (Hb1.out.trans (hU2.toBelow (Nat.le_of_lt hlt1)))
  clear hN hL hT hR2 hU2
  go_wp2
  go_ret
  exact ⟨ga, N, gc, A, L, C, Z, rfl, HN.out, HL.out, HT.out, HU.out⟩
end

end Go.Proofs.YtabdbgnkiebcdaaDoor

namespace Go.Proofs.YtabdbgnkiebcdaaDoor
set_option linter.unusedVariables false
open Go.RowKit

theorem drawRateRounds_any (n c : Nat) (a : Option Addr) (B : Nat → Nat) (w : World) (hn : n ≤ 1048576) (hc : n ≤ c) (hb : RdB w a n B) (hab : 0 < n → ∀ b o, a = some ⟨b, o, none⟩ → b < w.heap.size) :
    Calls Tryd.prog 26 #[.slice a n c] w (DrewTabTop w) := by
  have H := Lib.hid (l91One_any n c a B w hn hc hb hab)
  clear hb hab
  go_enter Tryd.func26, Tryd.ntmps26
  go_wp2_with fail
  refine H.out.mono ?_
  rintro e w1 ⟨ga, N, gc, A, L, C, Z, rfl, h⟩
  have HH := Lib.hid h
  clear h H
  go_wp2
  go_ret
  exact ⟨ga, N, gc, A, L, C, Z, rfl, HH.out⟩
end Go.Proofs.YtabdbgnkiebcdaaDoor

namespace Go.Proofs.YtabdbgnkiebcdaaDoor
set_option linter.unusedVariables false
open Go.RowKit

set_option maxHeartbeats 800000 in
theorem specRateRounds_any (n c : Nat) (a : Option Addr) (A : Nat → Option Addr) (L C : Nat → Nat) (Z : Nat → Nat → Int) (w : World) (hn0 : n ≤ 1048576) (hL0 : ∀ r, r < n → L r ≤ 1048576) (ha0 : Tab w a n A L C Z) :
    Calls Tryd.prog 28 #[.slice a n c] w fun e w' => e = .returned (.tuple #[.int .i64 (gainN n L Z : Nat), .bool (tt (IsRates n L Z))]) ∧ Below w.heap.size w w' := by
  have H1 := Lib.hid (specRateIn_any n c a A L C Z w hn0 hL0 ha0)
  by_cases hr : IsRates n L Z
  · have H2 := Lib.hid (l1Rounds_any n c a A L C Z w hr ha0)
    have T1 := Lib.hid (tt_of hr)
    have T2 := Lib.hid (gainN_yes hr)
    clear hL0 ha0 hr
    go_enter Tryd.func28, Tryd.ntmps28
    go_wp2_with (first
      | (go_at_call 35; refine H1.out.mono ?_; rintro e w' ⟨rfl, rfl⟩; rw [T1.out])
      | (go_at_call 36; refine H2.out.mono ?_; rintro e w1 ⟨v, G, Cp, rfl, hM, hb⟩; obtain ⟨ga, gc, rfl⟩ := making_len hM; have B1 := Lib.hid hb; clear hM hb))
    go_ret2
    exact ⟨by rw [T1.out, T2.out]; rfl, B1.out⟩
  · have T1 := Lib.hid (tt_no hr)
    have T2 := Lib.hid (gainN_no hr)
    clear hL0 ha0 hr
    go_enter Tryd.func28, Tryd.ntmps28
    go_wp2_with (go_at_call 35; refine H1.out.mono ?_; rintro e w' ⟨rfl, rfl⟩; rw [T1.out])
    go_ret2
    exact ⟨by rw [T1.out, T2.out]; rfl, Below.refl _ _⟩
end Go.Proofs.YtabdbgnkiebcdaaDoor

namespace Go.Proofs.YtabdbgnkiebcdaaDoor
set_option linter.unusedVariables false
open Go.RowKit
attribute [local go_sem] Oper.semAt_some wide_fn wide_round_fn

theorem gaining_le {n : Nat} {Z : Nat → Nat → Int} (hn : n ≤ 5) : (gaining n Z).length ≤ 7776 := by
  have h1 := longer_le hn n []
  have h2 := Nat.pow_le_pow_right (show 0 < 6 by omega) hn
  exact Nat.le_trans (List.length_filter_le _ _) (Nat.le_trans h1 h2)

set_option maxRecDepth 100000 in
set_option maxHeartbeats 2000000 in
theorem rateRounds_any (n c : Nat) (a : Option Addr) (A : Nat → Option Addr) (L C : Nat → Nat) (Z : Nat → Nat → Int) (w : World) (hn0 : n ≤ 1048576) (hL0 : ∀ r, r < n → L r ≤ 1048576) (ha0 : Tab w a n A L C Z) :
    Calls Tryd.prog 27 #[.slice a n c] w fun e w' => e = .returned (.tuple #[.int .i64 (gainN n L Z : Nat), .bool (tt (IsRates n L Z))]) ∧ Below w.heap.size w w' := by
  have H1 := Lib.hid (readRates_any n c a A L C Z w hn0 hL0 ha0)
  clear hL0 ha0
  refine (callsIn_wide (n := 9)).1 ?_
  refine callsIn_of_wp_marks Tryd.func27 rfl trivial ?_ rfl
  simp only [Tryd.ntmps27, List.size_toArray, List.length_cons, List.length_nil, Nat.reduceAdd, Nat.reduceSub, Array.replicate_succ, Array.replicate_zero, List.push_toArray, List.append_toArray, List.nil_append, List.cons_append]
  by_cases hr : IsRates n L Z
  · have T1 := Lib.hid (tt_of hr)
    have T2 := Lib.hid (gainN_yes hr)
    have HR := Lib.hid hr
    have HK := Lib.hid (Kept.of_rates hr)
    have hn2 := hr.1.1
    have hn5 := hr.1.2
    clear hr
    gi_wp2_with (first
      | (gi_at_call 39; refine (callsIn_wide.2 H1.out).mono ?_; rintro e w0 ⟨rfl, hb0⟩; rw [T1.out])
      | ((with_reducible refine arrI_alloc 25 _ (Tryd.zeroRates _) ?_); intro w1 hA1 hs1 hb1; have S1 := Lib.hid hs1; clear hs1)
      | ((with_reducible refine arrI_store 25 _ _ _ _ _ _ (rateF n L Z) ?_ ?_ hA1 Tryd.sizeRates ?_); exact rfl; exact rfl; intro w2 hA2 hs2 ho2 hb2; clear hA1; have B2 := Lib.hid ((hb0.trans (hb1.mono hb0.size)).trans (hb2.mono hb0.size)); clear hb0 hb1 hb2 hs2 ho2)
      | ((with_reducible refine arrI_load 25 _ _ _ _ _ _ _ ?_ (hA2.below hA2.lt (below_alloc (Below.refl _ w2) (.cells #[.int .i64 0] 3))) Tryd.underlying52 Tryd.sizeRates ?_); exact rfl)
      | (gi_at_call 63; refine (callsIn_wide.2 (gaining_any _ _)).mono ?_; rintro e w4 ⟨rfl, hA4, hs4, hb4⟩; have A4 := Lib.hid hA4; have S4 := Lib.hid hs4; have B4 := Lib.hid hb4; clear hA4 hs4 hb4))
    have hw2 := B2.out.size
    have hs4 := S4.out
    have hb4 := B4.out
    simp only [World.size_alloc] at hs4 hb4
    have A5 := Lib.hid (show ArrAt w4 (w2.heap.size + 1) 52 25 (rateF n L Z) by have := A4.out; simpa using this)
    have CC := Lib.hid (show w4.cell? ⟨w2.heap.size, 0, none⟩ = some (.int .i64 0) from (hb4.cell (p := ⟨w2.heap.size, 0, none⟩) (show w2.heap.size < w2.heap.size + 1 by omega)).trans (by simp))
    have CF := Lib.hid (show w4.frozen? ⟨w2.heap.size, 0, none⟩ = false by
      rw [World.frozen?_of_block (w := w2.alloc (.cells #[.int .i64 0] 3)) (hb4.block _ (show w2.heap.size < w2.heap.size + 1 by omega))]; simp)
    have BB := Lib.hid (show Below w.heap.size w w4 from (B2.out.trans ((below_alloc (Below.refl _ w2) (.cells #[.int .i64 0] 3)).mono hw2)).trans (hb4.mono (by omega)))
    clear hb4
    obtain ⟨bc, hbc⟩ : ∃ bc, bc = w2.heap.size := ⟨_, rfl⟩
    rw [← hbc] at A5 CC CF hs4 hw2 ⊢
    clear hbc S4 B4 A4 B2 hA2
    refine wp_seq (gf := 105) (lb := #[.pointer (some ⟨bc + 1, 0, none⟩)]) (tI := 3) rfl (enters_of Tryd.func105 (by kernel_rfl) rfl) rfl (R := fun k => k = bc + 1) (LL := gaining n Z)
      (by rw [← gainL_gaining HR.out]; exact seq_gaining n (bc + 1) _ w4 HK.out hn2 A5.out) (fun k => k < w.heap.size ∨ k = bc) (fun k hk => by subst hk; exact ⟨fun h => by omega, A5.out.lt⟩)
      (fun V pre Wx => V = (fun k => k < w.heap.size ∨ k = bc) ∧ Below w.heap.size w Wx ∧ Wx.cell? ⟨bc, 0, none⟩ = some (.int .i64 (pre.length : Nat)) ∧ Wx.frozen? ⟨bc, 0, none⟩ = false) (fun _ _ _ _ => False) ?cI (fun c => ⟨fun _ _ _ h => h.elim, fun _ _ _ _ h => h.elim⟩) ⟨rfl, BB.out, CC.out, CF.out⟩
      (fun v a' _ => a' = { tmps := #[.slice a n c, undef, .int .i64 0, .bool false, .pointer (some ⟨w0.heap.size, 0, none⟩), .bool true, .pointer (some ⟨bc, 0, none⟩), .tuple #[.agg (cellsV 25 (rateF n L Z)), .bool true], .slice a n c, .tuple #[.agg (cellsV 25 (rateF n L Z)), .bool true], .agg (cellsV 25 (rateF n L Z)), .bool true, .bool true, .bool false, .agg (cellsV 25 (rateF n L Z)), .func (.func 105) #[] #[.pointer (some ⟨bc + 1, 0, none⟩)], v, undef, undef, undef], defers := [] })
      (fun v a' W l r o h _ => h) ?assign ?body ?done ?stop
    case cI =>
      constructor
      · rintro V pre Wx ⟨rfl, h1, h2, h3⟩ k (hk | hk)
        · exact Nat.lt_of_lt_of_le hk h1.size
        · subst hk; exact World.block_lt_of_cell? _ _ h2
      · rintro V pre A B ⟨rfl, h1, h2, h3⟩ hin
        exact ⟨rfl, below_inside h1 hin (fun k hk => .inl hk), hin.cell (p := ⟨bc, 0, none⟩) (.inr rfl) h2, (frozen_inside hin (p := ⟨bc, 0, none⟩) (.inr rfl)).trans h3⟩
    case assign =>
      intro l' v Wx K hK
      gi_wp2
      exact hK _ _ (Outside.refl _ _) (by simp)
    case body =>
      rintro l' V pre D gb cap a' Wx ⟨rfl, h1, h2, h3⟩ hpre hown hgb hV rfl
      have hlen : pre.length + 1 ≤ 7776 := by
        have := hpre.length_le
        rw [List.length_append] at this
        exact Nat.le_trans this (gaining_le hn5)
      have HB := Lib.hid h1
      clear h1 hpre hown hgb hV
      gi_wp2
      refine ⟨Outside.of_grown (row := some bc) (grownBy_setCell' _ _ _) (fun k hk => by cases hk; exact .inr rfl), _, fun k hk => .inl hk, rfl, HB.out.setCell (p := ⟨bc, 0, none⟩) (by have := HB.out.size; omega) _, ?_, ?_⟩
      · have := World.cell?_setCell_same' Wx ⟨bc, 0, none⟩ (.int .i64 ((pre.length : Int) + 1)) (by rw [h2]; rfl)
        rw [List.length_append]
        simpa using this
      · simpa using h3
    case done =>
      rintro D V Wx hD hV hnD ⟨rfl, h1, h2, h3⟩ hKD
      have HB := Lib.hid h1
      clear h1
      gi_wp2
      refine ⟨by simp, .inl ⟨_, _, rfl, run_takeDeferred hKD, ?_⟩⟩
      refine ⟨_, results_tmp2 rfl _ _ _, ?_, ?_⟩
      · rw [T1.out, T2.out]; rfl
      · exact below_inside HB.out (Inside.putObj (V := fun k => k < w.heap.size ∨ k = bc) hnD _) (fun k hk => .inl hk)
    case stop =>
      rintro D c' V pre Wx _ _ _ _ h
      exact h.elim
  · have T1 := Lib.hid (tt_no hr)
    have T2 := Lib.hid (gainN_no hr)
    clear hr
    gi_wp2_with (first
      | (gi_at_call 39; refine (callsIn_wide.2 H1.out).mono ?_; rintro e w0 ⟨rfl, hb0⟩; rw [T1.out])
      | ((with_reducible refine arrI_alloc 25 _ (Tryd.zeroRates _) ?_); intro w1 hA1 hs1 hb1; have S1 := Lib.hid hs1; clear hs1)
      | ((with_reducible refine arrI_store 25 _ _ _ _ _ _ (rateF n L Z) ?_ ?_ hA1 Tryd.sizeRates ?_); exact rfl; exact rfl; intro w2 hA2 hs2 ho2 hb2; clear hA1; have B2 := Lib.hid ((hb0.trans (hb1.mono hb0.size)).trans (hb2.mono hb0.size)); clear hb0 hb1 hb2 hs2 ho2))
    refine ⟨_, results_tmp2 rfl _ _ _, ?_, B2.out⟩
    rw [T1.out, T2.out]; rfl
end Go.Proofs.YtabdbgnkiebcdaaDoor

namespace Go.Proofs.YtabdbgnkiebcdaaDoor
set_option linter.unusedVariables false
set_option linter.unusedSimpArgs false
open Go.RowKit

/-- Wishes of n people: n lists of all houses. -/
def IsWishes (n : Nat) (L : Nat → Nat) (Z : Nat → Nat → Int) : Prop := (2 ≤ n ∧ n ≤ 5) ∧ ∀ i, i < n → L i = n ∧ IsDiff n n (Z i)
/-- A list of all numbers below n. -/
def IsEach (n m : Nat) (X : Nat → Int) : Prop := m = n ∧ IsDiff n n X
/-- As many people as there may be. -/
def People (n : Int) : Prop := 2 ≤ n ∧ n ≤ 5

theorem arePeople_any (n : Int) (w : World) : Calls Tryd.prog 140 #[.int .i64 n] w fun e w' => e = .returned (.bool (tt (People n))) ∧ w = w' := by
  by_cases h1 : 2 ≤ n
  · have hd : decide (2 ≤ n) = true := by simpa using h1
    have HE := Lib.hid (show decide (n ≤ 5) = tt (People n) by
      by_cases h : n ≤ 5
      · rw [tt_of (show People n from ⟨h1, h⟩)]; simpa using h
      · rw [tt_no (show ¬ People n from fun h' => h h'.2)]; simpa using h)
    go_enter Tryd.func140, Tryd.ntmps140
    go_wp2
    go_ret
    exact ⟨by rw [← HE.out]; rfl, rfl⟩
  · have hd : decide (2 ≤ n) = false := by simpa using h1
    have HE := Lib.hid (tt_no (show ¬ People n from fun h' => h1 h'.1))
    go_enter Tryd.func140, Tryd.ntmps140
    go_wp2
    go_ret
    exact ⟨by rw [HE.out]; rfl, rfl⟩

theorem hasEach_any (n m c : Nat) (a : Option Addr) (X : Nat → Int) (w : World) (hn : n ≤ 5) (hm : m ≤ 1048576) (ha : Rd w a m X) :
    Calls Tryd.prog 113 #[.int .i64 n, .slice a m c] w fun e w' => e = .returned (.bool (tt (IsEach n m X))) ∧ w = w' := by
  by_cases h1 : m = n
  · subst h1
    have HE := Lib.hid (tt_congr (show IsDiff m m X ↔ IsEach m m X from ⟨fun h => ⟨rfl, h⟩, fun h => h.2⟩))
    have HD := Lib.hid (areDifferent_any m m c a X w (by omega) hm ha)
    clear ha
    go_enter Tryd.func113, Tryd.ntmps113
    go_wp2_with (go_at_call 141; refine HD.out.mono ?_; rintro e w' ⟨rfl, rfl⟩; rw [HE.out])
    go_ret
    exact ⟨rfl, rfl⟩
  · have hd : ((m : Int) == (n : Int)) = false := by simp; omega
    have HE := Lib.hid (tt_no (show ¬ IsEach n m X from fun h => h1 h.1))
    clear ha
    go_enter Tryd.func113, Tryd.ntmps113
    go_wp2
    go_ret
    exact ⟨by rw [HE.out]; rfl, rfl⟩

end Go.Proofs.YtabdbgnkiebcdaaDoor

namespace Go.Proofs.YtabdbgnkiebcdaaDoor
set_option linter.unusedVariables false
set_option linter.unusedSimpArgs false
open Go.RowKit

/-- What readWishes hands back: the list itself, or nothing. -/
def RetWishes (ok : Bool) (a : Option Addr) (n c : Nat) (w : World) (e : Ending) (w' : World) : Prop :=
  e = .returned (.tuple #[if ok = true then .slice a n c else .slice none 0 0, .bool ok]) ∧ w = w'

set_option maxHeartbeats 800000 in
theorem readWishes_any (n c : Nat) (a : Option Addr) (A : Nat → Option Addr) (L C : Nat → Nat) (Z : Nat → Nat → Int) (w : World) (hn0 : n ≤ 1048576) (hL0 : ∀ r, r < n → L r ≤ 1048576) (ha0 : Tab w a n A L C Z) :
    Calls Tryd.prog 112 #[.slice a n c] w (RetWishes (tt (IsWishes n L Z)) a n c w) := by
  have HA := Lib.hid ha0
  have HL := Lib.hid hL0
  clear ha0 hL0
  by_cases hp : People n
  · have T1 := Lib.hid (tt_of hp)
    have hn5 : n ≤ 5 := by have := hp.2; omega
    have hn2 : 2 ≤ n := by have := hp.1; omega
    clear hp
    go_enter Tryd.func112, Tryd.ntmps112
    go_wp2_with (go_at_call 140; refine (arePeople_any _ _).mono ?_; rintro e w' ⟨rfl, rfl⟩; rw [T1.out])
    go_loop [2, 3, 6, 14] (fun _ _ _ i => ∃ k : Nat, k ≤ n ∧ i = .int .i64 k ∧ ∀ j, j < k → L j = n ∧ IsDiff n n (Z j)) (fun _ _ _ i => n - (intOf i).toNat)
    case atStart => exact ⟨0, Nat.zero_le _, rfl, fun j hj => absurd hj (Nat.not_lt_zero _)⟩
    case round =>
      obtain ⟨k, hk, rfl, hall⟩ := hrel
      have HAll := Lib.hid hall
      clear hall
      by_cases hlt : k < n
      · obtain ⟨ba, oa, rfl, hca, hra⟩ := HA.out k hlt
        have HRd := Lib.hid hra
        have hLk := HL.out k hlt
        clear hra
        by_cases he : IsEach n (L k) (Z k)
        · have T2 := Lib.hid (tt_of he)
          have HE := Lib.hid he
          clear he
          go_wp2_with (go_at_call 113; refine (hasEach_any n (L k) (C k) _ (Z k) _ hn5 hLk HRd.out).mono ?_; rintro e w' ⟨rfl, rfl⟩; rw [T2.out])
          go_round
          case rel => exact ⟨k + 1, by omega, by go_num, fun j hj => by
            by_cases e : j = k
            · subst e; exact HE.out
            · exact HAll.out j (by omega)⟩
          case measure => simp [intOf]; omega
        · have T2 := Lib.hid (tt_no he)
          have T3 := Lib.hid (tt_no (show ¬ IsWishes n L Z from fun h => he (h.2 k hlt)))
          clear he
          go_wp2_with (go_at_call 113; refine (hasEach_any n (L k) (C k) _ (Z k) _ hn5 hLk HRd.out).mono ?_; rintro e w' ⟨rfl, rfl⟩; rw [T2.out])
          go_ret2
          exact ⟨by rw [T3.out]; rfl, rfl⟩
      · obtain rfl : k = n := by omega
        have T3 := Lib.hid (tt_of (show IsWishes k L Z from ⟨⟨hn2, hn5⟩, HAll.out⟩))
        go_wp2
        go_ret2
        exact ⟨by rw [T3.out]; rfl, rfl⟩
  · have T1 := Lib.hid (tt_no hp)
    have T3 := Lib.hid (tt_no (show ¬ IsWishes n L Z from fun h => hp ⟨by have := h.1.1; omega, by have := h.1.2; omega⟩))
    clear hp
    go_enter Tryd.func112, Tryd.ntmps112
    go_wp2_with (go_at_call 140; refine (arePeople_any _ _).mono ?_; rintro e w' ⟨rfl, rfl⟩; rw [T1.out])
    go_ret2
    exact ⟨by rw [T3.out]; rfl, rfl⟩
end Go.Proofs.YtabdbgnkiebcdaaDoor

namespace Go.Proofs.YtabdbgnkiebcdaaDoor
set_option linter.unusedVariables false
set_option linter.unusedSimpArgs false
open Go.RowKit

/-- Where x first stands among the first n; n if nowhere. -/
noncomputable def atL (X : Nat → Int) (x : Int) (n : Nat) : Int := if idxF X x n = -1 then n else idxF X x n
theorem atL_first {X : Nat → Int} {x : Int} {n k : Nat} (h : ∀ j, j < k → X j ≠ x) (hk : X k = x) (hn : k < n) : atL X x n = k := by
  unfold atL
  rw [idxF_some h hk hn, if_neg (by omega)]
theorem atL_none {X : Nat → Int} {x : Int} {n : Nat} (h : ∀ k, k < n → X k ≠ x) : atL X x n = n := by
  unfold atL
  rw [idxF_none h, if_pos rfl]
theorem atL_has {X : Nat → Int} {x : Int} {n : Nat} (h : HasI n X x) : atL X x n = idxF X x n := by
  have := idxF_has.1 h
  unfold atL
  rw [if_neg (by omega)]
/-- Does a person like x better than y? -/
def LikesOk (n : Nat) (L : Nat → Nat) (Z : Nat → Nat → Int) (p x y : Int) : Prop :=
  IsWishes n L Z ∧ InR p 0 (n - 1) ∧ InR x 0 (n - 1) ∧ InR y 0 (n - 1) ∧ idxF (Z p.toNat) x n < idxF (Z p.toNat) y n

theorem wishes_has {n : Nat} {L : Nat → Nat} {Z : Nat → Nat → Int} (h : IsWishes n L Z) {p : Nat} (hp : p < n) {x : Int} (hx : InR x 0 ((n : Int) - 1)) : HasI n (Z p) x := by
  obtain ⟨y, rfl⟩ := Int.eq_ofNat_of_zero_le hx.1
  obtain ⟨i, hi, e⟩ := (h.2 p hp).2.all (r := y) (by have := hx.2; omega)
  exact ⟨i, hi, e⟩
end Go.Proofs.YtabdbgnkiebcdaaDoor

namespace Go.Proofs.YtabdbgnkiebcdaaDoor
set_option linter.unusedVariables false
open Go.RowKit

/-- Wishes and a giving. -/
def GivenOk (n : Nat) (L : Nat → Nat) (Z : Nat → Nat → Int) (m : Nat) (G : Nat → Int) : Prop := IsWishes n L Z ∧ IsEach n m G
/-- Is the swap of i and k welcome to both? -/
def MayP (n : Nat) (Z : Nat → Nat → Int) (G : Nat → Int) (i k : Nat) : Prop := idxF (Z i) (G k) n < idxF (Z i) (G i) n ∧ idxF (Z k) (G i) n < idxF (Z k) (G k) n
/-- Wishes, a giving and two people. -/
def PairOk (n : Nat) (L : Nat → Nat) (Z : Nat → Nat → Int) (m : Nat) (G : Nat → Int) (i k : Int) : Prop := GivenOk n L Z m G ∧ InR i 0 (n - 1) ∧ InR k 0 (n - 1)
/-- .. two different ones. -/
def TwoPpl (n : Nat) (L : Nat → Nat) (Z : Nat → Nat → Int) (m : Nat) (G : Nat → Int) (i k : Int) : Prop := PairOk n L Z m G i k ∧ i ≠ k
def SwapMayOk (n : Nat) (L : Nat → Nat) (Z : Nat → Nat → Int) (m : Nat) (G : Nat → Int) (i k : Int) : Prop := PairOk n L Z m G i k ∧ MayP n Z G i.toNat k.toNat
theorem may_ne {n : Nat} {Z : Nat → Nat → Int} {G : Nat → Int} {i k : Nat} (h : MayP n Z G i k) : i ≠ k := fun e => by subst e; have := h.1; omega
theorem may_symm {n : Nat} {Z : Nat → Nat → Int} {G : Nat → Int} {i k : Nat} : MayP n Z G i k ↔ MayP n Z G k i := ⟨fun h => ⟨h.2, h.1⟩, fun h => ⟨h.2, h.1⟩⟩
theorem GivenOk.at {n m : Nat} {L : Nat → Nat} {Z : Nat → Nat → Int} {G : Nat → Int} (h : GivenOk n L Z m G) {i : Nat} (hi : i < n) : InR (G i) 0 ((n : Int) - 1) := by
  have := h.2.2.1 i hi
  exact ⟨this.1, by omega⟩
/-- What two people get is exchanged. -/
def swapF (G : Nat → Int) (i k : Nat) (j : Nat) : Int := if j = i then G k else if j = k then G i else G j
noncomputable def swapN (n : Nat) (L : Nat → Nat) (Z : Nat → Nat → Int) (m : Nat) (G : Nat → Int) (i k : Int) : Nat := if tt (TwoPpl n L Z m G i k) = true then n else 0
theorem swapN_yes {n m : Nat} {L : Nat → Nat} {Z : Nat → Nat → Int} {G : Nat → Int} {i k : Int} (h : TwoPpl n L Z m G i k) : swapN n L Z m G i k = n := by unfold swapN; rw [tt_of h]; rfl
theorem swapN_no {n m : Nat} {L : Nat → Nat} {Z : Nat → Nat → Int} {G : Nat → Int} {i k : Int} (h : ¬ TwoPpl n L Z m G i k) : swapN n L Z m G i k = 0 := by unfold swapN; rw [tt_no h]; rfl
theorem swapN_le (n : Nat) (L : Nat → Nat) (Z : Nat → Nat → Int) (m : Nat) (G : Nat → Int) (i k : Int) : swapN n L Z m G i k ≤ 1048576 := by
  by_cases h : TwoPpl n L Z m G i k
  · rw [swapN_yes h]; have := h.1.1.1.1.2; omega
  · rw [swapN_no h]; omega
end Go.Proofs.YtabdbgnkiebcdaaDoor

namespace Go.Proofs.YtabdbgnkiebcdaaDoor
set_option linter.unusedVariables false
set_option linter.unusedSimpArgs false
open Go.RowKit

/-- The lists of f different numbers more that begin so, in order. -/
def givs (n : Nat) : Nat → List Int → List (List Int)
  | 0, B => [B]
  | f + 1, B => (List.range n).flatMap fun (x : Nat) => if (x : Int) ∈ B then [] else givs n f (B ++ [(x : Int)])
/-- Those whose next number is below k. -/
def givsTo (n f : Nat) (B : List Int) (k : Nat) : List (List Int) := (List.range k).flatMap fun (x : Nat) => if (x : Int) ∈ B then [] else givs n f (B ++ [(x : Int)])
theorem givsTo_zero (n f : Nat) (B : List Int) : givsTo n f B 0 = [] := rfl
theorem givsTo_in {n f k : Nat} {B : List Int} (h : (k : Int) ∈ B) : givsTo n f B (k + 1) = givsTo n f B k := by
  unfold givsTo
  rw [List.range_succ, List.flatMap_append]
  simp [h]
theorem givsTo_new {n f k : Nat} {B : List Int} (h : ¬ (k : Int) ∈ B) : givsTo n f B (k + 1) = givsTo n f B k ++ givs n f (B ++ [(k : Int)]) := by
  unfold givsTo
  rw [List.range_succ, List.flatMap_append]
  simp [h]
theorem givs_succ (n f : Nat) (B : List Int) : givs n (f + 1) B = givsTo n f B n := rfl
theorem givsTo_front {n f : Nat} {B : List Int} {k m : Nat} (h : k ≤ m) : givsTo n f B k <+: givsTo n f B m := by
  induction m with
  | zero => have : k = 0 := by omega
            subst this; exact List.prefix_refl _
  | succ m ih =>
    by_cases e : k = m + 1
    · subst e; exact List.prefix_refl _
    · have h1 := ih (by omega)
      by_cases hm : (m : Int) ∈ B
      · rw [givsTo_in hm]; exact h1
      · rw [givsTo_new hm]; exact h1.trans (List.prefix_append _ _)
theorem flatMap_eq {α β : Type} {f g : α → List β} : ∀ {l : List α}, (∀ x, x ∈ l → f x = g x) → l.flatMap f = l.flatMap g
  | [], _ => rfl
  | x :: l, h => by
    rw [List.flatMap_cons, List.flatMap_cons, h x (by simp), flatMap_eq (fun y hy => h y (by simp [hy]))]
/-- The ways that have each number are the givings. -/
theorem givs_longer {n : Nat} (hn : 2 ≤ n) : ∀ (f : Nat) (B : List Int), B.length + f = n → (longer n f B).filter (fun D => tt (D.length = n)) = givs n f B
  | 0, B, h => by
    unfold longer givs
    rw [if_pos (by omega)]
    simp [tt_of (show B.length = n by omega)]
  | f + 1, B, h => by
    unfold longer givs
    rw [List.filter_append]
    have e1 : (if 2 ≤ B.length then [B] else []).filter (fun D => tt (D.length = n)) = [] := by
      by_cases h2 : 2 ≤ B.length
      · rw [if_pos h2]; simp [tt_no (show ¬ B.length = n by omega)]
      · rw [if_neg h2]; rfl
    rw [e1, List.nil_append, List.filter_flatMap]
    refine flatMap_eq fun x hx => ?_
    by_cases hm : (x : Int) ∈ B
    · rw [if_pos hm, if_pos hm]; rfl
    · rw [if_neg hm, if_neg hm]
      exact givs_longer hn f _ (by rw [List.length_append]; simp; omega)
theorem flat_le6 {n : Nat} {g : Nat → List (List Int)} {c : Nat} (h5 : n ≤ 5) (h : ∀ x, (g x).length ≤ c) : ((List.range n).flatMap g).length ≤ 6 * c := by
  have : ∀ k, ((List.range k).flatMap g).length ≤ k * c := by
    intro k
    induction k with
    | zero => simp
    | succ k ih =>
      rw [List.range_succ, List.flatMap_append, List.length_append, Nat.succ_mul, List.flatMap_cons, List.flatMap_nil, List.append_nil]
      have := h k
      omega
  have h1 := this n
  have h2 := Nat.mul_le_mul_right c h5
  omega
theorem givs_le {n : Nat} (h5 : n ≤ 5) : ∀ (f : Nat) (B : List Int), (givs n f B).length ≤ 6 ^ f
  | 0, B => by simp [givs]
  | f + 1, B => by
    unfold givs
    have := flat_le6 (g := fun x => if (x : Int) ∈ B then [] else givs n f (B ++ [(x : Int)])) (c := 6 ^ f) h5 (fun x => by
      by_cases e : (x : Int) ∈ B
      · rw [if_pos e]; exact Nat.zero_le _
      · rw [if_neg e]; exact givs_le h5 f _)
    rw [Nat.pow_succ]; omega
theorem givsTo_le {n : Nat} (h5 : n ≤ 5) (f k : Nat) (B : List Int) (hk : k ≤ n) : (givsTo n f B k).length ≤ 6 ^ (f + 1) := by
  have h1 := givs_le h5 (f + 1) B
  rw [givs_succ] at h1
  exact Nat.le_trans (givsTo_front hk).length_le h1
theorem prefix_eq {A B : List Int} (h : A <+: B) (hl : A.length = B.length) : A = B := h.eq_of_length hl
theorem nth_pre {B D : List Int} (h : B <+: D) {i : Nat} (hi : i < B.length) : nth D i = nth B i := by
  obtain ⟨z, rfl⟩ := h
  unfold nth
  rw [List.getD_eq_getElem?_getD, List.getD_eq_getElem?_getD, List.getElem?_append_left hi]
/-- The givings are the lists of all numbers that begin so. -/
theorem mem_givs {n : Nat} : ∀ (f : Nat) (B : List Int), Diff n B → B.length + f = n → ∀ D, D ∈ givs n f B ↔ Diff n D ∧ D.length = n ∧ B <+: D
  | 0, B, hd, hl, D => by
    unfold givs
    rw [List.mem_singleton]
    constructor
    · rintro rfl; exact ⟨hd, by omega, List.prefix_refl _⟩
    · rintro ⟨_, h2, h3⟩
      exact (prefix_eq h3 (by omega)).symm
  | f + 1, B, hd, hl, D => by
    unfold givs
    rw [List.mem_flatMap]
    constructor
    · rintro ⟨x, hx, h⟩
      rw [List.mem_range] at hx
      by_cases e : (x : Int) ∈ B
      · rw [if_pos e] at h; cases h
      · rw [if_neg e] at h
        obtain ⟨h1, h2, h3⟩ := (mem_givs f _ ((hd.snoc_iff hx).2 e) (by rw [List.length_append]; simp; omega) D).1 h
        exact ⟨h1, h2, (List.prefix_append _ _).trans h3⟩
    · rintro ⟨h1, h2, h3⟩
      have hb : B.length < D.length := by omega
      have hr := h1.1 B.length hb
      obtain ⟨x, hx⟩ := Int.eq_ofNat_of_zero_le hr.1
      have hxn : x < n := by have := hr.2; omega
      have hp : B ++ [(x : Int)] <+: D := by
        obtain ⟨z, rfl⟩ := h3
        have hz : 0 < z.length := by rw [List.length_append] at hb; omega
        obtain ⟨y, ys, rfl⟩ := List.exists_cons_of_length_pos hz
        have : nth (B ++ y :: ys) B.length = y := by
          unfold nth
          rw [List.getD_eq_getElem?_getD, List.getElem?_append_right (Nat.le_refl _)]
          simp
        rw [this] at hx
        rw [hx]
        exact ⟨ys, by simp⟩
      have hnin : ¬ (x : Int) ∈ B := fun h => by
        obtain ⟨j, hj, e⟩ := mem_nth.1 h
        have e2 := nth_pre h3 hj
        exact h1.2 j B.length hj hb (by rw [e2, e, hx])
      exact ⟨x, List.mem_range.2 hxn, by
        rw [if_neg hnin]
        exact (mem_givs f _ ((hd.snoc_iff hxn).2 hnin) (by rw [List.length_append]; simp; omega) D).2 ⟨h1, h2, hp⟩⟩
theorem givs_pos {n f : Nat} {B : List Int} (hd : Diff n B) (hl : B.length + f = n) : 0 < (givs n f B).length := by
  induction f generalizing B with
  | zero => simp [givs]
  | succ f ih =>
    -- some number is not in B
    have hex : ∃ x, x < n ∧ ¬ (x : Int) ∈ B := by
      refine Classical.byContradiction fun hno => ?_
      have hall : ∀ x : Nat, x < n → (x : Int) ∈ B := fun x hx => Classical.byContradiction fun h => hno ⟨x, hx, h⟩
      have hch : ∀ x : Nat, ∃ i : Nat, x < n → i < B.length ∧ nth B i = x := fun x => by
        by_cases hx : x < n
        · obtain ⟨i, h1, h2⟩ := mem_nth.1 (hall x hx)
          exact ⟨i, fun _ => ⟨h1, h2⟩⟩
        · exact ⟨0, fun h => absurd h hx⟩
      have hsp := fun x => Classical.choose_spec (hch x)
      have hd2 : IsDiff B.length n (fun x => ((Classical.choose (hch x) : Nat) : Int)) := by
        refine ⟨fun i hi => ⟨by show (0 : Int) ≤ ((Classical.choose (hch i) : Nat) : Int); omega, by
          show ((Classical.choose (hch i) : Nat) : Int) < B.length
          have := (hsp i hi).1; omega⟩, fun i j hij hj he => ?_⟩
        have he' : Classical.choose (hch i) = Classical.choose (hch j) := by
          have : ((Classical.choose (hch i) : Nat) : Int) = ((Classical.choose (hch j) : Nat) : Int) := he
          omega
        have h1 := (hsp i (by omega)).2
        have h2 := (hsp j hj).2
        rw [he'] at h1
        omega
      have := diff_le hd2
      omega
    obtain ⟨x, hx, hm⟩ := hex
    have h1 := ih ((hd.snoc_iff hx).2 hm) (by rw [List.length_append]; simp; omega)
    obtain ⟨D, hD⟩ := List.exists_mem_of_length_pos h1
    exact List.length_pos_of_mem (show D ∈ givs n (f + 1) B from by
      unfold givs
      exact List.mem_flatMap.2 ⟨x, List.mem_range.2 hx, by rw [if_neg hm]; exact hD⟩)
theorem givs_at {n k : Nat} (h : k < (givs n n []).length) : Diff n ((givs n n []).getD k []) ∧ ((givs n n []).getD k []).length = n := by
  have h1 : (givs n n []).getD k [] ∈ givs n n [] := by
    rw [List.getD_eq_getElem?_getD, List.getElem?_eq_getElem h]
    exact List.getElem_mem h
  have h2 := (mem_givs n [] (Diff.nil n) (by simp) _).1 h1
  exact ⟨h2.1, h2.2.1⟩
theorem filter_one {α : Type} {p : α → Bool} {a : α} : ∀ {l : List α}, l.Nodup → a ∈ l → (∀ x, x ∈ l → (p x = true ↔ x = a)) → l.filter p = [a]
  | [], _, hm, _ => by cases hm
  | x :: l, hn, hm, h => by
    rw [List.nodup_cons] at hn
    by_cases e : x = a
    · subst e
      rw [List.filter_cons_of_pos ((h x (by simp)).2 rfl)]
      rw [List.filter_eq_nil_iff.2 (fun y hy hp => hn.1 (by rw [← (h y (by simp [hy])).1 hp]; exact hy))]
    · have hx : ¬ p x = true := fun hp => e ((h x (by simp)).1 hp)
      rw [List.filter_cons_of_neg hx]
      rcases List.mem_cons.1 hm with rfl | hm
      · exact absurd rfl e
      · exact filter_one hn.2 hm (fun y hy => h y (by simp [hy]))
theorem givs_nodup {n : Nat} : ∀ (f : Nat) (B : List Int), Diff n B → B.length + f = n → (givs n f B).Nodup
  | 0, B, _, _ => by unfold givs; simp
  | f + 1, B, hd, hl => by
    unfold givs List.Nodup
    rw [List.pairwise_flatMap]
    refine ⟨fun x hx => ?_, ?_⟩
    · rw [List.mem_range] at hx
      by_cases e : (x : Int) ∈ B
      · rw [if_pos e]; exact List.Pairwise.nil
      · rw [if_neg e]
        exact givs_nodup f _ ((hd.snoc_iff hx).2 e) (by rw [List.length_append]; simp; omega)
    · refine List.Pairwise.imp_of_mem (R := fun x y => x < y) ?_ List.pairwise_lt_range
      intro x y hx hy hxy u hu v hv euv
      rw [List.mem_range] at hx hy
      by_cases ex : (x : Int) ∈ B
      · rw [if_pos ex] at hu; cases hu
      by_cases ey : (y : Int) ∈ B
      · rw [if_pos ey] at hv; cases hv
      rw [if_neg ex] at hu
      rw [if_neg ey] at hv
      have h1 := ((mem_givs f _ ((hd.snoc_iff hx).2 ex) (by rw [List.length_append]; simp; omega) u).1 hu).2.2
      have h2 := ((mem_givs f _ ((hd.snoc_iff hy).2 ey) (by rw [List.length_append]; simp; omega) v).1 hv).2.2
      have hb : B.length < (B ++ [(x : Int)]).length := by simp
      have hb2 : B.length < (B ++ [(y : Int)]).length := by simp
      have e1 := nth_pre h1 hb
      have e2 := nth_pre h2 hb2
      rw [snoc_nth (by omega), if_neg (by omega)] at e1 e2
      rw [euv] at e1
      omega
/-- In a list of givings each one has one place. -/
theorem place_one {n : Nat} {LL : List (List Int)} {i x : Nat} (hn : LL.Nodup) (hl : ∀ r, r < LL.length → lenL LL r = n) (hi : i < LL.length) (hx : x < LL.length) (h : ∀ j, j < n → nthL LL i j = nthL LL x j) : i = x := by
  have e : LL[i] = LL[x] := by
    have h1 := hl i hi
    have h2 := hl x hx
    unfold lenL at h1 h2
    rw [List.getD_eq_getElem?_getD, List.getElem?_eq_getElem hi] at h1
    rw [List.getD_eq_getElem?_getD, List.getElem?_eq_getElem hx] at h2
    have h1 : LL[i].length = n := h1
    have h2 : LL[x].length = n := h2
    refine List.ext_getElem (by omega) fun j hj hj2 => ?_
    have h3 := h j (by omega)
    unfold nthL nth at h3
    rw [List.getD_eq_getElem?_getD, List.getD_eq_getElem?_getD, List.getD_eq_getElem?_getD, List.getD_eq_getElem?_getD, List.getElem?_eq_getElem hi, List.getElem?_eq_getElem hx] at h3
    simp only [Option.getD_some] at h3
    rw [List.getElem?_eq_getElem hj, List.getElem?_eq_getElem hj2] at h3
    exact h3
  exact (List.getElem_inj hn).1 e
end Go.Proofs.YtabdbgnkiebcdaaDoor

namespace Go.Proofs.YtabdbgnkiebcdaaDoor
set_option linter.unusedVariables false
set_option linter.unusedSimpArgs false
open Go.RowKit

/-- May the people of S be given different houses of H, none liked less than what G gives, and one better (or b)? -/
def ImpP (n : Nat) (Z : Nat → Nat → Int) (G : Nat → Int) (S H : Nat) (b : Bool) : Prop :=
  ∃ h : Nat → Nat, (∀ i, S.testBit i = true → H.testBit (h i) = true ∧ idxF (Z i) (h i : Nat) n ≤ idxF (Z i) (G i) n) ∧
    (∀ i j, S.testBit i = true → S.testBit j = true → h i = h j → i = j) ∧ (b = true ∨ ∃ i, S.testBit i = true ∧ ((h i : Nat) : Int) ≠ G i)
theorem impP_zero {n : Nat} {Z : Nat → Nat → Int} {G : Nat → Int} {H : Nat} {b : Bool} : ImpP n Z G 0 H b ↔ b = true := by
  constructor
  · rintro ⟨h, _, _, (h3 | ⟨i, hi, _⟩)⟩
    · exact h3
    · simp at hi
  · intro hb
    exact ⟨fun i => i, fun i hi => by simp at hi, fun i j hi => by simp at hi, .inl hb⟩
/-- One of them takes a house. -/
theorem impP_take {n p x : Nat} {Z : Nat → Nat → Int} {G : Nat → Int} {S H S' H' : Nat} {b : Bool} (hp : S.testBit p = true) (hx : H.testBit x = true) (hS : ∀ y, S'.testBit y = (S.testBit y && !decide (y = p))) (hH : ∀ y, H'.testBit y = (H.testBit y && !decide (y = x)))
    (hle : idxF (Z p) (x : Nat) n ≤ idxF (Z p) (G p) n) (h : ImpP n Z G S' H' (b || !(decide ((x : Int) = G p)))) : ImpP n Z G S H b := by
  obtain ⟨h, h1, h2, h3⟩ := h
  have hS1 : ∀ i, i ≠ p → S.testBit i = true → S'.testBit i = true := fun i hi hs => by rw [hS, hs]; simp [hi]
  refine ⟨fun i => if i = p then x else h i, fun i hi => ?_, fun i j hi hj e => ?_, ?_⟩
  · dsimp only
    by_cases e : i = p
    · subst e; rw [if_pos rfl]; exact ⟨hx, hle⟩
    · rw [if_neg e]
      obtain ⟨k1, k2⟩ := h1 i (hS1 i e hi)
      rw [hH] at k1
      exact ⟨by simp at k1; exact k1.1, k2⟩
  · dsimp only at e
    have hne : ∀ i, i ≠ p → S.testBit i = true → h i ≠ x := fun i e hi he => by
      have := (h1 i (hS1 i e hi)).1
      rw [hH, he] at this
      simp at this
    by_cases e1 : i = p
    · by_cases e2 : j = p
      · rw [e1, e2]
      · rw [if_pos e1, if_neg e2] at e
        exact absurd e.symm (hne j e2 hj)
    · by_cases e2 : j = p
      · rw [if_neg e1, if_pos e2] at e
        exact absurd e (hne i e1 hi)
      · rw [if_neg e1, if_neg e2] at e
        exact h2 i j (hS1 i e1 hi) (hS1 j e2 hj) e
  · rcases h3 with h3 | ⟨i, hi, hne⟩
    · rw [Bool.or_eq_true] at h3
      rcases h3 with h3 | h3
      · exact .inl h3
      · exact .inr ⟨p, hp, by dsimp only; rw [if_pos rfl]; simpa using h3⟩
    · rw [hS] at hi
      simp only [Bool.and_eq_true, Bool.not_eq_true', decide_eq_false_iff_not] at hi
      exact .inr ⟨i, hi.1, by dsimp only; rw [if_neg hi.2]; exact hne⟩
/-- .. and there is no other way. -/
theorem impP_some {n p : Nat} {Z : Nat → Nat → Int} {G : Nat → Int} {S H : Nat} {b : Bool} (hp : S.testBit p = true) (h : ImpP n Z G S H b) :
    ∃ x, H.testBit x = true ∧ idxF (Z p) (x : Nat) n ≤ idxF (Z p) (G p) n ∧ ∀ S' H', (∀ y, S'.testBit y = (S.testBit y && !decide (y = p))) → (∀ y, H'.testBit y = (H.testBit y && !decide (y = x))) → ImpP n Z G S' H' (b || !(decide ((x : Int) = G p))) := by
  obtain ⟨h, h1, h2, h3⟩ := h
  refine ⟨h p, (h1 p hp).1, (h1 p hp).2, fun S' H' hS hH => ?_⟩
  have hS1 : ∀ i, S'.testBit i = true → S.testBit i = true ∧ i ≠ p := fun i hi => by
    rw [hS] at hi
    simpa using hi
  refine ⟨h, fun i hi => ?_, fun i j hi hj e => h2 i j (hS1 i hi).1 (hS1 j hj).1 e, ?_⟩
  · obtain ⟨k1, k2⟩ := h1 i (hS1 i hi).1
    refine ⟨?_, k2⟩
    rw [hH, k1]
    have : h i ≠ h p := fun e => (hS1 i hi).2 (h2 i p (hS1 i hi).1 hp e)
    simp [this]
  · rcases h3 with h3 | ⟨i, hi, hne⟩
    · left; rw [h3]; rfl
    · by_cases e : i = p
      · left; subst e
        simp [hne]
      · right
        exact ⟨i, by rw [hS, hi]; simp [e], hne⟩
theorem bit_lt {S i n : Nat} (hS : S < 2 ^ n) (h : S.testBit i = true) : i < n := by
  rcases Nat.lt_or_ge i n with h' | h'
  · exact h'
  · have : S < 2 ^ i := Nat.lt_of_lt_of_le hS (Nat.pow_le_pow_right (by omega) h')
    rw [Nat.testBit_lt_two_pow this] at h; cases h
/-- A set without one. -/
theorem without {S p : Nat} (h : S.testBit p = true) : ∀ y, (S ^^^ 2 ^ p).testBit y = (S.testBit y && !decide (y = p)) := fun y => by
  rw [Nat.testBit_xor, Nat.testBit_two_pow]
  by_cases e : y = p
  · subst e; simp [h]
  · have : ¬ p = y := fun h => e h.symm
    simp [e, this]
/-- Where a number stands in a list of all. -/
theorem idx_diff {n j : Nat} {X : Nat → Int} (hd : IsDiff n n X) (hj : j < n) : idxF X (X j) n = j := idxF_some (fun i hi e => hd.2 i j hi hj e) rfl hj
/-- This house has been tried for p, and it won't do. -/
def Tried (n : Nat) (Z : Nat → Nat → Int) (G : Nat → Int) (S H : Nat) (b : Bool) (p x : Nat) : Prop :=
  ∀ S' H', (∀ y, S'.testBit y = (S.testBit y && !decide (y = p))) → (∀ y, H'.testBit y = (H.testBit y && !decide (y = x))) → H.testBit x = true → ¬ ImpP n Z G S' H' (b || !(decide ((x : Int) = G p)))
theorem tried_no {n p x : Nat} {Z : Nat → Nat → Int} {G : Nat → Int} {S H : Nat} {b : Bool} (h : H.testBit x = false) : Tried n Z G S H b p x := fun S' H' _ _ hx => by rw [h] at hx; cases hx
theorem tried_of {n p x : Nat} {Z : Nat → Nat → Int} {G : Nat → Int} {S H S1 H1 : Nat} {b : Bool} (hS : ∀ y, S1.testBit y = (S.testBit y && !decide (y = p))) (hH : ∀ y, H1.testBit y = (H.testBit y && !decide (y = x))) (h : ¬ ImpP n Z G S1 H1 (b || !(decide ((x : Int) = G p)))) : Tried n Z G S H b p x := fun S' H' hS' hH' _ => by
  have e1 : S' = S1 := Nat.eq_of_testBit_eq fun y => by rw [hS' y, hS y]
  have e2 : H' = H1 := Nat.eq_of_testBit_eq fun y => by rw [hH' y, hH y]
  rw [e1, e2]; exact h
theorem no_imp {n p k : Nat} {Z : Nat → Nat → Int} {G : Nat → Int} {S H : Nat} {b : Bool} (hp : S.testBit p = true) (hH : H < 2 ^ n) (hd : IsDiff n n (Z p)) (hk : k ≤ n) (hF : ∀ j, j < k → Tried n Z G S H b p (Z p j).toNat)
    (hlast : k = n ∨ ∃ j, j + 1 = k ∧ Z p j = G p) : ¬ ImpP n Z G S H b := by
  intro h
  obtain ⟨x, hx, hle, hall⟩ := impP_some hp h
  have hxn := bit_lt hH hx
  obtain ⟨j, hj, hjx⟩ := hd.all hxn
  have hjk : j < k := by
    rcases hlast with rfl | ⟨j0, h0, e0⟩
    · exact hj
    · rw [← e0, idx_diff hd (show j0 < n by omega), ← hjx, idx_diff hd hj] at hle
      omega
  have e : (Z p j).toNat = x := by rw [hjx]; rfl
  have ht := hF j hjk
  rw [e] at ht
  exact ht _ _ (without hp) (without hx) hx (hall _ _ (without hp) (without hx))
/-- A set of people blocks a giving: some other giving gives them their own houses, none of them less, one of them better. -/
def BlocksP (n : Nat) (Z : Nat → Nat → Int) (G : Nat → Int) (S : Nat) : Prop := ImpP n Z G S S false
/-- No set of people blocks a giving. -/
def FirmP (n : Nat) (Z : Nat → Nat → Int) (G : Nat → Int) : Prop := ∀ S, 1 ≤ S → S < 2 ^ n → ¬ BlocksP n Z G S
theorem blocks_pos {n : Nat} {Z : Nat → Nat → Int} {G : Nat → Int} : ¬ BlocksP n Z G 0 := fun h => by
  have := impP_zero.1 h
  cases this
def BlocksOk (n : Nat) (L : Nat → Nat) (Z : Nat → Nat → Int) (m : Nat) (G : Nat → Int) (x : Int) : Prop := GivenOk n L Z m G ∧ InR x 0 ((2 ^ n : Nat) - 1) ∧ BlocksP n Z G x.toNat
def FirmOk (n : Nat) (L : Nat → Nat) (Z : Nat → Nat → Int) (m : Nat) (G : Nat → Int) : Prop := GivenOk n L Z m G ∧ FirmP n Z G
end Go.Proofs.YtabdbgnkiebcdaaDoor

namespace Go.Proofs.YtabdbgnkiebcdaaDoor
set_option linter.unusedVariables false
set_option linter.unusedSimpArgs false
open Go.RowKit

/-- The people of S get just their own houses. -/
def OwnP (n : Nat) (S : Nat) (X : Nat → Int) : Prop := ∀ y : Nat, S.testBit y = true ↔ ∃ i, i < n ∧ S.testBit i = true ∧ X i = y
/-- None of S is worse off with X than with G, and one is better off. -/
def BetterP (n : Nat) (Z : Nat → Nat → Int) (S : Nat) (G X : Nat → Int) : Prop := (∀ i, i < n → S.testBit i = true → idxF (Z i) (X i) n ≤ idxF (Z i) (G i) n) ∧ ∃ i, i < n ∧ S.testBit i = true ∧ idxF (Z i) (X i) n < idxF (Z i) (G i) n
theorem idx_inj {n : Nat} {X : Nat → Int} (hd : IsDiff n n X) {x y : Int} (hx : InR x 0 ((n : Int) - 1)) (hy : InR y 0 ((n : Int) - 1)) (h : idxF X x n = idxF X y n) : x = y := by
  obtain ⟨j, hj, e⟩ := hd.all (r := x.toNat) (by have h1 := hx.1; have h2 := hx.2; omega)
  obtain ⟨k, hk, e2⟩ := hd.all (r := y.toNat) (by have h1 := hy.1; have h2 := hy.2; omega)
  have ex : X j = x := by rw [e]; have := hx.1; omega
  have ey : X k = y := by rw [e2]; have := hy.1; omega
  rw [← ex, ← ey, idx_diff hd hj, idx_diff hd hk] at h
  have : j = k := by omega
  rw [← ex, ← ey, this]
theorem isDiff_nth {n : Nat} {X : Nat → Int} (hd : IsDiff n n X) : Diff n ((List.range n).map X) ∧ ((List.range n).map X).length = n ∧ ∀ i, i < n → nth ((List.range n).map X) i = X i := by
  have hl : ((List.range n).map X).length = n := by simp
  have hn : ∀ i, i < n → nth ((List.range n).map X) i = X i := fun i hi => by
    unfold nth
    rw [List.getD_eq_getElem?_getD, List.getElem?_eq_getElem (by rw [hl]; exact hi)]
    simp
  refine ⟨?_, hl, hn⟩
  unfold Diff
  rw [hl]
  exact ⟨fun i hi => by rw [hn i hi]; exact hd.1 i hi, fun i j hij hj => by rw [hn i (by omega), hn j hj]; exact hd.2 i j hij hj⟩
theorem own_congr {n S : Nat} {X Y : Nat → Int} (h : ∀ i, i < n → X i = Y i) (ho : OwnP n S X) : OwnP n S Y := fun y => by
  rw [ho y]
  constructor
  · rintro ⟨i, h1, h2, h3⟩; exact ⟨i, h1, h2, by rw [← h i h1]; exact h3⟩
  · rintro ⟨i, h1, h2, h3⟩; exact ⟨i, h1, h2, by rw [h i h1]; exact h3⟩
theorem better_congr {n S : Nat} {Z : Nat → Nat → Int} {G X Y : Nat → Int} (h : ∀ i, i < n → X i = Y i) (hb : BetterP n Z S G X) : BetterP n Z S G Y := by
  obtain ⟨h1, i, h2, h3, h4⟩ := hb
  exact ⟨fun i hi hs => by rw [← h i hi]; exact h1 i hi hs, i, h2, h3, by rw [← h i h2]; exact h4⟩
/-- A set blocks just if some giving shows it. -/
theorem blocks_iff {n S : Nat} {L : Nat → Nat} {Z : Nat → Nat → Int} {G : Nat → Int} (hg : GivenOk n L Z n G) (hS : S < 2 ^ n) :
    BlocksP n Z G S ↔ ∃ D, D ∈ givs n n [] ∧ OwnP n S (nth D) ∧ BetterP n Z S G (nth D) := by
  constructor
  · rintro ⟨h, h1, h2, h3⟩
    have hSi : ∀ i, S.testBit i = true → i < n := fun i hi => bit_lt hS hi
    have hd : IsDiff n n (fun i => ((if S.testBit i = true then h i else i : Nat) : Int)) := by
      refine ⟨fun i hi => ?_, fun i j hij hj e => ?_⟩
      · dsimp only
        by_cases e : S.testBit i = true
        · rw [if_pos e]; have := hSi _ (h1 i e).1; omega
        · rw [if_neg e]; omega
      · dsimp only at e
        by_cases e1 : S.testBit i = true
        · by_cases e2 : S.testBit j = true
          · rw [if_pos e1, if_pos e2] at e
            have := h2 i j e1 e2 (by omega); omega
          · rw [if_pos e1, if_neg e2] at e
            have e' : h i = j := by omega
            have := (h1 i e1).1
            rw [e'] at this; exact e2 this
        · by_cases e2 : S.testBit j = true
          · rw [if_neg e1, if_pos e2] at e
            have e' : h j = i := by omega
            have := (h1 j e2).1
            rw [e'] at this; exact e1 this
          · rw [if_neg e1, if_neg e2] at e; omega
    obtain ⟨k1, k2, k3⟩ := isDiff_nth hd
    refine ⟨_, (mem_givs n [] (Diff.nil n) (by simp) _).2 ⟨k1, k2, List.nil_prefix⟩, own_congr (fun i hi => (k3 i hi).symm) ?_, better_congr (fun i hi => (k3 i hi).symm) ?_⟩
    · intro y
      constructor
      · intro hy
        obtain ⟨i, hi, e⟩ := hd.all (hSi y hy)
        refine ⟨i, hi, ?_, e⟩
        by_cases e1 : S.testBit i = true
        · exact e1
        · have e : (((if S.testBit i = true then h i else i) : Nat) : Int) = y := e
          rw [if_neg e1] at e
          have : i = y := by omega
          rw [this] at e1; exact absurd hy e1
      · rintro ⟨i, hi, hs, e⟩
        have e : (((if S.testBit i = true then h i else i) : Nat) : Int) = y := e
        rw [if_pos hs] at e
        have e' : h i = y := by omega
        rw [← e']; exact (h1 i hs).1
    · refine ⟨fun i hi hs => by dsimp only; rw [if_pos hs]; exact (h1 i hs).2, ?_⟩
      rcases h3 with h3 | ⟨i, hi, hne⟩
      · cases h3
      · refine ⟨i, hSi i hi, hi, ?_⟩
        dsimp only
        rw [if_pos hi]
        have hle := (h1 i hi).2
        rcases Int.lt_or_eq_of_le hle with h' | h'
        · exact h'
        · have hin := hSi i hi
          have hx := hSi _ (h1 i hi).1
          exact absurd (idx_inj (hg.1.2 i hin).2 ⟨by omega, by omega⟩ (hg.at hin) h') hne
  · rintro ⟨D, hD, ho, hb1, i0, hi0, hs0, hlt⟩
    have hDg := (mem_givs n [] (Diff.nil n) (by simp) D).1 hD
    have hdd : IsDiff n n (nth D) := by have := hDg.1; unfold Diff at this; rwa [hDg.2.1] at this
    have hSi : ∀ i, S.testBit i = true → i < n := fun i hi => bit_lt hS hi
    have hnat : ∀ i, i < n → (((nth D i).toNat : Nat) : Int) = nth D i := fun i hi => by have := (hdd.1 i hi).1; omega
    refine ⟨fun i => (nth D i).toNat, fun i hi => ⟨?_, ?_⟩, fun i j hi hj e => ?_, .inr ⟨i0, hs0, ?_⟩⟩
    · exact (ho _).2 ⟨i, hSi i hi, hi, (hnat i (hSi i hi)).symm⟩
    · dsimp only
      rw [hnat i (hSi i hi)]; exact hb1 i (hSi i hi) hi
    · have e2 : (nth D i).toNat = (nth D j).toNat := e
      have e' : nth D i = nth D j := by rw [← hnat i (hSi i hi), ← hnat j (hSi j hj), e2]
      rcases Nat.lt_trichotomy i j with h | h | h
      · exact absurd e' (hdd.2 i j h (hSi j hj))
      · exact h
      · exact absurd e'.symm (hdd.2 j i h (hSi i hi))
    · dsimp only
      rw [hnat i0 hi0]
      intro e
      rw [e] at hlt; omega
end Go.Proofs.YtabdbgnkiebcdaaDoor

namespace Go.Proofs.YtabdbgnkiebcdaaDoor
set_option linter.unusedVariables false
set_option linter.unusedSimpArgs false
open Go.RowKit

/-- Those of a list that are firm. -/
noncomputable def firmsL (n : Nat) (Z : Nat → Nat → Int) (LL : List (List Int)) : List (List Int) := LL.filter fun D => tt (FirmP n Z (nth D))
theorem firmsL_yes {n : Nat} {Z : Nat → Nat → Int} {A : List (List Int)} {D : List Int} (h : FirmP n Z (nth D)) : firmsL n Z (A ++ [D]) = firmsL n Z A ++ [D] := by
  unfold firmsL
  rw [List.filter_append]
  simp [tt_of h]
theorem firmsL_no {n : Nat} {Z : Nat → Nat → Int} {A : List (List Int)} {D : List Int} (h : ¬ FirmP n Z (nth D)) : firmsL n Z (A ++ [D]) = firmsL n Z A := by
  unfold firmsL
  rw [List.filter_append]
  simp [tt_no h]
theorem firmsL_le (n : Nat) (Z : Nat → Nat → Int) (LL : List (List Int)) : (firmsL n Z LL).length ≤ LL.length := List.length_filter_le _ _
/-- What HouseFirms answers. -/
noncomputable def firmsAll (n : Nat) (L : Nat → Nat) (Z : Nat → Nat → Int) : List (List Int) := if tt (IsWishes n L Z) = true then firmsL n Z (givs n n []) else []
theorem firmsAll_yes {n : Nat} {L : Nat → Nat} {Z : Nat → Nat → Int} (h : IsWishes n L Z) : firmsAll n L Z = firmsL n Z (givs n n []) := by unfold firmsAll; rw [tt_of h]; rfl
theorem firmsAll_no {n : Nat} {L : Nat → Nat} {Z : Nat → Nat → Int} (h : ¬ IsWishes n L Z) : firmsAll n L Z = [] := by unfold firmsAll; rw [tt_no h]; rfl
theorem givsN_le {n : Nat} (hn : n ≤ 5) : (givs n n []).length ≤ 7776 := Nat.le_trans (givs_le hn n []) (Nat.pow_le_pow_right (show 0 < 6 by omega) hn)
theorem givsN_given {n : Nat} {L : Nat → Nat} {Z : Nat → Nat → Int} {D : List Int} (h : IsWishes n L Z) (hD : D ∈ givs n n []) : GivenOk n L Z n (nth D) := by
  have h1 := (mem_givs n [] (Diff.nil n) (by simp) D).1 hD
  have h2 := h1.1
  unfold Diff at h2
  rw [h1.2.1] at h2
  exact ⟨h, rfl, fun j hj => by have := h2.1 j hj; exact ⟨this.1, by omega⟩, h2.2⟩
theorem firms_small (n : Nat) (L : Nat → Nat) (Z : Nat → Nat → Int) : (firmsAll n L Z).length ≤ 1048576 ∧ tot (lenL (firmsAll n L Z)) (firmsAll n L Z).length ≤ 1048576 := by
  have htot : ∀ (M : Nat → Nat) (B k : Nat), (∀ r, r < k → M r ≤ B) → tot M k ≤ k * B := by
    intro M B k h
    induction k with
    | zero => simp [tot]
    | succ k ih =>
      have h1 := ih (fun r hr => h r (by omega))
      have h2 := h k (by omega)
      show tot M k + M k ≤ (k + 1) * B
      rw [Nat.succ_mul]; omega
  by_cases h : IsWishes n L Z
  · rw [firmsAll_yes h]
    have hn5 := h.1.2
    have h1 := Nat.le_trans (firmsL_le n Z (givs n n [])) (givsN_le hn5)
    have h2 := htot (lenL (firmsL n Z (givs n n []))) 5 (firmsL n Z (givs n n [])).length (fun r hr => by
      unfold lenL
      rw [List.getD_eq_getElem?_getD, List.getElem?_eq_getElem hr]
      have hm : (firmsL n Z (givs n n []))[r] ∈ givs n n [] := by
        have := List.getElem_mem hr
        unfold firmsL at this
        exact (List.mem_filter.1 this).1
      have := ((mem_givs n [] (Diff.nil n) (by simp) _).1 hm).2.1
      show ((firmsL n Z (givs n n []))[r]).length ≤ 5
      omega)
    omega
  · rw [firmsAll_no h]
    simp [tot]
end Go.Proofs.YtabdbgnkiebcdaaDoor

namespace Go.Proofs.YtabdbgnkiebcdaaDoor
set_option linter.unusedVariables false
set_option linter.unusedSimpArgs false
open Go.RowKit

/-- Everybody together does not block. -/
def GoodP (n : Nat) (Z : Nat → Nat → Int) (G : Nat → Int) : Prop := ¬ BlocksP n Z G (2 ^ n - 1)
def GoodOk (n : Nat) (L : Nat → Nat) (Z : Nat → Nat → Int) (m : Nat) (G : Nat → Int) : Prop := GivenOk n L Z m G ∧ GoodP n Z G
theorem all_lt (n : Nat) : 2 ^ n - 1 < 2 ^ n := by have := Nat.two_pow_pos n; omega
theorem all_bit (n y : Nat) : (2 ^ n - 1).testBit y = decide (y < n) := Nat.testBit_two_pow_sub_one n y
theorem own_all {n : Nat} {X : Nat → Int} (hd : IsDiff n n X) : OwnP n (2 ^ n - 1) X := fun y => by
  rw [all_bit, decide_eq_true_iff]
  constructor
  · intro hy
    obtain ⟨i, hi, e⟩ := hd.all hy
    exact ⟨i, hi, by rw [all_bit, decide_eq_true_iff]; exact hi, e⟩
  · rintro ⟨i, hi, _, e⟩
    have := hd.1 i hi
    omega
theorem giv_diff {n : Nat} {D : List Int} (hD : D ∈ givs n n []) : IsDiff n n (nth D) := by
  have h3 := (mem_givs n [] (Diff.nil n) (by simp) _).1 hD
  have h4 := h3.1
  unfold Diff at h4
  rwa [h3.2.1] at h4
/-- No other giving is better for some and worse for none. -/
theorem good_iff {n : Nat} {L : Nat → Nat} {Z : Nat → Nat → Int} {G : Nat → Int} (hg : GivenOk n L Z n G) : GoodP n Z G ↔ ∀ D, D ∈ givs n n [] → ¬ BetterP n Z (2 ^ n - 1) G (nth D) := by
  unfold GoodP
  rw [blocks_iff hg (all_lt n)]
  constructor
  · intro h D hD hb
    exact h ⟨D, hD, own_all (giv_diff hD), hb⟩
  · rintro h ⟨D, hD, _, hb⟩
    exact h D hD hb
noncomputable def goodsL (n : Nat) (Z : Nat → Nat → Int) (LL : List (List Int)) : List (List Int) := LL.filter fun D => tt (GoodP n Z (nth D))
theorem goodsL_yes {n : Nat} {Z : Nat → Nat → Int} {A : List (List Int)} {D : List Int} (h : GoodP n Z (nth D)) : goodsL n Z (A ++ [D]) = goodsL n Z A ++ [D] := by
  unfold goodsL
  rw [List.filter_append]
  simp [tt_of h]
theorem goodsL_no {n : Nat} {Z : Nat → Nat → Int} {A : List (List Int)} {D : List Int} (h : ¬ GoodP n Z (nth D)) : goodsL n Z (A ++ [D]) = goodsL n Z A := by
  unfold goodsL
  rw [List.filter_append]
  simp [tt_no h]
theorem goodsL_le (n : Nat) (Z : Nat → Nat → Int) (LL : List (List Int)) : (goodsL n Z LL).length ≤ LL.length := List.length_filter_le _ _
/-- All good givings. -/
noncomputable def goodsAll (n : Nat) (L : Nat → Nat) (Z : Nat → Nat → Int) : List (List Int) := if tt (IsWishes n L Z) = true then goodsL n Z (givs n n []) else []
theorem goodsAll_yes {n : Nat} {L : Nat → Nat} {Z : Nat → Nat → Int} (h : IsWishes n L Z) : goodsAll n L Z = goodsL n Z (givs n n []) := by unfold goodsAll; rw [tt_of h]; rfl
theorem goodsAll_no {n : Nat} {L : Nat → Nat} {Z : Nat → Nat → Int} (h : ¬ IsWishes n L Z) : goodsAll n L Z = [] := by unfold goodsAll; rw [tt_no h]; rfl
/-- Some givings of all of them are not too many. -/
theorem some_small {n : Nat} {L : Nat → Nat} {Z : Nat → Nat → Int} (h : IsWishes n L Z) (p : List Int → Bool) : ((givs n n []).filter p).length ≤ 7776 ∧ tot (lenL ((givs n n []).filter p)) ((givs n n []).filter p).length ≤ 1048576 := by
  have htot : ∀ (M : Nat → Nat) (B k : Nat), (∀ r, r < k → M r ≤ B) → tot M k ≤ k * B := by
    intro M B k h
    induction k with
    | zero => simp [tot]
    | succ k ih =>
      have h1 := ih (fun r hr => h r (by omega))
      have h2 := h k (by omega)
      show tot M k + M k ≤ (k + 1) * B
      rw [Nat.succ_mul]; omega
  have hn5 := h.1.2
  have h1 := Nat.le_trans (List.length_filter_le p (givs n n [])) (givsN_le hn5)
  have h2 := htot (lenL ((givs n n []).filter p)) 5 ((givs n n []).filter p).length (fun r hr => by
    unfold lenL
    rw [List.getD_eq_getElem?_getD, List.getElem?_eq_getElem hr]
    have hm : ((givs n n []).filter p)[r] ∈ givs n n [] := (List.mem_filter.1 (List.getElem_mem hr)).1
    have := ((mem_givs n [] (Diff.nil n) (by simp) _).1 hm).2.1
    show (((givs n n []).filter p)[r]).length ≤ 5
    omega)
  omega
theorem goods_small (n : Nat) (L : Nat → Nat) (Z : Nat → Nat → Int) : (goodsAll n L Z).length ≤ 1048576 ∧ tot (lenL (goodsAll n L Z)) (goodsAll n L Z).length ≤ 1048576 := by
  by_cases h : IsWishes n L Z
  · rw [goodsAll_yes h]
    have := some_small h (fun D => tt (GoodP n Z (nth D)))
    exact ⟨Nat.le_trans this.1 (by omega), this.2⟩
  · rw [goodsAll_no h]
    simp [tot]
end Go.Proofs.YtabdbgnkiebcdaaDoor

namespace Go.Proofs.YtabdbgnkiebcdaaDoor
set_option linter.unusedVariables false
set_option linter.unusedSimpArgs false
open Go.RowKit

set_option maxHeartbeats 400000 in
theorem l3At_any (n c : Nat) (a : Option Addr) (X : Nat → Int) (x : Int) (w : World) (hn : n ≤ 1048576) (ha : Rd w a n X) :
    Calls Tryd.prog 95 #[.slice a n c, .int .i64 x] w fun e w' => e = .returned (.int .i64 (atL X x n)) ∧ w = w' := by
  go_enter Tryd.func95, Tryd.ntmps95
  go_wp2
  go_loop [4, 5] (fun _ i => ∃ k : Nat, k ≤ n ∧ i = .int .i64 k ∧ ∀ j, j < k → X j ≠ x) (fun _ i => n - (intOf i).toNat)
  case atStart => exact ⟨0, Nat.zero_le _, rfl, fun j hj => absurd hj (Nat.not_lt_zero _)⟩
  case round =>
    obtain ⟨k, hk, rfl, hno⟩ := hrel
    have HN := Lib.hid hno
    clear hno
    by_cases hlt : k < n
    · obtain ⟨ba, oa, rfl, hca⟩ := ha k hlt
      clear ha
      by_cases hx : X k = x
      · have hd2 : (X k == x) = true := by simpa using hx
        have HX := Lib.hid (atL_first HN.out hx hlt)
        clear hx
        go_wp2
        go_ret
        exact ⟨by rw [HX.out]; rfl, rfl⟩
      · have hd2 : (X k == x) = false := by simpa using hx
        have HX := Lib.hid hx
        clear hx
        go_wp2
        go_round
        case rel => exact ⟨k + 1, by omega, by go_num, fun j hj => by
          by_cases e : j = k
          · subst e; exact HX.out
          · exact HN.out j (by omega)⟩
        case measure => simp [intOf]; omega
    · obtain rfl : k = n := by omega
      clear ha
      have HX := Lib.hid (atL_none HN.out)
      go_wp2
      go_ret
      exact ⟨by rw [HX.out]; rfl, rfl⟩
end Go.Proofs.YtabdbgnkiebcdaaDoor
