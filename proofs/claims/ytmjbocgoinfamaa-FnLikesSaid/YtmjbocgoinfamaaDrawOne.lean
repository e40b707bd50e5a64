/- The draw of a rate table. -/
/- The draws of one table. -/
import Derived.Test.YtmjbocgoinfamaaDrawKit
import Derived.Test.YtmjbocgoinfamaaInfoInts
import Derived.Lib.MinMax
import Derived.IntWalk
namespace Go.Proofs.Ytmjbocgoinfamaa
set_option linter.unusedVariables false

section
open Go.RowKit
/-- The blocks of a table lie at or behind lo. -/
def Apart (lo N : Nat) (ga : Option Addr) (A : Nat → Option Addr) : Prop := (∀ b o, ga = some ⟨b, o, none⟩ → lo ≤ b) ∧ ∀ s, s < N → ∀ b o, A s = some ⟨b, o, none⟩ → lo ≤ b
theorem Apart.mono {lo lo' N : Nat} {ga : Option Addr} {A : Nat → Option Addr} (h : Apart lo N ga A) (hl : lo' ≤ lo) : Apart lo' N ga A :=
  ⟨fun b o e => Nat.le_trans hl (h.1 b o e), fun s hs b o e => Nat.le_trans hl (h.2 s hs b o e)⟩

/-- What l91Table hands back: a table of one to five rows, of five numbers at most, the reader gone on. -/
def DrewTab (r : Nat) (a : Option Addr) (n c p : Nat) (w : World) (e : Ending) (w' : World) : Prop :=
  ∃ ga N gc A L C Z p', e = .returned (.slice ga N gc) ∧ (1 ≤ N ∧ N ≤ 5) ∧ ((∀ s, s < N → L s ≤ 5) ∧ Apart w.heap.size N ga A) ∧ Tab w' ga N A L C Z ∧ RdrAt w' r a n c p' ∧ p' ≤ p + 200 ∧ ButR r w.heap.size w w'

theorem making_butR {tS B r i : Nat} {w w' : World} {v : Value} {G Cp L : Nat → Nat} {X : Nat → Nat → Int} (h : Making tS B w v i G Cp L X) (hr : r < B) (hk : ButR r w.heap.size w w') : Making tS B w' v i G Cp L X := by
  obtain ⟨h1, h2, h3⟩ := h
  refine ⟨?_, fun s hs => ?_, h3⟩
  · obtain ⟨k1, (k2 | ⟨g, cap, cur, k3, k4, k5, k6⟩)⟩ := h1
    · exact ⟨k1, .inl k2⟩
    · exact ⟨k1, .inr ⟨g, cap, cur, k3, k4, (hk.block g (Array.getElem?_eq_some_iff.1 k5).1 (by omega)).trans k5, k6⟩⟩
  · obtain ⟨k1, k2, k3, k4⟩ := h2 s hs
    exact ⟨k1, Nat.lt_of_lt_of_le k2 hk.size, k3, k4.of_block (hk.block _ k2 (by omega))⟩
theorem rd_butR {w w' : World} {r g m B : Nat} {X : Nat → Int} (h : Rd w (some ⟨g, 0, none⟩) m X) (hg : g ≠ r) (hB : g < B) (hk : ButR r B w w') : Rd w' (some ⟨g, 0, none⟩) m X := by
  intro k hkm
  obtain ⟨b, o, e, hc⟩ := h k hkm
  refine ⟨b, o, e, ?_⟩
  simp only [Option.some.injEq, Addr.mk.injEq, and_true] at e
  obtain ⟨rfl, rfl⟩ := e
  rw [World.cell?_of_block (w := w) (a := ⟨g, 0 + k, none⟩) (hk.block g hB hg)]
  exact hc
theorem making_same {tS B i : Nat} {w : World} {v : Value} {G Cp L : Nat → Nat} {X X' : Nat → Nat → Int} (h : Making tS B w v i G Cp L X) (e : ∀ s, s < i → X s = X' s) : Making tS B w v i G Cp L X' :=
  ⟨h.1, fun s hs => by rw [← e s hs]; exact h.2.1 s hs, h.2.2⟩

set_option maxRecDepth 100000 in
set_option maxHeartbeats 6400000 in
theorem l91Table_any (r n c p : Nat) (a : Option Addr) (B : Nat → Nat) (w : World) (hR : RdrAt w r a n c p) (hb : RdB w a n B) (hab : 0 < n → ∀ b o, a = some ⟨b, o, none⟩ → b < w.heap.size ∧ b ≠ r) (hn : n ≤ 2000) (hp : p ≤ 1000) :
    Calls Try.prog 50 #[.pointer (some ⟨r, 0, none⟩)] w (DrewTab r a n c p w) := by
  obtain ⟨i0, hi, hz0, hz1, hz2⟩ := info_parts Try.infoInt
  obtain ⟨i1, hj, hy0, hy1, hy2⟩ := info_parts Try.infoInts
  have hrl := hR.lt
  have HR0 := Lib.hid hR
  have HB := Lib.hid hb
  have HAB := Lib.hid hab
  clear hR hb hab
  go_enter Try.func50, Try.ntmps50
  go_wp2_with fail
  refine (pick_any r n c p 4 a B _ HR0.out HB.out (fun h0 b o e => (HAB.out h0 b o e).2) hn (by omega) (by omega) (by omega)).mono ?_
  rintro e w1 ⟨x, rfl, hx, hR1, hK1⟩
  have HR1 := Lib.hid (hR1.alloc (.cells #[] 3))
  have hs1 : w.heap.size ≤ w1.heap.size := Nat.le_of_eq hK1.size.symm
  have HU1 := Lib.hid ((ButR.keeps (B := w.heap.size) hK1).alloc hs1 (.cells #[] 3))
  have hrl1 : r < w1.heap.size := by omega
  clear hR1 hK1
  obtain ⟨N, hN⟩ : ∃ N, N = 2 + x := ⟨_, rfl⟩
  have hN2 : 2 ≤ N := by omega
  have hN5 : N ≤ 5 := by omega
  have hNx : (2 : Int) + (x : Int) = (N : Int) := by omega
  clear hN
  go_wp2
  clear hNx
  have R0 := Lib.hid (show (w1.alloc (.cells #[] 3)).ownsRow w1.heap.size 3 1 (.slice (some ⟨w1.heap.size, 0, none⟩) 0 0) 0 (cellsL 0 (fun _ => 0)) from World.ownsRow_made w1 #[] 0 (Nat.le_refl _) (Nat.zero_le _) (by simp))
  go_loopw [4, 5] (fun row s wi => ∃ k : Nat, k ≤ N ∧ s = .int .i64 k ∧ ∃ rv X p', rv = row ∧ wi.ownsRow w1.heap.size 3 1 rv k (cellsL k X) ∧ (∀ j, j < k → 1 ≤ X j ∧ X j ≤ 12) ∧ RdrAt wi r a n c p' ∧ p' ≤ p + 1 + k ∧ w1.heap.size ≤ wi.heap.size ∧ ButR r w.heap.size w wi) (fun _ s _ => N - (intOf s).toNat)
  case atStart => exact ⟨0, Nat.zero_le _, rfl, _, fun _ => 0, p + 1, rfl, R0.out, fun j hj => absurd hj (Nat.not_lt_zero _), HR1.out, Nat.le_refl _, by simp, HU1.out⟩
  case round =>
    obtain ⟨k, hk, rfl, rv, X, p', rfl, hown, hX, hR, hp', hsz, hBu⟩ := hrel
    clear R0 HU1 HR1
    have HX := Lib.hid hX
    by_cases hlt : k < N
    · have HO := Lib.hid hown
      have HR := Lib.hid hR
      have HU := Lib.hid hBu
      clear hown hR hBu hX
      go_wp2_with (first
        | (go_at_call 64; refine (pick_any r n c p' 6 a B _ (HR.out.alloc _) (HB.out.but HAB.out (HU.out.alloc (by omega) _)) (fun h0 b o e => (HAB.out h0 b o e).2) hn (by omega) (by omega) (by omega)).mono ?_; rintro e w5 ⟨y, rfl, hy, hR5, hK5⟩; obtain ⟨v, hv12, hv⟩ := six (w := w5) (g := wr.heap.size) (x := y) ((hK5.block _ (by omega)).trans (heap_alloc_last wr _)) hy; have HV := Lib.hid hv12; have H5 := Lib.hid hR5; have hs5 : wr.heap.size + 1 ≤ w5.heap.size := (by rw [hK5.size, World.size_alloc]; exact Nat.le_refl _); have O5 := Lib.hid (owns_but (HO.out.alloc _) hrl1 hK5); have U5 := Lib.hid ((HU.out.alloc (by omega) (.cells _ 3)).trans (ButR.keeps hK5)); clear hR5 hK5 hv12)
        | (at_builtin; refine wpList_append_lies _ (by rfl) (.tmp 21) (.tmp 27) 24 (by rfl) w1.heap.size 3 i0 (.int .i64 0) 1 8 Try.underlying24 hi hz0 hz1 hz2 (by rfl) (by decide) rv k (cellsL k X) (by rfl) (O5.out.alloc _) ⟨_, 0, none⟩ 1 1 [.int .i64 (v : Int)] (by rfl) (by rfl) (news_one (by simp)) (by simp [Value.oneCell']) (by omega) (by unfold maxLen; omega) (by omega) (by first | omega | (simp; omega)) _ rfl ?_; intro g2 cap2 w2 hown2 hgrow2 hat2 hlt2; have N2 := Lib.hid hown2; have G2 := Lib.hid hgrow2; clear hown2 hgrow2 hat2))
      go_roundw
      case rel =>
        refine ⟨k + 1, by omega, by go_num, _, _, p' + 1, rfl, by have := N2.out; rwa [cellsL_snoc] at this, fun j hj => ?_, (H5.out.alloc _).grown G2.out (fun e => by have := (O5.out.lt r e).1; omega), by omega, by have := G2.out.size; simp at this; omega, (U5.out.alloc (by omega) _).grown G2.out (by simp; omega) (fun k hk => by have := (O5.out.lt k hk).1; omega)⟩
        show 1 ≤ (if j < k then X j else (v : Int)) ∧ (if j < k then X j else (v : Int)) ≤ 12
        by_cases e : j < k
        · rw [if_pos e]; exact HX.out j e
        · rw [if_neg e]; have := HV.out; omega
      case measure => simp [intOf]; omega
    · obtain rfl : k = N := by omega
      obtain ⟨gp, cp, rfl⟩ := owns_form hown (by omega)
      have hcap := owns_cap hown
      have HP := Lib.hid (owns_rd hown)
      have HR := Lib.hid hR
      have HU := Lib.hid hBu
      have hgp1 := hcap.2.1
      have hgp2 := hcap.2.2
      have hgpr : gp ≠ r := by omega
      clear hown hR hBu hcap hX
      go_wp2_with fail
      refine (pick_any r n c p' 5 a B _ HR.out (HB.out.but HAB.out HU.out) (fun h0 b o e => (HAB.out h0 b o e).2) hn (by omega) (by omega) (by omega)).mono ?_
      rintro e w6 ⟨kd, rfl, hkd, hR6, hK6⟩
      have hs6 : wr.heap.size ≤ w6.heap.size := Nat.le_of_eq hK6.size.symm
      have HR6 := Lib.hid (hR6.alloc (.cells #[] 24))
      have HU6 := Lib.hid ((HU.out.trans (ButR.keeps hK6)).alloc (by omega) (.cells #[] 24))
      have hgp3 : gp < w6.heap.size := by omega
      have HP6 := Lib.hid ((rd_butR HP.out hgpr hgp2 (ButR.keeps hK6)).below (Nat.le_refl _) (below_alloc (Below.refl _ _) (.cells #[] 24)))
      have hrl6 : r < w6.heap.size := by omega
      obtain ⟨pm, hpm⟩ : ∃ pm, pm = p' + 1 := ⟨_, rfl⟩
      rw [← hpm] at HR6
      have hpm1 : pm ≤ p + 7 := by omega
      clear hR6 hK6 hpm
      go_wp2
      have M0 := Lib.hid (Making.start 24 w6.heap.size (w6.alloc (.cells #[] 24)) (.slice (some ⟨w6.heap.size, 0, none⟩) 0 0) (fun _ => 0) (fun _ => 0) (fun _ => k) (fun _ _ => 0) (World.ownsRow_made w6 #[] 0 (Nat.le_refl _) (Nat.zero_le _) (by simp)))
      go_loopw [7, 8] (fun out s wr => ∃ i : Nat, i ≤ k ∧ s = .int .i64 i ∧ ∃ v G Cp XX pi, v = out ∧ Making 24 w6.heap.size wr v i G Cp (fun _ => k) XX ∧ RdrAt wr r a n c pi ∧ pi ≤ pm + 10 * i ∧ Rd wr (some ⟨gp, 0, none⟩) k X ∧ w6.heap.size ≤ wr.heap.size ∧ ButR r w.heap.size w wr) (fun _ s _ => k - (intOf s).toNat)
      case atStart => exact ⟨0, Nat.zero_le _, rfl, _, _, _, _, pm, rfl, M0.out, HR6.out, by omega, HP6.out, by simp, HU6.out⟩
      case round =>
        obtain ⟨i, hik, rfl, ov, G, Cp, XX, pi, rfl, hM, hRi, hpi, hPi, hsi, hUi⟩ := hrel
        clear M0 HR6 HU6 HP6
        obtain ⟨M, hM'⟩ : ∃ M : Nat, M = k := ⟨_, rfl⟩
        rw [← hM'] at hM hik hPi ⊢
        have HM5 := Lib.hid (show M ≤ 5 by omega)
        have hM2 : 2 ≤ M := by omega
        have hM5 : M ≤ 5 := by omega
        have HXM := Lib.hid (show ∀ j, j < M → 1 ≤ X j ∧ X j ≤ 12 by rw [hM']; exact HX.out)
        have HM := Lib.hid hM
        have HRi := Lib.hid hRi
        have HPi := Lib.hid hPi
        have HUo := Lib.hid hUi
        clear hM hRi hPi hUi hM' HX hk hlt
        by_cases hil : i < M
        · go_wp2
          obtain ⟨wo, rfl⟩ : ∃ wo : World, wo = wr := ⟨_, rfl⟩
          have hrwo : r < wo.heap.size := by omega
          have hwo : w.heap.size ≤ wo.heap.size := by omega
          have hgpo : gp < wo.heap.size := by omega
          have R0 := Lib.hid (show (wo.alloc (.cells #[] 3)).ownsRow wo.heap.size 3 1 (.slice (some ⟨wo.heap.size, 0, none⟩) 0 0) 0 (cellsL 0 (fun _ => 0)) from World.ownsRow_made wo #[] 0 (Nat.le_refl _) (Nat.zero_le _) (by simp))
          have HRr := Lib.hid (HRi.out.alloc (.cells #[] 3))
          have U0 := Lib.hid ((ButR.refl r wo.heap.size wo).alloc (Nat.le_refl _) (.cells #[] 3))
          go_loopw [9, 10] (fun row s wi => ∃ k : Nat, k ≤ M ∧ s = .int .i64 k ∧ ∃ rv Y pk, rv = row ∧ wi.ownsRow wo.heap.size 3 1 rv k (cellsL k Y) ∧ RdrAt wi r a n c pk ∧ pk ≤ pi + 2 * k ∧ wo.heap.size ≤ wi.heap.size ∧ ButR r wo.heap.size wo wi) (fun _ s _ => M - (intOf s).toNat)
          case atStart => exact ⟨0, Nat.zero_le _, rfl, _, fun _ => 0, pi, rfl, R0.out, HRr.out, Nat.le_refl _, by simp, U0.out⟩
          case round =>
            obtain ⟨k, hkM, rfl, rv, Y, pk, rfl, hown, hRk, hpk, hsk, hUk⟩ := hrel
            clear R0 HRr U0
            by_cases hkl : k < M
            · have hP := rd_butR HPi.out hgpr hgpo hUk
              obtain ⟨bi, oi, ei, hci⟩ := hP i hil
              simp only [Option.some.injEq, Addr.mk.injEq, and_true] at ei
              obtain ⟨rfl, rfl⟩ := ei
              obtain ⟨bk, ok, ek, hck⟩ := hP k hkl
              simp only [Option.some.injEq, Addr.mk.injEq, and_true] at ek
              obtain ⟨rfl, rfl⟩ := ek
              rw [Nat.zero_add] at hci hck
              have hxi := HXM.out i hil
              have hxk := HXM.out k hkl
              have hq1 : 1 ≤ 12 * X i / X k := Int.le_ediv_of_mul_le (by omega) (by omega)
              have hq2 : 12 * X i / X k ≤ 12 * X i := Int.ediv_le_self _ (by omega)
              obtain ⟨V, hV⟩ := Int.eq_ofNat_of_zero_le (show 0 ≤ 12 * X i / X k by omega)
              have hV1 : 1 ≤ V := by omega
              have hV2 : V ≤ 144 := by omega
              have hm1 : IntKind.i64.wrap (12 * X i) = 12 * X i := IntWalk.i64_in _ (by omega)
              have hm2 : (12 * X i).tdiv (X k) = (V : Int) := by rw [Int.tdiv_eq_ediv_of_nonneg (by omega)]; exact hV
              have hm3 : IntKind.i64.wrap (V : Int) = (V : Int) := IntWalk.i64_in _ (by omega)
              have hz : (X k == 0) = false := by simp; omega
              have hz2' : ¬ X k = 0 := by omega
              have HO := Lib.hid hown
              have HRk := Lib.hid hRk
              have HUk := Lib.hid hUk
              clear hown hRk hUk hP hxi hxk hq1 hq2 hV
              go_wp2
              go_quiet (fail)
              clear hm1 hm2 hm3 hz hz2' hci hck
              obtain ⟨wz0, hwz0⟩ : ∃ wz0, wz0 = wr.drewN nq := ⟨_, rfl⟩
              have ZR0 : Hid (RdrAt wz0 r a n c pk) := Lib.hid (by rw [hwz0]; exact HRk.out.of_block rfl)
              have ZU0 : Hid (ButR r wo.heap.size wo wz0) := Lib.hid (by rw [hwz0]; exact HUk.out.trans ⟨rfl, rfl, rfl, Nat.le_refl _, fun _ _ _ => rfl⟩)
              have ZO0 : Hid (wz0.ownsRow wo.heap.size 3 1 rv k (cellsL k Y)) := Lib.hid (by rw [hwz0]; exact HO.out)
              have zs0 : wo.heap.size ≤ wz0.heap.size := by rw [hwz0]; exact hsk
              rw [← hwz0]
              clear hwz0 HO HRk HUk
              by_cases hdi : i = k
              · have hd : ((i : Int) == (k : Int)) = true := by simp; omega
                clear hdi
                have ZR := ZR0
                have ZU := ZU0
                have ZO := ZO0
                have zs := zs0
                obtain ⟨pz, hpz⟩ : ∃ pz, pz = pk := ⟨_, rfl⟩
                rw [← hpz] at ZR
                have hpzle : pz ≤ pk + 2 := by omega
                clear hpz
                go_wp2_with (at_builtin; refine wpList_append_lies _ (by rfl) (.tmp 92) (.tmp 94) 24 (by rfl) wo.heap.size 3 i0 (.int .i64 0) 1 8 Try.underlying24 hi hz0 hz1 hz2 (by rfl) (by decide) rv k (cellsL k Y) (by rfl) (ZO.out.alloc _) ⟨_, 0, none⟩ 1 1 [.int .i64 (12)] (by rfl) (by rfl) (news_one (by simp)) (by simp [Value.oneCell']) (by omega) (by unfold maxLen; omega) (by omega) (by first | omega | (simp; omega)) _ rfl ?_; intro g2 cap2 w2 hown2 hgrow2 hat2 hlt2; have N2 := Lib.hid hown2; have G2 := Lib.hid hgrow2; clear hown2 hgrow2 hat2)
                go_roundw
                case rel =>
                  exact ⟨k + 1, by omega, by go_num, _, _, pz, rfl, by have := N2.out; rwa [cellsL_snoc] at this, (ZR.out.alloc _).grown G2.out (fun e => by have := (ZO.out.lt r e).1; omega), by omega, by have := G2.out.size; simp at this; omega, (ZU.out.alloc zs _).grown G2.out (by simp; omega) (fun k hk => (ZO.out.lt k hk).1)⟩
                case measure => simp [intOf]; omega
              · have hd : ((i : Int) == (k : Int)) = false := by simp; omega
                clear hdi
                have hkc : kd = 0 ∨ kd = 1 ∨ kd = 2 ∨ kd = 3 ∨ kd = 4 := by omega
                rcases hkc with hke | hke | hke | hke | hke
                · have e0 : ((kd : Int) == 0) = true := by simp; omega
                  clear hke
                  go_wp2_with fail
                  refine (pick_any r n c pk 40 a B _ ZR0.out (HB.out.but HAB.out (HUo.out.trans (ZU0.out.mono hwo))) (fun h0 b o e => (HAB.out h0 b o e).2) hn (by omega) (by omega) (by omega)).mono ?_
                  rintro e wz1 ⟨y, rfl, hy, hR5, hK5⟩
                  have ZR1 := Lib.hid hR5
                  have ZU1 := Lib.hid (ZU0.out.trans (ButR.keeps hK5))
                  have ZO1 := Lib.hid (owns_but ZO0.out hrwo hK5)
                  have zs1 : wo.heap.size ≤ wz1.heap.size := Nat.le_trans zs0 (Nat.le_of_eq hK5.size.symm)
                  clear hR5 hK5
                  have ZR := ZR1
                  have ZU := ZU1
                  have ZO := ZO1
                  have zs := zs1
                  obtain ⟨pz, hpz⟩ : ∃ pz, pz = pk + 1 := ⟨_, rfl⟩
                  rw [← hpz] at ZR
                  have hpzle : pz ≤ pk + 2 := by omega
                  clear hpz
                  go_wp2_with (at_builtin; refine wpList_append_lies _ (by rfl) (.tmp 92) (.tmp 94) 24 (by rfl) wo.heap.size 3 i0 (.int .i64 0) 1 8 Try.underlying24 hi hz0 hz1 hz2 (by rfl) (by decide) rv k (cellsL k Y) (by rfl) (ZO.out.alloc _) ⟨_, 0, none⟩ 1 1 [.int .i64 (1 + (y : Int))] (by rfl) (by rfl) (news_one (by simp)) (by simp [Value.oneCell']) (by omega) (by unfold maxLen; omega) (by omega) (by first | omega | (simp; omega)) _ rfl ?_; intro g2 cap2 w2 hown2 hgrow2 hat2 hlt2; have N2 := Lib.hid hown2; have G2 := Lib.hid hgrow2; clear hown2 hgrow2 hat2)
                  go_roundw
                  case rel =>
                    exact ⟨k + 1, by omega, by go_num, _, _, pz, rfl, by have := N2.out; rwa [cellsL_snoc] at this, (ZR.out.alloc _).grown G2.out (fun e => by have := (ZO.out.lt r e).1; omega), by omega, by have := G2.out.size; simp at this; omega, (ZU.out.alloc zs _).grown G2.out (by simp; omega) (fun k hk => (ZO.out.lt k hk).1)⟩
                  case measure => simp [intOf]; omega
                · have e0 : ((kd : Int) == 0) = false := by simp; omega
                  have e1 : ((kd : Int) == 1) = true := by simp; omega
                  clear hke
                  go_wp2_with fail
                  refine (pick_any r n c pk 2 a B _ ZR0.out (HB.out.but HAB.out (HUo.out.trans (ZU0.out.mono hwo))) (fun h0 b o e => (HAB.out h0 b o e).2) hn (by omega) (by omega) (by omega)).mono ?_
                  rintro e wz1 ⟨y, rfl, hy, hR5, hK5⟩
                  have ZR1 := Lib.hid hR5
                  have ZU1 := Lib.hid (ZU0.out.trans (ButR.keeps hK5))
                  have ZO1 := Lib.hid (owns_but ZO0.out hrwo hK5)
                  have zs1 : wo.heap.size ≤ wz1.heap.size := Nat.le_trans zs0 (Nat.le_of_eq hK5.size.symm)
                  clear hR5 hK5
                  have ZR := ZR1
                  have ZU := ZU1
                  have ZO := ZO1
                  have zs := zs1
                  obtain ⟨pz, hpz⟩ : ∃ pz, pz = pk + 1 := ⟨_, rfl⟩
                  rw [← hpz] at ZR
                  have hpzle : pz ≤ pk + 2 := by omega
                  clear hpz
                  go_wp2_with (at_builtin; refine wpList_append_lies _ (by rfl) (.tmp 92) (.tmp 94) 24 (by rfl) wo.heap.size 3 i0 (.int .i64 0) 1 8 Try.underlying24 hi hz0 hz1 hz2 (by rfl) (by decide) rv k (cellsL k Y) (by rfl) (ZO.out.alloc _) ⟨_, 0, none⟩ 1 1 [.int .i64 (max 1 ((V : Int) - (y : Int)))] (by rfl) (by rfl) (news_one (by simp)) (by simp [Value.oneCell']) (by omega) (by unfold maxLen; omega) (by omega) (by first | omega | (simp; omega)) _ rfl ?_; intro g2 cap2 w2 hown2 hgrow2 hat2 hlt2; have N2 := Lib.hid hown2; have G2 := Lib.hid hgrow2; clear hown2 hgrow2 hat2)
                  go_roundw
                  case rel =>
                    exact ⟨k + 1, by omega, by go_num, _, _, pz, rfl, by have := N2.out; rwa [cellsL_snoc] at this, (ZR.out.alloc _).grown G2.out (fun e => by have := (ZO.out.lt r e).1; omega), by omega, by have := G2.out.size; simp at this; omega, (ZU.out.alloc zs _).grown G2.out (by simp; omega) (fun k hk => (ZO.out.lt k hk).1)⟩
                  case measure => simp [intOf]; omega
                · have e0 : ((kd : Int) == 0) = false := by simp; omega
                  have e1 : ((kd : Int) == 1) = false := by simp; omega
                  have e2 : ((kd : Int) == 2) = true := by simp; omega
                  clear hke
                  go_wp2_with fail
                  refine (pick_any r n c pk V a B _ ZR0.out (HB.out.but HAB.out (HUo.out.trans (ZU0.out.mono hwo))) (fun h0 b o e => (HAB.out h0 b o e).2) hn (by omega) (by omega) (by omega)).mono ?_
                  rintro e wz1 ⟨y, rfl, hy, hR5, hK5⟩
                  have ZR1 := Lib.hid hR5
                  have ZU1 := Lib.hid (ZU0.out.trans (ButR.keeps hK5))
                  have ZO1 := Lib.hid (owns_but ZO0.out hrwo hK5)
                  have zs1 : wo.heap.size ≤ wz1.heap.size := Nat.le_trans zs0 (Nat.le_of_eq hK5.size.symm)
                  clear hR5 hK5
                  have ZR := ZR1
                  have ZU := ZU1
                  have ZO := ZO1
                  have zs := zs1
                  obtain ⟨pz, hpz⟩ : ∃ pz, pz = pk + 1 := ⟨_, rfl⟩
                  rw [← hpz] at ZR
                  have hpzle : pz ≤ pk + 2 := by omega
                  clear hpz
                  go_wp2_with (at_builtin; refine wpList_append_lies _ (by rfl) (.tmp 92) (.tmp 94) 24 (by rfl) wo.heap.size 3 i0 (.int .i64 0) 1 8 Try.underlying24 hi hz0 hz1 hz2 (by rfl) (by decide) rv k (cellsL k Y) (by rfl) (ZO.out.alloc _) ⟨_, 0, none⟩ 1 1 [.int .i64 (max 1 ((V : Int) - (y : Int)))] (by rfl) (by rfl) (news_one (by simp)) (by simp [Value.oneCell']) (by omega) (by unfold maxLen; omega) (by omega) (by first | omega | (simp; omega)) _ rfl ?_; intro g2 cap2 w2 hown2 hgrow2 hat2 hlt2; have N2 := Lib.hid hown2; have G2 := Lib.hid hgrow2; clear hown2 hgrow2 hat2)
                  go_roundw
                  case rel =>
                    exact ⟨k + 1, by omega, by go_num, _, _, pz, rfl, by have := N2.out; rwa [cellsL_snoc] at this, (ZR.out.alloc _).grown G2.out (fun e => by have := (ZO.out.lt r e).1; omega), by omega, by have := G2.out.size; simp at this; omega, (ZU.out.alloc zs _).grown G2.out (by simp; omega) (fun k hk => (ZO.out.lt k hk).1)⟩
                  case measure => simp [intOf]; omega
                · have e0 : ((kd : Int) == 0) = false := by simp; omega
                  have e1 : ((kd : Int) == 1) = false := by simp; omega
                  have e2 : ((kd : Int) == 2) = false := by simp; omega
                  have e3 : ((kd : Int) == 3) = true := by simp; omega
                  clear hke
                  go_wp2_with fail
                  refine (pick_any r n c pk 4 a B _ ZR0.out (HB.out.but HAB.out (HUo.out.trans (ZU0.out.mono hwo))) (fun h0 b o e => (HAB.out h0 b o e).2) hn (by omega) (by omega) (by omega)).mono ?_
                  rintro e wz1 ⟨y, rfl, hy, hR5, hK5⟩
                  have ZR1 := Lib.hid hR5
                  have ZU1 := Lib.hid (ZU0.out.trans (ButR.keeps hK5))
                  have ZO1 := Lib.hid (owns_but ZO0.out hrwo hK5)
                  have zs1 : wo.heap.size ≤ wz1.heap.size := Nat.le_trans zs0 (Nat.le_of_eq hK5.size.symm)
                  clear hR5 hK5
                  by_cases hy0 : y = 0
                  · have hd2 : ((y : Int) == 0) = true := by simp; omega
                    clear hy0
                    go_wp2_with fail
                    refine (pick_any r n c (pk + 1) 2 a B _ ZR1.out (HB.out.but HAB.out (HUo.out.trans (ZU1.out.mono hwo))) (fun h0 b o e => (HAB.out h0 b o e).2) hn (by omega) (by omega) (by omega)).mono ?_
                    rintro e wz2 ⟨z, rfl, hz, hR5, hK5⟩
                    have ZR2 := Lib.hid hR5
                    have ZU2 := Lib.hid (ZU1.out.trans (ButR.keeps hK5))
                    have ZO2 := Lib.hid (owns_but ZO1.out hrwo hK5)
                    have zs2 : wo.heap.size ≤ wz2.heap.size := Nat.le_trans zs1 (Nat.le_of_eq hK5.size.symm)
                    clear hR5 hK5
                    have ZR := ZR2
                    have ZU := ZU2
                    have ZO := ZO2
                    have zs := zs2
                    obtain ⟨pz, hpz⟩ : ∃ pz, pz = pk + 1 + 1 := ⟨_, rfl⟩
                    rw [← hpz] at ZR
                    have hpzle : pz ≤ pk + 2 := by omega
                    clear hpz
                    go_wp2_with (at_builtin; refine wpList_append_lies _ (by rfl) (.tmp 92) (.tmp 94) 24 (by rfl) wo.heap.size 3 i0 (.int .i64 0) 1 8 Try.underlying24 hi hz0 hz1 hz2 (by rfl) (by decide) rv k (cellsL k Y) (by rfl) (ZO.out.alloc _) ⟨_, 0, none⟩ 1 1 [.int .i64 ((V : Int) + (z : Int))] (by rfl) (by rfl) (news_one (by simp)) (by simp [Value.oneCell']) (by omega) (by unfold maxLen; omega) (by omega) (by first | omega | (simp; omega)) _ rfl ?_; intro g2 cap2 w2 hown2 hgrow2 hat2 hlt2; have N2 := Lib.hid hown2; have G2 := Lib.hid hgrow2; clear hown2 hgrow2 hat2)
                    go_roundw
                    case rel =>
                      exact ⟨k + 1, by omega, by go_num, _, _, pz, rfl, by have := N2.out; rwa [cellsL_snoc] at this, (ZR.out.alloc _).grown G2.out (fun e => by have := (ZO.out.lt r e).1; omega), by omega, by have := G2.out.size; simp at this; omega, (ZU.out.alloc zs _).grown G2.out (by simp; omega) (fun k hk => (ZO.out.lt k hk).1)⟩
                    case measure => simp [intOf]; omega
                  · have hd2 : ((y : Int) == 0) = false := by simp; omega
                    clear hy0
                    have ZR := ZR1
                    have ZU := ZU1
                    have ZO := ZO1
                    have zs := zs1
                    obtain ⟨pz, hpz⟩ : ∃ pz, pz = pk + 1 := ⟨_, rfl⟩
                    rw [← hpz] at ZR
                    have hpzle : pz ≤ pk + 2 := by omega
                    clear hpz
                    go_wp2_with (at_builtin; refine wpList_append_lies _ (by rfl) (.tmp 92) (.tmp 94) 24 (by rfl) wo.heap.size 3 i0 (.int .i64 0) 1 8 Try.underlying24 hi hz0 hz1 hz2 (by rfl) (by decide) rv k (cellsL k Y) (by rfl) (ZO.out.alloc _) ⟨_, 0, none⟩ 1 1 [.int .i64 ((V : Int))] (by rfl) (by rfl) (news_one (by simp)) (by simp [Value.oneCell']) (by omega) (by unfold maxLen; omega) (by omega) (by first | omega | (simp; omega)) _ rfl ?_; intro g2 cap2 w2 hown2 hgrow2 hat2 hlt2; have N2 := Lib.hid hown2; have G2 := Lib.hid hgrow2; clear hown2 hgrow2 hat2)
                    go_roundw
                    case rel =>
                      exact ⟨k + 1, by omega, by go_num, _, _, pz, rfl, by have := N2.out; rwa [cellsL_snoc] at this, (ZR.out.alloc _).grown G2.out (fun e => by have := (ZO.out.lt r e).1; omega), by omega, by have := G2.out.size; simp at this; omega, (ZU.out.alloc zs _).grown G2.out (by simp; omega) (fun k hk => (ZO.out.lt k hk).1)⟩
                    case measure => simp [intOf]; omega
                · have e0 : ((kd : Int) == 0) = false := by simp; omega
                  have e1 : ((kd : Int) == 1) = false := by simp; omega
                  have e2 : ((kd : Int) == 2) = false := by simp; omega
                  have e3 : ((kd : Int) == 3) = false := by simp; omega
                  clear hke
                  have ZR := ZR0
                  have ZU := ZU0
                  have ZO := ZO0
                  have zs := zs0
                  obtain ⟨pz, hpz⟩ : ∃ pz, pz = pk := ⟨_, rfl⟩
                  rw [← hpz] at ZR
                  have hpzle : pz ≤ pk + 2 := by omega
                  clear hpz
                  go_wp2_with (at_builtin; refine wpList_append_lies _ (by rfl) (.tmp 92) (.tmp 94) 24 (by rfl) wo.heap.size 3 i0 (.int .i64 0) 1 8 Try.underlying24 hi hz0 hz1 hz2 (by rfl) (by decide) rv k (cellsL k Y) (by rfl) (ZO.out.alloc _) ⟨_, 0, none⟩ 1 1 [.int .i64 ((V : Int))] (by rfl) (by rfl) (news_one (by simp)) (by simp [Value.oneCell']) (by omega) (by unfold maxLen; omega) (by omega) (by first | omega | (simp; omega)) _ rfl ?_; intro g2 cap2 w2 hown2 hgrow2 hat2 hlt2; have N2 := Lib.hid hown2; have G2 := Lib.hid hgrow2; clear hown2 hgrow2 hat2)
                  go_roundw
                  case rel =>
                    exact ⟨k + 1, by omega, by go_num, _, _, pz, rfl, by have := N2.out; rwa [cellsL_snoc] at this, (ZR.out.alloc _).grown G2.out (fun e => by have := (ZO.out.lt r e).1; omega), by omega, by have := G2.out.size; simp at this; omega, (ZU.out.alloc zs _).grown G2.out (by simp; omega) (fun k hk => (ZO.out.lt k hk).1)⟩
                  case measure => simp [intOf]; omega
            · obtain rfl : k = M := by omega
              obtain ⟨gr, cr, rfl⟩ := owns_form hown (by omega)
              have hrow := OwnR.of_owns hown
              have hltr := hown.lt gr rfl
              have HR2 := Lib.hid hrow
              have HM2 := Lib.hid (making_butR HM.out (by omega) hUk)
              have hvlt := fun x hx => (HM.out.1.lt x hx)
              have HV := Lib.hid hvlt
              have HRk := Lib.hid hRk
              have HUk := Lib.hid hUk
              have HU2 := Lib.hid (HUo.out.trans (hUk.mono hwo))
              have HP2 := Lib.hid (rd_butR HPi.out hgpr hgpo hUk)
              clear hown hrow hRk hUk hvlt
              go_wp2_with (at_builtin; refine wpList_append_lies _ (by rfl) (.tmp 96) (.tmp 98) 23 (by rfl) w6.heap.size 24 i1 (.slice none 0 0) 1 24 Try.underlying23 hj hy0 hy1 hy2 (by rfl) (by decide) ov i ((List.range i).map fun r => .slice (some ⟨G r, 0, none⟩) k (Cp r)) (by rfl) (HM2.out.1.alloc _) ⟨_, 0, none⟩ 1 1 [.slice (some ⟨gr, 0, none⟩) k cr] (by rfl) (by rfl) (news_one (by simp)) (by simp [Value.oneCell']) (by omega) (by unfold maxLen; omega) (by omega) (by first | omega | (simp; omega)) _ rfl ?_; intro g2 cap2 w2 hown2 hgrow2 hat2 hlt2; have N2 := Lib.hid hown2; have G2' := Lib.hid hgrow2; have A2 := Lib.hid hat2; clear hown2 hgrow2 hat2)
              go_roundw
              case rel =>
                refine ⟨i + 1, by omega, by go_num, _, (fun s => if s < i then G s else gr), (fun s => if s < i then Cp s else cr), (fun s => if s < i then XX s else Y), pk, rfl, ?_, (HRk.out.alloc _).grown G2'.out (fun e => by have := (HV.out r e).1; omega), by omega, ?_, by have := G2'.out.size; simp at this; omega, (HU2.out.alloc (by omega) _).grown G2'.out (by simp; omega) (fun x hx => by have := (HV.out x hx).1; omega)⟩
                · refine Making.next (w := wr.alloc _) ((making_same HM2.out (fun s hs => by show XX s = (if s < i then XX s else Y); rw [if_pos hs])).below (below_alloc (Below.refl _ _) _)) (by show OwnR _ gr _ k (if i < i then XX i else Y); rw [if_neg (Nat.lt_irrefl _)]; exact HR2.out.of_block (Below.heap_alloc _ _ _ hltr.2)) (by omega) (by simp; omega) (fun h => by have := HV.out gr h; omega) (fun s hs e => by have := (HM.out.2.1 s hs).2.1; omega) N2.out G2'.out A2.out (Nat.le_refl _)
                · intro j hj
                  obtain ⟨b', o', he, hc⟩ := HP2.out j hj
                  refine ⟨b', o', he, ?_⟩
                  simp only [Option.some.injEq, Addr.mk.injEq, and_true] at he
                  obtain ⟨rfl, rfl⟩ := he
                  have h7 : (wr.alloc (.cells #[.slice (some ⟨gr, 0, none⟩) k cr] 24)).cell? ⟨gp, 0 + j, none⟩ = some (.int .i64 (X j)) := by
                    rw [World.cell?_of_block (w := wr) (a := ⟨gp, 0 + j, none⟩) (Below.heap_alloc _ _ _ (by show gp < wr.heap.size; omega))]; exact hc
                  exact G2'.out.cell h7 (fun e => by have := (HV.out gp e.symm).1; omega)
              case measure => simp [intOf]; omega
        · obtain rfl : i = M := by omega
          obtain ⟨go, co, rfl⟩ := owns_form HM.out.1 (by omega)
          have hcapo := (owns_cap HM.out.1).1
          go_wp2_with fail
          refine (pick_any r n c pi 50 a B _ HRi.out (HB.out.but HAB.out HUo.out) (fun h0 b o e => (HAB.out h0 b o e).2) hn (by omega) (by omega) (by omega)).mono ?_
          rintro e w7 ⟨u, rfl, hu, hR7, hK7⟩
          have M7 := Lib.hid (making_but HM.out (by omega) hK7)
          have HR7 := Lib.hid hR7
          have U7 := Lib.hid (HUo.out.trans (ButR.keeps hK7))
          have T7 := Lib.hid M7.out.ownT.tab
          have hgo := M7.out.1.lt go rfl
          have hgo1 := hgo.1
          have AG7 := Lib.hid (show w.heap.size ≤ go by omega)
          have AP7 := Lib.hid (show ∀ s, s < i → w.heap.size ≤ G s from fun s hs => by have := (M7.out.2.1 s hs).1; omega)
          clear hR7 hK7 hgo
          by_cases hu0 : u = 0
          · subst hu0
            have hd : (((0 : Nat) : Int) == 0) = true := by decide
            have hct := M7.out.1.cells (g := go) rfl 0 (.slice (some ⟨G 0, 0, none⟩) i (Cp 0)) (by simp [show 0 < i by omega])
            rw [Go.WideShapes.add_plain, Nat.zero_add] at hct
            obtain ⟨hG1, hG2, hG3, hG4⟩ := M7.out.2.1 0 (by omega)
            have hne : go ≠ G 0 := fun e => hG3 (by rw [← e]; rfl)
            have hrG : r ≠ G 0 := by omega
            obtain ⟨hc1, hf1⟩ : w7.cell? ⟨G 0, 1, none⟩ = some (.int .i64 (XX 0 1)) ∧ w7.frozen? ⟨G 0, 1, none⟩ = false := by
              rcases hG4 with h0 | ⟨o, ha, hc⟩
              · have h0' : i = 0 := h0
                omega
              · simp only [Option.some.injEq, Addr.mk.injEq, true_and, and_true] at ha
                subst ha
                exact hc 1 (show 1 < i by omega)
            have HC1 := Lib.hid hc1
            clear hG3 hG4
            go_wp2
            go_ret
            refine ⟨some ⟨go, 0, none⟩, i, co, fun s => some ⟨G s, 0, none⟩, fun _ => i, Cp, (fun s k => if s = 0 ∧ k = 1 then 0 else XX s k), pi + 1, rfl, ⟨by omega, by omega⟩, ⟨fun s hs => by show i ≤ 5; omega, fun b o e => by cases e; exact AG7.out, fun s hs b o e => by cases e; exact AP7.out s hs⟩, ?_, HR7.out.of_block (Below.heap_setCell _ _ _ _ hrG), by omega, U7.out.setCell (p := ⟨G 0, 1, none⟩) (by show w.heap.size ≤ G 0; omega) _⟩
            intro s hs
            obtain ⟨b', o', e', hc', hr'⟩ := T7.out s hs
            cases e'
            refine ⟨go, 0, rfl, ?_, fun k hk => ?_⟩
            · rw [World.cell?_of_block (w := w7) (a := ⟨go, 0 + s, none⟩) (Below.heap_setCell _ _ _ _ hne)]; exact hc'
            · obtain ⟨b2, o2, e2, hc2⟩ := hr' k hk
              refine ⟨b2, o2, e2, ?_⟩
              cases e2
              rw [Nat.zero_add] at hc2 ⊢
              show _ = some (Value.int .i64 (if s = 0 ∧ k = 1 then 0 else XX s k))
              by_cases hs0 : s = 0 ∧ k = 1
              · obtain ⟨rfl, rfl⟩ := hs0
                rw [if_pos ⟨rfl, rfl⟩]
                exact World.cell?_setCell_same _ _ _ HC1.out
              · rw [if_neg hs0, World.cell?_setCell_other _ _ _ _ (fun e' => hs0 ?_)]
                · exact hc2
                · injection e' with e1 e2'
                  refine ⟨?_, e2'.symm⟩
                  rcases Nat.eq_zero_or_pos s with h' | h'
                  · exact h'
                  · exact absurd e1 (M7.out.2.2 0 s (by omega) hs (by omega))
          · have hd0 : ((u : Int) == 0) = false := by simp; omega
            by_cases hu1 : u = 1
            · subst hu1
              have hd1 : (((1 : Nat) : Int) == 1) = true := by decide
              go_wp2
              go_ret
              refine ⟨some ⟨go, 1, none⟩, i - 1, co - 1, fun s => some ⟨G (s + 1), 0, none⟩, fun _ => i, fun s => Cp (s + 1), fun s => XX (s + 1), pi + 1, rfl, ⟨by omega, by omega⟩, ⟨fun s hs => by show i ≤ 5; omega, fun b o e => by cases e; exact AG7.out, fun s hs b o e => by cases e; exact AP7.out (s + 1) (by omega)⟩, ?_, HR7.out, by omega, U7.out⟩
              intro s hs
              obtain ⟨b', o', e', hc', hr'⟩ := T7.out (s + 1) (by omega)
              cases e'
              exact ⟨go, 1, rfl, by rw [Nat.add_comm 1 s]; rw [Nat.zero_add] at hc'; exact hc', hr'⟩
            · have hd1 : ((u : Int) == 1) = false := by simp; omega
              go_wp2
              go_ret
              exact ⟨some ⟨go, 0, none⟩, i, co, fun s => some ⟨G s, 0, none⟩, fun _ => i, Cp, XX, pi + 1, rfl, ⟨by omega, by omega⟩, ⟨fun s hs => by show i ≤ 5; omega, fun b o e => by cases e; exact AG7.out, fun s hs b o e => by cases e; exact AP7.out s hs⟩, T7.out, HR7.out, by omega, U7.out⟩
end

section
open Go.RowKit
/-- What they hand back: a table of one to five rows, of five numbers at most. -/
def DrewTabTop (w : World) (e : Ending) (w' : World) : Prop :=
  ∃ ga N gc A L C Z, e = .returned (.slice ga N gc) ∧ (1 ≤ N ∧ N ≤ 5) ∧ (∀ s, s < N → L s ≤ 5) ∧ Tab w' ga N A L C Z ∧ Below w.heap.size w w'

set_option maxHeartbeats 1600000 in
theorem l91One_any (n c : Nat) (a : Option Addr) (B : Nat → Nat) (w : World) (hn : n ≤ 1048576) (hc : n ≤ c) (hb : RdB w a n B) (hab : 0 < n → ∀ b o, a = some ⟨b, o, none⟩ → b < w.heap.size) :
    Calls Try.prog 71 #[.slice a n c] w (DrewTabTop w) := by
  have HB := Lib.hid hb
  have HAL := Lib.hid hab
  clear hb hab
  go_enter Try.func71, Try.ntmps71
  go_wp2_with fail
  refine (l6Open_any n c a _ hn hc).mono ?_
  rintro e w1 ⟨n', c', rfl, hn2, hnn, hR1, hs1, hb1⟩
  have HB1 := Lib.hid ((HB.out.below (Nat.le_refl _) hb1).sub hnn)
  have HR1 := Lib.hid hR1
  have Hb1 := Lib.hid hb1
  have hlt1 : w.heap.size < w1.heap.size := by omega
  have HAL1 := Lib.hid (show 0 < n' → ∀ b o, a = some ⟨b, o, none⟩ → b < w1.heap.size ∧ b ≠ w.heap.size from fun h0 b o e => by have := HAL.out (by omega) b o e; exact ⟨by omega, by omega⟩)
  clear hR1 hb1 hs1
  go_wp2_with fail
  refine (l91Table_any w.heap.size n' c' 0 a B _ HR1.out HB1.out HAL1.out hn2 (by omega)).mono ?_
  rintro e w2 ⟨ga, N, gc, A, L, C, Z, p2, rfl, hN, ⟨hL, -⟩, hT, hR2, hp2, hU2⟩
  have HN := Lib.hid hN
  have HL := Lib.hid hL
  have HT := Lib.hid hT
  have HU := Lib.hid (Hb1.out.trans (hU2.toBelow (Nat.le_of_lt hlt1)))
  clear hN hL hT hR2 hU2
  go_wp2
  go_ret
  exact ⟨ga, N, gc, A, L, C, Z, rfl, HN.out, HL.out, HT.out, HU.out⟩
end

section
open Go.RowKit
/-- What it hands back: a table of one to five rows, of five numbers at most, and a row of as many prices. -/
def DrewBoth (w : World) (e : Ending) (w' : World) : Prop :=
  ∃ ga N gc A L C Z b d W, e = .returned (.tuple #[.slice ga N gc, .slice b N d]) ∧ (1 ≤ N ∧ N ≤ 5 ∧ N ≤ d) ∧ (∀ s, s < N → L s ≤ 5) ∧ Tab w' ga N A L C Z ∧ Rd w' b N W ∧ Below w.heap.size w w'

theorem tab_but {r lo : Nat} {w w' : World} {a : Option Addr} {n : Nat} {A : Nat → Option Addr} {L C : Nat → Nat} {X : Nat → Nat → Int} (h : Tab w a n A L C X) (hA : Apart lo n a A) (hr : r < lo) (hk : ButR r w.heap.size w w') : Tab w' a n A L C X := by
  intro s hs
  obtain ⟨b, o, he, hc, hd⟩ := h s hs
  have h1 := hA.1 b o he
  have hl : b < w.heap.size := World.block_lt_of_cell? _ _ hc
  refine ⟨b, o, he, (World.cell?_of_block (w := w) (a := ⟨b, o + s, none⟩) (hk.block b hl (by omega))).trans hc, fun k hk' => ?_⟩
  obtain ⟨b2, o2, he2, hc2⟩ := hd k hk'
  have h2 := hA.2 s hs b2 o2 he2
  have hl2 : b2 < w.heap.size := World.block_lt_of_cell? _ _ hc2
  exact ⟨b2, o2, he2, (World.cell?_of_block (w := w) (a := ⟨b2, o2 + k, none⟩) (hk.block b2 hl2 (by omega))).trans hc2⟩
end

end Go.Proofs.Ytmjbocgoinfamaa
