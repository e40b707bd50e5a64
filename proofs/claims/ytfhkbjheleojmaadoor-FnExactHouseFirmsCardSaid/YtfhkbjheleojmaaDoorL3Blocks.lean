/- The model's l3Blocks and l3Firm. -/
import Derived.Test.YtfhkbjheleojmaaDoorL3Better
import Derived.Test.YtfhkbjheleojmaaDoorL3Givings
namespace Go.Proofs.YtfhkbjheleojmaaDoor
set_option linter.unusedVariables false
set_option linter.unusedSimpArgs false
open Go.RowKit

/-- This giving shows that the set blocks. -/
def Shows (n : Nat) (Z : Nat → Nat → Int) (G : Nat → Int) (S : Nat) (D : List Int) : Prop := OwnP n S (nth D) ∧ BetterP n Z S G (nth D)
set_option maxHeartbeats 1600000 in
theorem l3Blocks_any (n c : Nat) (a : Option Addr) (A : Nat → Option Addr) (L C : Nat → Nat) (Z : Nat → Nat → Int) (d : Nat) (g : Option Addr) (G : Nat → Int) (S : Nat) (w : World) (hg : GivenOk n L Z n G) (hS : S < 2 ^ n) (ha0 : Tab w a n A L C Z) (hb : Rd w g n G) :
    Calls Tryd.prog 35 #[.slice a n c, .slice g n d, .int .i64 (S : Nat)] w fun e w' => e = .returned (.bool (tt (BlocksP n Z G S))) ∧ Below w.heap.size w w' := by
  have hn2 := hg.1.1.1
  have hn5 := hg.1.1.2
  have HI := Lib.hid (blocks_iff hg hS)
  obtain ⟨LL, hLL⟩ : ∃ LL, LL = givs n n [] := ⟨_, rfl⟩
  have QL := Lib.hid hLL
  have hM := Nat.le_trans (givs_le (n := n) hn5 n []) (Nat.pow_le_pow_right (show 0 < 6 by omega) hn5)
  rw [← hLL] at hM
  obtain ⟨M, hM2⟩ : ∃ M, M = LL.length := ⟨_, rfl⟩
  rw [← hM2] at hM
  have QM := Lib.hid hM2
  have AT := Lib.hid (show ∀ x, x < M → LL.getD x [] ∈ givs n n [] ∧ lenL LL x = n ∧ IsDiff n n (nth (LL.getD x [])) from fun x hx => by
    rw [hM2] at hx
    have hm : LL.getD x [] ∈ LL := by
      rw [List.getD_eq_getElem?_getD, List.getElem?_eq_getElem hx]
      exact List.getElem_mem hx
    rw [hLL] at hm ⊢
    have h3 := (mem_givs n [] (Diff.nil n) (by simp) _).1 hm
    refine ⟨hm, h3.2.1, ?_⟩
    have h4 := h3.1
    unfold Diff at h4
    rwa [h3.2.1] at h4)
  have HA := Lib.hid ha0
  have HG := Lib.hid hg
  have HBB := Lib.hid hb
  have HS := Lib.hid hS
  clear hg ha0 hb hS hLL hM2
  go_enter Tryd.func35, Tryd.ntmps35
  go_wp2_with (go_at_call 42; refine (l3GivingsAll_any n hn2 hn5 _ 0 _ (by simp)).mono ?_; rintro e w1 ⟨v, G', Cp, rfl, hMk, hb⟩; rw [← QL.out, ← QM.out] at hMk; obtain ⟨a1, c1, rfl, hO⟩ := hMk.slice; have HO := Lib.hid hO.tab; have HB := Lib.hid ((below_alloc (Below.refl w.heap.size w) _).trans (hb.mono (by simp))); clear hb hO hMk)
  go_loopw [8] (fun i wr => ∃ x : Nat, x ≤ M ∧ i = .int .i64 x ∧ Below w1.heap.size w1 wr ∧ ∀ j, j < x → ¬ Shows n Z G S (LL.getD j [])) (fun i _ => M - (intOf i).toNat)
  case atStart => exact ⟨0, Nat.zero_le _, rfl, Below.refl _ _, fun j hj => by omega⟩
  case round =>
    obtain ⟨x, hx, rfl, hB, hno⟩ := hrel
    have BR := Lib.hid hB
    have NO := Lib.hid hno
    clear hB hno
    by_cases hlt : x < M
    · obtain ⟨hmem, hlen, hdd⟩ := AT.out x hlt
      obtain ⟨bt, ot, rfl, hct, hrow⟩ := (HO.out.below (Nat.le_refl _) BR.out) x hlt
      rw [hlen] at hct hrow
      have hrow2 : Rd wr _ n (nth (LL.getD x [])) := hrow
      have hBW := HB.out.trans (BR.out.mono HB.out.size)
      have BW := Lib.hid hBW
      have HC1 := Lib.hid (fun e => l3Own_any n e S _ (nth (LL.getD x [])) wr hn5 hdd HS.out hrow2)
      have HC2 := Lib.hid (fun e => l3Better_any (X := nth (LL.getD x [])) c a A L C d e _ g wr HG.out hdd HS.out (HA.out.below (Nat.le_refl _) hBW) (HBB.out.below (Nat.le_refl _) hBW) hrow2)
      have i1 : (0 : Int) ≤ (x : Int) := by omega
      have i2 : (x : Int) < (M : Int) := by omega
      have MEM := Lib.hid hmem
      clear hmem hlen hrow hrow2 hBW hdd
      by_cases ho : OwnP n S (nth (LL.getD x []))
      · have T1 := Lib.hid (tt_of ho)
        by_cases hb : BetterP n Z S G (nth (LL.getD x []))
        · have T2 := Lib.hid (tt_of hb)
          have HF := Lib.hid (tt_of (HI.out.2 ⟨_, MEM.out, ho, hb⟩))
          clear ho hb
          go_wp2_with (first
            | (go_at_call 57; refine (HC1.out _).mono ?_; rintro e w2 ⟨rfl, rfl⟩; rw [T1.out])
            | (go_at_call 58; refine (HC2.out _).mono ?_; rintro e w2 ⟨rfl, hb2⟩; rw [T2.out]; have B2 := Lib.hid (BW.out.trans (hb2.mono BW.out.size)); clear hb2 hct))
          go_ret
          exact ⟨by rw [HF.out]; rfl, B2.out⟩
        · have T2 := Lib.hid (tt_no hb)
          have HN := Lib.hid (show ¬ Shows n Z G S (LL.getD x []) from fun h => hb h.2)
          clear ho hb
          go_wp2_with (first
            | (go_at_call 57; refine (HC1.out _).mono ?_; rintro e w2 ⟨rfl, rfl⟩; rw [T1.out])
            | (go_at_call 58; refine (HC2.out _).mono ?_; rintro e w2 ⟨rfl, hb2⟩; rw [T2.out]; have B2 := Lib.hid (BR.out.trans (hb2.mono BR.out.size)); clear hb2 hct))
          go_roundw
          case rel => exact ⟨x + 1, by omega, by go_num, B2.out, fun j hj => by
            by_cases e : j = x
            · rw [e]; exact HN.out
            · exact NO.out j (by omega)⟩
          case measure => simp [intOf]; omega
      · have T1 := Lib.hid (tt_no ho)
        have HN := Lib.hid (show ¬ Shows n Z G S (LL.getD x []) from fun h => ho h.1)
        clear ho
        go_wp2_with (first
          | (go_at_call 57; refine (HC1.out _).mono ?_; rintro e w2 ⟨rfl, rfl⟩; rw [T1.out]))
        go_roundw
        case rel => exact ⟨x + 1, by omega, by go_num, BR.out, fun j hj => by
          by_cases e : j = x
          · rw [e]; exact HN.out
          · exact NO.out j (by omega)⟩
        case measure => simp [intOf]; omega
    · obtain rfl : x = M := by omega
      have HF := Lib.hid (tt_no (show ¬ BlocksP n Z G S from fun h => by
        obtain ⟨D, hD, h1, h2⟩ := HI.out.1 h
        rw [← QL.out] at hD
        obtain ⟨j, hj, e⟩ := List.getElem_of_mem hD
        refine NO.out j (by rw [QM.out]; exact hj) ?_
        rw [List.getD_eq_getElem?_getD, List.getElem?_eq_getElem hj]
        rw [show (some LL[j]).getD [] = D from e]
        exact ⟨h1, h2⟩))
      go_wp2
      go_ret
      exact ⟨by rw [HF.out]; rfl, HB.out.trans (BR.out.mono HB.out.size)⟩

set_option maxHeartbeats 800000 in
theorem l3Firm_any (n c : Nat) (a : Option Addr) (A : Nat → Option Addr) (L C : Nat → Nat) (Z : Nat → Nat → Int) (d : Nat) (g : Option Addr) (G : Nat → Int) (w : World) (hg : GivenOk n L Z n G) (ha : Tab w a n A L C Z) (hb : Rd w g n G) :
    Calls Tryd.prog 39 #[.slice a n c, .slice g n d] w fun e w' => e = .returned (.bool (tt (FirmP n Z G))) ∧ Below w.heap.size w w' := by
  have hn5 := hg.1.1.2
  have h2 : (2 : Nat) ^ n ≤ 32 := Nat.pow_le_pow_right (show 0 < 2 by omega) hn5
  have h1 : 1 ≤ (2 : Nat) ^ n := Nat.pow_pos (by omega)
  have HB := Lib.hid (fun (S : Nat) (hS : S < 2 ^ n) w1 (h : Below w.heap.size w w1) => l3Blocks_any n c a A L C Z d g G S w1 hg hS (ha.below (Nat.le_refl _) h) (hb.below (Nat.le_refl _) h))
  have hwp := wrap_pow (show n < 62 by omega)
  obtain ⟨E, hE⟩ : ∃ E, E = 2 ^ n := ⟨_, rfl⟩
  have QE := Lib.hid hE
  rw [← hE] at h1 h2 hwp
  clear hg ha hb hE
  go_enter Tryd.func39, Tryd.ntmps39
  go_wp2
  go_loopw [5] (fun s wr => ∃ k : Nat, 1 ≤ k ∧ k ≤ E ∧ s = .int .i64 k ∧ Below w.heap.size w wr ∧ ∀ S, 1 ≤ S → S < k → ¬ BlocksP n Z G S) (fun s _ => E - (intOf s).toNat)
  case atStart => exact ⟨1, Nat.le_refl _, h1, rfl, Below.refl _ _, fun S h1 h2 => by omega⟩
  case round =>
    obtain ⟨k, hk1, hk2, rfl, hB, hno⟩ := hrel
    have BR := Lib.hid hB
    have NO := Lib.hid hno
    clear hB hno
    by_cases hlt : k < E
    · have HC := Lib.hid (HB.out k (by rw [← QE.out]; exact hlt) _ BR.out)
      by_cases hbk : BlocksP n Z G k
      · have T1 := Lib.hid (tt_of hbk)
        have HF := Lib.hid (tt_no (show ¬ FirmP n Z G from fun h => h k hk1 (by rw [← QE.out]; exact hlt) hbk))
        clear hbk
        go_wp2_with (go_at_call 35; refine HC.out.mono ?_; rintro e w1 ⟨rfl, hb1⟩; rw [T1.out]; have B1 := Lib.hid (BR.out.trans (hb1.mono BR.out.size)); clear hb1)
        go_ret
        exact ⟨by rw [HF.out]; rfl, B1.out⟩
      · have T1 := Lib.hid (tt_no hbk)
        have HN := Lib.hid hbk
        clear hbk
        go_wp2_with (go_at_call 35; refine HC.out.mono ?_; rintro e w1 ⟨rfl, hb1⟩; rw [T1.out]; have B1 := Lib.hid (BR.out.trans (hb1.mono BR.out.size)); clear hb1)
        go_roundw
        case rel => exact ⟨k + 1, by omega, by omega, by go_num, B1.out, fun S h1 h2 => by
          by_cases e : S = k
          · rw [e]; exact HN.out
          · exact NO.out S h1 (by omega)⟩
        case measure => simp [intOf]; omega
    · obtain rfl : k = E := by omega
      have HF := Lib.hid (tt_of (show FirmP n Z G from fun S h1 h2 => NO.out S h1 (by rw [QE.out]; exact h2)))
      go_wp2
      go_ret
      exact ⟨by rw [HF.out]; rfl, BR.out⟩
end Go.Proofs.YtfhkbjheleojmaaDoor
