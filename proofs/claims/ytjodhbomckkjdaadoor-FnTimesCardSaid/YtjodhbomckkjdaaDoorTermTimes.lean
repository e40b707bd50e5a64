/- TermTimes, of the model and of the program. -/
import Derived.Test.YtjodhbomckkjdaaDoorSpecTidy
namespace Go.Proofs.YtjodhbomckkjdaaDoor
set_option linter.unusedVariables false
set_option linter.unusedSimpArgs false
open Go.RowKit

/-- How often a text leads back first. -/
noncomputable def timesN (n : Int) (s : ByteArray) : Nat := match termN n s with
  | none => 0
  | some t => ordG n.toNat (giv n.toNat t)
theorem times_none {n : Int} {s : ByteArray} (h : termN n s = none) : timesN n s = 0 := by unfold timesN; rw [h]
theorem times_some {n : Int} {s : ByteArray} {t : Tm} (h : termN n s = some t) : timesN n s = ordG n.toNat (giv n.toNat t) := by unfold timesN; rw [h]
theorem Rd.of_fun {w : World} {a : Option Addr} {n : Nat} {X Y : Nat → Int} (h : Rd w a n X) (e : ∀ i, i < n → X i = Y i) : Rd w a n Y := fun k hk => by rw [← e k hk]; exact h k hk
set_option maxRecDepth 100000 in
set_option maxHeartbeats 1600000 in
theorem specTermTimes_any (n : Int) (s : ByteArray) (w : World) (hx0 : I64 n) : Calls Tryd.prog 17 #[.int .i64 n, .string s] w fun e w' => e = .returned (.tuple #[.int .i64 (timesN n s : Nat), .bool (termB n s)]) ∧ Below w.heap.size w w' := by
  have H := Lib.hid (specTermGives_any n s w hx0)
  clear hx0
  cases ho : termN n s with
  | none =>
    have E := Lib.hid (term_none ho)
    have E2 := Lib.hid (times_none ho)
    rw [E.out.1, E.out.2] at H
    clear ho
    go_enter Tryd.func17, Tryd.ntmps17
    go_wp2_with (go_at_call 26; refine H.out.mono ?_; rintro e w1 ⟨a, c, rfl, ho, hb⟩; have X := Lib.hid hb; clear ho hb)
    go_ret2
    rw [E2.out, E.out.1]
    exact ⟨rfl, X.out⟩
  | some t =>
    have E := Lib.hid (term_some ho)
    have E2 := Lib.hid (times_some ho)
    obtain ⟨N, rfl, hN, hP⟩ := term_perm ho
    have HP := Lib.hid (And.intro hN hP)
    have HO := Lib.hid (ordG_facts hN.1 hN.2 hP)
    rw [E.out.1, E.out.2.1, E.out.2.2, Int.toNat_natCast] at H
    rw [Int.toNat_natCast] at E2
    obtain ⟨G, hG⟩ : ∃ G, G = giv N t := ⟨_, rfl⟩
    rw [← hG] at H HP HO E2
    obtain ⟨R, hR⟩ : ∃ R, R = ordG N G := ⟨_, rfl⟩
    rw [← hR] at HO E2
    clear ho hP hN hG hR
    go_enter Tryd.func17, Tryd.ntmps17
    go_wp2_with (go_at_call 26; refine H.out.mono ?_; rintro e w1 ⟨a, c, rfl, ho, hb⟩; have X := Lib.hid (And.intro ho.rd hb); clear ho hb)
    have H1 := Lib.hid (show Rd w1 a N (powF G 1) from X.out.1.of_fun (fun i _ => by show G i = G (idF i).toNat; rfl))
    go_loopw [8, 9] (fun i row wr => ∃ (k : Nat) (ah : Option Addr) (ch : Nat), 1 ≤ k ∧ k ≤ R ∧ i = .int .i64 (k : Nat) ∧ row = .slice ah N ch ∧ Rd wr ah N (powF G k) ∧ Below w1.heap.size w1 wr) (fun i _ _ => R - (intOf i).toNat)
    case atStart => exact ⟨1, a, c, Nat.le_refl _, HO.out.1.1, rfl, rfl, H1.out, Below.refl _ _⟩
    case round =>
      obtain ⟨k, ah, ch, hk1, hkR, rfl, rfl, hrd, hbw⟩ := hrel
      rename World => wr
      have Z := Lib.hid (And.intro hrd hbw)
      have HK := Lib.hid (And.intro hk1 hkR)
      have hpk := perm_pow HP.out.2 k
      have HPK := Lib.hid hpk
      clear hrd hbw H1
      have hti := text_i HP.out.1.1 HP.out.1.2 hpk
      have HT := Lib.hid (l10Text_any N ch ah (powF G k) wr HP.out.1.1 HP.out.1.2 hpk Z.out.1)
      obtain ⟨T, hT⟩ : ∃ T, T = strN (textN (cycS N (givD N (powF G k)))) := ⟨_, rfl⟩
      have hlt := cyc_lt HP.out.1.1 HP.out.1.2 hpk
      have hcmp : (T.toList == [105]) = decide (movedN (powF G k) N = 0) := by
        have e1 : T.toList = [105] ↔ textN (cycS N (givD N (powF G k))) = [105] := by
          rw [← strN_inj hlt (by intro x hx; simp at hx; omega), ← hT, ByteArray.toList_eq]
          constructor
          · intro h; exact ByteArray.ext (Array.toList_inj.1 h)
          · intro h; rw [h]; rfl
        rw [Bool.eq_iff_iff, beq_iff_eq, decide_eq_true_iff, e1, hti]
      rw [← hT] at HT
      have HC := Lib.hid hcmp
      clear hT hlt hcmp hti hpk
      by_cases hlt : k < R
      · have d1 : (T.toList == [105]) = false := by rw [HC.out]; exact decide_eq_false (HO.out.2.2 k hk1 hlt)
        have hR6 : R ≤ 6 := HO.out.1.2
        have HL := Lib.hid hlt
        clear hlt
        go_wp2_with (first | (go_at_call 27; refine HT.out.mono ?_; rintro e w2 ⟨rfl, hb⟩; have Y := Lib.hid hb; clear hb) | (go_at_call 36; refine (l10Then_any N ch c ah a (powF G k) G w2 (by have := HP.out.1; omega) HP.out.1.2 HPK.out.1 (Z.out.1.below (Nat.le_refl _) Y.out) ((X.out.1.below (Nat.le_refl _) Z.out.2).below (Nat.le_refl _) Y.out)).mono ?_; rintro e w3 hl; obtain ⟨g3, cap3, rfl, hg3, ho3, hb3⟩ := RetI.of_list hl; have V := Lib.hid (And.intro ho3.rd (below_chain Y.out hb3)); clear hl hg3 ho3 hb3))
        go_roundw
        case rel => exact ⟨k + 1, _, cap3, by omega, by have := HL.out; omega, by go_num, rfl, V.out.1, Z.out.2.trans (V.out.2.mono Z.out.2.size)⟩
        case measure => have := HL.out; simp [intOf]; omega
      · obtain rfl : k = R := by omega
        have d1 : (T.toList == [105]) = true := by rw [HC.out]; exact decide_eq_true HO.out.2.1
        go_wp2_with (go_at_call 27; refine HT.out.mono ?_; rintro e w2 ⟨rfl, hb⟩; have Y := Lib.hid hb; clear hb)
        go_ret2
        rw [E2.out, E.out.1]
        exact ⟨rfl, below_chain X.out.2 (below_chain Z.out.2 Y.out)⟩
set_option maxRecDepth 100000 in
set_option maxHeartbeats 1600000 in
theorem termTimes_any (n : Int) (s : ByteArray) (w : World) (hE : ErrAt w) (hx0 : I64 n) : Calls Tryd.prog 16 #[.int .i64 n, .string s] w fun e w' => e = .returned (.tuple #[.int .i64 (timesN n s : Nat), .bool (termB n s)]) ∧ Below w.heap.size w w' := by
  have H := Lib.hid (readTrade_any n s w hE hx0)
  clear hx0 hE
  cases ho : termN n s with
  | none =>
    have E := Lib.hid (term_none ho)
    have E2 := Lib.hid (times_none ho)
    rw [E.out.1, E.out.2] at H
    clear ho
    go_enter Tryd.func16, Tryd.ntmps16
    go_wp2_with (go_at_call 24; refine H.out.mono ?_; rintro e w1 ⟨a, c, rfl, ho, hb⟩; have X := Lib.hid hb; clear ho hb)
    go_ret2
    rw [E2.out, E.out.1]
    exact ⟨rfl, X.out⟩
  | some t =>
    have E := Lib.hid (term_some ho)
    have E2 := Lib.hid (times_some ho)
    obtain ⟨N, rfl, hN, hP⟩ := term_perm ho
    have HP := Lib.hid (And.intro hN hP)
    have HO := Lib.hid (ordG_facts hN.1 hN.2 hP)
    rw [E.out.1, E.out.2.1, E.out.2.2, Int.toNat_natCast] at H
    rw [Int.toNat_natCast] at E2
    obtain ⟨G, hG⟩ : ∃ G, G = giv N t := ⟨_, rfl⟩
    rw [← hG] at H HP HO E2
    obtain ⟨R, hR⟩ : ∃ R, R = ordG N G := ⟨_, rfl⟩
    rw [← hR] at HO E2
    clear ho hP hN hG hR
    go_enter Tryd.func16, Tryd.ntmps16
    go_wp2_with (go_at_call 24; refine H.out.mono ?_; rintro e w1 ⟨a, c, rfl, ho, hb⟩; have X := Lib.hid (And.intro ho.rd hb); clear ho hb)
    have H1 := Lib.hid (show Rd w1 a N (powF G 1) from X.out.1.of_fun (fun i _ => by show G i = G (idF i).toNat; rfl))
    go_loopw [8, 9] (fun i row wr => ∃ (k : Nat) (ah : Option Addr) (ch : Nat), 1 ≤ k ∧ k ≤ R ∧ i = .int .i64 (k : Nat) ∧ row = .slice ah N ch ∧ Rd wr ah N (powF G k) ∧ Below w1.heap.size w1 wr) (fun i _ _ => R - (intOf i).toNat)
    case atStart => exact ⟨1, a, c, Nat.le_refl _, HO.out.1.1, rfl, rfl, H1.out, Below.refl _ _⟩
    case round =>
      obtain ⟨k, ah, ch, hk1, hkR, rfl, rfl, hrd, hbw⟩ := hrel
      rename World => wr
      have Z := Lib.hid (And.intro hrd hbw)
      have HK := Lib.hid (And.intro hk1 hkR)
      have hpk := perm_pow HP.out.2 k
      have HPK := Lib.hid hpk
      clear hrd hbw H1
      have HT := Lib.hid (takers_any N ch ah (powF G k) wr (by have := HP.out.1.2; omega) Z.out.1)
      obtain ⟨M, hM⟩ : ∃ M, M = movedN (powF G k) N := ⟨_, rfl⟩
      rw [← hM] at HT
      clear hpk
      by_cases hlt : k < R
      · have hM0 : M ≠ 0 := by rw [hM]; exact HO.out.2.2 k hk1 hlt
        have d1 : decide ((0 : Int) < (M : Int)) = true := decide_eq_true (by omega)
        have d1n : decide (0 < M) = true := decide_eq_true (by omega)
        clear hM0 hM
        have hR6 : R ≤ 6 := HO.out.1.2
        have HL := Lib.hid hlt
        clear hlt
        go_wp2_with (first | (go_at_call 34; refine HT.out.mono ?_; rintro e w2 ⟨rfl, rfl⟩) | (go_at_call 35; refine (behind_any N ch c ah a (powF G k) G wr (by have := HP.out.1; omega) (by have := HP.out.1; omega) HPK.out.1 Z.out.1 (X.out.1.below (Nat.le_refl _) Z.out.2)).mono ?_; rintro e w3 ⟨g3, cap3, rfl, hg3, ho3, hb3⟩; have V := Lib.hid (And.intro ho3.rd hb3); clear hg3 ho3 hb3))
        go_roundw
        case rel => exact ⟨k + 1, _, cap3, by omega, by have := HL.out; omega, by go_num, rfl, V.out.1, Z.out.2.trans (V.out.2.mono Z.out.2.size)⟩
        case measure => have := HL.out; simp [intOf]; omega
      · obtain rfl : k = R := by omega
        have hM0 : M = 0 := by rw [hM]; exact HO.out.2.1
        have d1 : decide ((0 : Int) < (M : Int)) = false := decide_eq_false (by omega)
        have d1n : decide (0 < M) = false := decide_eq_false (by omega)
        clear hM0 hM
        go_wp2_with (go_at_call 34; refine HT.out.mono ?_; rintro e w2 ⟨rfl, rfl⟩)
        go_ret2
        rw [E2.out, E.out.1]
        exact ⟨rfl, below_chain X.out.2 Z.out.2⟩
end Go.Proofs.YtjodhbomckkjdaaDoor
