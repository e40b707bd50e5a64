/- The program's FairCount. -/
import Derived.Test.YtaipodnhnekpjaaFairAns
import Derived.Test.YtaipodnhnekpjaaGoOnP
import Derived.Test.YtaipodnhnekpjaaItemSome
namespace Go.Proofs.Ytaipodnhnekpjaa
set_option linter.unusedVariables false
set_option linter.unusedSimpArgs false
open Go.RowKit

def cellI (w : World) (g k : Nat) : Int := match w.cell? ⟨g, k, none⟩ with | some v => intOf v | none => 0
def leftM (m : Nat) (more : Value) (w : World) (g : Nat) : Nat := match more with | .bool true => 21 ^ m - numP m (cellI w g) | _ => 0
theorem num_dig {m t : Nat} (h1 : 1 ≤ m) (h2 : m ≤ 2) (ht : t < 21 ^ m) {V : Nat → Int} (hV : ∀ j, j < m → V j = dig m t j) : numP m V = t := by
  have h0 := hV 0 (by omega)
  unfold numP
  by_cases e : m = 1
  · subst e
    rw [if_pos rfl, h0]
    unfold dig
    simp at ht ⊢
    omega
  · obtain rfl : m = 2 := by omega
    have h3 := hV 1 (by omega)
    rw [if_neg e, h0, h3]
    unfold dig
    simp at ht ⊢
    omega
theorem left_is {m t g : Nat} {w : World} {V : Nat → Int} (h1 : 1 ≤ m) (h2 : m ≤ 2) (ht : t ≤ 21 ^ m) (hO : OwnR w g (some ⟨g, 0, none⟩) m V) (hV : t < 21 ^ m → ∀ j, j < m → V j = dig m t j) : leftM m (.bool (decide (t < 21 ^ m))) w g = 21 ^ m - t := by
  by_cases h : t < 21 ^ m
  · rw [decide_eq_true h]
    show 21 ^ m - numP m (cellI w g) = _
    rw [num_dig h1 h2 h (V := cellI w g) (fun j hj => by
      unfold cellI
      rw [(hO.at hj).1]
      exact hV h j hj)]
  · rw [decide_eq_false h]
    show 0 = _
    omega
theorem made_ownCount (w : World) (n t : Nat) : OwnR (w.alloc (.cells (madeCells #[.int .i64 0] n) t)) w.heap.size (some ⟨w.heap.size, 0, none⟩) n (fun _ => 0) := .inr ⟨0, rfl, fun k hk => by
  obtain ⟨cur, h1, h2, h3⟩ := World.rowIs_made w (.int .i64 0) n t
  rw [Nat.zero_add]
  exact ⟨(cell_of_row _ _ k _ _ _ h1).trans (h3 k hk), frozen_of_row _ _ k _ _ h1⟩⟩

set_option maxRecDepth 100000 in
set_option maxHeartbeats 3200000 in
theorem fairCount_any (n c : Nat) (a : Option Addr) (A : Nat → Option Addr) (L C : Nat → Nat) (Z : Nat → Nat → Int) (w : World) (hn0 : n ≤ 1048576) (hL0 : ∀ r, r < n → L r ≤ 1048576) (ha0 : Tab w a n A L C Z) :
    Calls Try.prog 34 #[.slice a n c] w fun e w' => e = .returned (.tuple #[.int .i64 (ifT (CountOk n L Z) (countT n (L 0) Z (21 ^ L 0) : Nat)), .bool (tt (CountOk n L Z))]) ∧ Below w.heap.size w w' := by
  have H := Lib.hid (readBids_any n c a A L C Z w hn0 hL0 ha0)
  by_cases h1 : IsBids n L Z
  · have T1 := Lib.hid (tt_of h1)
    have HI := Lib.hid (fun W (hb : Below w.heap.size w W) => bidItems_any n c a A L C Z W (by have := h1.1.1.1; omega) (ha0.below (Nat.le_refl _) hb))
    by_cases hm2 : L 0 ≤ 2
    · have OK : CountOk n L Z := ⟨h1, hm2⟩
      rw [ifT_yes OK, tt_of OK]
      have hm1 := h1.1.2.1
      have hn4 := h1.1.1.2
      have HD := Lib.hid (bidDeals_any n c (L 0) a A L C Z w h1.1.1.1 h1.1.1.2 rfl (by omega) ha0)
      have HF := Lib.hid (fun W b d g cap M G Cp (t : Nat) (hM : M = (dealsP (L 0) n).length) (hb : Below w.heap.size w W) (hr : Rd W b (L 0) (dig (L 0) t)) (hrow : ∀ r, r < M → W.cell? ⟨g, r, none⟩ = some (.slice (some ⟨G r, 0, none⟩) n (Cp r)) ∧ W.frozen? ⟨g, r, none⟩ = false ∧ Rd W (some ⟨G r, 0, none⟩) n (nth (rowD (L 0) n r))) => fairWithSome_any n c (L 0) d g cap M a b A L C G Cp Z (dig (L 0) t) W hn4 (by omega) h1.rows h1.cells (fun _ _ => dig_range _ _ _) hM (ha0.below (Nat.le_refl _) hb) hr hrow)
      have hmk := run_make_row' (P := Try.prog) 45 3 (.int .i64 0) 8 Try.underlying45 Try.infoInt rfl .i64 .i64 (L 0) (by omega) (by omega)
      obtain ⟨m, hm⟩ : ∃ m, m = L 0 := ⟨_, rfl⟩
      rw [← hm] at HI HD HF hmk hm1 hm2 ⊢
      have d2 : decide ((m : Int) > 2) = false := by simp; omega
      clear h1 ha0 hm OK
      go_enter Try.func34, Try.ntmps34
      go_wp2_with (first
        | (go_at_call 58; refine H.out.mono ?_; rintro e w' ⟨rfl, rfl⟩; rw [T1.out, show bidsV true a n c = .slice a n c from rfl])
        | (go_at_call 61; refine (HI.out _ (Below.refl _ _)).mono ?_; rintro e w' ⟨rfl, rfl⟩))
      refine HD.out.mono ?_
      rintro e w1 ⟨gd, cap, G, Cp, rfl, hM, hb⟩
      have hRow := fun r (hr : r < (dealsP m n).length) => making_row hM hr
      have hgd := hM.1.lt gd rfl
      obtain ⟨M, hMM⟩ : ∃ M, M = (dealsP m n).length := ⟨_, rfl⟩
      rw [← hMM] at hRow ⊢
      have QM := Lib.hid hMM
      have B1 := Lib.hid hb
      have HRow := Lib.hid (fun W (hW : Below w1.heap.size w1 W) r (hr : r < M) => show W.cell? ⟨gd, r, none⟩ = some (.slice (some ⟨G r, 0, none⟩) n (Cp r)) ∧ W.frozen? ⟨gd, r, none⟩ = false ∧ Rd W (some ⟨G r, 0, none⟩) n (nth (rowD m n r)) from by
        obtain ⟨k1, k2, k3, k4, k5, k6⟩ := hRow r hr
        exact ⟨(hW.cell (p := ⟨gd, r, none⟩) hgd.2).trans k1, (hW.frozen (p := ⟨gd, r, none⟩) hgd.2).trans k2, k6.rd.below (Nat.le_refl _) hW⟩)
      clear hRow hM hb hMM HD
      go_wp2_with (go_at_call 61; refine (HI.out _ B1.out).mono ?_; rintro e w' ⟨rfl, rfl⟩)
      have hO2 := made_ownCount w1 m 3
      have hb2 := below_alloc (Below.refl w1.heap.size w1) (.cells (madeCells #[.int .i64 0] m) 3)
      obtain ⟨w2, hw2⟩ : ∃ w2, w2 = w1.alloc (.cells (madeCells #[.int .i64 0] m) 3) := ⟨_, rfl⟩
      rw [← hw2] at hb2 hO2 ⊢
      clear hw2 hmk
      obtain ⟨g, hg⟩ : ∃ g, g = w1.heap.size := ⟨_, rfl⟩
      rw [← hg] at hO2 ⊢
      have QG := Lib.hid hg
      have B2 := Lib.hid hb2
      have O2 := Lib.hid hO2
      clear hb2 hO2 hg
      have hT0 : 0 < 21 ^ m := Nat.pow_pos (by omega)
      have hT2 : 21 ^ m ≤ 441 := Nat.pow_le_pow_right (n := 21) (by omega) hm2
      go_loopw [8, 9] (fun s x wr => ∃ (t : Nat) (V : Nat → Int), t ≤ 21 ^ m ∧ s = .int .i64 (countT n m Z t : Nat) ∧ x = .bool (decide (t < 21 ^ m)) ∧ OwnR wr g (some ⟨g, 0, none⟩) m V ∧ (t < 21 ^ m → ∀ j, j < m → V j = dig m t j) ∧ Below g w1 wr) (fun _ x wr => leftM m x wr g)
      case atStart => exact ⟨0, fun _ => 0, Nat.zero_le _, rfl, by rw [decide_eq_true hT0], O2.out, fun _ j _ => dig_zero.symm, by rw [QG.out]; exact B2.out⟩
      case round =>
        obtain ⟨t, V, ht, rfl, rfl, hO, hV, hB⟩ := hrel
        have HO := Lib.hid hO
        have HV := Lib.hid hV
        have HB := Lib.hid (show Below w1.heap.size w1 wr from by rw [← QG.out]; exact hB)
        have HM := Lib.hid (left_is hm1 hm2 ht hO hV)
        have hcl := countT_le (n := n) (m := m) (Z := Z) t
        clear hO hV hB O2 B2
        by_cases hlt : t < 21 ^ m
        · rw [decide_eq_true hlt] at HM ⊢
          have RD := Lib.hid (HO.out.congr (HV.out hlt)).rd
          have OD := Lib.hid (HO.out.congr (HV.out hlt))
          have HFt := Lib.hid (HF.out wr (some ⟨g, 0, none⟩) m gd cap M G Cp t QM.out (B1.out.trans (HB.out.mono B1.out.size)) RD.out (HRow.out wr HB.out))
          have hgl : g < wr.heap.size := World.block_lt_of_cell? _ _ (HO.out.at (show 0 < m by omega)).1
          have HG := Lib.hid (fun W (hW : Below wr.heap.size wr W) => goOnP_any m m g t W hm1 hm2 hlt (OD.out.of_block (hW.block g hgl)))
          by_cases hs : SomeP n m Z (dig m t)
          · have T2 := Lib.hid (tt_of hs)
            have EX := Lib.hid (countT_yes hs)
            obtain ⟨S, hS⟩ : ∃ S, S = countT n m Z t := ⟨_, rfl⟩
            rw [← hS] at EX hcl ⊢
            have hw1 : IntKind.i64.wrap ((S : Int) + 1) = (S : Int) + 1 := by rw [IntKind.wrap_i64]; omega
            clear hs hS
            go_wp2_with (first
              | (go_at_call 53; refine HFt.out.mono ?_; rintro e w3 ⟨rfl, hb⟩; rw [T2.out]; have B3 := Lib.hid hb; clear hb)
              | (go_at_call 73; refine (HG.out _ B3.out).mono ?_; rintro e w4 ⟨rfl, ⟨V4, hO4, hV4⟩, hb⟩; have O4 := Lib.hid hO4; have HV4 := Lib.hid hV4; have B4 := Lib.hid hb; clear hO4 hV4 hb))
            go_roundw
            case rel => exact ⟨t + 1, V4, by omega, by rw [EX.out]; go_num, rfl, O4.out, HV4.out, by rw [QG.out]; exact HB.out.trans ((B3.out.mono HB.out.size).trans (by rw [← QG.out]; exact B4.out))⟩
            case measure => rw [HM.out, left_is hm1 hm2 (by omega) O4.out HV4.out]; omega
          · have T2 := Lib.hid (tt_no hs)
            have EX := Lib.hid (countT_no hs)
            clear hs
            go_wp2_with (first
              | (go_at_call 53; refine HFt.out.mono ?_; rintro e w3 ⟨rfl, hb⟩; rw [T2.out]; have B3 := Lib.hid hb; clear hb)
              | (go_at_call 73; refine (HG.out _ B3.out).mono ?_; rintro e w4 ⟨rfl, ⟨V4, hO4, hV4⟩, hb⟩; have O4 := Lib.hid hO4; have HV4 := Lib.hid hV4; have B4 := Lib.hid hb; clear hO4 hV4 hb))
            go_roundw
            case rel => exact ⟨t + 1, V4, by omega, by rw [EX.out], rfl, O4.out, HV4.out, by rw [QG.out]; exact HB.out.trans ((B3.out.mono HB.out.size).trans (by rw [← QG.out]; exact B4.out))⟩
            case measure => rw [HM.out, left_is hm1 hm2 (by omega) O4.out HV4.out]; omega
        · obtain rfl : t = 21 ^ m := by omega
          rw [decide_eq_false hlt]
          go_wp2
          go_ret2
          exact ⟨rfl, B1.out.trans (HB.out.mono B1.out.size)⟩
    · have NO : ¬ CountOk n L Z := fun h => hm2 h.2
      rw [ifT_no NO, tt_no NO]
      obtain ⟨m, hm⟩ : ∃ m, m = L 0 := ⟨_, rfl⟩
      rw [← hm] at HI hm2
      have d2 : decide ((m : Int) > 2) = true := by simp; omega
      clear h1 ha0 hm NO
      go_enter Try.func34, Try.ntmps34
      go_wp2_with (first
        | (go_at_call 58; refine H.out.mono ?_; rintro e w' ⟨rfl, rfl⟩; rw [T1.out, show bidsV true a n c = .slice a n c from rfl])
        | (go_at_call 61; refine (HI.out _ (Below.refl _ _)).mono ?_; rintro e w' ⟨rfl, rfl⟩))
      go_ret2
      exact ⟨rfl, Below.refl _ _⟩
  · have T1 := Lib.hid (tt_no h1)
    have NO : ¬ CountOk n L Z := fun h => h1 h.1
    rw [ifT_no NO, tt_no NO]
    clear h1 ha0 NO
    go_enter Try.func34, Try.ntmps34
    go_wp2_with (go_at_call 58; refine H.out.mono ?_; rintro e w' ⟨rfl, rfl⟩; rw [T1.out, show bidsV false a n c = .slice none 0 0 from rfl])
    go_ret2
    exact ⟨rfl, Below.refl _ _⟩
end Go.Proofs.Ytaipodnhnekpjaa
