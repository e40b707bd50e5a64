/- The model's l4Long: the most swaps that lead to each giving. -/
import Derived.Test.YtipfjblnanafnaaLongModel
import Derived.Test.YtipfjblnanafnaaL4Place
import Derived.Test.YtipfjblnanafnaaL4All
import Derived.Test.YtipfjblnanafnaaL4Do
import Derived.Deep.RegionHeld3
namespace Go.Proofs.Ytipfjblnanafnaa
set_option linter.unusedVariables false
set_option linter.unusedSimpArgs false
open Go.RowKit

theorem pairs_get {P : List (Nat × Nat)} {x : Nat} (h : x < P.length) : lenL (pairsL P) x = 2 ∧ nthL (pairsL P) x 0 = ((P[x]).1 : Nat) ∧ nthL (pairsL P) x 1 = ((P[x]).2 : Nat) := by
  have e : (pairsL P).getD x [] = [((P[x]).1 : Int), ((P[x]).2 : Int)] := by
    rw [List.getD_eq_getElem?_getD, List.getElem?_eq_getElem (by rw [pairsL_length]; exact h)]
    simp [pairsL]
  refine ⟨?_, ?_, ?_⟩
  · unfold lenL; rw [e]; rfl
  · unfold nthL; rw [e]; rfl
  · unfold nthL; rw [e]; rfl
section
variable {n : Nat} {L : Nat → Nat} {Z : Nat → Nat → Int} {X0 X : Nat → Int} {o i k j : Nat} {gb : Bool} {D : List Int} {P : List (Nat × Nat)}
theorem pass_stay' (hD : D = (givs n n []).getD i []) (hP : P = mayL n Z (nth D)) (h : PassI n Z X0 X o gb i k) (hk : k < P.length) (hj : j < (givs n n []).length) (hjp : (givs n n []).getD j [] = swapL n D (P[k]).1 (P[k]).2) (hle : X i + 1 ≤ X j) : PassI n Z X0 X o gb i (k + 1) := by
  subst hD; subst hP
  exact pass_stay h hk hj hjp hle
theorem pass_grow' (hW : IsWishes n L Z) (hD : D = (givs n n []).getD i []) (hP : P = mayL n Z (nth D)) (h : PassI n Z X0 X o gb i k) (hi : i < (givs n n []).length) (h0 : 0 ≤ X i) (hk : k < P.length) (hj : j < (givs n n []).length) (hjp : (givs n n []).getD j [] = swapL n D (P[k]).1 (P[k]).2) (hlt : X j < X i + 1) :
    PassI n Z X0 (fun m => if m = j then X i + 1 else X m) o true i (k + 1) := by
  subst hD; subst hP
  exact pass_grow hW h hi h0 hk hj hjp hlt
end
theorem keep4_below {w W w1 : World} {a1 a2 a3 a4 : Addr} {v1 v2 v3 v4 : Value} (h : W.cell? a1 = some v1 ∧ W.cell? a2 = some v2 ∧ W.cell? a3 = some v3 ∧ W.cell? a4 = some v4 ∧ Below w.heap.size w W) (hb : Below W.heap.size W w1) :
    w1.cell? a1 = some v1 ∧ w1.cell? a2 = some v2 ∧ w1.cell? a3 = some v3 ∧ w1.cell? a4 = some v4 ∧ Below w.heap.size w w1 := by
  obtain ⟨h1, h2, h3, h4, h5⟩ := h
  exact ⟨(hb.cell (World.block_lt_of_cell? _ _ h1)).trans h1, (hb.cell (World.block_lt_of_cell? _ _ h2)).trans h2, (hb.cell (World.block_lt_of_cell? _ _ h3)).trans h3, (hb.cell (World.block_lt_of_cell? _ _ h4)).trans h4, h5.trans (hb.mono h5.size)⟩
theorem keep4_drew {w W : World} {a1 a2 a3 a4 : Addr} {v1 v2 v3 v4 : Value} (h : W.cell? a1 = some v1 ∧ W.cell? a2 = some v2 ∧ W.cell? a3 = some v3 ∧ W.cell? a4 = some v4 ∧ Below w.heap.size w W) :
    W.drew.cell? a1 = some v1 ∧ W.drew.cell? a2 = some v2 ∧ W.drew.cell? a3 = some v3 ∧ W.drew.cell? a4 = some v4 ∧ Below w.heap.size w W.drew := keep4_below h (Below.refl _ _).drew
/-- All blocks but one are as they were. -/
def Else (g : Nat) (w w' : World) : Prop := ∀ k, k < w.heap.size → k ≠ g → w'.heap[k]? = w.heap[k]?
theorem Else.refl (g : Nat) (w : World) : Else g w w := fun _ _ _ => rfl
theorem Else.below {g : Nat} {w w1 w2 : World} (h : Else g w w1) (hs : w.heap.size ≤ w1.heap.size) (hb : Below w1.heap.size w1 w2) : Else g w w2 := fun k hk hne => (hb.block k (by omega)).trans (h k hk hne)
theorem Else.set {g : Nat} {w w1 : World} (h : Else g w w1) (i : Nat) (v : Value) : Else g w (w1.setCell ⟨g, i, none⟩ v) := fun k hk hne => (Below.heap_setCell _ _ _ _ hne).trans (h k hk hne)

set_option maxRecDepth 100000 in
set_option maxHeartbeats 6400000 in
theorem l4Long_any (n c M d : Nat) (a b : Option Addr) (A0 : Nat → Option Addr) (L C0 : Nat → Nat) (Z : Nat → Nat → Int) (A : Nat → Option Addr) (C : Nat → Nat) (w : World) (hW : IsWishes n L Z) (ha : Tab w a n A0 L C0 Z) (hM : M = (givs n n []).length)
    (hb : Tab w b M A (lenL (givs n n [])) C (nthL (givs n n []))) :
    Calls Try.prog 49 #[.slice a n c, .slice b M d] w (RetI M (fun i => longF n Z ((givs n n []).getD i [])) w) := by
  obtain ⟨i0, hi, hz0, hz1, hz2⟩ := info_parts Try.infoInt
  have hn2 := hW.1.1
  have hn5 := hW.1.2
  have hM2 : M ≤ 7776 := by rw [hM]; exact givsN_le hn5
  have HW := Lib.hid hW
  have HA := Lib.hid ha
  have HB := Lib.hid hb
  have QM := Lib.hid hM
  obtain ⟨o, ho, hoD⟩ := giv_place (n := n) own_giv
  have hoM : o < M := by rw [hM]; exact ho
  have HO := Lib.hid hoD
  have HLN := Lib.hid (show ∀ r, r < M → lenL (givs n n []) r = n from fun r hr => (givs_at (by rw [← hM]; exact hr)).2)
  have R0 := Lib.hid (show (w.alloc (.cells #[] 3)).ownsRow w.heap.size 3 1 (.slice (some ⟨w.heap.size, 0, none⟩) 0 0) 0 (cellsL 0 (fun _ => (-1 : Int))) from World.ownsRow_made w #[] 0 (Nat.le_refl _) (Nat.zero_le _) (by simp))
  have B0 := Lib.hid (below_alloc (Below.refl w.heap.size w) (.cells #[] 3))
  clear hW ha hb hM ho hoD
  go_enter Try.func49, Try.ntmps49
  go_wp2
  go_loopw [5, 6] (fun row s wi => ∃ k : Nat, k ≤ M ∧ s = .int .i64 k ∧ ∃ rv, rv = row ∧ wi.ownsRow w.heap.size 3 1 rv k (cellsL k (fun _ => (-1 : Int))) ∧ Below w.heap.size w wi) (fun _ s _ => M - (intOf s).toNat)
  case atStart => exact ⟨0, Nat.zero_le _, rfl, _, rfl, R0.out, B0.out⟩
  case round =>
    obtain ⟨k, hk, rfl, rv, rfl, hown, hB⟩ := hrel
    clear R0 B0
    have O1 := Lib.hid hown
    have B1 := Lib.hid hB
    have hsz := hB.size
    clear hown hB
    by_cases hlt : k < M
    · go_wp2_with (at_builtin; refine wpList_append_lies _ (by rfl) (.tmp 21) (.tmp 22) 23 (by rfl) w.heap.size 3 i0 (.int .i64 0) 1 8 Try.underlying23 hi hz0 hz1 hz2 (by rfl) (by decide) rv k (cellsL k (fun _ => (-1 : Int))) (by rfl) (O1.out.alloc _) ⟨_, 0, none⟩ 1 1 [.int .i64 (-1)] (by rfl) (by rfl) (news_one (by simp)) (by simp [Value.oneCell']) (by omega) (by unfold maxLen; omega) (by omega) (by first | omega | (simp; omega)) _ rfl ?_; intro g2 cap2 w2 hown2 hgrow2 hat2 hlt2; have N2 := Lib.hid hown2; have G2 := Lib.hid hgrow2; clear hown2 hgrow2 hat2)
      go_roundw
      case rel =>
        refine ⟨k + 1, by omega, by go_num, _, rfl, ?_, (below_alloc B1.out _).grown G2.out (by simp; omega) (fun x hx => (O1.out.lt x hx).1)⟩
        have := N2.out
        rw [cellsL_snoc] at this
        rwa [cellsL_congr (Y := fun _ => (-1 : Int)) (fun j _ => by by_cases e : j < k; rw [if_pos e]; rw [if_neg e])] at this
      case measure => simp [intOf]; omega
    · obtain rfl : M = k := by omega
      obtain ⟨g, capg, rfl⟩ := owns_form O1.out (by omega)
      have hcap := owns_cap O1.out
      have RO := Lib.hid (OwnR.of_owns O1.out)
      have S0 := Lib.hid (show (wr.alloc (.cells #[] 3)).ownsRow wr.heap.size 3 1 (.slice (some ⟨wr.heap.size, 0, none⟩) 0 0) 0 (cellsL 0 (fun j => ((j : Nat) : Int))) from World.ownsRow_made wr #[] 0 (Nat.le_refl _) (Nat.zero_le _) (by simp))
      have T0 := Lib.hid (below_alloc (Below.refl wr.heap.size wr) (.cells #[] 3))
      have hgl := hcap.2.2
      have hgw := hcap.2.1
      obtain ⟨w1, hw1⟩ : ∃ w1, w1 = wr := ⟨_, rfl⟩
      subst hw1
      clear O1
      go_wp2
      go_loopw [7, 8] (fun row s wi => ∃ j : Nat, j ≤ n ∧ s = .int .i64 j ∧ ∃ rv, rv = row ∧ wi.ownsRow w1.heap.size 3 1 rv j (cellsL j (fun j => ((j : Nat) : Int))) ∧ Below w1.heap.size w1 wi) (fun _ s _ => n - (intOf s).toNat)
      case atStart => exact ⟨0, Nat.zero_le _, rfl, _, rfl, S0.out, T0.out⟩
      case round =>
        obtain ⟨j, hj, rfl, rv, rfl, hown, hB2⟩ := hrel
        clear S0 T0
        have O2 := Lib.hid hown
        have B2 := Lib.hid hB2
        have hsz2 := hB2.size
        clear hown hB2
        by_cases hlt : j < n
        · go_wp2_with (at_builtin; refine wpList_append_lies _ (by rfl) (.tmp 31) (.tmp 33) 23 (by rfl) w1.heap.size 3 i0 (.int .i64 0) 1 8 Try.underlying23 hi hz0 hz1 hz2 (by rfl) (by decide) rv j (cellsL j (fun j => ((j : Nat) : Int))) (by rfl) (O2.out.alloc _) ⟨_, 0, none⟩ 1 1 [.int .i64 j] (by rfl) (by rfl) (news_one (by simp)) (by simp [Value.oneCell']) (by omega) (by unfold maxLen; omega) (by omega) (by first | omega | (simp; omega)) _ rfl ?_; intro g2 cap2 w2 hown2 hgrow2 hat2 hlt2; have N2 := Lib.hid hown2; have G2 := Lib.hid hgrow2; clear hown2 hgrow2 hat2)
          go_roundw
          case rel =>
            refine ⟨j + 1, by omega, by go_num, _, rfl, ?_, (below_alloc B2.out _).grown G2.out (by simp; omega) (fun x hx => (O2.out.lt x hx).1)⟩
            have := N2.out
            rw [cellsL_snoc] at this
            rwa [cellsL_congr (Y := fun j => ((j : Nat) : Int)) (fun m hm => by
              by_cases e : m < j
              · rw [if_pos e]
              · rw [if_neg e]; omega)] at this
          case measure => simp [intOf]; omega
        · obtain rfl : n = j := by omega
          obtain ⟨g3, cap3, rfl⟩ := owns_form O2.out (by omega)
          have RW := Lib.hid (owns_rd O2.out)
          have BW := Lib.hid (B1.out.trans (B2.out.mono hsz))
          have RO2 := Lib.hid (RO.out.of_block (B2.out.block g hgl))
          clear O2 RO
          go_wp2_with (go_at_call 77; refine (l4Place_any n M d cap3 o b _ A C (givs n n []) (fun m => ((m : Nat) : Int)) _ hn5 QM.out hM2 HLN.out (givs_nodup n [] (Diff.nil n) (by simp)) hoM (fun m hm => by unfold nthL; rw [HO.out]; exact ownL_nth hm) (HB.out.below (Nat.le_refl _) BW.out) RW.out).mono ?_; rintro e w3 ⟨rfl, hb3⟩; have B3 := Lib.hid (BW.out.trans (hb3.mono BW.out.size)); have RO3 := Lib.hid (RO2.out.of_block (hb3.block g (by omega))); have hcg := (RO3.out.at hoM).1; have hfg := (RO3.out.at hoM).2; have hs3 := hb3.size; clear hb3)
          have X1 := Lib.hid (RO3.out.set hoM 0)
          have BS := Lib.hid (B3.out.setCell (p := ⟨g, o, none⟩) hgw (.int .i64 0))
          have SD := Lib.hid (show Sound n Z (fun m => if m = o then 0 else (-1 : Int)) from fun m hm => by
            by_cases e : m = o
            · exact .inr ⟨0, by show (if m = o then 0 else (-1 : Int)) = _; rw [if_pos e]; rfl, by rw [e, HO.out]; exact Led.start⟩
            · exact .inl (by show (if m = o then 0 else (-1 : Int)) = _; rw [if_neg e]))
          clear RO3 hcg hfg B3 RO2 RW BW B1 B2
          go_loopw [9, 10, 11, 12, 13] (fun gr _ _ _ _ wi => ∃ (X : Nat → Int) (gb : Bool), gr = .bool gb ∧ OwnR wi g (some ⟨g, 0, none⟩) M X ∧ Below w.heap.size w wi ∧ g < wi.heap.size ∧ Sound n Z X ∧ 0 ≤ X o ∧ (gb = false → ∀ i, i < M → ∀ p, p ∈ mayL n Z (nth ((givs n n []).getD i [])) → ClosedAt n Z X i p)) (fun gr _ _ _ _ wi => growB gr + potN (fun i => cellI wi g i) M)
          case atStart => exact ⟨_, true, rfl, X1.out, BS.out, by simp [World.setCell]; omega, SD.out, by show 0 ≤ (if o = o then 0 else (-1 : Int)); rw [if_pos rfl]; omega, fun h => absurd h (by decide)⟩
          case round =>
            obtain ⟨X, gb, rfl, hR, hBw, hgx, hSd, hXo, hcl⟩ := hrel
            obtain ⟨wp, hwp⟩ : ∃ wp, wp = wr := ⟨_, rfl⟩
            subst hwp
            have RX := Lib.hid hR
            have BX := Lib.hid hBw
            have SX := Lib.hid hSd
            have CX := Lib.hid hcl
            clear X1 BS SD hR hBw hSd hcl
            cases gb with
            | false =>
              have FIN := Lib.hid (closed_long HW.out SX.out (by rw [← QM.out]; exact hoM) HO.out hXo (fun i hi => CX.out rfl i (by rw [QM.out]; exact hi)))
              go_wp2
              go_ret
              exact ⟨g, capg, rfl, ⟨hgw, hgx, hcap.1⟩, RX.out.congr (fun i hi => FIN.out i (by rw [← QM.out]; exact hi)), BX.out⟩
            | true =>
              go_wp2
              go_loopw [9, 10, 11, 12, 13] (fun gr s _ _ _ wi => ∃ (i : Nat) (Y : Nat → Int) (gb : Bool), i ≤ M ∧ gr = .bool gb ∧ s = .int .i64 i ∧ OwnR wi g (some ⟨g, 0, none⟩) M Y ∧ Below w.heap.size w wi ∧ g < wi.heap.size ∧ PassI n Z X Y o gb i 0) (fun _ s _ _ _ _ => M - (intOf s).toNat)
              case atStart => exact ⟨0, X, false, Nat.zero_le _, rfl, rfl, RX.out, BX.out, hgx, SX.out, hXo, fun _ _ => Int.le_refl _, fun _ => ⟨fun _ _ => rfl, fun i' hi' => absurd hi' (Nat.not_lt_zero _), fun p hp => by simp at hp⟩, fun h => absurd h (by decide)⟩
              case round =>
                obtain ⟨i, Y, gb, hiM, rfl, rfl, hR, hBw, hgy, hP⟩ := hrel
                obtain ⟨wy, hwy⟩ : ∃ wy, wy = wr := ⟨_, rfl⟩
                subst hwy
                have RY := Lib.hid hR
                have BY := Lib.hid hBw
                have PY := Lib.hid hP
                clear hR hBw hP
                by_cases hlt : i < M
                · have hci := (RY.out.at hlt).1
                  have hyb := sound_le HW.out PY.out.1 (show i < (givs n n []).length by rw [← QM.out]; exact hlt)
                  obtain ⟨y, hy⟩ : ∃ y, y = Y i := ⟨_, rfl⟩
                  rw [← hy] at hci hyb
                  have hy1 := hyb.1
                  have hy2 := hyb.2
                  have HY := Lib.hid hy
                  have i1 : (0 : Int) ≤ (i : Int) := by omega
                  have i2 : (i : Int) < (M : Int) := by omega
                  clear hyb hy
                  by_cases hneg : y < 0
                  · have d1 : decide (y < 0) = true := decide_eq_true hneg
                    have PN := Lib.hid (pass_skip PY.out (by rw [← HY.out]; exact hneg))
                    clear hneg
                    go_wp2
                    go_roundw
                    case rel => exact ⟨i + 1, Y, gb, by omega, rfl, by go_num, RY.out, BY.out, hgy, PN.out⟩
                    case measure => simp [intOf]; omega
                  · have d1 : decide (y < 0) = false := decide_eq_false hneg
                    obtain ⟨hmem, hlen⟩ := givs_at (n := n) (k := i) (by rw [← QM.out]; exact hlt)
                    have hDm : (givs n n []).getD i [] ∈ givs n n [] := by
                      rw [List.getD_eq_getElem?_getD, List.getElem?_eq_getElem (by rw [← QM.out]; exact hlt)]
                      exact List.getElem_mem _
                    have hgi := givsN_given HW.out hDm
                    obtain ⟨ba, oa, rfl, hca, hra⟩ := (HB.out.below (Nat.le_refl _) BY.out) i hlt
                    rw [HLN.out i hlt] at hca hra
                    have hra2 : Rd wy (A i) n (nth ((givs n n []).getD i [])) := hra
                    obtain ⟨D, hD⟩ : ∃ D, D = (givs n n []).getD i [] := ⟨_, rfl⟩
                    rw [← hD] at hDm hgi hra2
                    have HC := Lib.hid (l4All_any n c a A0 L C0 Z (C i) (A i) (nth D) wy hgi (HA.out.below (Nat.le_refl _) BY.out) hra2)
                    obtain ⟨P, hP⟩ : ∃ P, P = mayL n Z (nth D) := ⟨_, rfl⟩
                    have hP25 : P.length ≤ 25 := by rw [hP]; exact mayL_le hn5
                    have QP := Lib.hid hP
                    have QD := Lib.hid hD
                    have PYD := Lib.hid (show PassI n Z X Y o gb i 0 ∧ 0 ≤ Y i from ⟨PY.out, by rw [← HY.out]; omega⟩)
                    have HDm := Lib.hid hDm
                    have HGI := Lib.hid hgi
                    have HRA := Lib.hid hra2
                    have hszy := BY.out.size
                    clear hneg hmem hlen hra hra2 hDm hgi hP hD
                    go_wp2_with (go_at_call 50; refine HC.out.mono ?_; rintro e w5 ⟨v, G', Cp, rfl, hMk, hb5⟩; rw [pairsL_length, ← QP.out] at hMk; obtain ⟨a5, c5, rfl, hO5⟩ := hMk.slice; have O5 := Lib.hid hO5; have B5 := Lib.hid (BY.out.trans (hb5.mono hszy)); have R5 := Lib.hid (RY.out.of_block (hb5.block g hgy)); have hs5 := hb5.size; clear hb5 hO5 hMk)
                    obtain ⟨N, hN⟩ : ∃ N, N = P.length := ⟨_, rfl⟩
                    rw [← hN] at O5 hP25 ⊢
                    have QN := Lib.hid hN
                    clear hN hci hca
                    go_loopw [9, 12, 13] (fun gr s _ wi => ∃ (k : Nat) (Y' : Nat → Int) (gb' : Bool), k ≤ N ∧ gr = .bool gb' ∧ s = .int .i64 k ∧ OwnR wi g (some ⟨g, 0, none⟩) M Y' ∧ Below w.heap.size w wi ∧ (g < wi.heap.size ∧ w5.heap.size ≤ wi.heap.size) ∧ Else g w5 wi ∧ PassI n Z X Y' o gb' i k ∧ 0 ≤ Y' i) (fun _ s _ _ => N - (intOf s).toNat)
                    case atStart => exact ⟨0, Y, gb, Nat.zero_le _, rfl, rfl, R5.out, B5.out, ⟨by omega, Nat.le_refl _⟩, Else.refl _ _, PYD.out.1, PYD.out.2⟩
                    case round =>
                      obtain ⟨k, Y', gb', hkN, rfl, rfl, hR, hBw, ⟨hgz, hs5z⟩, hE, hP', h0⟩ := hrel
                      obtain ⟨wz, hwz⟩ : ∃ wz, wz = wr := ⟨_, rfl⟩
                      subst hwz
                      have RZ := Lib.hid hR
                      have BZ := Lib.hid hBw
                      have EZ := Lib.hid hE
                      have PZ := Lib.hid hP'
                      have HZ := Lib.hid h0
                      clear hR hBw hE hP' h0
                      by_cases hkn : k < N
                      · have hkP : k < P.length := by rw [← QN.out]; exact hkn
                        obtain ⟨hl2, hx0, hx1⟩ := pairs_get hkP
                        have hmm : P[k] ∈ mayL n Z (nth D) := by rw [← QP.out]; exact List.getElem_mem hkP
                        obtain ⟨gp1, gp2, gp3⟩ := mem_mayL.1 hmm
                        obtain ⟨p, hp⟩ : ∃ p, p = (P[k]).1 := ⟨_, rfl⟩
                        obtain ⟨q, hq⟩ : ∃ q, q = (P[k]).2 := ⟨_, rfl⟩
                        rw [← hp] at hx0 gp1
                        rw [← hq] at hx1 gp1 gp2
                        obtain ⟨j, hj, hjD⟩ := giv_place (swap_giv HW.out HDm.out (show p < n by omega) gp2)
                        rw [← QM.out] at hj
                        have HJ := Lib.hid (show (givs n n []).getD j [] = swapL n D (P[k]).1 (P[k]).2 by rw [← hp, ← hq]; exact hjD)
                        have HG := Lib.hid (show ∀ m, m < n → nthL (givs n n []) j m = swapF (nth D) p q m from fun m hm => by unfold nthL; rw [hjD]; exact swapL_nth hm)
                        obtain ⟨bt, ot, rfl, hct, hrow⟩ := (table_kept O5.out hgy EZ.out) k hkn
                        rw [hl2] at hct hrow
                        obtain ⟨bi, oi, hae, hci⟩ := hrow 0 (by omega)
                        obtain ⟨bi', oi', hae', hck⟩ := hrow 1 (by omega)
                        rw [hae] at hae'
                        simp only [Option.some.injEq, Addr.mk.injEq, and_true] at hae'
                        obtain ⟨rfl, rfl⟩ := hae'
                        rw [hae] at hct
                        rw [hx0, Nat.add_zero] at hci
                        rw [hx1] at hck
                        obtain ⟨ba', oa', he, hcaz, hraz⟩ := (HB.out.below (Nat.le_refl _) BZ.out) i hlt
                        simp only [Option.some.injEq, Addr.mk.injEq, and_true] at he
                        obtain ⟨rfl, rfl⟩ := he
                        rw [HLN.out i hlt] at hcaz hraz
                        have HRZ := Lib.hid (show Rd wz (A i) n (nth D) by rw [QD.out]; exact hraz)
                        have HPK := Lib.hid hkP
                        obtain ⟨yi, hyi⟩ : ∃ y, y = Y' i := ⟨_, rfl⟩
                        obtain ⟨yj, hyj⟩ : ∃ y, y = Y' j := ⟨_, rfl⟩
                        have hbi := sound_le HW.out PZ.out.1 (show i < (givs n n []).length by rw [← QM.out]; exact hlt)
                        have hbj := sound_le HW.out PZ.out.1 (show j < (givs n n []).length by rw [← QM.out]; exact hj)
                        rw [← hyi] at hbi
                        rw [← hyj] at hbj
                        have hbi1 := hbi.1
                        have hbi2 := hbi.2
                        have hbj1 := hbj.1
                        have hbj2 := hbj.2
                        have YI := Lib.hid hyi
                        have YJ := Lib.hid hyj
                        have hszz := BZ.out.size
                        have k1 : (0 : Int) ≤ (k : Int) := by omega
                        have k2 : (k : Int) < (N : Int) := by omega
                        have hpq : p ≠ q := by omega
                        have hpn : p < n := by omega
                        clear hl2 hx0 hx1 hmm gp3 hrow hae hraz hjD hp hq hbi hbj hyi hyj
                        go_wp2
                        go_region_held3 (fun W => W.cell? ⟨ba, oa + i, none⟩ = some (.slice (A i) n (C i)) ∧ W.cell? ⟨bt, ot + k, none⟩ = some (.slice (some ⟨bi, oi, none⟩) 2 (Cp k)) ∧ W.cell? ⟨bi, oi, none⟩ = some (.int .i64 p) ∧ W.cell? ⟨bi, oi + 1, none⟩ = some (.int .i64 q) ∧ Below wz.heap.size wz W)
                          (first | exact keep4_drew ⟨hcaz, hct, hci, hck, Below.refl _ _⟩ | exact keep4_drew (by assumption) | exact keep4_below (by assumption) hbl | exact keep4_below (by assumption) hbl7)
                          ((first
                            | (go_at_call 78; refine (l4Do_any n _ p q _ (nth D) _ hn5 (HRZ.out.below (Nat.le_refl _) (by repeat (first | exact Below.refl _ _ | refine Below.drew ?_ | exact (show _ ∧ _ ∧ _ ∧ _ ∧ Below wz.heap.size wz _ from by assumption).2.2.2.2))) hpn gp2 hpq).mono ?_; rintro e w6 ⟨g6, cap6, rfl, ⟨hg61, hg62, hg63⟩, hO6, hbl⟩)
                            | (go_at_call 77; refine (l4Place_any n M d cap6 j _ _ A C (givs n n []) (swapF (nth D) p q) _ hn5 QM.out hM2 HLN.out (givs_nodup n [] (Diff.nil n) (by simp)) hj HG.out (HB.out.below (Nat.le_refl _) (BZ.out.trans ((show _ ∧ _ ∧ _ ∧ _ ∧ Below wz.heap.size wz _ from by assumption).2.2.2.2.mono hszz))) (hO6.rd.below (Nat.le_refl _) (by repeat (first | exact Below.refl _ _ | refine Below.drew ?_)))).mono ?_; rintro e w7 ⟨rfl, hbl7⟩)))
                        have B7 := Lib.hid (show _ ∧ _ ∧ _ ∧ _ ∧ Below wz.heap.size wz w7 from by assumption).2.2.2.2
                        rename_i hHeld
                        clear hHeld hbl hbl7 hO6 hcaz hct hci hck
                        have R7 := Lib.hid (RZ.out.of_block (B7.out.block g hgz))
                        have W7 := Lib.hid (BZ.out.trans (B7.out.mono hszz))
                        have E7 := Lib.hid (EZ.out.below hs5z B7.out)
                        have hs7 := B7.out.size
                        have c1 : ∀ r : Later w7, r.W.cell? ⟨g, j, none⟩ = some (.int .i64 yj) := fun r => later_cell (by rw [YJ.out]; exact (R7.out.at hj).1) r
                        have c2 : ∀ r : Later w7, r.W.cell? ⟨g, i, none⟩ = some (.int .i64 yi) := fun r => later_cell (by rw [YI.out]; exact (R7.out.at hlt).1) r
                        have j1 : (0 : Int) ≤ (j : Int) := by omega
                        have j2 : (j : Int) < (M : Int) := by omega
                        by_cases hgr : yj < yi + 1
                        · have d2 : decide (yj < yi + 1) = true := decide_eq_true hgr
                          have PG := Lib.hid (pass_grow' HW.out QD.out QP.out PZ.out (show i < (givs n n []).length by rw [← QM.out]; exact hlt) HZ.out hkP (show j < (givs n n []).length by rw [← QM.out]; exact hj) HJ.out (by rw [← YI.out, ← YJ.out]; exact hgr))
                          clear hgr
                          go_wp2
                          refine wp_region_later (by kernel_rfl) (by kernel_rfl) ?_
                          repeat go_big_quiet_step (fail)
                          refine wpQuiet_nil ?_
                          rintro _ ⟨r, rfl⟩
                          have R8 := Lib.hid (R7.out.of_block (r.h.block g (by omega)))
                          have hrs := r.h.size
                          have h8i := c2 r
                          have h8j := c1 r
                          have f8j := (R8.out.at hj).2
                          clear c1 c2
                          go_wp2
                          go_roundw
                          case rel =>
                            refine ⟨k + 1, (fun m => if m = j then Y' i + 1 else Y' m), true, by omega, rfl, by go_num, (R8.out.set hj (yi + 1)).congr (fun m _ => by show (if m = j then yi + 1 else Y' m) = (if m = j then Y' i + 1 else Y' m); rw [YI.out]), (W7.out.trans (r.h.mono W7.out.size)).setCell (p := ⟨g, j, none⟩) hgw _, ⟨by simp [World.setCell]; omega, by simp [World.setCell]; omega⟩, (E7.out.below (by omega) r.h).set j _, PG.out, ?_⟩
                            have := HZ.out
                            show 0 ≤ (if i = j then Y' i + 1 else Y' i)
                            by_cases e : i = j
                            · rw [if_pos e]; omega
                            · rw [if_neg e]; exact this
                          case measure => simp [intOf]; omega
                        · have d2 : decide (yj < yi + 1) = false := decide_eq_false hgr
                          have PG := Lib.hid (pass_stay' QD.out QP.out PZ.out hkP (show j < (givs n n []).length by rw [← QM.out]; exact hj) HJ.out (by rw [← YI.out, ← YJ.out]; omega))
                          clear hgr
                          go_wp2
                          refine wp_region_later (by kernel_rfl) (by kernel_rfl) ?_
                          repeat go_big_quiet_step (fail)
                          refine wpQuiet_nil ?_
                          rintro _ ⟨r, rfl⟩
                          have R8 := Lib.hid (R7.out.of_block (r.h.block g (by omega)))
                          have hrs := r.h.size
                          clear c1 c2
                          go_wp2
                          go_roundw
                          case rel => exact ⟨k + 1, Y', gb', by omega, rfl, by go_num, R8.out, W7.out.trans (r.h.mono W7.out.size), ⟨by omega, by omega⟩, E7.out.below (by omega) r.h, PG.out, HZ.out⟩
                          case measure => simp [intOf]; omega
                      · obtain rfl : N = k := by omega
                        have PN := Lib.hid (pass_next (i := i) (by rw [← QD.out, ← QP.out, ← QN.out]; exact PZ.out))
                        go_wp2
                        go_roundw
                        case rel => exact ⟨i + 1, Y', gb', by omega, rfl, by go_num, RZ.out, BZ.out, hgz, PN.out⟩
                        case measure => simp [intOf]; omega
                · obtain rfl : M = i := by omega
                  have e1 := Lib.hid (potN_congr (n := M) (fun i hi => cellI_own RX.out hi))
                  have e2 := Lib.hid (potN_congr (n := M) (fun i hi => cellI_own RY.out hi))
                  go_wp2
                  go_roundw
                  case rel => exact ⟨Y, gb, rfl, RY.out, BY.out, hgy, PY.out.1, PY.out.2.1, fun hg i hi => (PY.out.2.2.2.1 hg).2.1 i hi⟩
                  case measure =>
                    show growB (.bool gb) + potN (fun i => cellI wy g i) M < growB (.bool true) + potN (fun i => cellI wp g i) M
                    rw [e1.out, e2.out]
                    cases gb with
                    | true =>
                      have := PY.out.2.2.2.2 rfl
                      rw [← QM.out] at this
                      show 1 + potN Y M < 1 + potN X M
                      omega
                    | false =>
                      have := potN_congr (n := M) (fun j hj => (PY.out.2.2.2.1 rfl).1 j (by rw [← QM.out]; exact hj))
                      show 0 + potN Y M < 1 + potN X M
                      omega
end Go.Proofs.Ytipfjblnanafnaa
