/- The program's filled, FairLow, FairHigh. -/
import Derived.Test.YtaipodnhnekpjaaLists
import Derived.Test.YtaipodnhnekpjaaProg
import Derived.Test.YtaipodnhnekpjaaDelKit
import Derived.Shelf.GgClosure.Gives
import Derived.Test.YtaipodnhnekpjaaFairAns
import Derived.Test.YtaipodnhnekpjaaBidTwiceF
import Derived.Test.YtaipodnhnekpjaaFnBidModel
/- The program's filled, at lists for items. -/
namespace Go.Proofs.Ytaipodnhnekpjaa
set_option linter.unusedVariables false
set_option linter.unusedSimpArgs false
open Go.RowKit

set_option maxHeartbeats 1600000 in
theorem filledItem_any (m cap g gh : Nat) (lh : Array Value) (egh : ∀ args w, (callFunc gh args).run Try.prog w = .ok (.enter gh args) w) (X Y : Nat → Int) (w : World) (hm : m ≤ 1000) (hown : OwnR w g (some ⟨g, 0, none⟩) m Y) (hf0 : ∀ W (k : Nat), k < m → Below g w W → Calls Try.prog gh (#[.int .i64 (k : Nat)] ++ lh) W fun e W' => e = .returned (.int .i64 (X k)) ∧ Below W.heap.size W W') :
    Calls Try.prog 62 #[.slice (some ⟨g, 0, none⟩) m cap, .func (.func gh) #[] lh] w fun e w' => e = .returned (.slice (some ⟨g, 0, none⟩) m cap) ∧ OwnR w' g (some ⟨g, 0, none⟩) m X ∧ Below g w w' := by
  have HF := Lib.hid hf0
  have O0 := Lib.hid hown
  clear hf0 hown
  go_enter Try.func62, Try.ntmps62
  go_wp2
  go_loopw [5, 8] (fun _ x wr => ∃ (k : Nat) (V : Nat → Int), k ≤ m ∧ x = .int .i64 k ∧ OwnR wr g (some ⟨g, 0, none⟩) m V ∧ (∀ j, j < k → V j = X j) ∧ Below g w wr) (fun _ x _ => m - (intOf x).toNat)
  case atStart => exact ⟨0, Y, Nat.zero_le _, rfl, O0.out, fun j hj => absurd hj (Nat.not_lt_zero _), Below.refl _ _⟩
  case round =>
    obtain ⟨k, V, hk, rfl, hO, hV, hB⟩ := hrel
    have HO := Lib.hid hO
    have HV := Lib.hid hV
    have HB := Lib.hid hB
    clear hO hV hB O0
    by_cases hlt : k < m
    · obtain ⟨hck, hfk⟩ := HO.out.at hlt
      have hgl : g < wr.heap.size := World.block_lt_of_cell? _ _ hck
      have hcall := HF.out wr k hlt HB.out
      have i1 : (0 : Int) ≤ (k : Int) := by omega
      have i2 : (k : Int) < (m : Int) := by omega
      obtain ⟨x, hx⟩ : ∃ x, x = X k := ⟨_, rfl⟩
      have QX := Lib.hid hx
      rw [← hx] at hcall
      clear hx
      go_wp2_with (go_at_fn gh; refine hcall.mono ?_; rintro e w1 ⟨rfl, hb⟩; have hck1 := (hb.cell (p := ⟨g, k, none⟩) hgl).trans hck; have hfk1 := (hb.frozen (p := ⟨g, k, none⟩) hgl).trans hfk; have B1 := Lib.hid hb; clear hb)
      go_roundw
      case rel =>
        have hb := B1.out
        have O1 : OwnR w1 g (some ⟨g, 0, none⟩) m V := HO.out.of_block (hb.block g hgl)
        refine ⟨k + 1, fun j => if j = k then x else V j, by omega, by go_num, O1.set hlt x, fun j hj => ?_, (HB.out.trans (hb.mono (Nat.le_of_lt hgl))).setCell (Nat.le_refl _) _⟩
        dsimp only
        by_cases e : j = k
        · rw [if_pos e, e]; exact QX.out
        · rw [if_neg e]; exact HV.out j (by omega)
      case measure => simp [intOf]; omega
    · obtain rfl : k = m := by omega
      go_wp2
      go_ret
      exact ⟨rfl, HO.out.congr HV.out, HB.out⟩
end Go.Proofs.Ytaipodnhnekpjaa

/- The program's FairLow. -/
namespace Go.Proofs.Ytaipodnhnekpjaa
set_option linter.unusedVariables false
set_option linter.unusedSimpArgs false
open Go.RowKit

theorem made_ownLow (w : World) (n t : Nat) : OwnR (w.alloc (.cells (madeCells #[.int .i64 0] n) t)) w.heap.size (some ⟨w.heap.size, 0, none⟩) n (fun _ => 0) := .inr ⟨0, rfl, fun k hk => by
  obtain ⟨cur, h1, h2, h3⟩ := World.rowIs_made w (.int .i64 0) n t
  rw [Nat.zero_add]
  exact ⟨(cell_of_row _ _ k _ _ _ h1).trans (h3 k hk), frozen_of_row _ _ k _ _ h1⟩⟩

theorem fairLow1_any (n c : Nat) (a : Option Addr) (A : Nat → Option Addr) (L C : Nat → Nat) (Z : Nat → Nat → Int) (vb bb k : Nat) (W : World) (h1 : IsBids n L Z) (hk : k < L 0) (hv : W.cell? ⟨vb, 0, none⟩ = some (.slice a n c)) (hb : W.cell? ⟨bb, 0, none⟩ = some (.int .i64 (bestV n (L 0) Z))) (ha0 : Tab W a n A L C Z) :
    Calls Try.prog 63 #[.int .i64 (k : Nat), .pointer (some ⟨vb, 0, none⟩), .pointer (some ⟨bb, 0, none⟩)] W fun e W' => e = .returned (.int .i64 (lowP n (L 0) Z k)) ∧ Below W.heap.size W W' := by
  have OK : IsBids n L Z ∧ 0 ≤ (k : Int) ∧ (k : Int) < (L 0 : Int) := ⟨h1, by omega, by omega⟩
  have H := bidTwice_any n c a A L C Z (k : Nat) W (by have := h1.1.1.2; omega) (fun r hr => by rw [h1.rows r hr]; have := h1.1.2.2; omega) ha0 (by unfold I64; have := h1.1.2.2; omega)
  rw [ifT_yes OK, tt_of OK, Int.toNat_natCast] at H
  have hr1 : 0 ≤ twiceV n (L 0) Z k ∧ twiceV n (L 0) Z k ≤ 80 := twice_range h1 hk
  have hr2 := best_range h1
  have HE := Lib.hid (show lowP n (L 0) Z k = twiceV n (L 0) Z k - bestV n (L 0) Z from rfl)
  obtain ⟨y, hy⟩ : ∃ y, y = twiceV n (L 0) Z k := ⟨_, rfl⟩
  obtain ⟨b, hbb⟩ : ∃ b, b = bestV n (L 0) Z := ⟨_, rfl⟩
  rw [← hy] at H hr1 HE
  rw [← hbb] at hb hr2 HE
  rw [HE.out]
  have H := Lib.hid H
  have hbl := World.block_lt_of_cell? _ _ hb
  have hw1 : IntKind.i64.wrap (y - b) = y - b := by rw [IntKind.wrap_i64]; omega
  clear OK ha0 h1 hy hbb HE
  go_enter Try.func63, Try.ntmps63
  go_wp2_with (go_at_call 64; refine H.out.mono ?_; rintro e w1 ⟨rfl, hb1⟩; have hb' := (hb1.cell (p := ⟨bb, 0, none⟩) hbl).trans hb; have B1 := Lib.hid hb1; clear hb1)
  go_ret
  exact ⟨rfl, B1.out⟩

set_option maxRecDepth 100000 in
set_option maxHeartbeats 1600000 in
theorem fairLow_any (n c : Nat) (a : Option Addr) (A : Nat → Option Addr) (L C : Nat → Nat) (Z : Nat → Nat → Int) (w : World) (hn0 : n ≤ 1048576) (hL0 : ∀ r, r < n → L r ≤ 1048576) (ha0 : Tab w a n A L C Z) :
    Calls Try.prog 25 #[.slice a n c] w (RetIB (tt (IsBids n L Z)) (itemsN n L Z) (lowP n (L 0) Z) w) := by
  have hba := below_alloc (Below.refl w.heap.size w) (.cells #[.slice a n c] 22)
  have hxa := cell_of_row _ _ 0 _ _ _ (heap_alloc_last w (.cells #[.slice a n c] 22))
  obtain ⟨wa, hwa⟩ : ∃ wa, wa = w.alloc (.cells #[.slice a n c] 22) := ⟨_, rfl⟩
  have hsa : wa.heap.size = w.heap.size + 1 := by rw [hwa]; simp
  have hxa : wa.cell? ⟨w.heap.size, 0, none⟩ = some (.slice a n c) := by rw [hwa]; exact hxa
  rw [← hwa] at hba
  have ha1 := ha0.below (Nat.le_refl _) hba
  have H := Lib.hid (readBids_any n c a A L C Z wa hn0 hL0 ha1)
  by_cases h1 : IsBids n L Z
  · have T1 := Lib.hid (tt_of h1)
    have T2 := Lib.hid (itemsN_yes h1)
    have hm4 := h1.1.2.2
    have HM := Lib.hid (most_all n c (L 0) a A L C Z wa h1.1.1.1 h1.1.1.2 (by omega) h1.rows h1.cells ha1)
    have HI := Lib.hid (fun W (hb : Below wa.heap.size wa W) => bidItems_any n c a A L C Z W (by have := h1.1.1.1; omega) (ha1.below (Nat.le_refl _) hb))
    have HF := Lib.hid (fun W (bb k : Nat) (hb : Below wa.heap.size wa W) (hk : k < L 0) (hbb : W.cell? ⟨bb, 0, none⟩ = some (.int .i64 (bestV n (L 0) Z))) => fairLow1_any n c a A L C Z w.heap.size bb k W h1 hk ((hb.cell (p := ⟨w.heap.size, 0, none⟩) (by show w.heap.size < _; omega)).trans hxa) hbb (ha1.below (Nat.le_refl _) hb))
    have hmk := run_make_row' (P := Try.prog) 45 3 (.int .i64 0) 8 Try.underlying45 Try.infoInt rfl .i64 .i64 (L 0) (by omega) (by omega)
    have BA := Lib.hid hba
    have SA := Lib.hid hsa
    obtain ⟨m, hm⟩ : ∃ m, m = L 0 := ⟨_, rfl⟩
    rw [← hm] at HM HI HF hmk T2 hm4 ⊢
    clear h1 ha0 ha1 hba hsa hxa hm
    go_enter Try.func25, Try.ntmps25
    go_wp2_with fail
    rw [← hwa]
    clear hwa
    refine H.out.mono ?_
    rintro e w' ⟨rfl, rfl⟩
    rw [T1.out, show bidsV true a n c = .slice a n c from rfl]
    go_wp2_with fail
    refine HM.out.mono ?_
    rintro e w1 ⟨rfl, hb1⟩
    have B1 := Lib.hid hb1
    clear hb1
    go_wp2_with fail
    have hb2 := below_alloc B1.out (.cells #[.int .i64 (bestV n m Z)] 3)
    have hx2 := cell_of_row _ _ 0 _ _ _ (heap_alloc_last w1 (.cells #[.int .i64 (bestV n m Z)] 3))
    obtain ⟨w2, hw2⟩ : ∃ w2, w2 = w1.alloc (.cells #[.int .i64 (bestV n m Z)] 3) := ⟨_, rfl⟩
    have hs2 : w2.heap.size = w1.heap.size + 1 := by rw [hw2]; simp
    rw [← hw2] at hb2 hx2 ⊢
    clear hw2
    have B2 := Lib.hid hb2
    have X2 := Lib.hid hx2
    have S2 := Lib.hid hs2
    clear hb2 hx2 hs2
    refine (HI.out w2 B2.out).mono ?_
    rintro e w' ⟨rfl, rfl⟩
    go_wp2_with fail
    have hO3 := made_ownLow w2 m 3
    have hb3 := below_alloc (Below.refl w2.heap.size w2) (.cells (madeCells #[.int .i64 0] m) 3)
    obtain ⟨w3, hw3⟩ : ∃ w3, w3 = w2.alloc (.cells (madeCells #[.int .i64 0] m) 3) := ⟨_, rfl⟩
    have hs3 : w3.heap.size = w2.heap.size + 1 := by rw [hw3]; simp
    rw [← hw3] at hb3 hO3 ⊢
    clear hw3 hmk
    have S3 := Lib.hid hs3
    have B3 := Lib.hid hb3
    have HFi := Lib.hid (filledItem_any m m w2.heap.size 63 #[.pointer (some ⟨w.heap.size, 0, none⟩), .pointer (some ⟨w1.heap.size, 0, none⟩)] (enters_of Try.func63 (by kernel_rfl) rfl) (lowP n m Z) (fun _ => 0) w3 (by omega) hO3 (fun W k hk hB => by
      have h2 : Below w2.heap.size w2 W := B3.out.trans hB
      exact HF.out W w1.heap.size k (B2.out.trans (h2.mono B2.out.size)) hk ((h2.cell (p := ⟨w1.heap.size, 0, none⟩) (by have := S2.out; show w1.heap.size < _; omega)).trans X2.out)))
    clear hs3 hb3 hO3
    refine HFi.out.mono ?_
    rintro e w4 ⟨rfl, hO, hB⟩
    have HO := Lib.hid hO
    have B4 := Lib.hid (show Below w2.heap.size w2 w4 from B3.out.trans hB)
    have S4 := Lib.hid (show w3.heap.size ≤ w4.heap.size from hB.size)
    clear hO hB
    go_wp2
    go_ret2
    have hs1 := B1.out.size
    have hs2 := S2.out
    have hs3 := S3.out
    have hs4 := S4.out
    have hsa := SA.out
    rw [T1.out, T2.out]
    exact ⟨_, _, rfl, .inr ⟨w2.heap.size, by omega, by omega, HO.out⟩, BA.out.trans ((B2.out.trans (B4.out.mono B2.out.size)).mono (by omega))⟩
  · have T1 := Lib.hid (tt_no h1)
    have T2 := Lib.hid (itemsN_no h1)
    have BA := Lib.hid hba
    clear h1 ha0 ha1 hba hsa hxa
    go_enter Try.func25, Try.ntmps25
    go_wp2_with fail
    rw [← hwa]
    clear hwa
    refine H.out.mono ?_
    rintro e w' ⟨rfl, rfl⟩
    rw [T1.out, show bidsV false a n c = .slice none 0 0 from rfl]
    go_wp2
    go_ret2
    rw [T1.out, T2.out]
    exact ⟨_, _, rfl, .inl rfl, BA.out⟩
end Go.Proofs.Ytaipodnhnekpjaa

/- The program's FairHigh. -/
namespace Go.Proofs.Ytaipodnhnekpjaa
set_option linter.unusedVariables false
set_option linter.unusedSimpArgs false
open Go.RowKit

theorem made_ownHigh (w : World) (n t : Nat) : OwnR (w.alloc (.cells (madeCells #[.int .i64 0] n) t)) w.heap.size (some ⟨w.heap.size, 0, none⟩) n (fun _ => 0) := .inr ⟨0, rfl, fun k hk => by
  obtain ⟨cur, h1, h2, h3⟩ := World.rowIs_made w (.int .i64 0) n t
  rw [Nat.zero_add]
  exact ⟨(cell_of_row _ _ k _ _ _ h1).trans (h3 k hk), frozen_of_row _ _ k _ _ h1⟩⟩

theorem fairHigh1_any (n c : Nat) (a : Option Addr) (A : Nat → Option Addr) (L C : Nat → Nat) (Z : Nat → Nat → Int) (vb bb k : Nat) (W : World) (h1 : IsBids n L Z) (hk : k < L 0) (hv : W.cell? ⟨vb, 0, none⟩ = some (.slice a n c)) (hb : W.cell? ⟨bb, 0, none⟩ = some (.int .i64 (bestV n (L 0) Z))) (ha0 : Tab W a n A L C Z) :
    Calls Try.prog 65 #[.int .i64 (k : Nat), .pointer (some ⟨vb, 0, none⟩), .pointer (some ⟨bb, 0, none⟩)] W fun e W' => e = .returned (.int .i64 (highP n (L 0) Z k)) ∧ Below W.heap.size W W' := by
  have OK : IsBids n L Z ∧ 0 ≤ (k : Int) ∧ (k : Int) < (L 0 : Int) := ⟨h1, by omega, by omega⟩
  have H := bidLess_any n c a A L C Z (k : Nat) W (by have := h1.1.1.2; omega) (fun r hr => by rw [h1.rows r hr]; have := h1.1.2.2; omega) ha0 (by unfold I64; have := h1.1.2.2; omega)
  rw [ifT_yes OK, tt_of OK, Int.toNat_natCast] at H
  have hr1 : 0 ≤ lessV n (L 0) Z k ∧ lessV n (L 0) Z k ≤ 80 := ⟨(less_range0 h1 hk).1, by have := less_range0 h1 hk; have := best_range h1; omega⟩
  have hr2 := best_range h1
  have HE := Lib.hid (show highP n (L 0) Z k = bestV n (L 0) Z - lessV n (L 0) Z k from rfl)
  obtain ⟨y, hy⟩ : ∃ y, y = lessV n (L 0) Z k := ⟨_, rfl⟩
  obtain ⟨b, hbb⟩ : ∃ b, b = bestV n (L 0) Z := ⟨_, rfl⟩
  rw [← hy] at H hr1 HE
  rw [← hbb] at hb hr2 HE
  rw [HE.out]
  have H := Lib.hid H
  have hbl := World.block_lt_of_cell? _ _ hb
  have hw1 : IntKind.i64.wrap (b - y) = b - y := by rw [IntKind.wrap_i64]; omega
  clear OK ha0 h1 hy hbb HE
  go_enter Try.func65, Try.ntmps65
  go_wp2_with (go_at_call 66; refine H.out.mono ?_; rintro e w1 ⟨rfl, hb1⟩; have hb' := (hb1.cell (p := ⟨bb, 0, none⟩) hbl).trans hb; have B1 := Lib.hid hb1; clear hb1)
  go_ret
  exact ⟨rfl, B1.out⟩

set_option maxRecDepth 100000 in
set_option maxHeartbeats 1600000 in
theorem fairHigh_any (n c : Nat) (a : Option Addr) (A : Nat → Option Addr) (L C : Nat → Nat) (Z : Nat → Nat → Int) (w : World) (hn0 : n ≤ 1048576) (hL0 : ∀ r, r < n → L r ≤ 1048576) (ha0 : Tab w a n A L C Z) :
    Calls Try.prog 30 #[.slice a n c] w (RetIB (tt (IsBids n L Z)) (itemsN n L Z) (highP n (L 0) Z) w) := by
  have hba := below_alloc (Below.refl w.heap.size w) (.cells #[.slice a n c] 22)
  have hxa := cell_of_row _ _ 0 _ _ _ (heap_alloc_last w (.cells #[.slice a n c] 22))
  obtain ⟨wa, hwa⟩ : ∃ wa, wa = w.alloc (.cells #[.slice a n c] 22) := ⟨_, rfl⟩
  have hsa : wa.heap.size = w.heap.size + 1 := by rw [hwa]; simp
  have hxa : wa.cell? ⟨w.heap.size, 0, none⟩ = some (.slice a n c) := by rw [hwa]; exact hxa
  rw [← hwa] at hba
  have ha1 := ha0.below (Nat.le_refl _) hba
  have H := Lib.hid (readBids_any n c a A L C Z wa hn0 hL0 ha1)
  by_cases h1 : IsBids n L Z
  · have T1 := Lib.hid (tt_of h1)
    have T2 := Lib.hid (itemsN_yes h1)
    have hm4 := h1.1.2.2
    have HM := Lib.hid (most_all n c (L 0) a A L C Z wa h1.1.1.1 h1.1.1.2 (by omega) h1.rows h1.cells ha1)
    have HI := Lib.hid (fun W (hb : Below wa.heap.size wa W) => bidItems_any n c a A L C Z W (by have := h1.1.1.1; omega) (ha1.below (Nat.le_refl _) hb))
    have HF := Lib.hid (fun W (bb k : Nat) (hb : Below wa.heap.size wa W) (hk : k < L 0) (hbb : W.cell? ⟨bb, 0, none⟩ = some (.int .i64 (bestV n (L 0) Z))) => fairHigh1_any n c a A L C Z w.heap.size bb k W h1 hk ((hb.cell (p := ⟨w.heap.size, 0, none⟩) (by show w.heap.size < _; omega)).trans hxa) hbb (ha1.below (Nat.le_refl _) hb))
    have hmk := run_make_row' (P := Try.prog) 45 3 (.int .i64 0) 8 Try.underlying45 Try.infoInt rfl .i64 .i64 (L 0) (by omega) (by omega)
    have BA := Lib.hid hba
    have SA := Lib.hid hsa
    obtain ⟨m, hm⟩ : ∃ m, m = L 0 := ⟨_, rfl⟩
    rw [← hm] at HM HI HF hmk T2 hm4 ⊢
    clear h1 ha0 ha1 hba hsa hxa hm
    go_enter Try.func30, Try.ntmps30
    go_wp2_with fail
    rw [← hwa]
    clear hwa
    refine H.out.mono ?_
    rintro e w' ⟨rfl, rfl⟩
    rw [T1.out, show bidsV true a n c = .slice a n c from rfl]
    go_wp2_with fail
    refine HM.out.mono ?_
    rintro e w1 ⟨rfl, hb1⟩
    have B1 := Lib.hid hb1
    clear hb1
    go_wp2_with fail
    have hb2 := below_alloc B1.out (.cells #[.int .i64 (bestV n m Z)] 3)
    have hx2 := cell_of_row _ _ 0 _ _ _ (heap_alloc_last w1 (.cells #[.int .i64 (bestV n m Z)] 3))
    obtain ⟨w2, hw2⟩ : ∃ w2, w2 = w1.alloc (.cells #[.int .i64 (bestV n m Z)] 3) := ⟨_, rfl⟩
    have hs2 : w2.heap.size = w1.heap.size + 1 := by rw [hw2]; simp
    rw [← hw2] at hb2 hx2 ⊢
    clear hw2
    have B2 := Lib.hid hb2
    have X2 := Lib.hid hx2
    have S2 := Lib.hid hs2
    clear hb2 hx2 hs2
    refine (HI.out w2 B2.out).mono ?_
    rintro e w' ⟨rfl, rfl⟩
    go_wp2_with fail
    have hO3 := made_ownHigh w2 m 3
    have hb3 := below_alloc (Below.refl w2.heap.size w2) (.cells (madeCells #[.int .i64 0] m) 3)
    obtain ⟨w3, hw3⟩ : ∃ w3, w3 = w2.alloc (.cells (madeCells #[.int .i64 0] m) 3) := ⟨_, rfl⟩
    have hs3 : w3.heap.size = w2.heap.size + 1 := by rw [hw3]; simp
    rw [← hw3] at hb3 hO3 ⊢
    clear hw3 hmk
    have S3 := Lib.hid hs3
    have B3 := Lib.hid hb3
    have HFi := Lib.hid (filledItem_any m m w2.heap.size 65 #[.pointer (some ⟨w.heap.size, 0, none⟩), .pointer (some ⟨w1.heap.size, 0, none⟩)] (enters_of Try.func65 (by kernel_rfl) rfl) (highP n m Z) (fun _ => 0) w3 (by omega) hO3 (fun W k hk hB => by
      have h2 : Below w2.heap.size w2 W := B3.out.trans hB
      exact HF.out W w1.heap.size k (B2.out.trans (h2.mono B2.out.size)) hk ((h2.cell (p := ⟨w1.heap.size, 0, none⟩) (by have := S2.out; show w1.heap.size < _; omega)).trans X2.out)))
    clear hs3 hb3 hO3
    refine HFi.out.mono ?_
    rintro e w4 ⟨rfl, hO, hB⟩
    have HO := Lib.hid hO
    have B4 := Lib.hid (show Below w2.heap.size w2 w4 from B3.out.trans hB)
    have S4 := Lib.hid (show w3.heap.size ≤ w4.heap.size from hB.size)
    clear hO hB
    go_wp2
    go_ret2
    have hs1 := B1.out.size
    have hs2 := S2.out
    have hs3 := S3.out
    have hs4 := S4.out
    have hsa := SA.out
    rw [T1.out, T2.out]
    exact ⟨_, _, rfl, .inr ⟨w2.heap.size, by omega, by omega, HO.out⟩, BA.out.trans ((B2.out.trans (B4.out.mono B2.out.size)).mono (by omega))⟩
  · have T1 := Lib.hid (tt_no h1)
    have T2 := Lib.hid (itemsN_no h1)
    have BA := Lib.hid hba
    clear h1 ha0 ha1 hba hsa hxa
    go_enter Try.func30, Try.ntmps30
    go_wp2_with fail
    rw [← hwa]
    clear hwa
    refine H.out.mono ?_
    rintro e w' ⟨rfl, rfl⟩
    rw [T1.out, show bidsV false a n c = .slice none 0 0 from rfl]
    go_wp2
    go_ret2
    rw [T1.out, T2.out]
    exact ⟨_, _, rfl, .inl rfl, BA.out⟩
end Go.Proofs.Ytaipodnhnekpjaa
