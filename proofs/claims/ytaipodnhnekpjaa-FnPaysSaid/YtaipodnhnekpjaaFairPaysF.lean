/- The program's FairPays. -/
import Derived.Test.YtaipodnhnekpjaaFairAns
import Derived.Test.YtaipodnhnekpjaaFilledBidder
import Derived.Test.YtaipodnhnekpjaaBidWithoutF
import Derived.Test.YtaipodnhnekpjaaOthers
import Derived.Test.YtaipodnhnekpjaaFnBidModel
namespace Go.Proofs.Ytaipodnhnekpjaa
set_option linter.unusedVariables false
set_option linter.unusedSimpArgs false
open Go.RowKit

theorem made_ownPays (w : World) (n t : Nat) : OwnR (w.alloc (.cells (madeCells #[.int .i64 0] n) t)) w.heap.size (some ⟨w.heap.size, 0, none⟩) n (fun _ => 0) := .inr ⟨0, rfl, fun k hk => by
  obtain ⟨cur, h1, h2, h3⟩ := World.rowIs_made w (.int .i64 0) n t
  rw [Nat.zero_add]
  exact ⟨(cell_of_row _ _ k _ _ _ h1).trans (h3 k hk), frozen_of_row _ _ k _ _ h1⟩⟩

theorem fairPays1_any (n c : Nat) (a : Option Addr) (A : Nat → Option Addr) (L C : Nat → Nat) (Z : Nat → Nat → Int) (vb sb db k cd : Nat) (b : Option Addr) (D : Nat → Int) (W : World) (h1 : IsBids n L Z) (hk : k < n) (hD : IsDeal n (L 0) D) (hbest : dealT Z D n = bestV n (L 0) Z) (hv : W.cell? ⟨vb, 0, none⟩ = some (.slice a n c)) (hs : W.cell? ⟨sb, 0, none⟩ = some (.slice a n c)) (hd : W.cell? ⟨db, 0, none⟩ = some (.slice b n cd)) (ha0 : Tab W a n A L C Z) (hb0 : Rd W b n D) :
    Calls Try.prog 70 #[.int .i64 (k : Nat), .pointer (some ⟨vb, 0, none⟩), .pointer (some ⟨sb, 0, none⟩), .pointer (some ⟨db, 0, none⟩)] W fun e W' => e = .returned (.int .i64 (payB n (L 0) Z D k)) ∧ Below W.heap.size W W' := by
  have OK : IsBids n L Z ∧ 0 ≤ (k : Int) ∧ (k : Int) < (n : Int) := ⟨h1, by omega, by omega⟩
  have hn4 := h1.1.1.2
  have H := bidWithout_any n c a A L C Z (k : Nat) W (by omega) (fun r hr => by rw [h1.rows r hr]; have := h1.1.2.2; omega) ha0 (by unfold I64; omega)
  rw [ifT_yes OK, tt_of OK, Int.toNat_natCast] at H
  have HT := Lib.hid (fun W' (hb : Below W.heap.size W W') => totalOfOthers_any n c cd (L 0) k a b A L C Z D W' hk (by omega) h1.rows h1.cells hD.1 (ha0.below (Nat.le_refl _) hb) (hb0.below (Nat.le_refl _) hb))
  have hr2 := best_range h1
  have hr1 : 0 ≤ withoutV n (L 0) Z k ∧ withoutV n (L 0) Z k ≤ 80 := ⟨mostT_nonneg _, by have := without_le (m := L 0) (Z := Z) hk; omega⟩
  have hr3 : 0 ≤ (if D k = -1 then 0 else Z k (D k).toNat) ∧ (if D k = -1 then 0 else Z k (D k).toNat) ≤ 20 := by
    by_cases e : D k = -1
    · rw [if_pos e]; omega
    · rw [if_neg e]; exact h1.cells k hk _ (by have := hD.1 k hk; omega)
  have HE := Lib.hid (show payB n (L 0) Z D k = withoutV n (L 0) Z k - (bestV n (L 0) Z - if D k = -1 then 0 else Z k (D k).toNat) from rfl)
  rw [hbest] at HT
  obtain ⟨y, hy⟩ : ∃ y, y = withoutV n (L 0) Z k := ⟨_, rfl⟩
  obtain ⟨z, hz⟩ : ∃ z, z = bestV n (L 0) Z - (if D k = -1 then 0 else Z k (D k).toNat) := ⟨_, rfl⟩
  have hz2 : -20 ≤ z ∧ z ≤ 80 := by rw [hz]; omega
  rw [← hy] at H hr1 HE
  rw [← hz] at HT HE
  rw [HE.out]
  have H := Lib.hid H
  have hsl := World.block_lt_of_cell? _ _ hs
  have hdl := World.block_lt_of_cell? _ _ hd
  have hw1 : IntKind.i64.wrap (y - z) = y - z := by rw [IntKind.wrap_i64]; omega
  clear OK ha0 h1 hy hz HE hr2 hr3 hb0 hD hbest
  go_enter Try.func70, Try.ntmps70
  go_wp2_with (first
    | (go_at_call 71; refine H.out.mono ?_; rintro e w1 ⟨rfl, hb1⟩; have hs' := (hb1.cell (p := ⟨sb, 0, none⟩) hsl).trans hs; have hd' := (hb1.cell (p := ⟨db, 0, none⟩) hdl).trans hd; have B1 := Lib.hid hb1; clear hb1)
    | (go_at_call 72; refine (HT.out _ B1.out).mono ?_; rintro e w2 ⟨rfl, hb2⟩; have B2 := Lib.hid (B1.out.trans (hb2.mono B1.out.size)); clear hb2))
  go_ret
  exact ⟨rfl, B2.out⟩

set_option maxRecDepth 100000 in
set_option maxHeartbeats 1600000 in
theorem fairPays_any (n c : Nat) (a : Option Addr) (A : Nat → Option Addr) (L C : Nat → Nat) (Z : Nat → Nat → Int) (w : World) (hn0 : n ≤ 1048576) (hL0 : ∀ r, r < n → L r ≤ 1048576) (ha0 : Tab w a n A L C Z) :
    Calls Try.prog 32 #[.slice a n c] w (RetIB (tt (IsBids n L Z)) (firstN n L Z) (payB n (L 0) Z (nth (firstD n (L 0) Z))) w) := by
  have hba := below_alloc (Below.refl w.heap.size w) (.cells #[.slice a n c] 22)
  have hxa := cell_of_row _ _ 0 _ _ _ (heap_alloc_last w (.cells #[.slice a n c] 22))
  obtain ⟨wa, hwa⟩ : ∃ wa, wa = w.alloc (.cells #[.slice a n c] 22) := ⟨_, rfl⟩
  have hsa : wa.heap.size = w.heap.size + 1 := by rw [hwa]; simp
  rw [← hwa] at hba hxa
  have ha1 := ha0.below (Nat.le_refl _) hba
  have H := Lib.hid (readBids_any n c a A L C Z wa hn0 hL0 ha1)
  by_cases h1 : IsBids n L Z
  · have T1 := Lib.hid (tt_of h1)
    have T2 := Lib.hid (firstN_yes h1)
    have hn1 := h1.1.1.1
    have hn4 := h1.1.1.2
    have hbb := below_alloc (Below.refl wa.heap.size wa) (.cells #[.slice a n c] 44)
    have hxb := cell_of_row _ _ 0 _ _ _ (heap_alloc_last wa (.cells #[.slice a n c] 44))
    obtain ⟨wb, hwb⟩ : ∃ wb, wb = wa.alloc (.cells #[.slice a n c] 44) := ⟨_, rfl⟩
    have hsb : wb.heap.size = w.heap.size + 2 := by rw [hwb]; simp [hsa]
    rw [← hwb] at hbb hxb
    rw [hsa] at hxb
    have hxa' := (hbb.cell (p := ⟨w.heap.size, 0, none⟩) (by show w.heap.size < _; omega)).trans hxa
    have hab := ha1.below (Nat.le_refl _) hbb
    have HB := Lib.hid (best_any n c (L 0) a A L C Z wb hn1 hn4 (by have := h1.1.2.2; omega) h1.rows h1.cells hab _ #[] (enters_of Try.func60 (by kernel_rfl) rfl) (fun _ => true) (fun W D aD cD _ _ _ => anyDeal_gives _ W) rfl)
    rw [show (dealsP (L 0) n).filter (fun _ => true) = dealsP (L 0) n from List.filter_eq_self.2 fun _ _ => rfl] at HB
    obtain ⟨hfd, hft⟩ := firstD_is h1
    have HF := Lib.hid (fun W (db k G cd : Nat) (hb : Below wb.heap.size wb W) (hk : k < n) (hdb : W.cell? ⟨db, 0, none⟩ = some (.slice (some ⟨G, 0, none⟩) n cd)) (hr : Rd W (some ⟨G, 0, none⟩) n (nth (firstD n (L 0) Z))) => fairPays1_any n c a A L C Z w.heap.size (w.heap.size + 1) db k cd (some ⟨G, 0, none⟩) _ W h1 hk hfd hft ((hb.cell (p := ⟨w.heap.size, 0, none⟩) (by show w.heap.size < _; omega)).trans hxa') ((hb.cell (p := ⟨w.heap.size + 1, 0, none⟩) (by show w.heap.size + 1 < _; omega)).trans hxb) hdb (hab.below (Nat.le_refl _) hb) hr)
    have hmk := run_make_row' (P := Try.prog) 64 3 (.int .i64 0) 8 Try.underlying64 Try.infoInt rfl .i64 .i64 n (by omega) (by omega)
    have BA := Lib.hid (show Below w.heap.size w wb from hba.trans (hbb.mono (by omega)))
    have SA := Lib.hid hsb
    have XB := Lib.hid hxb
    have QF := Lib.hid (show firstD n (L 0) Z = (bestsL n Z (dealsP (L 0) n)).getD 0 [] from rfl)
    obtain ⟨m, hm⟩ : ∃ m, m = L 0 := ⟨_, rfl⟩
    rw [← hm] at HB HF QF ⊢
    clear h1 ha0 ha1 hab hba hbb hsa hsb hxa hxa' hxb hm hfd hft
    go_enter Try.func32, Try.ntmps32
    go_wp2_with fail
    rw [← hwa]
    refine H.out.mono ?_
    rintro e w' ⟨rfl, rfl⟩
    rw [T1.out, show bidsV true a n c = .slice a n c from rfl]
    go_wp2_with fail
    rw [← hwa, ← hwb]
    refine HB.out.mono ?_
    intro e w1 hret
    obtain ⟨g, cap, M, G, c2, rfl, hM0, _, hc, hG1, hG2, hown, hin, hb⟩ := hret.first (dealsP_none n)
    rw [← QF.out] at hown
    have HO := Lib.hid (And.intro hG1 (And.intro hG2 hown))
    have B1 := Lib.hid hb
    have hz : (0 : Int) < (M : Int) := by omega
    have hb2 := below_alloc (Below.refl w1.heap.size w1) (.cells #[.slice (some ⟨G, 0, none⟩) n c2] 23)
    have hx2 := cell_of_row _ _ 0 _ _ _ (heap_alloc_last w1 (.cells #[.slice (some ⟨G, 0, none⟩) n c2] 23))
    have hcb2 := (hb2.cell (p := ⟨w.heap.size + 1, 0, none⟩) (by have := SA.out; have := hb.size; show w.heap.size + 1 < _; omega)).trans ((hb.cell (p := ⟨w.heap.size + 1, 0, none⟩) (by have := SA.out; show w.heap.size + 1 < _; omega)).trans XB.out)
    have hs2 : (w1.alloc (.cells #[.slice (some ⟨G, 0, none⟩) n c2] 23)).heap.size = w1.heap.size + 1 := by simp
    have B2 := Lib.hid hb2
    have X2 := Lib.hid hx2
    have S2 := Lib.hid hs2
    clear hret hown hin hb hG1 hG2 HB hwa hwb hb2 hx2 hs2
    go_wp2_with fail
    obtain ⟨w2, hw2⟩ : ∃ w2, w2 = w1.alloc (.cells #[.slice (some ⟨G, 0, none⟩) n c2] 23) := ⟨_, rfl⟩
    rw [← hw2] at B2 X2 S2 ⊢
    clear hcb2 hw2
    have hO3 := made_ownPays w2 n 3
    have hb3 := below_alloc (Below.refl w2.heap.size w2) (.cells (madeCells #[.int .i64 0] n) 3)
    obtain ⟨w3, hw3⟩ : ∃ w3, w3 = w2.alloc (.cells (madeCells #[.int .i64 0] n) 3) := ⟨_, rfl⟩
    have hs3 : w3.heap.size = w2.heap.size + 1 := by rw [hw3]; simp
    rw [show w1.heap.size + 1 = w2.heap.size from S2.out.symm]
    rw [← hw3] at hb3 hO3 ⊢
    clear hw3 hmk
    have S3 := Lib.hid hs3
    have B3 := Lib.hid hb3
    have HFi := Lib.hid (filledBidder_any n n w2.heap.size 70 #[.pointer (some ⟨w.heap.size, 0, none⟩), .pointer (some ⟨w.heap.size + 1, 0, none⟩), .pointer (some ⟨w1.heap.size, 0, none⟩)] (enters_of Try.func70 (by kernel_rfl) rfl) (payB n m Z (nth (firstD n m Z))) (fun _ => 0) w3 (by omega) hO3 (fun W k hk hB => by
      have h2 : Below w2.heap.size w2 W := B3.out.trans hB
      have h1 : Below w1.heap.size w1 W := B2.out.trans (h2.mono B2.out.size)
      have h0 : Below wb.heap.size wb W := B1.out.trans (h1.mono B1.out.size)
      exact HF.out W w1.heap.size k G c2 h0 hk ((h2.cell (p := ⟨w1.heap.size, 0, none⟩) (by have := S2.out; show w1.heap.size < _; omega)).trans X2.out) (HO.out.2.2.rd.below (Nat.le_refl _) h1)))
    clear hs3 hb3 hO3
    refine HFi.out.mono ?_
    rintro e w4 ⟨rfl, hO, hB⟩
    have HO4 := Lib.hid hO
    have B4 := Lib.hid (show Below w2.heap.size w2 w4 from B3.out.trans hB)
    have S4 := Lib.hid (show w3.heap.size ≤ w4.heap.size from hB.size)
    clear hO hB
    go_wp2
    go_ret2
    have hs1 := B1.out.size
    have hs2 := S2.out
    have hs3 := S3.out
    have hs4 := S4.out
    have hsa := SA.out
    rw [T1.out, T2.out]
    exact ⟨_, _, rfl, .inr ⟨w2.heap.size, by omega, by omega, HO4.out⟩, BA.out.trans ((B1.out.trans ((B2.out.trans (B4.out.mono B2.out.size)).mono B1.out.size)).mono (by omega))⟩
  · have T1 := Lib.hid (tt_no h1)
    have T2 := Lib.hid (firstN_no h1)
    have BA := Lib.hid hba
    clear h1 ha0 ha1 hba hsa hxa
    go_enter Try.func32, Try.ntmps32
    go_wp2_with fail
    rw [← hwa]
    clear hwa
    refine H.out.mono ?_
    rintro e w' ⟨rfl, rfl⟩
    rw [T1.out, show bidsV false a n c = .slice none 0 0 from rfl]
    go_wp2
    go_ret2
    rw [T1.out, T2.out]
    exact ⟨_, _, rfl, .inl rfl, below_alloc BA.out _⟩
end Go.Proofs.Ytaipodnhnekpjaa
