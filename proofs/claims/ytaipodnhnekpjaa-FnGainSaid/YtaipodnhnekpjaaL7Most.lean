/- The model's l7Items, l7Deals, l7Total, l7Most, l7Best. -/
import Derived.Test.YtaipodnhnekpjaaDealsWay
import Derived.Test.YtaipodnhnekpjaaAppendRows
import Derived.Test.YtaipodnhnekpjaaInfoInts
import Derived.Test.YtaipodnhnekpjaaDelKit
import Derived.Test.YtaipodnhnekpjaaProg
import Derived.BigQuiet
import Derived.Lib.MinMax
/- The model's l7Items: one of each item, with another number of one of them. -/
namespace Go.Proofs.Ytaipodnhnekpjaa
set_option linter.unusedVariables false
set_option linter.unusedSimpArgs false
open Go.RowKit

theorem cellsL_next {X : Nat → Int} (q : Nat) {x : Int} (h : X q = x) : cellsL q X ++ [.int .i64 x] = cellsL (q + 1) X := by
  rw [cellsL_snoc]
  unfold cellsL
  refine List.map_congr_left fun k hk => ?_
  have := List.mem_range.1 hk
  dsimp only
  by_cases e : k < q
  · rw [if_pos e]
  · rw [if_neg e, ← h, show k = q by omega]

set_option maxRecDepth 100000 in
set_option maxHeartbeats 1600000 in
theorem l7Items_any (n c m k : Nat) (a : Option Addr) (A : Nat → Option Addr) (L C : Nat → Nat) (Z : Nat → Nat → Int) (y : Int) (w : World) (hn1 : 1 ≤ n) (hm : m = L 0) (hm1 : 1 ≤ m) (hm4 : m ≤ 4) (hk : k ≤ 1000) (ha0 : Tab w a n A L C Z) :
    Calls Try.prog 56 #[.slice a n c, .int .i64 (k : Nat), .int .i64 y] w (RetI m (itemsX k y) w) := by
  obtain ⟨i0, hi, hz0, hz1, hz2⟩ := info_parts Try.infoInt
  obtain ⟨ba, oa, rfl, hc0, _⟩ := ha0 0 hn1
  rw [Nat.add_zero, ← hm] at hc0
  have HC0 := Lib.hid hc0
  have O0 := Lib.hid (show (w.alloc (.cells #[] 3)).ownsRow w.heap.size 3 1 (.slice (some ⟨w.heap.size, 0, none⟩) 0 0) 0 (cellsL 0 (itemsX k y)) from World.ownsRow_made w #[] 0 (Nat.le_refl _) (Nat.zero_le _) (by simp))
  have hn0 : (0 : Int) < (n : Int) := by omega
  clear ha0 hc0 hm
  go_enter Try.func56, Try.ntmps56
  go_wp2
  go_loopw [7, 8] (fun o i wr => ∃ (q : Nat) (v : Value), q ≤ m ∧ i = .int .i64 q ∧ v = o ∧ wr.ownsRow w.heap.size 3 1 v q (cellsL q (itemsX k y)) ∧ Below w.heap.size w wr) (fun _ i _ => m - (intOf i).toNat)
  case atStart => exact ⟨0, _, Nat.zero_le _, rfl, rfl, O0.out, below_alloc (Below.refl _ _) _⟩
  case round =>
    obtain ⟨q, v, hq, rfl, rfl, hO, hB⟩ := hrel
    have HO := Lib.hid hO
    have HB := Lib.hid hB
    have hc0 := (hB.cell (p := ⟨ba, oa, none⟩) (World.block_lt_of_cell? _ _ HC0.out)).trans HC0.out
    have hsz := hB.size
    clear hO hB O0
    by_cases hlt : q < m
    · by_cases he : q = k
      · have d1 : ((q : Int) == (k : Int)) = true := by simp [he]
        have EX := Lib.hid (cellsL_next (X := itemsX k y) q (x := y) (by unfold itemsX; rw [if_pos he]))
        clear he
        go_wp2_with (at_builtin; refine wpList_append_gen _ (by rfl) (.tmp 21) (.tmp 23) 23 (by rfl) w.heap.size 3 i0 (.int .i64 0) 8 Try.underlying23 hi hz0 hz1 hz2 (by rfl) v q _ (by rfl) (HO.out.alloc _) ⟨_, 0, none⟩ 1 1 [.int .i64 y] (by rfl) (by rfl) (news_one (by simp)) (by simp [Value.oneCell']) (by unfold maxLen; omega) (by omega) (by simp; omega) ?_; intro v2 w2 hown2 hgrow2 hat2; have O2 := Lib.hid hown2; have G2 := Lib.hid hgrow2; clear hown2 hgrow2 hat2)
        go_roundw
        case rel => exact ⟨q + 1, v2, by omega, by go_num, rfl, by rw [← EX.out]; exact O2.out, (below_alloc HB.out _).grown G2.out (by simp; omega) (fun x hx => (HO.out.lt x hx).1)⟩
        case measure => simp [intOf]; omega
      · have d1 : ((q : Int) == (k : Int)) = false := beq_eq_false_iff_ne.2 (by omega)
        have EX := Lib.hid (cellsL_next (X := itemsX k y) q (x := 1) (by unfold itemsX; rw [if_neg he]))
        clear he
        go_wp2_with (at_builtin; refine wpList_append_gen _ (by rfl) (.tmp 25) (.tmp 26) 23 (by rfl) w.heap.size 3 i0 (.int .i64 0) 8 Try.underlying23 hi hz0 hz1 hz2 (by rfl) v q _ (by rfl) (HO.out.alloc _) ⟨_, 0, none⟩ 1 1 [.int .i64 1] (by rfl) (by rfl) (news_one (by simp)) (by simp [Value.oneCell']) (by unfold maxLen; omega) (by omega) (by simp; omega) ?_; intro v2 w2 hown2 hgrow2 hat2; have O2 := Lib.hid hown2; have G2 := Lib.hid hgrow2; clear hown2 hgrow2 hat2)
        go_roundw
        case rel => exact ⟨q + 1, v2, by omega, by go_num, rfl, by rw [← EX.out]; exact O2.out, (below_alloc HB.out _).grown G2.out (by simp; omega) (fun x hx => (HO.out.lt x hx).1)⟩
        case measure => simp [intOf]; omega
    · obtain rfl : q = m := by omega
      obtain ⟨g, cap, rfl⟩ := owns_form HO.out (by omega)
      go_wp2
      go_ret
      have hlt := HO.out.lt g rfl
      exact ⟨g, cap, rfl, ⟨hlt.1, hlt.2, (owns_fits HO.out).1⟩, OwnR.of_owns HO.out, HB.out⟩
end Go.Proofs.Ytaipodnhnekpjaa

/- The model's l7Deals: all deals that begin so. -/
namespace Go.Proofs.Ytaipodnhnekpjaa
set_option linter.unusedVariables false
set_option linter.unusedSimpArgs false
open Go.RowKit

/-- Those whose next item is below k. -/
def dealsTo (m f : Nat) (B : List Int) (X : Nat → Int) (k : Nat) : List (List Int) := deals m f (B ++ [-1]) X ++ (List.range k).flatMap fun (j : Nat) => if 0 < X j then deals m f (B ++ [(j : Int)]) (lessX X j) else []
section
variable {m f k : Nat} {B : List Int} {X : Nat → Int}
theorem deals_succ : deals m (f + 1) B X = dealsTo m f B X m := rfl
theorem dealsTo_zero : dealsTo m f B X 0 = deals m f (B ++ [-1]) X := by unfold dealsTo; simp
theorem dealsTo_no (h : ¬ 0 < X k) : dealsTo m f B X (k + 1) = dealsTo m f B X k := by
  unfold dealsTo
  rw [List.range_succ, List.flatMap_append]
  simp [h]
theorem dealsTo_yes (h : 0 < X k) : dealsTo m f B X (k + 1) = dealsTo m f B X k ++ deals m f (B ++ [(k : Int)]) (lessX X k) := by
  unfold dealsTo
  rw [List.range_succ, List.flatMap_append, List.append_assoc]
  simp [h]
theorem flatN_le {g : Nat → List (List Int)} {q : Nat} : ∀ {l : List Nat}, (∀ x, x ∈ l → (g x).length ≤ q) → (l.flatMap g).length ≤ l.length * q
  | [], _ => by simp
  | x :: l, h => by
    rw [List.flatMap_cons, List.length_append, List.length_cons, Nat.add_mul]
    have h1 := h x (by simp)
    have h2 := flatN_le (g := g) (q := q) (l := l) fun y hy => h y (by simp [hy])
    omega
theorem deals_le (hm : m ≤ 4) : ∀ (f : Nat) (B : List Int) (X : Nat → Int), (deals m f B X).length ≤ 5 ^ f
  | 0, B, X => by simp [deals]
  | f + 1, B, X => by
    have h1 := deals_le hm f (B ++ [-1]) X
    have h2 := flatN_le (g := fun (j : Nat) => if 0 < X j then deals m f (B ++ [(j : Int)]) (lessX X j) else []) (q := 5 ^ f) (l := List.range m) (fun x _ => by
      by_cases h : 0 < X x
      · simp only [h, if_true]; exact deals_le hm f _ _
      · simp [h])
    rw [List.length_range] at h2
    have h3 : m * 5 ^ f ≤ 4 * 5 ^ f := Nat.mul_le_mul_right _ hm
    show (deals m f (B ++ [-1]) X ++ _).length ≤ 5 ^ (f + 1)
    rw [List.length_append, Nat.pow_succ]
    omega
theorem dealsTo_le (hm : m ≤ 4) (hk : k ≤ m) : (dealsTo m f B X k).length ≤ 5 ^ (f + 1) := by
  have h1 := deals_le hm f (B ++ [-1]) X
  have h2 := flatN_le (g := fun (j : Nat) => if 0 < X j then deals m f (B ++ [(j : Int)]) (lessX X j) else []) (q := 5 ^ f) (l := List.range k) (fun x _ => by
    by_cases h : 0 < X x
    · simp only [h, if_true]; exact deals_le hm f _ _
    · simp [h])
  rw [List.length_range] at h2
  have h3 : k * 5 ^ f ≤ 4 * 5 ^ f := Nat.mul_le_mul_right _ (by omega)
  unfold dealsTo
  rw [List.length_append, Nat.pow_succ]
  omega
theorem less_range (hX : ∀ j, j < m → 0 ≤ X j ∧ X j ≤ 2) (h : 0 < X k) : ∀ j, j < m → 0 ≤ lessX X k j ∧ lessX X k j ≤ 2 := fun j hj => by
  unfold lessX
  have := hX j hj
  by_cases e : j = k
  · rw [if_pos e]; subst e; omega
  · rw [if_neg e]; exact this
end

set_option maxRecDepth 100000 in
set_option maxHeartbeats 3200000 in
theorem l7Deals_any (n c m : Nat) (a : Option Addr) (hn : n ≤ 4) (hm1 : 1 ≤ m) (hm : m ≤ 4) (f : Nat) : ∀ (B : List Int) (X : Nat → Int) (q cb ba oa c2 : Nat) (a2 : Option Addr) (w : World), q = B.length → q + f = n → (∀ k, k < m → 0 ≤ X k ∧ X k ≤ 2) → ba < w.heap.size → Rd w (some ⟨ba, oa, none⟩) q (nth B) → Rd w a2 m X →
    Calls Try.prog 90 #[.slice a n c, .slice (some ⟨ba, oa, none⟩) q cb, .slice a2 m c2] w (RetLS 23 (deals m f B X) w) := by
  obtain ⟨i0, hi, hz0, hz1, hz2⟩ := info_parts Try.infoInt
  obtain ⟨i1, hj, hy0, hy1, hy2⟩ := info_parts Try.infoInts
  induction f using Nat.strongRecOn with
  | ind f ih =>
    intro B X q cb ba oa c2 a2 w hq hqf hX hba hB hX2
    have IH := Lib.hid ih
    have HB := Lib.hid hB
    have HX := Lib.hid hX
    have HX2 := Lib.hid hX2
    have QB := Lib.hid hq
    clear ih hB hX hX2 hq
    by_cases hf0 : f = 0
    · have hz : ((q : Int) == (n : Int)) = true := by simp; omega
      have HE := Lib.hid (show deals m f B X = [B] by rw [hf0]; rfl)
      clear hf0
      go_enter Try.func90, Try.ntmps90
      go_wp2_with (at_builtin; refine wpList_append_rows _ (by rfl) (.tmp 15) (.tmp 16) 23 (by rfl) w.heap.size 3 i0 (.int .i64 0) 8 Try.underlying23 hi hz0 hz1 hz2 (by rfl) w.heap.size 0 0 [] (by rfl) (World.ownsRow_made w #[] 0 (Nat.le_refl _) (Nat.zero_le _) (by simp)) ⟨ba, oa, none⟩ q cb (cellsL q (nth B)) (by rfl) (cellsL_length _ _) (HB.out.news (below_alloc (Below.refl _ _) _)) (cellsL_one _ _) (by unfold maxLen; omega) (by omega) (by simp) _ rfl ?_; intro g1 cap1 w2 hown1 hgrow1 hat1; simp only [Nat.zero_add, List.nil_append] at hown1 ⊢; have hl1 := hown1.lt g1 rfl; have O1 := Lib.hid (OwnR.of_owns hown1); have B2 := Lib.hid ((below_alloc (Below.refl w.heap.size w) (.cells #[] 3)).grown hgrow1 (by simp) (fun k h => by cases h; exact Nat.le_refl _)); clear hown1 hgrow1 hat1)
      go_ret
      have hs := B2.out.size
      refine ⟨w2.heap.size, 1, fun _ => g1, fun _ => cap1, by rw [HE.out]; rfl, ?_, below_alloc B2.out _⟩
      rw [HE.out]
      refine ⟨⟨rfl, .inr ⟨w2.heap.size, 1, _, rfl, hs, heap_alloc_last w2 _, Nat.le_refl _, by unfold maxLen; omega, rfl, ?_⟩⟩, fun r hr => ?_, fun r s hr hs' hne => ?_⟩
      · show _ = [Value.slice (some ⟨g1, 0, none⟩) (lenL [B] 0) cap1]
        rw [show lenL [B] 0 = q from QB.out.symm]
        rfl
      · obtain rfl : r = 0 := by have h : r < 1 := hr; omega
        refine ⟨hl1.1, by simp; omega, fun h => by have h : w2.heap.size = g1 := Option.some.inj h; omega, ?_⟩
        rw [show lenL [B] 0 = q from QB.out.symm]
        exact O1.out.of_block (Below.heap_alloc _ _ _ hl1.2)
      · have h1 : r < 1 := hr
        have h2 : s < 1 := hs'
        omega
    · have hz : ((q : Int) == (n : Int)) = false := beq_eq_false_iff_ne.2 (by omega)
      obtain ⟨f', rfl⟩ : ∃ f', f = f' + 1 := ⟨f - 1, by omega⟩
      have HLE := Lib.hid (fun k (hk : k ≤ m) => Nat.le_trans (dealsTo_le (f := f') (B := B) (X := X) hm hk) (Nat.pow_le_pow_right (show 0 < 5 by omega) (show f' + 1 ≤ 4 by omega)))
      clear hf0
      go_enter Try.func90, Try.ntmps90
      go_wp2_with (first
        | (at_builtin; refine wpList_append_rows _ (by rfl) (.tmp 20) (.tmp 21) 23 (by rfl) w.heap.size 3 i0 (.int .i64 0) 8 Try.underlying23 hi hz0 hz1 hz2 (by rfl) w.heap.size 0 0 [] (by rfl) (World.ownsRow_made w #[] 0 (Nat.le_refl _) (Nat.zero_le _) (by simp)) ⟨ba, oa, none⟩ q cb (cellsL q (nth B)) (by rfl) (cellsL_length _ _) (HB.out.news (below_alloc (Below.refl _ _) _)) (cellsL_one _ _) (by unfold maxLen; omega) (by omega) (by simp) _ rfl ?_; intro g1 cap1 w2 hown1 hgrow1 hat1; simp only [Nat.zero_add, List.nil_append] at hown1 ⊢; have hl1 := hown1.lt g1 rfl; have HO1 := Lib.hid hown1; have B2 := Lib.hid ((below_alloc (Below.refl w.heap.size w) (.cells #[] 3)).grown hgrow1 (by simp) (fun k h => by cases h; exact Nat.le_refl _)); clear hown1 hgrow1 hat1)
        | (at_builtin; refine wpList_append_rows _ (by rfl) (.tmp 22) (.tmp 23) 23 (by rfl) w.heap.size 3 i0 (.int .i64 0) 8 Try.underlying23 hi hz0 hz1 hz2 (by rfl) g1 q cap1 (cellsL q (nth B)) (by rfl) (HO1.out.alloc _) ⟨_, 0, none⟩ 1 1 [.int .i64 (-1)] (by rfl) (by rfl) (news_one (by simp)) (by simp [Value.oneCell']) (by unfold maxLen; omega) (by omega) (by have := B2.out.size; simp; omega) _ rfl ?_; intro g2 cap2 w3 hown2 hgrow2 hat2; have hl2 := hown2.lt g2 rfl; have B3 := Lib.hid ((below_alloc B2.out (.cells #[.int .i64 (-1)] 3)).grown hgrow2 (by have := B2.out.size; simp; omega) (fun x hx => by cases hx; exact hl1.1)); rw [cellsL_snoc] at hown2; have RD := Lib.hid (owns_rd hown2); clear hown2 hgrow2 hat2 HO1)
        | (go_at_call 90; refine (IH.out f' (by omega) (B ++ [-1]) X (q + 1) _ g2 0 _ _ _ (by rw [List.length_append, ← QB.out]; rfl) (by omega) HX.out hl2.2 (RD.out.congr fun j hj => by rw [QB.out] at hj ⊢; exact (snoc_nth hj).symm) (HX2.out.below (Nat.le_refl _) B3.out)).mono ?_; rintro e w4 ⟨g', cap', G', Cp', rfl, hM', hB'⟩; have M4 := Lib.hid (hM'.lower B3.out.size); have B4 := Lib.hid (B3.out.trans (hB'.mono B3.out.size)); clear hM' hB'))
      go_loopw [7, 8] (fun out s wr => ∃ k : Nat, k ≤ m ∧ s = .int .i64 k ∧ ∃ go co G Cp, out = .slice (some ⟨go, 0, none⟩) (dealsTo m f' B X k).length co ∧ Making 23 w.heap.size wr (.slice (some ⟨go, 0, none⟩) (dealsTo m f' B X k).length co) (dealsTo m f' B X k).length G Cp (lenL (dealsTo m f' B X k)) (nthL (dealsTo m f' B X k)) ∧ Below w.heap.size w wr) (fun _ s _ => m - (intOf s).toNat)
      case atStart => exact ⟨0, Nat.zero_le _, rfl, g', cap', G', Cp', by rw [dealsTo_zero], by rw [dealsTo_zero]; exact M4.out, B4.out⟩
      case round =>
        obtain ⟨k, hk, rfl, go, co, G, Cp, rfl, hM, hBw⟩ := hrel
        clear M4 B4 RD B3 B2
        by_cases hlt : k < m
        · obtain ⟨N, hN⟩ : ∃ N, N = (dealsTo m f' B X k).length := ⟨_, rfl⟩
          have hN6 : N ≤ 625 := by rw [hN]; exact HLE.out k hk
          rw [← hN] at hM
          rw [← hN]
          have QN := Lib.hid hN
          have HMk := Lib.hid hM
          have BW := Lib.hid hBw
          obtain ⟨b2, o2, rfl, hcx⟩ := (HX2.out.below (Nat.le_refl _) hBw) k hlt
          obtain ⟨x, hx⟩ : ∃ x, x = X k := ⟨_, rfl⟩
          have hxr := HX.out k hlt
          rw [← hx] at hcx hxr
          have QX := Lib.hid hx
          clear hM hBw hN hx
          by_cases hpos : x > 0
          · have d1 : decide (x > 0) = true := by simpa using hpos
            have hw1 : IntKind.i64.wrap (x - 1) = x - 1 := by rw [IntKind.wrap_i64]; omega
            have GO := Lib.hid (show 0 < X k by rw [← QX.out]; exact hpos)
            have k0 : (0 : Int) ≤ (k : Int) := by omega
            have k1 : (k : Int) < (m : Int) := by omega
            clear hpos
            obtain ⟨M, hMM⟩ : ∃ M, M = (deals m f' (B ++ [(k : Int)]) (lessX X k)).length := ⟨_, rfl⟩
            have hM6 : M ≤ 625 := by rw [hMM]; exact Nat.le_trans (deals_le hm _ _ _) (Nat.pow_le_pow_right (show 0 < 5 by omega) (show f' ≤ 4 by omega))
            have QM := Lib.hid hMM
            clear hMM
            go_wp2_with (first
              | (at_builtin; refine wpList_append_rows _ (by rfl) (.tmp 38) (.tmp 39) 23 (by rfl) wr.heap.size 3 i0 (.int .i64 0) 8 Try.underlying23 hi hz0 hz1 hz2 (by rfl) wr.heap.size 0 0 [] (by rfl) (World.ownsRow_made wr #[] 0 (Nat.le_refl _) (Nat.zero_le _) (by simp)) ⟨b2, o2, none⟩ m c2 (cellsL m X) (by rfl) (cellsL_length _ _) (HX2.out.news (below_alloc BW.out _)) (cellsL_one _ _) (by unfold maxLen; omega) (by omega) (by simp) _ rfl ?_; intro g9 cap9 w2 hown9 hgrow9 hat9; simp only [Nat.zero_add, List.nil_append] at hown9 ⊢; have hl9 := hown9.lt g9 rfl; have O9 := Lib.hid (OwnR.of_owns hown9); have B9 := Lib.hid ((below_alloc (Below.refl wr.heap.size wr) (.cells #[] 3)).grown hgrow9 (by simp) (fun k h => by cases h; exact Nat.le_refl _)); obtain ⟨hc9, hf9⟩ := O9.out.at hlt; rw [← QX.out] at hc9; clear hown9 hgrow9 hat9)
              | (at_builtin; obtain ⟨w3, hw3⟩ : ∃ w3, w3 = w2.setCell ⟨g9, k, none⟩ (.int .i64 (x - 1)) := ⟨_, rfl⟩; rw [← hw3]; have O3 := Lib.hid (show OwnR w3 g9 (some ⟨g9, 0, none⟩) m (lessX X k) from by rw [hw3]; exact (O9.out.set hlt (x - 1)).congr fun j hj => by unfold lessX; rw [QX.out]; by_cases e : j = k <;> simp [e]); have B3 := Lib.hid (show Below wr.heap.size wr w3 from by rw [hw3]; exact B9.out.setCell hl9.1 _); have S3 := Lib.hid (show w3.heap.size = w2.heap.size by rw [hw3]; simp [World.setCell]); have OM := Lib.hid (show (w3.alloc (.cells #[] 3)).ownsRow w3.heap.size 3 1 (.slice (some ⟨w2.heap.size, 0, none⟩) 0 0) 0 [] from by rw [← S3.out]; exact World.ownsRow_made w3 #[] 0 (Nat.le_refl _) (Nat.zero_le _) (by simp)); clear hw3 hc9 hf9 O9 B9; refine wpList_append_rows _ (by rfl) (.tmp 51) (.tmp 52) 23 (by rfl) w3.heap.size 3 i0 (.int .i64 0) 8 Try.underlying23 hi hz0 hz1 hz2 (by rfl) w2.heap.size 0 0 [] (by rfl) OM.out ⟨ba, oa, none⟩ q cb (cellsL q (nth B)) (by rfl) (cellsL_length _ _) (HB.out.news (below_alloc (BW.out.trans (B3.out.mono BW.out.size)) _)) (cellsL_one _ _) (by unfold maxLen; omega) (by omega) (by simp) _ rfl ?_; intro g1 cap1 w4 hown1 hgrow1 hat1; simp only [Nat.zero_add, List.nil_append] at hown1 ⊢; have hl1 := hown1.lt g1 rfl; have HO1 := Lib.hid hown1; have B4 := Lib.hid ((below_alloc (Below.refl w3.heap.size w3) (.cells #[] 3)).grown hgrow1 (by simp) (fun k h => by cases h; rw [S3.out]; exact Nat.le_refl _)); clear hown1 hgrow1 hat1)
              | (at_builtin; refine wpList_append_rows _ (by rfl) (.tmp 53) (.tmp 55) 23 (by rfl) w3.heap.size 3 i0 (.int .i64 0) 8 Try.underlying23 hi hz0 hz1 hz2 (by rfl) g1 q cap1 (cellsL q (nth B)) (by rfl) (HO1.out.alloc _) ⟨_, 0, none⟩ 1 1 [.int .i64 (k : Nat)] (by rfl) (by rfl) (news_one (by simp)) (by simp [Value.oneCell']) (by unfold maxLen; omega) (by omega) (by have := B4.out.size; simp; omega) _ rfl ?_; intro g2 cap2 w5 hown2 hgrow2 hat2; have hl2 := hown2.lt g2 rfl; have B5 := Lib.hid ((below_alloc B4.out (.cells #[.int .i64 (k : Nat)] 3)).grown hgrow2 (by have := B4.out.size; simp; omega) (fun x hx => by cases hx; exact hl1.1)); rw [cellsL_snoc] at hown2; have RD := Lib.hid (owns_rd hown2); clear hown2 hgrow2 hat2 HO1)
              | (go_at_call 90; refine (IH.out f' (by omega) (B ++ [(k : Int)]) (lessX X k) (q + 1) _ g2 0 _ _ _ (by rw [List.length_append, ← QB.out]; rfl) (by omega) (less_range HX.out GO.out) hl2.2 (RD.out.congr fun j hj => by rw [QB.out] at hj ⊢; exact (snoc_nth hj).symm) (O3.out.rd.below (Nat.le_refl _) B5.out)).mono ?_; rintro e w6 ⟨g', cap', G', Cp', rfl, hM', hB'⟩; rw [← QM.out] at hM' ⊢; have M6 := Lib.hid hM'; have B6 := Lib.hid (B3.out.trans ((B5.out.trans (hB'.mono B5.out.size)).mono B3.out.size)); have hs6 := hB'.size; have hs5 := B5.out.size; have hs3 := B3.out.size; clear hM' hB')
              | (at_builtin; refine wpList_append_rows _ (by rfl) (.tmp 49) (.tmp 58) 22 (by rfl) w.heap.size 23 i1 (.slice none 0 0) 24 Try.underlying22 hj hy0 hy1 hy2 (by rfl) go N co ((List.range N).map fun r => .slice (some ⟨G r, 0, none⟩) (lenL (dealsTo m f' B X k) r) (Cp r)) (by rfl) (HMk.out.below B6.out).1 ⟨g', 0, none⟩ M cap' ((List.range M).map fun r => .slice (some ⟨G' r, 0, none⟩) (lenL (deals m f' (B ++ [(k : Int)]) (lessX X k)) r) (Cp' r)) (by rfl) (by simp) (fun j u hu => M6.out.1.cells (g := g') rfl j u hu) (fun u hu => by obtain ⟨r, _, rfl⟩ := List.mem_map.1 hu; rfl) (by unfold maxLen; omega) (by omega) (by have := BW.out.size; omega) _ rfl ?_; intro g7 cap7 w7 hown7 hgrow7 hat7; have N7 := Lib.hid hown7; have G7 := Lib.hid hgrow7; have A7 := Lib.hid hat7; clear hown7 hgrow7 hat7))
            go_roundw
            case rel =>
              have hv := HMk.out.1.lt go rfl
              have hsw := BW.out.size
              refine ⟨k + 1, by omega, by go_num, g7, cap7, (fun r => if r < N then G r else G' (r - N)), (fun r => if r < N then Cp r else Cp' (r - N)), ?_, ?_, (BW.out.trans (B6.out.mono BW.out.size)).grown G7.out (by omega) (fun x hx => by cases hx; exact hv.1)⟩
              · rw [dealsTo_yes GO.out, List.length_append, ← QN.out, ← QM.out]
              · rw [dealsTo_yes GO.out, List.length_append, ← QN.out, ← QM.out]
                exact Making.join (HMk.out.below B6.out) M6.out (by omega) (fun r hr => by have := (HMk.out.2.1 r hr).2.1; omega) (fun x hx => by have hgx : go = x := Option.some.inj hx; omega) (fun r hr => lists_left (by rw [← QN.out]; exact hr)) (fun r hr => by rw [QN.out]; exact lists_right) N7.out G7.out (by rcases A7.out with h | h; exact .inl (congrArg some h); exact .inr h) (Nat.le_refl _)
            case measure => simp [intOf]; omega
          · have d1 : decide (x > 0) = false := by simpa using hpos
            have NG := Lib.hid (show ¬ 0 < X k by rw [← QX.out]; exact hpos)
            clear hpos
            go_wp2
            go_roundw
            case rel => exact ⟨k + 1, by omega, by go_num, go, co, G, Cp, by rw [dealsTo_no NG.out, ← QN.out], by rw [dealsTo_no NG.out, ← QN.out]; exact HMk.out, BW.out⟩
            case measure => simp [intOf]; omega
        · obtain rfl : k = m := by omega
          go_wp2
          go_ret
          exact ⟨go, co, G, Cp, rfl, hM, hBw⟩
end Go.Proofs.Ytaipodnhnekpjaa

/- The model's l7Total. -/
namespace Go.Proofs.Ytaipodnhnekpjaa
set_option linter.unusedVariables false
set_option linter.unusedSimpArgs false
open Go.RowKit

set_option maxHeartbeats 800000 in
theorem l7Total_any (n c q d m : Nat) (a b : Option Addr) (A : Nat → Option Addr) (L C : Nat → Nat) (Z : Nat → Nat → Int) (D : Nat → Int) (w : World) (hq : q ≤ n) (hn : n ≤ 64) (hL : ∀ r, r < n → L r = m) (hZ : ∀ r, r < n → ∀ x, x < m → 0 ≤ Z r x ∧ Z r x ≤ 20) (hD : ∀ i, i < q → -1 ≤ D i ∧ D i < m) (ha0 : Tab w a n A L C Z) (hb0 : Rd w b q D) :
    Calls Try.prog 94 #[.slice a n c, .slice b q d] w fun e w' => e = .returned (.int .i64 (dealT Z D q)) ∧ Below w.heap.size w w' := by
  have HA := Lib.hid ha0
  have HB := Lib.hid hb0
  have HD := Lib.hid hD
  have HZ := Lib.hid hZ
  have HR := Lib.hid (fun k (hk : k ≤ q) => dealT_range (Z := Z) (D := D) (M := 20) (by omega) k fun i hi hd => hZ i (by omega) _ (by have := hD i (by omega); omega))
  have HL := Lib.hid hL
  clear ha0 hb0 hD hZ hL
  go_enter Try.func94, Try.ntmps94
  go_wp2
  go_loopw [5, 6] (fun s i wr => ∃ k : Nat, k ≤ q ∧ i = .int .i64 k ∧ s = .int .i64 (dealT Z D k) ∧ Below w.heap.size w wr) (fun _ i _ => q - (intOf i).toNat)
  case atStart => exact ⟨0, Nat.zero_le _, rfl, rfl, Below.refl _ _⟩
  case round =>
    obtain ⟨k, hk, rfl, rfl, hBw⟩ := hrel
    have BW := Lib.hid hBw
    clear hBw
    by_cases hlt : k < q
    · obtain ⟨bb, ob, rfl, hcb⟩ := (HB.out.below (Nat.le_refl _) BW.out) k hlt
      obtain ⟨T, hT⟩ : ∃ T, T = dealT Z D k := ⟨_, rfl⟩
      have hTr := HR.out k hk
      rw [← hT] at hTr
      rw [← hT]
      have hd := HD.out k hlt
      by_cases he : D k = -1
      · rw [he] at hcb
        have E := Lib.hid (show dealT Z D (k + 1) = T by rw [hT]; show dealT Z D k + (if D k = -1 then 0 else _) = _; rw [if_pos he, Int.add_zero])
        clear he hd hT
        go_wp2
        go_roundw
        case rel => exact ⟨k + 1, by omega, by go_num, by rw [E.out], BW.out⟩
        case measure => simp [intOf]; omega
      · obtain ⟨x, hx⟩ := Int.eq_ofNat_of_zero_le (show 0 ≤ D k by omega)
        have hxm : x < m := by omega
        obtain ⟨ba, oa, rfl, hca, hra⟩ := (HA.out.below (Nat.le_refl _) BW.out) k (by omega)
        rw [HL.out k (by omega)] at hca hra
        obtain ⟨br, or', har, hcx⟩ := hra x hxm
        rw [har] at hca
        have hzx := HZ.out k (by omega) x hxm
        obtain ⟨y, hy⟩ : ∃ y, y = Z k x := ⟨_, rfl⟩
        rw [← hy] at hcx hzx
        have E := Lib.hid (show dealT Z D (k + 1) = T + y by rw [hT, hy]; show dealT Z D k + (if D k = -1 then 0 else Z k (D k).toNat) = _; rw [if_neg he, hx, Int.toNat_natCast])
        rw [hx] at hcb
        have d1 : decide ((x : Int) ≥ 0) = true := by simp
        have d0 : (0 : Int) ≤ (x : Int) := by omega
        have hkn : (k : Int) < (n : Int) := by omega
        have hkq : (k : Int) < (q : Int) := by omega
        have hxm' : (x : Int) < (m : Int) := by omega
        have hw1 : IntKind.i64.wrap (T + y) = T + y := by rw [IntKind.wrap_i64]; omega
        clear he hd hT hx hy har hra
        go_wp2
        go_quiet (fail)
        go_wp2
        go_roundw
        case rel => exact ⟨k + 1, by omega, by go_num, by rw [E.out], below_drewN BW.out _⟩
        case measure => simp [intOf]; omega
    · obtain rfl : k = q := by omega
      go_wp2
      go_ret
      exact ⟨rfl, BW.out⟩
end Go.Proofs.Ytaipodnhnekpjaa

/- The model's l7Most and l7Best. -/
namespace Go.Proofs.Ytaipodnhnekpjaa
set_option linter.unusedVariables false
set_option linter.unusedSimpArgs false
open Go.RowKit

/-- Is this deal without that bidder, or none asked for? -/
def keepW (u : Int) (D : List Int) : Bool := decide (u < 0) || decide (nth D u.toNat < 0)
theorem mostT_snoc {n : Nat} {Z : Nat → Nat → Int} {A : List (List Int)} {D : List Int} : mostT n Z (A ++ [D]) = max (mostT n Z A) (dealT Z (nth D) n) := by
  unfold mostT
  rw [List.foldl_append]
  rfl
theorem deals_form {m n : Nat} {X : Nat → Int} {D : List Int} (hX : ∀ k, k < m → 0 ≤ X k ∧ X k ≤ 2) (h : D ∈ deals m n [] X) : D.length = n ∧ ∀ i, i < n → -1 ≤ nth D i ∧ nth D i < m := by
  obtain ⟨T, e, h1, h2, _⟩ := (mem_deals n [] X fun k hk => (hX k hk).1).1 h
  rw [List.nil_append] at e
  subst e
  refine ⟨h1, fun i hi => ?_⟩
  rw [← h1] at hi
  exact rest_range.1 h2 i hi
def mostTo (n : Nat) (Z : Nat → Nat → Int) (u : Int) (LL : List (List Int)) (k : Nat) : Int := mostT n Z ((LL.take k).filter (keepW u))
section
variable {n k : Nat} {Z : Nat → Nat → Int} {u : Int} {LL : List (List Int)}
theorem mostTo_zero : mostTo n Z u LL 0 = 0 := rfl
theorem mostTo_all : mostTo n Z u LL LL.length = mostT n Z (LL.filter (keepW u)) := by unfold mostTo; rw [List.take_length]
theorem mostTo_yes (h : k < LL.length) (hk : keepW u (LL.getD k []) = true) : mostTo n Z u LL (k + 1) = max (mostTo n Z u LL k) (dealT Z (nth (LL.getD k [])) n) := by
  unfold mostTo
  rw [take_snoc h, List.filter_append, List.filter_cons_of_pos hk, List.filter_nil, mostT_snoc]
theorem mostTo_no (h : k < LL.length) (hk : keepW u (LL.getD k []) = false) : mostTo n Z u LL (k + 1) = mostTo n Z u LL k := by
  unfold mostTo
  rw [take_snoc h, List.filter_append, List.filter_cons_of_neg (by rw [hk]; simp), List.filter_nil, List.append_nil]
end

set_option maxRecDepth 100000 in
set_option maxHeartbeats 1600000 in
theorem l7Most_any (n c m c2 : Nat) (a a2 : Option Addr) (A : Nat → Option Addr) (L C : Nat → Nat) (Z : Nat → Nat → Int) (X : Nat → Int) (u : Int) (w : World) (hn : n ≤ 4) (hm1 : 1 ≤ m) (hm : m ≤ 4) (hu : u = -1 ∨ 0 ≤ u ∧ u < n) (hL : ∀ r, r < n → L r = m) (hZ : ∀ r, r < n → ∀ x, x < m → 0 ≤ Z r x ∧ Z r x ≤ 20) (hX : ∀ k, k < m → 0 ≤ X k ∧ X k ≤ 2) (ha0 : Tab w a n A L C Z) (hx0 : Rd w a2 m X) :
    Calls Try.prog 55 #[.slice a n c, .slice a2 m c2, .int .i64 u] w fun e w' => e = .returned (.int .i64 (mostT n Z ((deals m n [] X).filter (keepW u)))) ∧ Below w.heap.size w w' := by
  have HD := Lib.hid (fun w' cb (hb : Below w.heap.size w w') (hs : w.heap.size < w'.heap.size) => l7Deals_any n c m a hn hm1 hm n [] X 0 cb w.heap.size 0 c2 a2 w' rfl (by omega) hX hs (fun j hj => absurd hj (Nat.not_lt_zero _)) (hx0.below (Nat.le_refl _) hb))
  have HA := Lib.hid ha0
  have HL := Lib.hid hL
  have HZ := Lib.hid hZ
  have HF := Lib.hid (fun D (h : D ∈ deals m n [] X) => deals_form hX h)
  have HU := Lib.hid hu
  clear ha0 hx0 hL hZ hX hu
  go_enter Try.func55, Try.ntmps55
  go_wp2_with fail
  refine (HD.out _ _ (below_alloc (Below.refl _ _) _) (by simp)).mono ?_
  rintro e w1 ⟨g, cap, G, Cp, rfl, hM, hB⟩
  obtain ⟨LL, hLL⟩ : ∃ LL, LL = deals m n [] X := ⟨_, rfl⟩
  rw [← hLL] at HF ⊢ hM
  obtain ⟨M, hMM⟩ : ∃ M, M = LL.length := ⟨_, rfl⟩
  rw [← hMM] at hM ⊢
  have hM625 : M ≤ 625 := by rw [hMM, hLL]; exact Nat.le_trans (deals_le hm n [] X) (Nat.pow_le_pow_right (show 0 < 5 by omega) hn)
  have QLL := Lib.hid hLL
  have QM := Lib.hid hMM
  have HMk := Lib.hid hM
  have B1 := Lib.hid ((below_alloc (Below.refl w.heap.size w) (.cells #[] 3)).trans (hB.mono (by simp)))
  have hMl := hM.1.lt g rfl
  clear hLL hMM hM hB HD
  go_wp2
  go_loopw [7, 9] (fun b i wr => ∃ k : Nat, k ≤ M ∧ i = .int .i64 k ∧ b = .int .i64 (mostTo n Z u LL k) ∧ Below w1.heap.size w1 wr) (fun _ i _ => M - (intOf i).toNat)
  case atStart => exact ⟨0, Nat.zero_le _, rfl, rfl, Below.refl _ _⟩
  case round =>
    obtain ⟨k, hk, rfl, rfl, hB⟩ := hrel
    have BR := Lib.hid hB
    have BW := Lib.hid (B1.out.trans (hB.mono B1.out.size))
    clear hB
    by_cases hlt : k < M
    · have hkl : k < LL.length := by rw [← QM.out]; exact hlt
      obtain ⟨D, hD⟩ : ∃ D, D = LL.getD k [] := ⟨_, rfl⟩
      have hin : D ∈ LL := by rw [hD, List.getD_eq_getElem?_getD, List.getElem?_eq_getElem hkl]; exact List.getElem_mem hkl
      have hform := HF.out D hin
      have hM := HMk.out.below BR.out
      have hck := hM.1.cells (g := g) rfl k (.slice (some ⟨G k, 0, none⟩) (lenL LL k) (Cp k)) (by simp [hlt])
      rw [Go.WideShapes.add_plain, Nat.zero_add, show lenL LL k = n from by rw [show lenL LL k = (LL.getD k []).length from rfl, ← hD]; exact hform.1] at hck
      have hrd : Rd wr (some ⟨G k, 0, none⟩) n (nth D) := by
        have := (hM.2.1 k hlt).2.2.2.rd
        rw [show lenL LL k = n from by rw [show lenL LL k = (LL.getD k []).length from rfl, ← hD]; exact hform.1, show nthL LL k = nth D from by rw [hD]; rfl] at this
        exact this
      obtain ⟨T, hT⟩ : ∃ T, T = mostTo n Z u LL k := ⟨_, rfl⟩
      obtain ⟨S, hS⟩ : ∃ S, S = dealT Z (nth D) n := ⟨_, rfl⟩
      have HT := Lib.hid (l7Total_any n c n (Cp k) m a (some ⟨G k, 0, none⟩) A L C Z (nth D) wr (Nat.le_refl _) (by omega) HL.out HZ.out hform.2 (HA.out.below (Nat.le_refl _) BW.out) hrd)
      rw [← hS] at HT
      have EY := Lib.hid (fun (h : keepW u D = true) => show mostTo n Z u LL (k + 1) = max T S from by rw [mostTo_yes hkl (by rw [← hD]; exact h), hT, hS, hD])
      have EN := Lib.hid (fun (h : keepW u D = false) => show mostTo n Z u LL (k + 1) = T from by rw [mostTo_no hkl (by rw [← hD]; exact h), hT])
      rw [← hT]
      have hkM : (k : Int) < (M : Int) := by omega
      clear hkl hD hin hform hM hT hS
      by_cases hneg : u < 0
      · have d1 : decide (u < 0) = true := by simpa using hneg
        have E := Lib.hid (EY.out (by unfold keepW; rw [d1]; rfl))
        clear hneg hrd EY EN
        go_wp2_with (go_at_call 94; refine HT.out.mono ?_; rintro e w2 ⟨rfl, hb⟩; have B2 := Lib.hid hb; clear hb)
        go_roundw
        case rel => exact ⟨k + 1, by omega, by go_num, by rw [E.out], BR.out.trans (B2.out.mono BR.out.size)⟩
        case measure => simp [intOf]; omega
      · have d1 : decide (u < 0) = false := by simpa using hneg
        obtain ⟨i, hi⟩ := Int.eq_ofNat_of_zero_le (show 0 ≤ u by omega)
        have hin : i < n := by have := HU.out; omega
        obtain ⟨bd, od, hbd, hcd⟩ := hrd i hin
        obtain ⟨rfl, rfl⟩ : G k = bd ∧ 0 = od := by simpa using hbd
        rw [Nat.zero_add] at hcd
        obtain ⟨x, hx⟩ : ∃ x, x = nth D i := ⟨_, rfl⟩
        rw [← hx] at hcd
        have hkw : keepW u D = decide (x < 0) := by unfold keepW; rw [d1, hi, Int.toNat_natCast, ← hx]; rfl
        have hin' : (i : Int) < (n : Int) := by omega
        subst hi
        by_cases hxn : x < 0
        · have d2 : decide (x < 0) = true := by simpa using hxn
          have E := Lib.hid (EY.out (by rw [hkw, d2]))
          clear hneg hrd EY EN hbd hx hkw hxn
          go_wp2_with (go_at_call 94; refine HT.out.mono ?_; rintro e w2 ⟨rfl, hb⟩; have B2 := Lib.hid hb; clear hb)
          go_roundw
          case rel => exact ⟨k + 1, by omega, by go_num, by rw [E.out], BR.out.trans (B2.out.mono BR.out.size)⟩
          case measure => simp [intOf]; omega
        · have d2 : decide (x < 0) = false := by simpa using hxn
          have E := Lib.hid (EN.out (by rw [hkw, d2]))
          clear hneg hrd EY EN hbd hx hkw hxn
          go_wp2
          go_roundw
          case rel => exact ⟨k + 1, by omega, by go_num, by rw [E.out], BR.out⟩
          case measure => simp [intOf]; omega
    · obtain rfl : k = M := by omega
      have E := Lib.hid (show mostTo n Z u LL k = mostT n Z (LL.filter (keepW u)) by rw [QM.out]; exact mostTo_all)
      rw [E.out]
      go_wp2
      go_ret
      exact ⟨by rw [← QLL.out]; rfl, BW.out⟩

theorem keepW_all {n : Nat} {Z : Nat → Nat → Int} (DD : List (List Int)) : DD.filter (keepW (-1)) = DD := List.filter_eq_self.2 fun _ _ => rfl
theorem keepW_at {DD : List (List Int)} {i : Nat} : DD.filter (keepW (i : Nat)) = DD.filter fun D => decide (nth D i < 0) := List.filter_congr fun D _ => by
  unfold keepW
  rw [Int.toNat_natCast, decide_eq_false (show ¬ ((i : Nat) : Int) < 0 by omega)]; rfl
theorem items_range {m k : Nat} {c : Int} (hc : 0 ≤ c ∧ c ≤ 2) : ∀ j, j < m → 0 ≤ itemsX k c j ∧ itemsX k c j ≤ 2 := fun j _ => by
  unfold itemsX
  by_cases e : j = k
  · rw [if_pos e]; exact hc
  · rw [if_neg e]; omega

set_option maxHeartbeats 800000 in
theorem l7Best_any (n c : Nat) (a : Option Addr) (A : Nat → Option Addr) (L C : Nat → Nat) (Z : Nat → Nat → Int) (w : World) (h : IsBids n L Z) (ha0 : Tab w a n A L C Z) :
    Calls Try.prog 57 #[.slice a n c] w fun e w' => e = .returned (.int .i64 (bestV n (L 0) Z)) ∧ Below w.heap.size w w' := by
  have HI := Lib.hid (l7Items_any n c (L 0) 0 a A L C Z 1 w h.1.1.1 rfl h.1.2.1 h.1.2.2 (by omega) ha0)
  have HM := Lib.hid (fun w' g cap (hb : Below w.heap.size w w') (hr : Rd w' (some ⟨g, 0, none⟩) (L 0) (itemsX 0 1)) => show Calls Try.prog 55 #[.slice a n c, .slice (some ⟨g, 0, none⟩) (L 0) cap, .int .i64 (-1)] w' fun e w2 => e = .returned (.int .i64 (bestV n (L 0) Z)) ∧ Below w'.heap.size w' w2 from by
    have := l7Most_any n c (L 0) cap a (some ⟨g, 0, none⟩) A L C Z (itemsX 0 1) (-1) w' h.1.1.2 h.1.2.1 h.1.2.2 (.inl rfl) (fun r hr => (h.2 r hr).1) (fun r hr => (h.2 r hr).2) (items_range (by omega)) (ha0.below (Nat.le_refl _) hb) hr
    rw [keepW_all (n := n) (Z := Z)] at this
    exact this)
  clear ha0 h
  go_enter Try.func57, Try.ntmps57
  go_wp2_with (first
    | (go_at_call 56; refine HI.out.mono ?_; rintro e w1 ⟨g, cap, rfl, hg, hO, hb⟩; have R1 := Lib.hid hO.rd; have B1 := Lib.hid hb; clear hg hO hb)
    | (go_at_call 55; refine (HM.out _ _ _ B1.out R1.out).mono ?_; rintro e w2 ⟨rfl, hb⟩; have B2 := Lib.hid (B1.out.trans (hb.mono B1.out.size)); clear hb))
  go_ret
  exact ⟨rfl, B2.out⟩
end Go.Proofs.Ytaipodnhnekpjaa
