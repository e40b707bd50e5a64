/- Texts joined: RowAt, GivenBlocks, ProofBlockIs. -/
import Derived.Test.YtabdbgnkiebcdaaDoorPartR7
import Derived.Test.YtabdbgnkiebcdaaDoorPartR10
import Derived.Test.YtabdbgnkiebcdaaDoorPartR6
import Derived.Test.YtabdbgnkiebcdaaDoorPartR8
namespace Go.Proofs.YtabdbgnkiebcdaaDoor
set_option linter.unusedVariables false
open Go.RowKit

/-- Block g is a struct of the words cs, of type t. -/
def RowAt (w : World) (g t : Nat) (cs : Array Value) : Prop := w.heap[g]? = some (.cells cs t (0, 0))

namespace RowAt
variable {w w' : World} {g t : Nat} {cs : Array Value}
theorem lt (h : RowAt w g t cs) : g < w.heap.size := (Array.getElem?_eq_some_iff.1 h).1
theorem of_block (h : RowAt w g t cs) (e : w'.heap[g]? = w.heap[g]?) : RowAt w' g t cs := e.trans h
theorem below {B : Nat} (h : RowAt w g t cs) (hB : g < B) (hb : Below B w w') : RowAt w' g t cs := h.of_block (hb.block g hB)
theorem new (w : World) (t : Nat) (cs : Array Value) : RowAt (w.alloc (.cells cs t)) w.heap.size t cs := heap_alloc_last w _
theorem cell (h : RowAt w g t cs) (j : Nat) : w.cell? ⟨g, j, none⟩ = cs[j]? := Lib.cell_of_heap h j
theorem frozen (h : RowAt w g t cs) (j : Nat) : w.frozen? ⟨g, j, none⟩ = false := Lib.frozen_of_heap h j
end RowAt

section
variable {P : Program} {ops : Array Oper} {rest : List Oper} {a : Act} {w : World} {Q : Exit → Act → World → Prop} {d : Option Nat} {ot : TypeId} {pos : String} {aft : Array Edge}

theorem row_load (ty t : Nat) (x : Operand) (g : Nat) (cs : Array Value) (dd : TypeDesc) (hx : a.eval x = .pointer (some ⟨g, 0, none⟩)) (hg : RowAt w g t cs) (hu : P.underlying ty = some dd) (hd : (match dd with | .struct _ | .array _ _ => true | _ => false) = true) (hi : (P.info? ty).map (·.size) = some cs.size)
    (h : wpList P ops Q rest (a.put d (.agg cs)) w) : wpList P ops Q (⟨d, Op.load ty x, ot, pos, aft, none⟩ :: rest) a w :=
  wpList_load_row rfl ty x rfl g hx t cs (0, 0) _ hg hu hd hi h

theorem row_load_g (ty t : Nat) (x : Operand) (gd : Nat × Bool) (g : Nat) (cs : Array Value) (dd : TypeDesc) (hw : Region.wanted (⟨d, Op.load ty x, ot, pos, aft, some gd⟩ : Oper) (yielded ops a.tmps) = true) (hx : a.eval x = .pointer (some ⟨g, 0, none⟩)) (hg : RowAt w g t cs) (hu : P.underlying ty = some dd) (hd : (match dd with | .struct _ | .array _ _ => true | _ => false) = true) (hi : (P.info? ty).map (·.size) = some cs.size)
    (h : wpList P ops Q rest (a.put d (.agg cs)) w) : wpList P ops Q (⟨d, Op.load ty x, ot, pos, aft, some gd⟩ :: rest) a w :=
  wpList_step fun K hK => by
    rw [if_pos hw]
    exact wp_load_row ty x rfl g hx t cs (0, 0) _ hg hu hd hi (hK _ _ h)

theorem row_store (ty t : Nat) (x y : Operand) (g : Nat) (cs us : Array Value) (hx : a.eval x = .pointer (some ⟨g, 0, none⟩)) (hy : a.eval y = .agg us) (hg : RowAt w g t cs) (hi : (P.info? ty).map (·.size) = some us.size) (hs : us.size = cs.size) (hu : us.all (·.oneCell') = true)
    (h : ∀ w1, RowAt w1 g t us → w1.heap.size = w.heap.size → (∀ k, k ≠ g → w1.heap[k]? = w.heap[k]?) → Below g w w1 → wpList P ops Q rest (a.put d undef) w1) : wpList P ops Q (⟨d, Op.store ty x y, ot, pos, aft, none⟩ :: rest) a w := by
  refine wpList_plain rfl fun K hK' => ?_
  refine wp_store_row ty x y rfl g us hx hy t cs hg hi hs.symm hu (hK' _ _ ?_)
  exact h _ (setRow_heap w g cs us t (0, 0) hg) (by simp) (fun k hk => setRow_other w g k _ hk) (below_setRow w _ (Nat.le_refl _))
end
end Go.Proofs.YtabdbgnkiebcdaaDoor

namespace Go.Proofs.YtabdbgnkiebcdaaDoor
set_option linter.unusedVariables false
set_option linter.unusedSimpArgs false
open Go.RowKit

theorem Tryd.sizeGiven : (Tryd.prog.info? 71).map (·.size) = some 2 := by kernel_rfl

/-- What readGivenHouses hands back. -/
def RetGiven (ok : Bool) (a : Option Addr) (n c : Nat) (b : Option Addr) (m d : Nat) (w : World) (e : Ending) (w' : World) : Prop :=
  e = .returned (.tuple #[.agg (if ok = true then #[.slice a n c, .slice b m d] else #[.slice none 0 0, .slice none 0 0]), .bool ok]) ∧ Below w.heap.size w w'

set_option maxHeartbeats 1600000 in
theorem readGivenHouses_any (n c : Nat) (a : Option Addr) (A : Nat → Option Addr) (L C : Nat → Nat) (Z : Nat → Nat → Int) (m d : Nat) (b : Option Addr) (G : Nat → Int) (w : World) (hn0 : n ≤ 1048576) (hL0 : ∀ r, r < n → L r ≤ 1048576) (ha0 : Tab w a n A L C Z) (hm : m ≤ 1048576) (hb : Rd w b m G) :
    Calls Tryd.prog 55 #[.slice a n c, .slice b m d] w (RetGiven (tt (GivenOk n L Z m G)) a n c b m d w) := by
  have H := Lib.hid (fun (w1 : World) (hB : Below w.heap.size w w1) => readGiven_any n c a A L C Z m d b G w1 hn0 hL0 (ha0.below (Nat.le_refl _) hB) hm (hb.below (Nat.le_refl _) hB))
  clear ha0 hb
  cases hg : tt (GivenOk n L Z m G) with
  | true =>
    have T := Lib.hid hg
    clear hg
    go_enter Tryd.func55, Tryd.ntmps55
    go_wp2_with (go_at_call 67; refine (H.out _ (below_alloc (Below.refl _ w) _)).mono ?_; rw [T.out]; rintro e w1 ⟨rfl, rfl⟩)
    refine bodyPost_ret (results_box_tmp Tryd.results55 _ _ w.heap.size 71 #[.slice a n c, .slice b m d] (0, 0) _ rfl (heap_alloc_last w _) Tryd.underlying71 rfl Tryd.sizeGiven) rfl ?_
    exact ⟨rfl, below_alloc (Below.refl _ w) _⟩
  | false =>
    have T := Lib.hid hg
    clear hg
    go_enter Tryd.func55, Tryd.ntmps55
    go_wp2_with (go_at_call 67; refine (H.out _ (below_alloc (Below.refl _ w) _)).mono ?_; rw [T.out]; rintro e w1 ⟨rfl, rfl⟩)
    refine bodyPost_ret (results_box_tmp Tryd.results55 _ _ w.heap.size 71 #[.slice none 0 0, .slice none 0 0] (0, 0) _ rfl (heap_alloc_last w _) Tryd.underlying71 rfl Tryd.sizeGiven) rfl ?_
    exact ⟨rfl, below_alloc (Below.refl _ w) _⟩

set_option maxHeartbeats 1600000 in
theorem makesBlock (u v : Value) (hu : u.oneCell' = true) (hv : v.oneCell' = true) (w : World) : MakesAt 57 100 (.agg #[u, v]) blockB w := by
  intro W1 a m c _
  go_enter Tryd.func57, Tryd.ntmps57
  go_wp2
  refine bodyPost_ret (results_box1 Tryd.results57 _ _ (W1.heap.size + 1) 59 #[.string (strU blockB), .slice a m c, .func (.func 100) #[.agg #[u, v]] #[]] (0, 0) _ rfl ?_ Tryd.underlying59 rfl Tryd.sizeProof) rfl ?_
  · have h := heap_alloc_last (W1.alloc (.cells #[u, v] 71)) (.cells #[.string (strU blockB), .slice a m c, .func (.func 100) #[.agg #[u, v]] #[]] 59)
    rw [World.size_alloc] at h
    exact h
  · exact ⟨rfl, below_alloc (below_alloc (Below.refl _ W1) _) _⟩

set_option maxHeartbeats 3200000 in
theorem showsBlock (n c : Nat) (a : Option Addr) (A : Nat → Option Addr) (L C : Nat → Nat) (Z : Nat → Nat → Int) (d : Nat) (g : Option Addr) (G : Nat → Int) (w : World) (hg : GivenOk n L Z n G) (ha : Tab w a n A L C Z) (hb : Rd w g n G) :
    ShowsAt 100 (.agg #[.slice a n c, .slice g n d]) (BlockQ n Z G) w := by
  intro W1 b m e X hB hm hX hx
  have hn5 := hg.1.1.2
  have h2 : (2 : Nat) ^ n ≤ 32 := Nat.pow_le_pow_right (show 0 < 2 by omega) hn5
  have h1 : 1 ≤ (2 : Nat) ^ n := Nat.pow_pos (by omega)
  have hA1 := ha.below (Nat.le_refl _) hB
  have hG1 := hb.below (Nat.le_refl _) hB
  have hY1 := rd_nums hx
  have HQ : BlockQ n Z G (numsL m X) ↔ IsEach n m (nth (numsL m X)) ∧ AgainstP n Z G (nth (numsL m X)) := by unfold BlockQ; rw [numsL_len]
  obtain ⟨Y, hY⟩ : ∃ Y, Y = nth (numsL m X) := ⟨_, rfl⟩
  rw [← hY] at hY1 HQ
  obtain ⟨B, hBd⟩ : ∃ B, B = BlockQ n Z G (numsL m X) := ⟨_, rfl⟩
  rw [← hBd] at HQ ⊢
  clear hBd hY hx hX ha hb hB
  have HE := Lib.hid (fun (w1 : World) (h : Below W1.heap.size W1 w1) => hasEach_any n m e b Y w1 hn5 hm (hY1.below (Nat.le_refl _) h))
  by_cases he : IsEach n m Y
  · have T0 := Lib.hid (tt_of he)
    have hmn := he.1
    subst hmn
    have hd := he.2
    have HO := Lib.hid (fun (S : Nat) (hS : S < 2 ^ m) w1 (h : Below W1.heap.size W1 w1) => givesOwn_any m e S b Y w1 hn5 hd hS (hY1.below (Nat.le_refl _) h))
    have HB := Lib.hid (fun (S : Nat) (hS : S < 2 ^ m) w1 (h : Below W1.heap.size W1 w1) => isBetterFor_any m Z G Y S c a A L C d e b g w1 hg hd hS (hA1.below (Nat.le_refl _) h) (hG1.below (Nat.le_refl _) h) (hY1.below (Nat.le_refl _) h))
    have HV := Lib.hid (fun (w1 : World) => everybody_any m c a w1 hn5)
    have HR := Lib.hid (show B ↔ AgainstP m Z G Y from HQ.trans ⟨fun h => h.2, fun h => ⟨he, h⟩⟩)
    obtain ⟨E, hE⟩ : ∃ E, E = 2 ^ m := ⟨_, rfl⟩
    have QE := Lib.hid hE
    rw [← hE] at h1 h2
    clear hg hA1 hG1 hY1 hd he hE HQ
    go_enter Tryd.func100, Tryd.ntmps100
    go_wp2_with (go_at_call 113; refine (HE.out _ (below_alloc (Below.refl _ W1) _)).mono ?_; rw [T0.out]; rintro e w1 ⟨rfl, rfl⟩)
    have Q0 := Lib.hid (show (W1.alloc (.cells #[.slice a m c, .slice g m d] 71)).heap[W1.heap.size]? = some (.cells #[.slice a m c, .slice g m d] 71 (0, 0)) from heap_alloc_last W1 _)
    have B0 := Lib.hid (show Below W1.heap.size W1 (W1.alloc (.cells #[.slice a m c, .slice g m d] 71)) from below_alloc (Below.refl _ W1) _)
    obtain ⟨s, hs⟩ : ∃ s, s = W1.heap.size := ⟨_, rfl⟩
    obtain ⟨w0, hw0⟩ : ∃ w0, w0 = W1.alloc (.cells #[.slice a m c, .slice g m d] 71) := ⟨_, rfl⟩
    have hsw : s < w0.heap.size := by rw [hw0, hs]; simp
    rw [← hw0] at Q0 B0 ⊢
    rw [← hs] at Q0 ⊢
    have QS := Lib.hid hsw
    clear hw0 hsw hs
    go_loopw [5] (fun i wr => ∃ k : Nat, 1 ≤ k ∧ k ≤ E ∧ i = .int .i64 k ∧ Below w0.heap.size w0 wr ∧ ∀ S, 1 ≤ S → S < k → ¬ (OwnP m S Y ∧ BetterP m Z S G Y)) (fun i _ => E - (intOf i).toNat)
    case atStart => exact ⟨1, Nat.le_refl _, h1, rfl, Below.refl _ _, fun S h1 h2 => by omega⟩
    case round =>
      obtain ⟨k, hk1, hk2, rfl, hBw, hno⟩ := hrel
      have BR := Lib.hid hBw
      have BW := Lib.hid (below_chain B0.out hBw)
      have NO := Lib.hid hno
      have QR := Lib.hid (show wr.heap[s]? = some (.cells #[.slice a m c, .slice g m d] 71 (0, 0)) from (hBw.block s QS.out).trans Q0.out)
      have q0 : wr.cell? ⟨s, 0, none⟩ = some (.slice a m c) := Lib.cell_of_heap QR.out 0
      have q1 : wr.cell? ⟨s, 1, none⟩ = some (.slice g m d) := Lib.cell_of_heap QR.out 1
      clear hBw hno
      by_cases hlt : k < E
      · have HC := Lib.hid (HO.out k (by rw [← QE.out]; exact hlt) _ BW.out)
        have HD := Lib.hid (HB.out k (by rw [← QE.out]; exact hlt) _ BW.out)
        have HVr := Lib.hid (show Calls Tryd.prog 68 #[.slice a m c] wr fun e w' => e = .returned (.int .i64 ((E : Int) - 1)) ∧ wr = w' from by rw [QE.out]; exact HV.out wr)
        have l1 : (k : Int) ≤ (E : Int) - 1 := by omega
        by_cases ho : OwnP m k Y
        · have T1 := Lib.hid (tt_of ho)
          by_cases hbk : BetterP m Z k G Y
          · have T2 := Lib.hid (tt_of hbk)
            have HF := Lib.hid (tt_of (HR.out.2 ⟨k, hk1, by rw [← QE.out]; exact hlt, ho, hbk⟩))
            clear ho hbk
            go_wp2_with (first
              | (go_at_call 68; refine HVr.out.mono ?_; rintro e w1 ⟨rfl, rfl⟩)
              | (go_at_call 132; refine HC.out.mono ?_; rintro e w1 ⟨rfl, rfl⟩; rw [T1.out])
              | ((with_reducible refine row_load_g _ _ _ _ _ _ _ ?_ ?_ QR.out Tryd.underlying71 rfl Tryd.sizeGiven ?_); exact rfl; exact rfl)
              | (go_at_call 133; refine HD.out.mono ?_; rintro e w1 ⟨rfl, hb1⟩; rw [T2.out]; have B1 := Lib.hid (below_chain BW.out hb1); clear hb1))
            go_ret
            exact ⟨by rw [HF.out]; rfl, B1.out⟩
          · have T2 := Lib.hid (tt_no hbk)
            have HN := Lib.hid (show ¬ (OwnP m k Y ∧ BetterP m Z k G Y) from fun h => hbk h.2)
            clear ho hbk
            go_wp2_with (first
              | (go_at_call 68; refine HVr.out.mono ?_; rintro e w1 ⟨rfl, rfl⟩)
              | (go_at_call 132; refine HC.out.mono ?_; rintro e w1 ⟨rfl, rfl⟩; rw [T1.out])
              | ((with_reducible refine row_load_g _ _ _ _ _ _ _ ?_ ?_ QR.out Tryd.underlying71 rfl Tryd.sizeGiven ?_); exact rfl; exact rfl)
              | (go_at_call 133; refine HD.out.mono ?_; rintro e w1 ⟨rfl, hb1⟩; rw [T2.out]; have B1 := Lib.hid (BR.out.trans (hb1.mono BR.out.size)); clear hb1))
            go_roundw
            case rel => exact ⟨k + 1, by omega, by omega, by go_num, B1.out, fun S h1 h2 => by
              by_cases e : S = k
              · rw [e]; exact HN.out
              · exact NO.out S h1 (by omega)⟩
            case measure => simp [intOf]; omega
        · have T1 := Lib.hid (tt_no ho)
          have HN := Lib.hid (show ¬ (OwnP m k Y ∧ BetterP m Z k G Y) from fun h => ho h.1)
          clear ho
          go_wp2_with (first
            | (go_at_call 68; refine HVr.out.mono ?_; rintro e w1 ⟨rfl, rfl⟩)
            | (go_at_call 132; refine HC.out.mono ?_; rintro e w1 ⟨rfl, rfl⟩; rw [T1.out]))
          go_roundw
          case rel => exact ⟨k + 1, by omega, by omega, by go_num, BR.out, fun S h1 h2 => by
            by_cases e : S = k
            · rw [e]; exact HN.out
            · exact NO.out S h1 (by omega)⟩
          case measure => simp [intOf]; omega
      · obtain rfl : k = E := by omega
        have HVr := Lib.hid (show Calls Tryd.prog 68 #[.slice a m c] wr fun e w' => e = .returned (.int .i64 ((k : Int) - 1)) ∧ wr = w' from by rw [QE.out]; exact HV.out wr)
        have l1 : ¬ ((k : Int) ≤ (k : Int) - 1) := by omega
        have HF := Lib.hid (tt_no (show ¬ B from fun h => by obtain ⟨S, h1, h2, h3⟩ := HR.out.1 h; exact NO.out S h1 (by rw [QE.out]; exact h2) h3))
        go_wp2_with (go_at_call 68; refine HVr.out.mono ?_; rintro e w1 ⟨rfl, rfl⟩)
        go_ret
        exact ⟨by rw [HF.out]; rfl, BW.out⟩
  · have T0 := Lib.hid (tt_no he)
    have HF := Lib.hid (tt_no (show ¬ B from fun h => he (HQ.1 h).1))
    clear hg hA1 hG1 hY1 HQ he
    go_enter Tryd.func100, Tryd.ntmps100
    go_wp2_with (go_at_call 113; refine (HE.out _ (below_alloc (Below.refl _ W1) _)).mono ?_; rw [T0.out]; rintro e w1 ⟨rfl, rfl⟩)
    go_ret
    exact ⟨by rw [HF.out]; rfl, below_alloc (Below.refl _ W1) _⟩
end Go.Proofs.YtabdbgnkiebcdaaDoor

namespace Go.Proofs.YtabdbgnkiebcdaaDoor
set_option linter.unusedVariables false
set_option linter.unusedSimpArgs false
open Go.RowKit

set_option maxRecDepth 100000 in
set_option maxHeartbeats 3200000 in
theorem proofBlockIs_any (n c : Nat) (a : Option Addr) (A : Nat → Option Addr) (L C : Nat → Nat) (Z : Nat → Nat → Int) (m d : Nat) (b : Option Addr) (G : Nat → Int) (t : ByteArray) (w : World) (hT : PowAt w) (hE : NumErrAt w) (hn0 : n ≤ 1048576) (hL0 : ∀ r, r < n → L r ≤ 1048576) (ha0 : Tab w a n A L C Z) (hm1 : m ≤ 1048576) (hb1 : Rd w b m G) (ht : t.size ≤ 1048576) :
    Calls Tryd.prog 23 #[.slice a n c, .slice b m d, .string t] w fun e w' => e = .returned (.bool (tt (PrB n L Z m G t))) ∧ Below w.heap.size w w' := by
  have H1 := Lib.hid (readGivenHouses_any n c a A L C Z m d b G w hn0 hL0 ha0 hm1 hb1)
  by_cases hg : GivenOk n L Z m G
  · have T1 := Lib.hid (tt_of hg)
    have hmn := hg.2.1
    subst hmn
    have hn2 := hg.1.1.1
    have hn5 := hg.1.1.2
    have PB := Lib.hid (fun (w1 : World) (h : Below w.heap.size w w1) => isProof_any 57 100 (.agg #[.slice a m c, .slice b m d]) blockB (BlockQ m Z G) t w1 rfl (enters_of Tryd.func57 (by kernel_rfl) rfl) (enters_of Tryd.func100 (by kernel_rfl) rfl) (makesBlock _ _ rfl rfl w1) (showsBlock m c a A L C Z d b G w1 hg (ha0.below (Nat.le_refl _) h) (hb1.below (Nat.le_refl _) h)) blockB_ok (by decide) (fun D h => block_few (by omega) hn5 h) ht (hE.below (Nat.le_refl _) h) (hT.below (Nat.le_refl _) h))
    have E := Lib.hid (show tt (ProofP blockB (BlockQ m Z G) t) = tt (PrB m L Z m G t) from tt_congr ⟨fun h => ⟨hg, h⟩, fun h => h.2⟩)
    clear hg ha0 hb1 hT hE
    go_enter Tryd.func23, Tryd.ntmps23
    go_wp2_with (first
      | (go_at_call 55; refine H1.out.mono ?_; rw [T1.out]; rintro e w0 ⟨rfl, hb0⟩; have B0 := Lib.hid (below_alloc hb0 (.cells #[.slice a m c, .slice b m d] 71)); clear hb0)
      | (go_at_call 51; refine (PB.out _ B0.out).mono ?_; rintro e w1 ⟨rfl, hb1⟩; rw [E.out]; have B1 := Lib.hid (below_chain B0.out hb1); clear hb1))
    go_ret
    exact ⟨rfl, B1.out⟩
  · have T1 := Lib.hid (tt_no hg)
    have E := Lib.hid (tt_no (show ¬ PrB n L Z m G t from fun h => hg h.1))
    clear hg ha0 hb1 hT hE
    go_enter Tryd.func23, Tryd.ntmps23
    go_wp2_with (go_at_call 55; refine H1.out.mono ?_; rw [T1.out]; rintro e w0 ⟨rfl, hb0⟩; have B0 := Lib.hid hb0; clear hb0)
    go_ret
    exact ⟨by rw [E.out]; rfl, below_alloc B0.out _⟩
end Go.Proofs.YtabdbgnkiebcdaaDoor
