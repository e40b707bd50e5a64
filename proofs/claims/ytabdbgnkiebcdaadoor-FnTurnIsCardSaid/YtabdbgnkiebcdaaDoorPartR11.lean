/- Texts joined: RowAt, GivenBlocks, ProofBlockIs, SpecProofBlock, Givings, ProofBlock, DrawWishes, DrawOrder, DrawApart. -/
import Derived.Test.YtabdbgnkiebcdaaDoorPartR7
import Derived.Test.YtabdbgnkiebcdaaDoorPartR10
import Derived.Test.YtabdbgnkiebcdaaDoorPartR6
import Derived.Test.YtabdbgnkiebcdaaDoorPartR8
import Derived.Test.YtabdbgnkiebcdaaDoorPartR2
import Derived.Test.YtabdbgnkiebcdaaDoorPartR3
import Derived.Test.YtabdbgnkiebcdaaDoorPartR9
import Derived.Shelf.Abstract
import Derived.Laws.EntriesVeiled
import Derived.Laws.OwnMore
namespace Go.Proofs.YtabdbgnkiebcdaaDoor
set_option linter.unusedVariables false
open Go.RowKit

/-- Block g is a struct of the words cs, of type t. -/
def RowAt (w : World) (g t : Nat) (cs : Array Value) : Prop := w.heap[g]? = some (.cells cs t (0, 0))

namespace RowAt
variable {w w' : World} {g t : Nat} {cs : Array Value}
theorem lt (h : RowAt w g t cs) : g < w.heap.size := (Array.getElem?_eq_some_iff.1 h).1
theorem of_block (h : RowAt w g t cs) (e : w'.heap[g]? = w.heap[g]?) : RowAt w' g t cs := e.trans h
theorem below {B : Nat} (h : RowAt w g t cs) (hB : g < B) (hb : Below B w w') : RowAt w' g t cs := h.of_block (hb.block g hB)
theorem new (w : World) (t : Nat) (cs : Array Value) : RowAt (w.alloc (.cells cs t)) w.heap.size t cs := heap_alloc_last w _
theorem cell (h : RowAt w g t cs) (j : Nat) : w.cell? ⟨g, j, none⟩ = cs[j]? := Lib.cell_of_heap h j
theorem frozen (h : RowAt w g t cs) (j : Nat) : w.frozen? ⟨g, j, none⟩ = false := Lib.frozen_of_heap h j
end RowAt

section
variable {P : Program} {ops : Array Oper} {rest : List Oper} {a : Act} {w : World} {Q : Exit → Act → World → Prop} {d : Option Nat} {ot : TypeId} {pos : String} {aft : Array Edge}

theorem row_load (ty t : Nat) (x : Operand) (g : Nat) (cs : Array Value) (dd : TypeDesc) (hx : a.eval x = .pointer (some ⟨g, 0, none⟩)) (hg : RowAt w g t cs) (hu : P.underlying ty = some dd) (hd : (match dd with | .struct _ | .array _ _ => true | _ => false) = true) (hi : (P.info? ty).map (·.size) = some cs.size)
    (h : wpList P ops Q rest (a.put d (.agg cs)) w) : wpList P ops Q (⟨d, Op.load ty x, ot, pos, aft, none⟩ :: rest) a w :=
  wpList_load_row rfl ty x rfl g hx t cs (0, 0) _ hg hu hd hi h

theorem row_load_g (ty t : Nat) (x : Operand) (gd : Nat × Bool) (g : Nat) (cs : Array Value) (dd : TypeDesc) (hw : Region.wanted (⟨d, Op.load ty x, ot, pos, aft, some gd⟩ : Oper) (yielded ops a.tmps) = true) (hx : a.eval x = .pointer (some ⟨g, 0, none⟩)) (hg : RowAt w g t cs) (hu : P.underlying ty = some dd) (hd : (match dd with | .struct _ | .array _ _ => true | _ => false) = true) (hi : (P.info? ty).map (·.size) = some cs.size)
    (h : wpList P ops Q rest (a.put d (.agg cs)) w) : wpList P ops Q (⟨d, Op.load ty x, ot, pos, aft, some gd⟩ :: rest) a w :=
  wpList_step fun K hK => by
    rw [if_pos hw]
    exact wp_load_row ty x rfl g hx t cs (0, 0) _ hg hu hd hi (hK _ _ h)

theorem row_store (ty t : Nat) (x y : Operand) (g : Nat) (cs us : Array Value) (hx : a.eval x = .pointer (some ⟨g, 0, none⟩)) (hy : a.eval y = .agg us) (hg : RowAt w g t cs) (hi : (P.info? ty).map (·.size) = some us.size) (hs : us.size = cs.size) (hu : us.all (·.oneCell') = true)
    (h : ∀ w1, RowAt w1 g t us → w1.heap.size = w.heap.size → (∀ k, k ≠ g → w1.heap[k]? = w.heap[k]?) → Below g w w1 → wpList P ops Q rest (a.put d undef) w1) : wpList P ops Q (⟨d, Op.store ty x y, ot, pos, aft, none⟩ :: rest) a w := by
  refine wpList_plain rfl fun K hK' => ?_
  refine wp_store_row ty x y rfl g us hx hy t cs hg hi hs.symm hu (hK' _ _ ?_)
  exact h _ (setRow_heap w g cs us t (0, 0) hg) (by simp) (fun k hk => setRow_other w g k _ hk) (below_setRow w _ (Nat.le_refl _))
end
end Go.Proofs.YtabdbgnkiebcdaaDoor

namespace Go.Proofs.YtabdbgnkiebcdaaDoor
set_option linter.unusedVariables false
set_option linter.unusedSimpArgs false
open Go.RowKit

theorem Tryd.sizeGiven : (Tryd.prog.info? 71).map (·.size) = some 2 := by kernel_rfl

/-- What readGivenHouses hands back. -/
def RetGiven (ok : Bool) (a : Option Addr) (n c : Nat) (b : Option Addr) (m d : Nat) (w : World) (e : Ending) (w' : World) : Prop :=
  e = .returned (.tuple #[.agg (if ok = true then #[.slice a n c, .slice b m d] else #[.slice none 0 0, .slice none 0 0]), .bool ok]) ∧ Below w.heap.size w w'

set_option maxHeartbeats 1600000 in
theorem readGivenHouses_any (n c : Nat) (a : Option Addr) (A : Nat → Option Addr) (L C : Nat → Nat) (Z : Nat → Nat → Int) (m d : Nat) (b : Option Addr) (G : Nat → Int) (w : World) (hn0 : n ≤ 1048576) (hL0 : ∀ r, r < n → L r ≤ 1048576) (ha0 : Tab w a n A L C Z) (hm : m ≤ 1048576) (hb : Rd w b m G) :
    Calls Tryd.prog 55 #[.slice a n c, .slice b m d] w (RetGiven (tt (GivenOk n L Z m G)) a n c b m d w) := by
  have H := Lib.hid (fun (w1 : World) (hB : Below w.heap.size w w1) => readGiven_any n c a A L C Z m d b G w1 hn0 hL0 (ha0.below (Nat.le_refl _) hB) hm (hb.below (Nat.le_refl _) hB))
  clear ha0 hb
  cases hg : tt (GivenOk n L Z m G) with
  | true =>
    have T := Lib.hid hg
    clear hg
    go_enter Tryd.func55, Tryd.ntmps55
    go_wp2_with (go_at_call 67; refine (H.out _ (below_alloc (Below.refl _ w) _)).mono ?_; rw [T.out]; rintro e w1 ⟨rfl, rfl⟩)
    refine bodyPost_ret (results_box_tmp Tryd.results55 _ _ w.heap.size 71 #[.slice a n c, .slice b m d] (0, 0) _ rfl (heap_alloc_last w _) Tryd.underlying71 rfl Tryd.sizeGiven) rfl ?_
    exact ⟨rfl, below_alloc (Below.refl _ w) _⟩
  | false =>
    have T := Lib.hid hg
    clear hg
    go_enter Tryd.func55, Tryd.ntmps55
    go_wp2_with (go_at_call 67; refine (H.out _ (below_alloc (Below.refl _ w) _)).mono ?_; rw [T.out]; rintro e w1 ⟨rfl, rfl⟩)
    refine bodyPost_ret (results_box_tmp Tryd.results55 _ _ w.heap.size 71 #[.slice none 0 0, .slice none 0 0] (0, 0) _ rfl (heap_alloc_last w _) Tryd.underlying71 rfl Tryd.sizeGiven) rfl ?_
    exact ⟨rfl, below_alloc (Below.refl _ w) _⟩

set_option maxHeartbeats 1600000 in
theorem makesBlock (u v : Value) (hu : u.oneCell' = true) (hv : v.oneCell' = true) (w : World) : MakesAt 57 100 (.agg #[u, v]) blockB w := by
  intro W1 a m c _
  go_enter Tryd.func57, Tryd.ntmps57
  go_wp2
  refine bodyPost_ret (results_box1 Tryd.results57 _ _ (W1.heap.size + 1) 59 #[.string (strU blockB), .slice a m c, .func (.func 100) #[.agg #[u, v]] #[]] (0, 0) _ rfl ?_ Tryd.underlying59 rfl Tryd.sizeProof) rfl ?_
  · have h := heap_alloc_last (W1.alloc (.cells #[u, v] 71)) (.cells #[.string (strU blockB), .slice a m c, .func (.func 100) #[.agg #[u, v]] #[]] 59)
    rw [World.size_alloc] at h
    exact h
  · exact ⟨rfl, below_alloc (below_alloc (Below.refl _ W1) _) _⟩

set_option maxHeartbeats 3200000 in
theorem showsBlock (n c : Nat) (a : Option Addr) (A : Nat → Option Addr) (L C : Nat → Nat) (Z : Nat → Nat → Int) (d : Nat) (g : Option Addr) (G : Nat → Int) (w : World) (hg : GivenOk n L Z n G) (ha : Tab w a n A L C Z) (hb : Rd w g n G) :
    ShowsAt 100 (.agg #[.slice a n c, .slice g n d]) (BlockQ n Z G) w := by
  intro W1 b m e X hB hm hX hx
  have hn5 := hg.1.1.2
  have h2 : (2 : Nat) ^ n ≤ 32 := Nat.pow_le_pow_right (show 0 < 2 by omega) hn5
  have h1 : 1 ≤ (2 : Nat) ^ n := Nat.pow_pos (by omega)
  have hA1 := ha.below (Nat.le_refl _) hB
  have hG1 := hb.below (Nat.le_refl _) hB
  have hY1 := rd_nums hx
  have HQ : BlockQ n Z G (numsL m X) ↔ IsEach n m (nth (numsL m X)) ∧ AgainstP n Z G (nth (numsL m X)) := by unfold BlockQ; rw [numsL_len]
  obtain ⟨Y, hY⟩ : ∃ Y, Y = nth (numsL m X) := ⟨_, rfl⟩
  rw [← hY] at hY1 HQ
  obtain ⟨B, hBd⟩ : ∃ B, B = BlockQ n Z G (numsL m X) := ⟨_, rfl⟩
  rw [← hBd] at HQ ⊢
  clear hBd hY hx hX ha hb hB
  have HE := Lib.hid (fun (w1 : World) (h : Below W1.heap.size W1 w1) => hasEach_any n m e b Y w1 hn5 hm (hY1.below (Nat.le_refl _) h))
  by_cases he : IsEach n m Y
  · have T0 := Lib.hid (tt_of he)
    have hmn := he.1
    subst hmn
    have hd := he.2
    have HO := Lib.hid (fun (S : Nat) (hS : S < 2 ^ m) w1 (h : Below W1.heap.size W1 w1) => givesOwn_any m e S b Y w1 hn5 hd hS (hY1.below (Nat.le_refl _) h))
    have HB := Lib.hid (fun (S : Nat) (hS : S < 2 ^ m) w1 (h : Below W1.heap.size W1 w1) => isBetterFor_any m Z G Y S c a A L C d e b g w1 hg hd hS (hA1.below (Nat.le_refl _) h) (hG1.below (Nat.le_refl _) h) (hY1.below (Nat.le_refl _) h))
    have HV := Lib.hid (fun (w1 : World) => everybody_any m c a w1 hn5)
    have HR := Lib.hid (show B ↔ AgainstP m Z G Y from HQ.trans ⟨fun h => h.2, fun h => ⟨he, h⟩⟩)
    obtain ⟨E, hE⟩ : ∃ E, E = 2 ^ m := ⟨_, rfl⟩
    have QE := Lib.hid hE
    rw [← hE] at h1 h2
    clear hg hA1 hG1 hY1 hd he hE HQ
    go_enter Tryd.func100, Tryd.ntmps100
    go_wp2_with (go_at_call 113; refine (HE.out _ (below_alloc (Below.refl _ W1) _)).mono ?_; rw [T0.out]; rintro e w1 ⟨rfl, rfl⟩)
    have Q0 := Lib.hid (show (W1.alloc (.cells #[.slice a m c, .slice g m d] 71)).heap[W1.heap.size]? = some (.cells #[.slice a m c, .slice g m d] 71 (0, 0)) from heap_alloc_last W1 _)
    have B0 := Lib.hid (show Below W1.heap.size W1 (W1.alloc (.cells #[.slice a m c, .slice g m d] 71)) from below_alloc (Below.refl _ W1) _)
    obtain ⟨s, hs⟩ : ∃ s, s = W1.heap.size := ⟨_, rfl⟩
    obtain ⟨w0, hw0⟩ : ∃ w0, w0 = W1.alloc (.cells #[.slice a m c, .slice g m d] 71) := ⟨_, rfl⟩
    have hsw : s < w0.heap.size := by rw [hw0, hs]; simp
    rw [← hw0] at Q0 B0 ⊢
    rw [← hs] at Q0 ⊢
    have QS := Lib.hid hsw
    clear hw0 hsw hs
    go_loopw [5] (fun i wr => ∃ k : Nat, 1 ≤ k ∧ k ≤ E ∧ i = .int .i64 k ∧ Below w0.heap.size w0 wr ∧ ∀ S, 1 ≤ S → S < k → ¬ (OwnP m S Y ∧ BetterP m Z S G Y)) (fun i _ => E - (intOf i).toNat)
    case atStart => exact ⟨1, Nat.le_refl _, h1, rfl, Below.refl _ _, fun S h1 h2 => by omega⟩
    case round =>
      obtain ⟨k, hk1, hk2, rfl, hBw, hno⟩ := hrel
      have BR := Lib.hid hBw
      have BW := Lib.hid (below_chain B0.out hBw)
      have NO := Lib.hid hno
      have QR := Lib.hid (show wr.heap[s]? = some (.cells #[.slice a m c, .slice g m d] 71 (0, 0)) from (hBw.block s QS.out).trans Q0.out)
      have q0 : wr.cell? ⟨s, 0, none⟩ = some (.slice a m c) := Lib.cell_of_heap QR.out 0
      have q1 : wr.cell? ⟨s, 1, none⟩ = some (.slice g m d) := Lib.cell_of_heap QR.out 1
      clear hBw hno
      by_cases hlt : k < E
      · have HC := Lib.hid (HO.out k (by rw [← QE.out]; exact hlt) _ BW.out)
        have HD := Lib.hid (HB.out k (by rw [← QE.out]; exact hlt) _ BW.out)
        have HVr := Lib.hid (show Calls Tryd.prog 68 #[.slice a m c] wr fun e w' => e = .returned (.int .i64 ((E : Int) - 1)) ∧ wr = w' from by rw [QE.out]; exact HV.out wr)
        have l1 : (k : Int) ≤ (E : Int) - 1 := by omega
        by_cases ho : OwnP m k Y
        · have T1 := Lib.hid (tt_of ho)
          by_cases hbk : BetterP m Z k G Y
          · have T2 := Lib.hid (tt_of hbk)
            have HF := Lib.hid (tt_of (HR.out.2 ⟨k, hk1, by rw [← QE.out]; exact hlt, ho, hbk⟩))
            clear ho hbk
            go_wp2_with (first
              | (go_at_call 68; refine HVr.out.mono ?_; rintro e w1 ⟨rfl, rfl⟩)
              | (go_at_call 132; refine HC.out.mono ?_; rintro e w1 ⟨rfl, rfl⟩; rw [T1.out])
              | ((with_reducible refine row_load_g _ _ _ _ _ _ _ ?_ ?_ QR.out Tryd.underlying71 rfl Tryd.sizeGiven ?_); exact rfl; exact rfl)
              | (go_at_call 133; refine HD.out.mono ?_; rintro e w1 ⟨rfl, hb1⟩; rw [T2.out]; have B1 := Lib.hid (below_chain BW.out hb1); clear hb1))
            go_ret
            exact ⟨by rw [HF.out]; rfl, B1.out⟩
          · have T2 := Lib.hid (tt_no hbk)
            have HN := Lib.hid (show ¬ (OwnP m k Y ∧ BetterP m Z k G Y) from fun h => hbk h.2)
            clear ho hbk
            go_wp2_with (first
              | (go_at_call 68; refine HVr.out.mono ?_; rintro e w1 ⟨rfl, rfl⟩)
              | (go_at_call 132; refine HC.out.mono ?_; rintro e w1 ⟨rfl, rfl⟩; rw [T1.out])
              | ((with_reducible refine row_load_g _ _ _ _ _ _ _ ?_ ?_ QR.out Tryd.underlying71 rfl Tryd.sizeGiven ?_); exact rfl; exact rfl)
              | (go_at_call 133; refine HD.out.mono ?_; rintro e w1 ⟨rfl, hb1⟩; rw [T2.out]; have B1 := Lib.hid (BR.out.trans (hb1.mono BR.out.size)); clear hb1))
            go_roundw
            case rel => exact ⟨k + 1, by omega, by omega, by go_num, B1.out, fun S h1 h2 => by
              by_cases e : S = k
              · rw [e]; exact HN.out
              · exact NO.out S h1 (by omega)⟩
            case measure => simp [intOf]; omega
        · have T1 := Lib.hid (tt_no ho)
          have HN := Lib.hid (show ¬ (OwnP m k Y ∧ BetterP m Z k G Y) from fun h => ho h.1)
          clear ho
          go_wp2_with (first
            | (go_at_call 68; refine HVr.out.mono ?_; rintro e w1 ⟨rfl, rfl⟩)
            | (go_at_call 132; refine HC.out.mono ?_; rintro e w1 ⟨rfl, rfl⟩; rw [T1.out]))
          go_roundw
          case rel => exact ⟨k + 1, by omega, by omega, by go_num, BR.out, fun S h1 h2 => by
            by_cases e : S = k
            · rw [e]; exact HN.out
            · exact NO.out S h1 (by omega)⟩
          case measure => simp [intOf]; omega
      · obtain rfl : k = E := by omega
        have HVr := Lib.hid (show Calls Tryd.prog 68 #[.slice a m c] wr fun e w' => e = .returned (.int .i64 ((k : Int) - 1)) ∧ wr = w' from by rw [QE.out]; exact HV.out wr)
        have l1 : ¬ ((k : Int) ≤ (k : Int) - 1) := by omega
        have HF := Lib.hid (tt_no (show ¬ B from fun h => by obtain ⟨S, h1, h2, h3⟩ := HR.out.1 h; exact NO.out S h1 (by rw [QE.out]; exact h2) h3))
        go_wp2_with (go_at_call 68; refine HVr.out.mono ?_; rintro e w1 ⟨rfl, rfl⟩)
        go_ret
        exact ⟨by rw [HF.out]; rfl, BW.out⟩
  · have T0 := Lib.hid (tt_no he)
    have HF := Lib.hid (tt_no (show ¬ B from fun h => he (HQ.1 h).1))
    clear hg hA1 hG1 hY1 HQ he
    go_enter Tryd.func100, Tryd.ntmps100
    go_wp2_with (go_at_call 113; refine (HE.out _ (below_alloc (Below.refl _ W1) _)).mono ?_; rw [T0.out]; rintro e w1 ⟨rfl, rfl⟩)
    go_ret
    exact ⟨by rw [HF.out]; rfl, below_alloc (Below.refl _ W1) _⟩
end Go.Proofs.YtabdbgnkiebcdaaDoor

namespace Go.Proofs.YtabdbgnkiebcdaaDoor
set_option linter.unusedVariables false
set_option linter.unusedSimpArgs false
open Go.RowKit

set_option maxRecDepth 100000 in
set_option maxHeartbeats 3200000 in
theorem proofBlockIs_any (n c : Nat) (a : Option Addr) (A : Nat → Option Addr) (L C : Nat → Nat) (Z : Nat → Nat → Int) (m d : Nat) (b : Option Addr) (G : Nat → Int) (t : ByteArray) (w : World) (hT : PowAt w) (hE : NumErrAt w) (hn0 : n ≤ 1048576) (hL0 : ∀ r, r < n → L r ≤ 1048576) (ha0 : Tab w a n A L C Z) (hm1 : m ≤ 1048576) (hb1 : Rd w b m G) (ht : t.size ≤ 1048576) :
    Calls Tryd.prog 23 #[.slice a n c, .slice b m d, .string t] w fun e w' => e = .returned (.bool (tt (PrB n L Z m G t))) ∧ Below w.heap.size w w' := by
  have H1 := Lib.hid (readGivenHouses_any n c a A L C Z m d b G w hn0 hL0 ha0 hm1 hb1)
  by_cases hg : GivenOk n L Z m G
  · have T1 := Lib.hid (tt_of hg)
    have hmn := hg.2.1
    subst hmn
    have hn2 := hg.1.1.1
    have hn5 := hg.1.1.2
    have PB := Lib.hid (fun (w1 : World) (h : Below w.heap.size w w1) => isProof_any 57 100 (.agg #[.slice a m c, .slice b m d]) blockB (BlockQ m Z G) t w1 rfl (enters_of Tryd.func57 (by kernel_rfl) rfl) (enters_of Tryd.func100 (by kernel_rfl) rfl) (makesBlock _ _ rfl rfl w1) (showsBlock m c a A L C Z d b G w1 hg (ha0.below (Nat.le_refl _) h) (hb1.below (Nat.le_refl _) h)) blockB_ok (by decide) (fun D h => block_few (by omega) hn5 h) ht (hE.below (Nat.le_refl _) h) (hT.below (Nat.le_refl _) h))
    have E := Lib.hid (show tt (ProofP blockB (BlockQ m Z G) t) = tt (PrB m L Z m G t) from tt_congr ⟨fun h => ⟨hg, h⟩, fun h => h.2⟩)
    clear hg ha0 hb1 hT hE
    go_enter Tryd.func23, Tryd.ntmps23
    go_wp2_with (first
      | (go_at_call 55; refine H1.out.mono ?_; rw [T1.out]; rintro e w0 ⟨rfl, hb0⟩; have B0 := Lib.hid (below_alloc hb0 (.cells #[.slice a m c, .slice b m d] 71)); clear hb0)
      | (go_at_call 51; refine (PB.out _ B0.out).mono ?_; rintro e w1 ⟨rfl, hb1⟩; rw [E.out]; have B1 := Lib.hid (below_chain B0.out hb1); clear hb1))
    go_ret
    exact ⟨rfl, B1.out⟩
  · have T1 := Lib.hid (tt_no hg)
    have E := Lib.hid (tt_no (show ¬ PrB n L Z m G t from fun h => hg h.1))
    clear hg ha0 hb1 hT hE
    go_enter Tryd.func23, Tryd.ntmps23
    go_wp2_with (go_at_call 55; refine H1.out.mono ?_; rw [T1.out]; rintro e w0 ⟨rfl, hb0⟩; have B0 := Lib.hid hb0; clear hb0)
    go_ret
    exact ⟨by rw [E.out]; rfl, below_alloc B0.out _⟩
end Go.Proofs.YtabdbgnkiebcdaaDoor

namespace Go.Proofs.YtabdbgnkiebcdaaDoor
set_option linter.unusedVariables false
set_option linter.unusedSimpArgs false
open Go.RowKit

theorem firstAg_nth {n : Nat} {Z : Nat → Nat → Int} {G : Nat → Int} {LL : List (List Int)} {x : Nat} (hx : x < LL.length) (h0 : ∀ j, j < x → ¬ AgainstP n Z G (nth (LL.getD j []))) (h1 : AgainstP n Z G (nth (LL.getD x []))) : firstAg n Z G LL = some (LL.getD x []) := by
  have e : LL.getD x [] = LL[x] := by rw [List.getD_eq_getElem?_getD, List.getElem?_eq_getElem hx]; rfl
  rw [e] at h1 ⊢
  have h2 : LL = LL.take x ++ LL[x] :: LL.drop (x + 1) := by rw [← List.drop_eq_getElem_cons hx, List.take_append_drop]
  conv => lhs; rw [h2]
  refine firstAg_at _ _ _ (fun E hE => ?_) h1
  obtain ⟨j, hj, rfl⟩ := List.getElem_of_mem hE
  have hjx : j < x := by rw [List.length_take] at hj; omega
  have h3 := h0 j hjx
  rw [List.getD_eq_getElem?_getD, List.getElem?_eq_getElem (by omega)] at h3
  rw [List.getElem_take]
  exact h3
theorem firstAg_all {n : Nat} {Z : Nat → Nat → Int} {G : Nat → Int} {LL : List (List Int)} (h0 : ∀ j, j < LL.length → ¬ AgainstP n Z G (nth (LL.getD j []))) : firstAg n Z G LL = none := by
  refine (firstAg_none LL).2 fun D hD => ?_
  obtain ⟨j, hj, rfl⟩ := List.getElem_of_mem hD
  have h3 := h0 j hj
  rw [List.getD_eq_getElem?_getD, List.getElem?_eq_getElem hj] at h3
  exact h3

set_option maxRecDepth 100000 in
set_option maxHeartbeats 3200000 in
theorem specProofBlock_any (n c : Nat) (a : Option Addr) (A : Nat → Option Addr) (L C : Nat → Nat) (Z : Nat → Nat → Int) (m d : Nat) (b : Option Addr) (G : Nat → Int) (w : World) (hn0 : n ≤ 1048576) (hL0 : ∀ r, r < n → L r ≤ 1048576) (ha0 : Tab w a n A L C Z) (hm1 : m ≤ 1048576) (hb1 : Rd w b m G) :
    Calls Tryd.prog 18 #[.slice a n c, .slice b m d] w fun e w' => e = .returned (.tuple #[.string (strU (prB n L Z m G)), .bool (tt (HasB n L Z m G))]) ∧ Below w.heap.size w w' := by
  have H := Lib.hid (l3Both_any n c a A L C Z m d b G w hn0 hL0 ha0 hm1 hb1)
  by_cases hg : GivenOk n L Z m G
  · have T1 := Lib.hid (tt_of hg)
    obtain rfl : m = n := hg.2.1
    have hn2 := hg.1.1.1
    have hn5 := hg.1.1.2
    obtain ⟨LL, hLL⟩ : ∃ LL, LL = givs m m [] := ⟨_, rfl⟩
    have QL := Lib.hid hLL
    have hM := Nat.le_trans (givs_le (n := m) hn5 m []) (Nat.pow_le_pow_right (show 0 < 6 by omega) hn5)
    rw [← hLL] at hM
    obtain ⟨M, hM2⟩ : ∃ M, M = LL.length := ⟨_, rfl⟩
    rw [← hM2] at hM
    have QM := Lib.hid hM2
    have AT := Lib.hid (show ∀ x, x < M → IsEach m (lenL LL x) (nth (LL.getD x [])) ∧ lenL LL x = (LL.getD x []).length from fun x hx => by
      rw [hM2] at hx
      have hm : LL.getD x [] ∈ LL := by
        rw [List.getD_eq_getElem?_getD, List.getElem?_eq_getElem hx]
        exact List.getElem_mem hx
      rw [hLL] at hm ⊢
      exact ⟨givs_each hm, rfl⟩)
    have HG := Lib.hid hg
    have HA := Lib.hid ha0
    have HB := Lib.hid hb1
    clear hg ha0 hb1 hL0 hLL hM2
    go_enter Tryd.func18, Tryd.ntmps18
    go_wp2_with (first
      | (go_at_call 52; refine H.out.mono ?_; rintro e w' ⟨rfl, rfl⟩; rw [T1.out])
      | (go_at_call 53; refine (l3GivingsAll_any m hn2 hn5 _ 0 _ (by simp)).mono ?_; rintro e w1 ⟨v, G', Cp, rfl, hMk, hb⟩; rw [← QL.out, ← QM.out] at hMk; obtain ⟨a1, c1, rfl, hO⟩ := hMk.slice; have HO := Lib.hid hO.tab; have HB0 := Lib.hid ((below_alloc (Below.refl w.heap.size w) _).trans (hb.mono (by simp))); clear hb hO hMk))
    go_loopw [7] (fun i wr => ∃ x : Nat, x ≤ M ∧ i = .int .i64 x ∧ Below w1.heap.size w1 wr ∧ ∀ j, j < x → ¬ AgainstP m Z G (nth (LL.getD j []))) (fun i _ => M - (intOf i).toNat)
    case atStart => exact ⟨0, Nat.zero_le _, rfl, Below.refl _ _, fun j hj => by omega⟩
    case round =>
      obtain ⟨x, hx, rfl, hB, hno⟩ := hrel
      have BR := Lib.hid hB
      have NO := Lib.hid hno
      clear hB hno
      by_cases hlt : x < M
      · obtain ⟨hea, hlen⟩ := AT.out x hlt
        obtain ⟨bt, ot, rfl, hct, hrow⟩ := (HO.out.below (Nat.le_refl _) BR.out) x hlt
        have hrow2 : Rd wr _ (lenL LL x) (nth (LL.getD x [])) := hrow
        have hBW := HB0.out.trans (BR.out.mono HB0.out.size)
        have BW := Lib.hid hBW
        have hlm := hea.1
        have hdd := hea.2
        have hfew := each_few (by omega) hn5 (hlen ▸ hea)
        have HC := Lib.hid (fun e => l11Against_any m c a A L C Z d e b _ G (nth (LL.getD x [])) wr HG.out hdd (HA.out.below (Nat.le_refl _) hBW) (HB.out.below (Nat.le_refl _) hBW) (hlm ▸ hrow2))
        have i1 : (0 : Int) ≤ (x : Int) := by omega
        have i2 : (x : Int) < (M : Int) := by omega
        by_cases hag : AgainstP m Z G (nth (LL.getD x []))
        · have T2 := Lib.hid (tt_of hag)
          have hf : firstAg m Z G (givs m m []) = some (LL.getD x []) := by rw [← QL.out]; exact firstAg_nth (by rw [← QM.out]; exact hlt) NO.out hag
          have E0 := Lib.hid (prB_yes HG.out hf)
          have E1 := Lib.hid (tt_of (show HasB m L Z m G from ⟨HG.out, by rw [hf]; simp⟩))
          have HW := Lib.hid (fun (e : Nat) (w2 : World) (h : Below wr.heap.size wr w2) => l11Words_any blockB (LL.getD x []).length e _ (nth (LL.getD x [])) w2 (by decide) hfew.2.1 (nth_few hfew.2.2) ((hlen ▸ hrow2).below (Nat.le_refl _) h))
          have HL := Lib.hid hlen
          rw [hlm] at hct
          rw [← hlen, hlm] at HW
          have EN := Lib.hid (show numsL m (nth (LL.getD x [])) = LL.getD x [] from by rw [← hlm, hlen]; exact numsL_nthR _)
          rw [EN.out, ← E0.out] at HW
          clear hag hf hea hlen hrow hrow2 hBW hdd hfew hlm
          go_wp2_with (first
            | (go_at_call 54; refine (HC.out _).mono ?_; rw [T2.out]; rintro e w2 ⟨rfl, hb2⟩; have B2 := Lib.hid hb2; have BT := Lib.hid (BW.out.trans (hb2.mono BW.out.size)); have hct2 := (hb2.cell (World.block_lt_of_cell? _ _ hct)).trans hct; clear hb2)
            | (go_at_call 37; refine (HW.out _ _ B2.out).mono ?_; rintro e w3 ⟨rfl, hb3⟩; have B3 := Lib.hid (BT.out.trans (hb3.mono BT.out.size)); clear hb3))
          go_ret2
          exact ⟨by rw [E1.out]; rfl, B3.out⟩
        · have T2 := Lib.hid (tt_no hag)
          have HN := Lib.hid hag
          rw [hlm] at hct
          clear hag hea hlen hrow hrow2 hBW hdd hfew hlm
          go_wp2_with (go_at_call 54; refine (HC.out _).mono ?_; rw [T2.out]; rintro e w2 ⟨rfl, hb2⟩; have B2 := Lib.hid (BR.out.trans (hb2.mono BR.out.size)); clear hb2 hct)
          go_roundw
          case rel => exact ⟨x + 1, by omega, by go_num, B2.out, fun j hj => by
            by_cases e : j = x
            · rw [e]; exact HN.out
            · exact NO.out j (by omega)⟩
          case measure => simp [intOf]; omega
      · obtain rfl : x = M := by omega
        have hno : ¬ HasB m L Z m G := fun h => h.2 (by rw [← QL.out]; exact firstAg_all (fun j hj => NO.out j (by rw [QM.out]; exact hj)))
        have E0 := Lib.hid (prB_no hno)
        have E1 := Lib.hid (tt_no hno)
        clear hno
        go_wp2
        go_ret2
        exact ⟨by rw [E0.out, E1.out]; rfl, HB0.out.trans (BR.out.mono HB0.out.size)⟩
  · have T1 := Lib.hid (tt_no hg)
    have E0 := Lib.hid (prB_no (show ¬ HasB n L Z m G from fun h => hg h.1))
    have E1 := Lib.hid (tt_no (show ¬ HasB n L Z m G from fun h => hg h.1))
    clear hg ha0 hL0 hb1
    go_enter Tryd.func18, Tryd.ntmps18
    go_wp2_with (go_at_call 52; refine H.out.mono ?_; rintro e w' ⟨rfl, rfl⟩; rw [T1.out])
    go_ret2
    exact ⟨by rw [E0.out, E1.out]; rfl, Below.refl _ _⟩
end Go.Proofs.YtabdbgnkiebcdaaDoor

namespace Go.Proofs.YtabdbgnkiebcdaaDoor
set_option linter.unusedVariables false
set_option linter.unusedSimpArgs false
open Go.RowKit

section
attribute [local go_sem] Oper.semAt_some wide_fn wide_round_fn

theorem givings_any (n : Int) (w : World) :
    Calls Tryd.prog 56 #[.int .i64 n] w fun e w' => e = .returned (.func (.func 98) #[] #[.pointer (some ⟨w.heap.size, 0, none⟩)]) ∧ w' = w.alloc (.cells #[.int .i64 n] 3) := by
  go_enter Tryd.func56, Tryd.ntmps56
  go_wp2
  go_ret
  exact ⟨rfl, rfl⟩

/-- Those of a list that have each number. -/
noncomputable def fullL (n : Nat) (LL : List (List Int)) : List (List Int) := LL.filter fun D => tt (D.length = n)
theorem fullL_yes {n : Nat} {A : List (List Int)} {D : List Int} (h : D.length = n) : fullL n (A ++ [D]) = fullL n A ++ [D] := by
  unfold fullL
  rw [List.filter_append]
  simp [tt_of h]
theorem fullL_no {n : Nat} {A : List (List Int)} {D : List Int} (h : ¬ D.length = n) : fullL n (A ++ [D]) = fullL n A := by
  unfold fullL
  rw [List.filter_append]
  simp [tt_no h]

/-- What holds at the head of the loop over the first ones. -/
def GivsInv (n Bn l : Nat) (V : Nat → Prop) (J : (Nat → Prop) → List (List Int) → World → Prop) (W : World) (a' : Act) (wr : World) : Prop :=
  ∃ (i : Nat) (Ds : List Nat) (V1 : Nat → Prop) (u3 u4 u7 u8 u9 u10 u11 u12 u13 u14 u15 u16 u17 u18 u19 u20 u21 u22 u23 : Value), i ≤ n ∧
    a' = { tmps := #[.func (.yield l) #[] #[], .pointer (some ⟨Bn, 0, none⟩), .pointer (some ⟨W.heap.size, 0, none⟩), u3, u4, .int .i64 n, .int .i64 i, u7, u8, u9, u10, u11, u12, u13, u14, u15, u16, u17, u18, u19, u20, u21, u22, u23], defers := Ds.map markD } ∧
    (Ds.Nodup ∧ ∀ D, D ∈ Ds → wr.heap[D]? = some (.deferred (some [])) ∧ ¬ V1 D ∧ W.heap.size < D) ∧
    wr.cell? ⟨W.heap.size, 0, none⟩ = some (.func (.yield l) #[] #[]) ∧ wr.cell? ⟨Bn, 0, none⟩ = some (.int .i64 n) ∧ (¬ V1 W.heap.size ∧ ¬ V1 Bn) ∧ J V1 (givsTo n (n - 1) [] i) wr

set_option maxRecDepth 100000 in
set_option maxHeartbeats 4000000 in
theorem seq_givings6 (n Bn : Nat) (w : World) (hn2 : 2 ≤ n) (hn : n ≤ 6) (hc : w.cell? ⟨Bn, 0, none⟩ = some (.int .i64 n)) :
    SeqL Tryd.prog 3 98 #[.pointer (some ⟨Bn, 0, none⟩)] (fun k => k = Bn) (givs n n []) w := by
  intro l V J Jx W hin hR hJ hJx hY h0
  have hcW : W.cell? ⟨Bn, 0, none⟩ = some (.int .i64 n) := hin.cell (p := ⟨Bn, 0, none⟩) rfl hc
  have hBl : Bn < W.heap.size := World.block_lt_of_cell? _ _ hcW
  have HB := Lib.hid (hR Bn rfl)
  have HY := Lib.hid hY
  have H0 := Lib.hid h0
  have HE := Lib.hid (show givs n n [] = givsTo n (n - 1) [] n by obtain ⟨f, rfl⟩ : ∃ f, n = f + 1 := ⟨n - 1, by omega⟩; exact givs_succ _ _ _)
  have CN0 := Lib.hid hcW
  clear hin hR hY h0 hc
  refine callsIn_of_wp_marks Tryd.func98 rfl trivial ?_ rfl
  simp only [Tryd.ntmps98, List.size_toArray, List.length_cons, List.length_nil, Nat.reduceAdd, Nat.reduceSub, Array.replicate_succ, Array.replicate_zero, List.push_toArray, List.append_toArray, List.nil_append, List.cons_append]
  gi_wp2
  refine wpIn_loop (GivsInv n Bn l V J W) (fun a' _ => n - (intOf (a'.tmps.getD 6 undef)).toNat) ?start ?round
  case start =>
    have cy0 : (W.alloc (.cells #[.func (.yield l) #[] #[]] 57)).cell? ⟨W.heap.size, 0, none⟩ = some (.func (.yield l) #[] #[]) := by simp
    refine ⟨0, [], V, _, _, _, _, _, _, _, _, _, _, _, _, _, _, _, _, _, _, _, Nat.zero_le _, rfl, ⟨List.nodup_nil, fun D hD => by cases hD⟩, by first | exact cy0 | simp, ?_, ⟨fun h => ?_, HB.out⟩, ?_⟩
    · rw [World.cell?_of_block (w := W) (Below.heap_alloc W _ Bn hBl)]; exact hcW
    · have := hJ.lies _ _ _ H0.out _ h; omega
    · exact hJ.steady _ _ _ _ H0.out (Inside.of_below (below_alloc (Below.refl _ W) _) (hJ.lies _ _ _ H0.out))
  case round =>
    rintro a' wr ⟨i, Ds, V1, u3, u4, u7, u8, u9, u10, u11, u12, u13, u14, u15, u16, u17, u18, u19, u20, u21, u22, u23, hi, rfl, ⟨hnd, hds⟩, cy, cn, ⟨hv1, hv2⟩, hj⟩
    clear hcW
    have HD := Lib.hid hds
    have HN := Lib.hid hnd
    have HV := Lib.hid (And.intro hv1 hv2)
    have J1 := Lib.hid hj
    have hWs : W.heap.size < wr.heap.size := World.block_lt_of_cell? _ _ cy
    have hDl := Lib.hid (show ∀ D, D ∈ Ds → D < wr.heap.size from fun D hD => (Array.getElem?_eq_some_iff.1 (hds D hD).1).1)
    clear hds hnd hv1 hv2 hj
    by_cases hlt : i < n
    · gi_wp2_with (gi_at_call 99; refine (callsIn_wide.2 (waysFrom_any _ _ _)).mono ?_; rintro e w2 ⟨rfl, rfl⟩)
      obtain ⟨s, hs⟩ : ∃ s, s = wr.heap.size := ⟨_, rfl⟩
      obtain ⟨w2, hw2⟩ : ∃ w2, w2 = (wr.alloc (.cells #[.int .i64 n] 3)).alloc (.cells #[.int .i64 i] 3) := ⟨_, rfl⟩
      rw [← hw2, ← hs]
      have hB2 : Below wr.heap.size wr w2 := by rw [hw2]; exact below_alloc (below_alloc (Below.refl _ wr) _) _
      have hs2 : w2.heap.size = s + 2 := by rw [hw2, hs]; simp
      have CA := Lib.hid (show w2.cell? ⟨s, 0, none⟩ = some (.int .i64 n) by rw [hw2, hs, World.cell?_of_block (w := wr.alloc _) (Below.heap_alloc _ _ _ (by simp))]; simp)
      have CB := Lib.hid (show w2.cell? ⟨s + 1, 0, none⟩ = some (.int .i64 i) by rw [hw2, hs]; have := World.cell?_alloc_new (wr.alloc (.cells #[.int .i64 n] 3)) #[.int .i64 i] 3 0; simp)
      have CY := Lib.hid ((hB2.cell (p := ⟨W.heap.size, 0, none⟩) hWs).trans cy)
      have CN := Lib.hid ((hB2.cell (p := ⟨Bn, 0, none⟩) (show Bn < wr.heap.size by omega)).trans cn)
      have J2 := Lib.hid (hJ.steady _ _ _ _ J1.out (Inside.of_below hB2 (hJ.lies _ _ _ J1.out)))
      have HD2 := Lib.hid (show ∀ D, D ∈ Ds → w2.heap[D]? = some (.deferred (some [])) from fun D hD => (hB2.block D (hDl.out D hD)).trans (HD.out D hD).1)
      have hVl := Lib.hid (hJ.lies _ _ _ J1.out)
      have hDs := Lib.hid (show ∀ D, D ∈ Ds → D < s from fun D hD => by rw [hs]; exact hDl.out D hD)
      have hWs2 : W.heap.size < s := by omega
      have hV1s := Lib.hid (show ∀ k, V1 k → k < s from fun k hk => by rw [hs]; exact hVl.out k hk)
      have HLL := Lib.hid (show givsTo n (n - 1) [] i ++ fullL n (longer n (n - 1) [(i : Int)]) = givsTo n (n - 1) [] (i + 1) by
        rw [givsTo_new List.not_mem_nil]
        congr 1
        have := givs_longer hn2 (n - 1) [(i : Int)] (by simp; omega)
        exact this)
      have PRE := Lib.hid (show ∀ q, q <+: longer n (n - 1) [(i : Int)] → givsTo n (n - 1) [] i ++ fullL n q <+: givs n n [] from fun q hq => by
        have h1 : fullL n q <+: fullL n (longer n (n - 1) [(i : Int)]) := hq.filter _
        refine ((List.prefix_append_right_inj _).2 h1).trans ?_
        rw [HLL.out, HE.out]
        exact givsTo_front (by omega))
      clear hB2 hw2 hs hDl hVl cy cn J1
      refine wp_seq (gf := 130) (lb := #[.pointer (some ⟨s, 0, none⟩), .pointer (some ⟨s + 1, 0, none⟩)]) (tI := 3) rfl (enters_of Tryd.func130 (by kernel_rfl) rfl) rfl (R := fun k => k = s ∨ k = s + 1) (LL := longer n (n - 1) [(i : Int)])
        (seq_ways6 n i s (s + 1) w2 hn2 hn hlt CA.out CB.out) (fun k => V1 k ∨ k ≤ W.heap.size ∨ k ∈ Ds) ?hR
        (fun Vi pre Wx => ∃ V2, Vi = (fun k => V2 k ∨ k ≤ W.heap.size ∨ k ∈ Ds) ∧ (¬ V2 W.heap.size ∧ ¬ V2 Bn ∧ ∀ D, D ∈ Ds → ¬ V2 D) ∧ J V2 (givsTo n (n - 1) [] i ++ fullL n pre) Wx ∧ Wx.cell? ⟨W.heap.size, 0, none⟩ = some (.func (.yield l) #[] #[]) ∧ Wx.cell? ⟨Bn, 0, none⟩ = some (.int .i64 n) ∧ ∀ D, D ∈ Ds → Wx.heap[D]? = some (.deferred (some [])))
        (fun c Vi pre Wx => c = .ret ∧ ∃ V2, Vi = (fun k => V2 k ∨ k ≤ W.heap.size ∨ k ∈ Ds) ∧ (¬ V2 W.heap.size ∧ ¬ V2 Bn ∧ ∀ D, D ∈ Ds → ¬ V2 D) ∧ Jx V2 (givsTo n (n - 1) [] i ++ fullL n pre) Wx ∧ Wx.cell? ⟨W.heap.size, 0, none⟩ = some (.func (.yield l) #[] #[]) ∧ ∀ D, D ∈ Ds → Wx.heap[D]? = some (.deferred (some [])))
        ?cI ?cIx ?st
        (fun v a' _ => a' = { tmps := #[.func (.yield l) #[] #[], .pointer (some ⟨Bn, 0, none⟩), .pointer (some ⟨W.heap.size, 0, none⟩), .int .i64 i, v, .int .i64 n, .int .i64 i, .bool true, .int .i64 i, .int .i64 n, .int .i64 i, .func (.func 130) #[] #[.pointer (some ⟨s, 0, none⟩), .pointer (some ⟨s + 1, 0, none⟩)], v, u13, u14, u15, u16, u17, u18, u19, u20, u21, u22, u23], defers := [] })
        (fun v a' W l r o h _ => h) ?assign ?body ?done ?stop
      case hR =>
        intro k hk
        refine ⟨fun h => ?_, by rcases hk with hk | hk <;> omega⟩
        rcases h with h | h | h
        · have := hV1s.out _ h; rcases hk with hk | hk <;> omega
        · rcases hk with hk | hk <;> omega
        · have := hDs.out _ h; rcases hk with hk | hk <;> omega
      case cI =>
        constructor
        · rintro Vi pre Wx ⟨V2, rfl, _, h2, h3, h4, h5⟩ k (hk | hk | hk)
          · exact hJ.lies _ _ _ h2 k hk
          · exact Nat.lt_of_le_of_lt hk (World.block_lt_of_cell? _ _ h3)
          · exact (Array.getElem?_eq_some_iff.1 (h5 k hk)).1
        · rintro Vi pre A B ⟨V2, rfl, h1, h2, h3, h4, h5⟩ hin
          exact ⟨V2, rfl, h1, hJ.steady _ _ _ _ h2 (hin.mono fun k hk => .inl hk), hin.cell (p := ⟨W.heap.size, 0, none⟩) (.inr (.inl (Nat.le_refl _))) h3, hin.cell (p := ⟨Bn, 0, none⟩) (.inr (.inl (Nat.le_of_lt hBl))) h4, fun D hD => (hin.block D (.inr (.inr hD))).trans (h5 D hD)⟩
      case cIx =>
        intro c
        constructor
        · rintro Vi pre Wx ⟨rfl, V2, rfl, _, h2, h3, h5⟩ k (hk | hk | hk)
          · exact hJx.lies _ _ _ h2 k hk
          · exact Nat.lt_of_le_of_lt hk (World.block_lt_of_cell? _ _ h3)
          · exact (Array.getElem?_eq_some_iff.1 (h5 k hk)).1
        · rintro Vi pre A B ⟨rfl, V2, rfl, h1, h2, h3, h5⟩ hin
          exact ⟨rfl, V2, rfl, h1, hJx.steady _ _ _ _ h2 (hin.mono fun k hk => .inl hk), hin.cell (p := ⟨W.heap.size, 0, none⟩) (.inr (.inl (Nat.le_refl _))) h3, fun D hD => (hin.block D (.inr (.inr hD))).trans (h5 D hD)⟩
      case st =>
        exact ⟨V1, rfl, ⟨HV.out.1, HV.out.2, fun D hD => (HD.out D hD).2.1⟩, by rw [show fullL n [] = [] from rfl, List.append_nil]; exact J2.out, CY.out, CN.out, HD2.out⟩
      case assign =>
        intro l' v Wx K hK
        gi_wp2
        exact hK _ _ (Outside.refl _ _) rfl
      case body =>
        rintro l' Vi pre D gb cap a' Wx ⟨V2, rfl, ⟨h1, h1b, h1d⟩, h2, h3, h4, h5⟩ hpre hown hgb hVi rfl
        have HO := Lib.hid hown
        have JX := Lib.hid h2
        have NV := Lib.hid (And.intro h1 (And.intro h1b h1d))
        have NG := Lib.hid hgb
        have HD5 := Lib.hid h5
        have hgl := (owns_cap hown).2.2
        have hgs := (owns_cap hown).2.1
        have hc3 := h3
        have hc4 := h4
        have PR := Lib.hid (PRE.out _ hpre)
        have HVi := Lib.hid hVi
        clear h1 h1b h1d h2 h5 hown hgb hpre hVi
        by_cases hDn : D.length = n
        · have dq : ((D.length : Int) == (n : Int)) = true := by simp; omega
          have FY := Lib.hid (show givsTo n (n - 1) [] i ++ fullL n (pre ++ [D]) = (givsTo n (n - 1) [] i ++ fullL n pre) ++ [D] by rw [fullL_yes hDn, List.append_assoc])
          clear hDn
          obtain ⟨fn, tmps, assign, body, hy, hR⟩ := HY.out V2 (givsTo n (n - 1) [] i ++ fullL n pre) D gb cap Wx JX.out (by rw [← FY.out]; exact PR.out) (owns_base HO.out (by omega)) (fun h => NG.out (.inl h))
          have HR := Lib.hid hR
          clear hR
          gi_wp2
          refine (roundIn_wide HR.out).mono ?_
          have hgb1 : ¬ gb ≤ W.heap.size := fun h => NG.out (.inr (.inl h))
          have FIN := Lib.hid (show ∀ (W2 : World) (V3 : Nat → Prop), Outside V2 Wx W2 → (∀ k, V3 k → V2 k ∨ k = gb ∨ Wx.heap.size ≤ k) →
              Outside (fun k => V2 k ∨ k ≤ W.heap.size ∨ k ∈ Ds) Wx W2 ∧ (∀ k, (V3 k ∨ k ≤ W.heap.size ∨ k ∈ Ds) → (V2 k ∨ k ≤ W.heap.size ∨ k ∈ Ds) ∨ k = gb ∨ Wx.heap.size ≤ k) ∧ (¬ V3 W.heap.size ∧ ¬ V3 Bn ∧ ∀ D, D ∈ Ds → ¬ V3 D) ∧
              W2.cell? ⟨W.heap.size, 0, none⟩ = some (.func (.yield l) #[] #[]) ∧ W2.cell? ⟨Bn, 0, none⟩ = some (.int .i64 n) ∧ ∀ D, D ∈ Ds → W2.heap[D]? = some (.deferred (some [])) from fun W2 V3 ho hv => by
            have hl3 : W.heap.size < Wx.heap.size := World.block_lt_of_cell? _ _ hc3
            have hdl : ∀ D, D ∈ Ds → D < Wx.heap.size := fun D hD => (Array.getElem?_eq_some_iff.1 (HD5.out D hD)).1
            refine ⟨ho.mono (fun k _ h => .inl h), fun k hk => ?_, ⟨fun h => ?_, fun h => ?_, fun D hD h => ?_⟩, ho.cell (p := ⟨W.heap.size, 0, none⟩) NV.out.1 hc3, ho.cell (p := ⟨Bn, 0, none⟩) NV.out.2.1 hc4, fun D hD => (ho.block D (hdl D hD) (NV.out.2.2 D hD)).trans (HD5.out D hD)⟩
            · rcases hk with hk | hk
              · rcases hv k hk with h | h | h
                · exact .inl (.inl h)
                · exact .inr (.inl h)
                · exact .inr (.inr h)
              · exact .inl (.inr hk)
            · rcases hv _ h with h | h | h
              · exact NV.out.1 h
              · omega
              · omega
            · rcases hv _ h with h | h | h
              · exact NV.out.2.1 h
              · omega
              · omega
            · rcases hv _ h with h | h | h
              · exact NV.out.2.2 D hD h
              · exact NG.out (.inr (.inr (by rw [← h]; exact hD)))
              · have := hdl D hD; omega)
          rintro e W2 ⟨ho, V3, hv, (⟨rfl, hj⟩ | ⟨rfl, hj⟩)⟩
          · obtain ⟨f1, f2, f3, f4, f5, f6⟩ := FIN.out W2 V3 ho hv
            have J3 := Lib.hid hj
            have F1 := Lib.hid f1
            have F3 := Lib.hid f3
            have F2 := Lib.hid f2
            have F6 := Lib.hid f6
            clear hj ho hv hy HR FIN f1 f2 f3 f6
            gi_wp2
            exact ⟨F1.out, _, F2.out, V3, rfl, F3.out, by rw [FY.out]; exact J3.out, f4, f5, F6.out⟩
          · obtain ⟨f1, f2, f3, f4, f5, f6⟩ := FIN.out W2 V3 ho hv
            have J3 := Lib.hid hj
            have F1 := Lib.hid f1
            have F3 := Lib.hid f3
            have F2 := Lib.hid f2
            have F6 := Lib.hid f6
            clear hj ho hv hy HR FIN f1 f2 f3 f6
            gi_wp2
            exact ⟨F1.out, _, F2.out, rfl, V3, rfl, F3.out, by rw [FY.out]; exact J3.out, f4, F6.out⟩
        · have dq : ((D.length : Int) == (n : Int)) = false := by simp; omega
          have FY := Lib.hid (show givsTo n (n - 1) [] i ++ fullL n (pre ++ [D]) = givsTo n (n - 1) [] i ++ fullL n pre by rw [fullL_no hDn])
          clear hDn
          gi_wp2
          exact ⟨Outside.refl _ _, _, fun k hk => .inl hk, V2, rfl, NV.out, by rw [FY.out]; exact JX.out, hc3, hc4, HD5.out⟩
      case done =>
        rintro D Vi Wx hD hVi hnD ⟨V2, rfl, ⟨h1, h1b, h1d⟩, h2, h3, h4, h5⟩ hKD
        have NV := Lib.hid (And.intro h1 (And.intro h1b h1d))
        have JX := Lib.hid h2
        have HD5 := Lib.hid h5
        have HKD := Lib.hid hKD
        have HnD := Lib.hid hnD
        have hDW : W.heap.size < D := by
          rcases Nat.lt_or_ge W.heap.size D with h | h
          · exact h
          · exact absurd (.inr (.inl h)) hnD
        have hDDs : ¬ D ∈ Ds := fun h => hnD (.inr (.inr h))
        clear h1 h1b h1d h2 h5 hKD hnD hVi
        gi_wp2
        refine ⟨⟨i + 1, D :: Ds, V2, _, _, _, _, _, _, _, _, _, _, _, _, _, _, _, _, _, _, _, by omega, rfl, ⟨List.nodup_cons.2 ⟨hDDs, HN.out⟩, fun E hE => ?_⟩, h3, h4, ⟨NV.out.1, NV.out.2.1⟩, by rw [← HLL.out]; exact JX.out⟩, by simp [intOf]; omega⟩
        rcases List.mem_cons.1 hE with h | h
        · subst h; exact ⟨HKD.out, fun hv => HnD.out (.inl hv), hDW⟩
        · exact ⟨HD5.out E h, NV.out.2.2 E h, (HD.out E h).2.2⟩
      case stop =>
        rintro D c Vi pre Wx hD hVi hnD hpre ⟨rfl, V2, rfl, ⟨h1, h1b, h1d⟩, h2, h3, h5⟩ hKD
        have NV := Lib.hid (And.intro h1 (And.intro h1b h1d))
        have JX := Lib.hid h2
        have HD5 := Lib.hid h5
        have HKD := Lib.hid hKD
        have HnD := Lib.hid hnD
        have PR := Lib.hid (PRE.out _ hpre)
        have hDDs : ¬ D ∈ Ds := fun h => hnD (.inr (.inr h))
        clear h1 h1b h1d h2 h5 hKD hnD hVi hpre
        gi_wp2
        refine leaves_marks (V := V2) (by simp) (D :: Ds) Wx (List.nodup_cons.2 ⟨hDDs, HN.out⟩) (fun E hE => ?_) (fun E hE => ?_) (fun W' hin => ?_)
        · rcases List.mem_cons.1 hE with h | h
          · subst h; exact HKD.out
          · exact HD5.out E h
        · rcases List.mem_cons.1 hE with h | h
          · subst h; exact fun hv => HnD.out (.inl hv)
          · exact NV.out.2.2 E h
        · exact ⟨_, results_none rfl _ _ _, ⟨_, rfl⟩, .inr ⟨V2, _, PR.out, hJx.steady _ _ _ _ JX.out hin⟩⟩
    · obtain rfl : i = n := by omega
      gi_wp2
      refine leaves_marks (V := V1) (by simp) Ds wr HN.out (fun D hD => (HD.out D hD).1) (fun D hD => (HD.out D hD).2.1) (fun W' hin => ?_)
      exact ⟨_, results_none rfl _ _ _, ⟨_, rfl⟩, .inl ⟨V1, by rw [HE.out]; exact hJ.steady _ _ _ _ J1.out hin⟩⟩
theorem seq_givings (n Bn : Nat) (w : World) (hn2 : 2 ≤ n) (hn : n ≤ 5) (hc : w.cell? ⟨Bn, 0, none⟩ = some (.int .i64 n)) :
    SeqL Tryd.prog 3 98 #[.pointer (some ⟨Bn, 0, none⟩)] (fun k => k = Bn) (givs n n []) w :=
  seq_givings6 n Bn w hn2 (by omega) hc
end
end Go.Proofs.YtabdbgnkiebcdaaDoor

namespace Go.Proofs.YtabdbgnkiebcdaaDoor
set_option linter.unusedVariables false
set_option linter.unusedSimpArgs false
open Go.RowKit
attribute [local go_sem] Oper.semAt_some wide_fn wide_round_fn

/-- What holds between the rounds. -/
def BlkJ (n : Nat) (Z : Nat → Nat → Int) (G : Nat → Int) (s q : Nat) (row : Array Value) (w : World) (V : Nat → Prop) (pre : List (List Int)) (Wx : World) : Prop :=
  V = (fun k => k ≤ q) ∧ (∀ E, E ∈ pre → ¬ AgainstP n Z G (nth E)) ∧ Below s w Wx ∧ Wx.cell? ⟨s, 0, none⟩ = some (.string ⟨#[]⟩) ∧ Wx.frozen? ⟨s, 0, none⟩ = false ∧ Wx.cell? ⟨s + 1, 0, none⟩ = some (.bool false) ∧ Wx.frozen? ⟨s + 1, 0, none⟩ = false ∧
    Wx.heap[q]? = some (.cells row 71 (0, 0))
/-- What holds where a round has found one that stands against it. -/
def BlkX (n : Nat) (Z : Nat → Nat → Int) (G : Nat → Int) (s q : Nat) (w : World) (c : Code) (V : Nat → Prop) (pre : List (List Int)) (Wx : World) : Prop :=
  c = .ret ∧ V = (fun k => k ≤ q) ∧ (∃ P D, pre = P ++ [D] ∧ (∀ E, E ∈ P → ¬ AgainstP n Z G (nth E)) ∧ AgainstP n Z G (nth D) ∧ Wx.cell? ⟨s, 0, none⟩ = some (.string (strU (wordsB blockB D)))) ∧ Below s w Wx ∧ Wx.cell? ⟨s + 1, 0, none⟩ = some (.bool true) ∧ q < Wx.heap.size

theorem blkJ_caller (n : Nat) (Z : Nat → Nat → Int) (G : Nat → Int) (s q : Nat) (row : Array Value) (w : World) (hq : s + 2 ≤ q) : Caller (BlkJ n Z G s q row w) := by
  constructor
  · rintro V pre Wx ⟨rfl, _, _, _, _, _, _, h7⟩ k hk
    exact Nat.lt_of_le_of_lt hk (Array.getElem?_eq_some_iff.1 h7).1
  · rintro V pre A B ⟨rfl, h0, h1, h2, h3, h4, h5, h7⟩ hin
    exact ⟨rfl, h0, below_inside h1 hin (fun k hk => show k ≤ q by omega), hin.cell (p := ⟨s, 0, none⟩) (show s ≤ q by omega) h2, (frozen_inside hin (p := ⟨s, 0, none⟩) (show s ≤ q by omega)).trans h3, hin.cell (p := ⟨s + 1, 0, none⟩) (show s + 1 ≤ q by omega) h4, (frozen_inside hin (p := ⟨s + 1, 0, none⟩) (show s + 1 ≤ q by omega)).trans h5, (hin.block q (Nat.le_refl _)).trans h7⟩
theorem blkX_caller (n : Nat) (Z : Nat → Nat → Int) (G : Nat → Int) (s q : Nat) (w : World) (c : Code) (hq : s + 2 ≤ q) : Caller (BlkX n Z G s q w c) := by
  constructor
  · rintro V pre Wx ⟨rfl, rfl, _, _, _, h7⟩ k hk
    exact Nat.lt_of_le_of_lt hk h7
  · rintro V pre A B ⟨rfl, rfl, ⟨P, D, rfl, h0, h1, h2⟩, h3, h4, h7⟩ hin
    exact ⟨rfl, rfl, ⟨P, D, rfl, h0, h1, hin.cell (p := ⟨s, 0, none⟩) (show s ≤ q by omega) h2⟩, below_inside h3 hin (fun k hk => show k ≤ q by omega), hin.cell (p := ⟨s + 1, 0, none⟩) (show s + 1 ≤ q by omega) h4, Nat.lt_of_lt_of_le h7 hin.size⟩

set_option maxRecDepth 100000 in
set_option maxHeartbeats 6400000 in
theorem proofBlock_any (n c : Nat) (a : Option Addr) (A : Nat → Option Addr) (L C : Nat → Nat) (Z : Nat → Nat → Int) (m d : Nat) (b : Option Addr) (G : Nat → Int) (w : World) (hT : PowAt w) (hn0 : n ≤ 1048576) (hL0 : ∀ r, r < n → L r ≤ 1048576) (ha0 : Tab w a n A L C Z) (hm1 : m ≤ 1048576) (hb1 : Rd w b m G) :
    Calls Tryd.prog 20 #[.slice a n c, .slice b m d] w fun e w' => e = .returned (.tuple #[.string (strU (prB n L Z m G)), .bool (tt (HasB n L Z m G))]) ∧ Below w.heap.size w w' := by
  have BA : Below w.heap.size w ((w.alloc (.cells #[.string ⟨#[]⟩] 9)).alloc (.cells #[.bool false] 4)) := below_alloc (below_alloc (Below.refl _ w) _) _
  have H1 := Lib.hid (readGivenHouses_any n c a A L C Z m d b G _ hn0 hL0 (ha0.below (Nat.le_refl _) BA) hm1 (hb1.below (Nat.le_refl _) BA))
  clear BA
  refine (callsIn_wide (n := 9)).1 ?_
  refine callsIn_of_wp_marks Tryd.func20 rfl trivial ?_ rfl
  simp only [Tryd.ntmps20, List.size_toArray, List.length_cons, List.length_nil, Nat.reduceAdd, Nat.reduceSub, Array.replicate_succ, Array.replicate_zero, List.push_toArray, List.append_toArray, List.nil_append, List.cons_append]
  by_cases hg : GivenOk n L Z m G
  · have T1 := Lib.hid (tt_of hg)
    have hmn := hg.2.1
    subst hmn
    have HG := Lib.hid hg
    have HA := Lib.hid ha0
    have HB := Lib.hid hb1
    have HT := Lib.hid hT
    have hn2 := hg.1.1.1
    have hn5 := hg.1.1.2
    clear hg ha0 hb1 hT
    gi_wp2_with (first
      | (gi_at_call 55; refine (callsIn_wide.2 H1.out).mono ?_; rw [T1.out]; rintro e w0 ⟨rfl, hb0⟩; simp only [World.size_alloc] at hb0; have hz0 : w.heap.size + 1 + 1 ≤ w0.heap.size := by have := hb0.size; simpa using this)
      | (gi_at_call 56; refine (callsIn_wide.2 (givings_any _ _)).mono ?_; rintro e w2 ⟨rfl, rfl⟩))
    obtain ⟨s, hs⟩ : ∃ s, s = w.heap.size := ⟨_, rfl⟩
    obtain ⟨q, hq⟩ : ∃ q, q = w0.heap.size := ⟨_, rfl⟩
    obtain ⟨w4, hw4⟩ : ∃ w4, w4 = (w0.alloc (.cells #[.slice a m c, .slice b m d] 71)).alloc (.cells #[.int .i64 m] 3) := ⟨_, rfl⟩
    have hqs : s + 2 ≤ q := by omega
    have hs4 : w4.heap.size = q + 2 := by rw [hw4, hq]; simp
    have hb4 : Below (w.heap.size + 1 + 1) ((w.alloc (.cells #[.string ⟨#[]⟩] 9)).alloc (.cells #[.bool false] 4)) w4 := by rw [hw4]; exact (hb0.alloc hz0 _).alloc (by simp; omega) _
    have B4 := Lib.hid hb4
    have C0 := Lib.hid (show w4.cell? ⟨s, 0, none⟩ = some (.string ⟨#[]⟩) from (B4.out.cell (p := ⟨s, 0, none⟩) (show s < w.heap.size + 1 + 1 by omega)).trans (by
      rw [hs, World.cell?_of_block (w := w.alloc _) (Below.heap_alloc _ _ _ (by simp))]; simp))
    have C1 := Lib.hid (show w4.cell? ⟨s + 1, 0, none⟩ = some (.bool false) from (B4.out.cell (p := ⟨s + 1, 0, none⟩) (show s + 1 < w.heap.size + 1 + 1 by omega)).trans (by
      rw [hs]; have := World.cell?_alloc_new (w.alloc (.cells #[.string ⟨#[]⟩] 9)) #[.bool false] 4 0; simp))
    have F0 := Lib.hid (show w4.frozen? ⟨s, 0, none⟩ = false by
      rw [World.frozen?_of_block (w := (w.alloc _).alloc _) (B4.out.block s (by omega)), hs, World.frozen?_of_block (w := w.alloc _) (Below.heap_alloc _ _ _ (by simp))]; simp)
    have F1 := Lib.hid (show w4.frozen? ⟨s + 1, 0, none⟩ = false by
      rw [World.frozen?_of_block (w := (w.alloc _).alloc _) (B4.out.block (s + 1) (by omega)), hs]; simp)
    have BB := Lib.hid (show Below s w w4 by
      rw [hs]; exact (below_alloc (below_alloc (Below.refl _ w) _) _).trans (B4.out.mono (by omega)))
    have HQ := Lib.hid (show w4.heap[q]? = some (.cells #[.slice a m c, .slice b m d] 71 (0, 0)) by
      rw [hw4, hq, Below.heap_alloc _ _ _ (by simp)]; exact heap_alloc_last w0 _)
    have CN := Lib.hid (show w4.cell? ⟨q + 1, 0, none⟩ = some (.int .i64 m) by
      have h1 : w4.heap[q + 1]? = some (.cells #[.int .i64 m] 3 (0, 0)) := by
        rw [hw4, hq]
        have h := heap_alloc_last (w0.alloc (.cells #[.slice a m c, .slice b m d] 71)) (.cells #[.int .i64 m] 3)
        rwa [World.size_alloc] at h
      exact (Lib.cell_of_heap h1 0).trans rfl)
    have hsw : s ≤ w4.heap.size := by omega
    rw [← hs, ← hq, ← hw4]
    have HS := Lib.hid hs
    clear hs hq hw4 hb4 B4 hb0 hz0
    refine wp_seq (gf := 98) (lb := #[.pointer (some ⟨q + 1, 0, none⟩)]) (tI := 3) rfl (enters_of Tryd.func98 (by kernel_rfl) rfl) rfl (R := fun k => k = q + 1) (LL := givs m m [])
      (seq_givings m (q + 1) w4 hn2 hn5 CN.out) (fun k => k ≤ q) (fun k hk => by subst hk; exact ⟨fun h => by omega, by omega⟩)
      (BlkJ m Z G s q #[.slice a m c, .slice b m d] w) (BlkX m Z G s q w) (blkJ_caller _ _ _ _ _ _ _ hqs) (fun c' => blkX_caller _ _ _ _ _ _ c' hqs) ⟨rfl, fun E hE => (by simp at hE), BB.out, C0.out, F0.out, C1.out, F1.out, HQ.out⟩
      (fun v a' _ => a' = { tmps := #[.slice a m c, .slice b m d, undef, undef, .pointer (some ⟨s, 0, none⟩), .pointer (some ⟨s + 1, 0, none⟩), .pointer (some ⟨q, 0, none⟩), .bool true, v, undef, .tuple #[.agg #[.slice a m c, .slice b m d], .bool true], .slice a m c, .slice b m d, .tuple #[.agg #[.slice a m c, .slice b m d], .bool true], .agg #[.slice a m c, .slice b m d], .bool true, .bool true, .bool false, .slice a m c, .int .i64 m, .func (.func 98) #[] #[.pointer (some ⟨q + 1, 0, none⟩)], v, undef, undef, undef, undef, undef, undef, undef], defers := [] })
      (fun v a' W l r o h _ => h) ?assign ?body ?done ?stop
    case assign =>
      intro l' v Wx K hK
      gi_wp2
      exact hK _ _ (Outside.refl _ _) rfl
    case body =>
      rintro l' V pre D gb cap a' Wx ⟨rfl, h0, h1, h2, h3, h4, h5, h7⟩ hpre hown hgb hV rfl
      have hmem : D ∈ givs m m [] := by obtain ⟨z, hz⟩ := hpre; rw [← hz]; simp
      have he := givs_each hmem
      have hfew := each_few (by omega) hn5 he
      have hrd : Rd Wx (some ⟨gb, 0, none⟩) D.length (nth D) := owns_rd hown
      have hQ : BlockQ m Z G (numsL D.length (nth D)) ↔ AgainstP m Z G (nth D) := by rw [numsL_nth]; exact ⟨fun h => h.2, fun h => ⟨he, h⟩⟩
      have B1 := Lib.hid h1
      have BWx := Lib.hid (show Below w.heap.size w Wx by rw [← HS.out]; exact h1)
      have NO := Lib.hid h0
      have RD := Lib.hid hrd
      have C2 := Lib.hid h2
      have F2 := Lib.hid h3
      have C3 := Lib.hid h4
      have F3 := Lib.hid h5
      have Q7 := Lib.hid h7
      have FW := Lib.hid hfew
      have HC := Lib.hid (fun (W1 : World) (h : Below Wx.heap.size Wx W1) => checks_any 100 (.agg #[.slice a m c, .slice b m d]) blockB (BlockQ m Z G) (some ⟨gb, 0, none⟩) D.length cap (nth D) W1 (enters_of Tryd.func100 (by kernel_rfl) rfl) (showsBlock m c a A L C Z d b G W1 HG.out (HA.out.below (Nat.le_refl _) (below_chain BWx.out h)) (HB.out.below (Nat.le_refl _) (below_chain BWx.out h))) (by have := FW.out.2.1; omega) (fun k hk => by have := nth_few FW.out.2.2 k hk; unfold FewDig at this; exact ⟨by omega, by omega⟩) (RD.out.below (Nat.le_refl _) h))
      have HX := Lib.hid (fun (W1 : World) (h : Below Wx.heap.size Wx W1) => proofText_any blockB D.length cap (some ⟨gb, 0, none⟩) (nth D) (.func (.func 100) #[.agg #[.slice a m c, .slice b m d]] #[]) W1 (by decide) (by have := FW.out.2.1; omega) (nth_few FW.out.2.2) (RD.out.below (Nat.le_refl _) h) (HT.out.below (Nat.le_refl _) (below_chain BWx.out h)) rfl)
      have q0 : Wx.cell? ⟨q, 0, none⟩ = some (.slice a m c) := Lib.cell_of_heap Q7.out 0
      have q1 : Wx.cell? ⟨q, 1, none⟩ = some (.slice b m d) := Lib.cell_of_heap Q7.out 1
      by_cases hag : AgainstP m Z G (nth D)
      · have T2 := Lib.hid (tt_of (hQ.2 hag))
        clear h0 h1 h2 h3 h4 h5 h7 hmem he hfew hrd hQ hpre hown hV
        gi_wp2_with (first
          | (gi_at_call 57; refine (callsIn_wide.2 (makesBlock _ _ rfl rfl _ _ _ _ _ (Below.refl _ _))).mono ?_; rintro e w5 ⟨rfl, hb5⟩; have B5 := Lib.hid hb5; have B5a := Lib.hid (below_alloc hb5 (.cells #[.string (strU blockB), .slice (some ⟨gb, 0, none⟩) D.length cap, .func (.func 100) #[.agg #[.slice a m c, .slice b m d]] #[]] 59)); have Z5 := Lib.hid (show w5.heap.size < (w5.alloc (.cells #[.string (strU blockB), .slice (some ⟨gb, 0, none⟩) D.length cap, .func (.func 100) #[.agg #[.slice a m c, .slice b m d]] #[]] 59)).heap.size by simp); clear hb5)
          | (gi_at_call 58; refine (callsIn_wide.2 (HC.out _ B5a.out)).mono ?_; rw [T2.out]; rintro e w6 ⟨rfl, hb6⟩; have R6 := Lib.hid ((hb6.block _ Z5.out).trans (heap_alloc_last w5 _)); have B6 := Lib.hid (below_chain B5a.out hb6); clear hb6; have p0 : w6.cell? ⟨w5.heap.size, 0, none⟩ = some (.string (strU blockB)) := Lib.cell_of_heap R6.out 0; have p1 : w6.cell? ⟨w5.heap.size, 1, none⟩ = some (.slice (some ⟨gb, 0, none⟩) D.length cap) := Lib.cell_of_heap R6.out 1; have p2 : w6.cell? ⟨w5.heap.size, 2, none⟩ = some (.func (.func 100) #[.agg #[.slice a m c, .slice b m d]] #[]) := Lib.cell_of_heap R6.out 2)
          | (gi_at_call 42; refine (callsIn_wide.2 (HX.out _ B6.out)).mono ?_; rw [numsL_nth]; rintro e w7 ⟨rfl, hb7⟩; have B7 := Lib.hid (below_chain B6.out hb7); clear hb7; have c7 : w7.cell? ⟨s, 0, none⟩ = some (.string ⟨#[]⟩) := (B7.out.cell (p := ⟨s, 0, none⟩) (World.block_lt_of_cell? _ _ C2.out)).trans C2.out; have f7 : w7.frozen? ⟨s, 0, none⟩ = false := (World.frozen?_of_block (w := Wx) (B7.out.block s (World.block_lt_of_cell? _ _ C2.out))).trans F2.out; have c8 : w7.cell? ⟨s + 1, 0, none⟩ = some (.bool false) := (B7.out.cell (p := ⟨s + 1, 0, none⟩) (World.block_lt_of_cell? _ _ C3.out)).trans C3.out; have f8 : w7.frozen? ⟨s + 1, 0, none⟩ = false := (World.frozen?_of_block (w := Wx) (B7.out.block (s + 1) (World.block_lt_of_cell? _ _ C3.out))).trans F3.out))
        refine ⟨?_, fun k => k ≤ q, fun k hk => .inl hk, ⟨rfl, rfl, ⟨pre, D, rfl, NO.out, hag, ?_⟩, ?_, ?_, ?_⟩⟩
        · exact ((Outside.of_below B7.out).trans' (Outside.of_grown (V := fun k => k ≤ q) (row := some s) (grownBy_setCell' _ _ _) (fun k hk => by cases hk; show s ≤ q; omega)) (fun _ _ h => h)).trans' (Outside.of_grown (V := fun k => k ≤ q) (row := some (s + 1)) (grownBy_setCell' _ _ _) (fun k hk => by cases hk; show s + 1 ≤ q; omega)) (fun _ _ h => h)
        · rw [World.cell?_of_block (Below.heap_setCell _ _ _ _ (show s ≠ s + 1 by omega))]
          exact World.cell?_setCell_same' _ _ _ (by rw [c7]; rfl)
        · exact ((B1.out.trans (B7.out.mono (by have := (Array.getElem?_eq_some_iff.1 Q7.out).1; omega))).setCell (p := ⟨s, 0, none⟩) (Nat.le_refl _) _).setCell (p := ⟨s + 1, 0, none⟩) (by show s ≤ s + 1; omega) _
        · exact World.cell?_setCell_same' _ _ _ (by rw [World.cell?_of_block (Below.heap_setCell _ _ _ _ (show s + 1 ≠ s by omega)), c8]; rfl)
        · have h9 := (Array.getElem?_eq_some_iff.1 Q7.out).1
          have := B7.out.size
          simp
          omega
      · have T2 := Lib.hid (tt_no (fun h => hag (hQ.1 h)))
        have NN := Lib.hid (show ∀ E, E ∈ pre ++ [D] → ¬ AgainstP m Z G (nth E) from fun E hE => by
          rcases List.mem_append.1 hE with hE | hE
          · exact h0 E hE
          · rw [List.mem_singleton.1 hE]; exact hag)
        clear h0 h1 h2 h3 h4 h5 h7 hmem he hfew hrd hQ hpre hown hV hag
        gi_wp2_with (first
          | (gi_at_call 57; refine (callsIn_wide.2 (makesBlock _ _ rfl rfl _ _ _ _ _ (Below.refl _ _))).mono ?_; rintro e w5 ⟨rfl, hb5⟩; have B5 := Lib.hid hb5; have B5a := Lib.hid (below_alloc hb5 (.cells #[.string (strU blockB), .slice (some ⟨gb, 0, none⟩) D.length cap, .func (.func 100) #[.agg #[.slice a m c, .slice b m d]] #[]] 59)); have Z5 := Lib.hid (show w5.heap.size < (w5.alloc (.cells #[.string (strU blockB), .slice (some ⟨gb, 0, none⟩) D.length cap, .func (.func 100) #[.agg #[.slice a m c, .slice b m d]] #[]] 59)).heap.size by simp); clear hb5)
          | (gi_at_call 58; refine (callsIn_wide.2 (HC.out _ B5a.out)).mono ?_; rw [T2.out]; rintro e w6 ⟨rfl, hb6⟩; have R6 := Lib.hid ((hb6.block _ Z5.out).trans (heap_alloc_last w5 _)); have B6 := Lib.hid (below_chain B5a.out hb6); clear hb6; have p0 : w6.cell? ⟨w5.heap.size, 0, none⟩ = some (.string (strU blockB)) := Lib.cell_of_heap R6.out 0; have p1 : w6.cell? ⟨w5.heap.size, 1, none⟩ = some (.slice (some ⟨gb, 0, none⟩) D.length cap) := Lib.cell_of_heap R6.out 1; have p2 : w6.cell? ⟨w5.heap.size, 2, none⟩ = some (.func (.func 100) #[.agg #[.slice a m c, .slice b m d]] #[]) := Lib.cell_of_heap R6.out 2))
        exact ⟨Outside.of_below B6.out, fun k => k ≤ q, fun k hk => .inl hk, ⟨rfl, NN.out, B1.out.trans (B6.out.mono (by have := (Array.getElem?_eq_some_iff.1 Q7.out).1; omega)), (B6.out.cell (p := ⟨s, 0, none⟩) (World.block_lt_of_cell? _ _ C2.out)).trans C2.out, (World.frozen?_of_block (w := Wx) (B6.out.block s (World.block_lt_of_cell? _ _ C2.out))).trans F2.out, (B6.out.cell (p := ⟨s + 1, 0, none⟩) (World.block_lt_of_cell? _ _ C3.out)).trans C3.out, (World.frozen?_of_block (w := Wx) (B6.out.block (s + 1) (World.block_lt_of_cell? _ _ C3.out))).trans F3.out, (B6.out.block q (Array.getElem?_eq_some_iff.1 Q7.out).1).trans Q7.out⟩⟩
    case done =>
      rintro D V Wx hD hV hnD ⟨rfl, h0, h1, h2, h3, h4, h5, h7⟩ hKD
      have hn := (firstAg_none (n := m) (Z := Z) (G := G) _).2 h0
      have hno : ¬ HasB m L Z m G := fun h => h.2 hn
      have E0 := Lib.hid (prB_no hno)
      have E1 := Lib.hid (tt_no hno)
      have HBx := Lib.hid h1
      have hDs : s + 2 ≤ D := by
        have : ¬ D ≤ q := hnD
        omega
      clear h0 h1 hn hno h7
      gi_wp2
      have hKD2 : ((Wx.setCell ⟨s, 0, none⟩ (.string ⟨#[]⟩)).setCell ⟨s + 1, 0, none⟩ (.bool false)).heap[D]? = some (.deferred (some [])) :=
        ((Below.heap_setCell _ _ _ _ (show D ≠ s + 1 by omega)).trans (Below.heap_setCell _ _ _ _ (show D ≠ s by omega))).trans hKD
      refine ⟨by simp, .inl ⟨_, _, rfl, run_takeDeferred hKD2, ?_⟩⟩
      refine ⟨_, results_cells rfl _ _ ⟨s, 0, none⟩ ⟨s + 1, 0, none⟩ (.string ⟨#[]⟩) (.bool false) _ _ rfl rfl Tryd.underlying9 rfl Tryd.underlying4 rfl ?_ ?_, ?_, ?_⟩
      · rw [World.cell?_of_block (World.putObj_heap_other (show s ≠ D by omega)), World.cell?_of_block (Below.heap_setCell _ _ _ _ (show s ≠ s + 1 by omega))]
        exact World.cell?_setCell_same' _ _ _ (by rw [h2]; rfl)
      · rw [World.cell?_of_block (World.putObj_heap_other (show s + 1 ≠ D by omega))]
        exact World.cell?_setCell_same' _ _ _ (by rw [World.cell?_of_block (Below.heap_setCell _ _ _ _ (show s + 1 ≠ s by omega)), h4]; rfl)
      · rw [E0.out, E1.out]; rfl
      · rw [← HS.out]
        refine below_inside (V := fun k => k ≤ q) ((HBx.out.setCell (p := ⟨s, 0, none⟩) (Nat.le_refl _) _).setCell (p := ⟨s + 1, 0, none⟩) (by show s ≤ s + 1; omega) _) (Inside.putObj (V := fun k => k ≤ q) hnD _) (fun k hk => show k ≤ q by omega)
    case stop =>
      rintro D c' V pre Wx hD hV hnD hpre ⟨rfl, rfl, ⟨P, D1, rfl, h0, h1, h2⟩, h3, h4, h7⟩ hKD
      have hf : firstAg m Z G (givs m m []) = some D1 := by
        obtain ⟨z, hz⟩ := hpre
        rw [← hz, List.append_assoc]
        exact firstAg_at P D1 z h0 h1
      have E0 := Lib.hid (prB_yes HG.out hf)
      have E1 := Lib.hid (tt_of (show HasB m L Z m G from ⟨HG.out, by rw [hf]; simp⟩))
      have HBx := Lib.hid h3
      have hDs : s + 2 ≤ D := by
        have : ¬ D ≤ q := hnD
        omega
      clear h0 h1 h3 hf hpre
      gi_wp2
      refine ⟨by simp, .inl ⟨_, _, rfl, run_takeDeferred hKD, ?_⟩⟩
      refine ⟨_, results_cells rfl _ _ ⟨s, 0, none⟩ ⟨s + 1, 0, none⟩ (.string (strU (wordsB blockB D1))) (.bool true) _ _ rfl rfl Tryd.underlying9 rfl Tryd.underlying4 rfl ?_ ?_, ?_, ?_⟩
      · rw [World.cell?_of_block (World.putObj_heap_other (show s ≠ D by omega))]; exact h2
      · rw [World.cell?_of_block (World.putObj_heap_other (show s + 1 ≠ D by omega))]; exact h4
      · rw [E0.out, E1.out]
      · rw [← HS.out]
        exact below_inside (V := fun k => k ≤ q) HBx.out (Inside.putObj (V := fun k => k ≤ q) hnD _) (fun k hk => show k ≤ q by omega)
  · have T1 := Lib.hid (tt_no hg)
    have E0 := Lib.hid (prB_no (show ¬ HasB n L Z m G from fun h => hg h.1))
    have E1 := Lib.hid (tt_no (show ¬ HasB n L Z m G from fun h => hg h.1))
    clear hg ha0 hb1 hT
    gi_wp2_with (gi_at_call 55; refine (callsIn_wide.2 H1.out).mono ?_; rw [T1.out]; rintro e w0 ⟨rfl, hb0⟩; simp only [World.size_alloc] at hb0; have hz0 : w.heap.size + 1 + 1 ≤ w0.heap.size := (by have := hb0.size; simpa using this); have BW := Lib.hid (hb0.alloc hz0 (.cells #[.slice none 0 0, .slice none 0 0] 71)); have C0 := (BW.out.cell (p := ⟨w.heap.size, 0, none⟩) (show w.heap.size < w.heap.size + 1 + 1 by omega)).trans (show _ = some (.string ⟨#[]⟩) by rw [World.cell?_of_block (w := w.alloc _) (Below.heap_alloc _ _ _ (by simp))]; simp); have C1 := (BW.out.cell (p := ⟨w.heap.size + 1, 0, none⟩) (show w.heap.size + 1 < w.heap.size + 1 + 1 by omega)).trans (show _ = some (.bool false) by simp); have F0 : (w0.alloc (.cells #[.slice none 0 0, .slice none 0 0] 71)).frozen? ⟨w.heap.size, 0, none⟩ = false := (by rw [World.frozen?_of_block (w := (w.alloc _).alloc _) (BW.out.block w.heap.size (by omega)), World.frozen?_of_block (w := w.alloc _) (Below.heap_alloc _ _ _ (by simp))]; simp); have F1 : (w0.alloc (.cells #[.slice none 0 0, .slice none 0 0] 71)).frozen? ⟨w.heap.size + 1, 0, none⟩ = false := (by rw [World.frozen?_of_block (w := (w.alloc _).alloc _) (BW.out.block (w.heap.size + 1) (by omega))]; simp))
    refine ⟨_, results_cells rfl _ _ ⟨w.heap.size, 0, none⟩ ⟨w.heap.size + 1, 0, none⟩ (.string ⟨#[]⟩) (.bool false) _ _ rfl rfl Tryd.underlying9 rfl Tryd.underlying4 rfl ?_ ?_, ?_, ?_⟩
    · rw [World.cell?_of_block (Below.heap_setCell _ _ _ _ (show w.heap.size ≠ w.heap.size + 1 by omega))]
      exact World.cell?_setCell_same' _ _ _ (by rw [C0]; rfl)
    · exact World.cell?_setCell_same' _ _ _ (by rw [World.cell?_of_block (Below.heap_setCell _ _ _ _ (show w.heap.size + 1 ≠ w.heap.size by omega)), C1]; rfl)
    · rw [E0.out, E1.out]; rfl
    · exact ((((below_alloc (below_alloc (Below.refl _ w) _) _).trans (BW.out.mono (by omega))).setCell (p := ⟨w.heap.size, 0, none⟩) (Nat.le_refl _) _).setCell (p := ⟨w.heap.size + 1, 0, none⟩) (by show w.heap.size ≤ w.heap.size + 1; omega) _)
end Go.Proofs.YtabdbgnkiebcdaaDoor

namespace Go.Proofs.YtabdbgnkiebcdaaDoor
set_option linter.unusedVariables false
open Go.RowKit

set_option maxHeartbeats 6400000 in
set_option maxRecDepth 100000 in
theorem l91Wishes_any (r n c p q : Nat) (a : Option Addr) (B : Nat → Nat) (w : World) (hR : RdrAt w r a n c p) (hb : RdB w a n B) (hab : 0 < n → ∀ b o, a = some ⟨b, o, none⟩ → b < w.heap.size ∧ b ≠ r) (hn : n ≤ 2000) (hp : p ≤ 1000) (hq2 : 2 ≤ q) (hq5 : q ≤ 5) :
    Calls Tryd.prog 109 #[.pointer (some ⟨r, 0, none⟩), .int .i64 q] w (DrewTab r a n c p w) := by
  obtain ⟨i0, hi, hz0, hz1, hz2⟩ := info_parts Tryd.infoInt
  obtain ⟨i1, hj, hy0, hy1, hy2⟩ := info_parts Tryd.infoInts
  have hrl := hR.lt
  have HR0 := Lib.hid hR
  have HB := Lib.hid hb
  have HAL := Lib.hid hab
  have HAB := Lib.hid (show 0 < n → ∀ b o, a = some ⟨b, o, none⟩ → b ≠ r from fun h0 b o e => (hab h0 b o e).2)
  clear hR hb hab
  go_enter Tryd.func109, Tryd.ntmps109
  go_wp2_with fail
  rw [show ((q : Int) - 1) = ((q - 1 : Nat) : Int) by omega]
  refine (pick_any r n c p (q - 1) a B _ HR0.out HB.out HAB.out hn (by omega) (by omega) (by omega)).mono ?_
  rintro e w1 ⟨x, rfl, hx, hR1, hK1⟩
  have HR1 := Lib.hid (hR1.alloc (.cells #[] 32))
  have hs1 : w1.heap.size = w.heap.size := hK1.size
  have HU1 := Lib.hid ((ButR.keeps (B := w.heap.size) hK1).alloc (by omega) (.cells #[] 32))
  have hrl1 : r < w1.heap.size := by omega
  have S1 := Lib.hid hs1
  clear hR1 hK1 hs1
  obtain ⟨N, hN⟩ : ∃ N, N = 2 + x := ⟨_, rfl⟩
  have hN2 : 2 ≤ N := by omega
  have hN5 : N ≤ 5 := by omega
  have hNx : (2 : Int) + (x : Int) = (N : Int) := by omega
  clear hN
  go_wp2
  clear hNx
  have M0 := Lib.hid (Making.start 32 w1.heap.size (w1.alloc (.cells #[] 32)) (.slice (some ⟨w1.heap.size, 0, none⟩) 0 0) (fun _ => 0) (fun _ => 0) (fun _ => N) (fun _ _ => 0) (World.ownsRow_made w1 #[] 0 (Nat.le_refl _) (Nat.zero_le _) (by simp)))
  go_loopw [6, 7] (fun out s wr => ∃ i : Nat, i ≤ N ∧ s = .int .i64 i ∧ ∃ v G Cp XX pi, v = out ∧ Making 32 w1.heap.size wr v i G Cp (fun _ => N) XX ∧ (∀ s, s < i → N ≤ Cp s) ∧ RdrAt wr r a n c pi ∧ pi ≤ p + 1 + 10 * i ∧ w1.heap.size ≤ wr.heap.size ∧ ButR r w.heap.size w wr) (fun _ s _ => N - (intOf s).toNat)
  case atStart => exact ⟨0, Nat.zero_le _, rfl, _, _, _, _, p + 1, rfl, M0.out, fun s hs => absurd hs (Nat.not_lt_zero _), HR1.out, by omega, by simp, HU1.out⟩
  case round =>
    obtain ⟨i, hik, rfl, ov, G, Cp, XX, pi, rfl, hM, hCp, hRi, hpi, hsi, hUi⟩ := hrel
    clear M0 HR1 HU1
    have HM := Lib.hid hM
    have HCp := Lib.hid hCp
    have HRi := Lib.hid hRi
    have HUi := Lib.hid hUi
    clear hM hCp hRi hUi
    by_cases hil : i < N
    · go_wp2
      obtain ⟨wo, rfl⟩ : ∃ wo : World, wo = wr := ⟨_, rfl⟩
      have hwo : w.heap.size ≤ wo.heap.size := by have := S1.out; omega
      have hrwo : r < wo.heap.size := by omega
      have R0 := Lib.hid (show (wo.alloc (.cells #[] 3)).ownsRow wo.heap.size 3 1 (.slice (some ⟨wo.heap.size, 0, none⟩) 0 0) 0 (cellsL 0 (fun _ => 0)) from World.ownsRow_made wo #[] 0 (Nat.le_refl _) (Nat.zero_le _) (by simp))
      have HRr := Lib.hid (HRi.out.alloc (.cells #[] 3))
      have U0 := Lib.hid ((ButR.refl r wo.heap.size wo).alloc (Nat.le_refl _) (.cells #[] 3))
      go_loopw [8, 9, 10] (fun row s _ wi => ∃ k : Nat, k ≤ N ∧ s = .int .i64 k ∧ ∃ g cap Y pk, row = .slice (some ⟨g, 0, none⟩) k cap ∧ wi.ownsRow wo.heap.size 3 1 (.slice (some ⟨g, 0, none⟩) k cap) k (cellsL k Y) ∧ RdrAt wi r a n c pk ∧ pk ≤ pi + k ∧ ButR r wo.heap.size wo wi) (fun _ s _ _ => N - (intOf s).toNat)
      case atStart => exact ⟨0, Nat.zero_le _, rfl, wo.heap.size, 0, fun _ => 0, pi, rfl, R0.out, HRr.out, by omega, U0.out⟩
      case round =>
        obtain ⟨k, hk, rfl, g, cap, Y, pk, rfl, hown, hR, hpk, hU⟩ := hrel
        clear R0 HRr U0
        have HO := Lib.hid hown
        have HR := Lib.hid hR
        have HU := Lib.hid hU
        have hsz := hU.size
        obtain ⟨hkc, hgb, hglt⟩ := owns_cap hown
        clear hown hR hU
        by_cases hlt : k < N
        · go_wp2_with fail
          rw [show ((k : Int) + 1) = ((k + 1 : Nat) : Int) by omega]
          refine (pick_any r n c pk (k + 1) a B _ HR.out (HB.out.but HAL.out (HUi.out.trans (HU.out.mono hwo))) HAB.out hn (by omega) (by omega) (by omega)).mono ?_
          rintro e w5 ⟨x, rfl, hx, hR5, hK5⟩
          have HR5 := Lib.hid hR5
          have hs5 : w5.heap.size = wr.heap.size := hK5.size
          have HU5 := Lib.hid (HU.out.trans (ButR.keeps hK5))
          have O5 := Lib.hid (owns_but HO.out hrwo hK5)
          have RX := Lib.hid (show Rd w5 (some ⟨g, 0, none⟩) x Y from fun j hj => owns_rd O5.out j (by omega))
          obtain ⟨o', hif, ho'⟩ : ∃ o' : Nat, (if cap = x then some (⟨g, 0, none⟩ : Addr) else some ⟨g, x, none⟩) = some ⟨g, o', none⟩ ∧ (cap = x ∨ o' = x) := by
            by_cases e : cap = x
            · exact ⟨0, by rw [if_pos e], .inl e⟩
            · exact ⟨x, by rw [if_neg e], .inr rfl⟩
          have RY := Lib.hid (show Rd w5 (some ⟨g, o', none⟩) (k - x) (fun j => Y (x + j)) from fun j hj => by
            obtain ⟨b', q', he, hc⟩ := owns_rd O5.out (x + j) (by omega)
            simp only [Option.some.injEq, Addr.mk.injEq, and_true] at he
            obtain ⟨rfl, rfl⟩ := he
            rw [Nat.zero_add] at hc
            have e : o' = x := by omega
            subst e
            exact ⟨g, o', rfl, hc⟩)
          clear ho'
          have hx1 : (x : Int) ≤ (k : Int) := by omega
          have hx2 : (x : Int) ≤ (cap : Int) := by omega
          have hx3 : x ≤ k := by omega
          have hx4 : x ≤ cap := by omega
          have S5 := Lib.hid hs5
          clear hR5 hK5 hs5
          go_wp2
          go_region_law (first
            | (refine step_append_any _ (by rfl) (.tmp 33) (.tmp 36) 32 (by rfl) w5.heap.size 3 i0 Tryd.underlying32 hi hz0 hz1 hz2 _ 0 0 [] (by rfl) (owns_empty (by first | exact heap_alloc_last _ _ | exact (Below.heap_alloc _ _ _ (by simp)).trans (heap_alloc_last _ _) | exact (by have h := heap_alloc_last (w5.alloc (.cells #[.int .i64 k] 3)) (.cells #[] 3); rw [World.size_alloc] at h; exact h)) (by first | exact Nat.le_refl _ | (simp; done) | (simp; omega) | omega)) ⟨g, 0, none⟩ x cap (cellsL x Y) (by rfl) (cellsL_length x Y) (RX.out.news (by repeat (first | assumption | exact Below.refl _ _ | refine Below.drew ?_ | refine below_alloc ?_ _))) (cellsL_one x Y) (by omega) (by first | exact Nat.le_refl _ | (simp; done) | (simp; omega) | omega) ?_; intro g1 cap1 w6 hown1 hgrow1; simp only [Nat.zero_add, List.nil_append] at hown1; have hb1 : Below w5.heap.size w5 w6 := Below.grown (by repeat (first | assumption | exact Below.refl _ _ | refine Below.drew ?_ | refine below_alloc ?_ _)) hgrow1 (by first | exact Nat.le_refl _ | (simp; done) | (simp; omega) | omega) (fun k h => by cases h; first | exact Nat.le_refl _ | simp | omega))
            | (refine step_append_any _ (by rfl) (.tmp 37) (.tmp 39) 32 (by rfl) w5.heap.size 3 i0 Tryd.underlying32 hi hz0 hz1 hz2 g1 x cap1 (cellsL x Y) (by rfl) (by first | exact hown1 | exact hown1.alloc _) ⟨_, 0, none⟩ 1 1 [.int .i64 k] (by rfl) (by rfl) (news_one (by first | (simp; done) | exact hgrow1.cell (by simp) (fun e => by simp at e))) (by simp [Value.oneCell']) (by omega) (by have := hb1.size; first | omega | (simp; omega)) ?_; intro g2 cap2 w7 hown2 hgrow2; have hb2 : Below w5.heap.size w5 w7 := Below.grown (by repeat (first | assumption | exact Below.refl _ _ | refine Below.drew ?_ | refine below_alloc ?_ _)) hgrow2 (by have := hb1.size; first | omega | (simp; omega)) (fun k h => by cases h; exact (owns_cap hown1).2.1))
            | (refine step_append_any _ (by rfl) (.tmp 40) (.tmp 43) 32 (by rfl) w5.heap.size 3 i0 Tryd.underlying32 hi hz0 hz1 hz2 g2 (x + 1) cap2 (cellsL x Y ++ [.int .i64 k]) (by rfl) (by first | exact hown2 | exact hown2.alloc _) ⟨g, o', none⟩ (k - x) _ (cellsL (k - x) fun j => Y (x + j)) (by rfl) (cellsL_length _ _) (RY.out.news (by repeat (first | assumption | exact Below.refl _ _ | refine Below.drew ?_ | refine below_alloc ?_ _))) (cellsL_one _ _) (by omega) (by have := hb2.size; first | omega | (simp; omega)) ?_; intro g3 cap3 w8 hown3 hgrow3; have hb3 : Below w5.heap.size w5 w8 := Below.grown (by repeat (first | assumption | exact Below.refl _ _ | refine Below.drew ?_ | refine below_alloc ?_ _)) hgrow3 (by have := hb2.size; first | omega | (simp; omega)) (fun k h => by cases h; exact (owns_cap hown2).2.1)))
          all_goals
            have el : x + 1 + (k - x) = k + 1 := by omega
            rw [el] at hown3
            obtain ⟨Y', hq⟩ := owns_cells hown3 (by
              intro u hu
              simp only [List.mem_append, cellsL, List.mem_map, List.mem_singleton] at hu
              rcases hu with (⟨_, _, rfl⟩ | rfl) | ⟨_, _, rfl⟩ <;> exact ⟨_, rfl⟩)
            have H3 := Lib.hid hq
            have B3 := Lib.hid hb3
            have EL := Lib.hid el
            clear hown1 hgrow1 hb1 hown2 hgrow2 hb2 hown3 hgrow3 hb3 hq el
            go_wp2
            go_roundw
            case rel =>
              have hs5 := S5.out
              refine ⟨k + 1, by omega, by go_num, g3, cap3, Y', pk + 1, by rw [EL.out], owns_base H3.out (by omega), HR5.out.of_block (B3.out.block r (by omega)), by omega, HU5.out.trans (ButR.below (B3.out.mono (by omega)))⟩
            case measure => simp [intOf]; omega
        · obtain rfl : N = k := by omega
          have hs1 := S1.out
          have HM2 := Lib.hid (making_butR HM.out hrl1 HU.out)
          have HUw := Lib.hid (HUi.out.trans (HU.out.mono hwo))
          have HV := Lib.hid (fun x hx => HM.out.1.lt x hx)
          clear hs1
          by_cases hi0 : i = 0
          · have hd : decide (0 < (i : Int)) = false := by simp; omega
            have hd2 : decide (0 < i) = false := by simp; omega
            clear hi0
            have HROW := Lib.hid (OwnR.of_owns HO.out)
            have hltr := HO.out.lt g rfl
            go_wp2_with (at_builtin; refine wpList_append_lies _ (by rfl) (.tmp 59) (.tmp 61) 22 (by rfl) w1.heap.size 32 i1 (.slice none 0 0) 1 24 Tryd.underlying22 hj hy0 hy1 hy2 (by rfl) (by decide) ov i ((List.range i).map fun r => .slice (some ⟨G r, 0, none⟩) N (Cp r)) (by rfl) (HM2.out.1.alloc _) ⟨_, 0, none⟩ 1 1 [.slice (some ⟨g, 0, none⟩) N cap] (by rfl) (by rfl) (news_one (by simp)) (by simp [Value.oneCell']) (by omega) (by unfold maxLen; omega) (by omega) (by first | omega | (simp; omega)) _ rfl ?_; intro g2 cap2 w2 hown2 hgrow2 hat2 hlt2; have N2 := Lib.hid hown2; have G2' := Lib.hid hgrow2; have A2 := Lib.hid hat2; clear hown2 hgrow2 hat2)
            have hs1 := S1.out
            go_roundw
            case rel =>
              refine ⟨i + 1, by omega, by go_num, _, (fun s => if s < i then G s else g), (fun s => if s < i then Cp s else cap), (fun s => if s < i then XX s else Y), pk, rfl, ?_, ?_, (HR.out.alloc _).grown G2'.out (fun e => by have := (HV.out r e).1; omega), by omega, by have := G2'.out.size; simp at this; omega, (HUw.out.alloc (by omega) _).grown G2'.out (by simp; omega) (fun x hx => by have := (HV.out x hx).1; omega)⟩
              · refine Making.next (w := wr.alloc _) ((making_same HM2.out (fun s hs => by show XX s = (if s < i then XX s else Y); rw [if_pos hs])).below (below_alloc (Below.refl _ _) _)) (by show OwnR _ g _ N (if i < i then XX i else Y); rw [if_neg (Nat.lt_irrefl _)]; exact HROW.out.of_block (Below.heap_alloc _ _ _ hltr.2)) (by omega) (by simp; omega) (fun h => by have := HV.out g h; omega) (fun s hs e => by have := (HM.out.2.1 s hs).2.1; omega) N2.out G2'.out A2.out (Nat.le_refl _)
              · intro s hs
                show N ≤ (if s < i then Cp s else cap)
                by_cases e : s < i
                · rw [if_pos e]; exact HCp.out s e
                · rw [if_neg e]; omega
            case measure => simp [intOf]; omega
          · have hd : decide (0 < (i : Int)) = true := by simp; omega
            have hd2 : decide (0 < i) = true := by simp; omega
            have hi1 : 0 < i := by omega
            clear hi0
            go_wp2_with fail
            refine (pick_any r n c pk 4 a B _ HR.out (HB.out.but HAL.out HUw.out) HAB.out hn (by omega) (by omega) (by omega)).mono ?_
            rintro e w6 ⟨y, rfl, hy, hR6, hK6⟩
            have HR6 := Lib.hid hR6
            have HM6 := Lib.hid (making_but HM2.out hrl1 hK6)
            have O6 := Lib.hid (owns_but HO.out hrwo hK6)
            have HU6 := Lib.hid (HUw.out.trans (ButR.keeps hK6))
            have hs6 : w6.heap.size = wr.heap.size := hK6.size
            have S6 := Lib.hid hs6
            clear hR6 hK6 hs6
            by_cases hyz : y = 0
            · subst hyz
              obtain ⟨j, hj1⟩ : ∃ j, i = j + 1 := ⟨i - 1, by omega⟩
              obtain ⟨go, co, hov⟩ := owns_form HM6.out.1 hi1
              have HM6' := HM6.out
              rw [hov] at HM6'
              obtain ⟨b', o', e', hcj, hrj⟩ := HM6'.ownT.tab j (by omega)
              simp only [Option.some.injEq, Addr.mk.injEq, and_true] at e'
              obtain ⟨rfl, rfl⟩ := e'
              rw [Nat.zero_add] at hcj
              have RQ := Lib.hid hrj
              have hcj2 : (w6.alloc (.cells #[] 3)).cell? ⟨go, j, none⟩ = some (.slice (some ⟨G j, 0, none⟩) N (Cp j)) := (World.cell?_of_block (w := w6) (a := ⟨go, j, none⟩) (Below.heap_alloc _ _ _ (World.block_lt_of_cell? _ _ hcj))).trans hcj
              clear hcj
              have hjw : IntKind.i64.wrap ((i : Int) - 1) = (j : Int) := by rw [IntWalk.i64_in _ (by omega)]; omega
              have hjj : (i : Int) - 1 = (j : Int) := by omega
              have hji : (j : Int) < (i : Int) := by omega
              have hji2 : j < i := by omega
              have HOV := Lib.hid hov
              have HJ := Lib.hid hj1
              clear HM6' hrj hj1
              subst hov
              go_wp2_with (first
                | (at_builtin; refine wpList_append_any _ (by rfl) (.tmp 52) (.tmp 57) 32 (by rfl) w6.heap.size 3 i0 Tryd.underlying32 hi hz0 hz1 hz2 _ 0 0 [] (by rfl) (owns_empty (heap_alloc_last _ _) (by first | exact Nat.le_refl _ | (simp; done) | (simp; omega) | omega)) ⟨G j, 0, none⟩ N (Cp j) (cellsL N (XX j)) (by rfl) (cellsL_length _ _) (RQ.out.news (by repeat (first | assumption | exact Below.refl _ _ | refine Below.drew ?_ | refine below_alloc ?_ _))) (cellsL_one _ _) (by omega) (by first | exact Nat.le_refl _ | (simp; done) | (simp; omega) | omega) ?_; intro g1 cap1 w7 hown1 hgrow1; simp only [Nat.zero_add, List.nil_append] at hown1; have hb1 : Below w6.heap.size w6 w7 := Below.grown (by repeat (first | assumption | exact Below.refl _ _ | refine Below.drew ?_ | refine below_alloc ?_ _)) hgrow1 (by first | exact Nat.le_refl _ | (simp; done) | (simp; omega) | omega) (fun k h => by cases h; first | exact Nat.le_refl _ | simp | omega); have O7 := Lib.hid hown1; have HB7 := Lib.hid hb1; have HM7 := Lib.hid (HM6.out.below hb1); have HROW := Lib.hid (OwnR.of_owns hown1); have hltr := hown1.lt g1 rfl; have hcp1 := (owns_cap hown1).1; have hs7 := hb1.size; have hle7 : w1.heap.size ≤ w7.heap.size := (by have h2 := S6.out; omega); clear hown1 hgrow1 hb1)
                | (at_builtin; refine wpList_append_lies _ (by rfl) (.tmp 59) (.tmp 61) 22 (by rfl) w1.heap.size 32 i1 (.slice none 0 0) 1 24 Tryd.underlying22 hj hy0 hy1 hy2 (by rfl) (by decide) (.slice (some ⟨go, 0, none⟩) i co) i ((List.range i).map fun r => .slice (some ⟨G r, 0, none⟩) N (Cp r)) (by rfl) (HM7.out.1.alloc _) ⟨_, 0, none⟩ 1 1 [.slice (some ⟨g1, 0, none⟩) N cap1] (by rfl) (by rfl) (news_one (by simp)) (by simp [Value.oneCell']) (by omega) (by unfold maxLen; omega) (by omega) (by first | omega | (simp; omega)) _ rfl ?_; intro g2 cap2 w2 hown2 hgrow2 hat2 hlt2; have N2 := Lib.hid hown2; have G2' := Lib.hid hgrow2; have A2 := Lib.hid hat2; clear hown2 hgrow2 hat2))
              have hs6 := S6.out
              have hs1 := S1.out
              have HR7 := Lib.hid (HR6.out.of_block (HB7.out.block r (by omega)))
              have HU7 := Lib.hid (HU6.out.trans (ButR.below (HB7.out.mono (by omega))))
              go_roundw
              case rel =>
                refine ⟨i + 1, by omega, by go_num, _, (fun s => if s < i then G s else g1), (fun s => if s < i then Cp s else cap1), (fun s => if s < i then XX s else (XX j)), pk + 1, rfl, ?_, ?_, (HR7.out.alloc _).grown G2'.out (fun e => by have := (HV.out r e).1; omega), by omega, by have := G2'.out.size; simp at this; omega, (HU7.out.alloc (by omega) _).grown G2'.out (by simp; omega) (fun x hx => by have := (HV.out x hx).1; omega)⟩
                · refine Making.next (w := w7.alloc _) ((making_same HM7.out (fun s hs => by show XX s = (if s < i then XX s else (XX j)); rw [if_pos hs])).below (below_alloc (Below.refl _ _) _)) (by show OwnR _ g1 _ N (if i < i then XX i else (XX j)); rw [if_neg (Nat.lt_irrefl _)]; exact HROW.out.of_block (Below.heap_alloc _ _ _ hltr.2)) (by omega) (by simp; omega) (fun h => by have := HV.out g1 h; omega) (fun s hs e => by have := (HM.out.2.1 s hs).2.1; omega) N2.out G2'.out A2.out (Nat.le_refl _)
                · intro s hs
                  show N ≤ (if s < i then Cp s else cap1)
                  by_cases e : s < i
                  · rw [if_pos e]; exact HCp.out s e
                  · rw [if_neg e]; omega
              case measure => simp [intOf]; omega
            · have hne : ((y : Int) == 0) = false := beq_eq_false_iff_ne.2 (by omega)
              have HROW := Lib.hid (OwnR.of_owns O6.out)
              have hltr := O6.out.lt g rfl
              go_wp2_with (at_builtin; refine wpList_append_lies _ (by rfl) (.tmp 59) (.tmp 61) 22 (by rfl) w1.heap.size 32 i1 (.slice none 0 0) 1 24 Tryd.underlying22 hj hy0 hy1 hy2 (by rfl) (by decide) ov i ((List.range i).map fun r => .slice (some ⟨G r, 0, none⟩) N (Cp r)) (by rfl) (HM6.out.1.alloc _) ⟨_, 0, none⟩ 1 1 [.slice (some ⟨g, 0, none⟩) N cap] (by rfl) (by rfl) (news_one (by simp)) (by simp [Value.oneCell']) (by omega) (by unfold maxLen; omega) (by omega) (by first | omega | (simp; omega)) _ rfl ?_; intro g2 cap2 w2 hown2 hgrow2 hat2 hlt2; have N2 := Lib.hid hown2; have G2' := Lib.hid hgrow2; have A2 := Lib.hid hat2; clear hown2 hgrow2 hat2)
              have hs1 := S1.out
              have hs6 := S6.out
              go_roundw
              case rel =>
                refine ⟨i + 1, by omega, by go_num, _, (fun s => if s < i then G s else g), (fun s => if s < i then Cp s else cap), (fun s => if s < i then XX s else Y), pk + 1, rfl, ?_, ?_, (HR6.out.alloc _).grown G2'.out (fun e => by have := (HV.out r e).1; omega), by omega, by have := G2'.out.size; simp at this; omega, (HU6.out.alloc (by omega) _).grown G2'.out (by simp; omega) (fun x hx => by have := (HV.out x hx).1; omega)⟩
                · refine Making.next (w := w6.alloc _) ((making_same HM6.out (fun s hs => by show XX s = (if s < i then XX s else Y); rw [if_pos hs])).below (below_alloc (Below.refl _ _) _)) (by show OwnR _ g _ N (if i < i then XX i else Y); rw [if_neg (Nat.lt_irrefl _)]; exact HROW.out.of_block (Below.heap_alloc _ _ _ hltr.2)) (by omega) (by simp; omega) (fun h => by have := HV.out g h; omega) (fun s hs e => by have := (HM.out.2.1 s hs).2.1; omega) N2.out G2'.out A2.out (Nat.le_refl _)
                · intro s hs
                  show N ≤ (if s < i then Cp s else cap)
                  by_cases e : s < i
                  · rw [if_pos e]; exact HCp.out s e
                  · rw [if_neg e]; omega
              case measure => simp [intOf]; omega
    · obtain rfl : N = i := by omega
      obtain ⟨go, co, rfl⟩ := owns_form HM.out.1 (by omega)
      have hcapo := (owns_cap HM.out.1).1
      go_wp2_with fail
      refine (pick_any r n c pi 50 a B _ HRi.out (HB.out.but HAL.out HUi.out) HAB.out hn (by omega) (by omega) (by omega)).mono ?_
      rintro e w7 ⟨u, rfl, hu, hR7, hK7⟩
      have M7 := Lib.hid (making_but HM.out hrl1 hK7)
      have HR7 := Lib.hid hR7
      have U7 := Lib.hid (HUi.out.trans (ButR.keeps hK7))
      have T7 := Lib.hid M7.out.ownT.tab
      have hgo := M7.out.1.lt go rfl
      have AG7 := Lib.hid (show w.heap.size ≤ go by have := S1.out; have := hgo.1; omega)
      have AP7 := Lib.hid (show ∀ s, s < N → w.heap.size ≤ G s from fun s hs => by have := S1.out; have := (M7.out.2.1 s hs).1; omega)
      clear hR7 hK7 hgo
      by_cases hu0 : u = 0
      · subst hu0
        have hd : (((0 : Nat) : Int) == 0) = true := by decide
        have hct := M7.out.1.cells (g := go) rfl 0 (.slice (some ⟨G 0, 0, none⟩) N (Cp 0)) (by simp [show 0 < N by omega])
        rw [Go.WideShapes.add_plain, Nat.zero_add] at hct
        obtain ⟨hG1, hG2, hG3, hG4⟩ := M7.out.2.1 0 (by omega)
        have hne : go ≠ G 0 := fun e => hG3 (by rw [← e]; rfl)
        have hrG : r ≠ G 0 := by omega
        obtain ⟨hc1, hf1⟩ : w7.cell? ⟨G 0, 0, none⟩ = some (.int .i64 (XX 0 0)) ∧ w7.frozen? ⟨G 0, 0, none⟩ = false := by
          rcases hG4 with h0 | ⟨o, ha, hc⟩
          · have h0' : N = 0 := h0
            omega
          · simp only [Option.some.injEq, Addr.mk.injEq, true_and, and_true] at ha
            subst ha
            exact hc 0 (show 0 < N by omega)
        have HC1 := Lib.hid hc1
        clear hG3 hG4
        go_wp2
        go_ret
        refine ⟨some ⟨go, 0, none⟩, N, co, fun s => some ⟨G s, 0, none⟩, fun _ => N, Cp, (fun s k => if s = 0 ∧ k = 0 then (N : Int) else XX s k), pi + 1, rfl, ⟨by omega, by omega⟩, ⟨fun s hs => by show N ≤ 5; omega, fun b o e => by cases e; exact AG7.out, fun s hs b o e => by cases e; exact AP7.out s hs⟩, ?_, HR7.out.of_block (Below.heap_setCell _ _ _ _ hrG), by omega, U7.out.setCell (p := ⟨G 0, 0, none⟩) (by show w.heap.size ≤ G 0; exact AP7.out 0 (by omega)) _⟩
        intro s hs
        obtain ⟨b', o', e', hc', hr'⟩ := T7.out s hs
        cases e'
        refine ⟨go, 0, rfl, ?_, fun k hk => ?_⟩
        · rw [World.cell?_of_block (w := w7) (a := ⟨go, 0 + s, none⟩) (Below.heap_setCell _ _ _ _ hne)]; exact hc'
        · obtain ⟨b2, o2, e2, hc2⟩ := hr' k hk
          refine ⟨b2, o2, e2, ?_⟩
          cases e2
          rw [Nat.zero_add] at hc2 ⊢
          show _ = some (Value.int .i64 (if s = 0 ∧ k = 0 then (N : Int) else XX s k))
          by_cases hs0 : s = 0 ∧ k = 0
          · obtain ⟨rfl, rfl⟩ := hs0
            rw [if_pos ⟨rfl, rfl⟩]
            exact World.cell?_setCell_same _ _ _ HC1.out
          · rw [if_neg hs0, World.cell?_setCell_other _ _ _ _ (fun e' => hs0 ?_)]
            · exact hc2
            · injection e' with e1 e2'
              refine ⟨?_, e2'.symm⟩
              rcases Nat.eq_zero_or_pos s with h' | h'
              · exact h'
              · exact absurd e1 (M7.out.2.2 0 s (by omega) hs (by omega))
      · have hd0 : ((u : Int) == 0) = false := by simp; omega
        by_cases hu1 : u = 1
        · subst hu1
          have hd1 : (((1 : Nat) : Int) == 1) = true := by decide
          obtain ⟨j, hj1⟩ : ∃ j, N = j + 1 := ⟨N - 1, by omega⟩
          have hjN : j < N := by omega
          have hji : (j : Int) < (N : Int) := by omega
          have hjw : IntKind.i64.wrap ((N : Int) - 1) = (j : Int) := by rw [IntWalk.i64_in _ (by omega)]; omega
          have hjj : (N : Int) - 1 = (j : Int) := by omega
          have hcpj := HCp.out j hjN
          have hcp2 : 2 ≤ Cp j := by omega
          obtain ⟨b', o', e', hcj, hrj⟩ := T7.out j hjN
          simp only [Option.some.injEq, Addr.mk.injEq, and_true] at e'
          obtain ⟨rfl, rfl⟩ := e'
          rw [Nat.zero_add] at hcj
          have hfj : w7.frozen? ⟨go, j, none⟩ = false := World.ownsRow.frozenAt M7.out.1 j
          have RJ := Lib.hid hrj
          have HCJ := Lib.hid hcj
          have hneG : ∀ s, s < N → go ≠ G s := fun s hs e => (M7.out.2.1 s hs).2.2.1 (by rw [← e]; rfl)
          have HNG := Lib.hid hneG
          have HJ := Lib.hid hj1
          have hrgo : r ≠ go := fun e => by have := AG7.out; omega
          clear hrj hneG hj1
          go_wp2
          go_ret
          refine ⟨some ⟨go, 0, none⟩, N, co, (fun s => if s = j then some ⟨G j, 1, none⟩ else some ⟨G s, 0, none⟩), (fun s => if s = j then N - 1 else N), (fun s => if s = j then Cp j - 1 else Cp s), (fun s k => if s = j then XX j (k + 1) else XX s k), pi + 1, rfl, ⟨by omega, by omega⟩, ⟨fun s hs => by show (if s = j then N - 1 else N) ≤ 5; split <;> omega, fun b o e => by cases e; exact AG7.out, fun s hs b o e => ?_⟩, ?_, HR7.out.of_block (Below.heap_setCell _ _ _ _ hrgo), by omega, U7.out.setCell (p := ⟨go, j, none⟩) (by show w.heap.size ≤ go; exact AG7.out) _⟩
          · have e' : (if s = j then some (⟨G j, 1, none⟩ : Addr) else some ⟨G s, 0, none⟩) = some ⟨b, o, none⟩ := e
            by_cases h : s = j
            · rw [if_pos h] at e'; cases e'; exact AP7.out j hjN
            · rw [if_neg h] at e'; cases e'; exact AP7.out s hs
          · intro s hs
            by_cases h : s = j
            · subst h
              refine ⟨go, 0, rfl, ?_, fun k hk => ?_⟩
              · rw [Nat.zero_add]
                show _ = some (Value.slice (if s = s then some ⟨G s, 1, none⟩ else some ⟨G s, 0, none⟩) (if s = s then N - 1 else N) (if s = s then Cp s - 1 else Cp s))
                rw [if_pos rfl, if_pos rfl, if_pos rfl]
                exact World.cell?_setCell_same _ _ _ HCJ.out
              · have hk' : k < (if s = s then N - 1 else N) := hk
                rw [if_pos rfl] at hk'
                obtain ⟨b2, o2, e2, hc2⟩ := RJ.out (k + 1) (by omega)
                cases e2
                refine ⟨G s, 1, by show (if s = s then some (⟨G s, 1, none⟩ : Addr) else some ⟨G s, 0, none⟩) = _; rw [if_pos rfl], ?_⟩
                show _ = some (Value.int .i64 (if s = s then XX s (k + 1) else XX s k))
                rw [if_pos rfl, World.cell?_of_block (w := w7) (a := ⟨G s, 1 + k, none⟩) (Below.heap_setCell _ _ _ _ (fun e => HNG.out s hs e.symm)), ← hc2, Nat.zero_add, Nat.add_comm 1 k]
            · obtain ⟨b', o', e', hc', hr'⟩ := T7.out s hs
              cases e'
              refine ⟨go, 0, rfl, ?_, fun k hk => ?_⟩
              · show _ = some (Value.slice (if s = j then some ⟨G j, 1, none⟩ else some ⟨G s, 0, none⟩) (if s = j then N - 1 else N) (if s = j then Cp j - 1 else Cp s))
                rw [if_neg h, if_neg h, if_neg h, World.cell?_setCell_other _ _ _ _ (fun e' => h (by injection e' with e1 e2'; omega))]
                exact hc'
              · have hk' : k < (if s = j then N - 1 else N) := hk
                rw [if_neg h] at hk'
                obtain ⟨b2, o2, e2, hc2⟩ := hr' k hk'
                cases e2
                refine ⟨G s, 0, by show (if s = j then some (⟨G j, 1, none⟩ : Addr) else some ⟨G s, 0, none⟩) = _; rw [if_neg h], ?_⟩
                show _ = some (Value.int .i64 (if s = j then XX j (k + 1) else XX s k))
                rw [if_neg h, World.cell?_of_block (w := w7) (a := ⟨G s, 0 + k, none⟩) (Below.heap_setCell _ _ _ _ (fun e => HNG.out s hs e.symm))]
                exact hc2
        · have hd1 : ((u : Int) == 1) = false := by simp; omega
          go_wp2
          go_ret
          exact ⟨some ⟨go, 0, none⟩, N, co, fun s => some ⟨G s, 0, none⟩, fun _ => N, Cp, XX, pi + 1, rfl, ⟨by omega, by omega⟩, ⟨fun s hs => by show N ≤ 5; omega, fun b o e => by cases e; exact AG7.out, fun s hs b o e => by cases e; exact AP7.out s hs⟩, T7.out, HR7.out, by omega, U7.out⟩
end Go.Proofs.YtabdbgnkiebcdaaDoor

namespace Go.Proofs.YtabdbgnkiebcdaaDoor
set_option linter.unusedVariables false
open Go.RowKit

set_option maxHeartbeats 3200000 in
theorem l91Order_any (r n c p m : Nat) (a : Option Addr) (B : Nat → Nat) (w : World) (hR : RdrAt w r a n c p) (hb : RdB w a n B) (hab : 0 < n → ∀ b o, a = some ⟨b, o, none⟩ → b < w.heap.size ∧ b ≠ r) (hn : n ≤ 2000) (hp : p ≤ 1000) (hm : m ≤ 5) :
    Calls Tryd.prog 111 #[.pointer (some ⟨r, 0, none⟩), .int .i64 m] w (DrewAny r a n c p m w) := by
  obtain ⟨i0, hi, hz0, hz1, hz2⟩ := info_parts Tryd.infoInt
  have hrlt := hR.lt
  have HR0 := Lib.hid (hR.alloc (.cells #[] 3))
  have HB := Lib.hid hb
  have HAL := Lib.hid hab
  have HAB := Lib.hid (show 0 < n → ∀ b o, a = some ⟨b, o, none⟩ → b ≠ r from fun h0 b o e => (hab h0 b o e).2)
  clear hR hb hab
  go_enter Tryd.func111, Tryd.ntmps111
  go_wp2
  have R0 := Lib.hid (show (w.alloc (.cells #[] 3)).ownsRow w.heap.size 3 1 (.slice (some ⟨w.heap.size, 0, none⟩) 0 0) 0 (cellsL 0 (fun _ => 0)) from World.ownsRow_made w #[] 0 (Nat.le_refl _) (Nat.zero_le _) (by simp))
  have U0 := Lib.hid (ButR.alloc (ButR.refl r w.heap.size w) (Nat.le_refl _) (.cells #[] 3))
  go_loopw [5, 6, 7] (fun row s _ wi => ∃ k : Nat, k ≤ m ∧ s = .int .i64 k ∧ ∃ g cap Y p', row = .slice (some ⟨g, 0, none⟩) k cap ∧ wi.ownsRow w.heap.size 3 1 (.slice (some ⟨g, 0, none⟩) k cap) k (cellsL k Y) ∧ RdrAt wi r a n c p' ∧ p' ≤ p + k ∧ ButR r w.heap.size w wi) (fun _ s _ _ => m - (intOf s).toNat)
  case atStart => exact ⟨0, Nat.zero_le _, rfl, w.heap.size, 0, fun _ => 0, p, rfl, R0.out, HR0.out, by omega, U0.out⟩
  case round =>
    obtain ⟨k, hk, rfl, g, cap, Y, p', rfl, hown, hR, hp', hU⟩ := hrel
    clear R0 HR0 U0
    have HO := Lib.hid hown
    have HR := Lib.hid hR
    have HU := Lib.hid hU
    have hsz := hU.size
    obtain ⟨hkc, hgb, hglt⟩ := owns_cap hown
    clear hown hR hU
    by_cases hlt : k < m
    · go_wp2_with fail
      rw [show ((k : Int) + 1) = ((k + 1 : Nat) : Int) by omega]
      refine (pick_any r n c p' (k + 1) a B _ HR.out (HB.out.but HAL.out HU.out) HAB.out hn (by omega) (by omega) (by omega)).mono ?_
      rintro e w5 ⟨x, rfl, hx, hR5, hK5⟩
      have HR5 := Lib.hid hR5
      have hs5 : w5.heap.size = wr.heap.size := hK5.size
      have HU5 := Lib.hid (HU.out.trans (ButR.keeps hK5))
      have O5 := Lib.hid (owns_but HO.out hrlt hK5)
      have RX := Lib.hid (show Rd w5 (some ⟨g, 0, none⟩) x Y from fun j hj => owns_rd O5.out j (by omega))
      obtain ⟨o', hif, ho'⟩ : ∃ o' : Nat, (if cap = x then some (⟨g, 0, none⟩ : Addr) else some ⟨g, x, none⟩) = some ⟨g, o', none⟩ ∧ (cap = x ∨ o' = x) := by
        by_cases e : cap = x
        · exact ⟨0, by rw [if_pos e], .inl e⟩
        · exact ⟨x, by rw [if_neg e], .inr rfl⟩
      have RY := Lib.hid (show Rd w5 (some ⟨g, o', none⟩) (k - x) (fun j => Y (x + j)) from fun j hj => by
        obtain ⟨b', q', he, hc⟩ := owns_rd O5.out (x + j) (by omega)
        simp only [Option.some.injEq, Addr.mk.injEq, and_true] at he
        obtain ⟨rfl, rfl⟩ := he
        rw [Nat.zero_add] at hc
        have e : o' = x := by omega
        subst e
        exact ⟨g, o', rfl, hc⟩)
      clear ho'
      have hx1 : (x : Int) ≤ (k : Int) := by omega
      have hx2 : (x : Int) ≤ (cap : Int) := by omega
      have hx3 : x ≤ k := by omega
      have hx4 : x ≤ cap := by omega
      have S5 := Lib.hid hs5
      clear hR5 hK5 hs5
      go_wp2
      go_region_law (first
        | (refine step_append_any _ (by rfl) (.tmp 19) (.tmp 22) 32 (by rfl) w5.heap.size 3 i0 Tryd.underlying32 hi hz0 hz1 hz2 _ 0 0 [] (by rfl) (owns_empty (by first | exact heap_alloc_last _ _ | exact (Below.heap_alloc _ _ _ (by simp)).trans (heap_alloc_last _ _) | exact (by have h := heap_alloc_last (w5.alloc (.cells #[.int .i64 k] 3)) (.cells #[] 3); rw [World.size_alloc] at h; exact h)) (by first | exact Nat.le_refl _ | (simp; done) | (simp; omega) | omega)) ⟨g, 0, none⟩ x cap (cellsL x Y) (by rfl) (cellsL_length x Y) (RX.out.news (by repeat (first | assumption | exact Below.refl _ _ | refine Below.drew ?_ | refine below_alloc ?_ _))) (cellsL_one x Y) (by omega) (by first | exact Nat.le_refl _ | (simp; done) | (simp; omega) | omega) ?_; intro g1 cap1 w6 hown1 hgrow1; simp only [Nat.zero_add, List.nil_append] at hown1; have hb1 : Below w5.heap.size w5 w6 := Below.grown (by repeat (first | assumption | exact Below.refl _ _ | refine Below.drew ?_ | refine below_alloc ?_ _)) hgrow1 (by first | exact Nat.le_refl _ | (simp; done) | (simp; omega) | omega) (fun k h => by cases h; first | exact Nat.le_refl _ | simp | omega))
        | (refine step_append_any _ (by rfl) (.tmp 23) (.tmp 25) 32 (by rfl) w5.heap.size 3 i0 Tryd.underlying32 hi hz0 hz1 hz2 g1 x cap1 (cellsL x Y) (by rfl) (by first | exact hown1 | exact hown1.alloc _) ⟨_, 0, none⟩ 1 1 [.int .i64 k] (by rfl) (by rfl) (news_one (by first | (simp; done) | exact hgrow1.cell (by simp) (fun e => by simp at e))) (by simp [Value.oneCell']) (by omega) (by have := hb1.size; first | omega | (simp; omega)) ?_; intro g2 cap2 w7 hown2 hgrow2; have hb2 : Below w5.heap.size w5 w7 := Below.grown (by repeat (first | assumption | exact Below.refl _ _ | refine Below.drew ?_ | refine below_alloc ?_ _)) hgrow2 (by have := hb1.size; first | omega | (simp; omega)) (fun k h => by cases h; exact (owns_cap hown1).2.1))
        | (refine step_append_any _ (by rfl) (.tmp 26) (.tmp 29) 32 (by rfl) w5.heap.size 3 i0 Tryd.underlying32 hi hz0 hz1 hz2 g2 (x + 1) cap2 (cellsL x Y ++ [.int .i64 k]) (by rfl) (by first | exact hown2 | exact hown2.alloc _) ⟨g, o', none⟩ (k - x) _ (cellsL (k - x) fun j => Y (x + j)) (by rfl) (cellsL_length _ _) (RY.out.news (by repeat (first | assumption | exact Below.refl _ _ | refine Below.drew ?_ | refine below_alloc ?_ _))) (cellsL_one _ _) (by omega) (by have := hb2.size; first | omega | (simp; omega)) ?_; intro g3 cap3 w8 hown3 hgrow3; have hb3 : Below w5.heap.size w5 w8 := Below.grown (by repeat (first | assumption | exact Below.refl _ _ | refine Below.drew ?_ | refine below_alloc ?_ _)) hgrow3 (by have := hb2.size; first | omega | (simp; omega)) (fun k h => by cases h; exact (owns_cap hown2).2.1)))
      all_goals
        have el : x + 1 + (k - x) = k + 1 := by omega
        rw [el] at hown3
        obtain ⟨Y', hq⟩ := owns_cells hown3 (by
          intro u hu
          simp only [List.mem_append, cellsL, List.mem_map, List.mem_singleton] at hu
          rcases hu with (⟨_, _, rfl⟩ | rfl) | ⟨_, _, rfl⟩ <;> exact ⟨_, rfl⟩)
        have H3 := Lib.hid hq
        have B3 := Lib.hid hb3
        have EL := Lib.hid el
        clear hown1 hgrow1 hb1 hown2 hgrow2 hb2 hown3 hgrow3 hb3 hq el
        go_wp2
        go_roundw
        case rel =>
          have hs5 := S5.out
          refine ⟨k + 1, by omega, by go_num, g3, cap3, Y', p' + 1, by rw [EL.out], owns_base H3.out (by omega), HR5.out.of_block (B3.out.block r (by omega)), by omega, HU5.out.trans (ButR.below (B3.out.mono (by omega)))⟩
        case measure => simp [intOf]; omega
    · obtain rfl : k = m := by omega
      go_wp2_with fail
      refine (pick_any r n c p' 40 a B _ HR.out (HB.out.but HAL.out HU.out) HAB.out hn (by omega) (by omega) (by omega)).mono ?_
      rintro e w6 ⟨y, rfl, hy, hR6, hK6⟩
      have HR6 := Lib.hid hR6
      have HU6 := Lib.hid (HU.out.trans (ButR.keeps hK6))
      have O6 := Lib.hid (owns_but HO.out hrlt hK6)
      have hs6 : w6.heap.size = wr.heap.size := hK6.size
      have S6 := Lib.hid hs6
      clear hR6 hK6 hs6
      by_cases hy0 : y = 0
      · subst hy0
        go_wp2_with (at_builtin; refine wpList_append_lies _ (by rfl) (.tmp 34) (.tmp 35) 32 (by rfl) w.heap.size 3 i0 (.int .i64 0) 1 8 Tryd.underlying32 hi hz0 hz1 hz2 (by rfl) (by decide) (.slice (some ⟨g, 0, none⟩) k cap) k (cellsL k Y) (by rfl) (O6.out.alloc _) ⟨_, 0, none⟩ 1 1 [.int .i64 0] (by rfl) (by rfl) (news_one (by simp)) (by simp [Value.oneCell']) (by omega) (by unfold maxLen; omega) (by omega) (by have := S6.out; simp; omega) _ rfl ?_; intro g2 cap2 w7 hown2 hgrow2 hat2 hlt2; rw [cellsL_snoc] at hown2; have N2 := Lib.hid hown2; have G2 := Lib.hid hgrow2; clear hown2 hgrow2 hat2)
        go_ret
        have hs6 := S6.out
        have hc2 := owns_cap N2.out
        exact ⟨g2, k + 1, cap2, _, p' + 1, rfl, ⟨hc2.2.1, hc2.2.2, hc2.1, by omega⟩, owns_rd N2.out, (HR6.out.alloc _).grown G2.out (fun e => by simp only [Value.ownBlock, Option.some.injEq] at e; omega), by omega, (HU6.out.alloc (by omega) _).grown G2.out (by simp; omega) (fun k h => by cases h; omega)⟩
      · have hne : ((y : Int) == 0) = false := beq_eq_false_iff_ne.2 (by omega)
        go_wp2
        go_ret
        have hs6 := S6.out
        exact ⟨g, k, cap, Y, p' + 1, rfl, ⟨hgb, by omega, hkc, by omega⟩, owns_rd O6.out, HR6.out, by omega, HU6.out⟩
end Go.Proofs.YtabdbgnkiebcdaaDoor

namespace Go.Proofs.YtabdbgnkiebcdaaDoor
set_option linter.unusedVariables false
set_option linter.unusedSimpArgs false
open Go.RowKit

/-- A row that lies from lo on, if it has something. -/
def ApartI (lo m : Nat) (b : Option Addr) : Prop := 0 < m → ∀ g o, b = some ⟨g, o, none⟩ → lo ≤ g
theorem rdA_but {r lo : Nat} {w w' : World} {b : Option Addr} {m : Nat} {X : Nat → Int} (h : Rd w b m X) (hA : ApartI lo m b) (hr : r < lo) (hk : ButR r w.heap.size w w') : Rd w' b m X := by
  intro k hkm
  obtain ⟨g, o, he, hc⟩ := h k hkm
  have h1 := hA (by omega) g o he
  have hl : g < w.heap.size := World.block_lt_of_cell? _ _ hc
  exact ⟨g, o, he, (World.cell?_of_block (w := w) (a := ⟨g, o + k, none⟩) (hk.block g hl (by omega))).trans hc⟩

/-- What l91Given hands back: a table of one to five rows, of five numbers at most, a row of six at most, the reader gone on. -/
def DrewGiven (r : Nat) (a : Option Addr) (n c p : Nat) (w : World) (e : Ending) (w' : World) : Prop :=
  ∃ ga N gc A L C Z b m d X p', e = .returned (.tuple #[.slice ga N gc, .slice b m d]) ∧ ((1 ≤ N ∧ N ≤ 5) ∧ m ≤ d ∧ m ≤ 6) ∧ ((∀ s, s < N → L s ≤ 5) ∧ Apart w.heap.size N ga A ∧ ApartI w.heap.size m b) ∧ Tab w' ga N A L C Z ∧ Rd w' b m X ∧ RdrAt w' r a n c p' ∧ p' ≤ p + 300 ∧ ButR r w.heap.size w w'

/-- The same from a code: wishes and a row, at the top. -/
def DrewGivenTop (w : World) (e : Ending) (w' : World) : Prop :=
  ∃ ga N gc A L C Z b m d X, e = .returned (.tuple #[.slice ga N gc, .slice b m d]) ∧ ((1 ≤ N ∧ N ≤ 5) ∧ m ≤ d ∧ m ≤ 6) ∧ (∀ s, s < N → L s ≤ 5) ∧ Tab w' ga N A L C Z ∧ Rd w' b m X ∧ Below w.heap.size w w'
end Go.Proofs.YtabdbgnkiebcdaaDoor
