/- Texts joined: DeleteFunc, Trade, Traders, TradeEnds, HouseTrade, SameB, SameInts, TradeGiving, FirmTrade, PrTProof, DrawProofRateIs. -/
import Derived.Test.YtabdbgnkiebcdaaGreatDoorPartS12
import Derived.Lib.SliceRun
import Derived.Test.YtabdbgnkiebcdaaGreatDoorPartS3
import Derived.Test.YtabdbgnkiebcdaaGreatDoorPartS10
import Derived.Test.YtabdbgnkiebcdaaGreatDoorPartS2
import Derived.Deep.CutRange
import Derived.Deep.CutBlock
import Derived.Test.YtabdbgnkiebcdaaGreatDoorPartS1
import Derived.Test.YtabdbgnkiebcdaaGreatDoorProg
import Derived.Test.YtabdbgnkiebcdaaGreatDoorPartS6
import Derived.Test.YtabdbgnkiebcdaaGreatDoorPartS5
namespace Go.Proofs.YtabdbgnkiebcdaaGreatDoor
set_option linter.unusedVariables false
set_option linter.unusedSimpArgs false
open Go.RowKit

/-- A slice of pointers to the people of a list, that may be written. -/
def PtrW (w : World) (b : Nat) (tb : Nat → Nat) (l : List Nat) : Prop := ∀ k, k < l.length → w.cell? ⟨b, k, none⟩ = some (.pointer (some ⟨tb (l.getD k 0), 0, none⟩)) ∧ w.frozen? ⟨b, k, none⟩ = false
theorem PtrW.at {w : World} {b : Nat} {tb : Nat → Nat} {l : List Nat} (h : PtrW w b tb l) : PtrAt w b tb l := fun k hk => (h k hk).1
theorem PtrW.of_block {w w' : World} {b : Nat} {tb : Nat → Nat} {l : List Nat} (h : PtrW w b tb l) (e : w'.heap[b]? = w.heap[b]?) : PtrW w' b tb l :=
  fun k hk => ⟨(World.cell?_of_block (w := w) (a := ⟨b, k, none⟩) e).trans (h k hk).1, (World.frozen?_of_block (w := w) (a := ⟨b, k, none⟩) e).trans (h k hk).2⟩
theorem keeps_setCells (b : Nat) : ∀ (vs : List Value) (o : Nat) (w : World), Keeps b (b + 1) w (w.setCells b o vs)
  | [], _, w => Keeps.refl _ _ _
  | v :: r, o, w => ((Keeps.refl b (b + 1) w).setCell (p := ⟨b, o, none⟩) (Nat.le_refl _) (Nat.lt_succ_self _) v).trans (keeps_setCells b r (o + 1) _)
theorem Trd.keeps {w w' : World} {n b : Nat} {Z : Nat → Nat → Int} {tb wb cp : Nat → Nat} {pt : Nat → Option Addr} {gn : Nat → Bool} (h : Trd w n Z tb wb cp pt gn) (hk : Keeps b (b + 1) w w') (h1 : ∀ r, r < n → tb r ≠ b) (h2 : ∀ r, r < n → wb r ≠ b) : Trd w' n Z tb wb cp pt gn :=
  h.of_blocks (fun r hr => hk.block _ (by have := h1 r hr; omega)) (fun r hr => hk.block _ (by have := h2 r hr; omega))

/-- Whether a person is gone, as the program asks. -/
theorem gone_any (n r : Nat) (Z : Nat → Nat → Int) (tb wb cp : Nat → Nat) (pt : Nat → Option Addr) (gn : Nat → Bool) (w : World) (h : Trd w n Z tb wb cp pt gn) (hr : r < n) :
    Calls Tryz.prog 94 #[.pointer (some ⟨tb r, 0, none⟩)] w fun e w' => e = .returned (.bool (gn r)) ∧ w = w' := by
  have c3 := h.c3 hr
  clear h
  go_enter Tryz.func94, Tryz.ntmps94
  go_wp2
  go_ret
  exact ⟨rfl, rfl⟩

/-- The first place at which one of the list is gone. -/
def FirstGone (l : List Nat) (gn : Nat → Bool) (x : Int) : Prop := (x = -1 ∧ ∀ j, j < l.length → gn (l.getD j 0) = false) ∨ ∃ k : Nat, x = k ∧ k < l.length ∧ gn (l.getD k 0) = true ∧ ∀ j, j < k → gn (l.getD j 0) = false

set_option maxHeartbeats 800000 in
theorem indexFunc_any (n c lb : Nat) (l : List Nat) (Z : Nat → Nat → Int) (tb wb cp : Nat → Nat) (pt : Nat → Option Addr) (gn : Nat → Bool) (w : World) (h0 : Trd w n Z tb wb cp pt gn) (hl0 : ∀ r, r ∈ l → r < n) (hlen : l.length ≤ 5) (hp0 : PtrAt w lb tb l) :
    Calls Tryz.prog 122 #[.slice (some ⟨lb, 0, none⟩) l.length c, .func (.func 94) #[] #[]] w fun e w' => (∃ x, e = .returned (.int .i64 x) ∧ FirstGone l gn x) ∧ w = w' := by
  have HT := Lib.hid h0
  have HL := Lib.hid hl0
  have HP := Lib.hid hp0
  obtain ⟨m, hm⟩ : ∃ m, m = l.length := ⟨_, rfl⟩
  rw [← hm] at hlen ⊢
  have QM := Lib.hid hm
  clear h0 hl0 hp0 hm
  go_enter Tryz.func122, Tryz.ntmps122
  go_wp2
  go_loop [4, 5, 8] (fun _ _ s => ∃ k : Nat, k ≤ m ∧ s = .int .i64 k ∧ ∀ j, j < k → gn (l.getD j 0) = false) (fun _ _ s => m - (intOf s).toNat)
  case atStart => exact ⟨0, Nat.zero_le _, rfl, fun j hj => absurd hj (Nat.not_lt_zero _)⟩
  case round =>
    obtain ⟨k, hk, rfl, hno⟩ := hrel
    have HN := Lib.hid hno
    clear hno
    by_cases hlt : k < m
    · have hkl : k < l.length := by rw [← QM.out]; exact hlt
      have hck := HP.out k hkl
      obtain ⟨r, hr⟩ : ∃ r, r = l.getD k 0 := ⟨_, rfl⟩
      have hrn := HL.out r (by rw [hr]; exact getD_mem hkl)
      rw [← hr] at hck
      have QR := Lib.hid hr
      have HK := Lib.hid hkl
      clear hr hkl
      have HG := Lib.hid (gone_any n r Z tb wb cp pt gn w HT.out hrn)
      by_cases hg : gn r = true
      · have T1 := Lib.hid hg
        clear hg
        go_wp2_with (go_at_call 94; refine HG.out.mono ?_; rintro e w' ⟨rfl, rfl⟩; rw [T1.out])
        go_ret
        exact ⟨⟨_, rfl, .inr ⟨k, rfl, HK.out, by rw [← QR.out]; exact T1.out, HN.out⟩⟩, rfl⟩
      · have T1 := Lib.hid (show gn r = false by simpa using hg)
        clear hg
        go_wp2_with (go_at_call 94; refine HG.out.mono ?_; rintro e w' ⟨rfl, rfl⟩; rw [T1.out])
        go_round
        case rel => exact ⟨k + 1, by omega, by go_num, fun j hj => by
          by_cases e : j = k
          · subst e; rw [← QR.out]; exact T1.out
          · exact HN.out j (by omega)⟩
        case measure => simp [intOf]; omega
    · obtain rfl : k = m := by omega
      go_wp2
      go_ret
      exact ⟨⟨_, rfl, .inl ⟨rfl, fun j hj => HN.out j (by rw [QM.out]; exact hj)⟩⟩, rfl⟩

/-- What is left of a list, the first k seen. -/
theorem filt_front {l : List Nat} {P : Nat → Bool} (k : Nat) : ((l.take k).filter P).length ≤ k := Nat.le_trans (List.length_filter_le _ _) (by rw [List.length_take]; omega)
theorem filt_keep {l : List Nat} {P : Nat → Bool} {k : Nat} (h : ∀ j, j < k → P (l.getD j 0) = true) (hk : k ≤ l.length) : (l.take k).filter P = l.take k := by
  induction k with
  | zero => simp
  | succ k ih => rw [filt_yes (by omega) (h k (by omega)), ih (fun j hj => h j (by omega)) (by omega), take_getD (by omega)]
theorem getD_take {l : List Nat} {k j : Nat} (h : j < k) : (l.take k).getD j 0 = l.getD j 0 := by
  rw [List.getD_eq_getElem?_getD, List.getD_eq_getElem?_getD, List.getElem?_take, if_pos h]
theorem getD_front {D : List Nat} {x k : Nat} (h : k < D.length) : (D ++ [x]).getD k 0 = D.getD k 0 := by
  rw [List.getD_eq_getElem?_getD, List.getD_eq_getElem?_getD, List.getElem?_append_left h]
theorem getD_last {D : List Nat} {x : Nat} : (D ++ [x]).getD D.length 0 = x := by
  rw [List.getD_eq_getElem?_getD, List.getElem?_append_right (Nat.le_refl _)]; simp

/-- What DeleteFunc hands back: the slice cut to those who stay; it has turned that row alone. -/
def RetLeft (lb c : Nat) (tb : Nat → Nat) (l : List Nat) (w : World) (e : Ending) (w' : World) : Prop :=
  e = .returned (.slice (some ⟨lb, 0, none⟩) l.length c) ∧ PtrW w' lb tb l ∧ Keeps lb (lb + 1) w w'

set_option maxHeartbeats 1600000 in
theorem deleteFunc_any (n c lb : Nat) (l : List Nat) (Z : Nat → Nat → Int) (tb wb cp : Nat → Nat) (pt : Nat → Option Addr) (gn : Nat → Bool) (w : World) (h0 : Trd w n Z tb wb cp pt gn) (h1 : ∀ r, r < n → tb r ≠ lb) (h2 : ∀ r, r < n → wb r ≠ lb) (hl0 : ∀ r, r ∈ l → r < n) (hlen : l.length ≤ 5) (hc : l.length ≤ c) (hc2 : c ≤ 5) (hp0 : PtrW w lb tb l) :
    Calls Tryz.prog 93 #[.slice (some ⟨lb, 0, none⟩) l.length c, .func (.func 94) #[] #[]] w (RetLeft lb c tb (l.filter fun r => !gn r) w) := by
  have HT := Lib.hid h0
  have HL := Lib.hid hl0
  have HP := Lib.hid hp0
  have H12 := Lib.hid (And.intro h1 h2)
  have HI := Lib.hid (indexFunc_any n c lb l Z tb wb cp pt gn w h0 hl0 hlen hp0.at)
  obtain ⟨m, hm⟩ : ∃ m, m = l.length := ⟨_, rfl⟩
  rw [← hm] at hlen hc HI ⊢
  have QM := Lib.hid hm
  clear h0 hl0 hp0 hm h1 h2
  go_enter Tryz.func93, Tryz.ntmps93
  go_wp2_with fail
  refine HI.out.mono ?_
  rintro e w' ⟨⟨x, rfl, hx⟩, rfl⟩
  rcases hx with ⟨rfl, hall⟩ | ⟨k0, rfl, hk0, hg0, hno⟩
  · have HF := Lib.hid (show (l.filter fun r => !gn r) = l by
      have := filt_keep (P := fun r => !gn r) (l := l) (k := l.length) (fun j hj => by rw [hall j hj]; rfl) (Nat.le_refl _)
      rwa [List.take_length] at this)
    clear hall
    go_wp2
    go_ret
    refine ⟨?_, ?_, Keeps.refl _ _ _⟩
    · rw [HF.out, ← QM.out]; rfl
    · rw [HF.out]; exact HP.out
  · have hk0m : k0 < m := by rw [QM.out]; exact hk0
    have hd : ((k0 : Int) == -1) = false := beq_eq_false_iff_ne.2 (by omega)
    have HD0 := Lib.hid (show l.take k0 = (l.take (k0 + 1)).filter fun r => !gn r by
      rw [filt_no (P := fun r => !gn r) hk0 (by rw [hg0]; rfl), filt_keep (P := fun r => !gn r) (fun j hj => by rw [hno j hj]; rfl) (Nat.le_of_lt hk0)])
    have HK0 := Lib.hid hk0
    clear hno hg0 hk0
    go_wp2
    go_loopw [5, 6, 7] (fun s5 s6 _ wr => ∃ i j : Nat, j ≤ m ∧ i < j ∧ s5 = .int .i64 i ∧ s6 = .int .i64 j ∧ i = ((l.take j).filter fun r => !gn r).length ∧
        (∀ k, k < i → wr.cell? ⟨lb, k, none⟩ = some (.pointer (some ⟨tb (((l.take j).filter fun r => !gn r).getD k 0), 0, none⟩))) ∧
        (∀ k, j ≤ k → k < m → wr.cell? ⟨lb, k, none⟩ = some (.pointer (some ⟨tb (l.getD k 0), 0, none⟩))) ∧ (∀ k, k < m → (wr.cell? ⟨lb, k, none⟩).isSome = true) ∧ (∀ k, k < m → wr.frozen? ⟨lb, k, none⟩ = false) ∧ Keeps lb (lb + 1) w wr) (fun _ s6 _ _ => m - (intOf s6).toNat)
    case atStart =>
      refine ⟨k0, k0 + 1, by omega, by omega, rfl, by go_num, ?_, fun k hk => ?_, fun k h1 h2 => (HP.out k (by rw [← QM.out]; exact h2)).1, fun k hk => by rw [(HP.out k (by rw [← QM.out]; exact hk)).1]; rfl, fun k hk => (HP.out k (by rw [← QM.out]; exact hk)).2, Keeps.refl _ _ _⟩
      · rw [← HD0.out, List.length_take]; have := HK0.out; omega
      · rw [← HD0.out, getD_take hk]; exact (HP.out k (by rw [← QM.out]; omega)).1
    case round =>
      obtain ⟨i, j, hj, hij, rfl, rfl, hi, hA, hB, hS, hF, hK⟩ := hrel
      have HI2 := Lib.hid hi
      have HA := Lib.hid hA
      have HB := Lib.hid hB
      have HS := Lib.hid hS
      have HF := Lib.hid hF
      have HK := Lib.hid hK
      clear hi hA hB hS hF hK
      by_cases hjl : j < m
      · have hjl' : j < l.length := by rw [← QM.out]; exact hjl
        have hcj := HB.out j (Nat.le_refl _) hjl
        obtain ⟨r, hr⟩ : ∃ r, r = l.getD j 0 := ⟨_, rfl⟩
        have hrn := HL.out r (by rw [hr]; exact getD_mem hjl')
        rw [← hr] at hcj
        have QR := Lib.hid hr
        have HJ := Lib.hid hjl'
        clear hr hjl'
        have HG := Lib.hid (gone_any n r Z tb wb cp pt gn wr (HT.out.keeps HK.out H12.out.1 H12.out.2) hrn)
        by_cases hg : gn r = true
        · have T1 := Lib.hid hg
          have HN := Lib.hid (filt_no (l := l) (P := fun r => !gn r) HJ.out (by rw [← QR.out, hg]; rfl))
          clear hg
          go_wp2_with (go_at_call 94; refine HG.out.mono ?_; rintro e w' ⟨rfl, rfl⟩; rw [T1.out])
          go_roundw
          case rel => exact ⟨i, j + 1, by omega, by omega, rfl, by go_num, by rw [HN.out]; exact HI2.out, by rw [HN.out]; exact HA.out, fun k h1 h2 => HB.out k (by omega) h2, HS.out, HF.out, HK.out⟩
          case measure => simp [intOf]; omega
        · have hg' : gn r = false := by simpa using hg
          have T1 := Lib.hid hg'
          have HN := Lib.hid (filt_yes (l := l) (P := fun r => !gn r) HJ.out (by rw [← QR.out, hg']; rfl))
          have hfi := HF.out i (by omega)
          obtain ⟨vi, hvi⟩ := Option.isSome_iff_exists.1 (HS.out i (by omega))
          clear hg hg'
          go_wp2_with (go_at_call 94; refine HG.out.mono ?_; rintro e w' ⟨rfl, rfl⟩; rw [T1.out])
          go_roundw
          case rel =>
            refine ⟨i + 1, j + 1, by omega, by omega, by go_num, by go_num, by rw [HN.out, List.length_append, ← HI2.out]; rfl, fun k hk => ?_, fun k h1 h2 => ?_, fun k hk => ?_, fun k hk => by rw [World.frozen?_setCell]; exact HF.out k hk, HK.out.setCell (Nat.le_refl _) (Nat.lt_succ_self _) _⟩
            · rw [HN.out]
              by_cases e : k = i
              · subst e
                rw [World.cell?_setCell_same' _ _ _ (by rw [hvi]; rfl)]
                have e2 := getD_last (D := (l.take j).filter fun r => !gn r) (x := l.getD j 0)
                rw [← HI2.out] at e2
                rw [e2, ← QR.out]
              · rw [World.cell?_setCell_other (a := ⟨lb, i, none⟩) (b := ⟨lb, k, none⟩) (h := fun h => e (by simp only [Addr.mk.injEq] at h; omega)), getD_front (by rw [← HI2.out]; omega)]
                exact HA.out k (by omega)
            · rw [World.cell?_setCell_other (a := ⟨lb, i, none⟩) (b := ⟨lb, k, none⟩) (h := fun h => by simp only [Addr.mk.injEq] at h; omega)]
              exact HB.out k (by omega) h2
            · by_cases e : k = i
              · subst e
                rw [World.cell?_setCell_same' _ _ _ (by rw [hvi]; rfl)]; rfl
              · rw [World.cell?_setCell_other (a := ⟨lb, i, none⟩) (b := ⟨lb, k, none⟩) (h := fun h => e (by simp only [Addr.mk.injEq] at h; omega))]
                exact HS.out k hk
          case measure => simp [intOf]; omega
      · obtain rfl : j = m := by omega
        have HD := Lib.hid (show (l.take j).filter (fun r => !gn r) = l.filter fun r => !gn r by rw [QM.out, List.take_length])
        have hcl := fun ty => Lib.run_clear_slice (P := Tryz.prog) wr 109 111 ty (.pointer none) Tryz.underlying109 (fun _ => by kernel_rfl) rfl rfl lb i (j - i) (c - i) (by omega) (fun k hk => HS.out (i + k) (by omega)) (fun k hk => HF.out (i + k) (by omega))
        have hne : ¬ (c = i) := by omega
        have z1 : (0 : Int) ≤ (i : Int) := by omega
        have z2 : (i : Int) ≤ (j : Int) := by omega
        have z3 : (j : Int) ≤ (c : Int) := by omega
        go_wp2
        clear hcl
        go_ret
        refine ⟨by rw [← HD.out, ← HI2.out]; rfl, fun k hk => ?_, HK.out.trans (keeps_setCells lb _ i wr)⟩
        rw [← HD.out, ← HI2.out] at hk
        refine ⟨?_, ?_⟩
        · rw [World.cell?_setCells_out lb _ i wr ⟨lb, k, none⟩ (fun _ _ => .inl hk), ← HD.out]
          exact HA.out k hk
        · rw [World.frozen?_setCells]; exact HF.out k (by omega)
/-- What traders hands back. -/
def RetTraders (n : Nat) (Z : Nat → Nat → Int) (w : World) (e : Ending) (w' : World) : Prop :=
  e = .returned (.slice (some ⟨w.heap.size, 0, none⟩) n n) ∧ ∃ wb cp, Trd w' n Z (fun r => w.heap.size + 1 + r) wb cp (fun _ => none) (fun _ => false) ∧ PtrW w' w.heap.size (fun r => w.heap.size + 1 + r) (List.range n) ∧ (∀ r, r < n → w.heap.size + 1 + n ≤ wb r) ∧ Below w.heap.size w w'
end Go.Proofs.YtabdbgnkiebcdaaGreatDoor

namespace Go.Proofs.YtabdbgnkiebcdaaGreatDoor
set_option linter.unusedVariables false
set_option linter.unusedSimpArgs false
open Go.RowKit

/-- The mask of those on circles in round t. -/
noncomputable def leaveF (Z : Nat → Nat → Int) (n t : Nat) : Int := (maskN (circB Z n (tS Z n t)) n : Nat)

theorem stay_eq {Z : Nat → Nat → Int} {n t : Nat} {gn : Nat → Bool} (h : ∀ r, r < n → gn r = !tS Z n t r) : stay n gn = tS Z n t := by
  funext y
  unfold stay
  by_cases hy : y < n
  · rw [h y hy]; simp [hy]
  · have : tS Z n t y = false := by
      cases e : tS Z n t y
      · rfl
      · exact absurd (tS_ppl Z n t y e) hy
    rw [this]; simp [hy]
/-- Those of the people left who are on circles, as a list. -/
noncomputable def circL (Z : Nat → Nat → Int) (n t : Nat) : List Nat := (pplL n (tS Z n t)).filter (circB Z n (tS Z n t))
theorem circL_back {Z : Nat → Nat → Int} {n t : Nat} {L : Nat → Nat} (hW : IsWishes n L Z) : (pplL n (tS Z n t)).filter (backB (ptS Z n (tS Z n t)) (pplL n (tS Z n t)).length) = circL Z n t := by
  unfold circL
  refine List.filter_congr fun r hr => ?_
  have h1 := (mem_pplL (tS_ppl Z n t)).1 hr
  rw [Bool.eq_iff_iff, circB_steps hW (tS_ppl Z n t) h1]
  exact tt_iff
theorem mem_circL {Z : Nat → Nat → Int} {n t r : Nat} : r ∈ circL Z n t ↔ circB Z n (tS Z n t) r = true := by
  unfold circL
  rw [List.mem_filter, mem_pplL (tS_ppl Z n t)]
  exact ⟨fun h => h.2, fun h => ⟨circB_in h, h⟩⟩
theorem mem_take_succ {D : List Nat} {k y : Nat} (h : k < D.length) : y ∈ D.take (k + 1) ↔ y ∈ D.take k ∨ y = D.getD k 0 := by
  rw [take_getD h, List.mem_append, List.mem_singleton]
/-- What has been got when the first k of D have taken theirs. -/
def takeF (f : Nat → Nat) (G : Nat → Nat) (D : List Nat) (k y : Nat) : Int := if y ∈ D.take k then (f y : Int) else (G y : Int)
theorem takeF_zero (f G : Nat → Nat) (D : List Nat) (y : Nat) : takeF f G D 0 y = (G y : Int) := by unfold takeF; rw [if_neg (by simp)]
theorem takeF_step (f G : Nat → Nat) (D : List Nat) {k r : Nat} (h : k < D.length) (hr : r = D.getD k 0) (y : Nat) : (if y = r then (f r : Int) else takeF f G D k y) = takeF f G D (k + 1) y := by
  unfold takeF
  by_cases e : y = r
  · subst e
    rw [if_pos rfl, if_pos ((mem_take_succ h).2 (.inr hr))]
  · rw [if_neg e]
    by_cases h' : y ∈ D.take k
    · rw [if_pos h', if_pos ((mem_take_succ h).2 (.inl h'))]
    · rw [if_neg h', if_neg (fun h'' => by rcases (mem_take_succ h).1 h'' with h1 | h1; exact h' h1; exact e (h1.trans hr.symm))]
theorem takeF_all {Z : Nat → Nat → Int} {n t : Nat} (y : Nat) : takeF (ptS Z n (tS Z n t)) (gF Z n t) (circL Z n t) (circL Z n t).length y = (gF Z n (t + 1) y : Int) := by
  unfold takeF
  rw [List.take_length]
  show _ = (((if circB Z n (tS Z n t) y = true then ptS Z n (tS Z n t) y else gF Z n t y) : Nat) : Int)
  by_cases h : circB Z n (tS Z n t) y = true
  · rw [if_pos (mem_circL.2 h), if_pos h]
  · rw [if_neg (fun h' => h (mem_circL.1 h')), if_neg h]
/-- Who is gone when the first k of D are. -/
def goneF (gn : Nat → Bool) (D : List Nat) (k y : Nat) : Bool := gn y || decide (y ∈ D.take k)
theorem goneF_zero (gn : Nat → Bool) (D : List Nat) (y : Nat) : gn y = goneF gn D 0 y := by unfold goneF; simp
theorem goneF_step (gn : Nat → Bool) (D : List Nat) {k r : Nat} (h : k < D.length) (hr : r = D.getD k 0) (y : Nat) : (if y = r then true else goneF gn D k y) = goneF gn D (k + 1) y := by
  unfold goneF
  by_cases e : y = r
  · subst e
    rw [if_pos rfl, decide_eq_true ((mem_take_succ h).2 (.inr hr)), Bool.or_true]
  · rw [if_neg e]
    congr 1
    rw [decide_eq_decide, mem_take_succ h]
    exact ⟨.inl, fun h' => h'.elim id (fun h1 => absurd (h1.trans hr.symm) e)⟩
theorem goneF_all {Z : Nat → Nat → Int} {n t : Nat} {gn : Nat → Bool} (h : ∀ r, r < n → gn r = !tS Z n t r) {y : Nat} (hy : y < n) : goneF gn (circL Z n t) (circL Z n t).length y = !tS Z n (t + 1) y := by
  unfold goneF
  rw [List.take_length, h y hy]
  show _ = !(tS Z n t y && !circB Z n (tS Z n t) y)
  by_cases hc : circB Z n (tS Z n t) y = true
  · rw [decide_eq_true (mem_circL.2 hc), hc]; simp
  · rw [decide_eq_false (fun h' => hc (mem_circL.1 h'))]
    have : circB Z n (tS Z n t) y = false := by simpa using hc
    rw [this]; simp
theorem left_next {Z : Nat → Nat → Int} {n t : Nat} {gn : Nat → Bool} (h : ∀ r, r < n → gn r = !tS Z n (t + 1) r) : ((pplL n (tS Z n t)).filter fun r => !gn r) = pplL n (tS Z n (t + 1)) := by
  unfold pplL
  rw [List.filter_filter]
  refine List.filter_congr fun r hr => ?_
  rw [h r (List.mem_range.1 hr), Bool.not_not, Bool.eq_iff_iff, Bool.and_eq_true]
  exact ⟨fun h => h.1, fun h => ⟨h, tS_down h⟩⟩
theorem left_less {Z : Nat → Nat → Int} {n t : Nat} {L : Nat → Nat} (hW : IsWishes n L Z) (h : 0 < (pplL n (tS Z n t)).length) : (pplL n (tS Z n (t + 1))).length < (pplL n (tS Z n t)).length := by
  obtain ⟨j, hj⟩ := List.exists_mem_of_length_pos h
  obtain ⟨z, hz⟩ := circB_some hW (tS_ppl Z n t) ((mem_pplL (tS_ppl Z n t)).1 hj)
  have e : pplL n (tS Z n (t + 1)) = (pplL n (tS Z n t)).filter (tS Z n (t + 1)) := by
    unfold pplL
    rw [List.filter_filter]
    refine List.filter_congr fun r _ => ?_
    rw [Bool.eq_iff_iff, Bool.and_eq_true]
    exact ⟨fun h => ⟨h, tS_down h⟩, fun h => h.1⟩
  rw [e]
  refine List.length_filter_lt_length_iff_exists.2 ⟨z, (mem_pplL (tS_ppl Z n t)).2 (circB_in hz), ?_⟩
  rw [circB_gone hz]; decide
/-- The set of the first k of D. -/
def MaskL (n M : Nat) (D : List Nat) (k : Nat) : Prop := M < 2 ^ n ∧ ∀ y, M.testBit y = true ↔ y ∈ D.take k
theorem MaskL.zero (n : Nat) (D : List Nat) : MaskL n 0 D 0 := ⟨Nat.two_pow_pos n, fun y => by simp⟩
theorem MaskL.next {n M k r : Nat} {D : List Nat} (h : MaskL n M D k) (hk : k < D.length) (hr : r = D.getD k 0) (hn : r < n) : MaskL n (M ||| 2 ^ r) D (k + 1) :=
  ⟨bit_put_lt h.1 hn, fun y => by rw [bit_put_has, h.2 y, mem_take_succ hk, hr]⟩
theorem MaskL.all {Z : Nat → Nat → Int} {n t M : Nat} (h : MaskL n M (circL Z n t) (circL Z n t).length) : (M : Int) = leaveF Z n t := by
  unfold leaveF
  congr 1
  refine Nat.eq_of_testBit_eq fun y => ?_
  rw [(maskN_is (circB_ppl Z (tS_ppl Z n t))).2 y, Bool.eq_iff_iff, h.2 y, List.take_length, mem_circL]

/-- What trade hands back. -/
def RetTrade (n : Nat) (Z : Nat → Nat → Int) (w : World) (e : Ending) (w' : World) : Prop :=
  ∃ v, e = .returned (.tuple #[.slice (some ⟨w.heap.size, 0, none⟩) n n, v]) ∧ w'.rowIs w.heap.size 3 n (fun y => .int .i64 (giveF Z n y)) ∧ w'.ownsRow (w.heap.size + 1) 3 1 v (turnsN Z n) (cellsL (turnsN Z n) (leaveF Z n)) ∧ Below w.heap.size w w'

/-- The blocks of people. -/
def PplB (n G k : Nat) : Prop := G + 2 ≤ k ∧ k < G + 2 + n
/-- The block of the giving, and those of people. -/
def GivB (n G k : Nat) : Prop := k = G ∨ (G + 2 ≤ k ∧ k < G + 2 + n)
theorem ppl_zero (Z : Nat → Nat → Int) (n : Nat) : pplL n (tS Z n 0) = List.range n := by
  unfold pplL
  rw [List.filter_eq_self]
  intro r hr
  show decide (r < n) = true
  simpa using hr
theorem owns_grown {w w' : World} {base e n : Nat} {v : Value} {xs : List Value} {V : Nat → Prop} (h : w.ownsRow base e 1 v n xs) (k : Outside V w w') (hv : ∀ x, base ≤ x → ¬ V x) : w'.ownsRow base e 1 v n xs :=
  owns_any h fun g hg => k.block g (h.lt g hg).2 (hv g (h.lt g hg).1)

theorem Trd.outside {w w' : World} {n : Nat} {V : Nat → Prop} {Z : Nat → Nat → Int} {tb wb cp : Nat → Nat} {pt : Nat → Option Addr} {gn : Nat → Bool} (h : Trd w n Z tb wb cp pt gn) (k : Outside V w w') (h1 : ∀ r, r < n → ¬ V (tb r)) (h2 : ∀ r, r < n → ¬ V (wb r)) : Trd w' n Z tb wb cp pt gn :=
  h.of_blocks (fun r hr => k.block _ (h.lt hr) (h1 r hr)) (fun r hr => k.block _ (h.wlt hr) (h2 r hr))

theorem mem_getD {l : List Nat} {r : Nat} (h : r ∈ l) : ∃ j, j < l.length ∧ l.getD j 0 = r := by
  obtain ⟨j, hj, e⟩ := List.mem_iff_getElem.1 h
  exact ⟨j, hj, by rw [List.getD_eq_getElem?_getD, List.getElem?_eq_getElem hj, e]; rfl⟩
theorem ptrs_get {tb : Nat → Nat} {D : List Nat} {k : Nat} (h : k < D.length) : (ptrs tb D)[k]? = some (.pointer (some ⟨tb (D.getD k 0), 0, none⟩)) := by
  unfold ptrs
  rw [List.getElem?_map, List.getD_eq_getElem?_getD, List.getElem?_eq_getElem h]; rfl
/-- What the loads of one taking read. -/
def Held2 (p q r f : Nat) (W : World) : Prop := W.cell? ⟨p, 0, none⟩ = some (.int .i64 (r : Nat)) ∧ W.cell? ⟨p, 2, none⟩ = some (.pointer (some ⟨q, 0, none⟩)) ∧ W.cell? ⟨q, 0, none⟩ = some (.int .i64 (f : Nat))
theorem held2_drew {p q r f : Nat} {W : World} (h : Held2 p q r f W) : Held2 p q r f W.drew := ⟨by simpa using h.1, by simpa using h.2.1, by simpa using h.2.2⟩
theorem held2_set {p q r f G i : Nat} {W : World} (h : Held2 p q r f W) (h1 : p ≠ G) (h2 : q ≠ G) (v : Value) : Held2 p q r f (W.setCell ⟨G, i, none⟩ v) :=
  ⟨(World.cell?_of_block (w := W) (a := ⟨p, 0, none⟩) (Below.heap_setCell _ _ _ _ h1)).trans h.1, (World.cell?_of_block (w := W) (a := ⟨p, 2, none⟩) (Below.heap_setCell _ _ _ _ h1)).trans h.2.1, (World.cell?_of_block (w := W) (a := ⟨q, 0, none⟩) (Below.heap_setCell _ _ _ _ h2)).trans h.2.2⟩
theorem grown_outside {wr w5 : World} {o : Obj} {row : Option Nat} {B2 : Nat} (hg : (wr.alloc o).grownBy w5 row) (h : ∀ x, row = some x → B2 ≤ x) : Outside (fun k => B2 ≤ k) wr w5 :=
  (Outside.of_below (V := fun k => B2 ≤ k) (below_alloc (Below.refl wr.heap.size wr) o)).trans' (Outside.of_grown hg h) (fun _ _ h => h)

set_option maxHeartbeats 3200000 in
theorem trade_of (n c : Nat) (a : Option Addr) (L : Nat → Nat) (Z : Nat → Nat → Int) (w : World) (hW : IsWishes n L Z)
    (hTr : ∀ w', Below w.heap.size w w' → Calls Tryz.prog 90 #[.slice a n c] w' (RetTraders n Z w')) :
    Calls Tryz.prog 56 #[.slice a n c] w (RetTrade n Z w) := by
  have hn5 := hW.1.2
  have hn2 := hW.1.1
  have HW := Lib.hid hW
  obtain ⟨i0, hi, hz0, hz1, hz2⟩ := info_parts Tryz.infoInt
  have hmk := run_make_row' (P := Tryz.prog) 33 3 (.int .i64 0) 8 Tryz.underlying33 Tryz.infoInt rfl .i64 .i64 n (by omega) (by omega)
  have R0 := Lib.hid ((World.rowIs_made w (.int .i64 0) n 3).congr (g := fun y => .int .i64 (gF Z n 0 y : Nat)) (fun y _ => rfl))
  have B0 := Lib.hid (below_alloc (Below.refl _ w) (.cells (madeCells #[.int .i64 0] n) 3))
  have HTr := Lib.hid (hTr _ B0.out)
  have S0 := Lib.hid (show (w.alloc (.cells (madeCells #[.int .i64 0] n) 3)).heap.size = w.heap.size + 1 by simp)
  clear hW hTr
  go_enter Tryz.func56, Tryz.ntmps56
  go_wp2_with (go_at_call 90; refine HTr.out.mono ?_; rintro e w2 ⟨rfl, wb, cp, hT, hP, hwb, hb2⟩)
  clear hmk
  rw [S0.out] at hT hP hwb hb2
  obtain ⟨G, hG⟩ : ∃ G, G = w.heap.size := ⟨_, rfl⟩
  have QG := Lib.hid hG
  have hR2 := rowIs_below R0.out (show w.heap.size < w.heap.size + 1 by omega) hb2
  have hB2' := B0.out.trans (hb2.mono (by omega))
  rw [← hG] at hT hP hwb hb2 hR2 ⊢
  obtain ⟨tb, htb⟩ : ∃ tb, tb = fun r => G + 1 + 1 + r := ⟨_, rfl⟩
  have htb' : ∀ r, tb r = G + 2 + r := fun r => by rw [htb]
  rw [← htb] at hT hP
  obtain ⟨B2, hB2⟩ : ∃ B2, B2 = w2.heap.size := ⟨_, rfl⟩
  have HTB := Lib.hid htb'
  have HWB := Lib.hid (show ∀ r, r < n → G + 2 + n ≤ wb r ∧ wb r < B2 from fun r hr => ⟨by have := hwb r hr; omega, by rw [hB2]; exact hT.wlt hr⟩)
  have hGB : G + 2 + n ≤ B2 := by have := (HWB.out 0 (by omega)); omega
  have T0 := Lib.hid hT
  have P0 := Lib.hid hP
  have R2 := Lib.hid hR2
  have BW := Lib.hid hB2'
  have QB2 := Lib.hid hB2
  clear hT hP hwb hb2 hR2 hB2' htb htb' hB2 hG R0 B0 S0 HTr
  go_loopg [5, 6] n (fun g lv lf wr => ∃ (t : Nat) (v : Value) (gn : Nat → Bool) (pt : Nat → Option Addr), t + g = n ∧ v = lv ∧ lf = .slice (some ⟨G + 1, 0, none⟩) (pplL n (tS Z n t)).length n ∧ (pplL n (tS Z n t)).length ≤ g ∧ (∀ s, s < t → ∃ y, tS Z n s y = true) ∧ (∀ r, r < n → gn r = !tS Z n t r) ∧
      Trd wr n Z tb wb cp pt gn ∧ PtrW wr (G + 1) tb (pplL n (tS Z n t)) ∧ wr.rowIs G 3 n (fun y => .int .i64 (gF Z n t y : Nat)) ∧ wr.ownsRow B2 3 1 v t (cellsL t (leaveF Z n)) ∧ Below w.heap.size w wr ∧ B2 ≤ wr.heap.size)
  case atStart => exact ⟨0, _, _, _, by omega, rfl, by rw [ppl_zero, List.length_range], by rw [ppl_zero, List.length_range]; exact Nat.le_refl _, fun s hs => absurd hs (Nat.not_lt_zero _), fun r hr => by show false = !decide (r < n); simp [hr], T0.out, by rw [ppl_zero]; exact P0.out, R2.out, ⟨rfl, .inl ⟨rfl, rfl⟩⟩, BW.out, by rw [QB2.out]; exact Nat.le_refl _⟩
  case round =>
    obtain ⟨t, v, gn, pt, htg, rfl, rfl, hlg, hsome, hgn, hT, hP, hR, hO, hB, hBs⟩ := hrel
    have HSome := Lib.hid hsome
    have HGn := Lib.hid hgn
    have HStay := Lib.hid (stay_eq hgn)
    have HT := Lib.hid hT
    have HP := Lib.hid hP
    have HR := Lib.hid hR
    have HO := Lib.hid hO
    have HB := Lib.hid hB
    obtain ⟨l, hl⟩ : ∃ l, l = pplL n (tS Z n t) := ⟨_, rfl⟩
    have QL := Lib.hid hl
    rw [← hl] at hlg HP ⊢
    obtain ⟨m, hm⟩ : ∃ m, m = l.length := ⟨_, rfl⟩
    have QM := Lib.hid hm
    rw [← hm] at hlg ⊢
    have hm5 : m ≤ 5 := by omega
    have hmn : m ≤ n := by omega
    have hmemL : ∀ r, r ∈ l → tS Z n t r = true ∧ r < n := fun r hr => by
      rw [hl] at hr
      have := (mem_pplL (tS_ppl Z n t)).1 hr
      exact ⟨this, tS_ppl Z n t r this⟩
    have HMem := Lib.hid hmemL
    clear hsome hgn hT hP hR hO hB hl hm hmemL T0 P0 R2 BW
    obtain ⟨f, hf⟩ : ∃ f, f = ptS Z n (tS Z n t) := ⟨_, rfl⟩
    have QF := Lib.hid hf
    clear hf
    by_cases hpos : 0 < m
    · have hdp : decide (0 < m) = true := by simpa using hpos
      obtain ⟨wo, rfl⟩ : ∃ wo : World, wo = wr := ⟨_, rfl⟩
      go_wp2
      go_loopw [8, 22] (fun _ s wi => ∃ (k : Nat) (pt' : Nat → Option Addr), k ≤ m ∧ s = .int .i64 k ∧ Trd wi n Z tb wb cp pt' gn ∧ (∀ j, j < k → pt' (l.getD j 0) = some ⟨tb (f (l.getD j 0)), 0, none⟩) ∧ Outside (PplB n G) wo wi) (fun _ s _ => m - (intOf s).toNat)
      case atStart => exact ⟨0, _, Nat.zero_le _, rfl, HT.out, fun j hj => absurd hj (Nat.not_lt_zero _), Outside.refl _ _⟩
      case round =>
        obtain ⟨k, pt', hk, rfl, hT, hpt, hout⟩ := hrel
        have HT2 := Lib.hid hT
        have HPt := Lib.hid hpt
        have HOut := Lib.hid hout
        clear hT hpt hout
        by_cases hkm : k < m
        · have hkl : k < l.length := by rw [← QM.out]; exact hkm
          obtain ⟨r, hr⟩ : ∃ r, r = l.getD k 0 := ⟨_, rfl⟩
          have hrl : r ∈ l := by rw [hr]; exact getD_mem hkl
          have hck := (HP.out.of_block (HOut.out.block (G + 1) (by omega) (by unfold PplB; omega)) k hkl).1
          rw [← hr] at hck
          have hrn := (HMem.out r hrl).2
          have HPo := Lib.hid (point_any n r L Z tb wb cp pt' gn wr HW.out HT2.out hrn (by rw [HGn.out r hrn, (HMem.out r hrl).1]; rfl))
          have QR := Lib.hid hr
          have QP := Lib.hid (show ptS Z n (stay n gn) r = f r by rw [HStay.out, QF.out])
          clear hr hrl hkl
          go_wp2_with (go_at_call 91; refine HPo.out.mono ?_; rintro e w' ⟨rfl, rfl⟩; rw [QP.out])
          go_roundw
          case rel =>
            refine ⟨k + 1, _, by omega, by go_num, HT2.out.setPt hrn _, fun j hj => ?_, HOut.out.setCell (show PplB n G (tb r) by unfold PplB; rw [HTB.out]; omega) _⟩
            by_cases e : l.getD j 0 = r
            · rw [if_pos e, e]
            · rw [if_neg e]
              exact HPt.out j (by
                rcases Nat.lt_or_ge j k with h | h
                · exact h
                · exact absurd (show l.getD j 0 = r by rw [QR.out, show j = k by omega]) e)
          case measure => simp [intOf]; omega
        · obtain rfl : m = k := by omega
          obtain ⟨wq, rfl⟩ : ∃ wq : World, wq = wr := ⟨_, rfl⟩
          obtain ⟨D, hD⟩ : ∃ D, D = l.filter (backB f l.length) := ⟨_, rfl⟩
          have hDc : D = circL Z n t := by rw [hD, QL.out, QF.out]; exact circL_back HW.out
          have hfl : ∀ r, r ∈ l → f r ∈ l := fun r hr => by
            rw [QL.out] at hr ⊢
            rw [QF.out]
            exact (mem_pplL (tS_ppl Z n t)).2 (ptS_in HW.out (tS_ppl Z n t) ((mem_pplL (tS_ppl Z n t)).1 hr))
          have hptl : ∀ r, r ∈ l → pt' r = some ⟨tb (f r), 0, none⟩ := fun r hr => by
            obtain ⟨j, hj, e⟩ := mem_getD hr
            have := HPt.out j (by rw [QM.out]; exact hj)
            rwa [e] at this
          have hDpos : 0 < D.length := by
            obtain ⟨j, hj⟩ := List.exists_mem_of_length_pos (show 0 < l.length by rw [← QM.out]; exact hpos)
            obtain ⟨z, hz⟩ := circB_some HW.out (tS_ppl Z n t) (HMem.out j hj).1
            rw [hDc]
            exact List.length_pos_of_mem (mem_circL.2 hz)
          have hDl : D.length ≤ m := by rw [hD, QM.out]; exact List.length_filter_le _ _
          have hDmem : ∀ r, r ∈ D → r ∈ l := fun r hr => by rw [hD] at hr; exact (List.mem_filter.1 hr).1
          have hoc := onCircles_any n n (G + 1) l f Z tb wb cp pt' gn wq HT2.out (fun r hr => ⟨(HMem.out r hr).2, hfl r hr, hptl r hr⟩) (by rw [← QM.out]; exact hm5) (HP.out.of_block (HOut.out.block (G + 1) (by omega) (by unfold PplB; omega))).at (by have := HOut.out.size; omega)
          rw [← hD, ← QM.out] at hoc
          have HLo := Lib.hid hoc
          have QD := Lib.hid hDc
          have HDm := Lib.hid hDmem
          have HPtl := Lib.hid hptl
          have HFl := Lib.hid hfl
          have hqs := HOut.out.size
          clear hoc hD hDc hDmem hptl hfl HPt
          go_wp2_with (go_at_call 92; refine HLo.out.mono ?_; rintro e w3 ⟨vd, rfl, hown3, hb3⟩; obtain ⟨gd, capd, rfl⟩ := owns_form hown3 hDpos)
          obtain ⟨d, hd⟩ : ∃ d, d = D.length := ⟨_, rfl⟩
          rw [← hd] at hDpos hDl hown3 ⊢
          have QDl := Lib.hid hd
          have hgl := hown3.lt gd rfl
          have hs3 := hb3.size
          have T3 := Lib.hid ((HT2.out.below hb3).congr (gn' := goneF gn D 0) (fun r _ => rfl) (fun r _ => goneF_zero gn D r))
          have R3 := Lib.hid (((HR.out.of_block (HOut.out.block G (by have := HR.out.lt; omega) (by unfold PplB; omega))).of_block (hb3.block G (by have := HR.out.lt; omega))).congr (g := fun y => .int .i64 (takeF f (gF Z n t) D 0 y)) (fun y _ => by rw [takeF_zero]))
          have HO3 := Lib.hid hown3
          have HB3 := Lib.hid hb3
          clear hd hown3 hb3 HLo
          go_loopw [9, 11, 32] (fun st _ s wi => ∃ (k M : Nat), k ≤ d ∧ s = .int .i64 k ∧ st = .int .i64 (M : Nat) ∧ MaskL n M D k ∧ wi.rowIs G 3 n (fun y => .int .i64 (takeF f (gF Z n t) D k y)) ∧ Trd wi n Z tb wb cp pt' (goneF gn D k) ∧ Outside (GivB n G) w3 wi) (fun _ _ s _ => d - (intOf s).toNat)
          case atStart => exact ⟨0, 0, Nat.zero_le _, rfl, rfl, MaskL.zero _ _, R3.out, T3.out, Outside.refl _ _⟩
          case round =>
            obtain ⟨k, M, hk, rfl, rfl, hM, hR, hT, hout⟩ := hrel
            clear R3 T3
            have HM := Lib.hid hM
            have HR4 := Lib.hid hR
            have HT4 := Lib.hid hT
            have HO4 := Lib.hid hout
            by_cases hkd : k < d
            · have hkD : k < D.length := by rw [← QDl.out]; exact hkd
              obtain ⟨r, hr⟩ : ∃ r, r = D.getD k 0 := ⟨_, rfl⟩
              have hrD : r ∈ D := by rw [hr]; exact getD_mem hkD
              have hrl := HDm.out r hrD
              have hrn := (HMem.out r hrl).2
              obtain ⟨q, hq⟩ : ∃ q, q = f r := ⟨_, rfl⟩
              have hqn : q < n := by rw [hq]; exact (HMem.out _ (HFl.out r hrl)).2
              have cD : wr.cell? ⟨gd, k, none⟩ = some (.pointer (some ⟨tb r, 0, none⟩)) := by
                have h1 := HO3.out.cells (g := gd) rfl k _ (ptrs_get hkD)
                rw [Go.WideShapes.add_plain, Nat.zero_add, ← hr] at h1
                exact hout.cell (by show ¬ GivB n G gd; unfold GivB; omega) h1
              have c0 := hT.c0 hrn
              have c2 := hT.c2 hrn
              rw [HPtl.out r hrl, ← hq] at c2
              have cq := hT.c0 hqn
              have c3 := hT.c3 hrn
              have f3 := hT.fz hrn 3
              obtain ⟨g0, hg0⟩ : ∃ g0, g0 = goneF gn D k r := ⟨_, rfl⟩
              rw [← hg0] at c3
              have cG := hR.cell hrn
              have fG := hR.frozen r
              have htr := HTB.out r
              have htq := HTB.out q
              have hnr : tb r ≠ G := by omega
              have hnq : tb q ≠ G := by omega
              have s3 : ∀ v, (wr.setCell ⟨G, r, none⟩ v).cell? ⟨tb r, 3, none⟩ = some (.bool g0) := fun v => (World.cell?_of_block (w := wr) (a := ⟨tb r, 3, none⟩) (Below.heap_setCell _ _ _ _ hnr)).trans c3
              have s3f : ∀ v, (wr.setCell ⟨G, r, none⟩ v).frozen? ⟨tb r, 3, none⟩ = false := fun v => by rw [World.frozen?_setCell]; exact f3
              have s0 : ∀ v u, ((wr.setCell ⟨G, r, none⟩ v).setCell ⟨tb r, 3, none⟩ u).cell? ⟨tb r, 0, none⟩ = some (.int .i64 (r : Nat)) := fun v u => by
                rw [World.cell?_setCell_other (a := ⟨tb r, 3, none⟩) (b := ⟨tb r, 0, none⟩) (h := fun h => by simp at h)]
                exact (World.cell?_of_block (w := wr) (a := ⟨tb r, 0, none⟩) (Below.heap_setCell _ _ _ _ hnr)).trans c0
              have hput := bit_put M r (Nat.lt_trans hM.1 (two_pow_lt (by omega))) (by omega)
              obtain ⟨M', hM'⟩ : ∃ M', M' = M ||| 2 ^ r := ⟨_, rfl⟩
              rw [← hM'] at hput
              have HM' := Lib.hid (show MaskL n M' D (k + 1) by rw [hM']; exact hM.next hkD hr hrn)
              have HN := Lib.hid (fun y => takeF_step f (gF Z n t) D hkD hr y)
              have HGo := Lib.hid (fun y => goneF_step gn D hkD hr y)
              have QQ := Lib.hid hq
              have hr0 : (0 : Int) ≤ (r : Int) := by omega
              have hrn' : (r : Int) < (n : Int) := by omega
              have hbtr := Lib.hid htr
              clear hM' hq hg0 hr hrD hrl hkD hM hR hT hout htr htq
              go_wp2
              go_region_held3 (fun W => W.cell? ⟨tb r, 0, none⟩ = some (.int .i64 (r : Nat)) ∧ W.cell? ⟨tb r, 2, none⟩ = some (.pointer (some ⟨tb q, 0, none⟩)) ∧ W.cell? ⟨tb q, 0, none⟩ = some (.int .i64 (q : Nat)))
                (first | exact held2_drew ⟨c0, c2, cq⟩ | exact held2_set (by assumption) hnr hnq _) (fail)
              go_wp2
              go_roundw
              case rel =>
                refine ⟨k + 1, M', by omega, by go_num, rfl, HM'.out, ?_, ?_, ?_⟩
                · refine ((HR4.out.set r (.int .i64 (q : Nat))).of_block (Below.heap_setCell _ _ _ _ (Ne.symm hnr))).congr (fun y _ => ?_)
                  rw [← HN.out y]
                  by_cases e : y = r
                  · rw [if_pos e, if_pos e, QQ.out]
                  · rw [if_neg e, if_neg e]
                · refine (((HT4.out.setCell ⟨G, r, none⟩ (.int .i64 (q : Nat)) (fun x hx => by rw [HTB.out]; show _ ≠ G; omega) (fun x hx => by have := (HWB.out x hx).1; show _ ≠ G; omega)).setGn hrn true).congr (fun _ _ => rfl) (fun y _ => HGo.out y)).of_blocks (fun _ _ => rfl) (fun _ _ => rfl)
                · have ho := (HO4.out.setCell (p := ⟨G, r, none⟩) (show GivB n G G from .inl rfl) (.int .i64 (q : Nat))).setCell (p := ⟨tb r, 3, none⟩) (show GivB n G (tb r) from .inr (by have := hbtr.out; omega)) (.bool true)
                  exact ⟨ho.os, ho.tape, ho.output, ho.size, ho.block⟩
              case measure => simp [intOf]; omega
            · obtain rfl : d = k := by omega
              have hMl : (M : Int) = leaveF Z n t := by
                have h1 := hM
                rw [QDl.out, QD.out] at h1
                exact h1.all
              have hvl : ∀ x, v.ownBlock = some x → B2 ≤ x := fun x hx => (HO.out.lt x hx).1
              have o1 : wq.ownsRow B2 3 1 v t (cellsL t (leaveF Z n)) := owns_grown HO.out HOut.out (fun x hx h => by unfold PplB at h; omega)
              have o2 : w3.ownsRow B2 3 1 v t (cellsL t (leaveF Z n)) := owns_any o1 fun g hg => HB3.out.block g (o1.lt g hg).2
              have o3 : wr.ownsRow B2 3 1 v t (cellsL t (leaveF Z n)) := owns_grown o2 hout (fun x hx h => by unfold GivB at h; omega)
              have hso := hout.size
              have p3 : PtrW wr (G + 1) tb l := ((HP.out.of_block (HOut.out.block (G + 1) (by omega) (by unfold PplB; omega))).of_block (HB3.out.block (G + 1) (by omega))).of_block (hout.block (G + 1) (by omega) (by unfold GivB; omega))
              have hBr : Below w.heap.size w wr := ((HB.out.trans (HOut.out.below HB.out.size (fun x hx => by unfold PplB at hx; rw [← QG.out]; omega))).trans (HB3.out.mono (by have := HB.out.size; omega))).trans (hout.below (by have := HB.out.size; omega) (fun x hx => by unfold GivB at hx; rw [← QG.out]; omega))
              have HVl := Lib.hid hvl
              have HO3' := Lib.hid o3
              have HP3 := Lib.hid p3
              have HBr := Lib.hid hBr
              have HMl := Lib.hid hMl
              clear hMl hvl o1 o2 o3 p3 hBr hM hR hT hout
              go_wp2_with (first
                | (at_builtin; refine wpList_append_lies _ (by rfl) (.tmp 60) (.tmp 62) 33 (by rfl) B2 3 i0 (.int .i64 0) 1 8 Tryz.underlying33 hi hz0 hz1 hz2 (by rfl) (by decide) v t (cellsL t (leaveF Z n)) (by rfl) (HO3'.out.alloc _) ⟨_, 0, none⟩ 1 1 [.int .i64 (M : Nat)] (by rfl) (by rfl) (news_one (by simp)) (by simp [Value.oneCell']) (by omega) (by unfold maxLen; omega) (by omega) (by simp; omega) _ rfl ?_; intro g5 cap5 w5 hown5 hgrow5 hat5 hlt5; have N5 := Lib.hid hown5; have G5 := Lib.hid (grown_outside hgrow5 HVl.out); clear hown5 hgrow5 hat5 hlt5; have HDl := Lib.hid (deleteFunc_any n n (G + 1) l Z tb wb cp pt' (goneF gn D d) w5 (HT4.out.outside G5.out (fun x hx => by rw [HTB.out]; omega) (fun x hx => by have := (HWB.out x hx).2; omega)) (fun x hx => by rw [HTB.out]; omega) (fun x hx => by have := (HWB.out x hx).1; omega) (fun x hx => (HMem.out x hx).2) (by rw [← QM.out]; exact hm5) (by rw [← QM.out]; exact hmn) hn5 (HP3.out.of_block (G5.out.block (G + 1) (by omega) (by omega)))))
                | (go_at_call 93; have hdl := HDl.out; rw [← QM.out] at hdl; refine hdl.mono ?_; rintro e w6 ⟨rfl, hP6, hK6⟩))
              have hGn' : ∀ r, r < n → goneF gn D d r = !tS Z n (t + 1) r := fun r hr => by rw [QDl.out, QD.out]; exact goneF_all HGn.out hr
              have hleft : (l.filter fun r => !goneF gn D d r) = pplL n (tS Z n (t + 1)) := by rw [QL.out]; exact left_next hGn'
              rw [hleft] at hP6 ⊢
              have hless : (pplL n (tS Z n (t + 1))).length < m := by
                have := left_less HW.out (show 0 < (pplL n (tS Z n t)).length by rw [← QL.out, ← QM.out]; exact hpos)
                rwa [← QL.out, ← QM.out] at this
              have h5s := G5.out.size
              have T6 := Lib.hid (((HT4.out.outside G5.out (fun x hx => by rw [HTB.out]; omega) (fun x hx => by have := (HWB.out x hx).2; omega)).keeps hK6 (fun x hx => by rw [HTB.out]; omega) (fun x hx => by have := (HWB.out x hx).1; omega)).congr (gn' := goneF gn D d) (fun _ _ => rfl) (fun _ _ => rfl))
              have R6 := Lib.hid (((HR4.out.of_block (G5.out.block G (by omega) (by omega))).of_block (hK6.block G (by omega))).congr (g := fun y => .int .i64 (gF Z n (t + 1) y : Nat)) (fun y _ => by rw [QDl.out, QD.out, QF.out, takeF_all]))
              have O6 : Hid (w6.ownsRow B2 3 1 (.slice (some ⟨g5, 0, none⟩) (t + 1) cap5) (t + 1) (cellsL (t + 1) (leaveF Z n))) := Lib.hid (by
                have h1 := owns_at N5.out (hK6.block g5 (by have := (N5.out.lt g5 rfl).1; omega))
                rw [HMl.out, cellsL_snoc, cellsL_congr (Y := leaveF Z n) (fun j hj => by
                  by_cases e : j < t
                  · rw [if_pos e]
                  · rw [if_neg e, show j = t by omega])] at h1
                exact h1)
              have B6 := Lib.hid ((HBr.out.trans (G5.out.below (by have := HBr.out.size; omega) (fun x hx => by rw [← QG.out]; omega))).trans (hK6.below.mono (by rw [← QG.out]; omega)))
              have HP6 := Lib.hid hP6
              have hk6 := hK6.size
              clear hP6 hK6
              go_wp2
              go_roundg (gk - 1)
              case measure => omega
              case rel =>
                exact ⟨t + 1, _, _, _, by omega, rfl, rfl, by omega, fun s hs => by
                  by_cases e : s = t
                  · subst e
                    obtain ⟨j, hj⟩ := List.exists_mem_of_length_pos (show 0 < l.length by rw [← QM.out]; exact hpos)
                    exact ⟨j, (HMem.out j hj).1⟩
                  · exact HSome.out s (by omega), hGn', T6.out, HP6.out, R6.out, O6.out, B6.out, by omega⟩
    · obtain rfl : m = 0 := by omega
      have hnil : l = [] := List.eq_nil_of_length_eq_zero QM.out.symm
      have HTn := Lib.hid (show turnsN Z n = t from turnsN_of ⟨fun y => by
        cases e : tS Z n t y
        · rfl
        · have := (mem_pplL (tS_ppl Z n t)).2 e
          rw [← QL.out, hnil] at this; simp at this, HSome.out⟩)
      clear hnil
      go_wp2
      go_ret2
      refine ⟨v, by rw [← QG.out]; rfl, ?_, ?_, HB.out⟩
      · rw [← QG.out]
        refine HR.out.congr fun y _ => ?_
        unfold giveF
        rw [HTn.out]
      · rw [HTn.out]; exact owns_base HO.out (by rw [← QG.out]; omega)
end Go.Proofs.YtabdbgnkiebcdaaGreatDoor

namespace Go.Proofs.YtabdbgnkiebcdaaGreatDoor
set_option linter.unusedVariables false
set_option linter.unusedSimpArgs false
open Go.RowKit

/-- All that was there is as it was but for block b. -/
structure But1 (b : Nat) (w w' : World) : Prop where
  os : w'.os = w.os
  tape : w'.tape = w.tape
  output : w'.output = w.output
  size : w.heap.size ≤ w'.heap.size
  block : ∀ k, k < w.heap.size → k ≠ b → w'.heap[k]? = w.heap[k]?
namespace But1
variable {b : Nat} {w w' w2 : World}
theorem refl (b : Nat) (w : World) : But1 b w w := ⟨rfl, rfl, rfl, Nat.le_refl _, fun _ _ _ => rfl⟩
theorem trans (h : But1 b w w') (k : But1 b w' w2) : But1 b w w2 := ⟨k.os.trans h.os, k.tape.trans h.tape, k.output.trans h.output, Nat.le_trans h.size k.size, fun i hi hb => (k.block i (Nat.lt_of_lt_of_le hi h.size) hb).trans (h.block i hi hb)⟩
theorem below {B : Nat} (h : But1 b w w') (hb : B ≤ b) (hB : B ≤ w.heap.size) : Below B w w' := ⟨h.os, h.tape, h.output, h.size, fun k hk => h.block k (by omega) (by omega)⟩
theorem of_below (h : Below w.heap.size w w') : But1 b w w' := ⟨h.os, h.tape, h.output, h.size, fun k hk _ => h.block k hk⟩
theorem setCell (b j : Nat) (v : Value) (w : World) : But1 b w (w.setCell ⟨b, j, none⟩ v) := ⟨rfl, rfl, rfl, by simp [World.setCell], fun k _ hk => Below.heap_setCell _ _ _ _ hk⟩
end But1

/-- The first k whom r likes. -/
def wl (Z : Nat → Nat → Int) (r k : Nat) : List Nat := (List.range k).map fun j => (Z r j).toNat
theorem wl_len (Z : Nat → Nat → Int) (r k : Nat) : (wl Z r k).length = k := by simp [wl]
theorem wl_succ (Z : Nat → Nat → Int) (r k : Nat) : wl Z r (k + 1) = wl Z r k ++ [(Z r k).toNat] := by unfold wl; rw [List.range_succ, List.map_append]; rfl
theorem wl_get {tb : Nat → Nat} (Z : Nat → Nat → Int) (r : Nat) {k j : Nat} (h : j < k) : (ptrs tb (wl Z r k))[j]? = some (.pointer (some ⟨tb (Z r j).toNat, 0, none⟩)) := by
  unfold ptrs wl; simp [h]
theorem ptrs_len (tb : Nat → Nat) (l : List Nat) : (ptrs tb l).length = l.length := by simp [ptrs]

/-- n people in the blocks behind B, with some slices of wishes. -/
def Box2 (w : World) (n B : Nat) (wv : Nat → Value) : Prop := ∀ r, r < n → w.heap[B + 1 + r]? = some (.cells #[.int .i64 (r : Nat), wv r, .pointer none, .bool false] 114 (0, 0))
/-- The first i of them have their wishes. -/
def Wished (w : World) (n B : Nat) (Z : Nat → Nat → Int) (wb : Nat → Nat) (i : Nat) : Prop := ∀ r, r < i → B + 1 + n ≤ wb r ∧ wb r < w.heap.size ∧ ∀ k, k < n → w.cell? ⟨wb r, k, none⟩ = some (.pointer (some ⟨B + 1 + (Z r k).toNat, 0, none⟩))
theorem Wished.blocks {w w' : World} {n B i : Nat} {Z : Nat → Nat → Int} {wb : Nat → Nat} (h : Wished w n B Z wb i) (hs : w.heap.size ≤ w'.heap.size) (e : ∀ k, k < w.heap.size → B + 1 + n ≤ k → w'.heap[k]? = w.heap[k]?) : Wished w' n B Z wb i :=
  fun r hr => by
    obtain ⟨h1, h2, h3⟩ := h r hr
    exact ⟨h1, by omega, fun k hk => (World.cell?_of_block (w := w) (a := ⟨wb r, k, none⟩) (e _ h2 h1)).trans (h3 k hk)⟩
/-- The slice of wishes of r when the first j have theirs. -/
def wvF (wb cp : Nat → Nat) (n j r : Nat) : Value := if r < j then .slice (some ⟨wb r, 0, none⟩) n (cp r) else .slice none 0 0
theorem wvF_lt {wb cp : Nat → Nat} {n j r : Nat} (h : r < j) : wvF wb cp n j r = .slice (some ⟨wb r, 0, none⟩) n (cp r) := if_pos h
theorem wvF_ge {wb cp : Nat → Nat} {n j r : Nat} (h : ¬ r < j) : wvF wb cp n j r = .slice none 0 0 := if_neg h
/-- One wish more: what the append and the store leave. -/
theorem wish_step {wo wr wa w2 : World} {j k t g2 cap2 : Nat} {v x : Value} {xs : List Value} {o : Obj} (hbt : But1 t wo wr) (hv : wr.heap[t]? = some (.cells #[.int .i64 (j : Nat), v, .pointer none, .bool false] 114 (0, 0)))
    (hvo : ∀ y, v.ownBlock = some y → wo.heap.size ≤ y) (ht : t < wo.heap.size) (hg : wa.grownBy w2 v.ownBlock) (ha : wa = (wr.alloc o).drew)
    (hown : w2.ownsRow wo.heap.size 111 1 (.slice (some ⟨g2, 0, none⟩) (k + 1) cap2) (k + 1) (xs ++ [x])) :
    (w2.setCell ⟨t, 1, none⟩ (.slice (some ⟨g2, 0, none⟩) (k + 1) cap2)).ownsRow wo.heap.size 111 1 (.slice (some ⟨g2, 0, none⟩) (k + 1) cap2) (k + 1) (xs ++ [x]) ∧
    (w2.setCell ⟨t, 1, none⟩ (.slice (some ⟨g2, 0, none⟩) (k + 1) cap2)).heap[t]? = some (.cells #[.int .i64 (j : Nat), .slice (some ⟨g2, 0, none⟩) (k + 1) cap2, .pointer none, .bool false] 114 (0, 0)) ∧
    But1 t wo (w2.setCell ⟨t, 1, none⟩ (.slice (some ⟨g2, 0, none⟩) (k + 1) cap2)) := by
  have hs := hbt.size
  subst ha
  have hwa : (wr.alloc o).drew.heap.size = wr.heap.size + 1 := by simp
  have hat : ∀ y, y < wr.heap.size → (wr.alloc o).drew.heap[y]? = wr.heap[y]? := fun y hy => Below.heap_alloc wr o y hy
  have hne : v.ownBlock ≠ some t := fun e => by have := hvo t e; omega
  have h2t : w2.heap[t]? = wr.heap[t]? := (hg.block t (by omega) (fun e => hne e.symm)).trans (hat t (by omega))
  have hgl := hown.lt g2 rfl
  refine ⟨owns_at hown (Below.heap_setCell _ _ _ _ (by show g2 ≠ t; omega)), ?_, ?_⟩
  · exact heap_setCell_same w2 t 1 _ _ _ (h2t.trans hv)
  · have b1 : But1 t wo w2 := ⟨hg.os.trans hbt.os, hg.tape.trans hbt.tape, hg.output.trans hbt.output, by have := hg.size; omega, fun y hy hyt =>
      (hg.block y (by omega) (fun e => by have := hvo y e.symm; omega)).trans ((hat y (by omega)).trans (hbt.block y hy hyt))⟩
    exact b1.trans (But1.setCell t 1 _ w2)

set_option maxHeartbeats 3200000 in
theorem traders_any (n c : Nat) (a : Option Addr) (A : Nat → Option Addr) (L C : Nat → Nat) (Z : Nat → Nat → Int) (w : World) (hW : IsWishes n L Z) (ha0 : Tab w a n A L C Z) :
    Calls Tryz.prog 90 #[.slice a n c] w (RetTraders n Z w) := by
  have hn5 := hW.1.2
  have hn2 := hW.1.1
  have HA := Lib.hid ha0
  have HW := Lib.hid hW
  obtain ⟨i0, hi, hz0, hz1, hz2⟩ := info_parts infoTraderP
  have hmk := run_make_row' (P := Tryz.prog) 109 111 (.pointer none) 8 Tryz.underlying109 infoTraderP rfl .i64 .i64 n (by omega) (by omega)
  clear ha0 hW
  go_enter Tryz.func90, Tryz.ntmps90
  go_wp2
  clear hmk
  obtain ⟨B, hBd⟩ : ∃ B, B = w.heap.size := ⟨_, rfl⟩
  have QB := Lib.hid hBd
  rw [← hBd]
  have R0 := Lib.hid ((World.rowIs_made w (.pointer none) n 111).congr (g := fun r => if r < 0 then ptrV (B + 1 + r) else .pointer none) (fun r _ => by rw [if_neg (Nat.not_lt_zero _)]))
  have B0 := Lib.hid (below_alloc (Below.refl _ w) (.cells (madeCells #[.pointer none] n) 111))
  have S0 := Lib.hid (show (w.alloc (.cells (madeCells #[.pointer none] n) 111)).heap.size = B + 1 by simp [hBd])
  clear hBd
  go_loopw [4, 14] (fun _ s wr => ∃ i : Nat, i ≤ n ∧ s = .int .i64 i ∧ wr.rowIs B 111 n (fun r => if r < i then ptrV (B + 1 + r) else .pointer none) ∧
      Box2 wr i B (fun _ => .slice none 0 0) ∧ wr.heap.size = B + 1 + i ∧ Below w.heap.size w wr) (fun _ s _ => n - (intOf s).toNat)
  case atStart => exact ⟨0, Nat.zero_le _, rfl, by rw [QB.out]; rw [QB.out] at R0; exact R0.out, fun r hr => absurd hr (Nat.not_lt_zero _), S0.out, B0.out⟩
  case round =>
    obtain ⟨i, hin, rfl, hrow, hbox, hsz, hB⟩ := hrel
    have HR := Lib.hid hrow
    have HX := Lib.hid hbox
    have HS := Lib.hid hsz
    have HB := Lib.hid hB
    clear hrow hbox hsz hB R0 B0 S0
    by_cases hlt : i < n
    · have hc := HR.out.cell hlt
      rw [if_neg (Nat.lt_irrefl _)] at hc
      have hf := HR.out.frozen i
      have hcA : ∀ o, (wr.alloc o).cell? ⟨B, i, none⟩ = some (.pointer none) := fun o => Lib.cell?_alloc_some o hc
      have hfA : ∀ o, (wr.alloc o).frozen? ⟨B, i, none⟩ = false := fun o => (World.frozen?_of_block (w := wr) (a := ⟨B, i, none⟩) (Below.heap_alloc wr o B HR.out.lt)).trans hf
      go_wp2
      clear hcA hfA hc hf
      go_roundw
      case rel =>
        have hBl := HR.out.lt
        refine ⟨i + 1, by omega, by go_num, ((rowIs_below HR.out hBl (below_alloc (Below.refl _ wr) _)).set i _).congr (fun r hr => ?_), fun r hr => ?_, ?_, (below_alloc (Below.refl _ wr) _ |> fun h => HB.out.trans (h.mono HB.out.size)).setCell (by show w.heap.size ≤ B; rw [QB.out]; exact Nat.le_refl _) _⟩
        · by_cases e : r = i
          · subst e; rw [if_pos rfl, if_pos (Nat.lt_succ_self _), HS.out]; rfl
          · rw [if_neg e]
            by_cases h' : r < i
            · rw [if_pos h', if_pos (by omega)]
            · rw [if_neg h', if_neg (by omega)]
        · rw [Below.heap_setCell _ _ _ _ (by show B + 1 + r ≠ B; omega)]
          by_cases e : r = i
          · subst e
            rw [← HS.out]; exact heap_alloc_last wr _
          · rw [Below.heap_alloc wr _ _ (by rw [HS.out]; omega)]
            exact HX.out r (by omega)
        · rw [show ((wr.alloc (.cells #[.int .i64 (i : Nat), .slice none 0 0, .pointer none, .bool false] 114)).setCell ⟨B, i, none⟩ (.pointer (some ⟨wr.heap.size, 0, none⟩))).heap.size = wr.heap.size + 1 by simp [World.setCell], HS.out]; omega
      case measure => simp [intOf]; omega
    · obtain rfl : i = n := by omega
      have R1 := Lib.hid (HR.out.congr (g := fun r => ptrV (B + 1 + r)) (fun r hr => by rw [if_pos hr]))
      go_wp2
      obtain ⟨wp, rfl⟩ : ∃ wp : World, wp = wr := ⟨_, rfl⟩
      go_loopw [5, 6, 8, 26, 33] (fun _ _ _ s _ wr => ∃ j : Nat, j ≤ i ∧ s = .int .i64 j ∧ wr.rowIs B 111 i (fun r => ptrV (B + 1 + r)) ∧ (∃ wb cp : Nat → Nat, Box2 wr i B (wvF wb cp i j) ∧ Wished wr i B Z wb j) ∧ B + 1 + i ≤ wr.heap.size ∧ Below w.heap.size w wr) (fun _ _ _ s _ _ => i - (intOf s).toNat)
      case atStart => exact ⟨0, Nat.zero_le _, rfl, R1.out, ⟨fun _ => 0, fun _ => 0, fun r hr => by rw [wvF_ge (Nat.not_lt_zero _)]; exact HX.out r hr, fun r hr => absurd hr (Nat.not_lt_zero _)⟩, by rw [HS.out]; exact Nat.le_refl _, HB.out⟩
      case round =>
        obtain ⟨j, hj, rfl, hrow, ⟨wb, cp, hbox, hwish⟩, hsz, hB⟩ := hrel
        clear R1 HR HX HS HB
        have HR := Lib.hid hrow
        have HX := Lib.hid hbox
        have HY := Lib.hid hwish
        have HB := Lib.hid hB
        clear hrow hbox hwish hB
        by_cases hjl : j < i
        · obtain ⟨bz, oz, hAj⟩ : ∃ bz oz, A j = some ⟨bz, oz, none⟩ := by
            obtain ⟨_, _, _, _, hr0⟩ := HA.out j hjl
            obtain ⟨bz, oz, e, _⟩ := hr0 0 (by rw [(HW.out.2 j hjl).1]; omega)
            exact ⟨bz, oz, e⟩
          have HRw := Lib.hid (show Rd w (some ⟨bz, oz, none⟩) i (Z j) by
            obtain ⟨_, _, _, _, h⟩ := HA.out j hjl
            rw [(HW.out.2 j hjl).1, hAj] at h; exact h)
          obtain ⟨ba, oa, rfl, hca, hra⟩ := HA.out.below (Nat.le_refl _) HB.out j hjl
          rw [(HW.out.2 j hjl).1, hAj] at hca
          clear hra hAj
          go_wp2
          obtain ⟨wo, rfl⟩ : ∃ wo : World, wo = wr := ⟨_, rfl⟩
          have O0 := Lib.hid (show wo.ownsRow wo.heap.size 111 1 (.slice none 0 0) 0 (ptrs (fun r => B + 1 + r) (wl Z j 0)) from ⟨rfl, .inl ⟨rfl, rfl⟩⟩)
          have X0 := Lib.hid (show wo.heap[B + 1 + j]? = some (.cells #[.int .i64 (j : Nat), .slice none 0 0, .pointer none, .bool false] 114 (0, 0)) by have := HX.out j hjl; rwa [wvF_ge (Nat.lt_irrefl _)] at this)
          clear hca
          go_loopw [8, 33] (fun _ s wr => ∃ k : Nat, k ≤ i ∧ s = .int .i64 k ∧ ∃ v, wr.ownsRow wo.heap.size 111 1 v k (ptrs (fun r => B + 1 + r) (wl Z j k)) ∧ wr.heap[B + 1 + j]? = some (.cells #[.int .i64 (j : Nat), v, .pointer none, .bool false] 114 (0, 0)) ∧ But1 (B + 1 + j) wo wr) (fun _ s _ => i - (intOf s).toNat)
          case atStart => exact ⟨0, Nat.zero_le _, rfl, _, O0.out, X0.out, But1.refl _ _⟩
          case round =>
            obtain ⟨k, hk, rfl, v, hown, hx, hbut⟩ := hrel
            clear O0 X0
            by_cases hkl : k < i
            · have hB2 : Below w.heap.size w wr := HB.out.trans (hbut.below (by rw [← QB.out]; omega) HB.out.size)
              obtain ⟨bz', oz', hez, hcz⟩ := (HRw.out.below (Nat.le_refl _) hB2) k hkl
              obtain ⟨rfl, rfl, -⟩ : bz = bz' ∧ oz = oz' ∧ True := by
                simp only [Option.some.injEq, Addr.mk.injEq] at hez; exact ⟨hez.1, hez.2.1, trivial⟩
              obtain ⟨h, hh, hhn⟩ := show ∃ h : Nat, Z j k = h ∧ h < i by
                have := (HW.out.2 j hjl).2.1 k hkl
                obtain ⟨y, hy⟩ := Int.eq_ofNat_of_zero_le this.1
                exact ⟨y, hy, by omega⟩
              rw [hh] at hcz
              have QH := Lib.hid hh
              clear hez hh
              have hs2 := hbut.size
              have hRr := HR.out.of_block (hbut.block B (by omega) (by omega))
              have c1 : wr.cell? ⟨B, j, none⟩ = some (.pointer (some ⟨B + 1 + j, 0, none⟩)) := hRr.cell hjl
              have c3 : wr.cell? ⟨B, h, none⟩ = some (.pointer (some ⟨B + 1 + h, 0, none⟩)) := hRr.cell hhn
              have c2 : wr.cell? ⟨B + 1 + j, 1, none⟩ = some v := by rw [cell_of_row wr _ 1 _ _ _ hx]; rfl
              have f2 := frozen_of_row wr (B + 1 + j) 1 _ _ hx
              have HO := Lib.hid hown
              have HV := Lib.hid hx
              have HBt := Lib.hid hbut
              have HC2 := Lib.hid c2
              have hvl : ∀ x, v.ownBlock = some x → wo.heap.size ≤ x := fun x hx => (hown.lt x hx).1
              have HVL := Lib.hid hvl
              have hv1 : v.ownBlock ≠ some B := fun e => by have := hvl B e; omega
              have hv2 : v.ownBlock ≠ some (B + 1 + j) := fun e => by have := hvl _ e; omega
              have HV1 := Lib.hid hv1
              have HV2 := Lib.hid hv2
              have htl : B + 1 + j < wr.heap.size := by omega
              have a1 : ∀ o, (wr.alloc o).cell? ⟨B, j, none⟩ = some (.pointer (some ⟨B + 1 + j, 0, none⟩)) := fun o => Lib.cell?_alloc_some o c1
              have a2 : ∀ o, (wr.alloc o).cell? ⟨B + 1 + j, 1, none⟩ = some v := fun o => Lib.cell?_alloc_some o c2
              have a3 : ∀ o, (wr.alloc o).frozen? ⟨B + 1 + j, 1, none⟩ = false := fun o => (World.frozen?_of_block (w := wr) (a := ⟨B + 1 + j, 1, none⟩) (Below.heap_alloc wr o (B + 1 + j) htl)).trans f2
              have i1 : (0 : Int) ≤ (h : Int) := by omega
              have i2 : (h : Int) < (i : Int) := by omega
              have i3 : (j : Int) < (i : Int) := by omega
              clear hown hx hbut hRr hB2 hvl hv1 hv2
              go_upto_block 5 with fail
              go_cut [8] from 35 to 55 (fun _ wx => ∃ v' : Value, wx.ownsRow wo.heap.size 111 1 v' (k + 1) (ptrs (fun r => B + 1 + r) (wl Z j k) ++ [.pointer (some ⟨B + 1 + h, 0, none⟩)]) ∧ wx.heap[B + 1 + j]? = some (.cells #[.int .i64 (j : Nat), v', .pointer none, .bool false] 114 (0, 0)) ∧ But1 (B + 1 + j) wo wx)
              case first =>
               go_wp2
               go_region_law ((refine step_append_lies _ (by rfl) (.tmp 47) (.tmp 52) 109 (by rfl) wo.heap.size 111 i0 (.pointer none) 1 8 Tryz.underlying109 hi hz0 hz1 hz2 (by rfl) (by decide) v k (ptrs (fun r => B + 1 + r) (wl Z j k)) (by rfl) (HO.out.alloc _) ⟨_, 0, none⟩ 1 1 [.pointer (some ⟨B + 1 + h, 0, none⟩)] (by rfl) (by rfl) (news_one (by simp)) (by simp [Value.oneCell']) (by omega) (by unfold maxLen; omega) (by omega) (by simp; omega) _ rfl ?_; intro g2 cap2 w2 hown2 hgrow2 hat2 hlt2; have hct2 := hgrow2.cell (by simpa using a2 _) (fun e => HV2.out e.symm); have hct1 := hgrow2.cell (by simpa using a1 _) (fun e => HV1.out e.symm); have hfr2 := (World.frozen?_of_block (a := ⟨B + 1 + j, 1, none⟩) (hgrow2.block (B + 1 + j) (by simp; omega) (fun e => HV2.out e.symm))).trans (a3 _)))
               all_goals
                 have HW2 := Lib.hid (wish_step HBt.out HV.out HVL.out (show B + 1 + j < wo.heap.size by omega) hgrow2 rfl hown2)
                 clear hown2 hgrow2 hat2 hct1 hct2 hfr2 a1 a2 a3 c1 c2 c3 f2 i1 i2 i3 htl
                 go_wp2_with fail
                 go_meet
                 case rel => exact ⟨_, HW2.out⟩
              case rest =>
                obtain ⟨v', q1, q2, q3⟩ := hcut
                have HX2 := Lib.hid q1
                have HX3 := Lib.hid q2
                have HX4 := Lib.hid q3
                clear q1 q2 q3 a1 a2 a3 c1 c2 c3 f2
                go_wp2
                go_roundw
                case rel => exact ⟨k + 1, by omega, by go_num, v', by rw [wl_succ, QH.out]; unfold ptrs at HX2 ⊢; rw [List.map_append]; exact HX2.out, HX3.out, HX4.out⟩
                case measure => simp [intOf]; omega
            · obtain rfl : k = i := by omega
              obtain ⟨g, cap, rfl⟩ := owns_form hown (by omega)
              have hgl := hown.lt g rfl
              have hB2 : Below w.heap.size w wr := HB.out.trans (hbut.below (by rw [← QB.out]; omega) HB.out.size)
              have HN := Lib.hid (show Box2 wr k B (wvF (fun r => if r = j then g else wb r) (fun r => if r = j then cap else cp r) k (j + 1)) from fun r hr => by
                by_cases e : r = j
                · subst e
                  rw [wvF_lt (Nat.lt_succ_self _), if_pos rfl, if_pos rfl]; exact hx
                · rw [hbut.block _ (by omega) (by omega), HX.out r hr]
                  by_cases h' : r < j
                  · rw [wvF_lt h', wvF_lt (by omega), if_neg e, if_neg e]
                  · rw [wvF_ge h', wvF_ge (by omega)])
              have HM := Lib.hid (show Wished wr k B Z (fun r => if r = j then g else wb r) (j + 1) from fun r hr => by
                by_cases e : r = j
                · subst e
                  dsimp only
                  rw [if_pos rfl]
                  refine ⟨by omega, hgl.2, fun q hq => ?_⟩
                  have := hown.cells (g := g) rfl q _ (wl_get Z r hq)
                  rwa [Go.WideShapes.add_plain, Nat.zero_add] at this
                · dsimp only
                  rw [if_neg e]
                  obtain ⟨h1, h2, h3⟩ := HY.out r (by omega)
                  have hne : wb r ≠ B + 1 + j := by omega
                  exact ⟨h1, Nat.lt_of_lt_of_le h2 hbut.size, fun q hq => (World.cell?_of_block (w := wo) (a := ⟨wb r, q, none⟩) (hbut.block _ h2 hne)).trans (h3 q hq)⟩)
              have HRr := Lib.hid (HR.out.of_block (hbut.block B (by omega) (by omega)))
              have HB2 := Lib.hid hB2
              have hs2 := hbut.size
              clear hown hx hbut hB2
              go_wp2
              go_roundw
              case rel => exact ⟨j + 1, by omega, by go_num, HRr.out, ⟨_, _, HN.out, HM.out⟩, by omega, HB2.out⟩
              case measure => simp [intOf]; omega
        · obtain rfl : j = i := by omega
          go_wp2
          go_ret
          unfold RetTraders
          rw [← QB.out]
          refine ⟨rfl, wb, cp, ⟨fun r hr => ?_, fun r s _ _ e => by simp at e; omega, fun r hr => (HY.out r hr).2.2, fun r s hr hs e => by have := (HY.out r hr).1; omega⟩, fun k hk => ?_, fun r hr => (HY.out r hr).1, by rw [QB.out]; exact HB.out⟩
          · have := HX.out r hr
            rwa [wvF_lt hr] at this
          · rw [List.length_range] at hk
            rw [show (List.range j).getD k 0 = k by simp [hk]]
            exact ⟨HR.out.cell hk, HR.out.frozen k⟩
end Go.Proofs.YtabdbgnkiebcdaaGreatDoor

namespace Go.Proofs.YtabdbgnkiebcdaaGreatDoor
set_option linter.unusedVariables false
set_option linter.unusedSimpArgs false
open Go.RowKit

theorem turns_some {n : Nat} {L : Nat → Nat} {Z : Nat → Nat → Int} (hW : IsWishes n L Z) : ∃ t, IsTurns Z n t ∧ t ≤ n := by
  have hlen : ∀ t, (∀ s, s < t → 0 < (pplL n (tS Z n s)).length) → (pplL n (tS Z n t)).length + t ≤ n := by
    intro t
    induction t with
    | zero => intro _; rw [ppl_zero, List.length_range]; omega
    | succ t ih =>
      intro h
      have h1 := ih (fun s hs => h s (by omega))
      have h2 := left_less hW (h t (by omega))
      omega
  have hex : ∃ t, t ≤ n ∧ (pplL n (tS Z n t)).length = 0 := by
    by_cases e : ∃ t, t ≤ n ∧ (pplL n (tS Z n t)).length = 0
    · exact e
    · have h1 := hlen (n + 1) (fun s hs => by
        rcases Nat.eq_zero_or_pos (pplL n (tS Z n s)).length with h | h
        · exact absurd ⟨s, by omega, h⟩ e
        · exact h)
      omega
  obtain ⟨t, ht, h0⟩ := hex
  obtain ⟨s, hs, h1, h2⟩ := first_place (P := fun t => (pplL n (tS Z n t)).length = 0) (n := n + 1) (show t < n + 1 by omega) h0
  refine ⟨s, ⟨fun y => ?_, fun r hr => ?_⟩, by omega⟩
  · cases e : tS Z n s y
    · rfl
    · have := (mem_pplL (tS_ppl Z n s)).2 e
      rw [List.eq_nil_of_length_eq_zero h1] at this
      simp at this
  · obtain ⟨j, hj⟩ := List.exists_mem_of_length_pos (Nat.pos_of_ne_zero (h2 r hr))
    exact ⟨j, (mem_pplL (tS_ppl Z n r)).1 hj⟩
theorem turns_is {n : Nat} {L : Nat → Nat} {Z : Nat → Nat → Int} (hW : IsWishes n L Z) : IsTurns Z n (turnsN Z n) ∧ 1 ≤ turnsN Z n ∧ turnsN Z n ≤ n := by
  obtain ⟨t, h, hn⟩ := turns_some hW
  rw [turnsN_of h]
  refine ⟨h, ?_, hn⟩
  rcases Nat.eq_zero_or_pos t with e | e
  · subst e
    have h1 : tS Z n 0 0 = true := by show decide (0 < n) = true; have := hW.1.1; simp; omega
    rw [h.1 0] at h1; cases h1
  · exact e
/-- How many a trade gives a house. -/
noncomputable def tradeN (n : Nat) (L : Nat → Nat) (Z : Nat → Nat → Int) : Nat := if tt (IsWishes n L Z) = true then n else 0
theorem tradeN_yes {n : Nat} {L : Nat → Nat} {Z : Nat → Nat → Int} (h : IsWishes n L Z) : tradeN n L Z = n := by unfold tradeN; rw [tt_of h]; rfl
theorem tradeN_no {n : Nat} {L : Nat → Nat} {Z : Nat → Nat → Int} (h : ¬ IsWishes n L Z) : tradeN n L Z = 0 := by unfold tradeN; rw [tt_no h]; rfl
theorem tradeN_le (n : Nat) (L : Nat → Nat) (Z : Nat → Nat → Int) : tradeN n L Z ≤ 1048576 := by
  by_cases h : IsWishes n L Z
  · rw [tradeN_yes h]; have := h.1.2; omega
  · rw [tradeN_no h]; omega
/-- An answer in numbers, where there are wishes. -/
noncomputable def ifWishes (n : Nat) (L : Nat → Nat) (Z : Nat → Nat → Int) (x : Int) : Int := if tt (IsWishes n L Z) = true then x else 0
theorem ifWishes_yes {n : Nat} {L : Nat → Nat} {Z : Nat → Nat → Int} {x : Int} (h : IsWishes n L Z) : ifWishes n L Z x = x := by unfold ifWishes; rw [tt_of h]; rfl
theorem ifWishes_no {n : Nat} {L : Nat → Nat} {Z : Nat → Nat → Int} {x : Int} (h : ¬ IsWishes n L Z) : ifWishes n L Z x = 0 := by unfold ifWishes; rw [tt_no h]; rfl
/-- The set of those on circles when all point for the first time. -/
noncomputable def circleF (Z : Nat → Nat → Int) (n : Nat) : Int := leaveF Z n 0

theorem trade_any (n c : Nat) (a : Option Addr) (A : Nat → Option Addr) (L C : Nat → Nat) (Z : Nat → Nat → Int) (w : World) (hW : IsWishes n L Z) (ha0 : Tab w a n A L C Z) :
    Calls Tryz.prog 56 #[.slice a n c] w (RetTrade n Z w) :=
  trade_of n c a L Z w hW (fun w' hb => traders_any n c a A L C Z w' hW (ha0.below (Nat.le_refl _) hb))
end Go.Proofs.YtabdbgnkiebcdaaGreatDoor

namespace Go.Proofs.YtabdbgnkiebcdaaGreatDoor
set_option linter.unusedVariables false
set_option linter.unusedSimpArgs false
open Go.RowKit

theorem houseTrade_any (n c : Nat) (a : Option Addr) (A : Nat → Option Addr) (L C : Nat → Nat) (Z : Nat → Nat → Int) (w : World) (hn0 : n ≤ 1048576) (hL0 : ∀ r, r < n → L r ≤ 1048576) (ha0 : Tab w a n A L C Z) :
    Calls Tryz.prog 21 #[.slice a n c] w (RetIB (tt (IsWishes n L Z)) (tradeN n L Z) (giveF Z n) w) := by
  have H := Lib.hid (readWishes_any n c a A L C Z w hn0 hL0 ha0)
  by_cases h : IsWishes n L Z
  · have T := Lib.hid (tt_of h)
    have TN := Lib.hid (tradeN_yes h)
    have HT := Lib.hid (trade_any n c a A L C Z w h ha0)
    clear h ha0 hL0
    go_enter Tryz.func21, Tryz.ntmps21
    go_wp2_with (first
      | (go_at_call 55; refine H.out.mono ?_; rintro e w' ⟨rfl, rfl⟩; rw [T.out])
      | (go_at_call 56; refine HT.out.mono ?_; rintro e w1 ⟨v, rfl, hR, hO, hb⟩; have HR := Lib.hid hR; have HB := Lib.hid hb; clear hR hO hb))
    go_ret2
    exact ⟨_, _, by rw [T.out, TN.out]; rfl, by rw [TN.out]; exact .inr ⟨_, Nat.le_refl _, HR.out.lt, OwnR.of_row HR.out⟩, HB.out⟩
  · have T := Lib.hid (tt_no h)
    have TN := Lib.hid (tradeN_no h)
    clear h ha0 hL0
    go_enter Tryz.func21, Tryz.ntmps21
    go_wp2_with (go_at_call 55; refine H.out.mono ?_; rintro e w' ⟨rfl, rfl⟩; rw [T.out])
    go_ret2
    exact ⟨none, 0, by rw [T.out, TN.out]; rfl, .inl TN.out, Below.refl _ _⟩
end Go.Proofs.YtabdbgnkiebcdaaGreatDoor

namespace Go.Proofs.YtabdbgnkiebcdaaGreatDoor
set_option linter.unusedVariables false

section
open Go.RowKit
def SameB (n m : Nat) (X Y : Nat → Int) : Prop := n = m ∧ ∀ k, k < n → X k = Y k
def SameT (n m : Nat) (L K : Nat → Nat) (X Y : Nat → Nat → Int) : Prop := n = m ∧ ∀ r, r < n → SameB (L r) (K r) (X r) (Y r)
end

end Go.Proofs.YtabdbgnkiebcdaaGreatDoor

namespace Go.Proofs.YtabdbgnkiebcdaaGreatDoor
set_option linter.unusedVariables false

section
open Go.RowKit
set_option maxHeartbeats 400000 in
theorem sameInts_any (n m ca cb : Nat) (a b : Option Addr) (X Y : Nat → Int) (w : World) (hn : n ≤ 9223372036854775807) (hm : m ≤ 9223372036854775807) (ha : Rd w a n X) (hb : Rd w b m Y) :
    Calls Tryz.prog 22 #[.slice a n ca, .slice b m cb] w fun e w' => e = .returned (.bool (tt (SameB n m X Y))) ∧ ∃ q, w' = w.drewN q := by
  by_cases hnm : n = m
  · subst hnm
    go_enter Tryz.func22, Tryz.ntmps22
    go_wp2
    go_loopw [4, 5] (fun r i wr => ∃ k : Nat, k ≤ n ∧ i = .int .i64 k ∧ r = .bool false ∧ (∀ j, j < k → X j = Y j) ∧ ∃ q, wr = w.drewN q) (fun _ i _ => n - (intOf i).toNat)
    case atStart => exact ⟨0, Nat.zero_le _, rfl, rfl, fun j hj => absurd hj (Nat.not_lt_zero _), 0, rfl⟩
    case round =>
      obtain ⟨k, hk, rfl, rfl, hs, q, rfl⟩ := hrel
      by_cases hlt : k < n
      · obtain ⟨ba, oa, rfl, hca⟩ := ha k hlt
        obtain ⟨bb, ob, rfl, hcb⟩ := hb k hlt
        have H1 := Lib.hid hs
        clear hs ha hb
        go_wp2
        go_quiet (fail)
        go_wp2
        · have ht : (X k != Y k) = true := by assumption
          have hf : ¬ SameB n n X Y := fun h => by have := h.2 k hlt; simp [this] at ht
          go_ret
          exact ⟨by rw [tt_no hf]; rfl, q + nq, by rw [World.drewN_drewN]⟩
        · have ht : (X k != Y k) = false := by assumption
          have he : X k = Y k := by simpa using ht
          go_roundw
          case rel =>
            exact ⟨k + 1, by omega, by go_num, rfl, fun j hj => by
              by_cases e : j = k
              · rw [e]; exact he
              · exact H1.out j (by omega), _, rfl⟩
          case measure => simp [intOf]; omega
      · have H1 := Lib.hid hs
        clear hs ha hb
        go_wp2
        go_ret
        exact ⟨by rw [tt_of ⟨rfl, fun j hj => H1.out j (by omega)⟩]; rfl, _, rfl⟩
  · go_enter Tryz.func22, Tryz.ntmps22
    have hne : ((n : Int) != (m : Int)) = true := by simp; omega
    go_wp2
    go_ret
    exact ⟨by rw [tt_no (fun h => hnm h.1)]; rfl, 0, rfl⟩
end

end Go.Proofs.YtabdbgnkiebcdaaGreatDoor

namespace Go.Proofs.YtabdbgnkiebcdaaGreatDoor
set_option linter.unusedVariables false
open Go.RowKit

section
variable {n : Nat} {L : Nat → Nat} {Z : Nat → Nat → Int}
theorem gF_keep {s i : Nat} (h : circB Z n (tS Z n s) i = true) : ∀ t, s + 1 ≤ t → gF Z n t i = ptS Z n (tS Z n s) i := by
  intro t ht
  induction t with
  | zero => omega
  | succ t ih =>
    show (if circB Z n (tS Z n t) i = true then ptS Z n (tS Z n t) i else gF Z n t i) = _
    by_cases e : t = s
    · subst e; rw [if_pos h]
    · rw [if_neg (fun hc => by
        have h1 := tS_mono (s := s + 1) (by omega) (circB_in hc)
        rw [circB_gone h] at h1; cases h1)]
      exact ih (by omega)
theorem leaves {t i : Nat} (hi : i < n) (ht : tS Z n t i = false) : ∃ s, s < t ∧ circB Z n (tS Z n s) i = true := by
  induction t with
  | zero =>
    have : decide (i < n) = false := ht
    simp at this; omega
  | succ t ih =>
    by_cases e : tS Z n t i = false
    · obtain ⟨s, h1, h2⟩ := ih e
      exact ⟨s, by omega, h2⟩
    · have e' : tS Z n t i = true := by simpa using e
      refine ⟨t, by omega, ?_⟩
      have h2 : (tS Z n t i && !circB Z n (tS Z n t) i) = false := ht
      rw [e'] at h2
      simpa using h2
/-- When i leaves, and what i gets then. -/
theorem give_at (hW : IsWishes n L Z) {i : Nat} (hi : i < n) : ∃ s, circB Z n (tS Z n s) i = true ∧ giveF Z n i = (ptS Z n (tS Z n s) i : Nat) ∧ circB Z n (tS Z n s) (ptS Z n (tS Z n s) i) = true := by
  obtain ⟨hT, _, _⟩ := turns_is hW
  obtain ⟨s, h1, h2⟩ := leaves hi (hT.1 i)
  refine ⟨s, h2, ?_, circB_of (ptS_in hW (tS_ppl Z n s) (circB_in h2)) (circB_circ h2).step⟩
  unfold giveF
  rw [gF_keep h2 _ (by omega)]
theorem give_circ (hW : IsWishes n L Z) {s i : Nat} (hi : circB Z n (tS Z n s) i = true) : giveF Z n i = (ptS Z n (tS Z n s) i : Nat) := by
  obtain ⟨hT, _, _⟩ := turns_is hW
  have hs : s + 1 ≤ turnsN Z n := by
    rcases Nat.lt_or_ge s (turnsN Z n) with h | h
    · exact h
    · have := tS_mono h (circB_in hi)
      rw [hT.1 i] at this; cases this
  unfold giveF
  rw [gF_keep hi _ hs]
theorem circ_once {s t i : Nat} (h : circB Z n (tS Z n s) i = true) (k : circB Z n (tS Z n t) i = true) : s = t := by
  rcases Nat.lt_trichotomy s t with h1 | h1 | h1
  · have := tS_mono (s := s + 1) (by omega) (circB_in k)
    rw [circB_gone h] at this; cases this
  · exact h1
  · have := tS_mono (s := t + 1) (by omega) (circB_in h)
    rw [circB_gone k] at this; cases this
theorem give_range (hW : IsWishes n L Z) {i : Nat} (hi : i < n) : 0 ≤ giveF Z n i ∧ giveF Z n i < n := by
  obtain ⟨s, h1, h2, h3⟩ := give_at hW hi
  have := tS_ppl Z n s _ (circB_in h3)
  omega
theorem trade_giving (hW : IsWishes n L Z) : IsDiff n n (giveF Z n) := by
  refine ⟨fun i hi => give_range hW hi, fun i j hij hj e => ?_⟩
  obtain ⟨s, h1, h2, h3⟩ := give_at hW (show i < n by omega)
  obtain ⟨t, k1, k2, k3⟩ := give_at hW hj
  have e2 : ptS Z n (tS Z n s) i = ptS Z n (tS Z n t) j := by omega
  rw [e2] at h3
  obtain rfl := circ_once h3 k3
  have := (circB_circ h1).inj (circB_circ k1) e2
  omega
/-- When all are there, one points at the first house of the list. -/
theorem ptS_first (hW : IsWishes n L Z) {i : Nat} (hi : i < n) : ((ptS Z n (tS Z n 0) i : Nat) : Int) = Z i 0 := by
  have h0 := (hW.2 i hi).2.1 0 (by omega)
  have : ptS Z n (tS Z n 0) i = (Z i 0).toNat := by
    unfold ptS
    exact ptN_first (k := 0) (fun j hj => absurd hj (Nat.not_lt_zero _)) (by show decide ((Z i 0).toNat < n) = true; simp; omega) (by omega)
  omega
/-- Those on the first circles get what they like best. -/
theorem first_best (hW : IsWishes n L Z) {i : Nat} (h : circB Z n (tS Z n 0) i = true) : giveF Z n i = Z i 0 := by
  rw [give_circ hW h, ptS_first hW (tS_ppl Z n 0 i (circB_in h))]
theorem turns_one (hW : IsWishes n L Z) : turnsN Z n = 1 ↔ ∀ i, i < n → circB Z n (tS Z n 0) i = true := by
  constructor
  · intro h i hi
    obtain ⟨hT, _, _⟩ := turns_is hW
    rw [h] at hT
    obtain ⟨s, h1, h2⟩ := leaves hi (hT.1 i)
    obtain rfl : s = 0 := by omega
    exact h2
  · intro h
    refine turnsN_of ⟨fun y => ?_, fun s hs => ?_⟩
    · cases e : tS Z n 1 y
      · rfl
      · have h1 := tS_ppl Z n 1 y e
        rw [circB_gone (h y h1)] at e; cases e
    · obtain rfl : s = 0 := by omega
      exact ⟨0, by show decide (0 < n) = true; have := hW.1.1; simp; omega⟩
/-- If all like different houses best, all are on the first circles. -/
theorem all_circ (hW : IsWishes n L Z) (h : ∀ y : Nat, y < n → ∃ i, i < n ∧ Z i 0 = y) {i : Nat} (hi : i < n) : circB Z n (tS Z n 0) i = true := by
  rw [circB_image hW (tS_ppl Z n 0)]
  have hs : ∀ k y, y < n → ∃ j, j < n ∧ it (ptS Z n (tS Z n 0)) k j = y := by
    intro k
    induction k with
    | zero => intro y hy; exact ⟨y, hy, rfl⟩
    | succ k ih =>
      intro y hy
      obtain ⟨x, hx, e⟩ := h y hy
      obtain ⟨j, hj, e2⟩ := ih x hx
      refine ⟨j, hj, ?_⟩
      show ptS Z n (tS Z n 0) (it (ptS Z n (tS Z n 0)) k j) = y
      have := ptS_first hW hx
      rw [e2]; omega
  obtain ⟨j, hj, e⟩ := hs n i hi
  exact ⟨j, by show decide (j < n) = true; simpa using hj, e⟩
theorem circleF_bit {i : Nat} (Z : Nat → Nat → Int) (n : Nat) : (maskN (circB Z n (tS Z n 0)) n).testBit i = circB Z n (tS Z n 0) i := (maskN_is (circB_ppl Z (tS_ppl Z n 0))).2 i
theorem circle_pos (hW : IsWishes n L Z) : 0 < maskN (circB Z n (tS Z n 0)) n := by
  obtain ⟨z, hz⟩ := circB_some hW (tS_ppl Z n 0) (show tS Z n 0 0 = true by show decide (0 < n) = true; have := hW.1.1; simp; omega)
  rcases Nat.eq_zero_or_pos (maskN (circB Z n (tS Z n 0)) n) with h | h
  · have := circleF_bit (i := z) Z n
    rw [h, hz] at this; simp at this
  · exact h
theorem circle_full (hW : IsWishes n L Z) : maskN (circB Z n (tS Z n 0)) n = 2 ^ n - 1 ↔ turnsN Z n = 1 := by
  rw [turns_one hW]
  constructor
  · intro h i hi
    have := circleF_bit (i := i) Z n
    rw [h, Nat.testBit_two_pow_sub_one] at this
    rw [← this]; simpa using hi
  · intro h
    refine Nat.eq_of_testBit_eq fun y => ?_
    rw [circleF_bit, Nat.testBit_two_pow_sub_one]
    by_cases hy : y < n
    · rw [h y hy]; simp [hy]
    · cases e : circB Z n (tS Z n 0) y
      · simp [hy]
      · exact absurd (tS_ppl Z n 0 y (circB_in e)) hy
end
end Go.Proofs.YtabdbgnkiebcdaaGreatDoor

namespace Go.Proofs.YtabdbgnkiebcdaaGreatDoor
set_option linter.unusedVariables false
set_option linter.unusedSimpArgs false
open Go.RowKit

section
variable {n : Nat} {L M : Nat → Nat} {Z Y : Nat → Nat → Int} {p : Nat}
theorem ptS_row {S : Nat → Bool} {i : Nat} (h : Y i = Z i) : ptS Y n S i = ptS Z n S i := by unfold ptS; rw [h]
theorem it_same {S : Nat → Bool} (hY : ∀ i, i ≠ p → Y i = Z i) {i : Nat} : ∀ k, (∀ j, j < k → it (ptS Z n S) j i ≠ p) → it (ptS Y n S) k i = it (ptS Z n S) k i
  | 0, _ => rfl
  | k + 1, h => by
    show ptS Y n S (it (ptS Y n S) k i) = ptS Z n S (it (ptS Z n S) k i)
    rw [it_same hY k (fun j hj => h j (by omega)), ptS_row (hY _ (h k (by omega)))]
theorem circ_same1 {S : Nat → Bool} (hY : ∀ i, i ≠ p → Y i = Z i) (hp : S p = true) (hno : circB Z n S p = false) {i : Nat} (h : circB Z n S i = true) : circB Y n S i = true := by
  have hc := circB_circ h
  have hav : ∀ j, it (ptS Z n S) j i ≠ p := fun j e => by
    have := circB_of (Z := Z) (n := n) hp (by have := hc.it j; rwa [e] at this)
    rw [hno] at this; cases this
  obtain ⟨k, h1, h2⟩ := hc
  exact circB_of (circB_in h) ⟨k, h1, by rw [it_same hY k (fun j _ => hav j)]; exact h2⟩
theorem circ_same {S : Nat → Bool} (hY : ∀ i, i ≠ p → Y i = Z i) (hp : S p = true) (h1 : circB Z n S p = false) (h2 : circB Y n S p = false) (i : Nat) : circB Z n S i = circB Y n S i := by
  rw [Bool.eq_iff_iff]
  exact ⟨circ_same1 hY hp h1, circ_same1 (fun i hi => (hY i hi).symm) hp h2⟩
theorem stays_circ {t : Nat} (h : tS Z n (t + 1) p = true) : circB Z n (tS Z n t) p = false := by
  unfold tS at h
  simp only [Bool.and_eq_true, Bool.not_eq_true'] at h
  exact h.2
/-- As long as p is there, as many are left, whatever p tells. -/
theorem same_left (hY : ∀ i, i ≠ p → Y i = Z i) : ∀ t, tS Z n t p = true → tS Y n t p = true → tS Z n t = tS Y n t
  | 0, _, _ => rfl
  | t + 1, h1, h2 => by
    have ih := same_left hY t (tS_down h1) (tS_down h2)
    funext y
    have hc := circ_same (n := n) (S := tS Z n t) hY (tS_down h1) (stays_circ h1) (by rw [ih]; exact stays_circ h2) y
    show (tS Z n t y && !circB Z n (tS Z n t) y) = (tS Y n t y && !circB Y n (tS Y n t) y)
    rw [hc, ih]
/-- The first one of a list that is in a set stands ahead of the others. -/
theorem best_in (hW : IsWishes n L Z) {S : Nat → Bool} (hS : Ppl n S) (hp : p < n) {h : Nat} (hh : S h = true) : idxF (Z p) (ptS Z n S p : Nat) n ≤ idxF (Z p) (h : Nat) n := by
  obtain ⟨j, hj, h1, h2, h3⟩ := ptS_spec hW hS hp hh
  have hjr : ((Z p j).toNat : Int) = Z p j := by have := (hW.2 p hp).2.1 j hj; omega
  rw [h3, hjr]
  have e1 : idxF (Z p) (Z p j) n = j := idxF_some (fun k hk e => by
    have := h2 k hk
    rw [e, h1] at this; cases this) rfl hj
  obtain ⟨k, hk, e⟩ := (hW.2 p hp).2.all (hS h hh)
  obtain ⟨k', hk1, hk2, hk3⟩ := first_place (P := fun k => Z p k = (h : Nat)) hk e
  have e2 : idxF (Z p) (h : Nat) n = k' := idxF_some hk3 hk2 (by omega)
  rw [e1, e2]
  by_cases hlt : k' < j
  · have := h2 k' hlt
    rw [show Z p k' = (h : Nat) from hk2, Int.toNat_natCast, hh] at this; cases this
  · omega
/-- Of fewer, the first one is the same if it is among them. -/
theorem ptS_sub (hW : IsWishes n L Z) {S T : Nat → Bool} (hS : Ppl n S) (hTS : ∀ y, T y = true → S y = true) {i : Nat} (hi : i < n) (hT : T (ptS Z n S i) = true) : ptS Z n T i = ptS Z n S i := by
  obtain ⟨j, hj, h1, h2, h3⟩ := ptS_spec hW hS hi (hTS _ hT)
  rw [h3] at hT ⊢
  exact ptN_first (fun k hk => by
    cases e : T (Z i k).toNat
    · rfl
    · have := hTS _ e; rw [h2 k hk] at this; cases this) hT hj

/-- Nobody gets a house that is liked better by telling another list. -/
theorem no_better (hW : IsWishes n L Z) (hV : IsWishes n M Y) (hY : ∀ i, i ≠ p → Y i = Z i) (hp : p < n) : idxF (Z p) (giveF Z n p) n ≤ idxF (Z p) (giveF Y n p) n := by
  obtain ⟨s, hs, hg, _⟩ := give_at hW hp
  obtain ⟨s', hs', hg', hn'⟩ := give_at hV hp
  rw [hg, hg']
  by_cases hlt : s ≤ s'
  · have h1 := circB_in hs
    have h2 := tS_mono hlt (circB_in hs')
    have e := same_left (n := n) hY s h1 h2
    refine best_in hW (tS_ppl Z n s) hp ?_
    rw [e]
    exact tS_mono hlt (circB_in hn')
  · have h1 := tS_mono (show s' ≤ s by omega) (circB_in hs)
    have e := same_left (n := n) hY s' h1 (circB_in hs')
    obtain ⟨k, hk1, hk2⟩ := circB_circ hs'
    have hSp := tS_ppl Y n s'
    have hin : ∀ j, tS Y n s' (it (ptS Y n (tS Y n s')) j p) = true := fun j => it_in (P := fun x => tS Y n s' x = true) (fun i hi => ptS_in hV hSp hi) (circB_in hs') j
    have key : ∀ t, s' + t ≤ s → ∀ j, j ≤ k → tS Z n (s' + t) (it (ptS Y n (tS Y n s')) j p) = true := by
      intro t
      induction t with
      | zero => intro _ j _; show tS Z n s' _ = true; rw [e]; exact hin j
      | succ t ih =>
        intro ht j hj
        have ih := ih (by omega)
        have hpt : tS Z n (s' + t) p = true := tS_mono (show s' + t ≤ s by omega) (circB_in hs)
        have hnc : circB Z n (tS Z n (s' + t)) p = false := by
          cases ec : circB Z n (tS Z n (s' + t)) p
          · rfl
          · have := circ_once ec hs; omega
        have hstep : ∀ m j, j + m = k → circB Z n (tS Z n (s' + t)) (it (ptS Y n (tS Y n s')) j p) = true → False := by
          intro m
          induction m with
          | zero =>
            intro j hjm hc
            obtain rfl : j = k := by omega
            rw [hk2, hnc] at hc; cases hc
          | succ m ihm =>
            intro j hjm hc
            by_cases ep : it (ptS Y n (tS Y n s')) j p = p
            · rw [ep, hnc] at hc; cases hc
            · refine ihm (j + 1) (by omega) ?_
              have hnext : it (ptS Y n (tS Y n s')) (j + 1) p = ptS Z n (tS Z n (s' + t)) (it (ptS Y n (tS Y n s')) j p) := by
                show ptS Y n (tS Y n s') (it (ptS Y n (tS Y n s')) j p) = _
                rw [ptS_row (hY _ ep)]
                refine (ptS_sub hW (S := tS Y n s') hSp (fun y hy => by rw [← e]; exact tS_mono (Nat.le_add_right _ _) hy) (hSp _ (hin j)) ?_).symm
                rw [← ptS_row (hY _ ep)]
                exact ih (j + 1) (by omega)
              rw [hnext]
              exact circB_of (ptS_in hW (tS_ppl Z n _) (circB_in hc)) (circB_circ hc).step
        show (tS Z n (s' + t) _ && !circB Z n (tS Z n (s' + t)) _) = true
        rw [ih j hj]
        cases ec : circB Z n (tS Z n (s' + t)) (it (ptS Y n (tS Y n s')) j p)
        · rfl
        · exact (hstep (k - j) j (by omega) ec).elim
    have h2 := key (s - s') (by omega) 1 hk1
    rw [show s' + (s - s') = s by omega] at h2
    exact best_in hW (tS_ppl Z n s) hp h2
end
end Go.Proofs.YtabdbgnkiebcdaaGreatDoor

namespace Go.Proofs.YtabdbgnkiebcdaaGreatDoor
set_option linter.unusedVariables false
set_option linter.unusedSimpArgs false
open Go.RowKit

section
variable {n : Nat} {L : Nat → Nat} {Z : Nat → Nat → Int} {G : Nat → Int}
theorem diff_inj {X : Nat → Int} (h : IsDiff n n X) {i j : Nat} (hi : i < n) (hj : j < n) (e : X i = X j) : i = j := by
  rcases Nat.lt_trichotomy i j with h1 | h1 | h1
  · exact absurd e (h.2 i j h1 hj)
  · exact h1
  · exact absurd e.symm (h.2 j i h1 hi)
/-- One that points at y on the same circle. -/
theorem circ_from (hW : IsWishes n L Z) {s y : Nat} (h : circB Z n (tS Z n s) y = true) : ∃ j k, circB Z n (tS Z n s) j = true ∧ ptS Z n (tS Z n s) j = y ∧ j = it (ptS Z n (tS Z n s)) k y := by
  obtain ⟨j, h1, h2, k, h3⟩ := (circB_circ h).pred
  refine ⟨j, k, circB_of ?_ h1, h2, h3⟩
  rw [h3]
  exact it_in (P := fun x => tS Z n s x = true) (fun i hi => ptS_in hW (tS_ppl Z n s) hi) (circB_in h) k
theorem circ_step (hW : IsWishes n L Z) {s y : Nat} (h : circB Z n (tS Z n s) y = true) : circB Z n (tS Z n s) (ptS Z n (tS Z n s) y) = true := circB_of (ptS_in hW (tS_ppl Z n s) (circB_in h)) (circB_circ h).step
/-- No set of people blocks what comes by trading in circles. -/
theorem trade_firm (hW : IsWishes n L Z) : FirmP n Z (giveF Z n) := by
  rintro S h1 hS ⟨h, hh1, hh2, hh3⟩
  have key : ∀ t, ∀ i, S.testBit i = true → circB Z n (tS Z n t) i = true → ((h i : Nat) : Int) = giveF Z n i := by
    intro t
    induction t using Nat.strongRecOn with
    | _ t ih =>
      intro i hb hc
      have hi := bit_lt hS hb
      obtain ⟨hx, hle⟩ := hh1 i hb
      have hxn := bit_lt hS hx
      have hgr := give_range hW hi
      by_cases hl : tS Z n t (h i) = true
      · have h2 := best_in hW (tS_ppl Z n t) hi hl
        rw [← give_circ hW hc] at h2
        exact idx_inj (hW.2 i hi).2 ⟨by omega, by omega⟩ ⟨hgr.1, by have := hgr.2; omega⟩ (by omega)
      · obtain ⟨s, hs, hcs⟩ := leaves (Z := Z) hxn (by simpa using hl)
        have all : ∀ k, S.testBit (it (ptS Z n (tS Z n s)) k (h i)) = true ∧ circB Z n (tS Z n s) (it (ptS Z n (tS Z n s)) k (h i)) = true := by
          intro k
          induction k with
          | zero => exact ⟨hx, hcs⟩
          | succ k ihk =>
            obtain ⟨b1, b2⟩ := ihk
            have e1 := ih s hs _ b1 b2
            rw [give_circ hW b2] at e1
            have e2 := (hh1 _ b1).1
            refine ⟨?_, circ_step hW b2⟩
            show S.testBit (ptS Z n (tS Z n s) _) = true
            rw [show ptS Z n (tS Z n s) (it (ptS Z n (tS Z n s)) k (h i)) = h (it (ptS Z n (tS Z n s)) k (h i)) by omega]
            exact e2
        obtain ⟨j, k, hj, hjy, hjk⟩ := circ_from hW hcs
        obtain ⟨b1, b2⟩ := all k
        rw [← hjk] at b1 b2
        have e1 := ih s hs _ b1 b2
        rw [give_circ hW b2, hjy] at e1
        have e2 := hh2 j i b1 hb (by omega)
        rw [e2] at b2
        have := circ_once b2 hc
        omega
  rcases hh3 with hh3 | ⟨i, hi, hne⟩
  · cases hh3
  · obtain ⟨s, hs, _, _⟩ := give_at hW (bit_lt hS hi)
    exact hne (key s i hi hs)
/-- .. and they block any other giving. -/
theorem firm_trade (hg : GivenOk n L Z n G) (hf : FirmP n Z G) : ∀ i, i < n → G i = giveF Z n i := by
  have hW := hg.1
  have hd : IsDiff n n G := ⟨fun i hi => by have h := hg.at hi; exact ⟨h.1, by have := h.2; omega⟩, hg.2.2.2⟩
  have key : ∀ t, ∀ i, circB Z n (tS Z n t) i = true → G i = giveF Z n i := by
    intro t
    induction t using Nat.strongRecOn with
    | _ t ih =>
      intro i0 hc0
      refine Classical.byContradiction fun hne => ?_
      have hbit : ∀ i, (maskN (circB Z n (tS Z n t)) n).testBit i = circB Z n (tS Z n t) i := (maskN_is (circB_ppl Z (tS_ppl Z n t))).2
      have hlt : maskN (circB Z n (tS Z n t)) n < 2 ^ n := (maskN_is (circB_ppl Z (tS_ppl Z n t))).1
      have hpos : 1 ≤ maskN (circB Z n (tS Z n t)) n := by
        rcases Nat.eq_zero_or_pos (maskN (circB Z n (tS Z n t)) n) with h | h
        · have := hbit i0
          rw [h, hc0] at this; simp at this
        · exact h
      refine hf _ hpos hlt ⟨ptS Z n (tS Z n t), fun i hi => ?_, fun i j hi hj e => ?_, .inr ⟨i0, by rw [hbit, hc0], ?_⟩⟩
      · rw [hbit] at hi
        refine ⟨by rw [hbit]; exact circ_step hW hi, ?_⟩
        have hin := tS_ppl Z n t i (circB_in hi)
        have hr := hd.1 i hin
        obtain ⟨y, hy⟩ := Int.eq_ofNat_of_zero_le hr.1
        have hyn : y < n := by have := hr.2; omega
        rw [hy]
        refine best_in hW (tS_ppl Z n t) hin ?_
        refine Classical.byContradiction fun hl => ?_
        obtain ⟨s, hs, hcs⟩ := leaves (Z := Z) hyn (by simpa using hl)
        obtain ⟨j, k, hj, hjy, hjk⟩ := circ_from hW hcs
        have e1 := ih s hs j hj
        rw [give_circ hW hj, hjy] at e1
        have e2 := diff_inj hd (tS_ppl Z n s j (circB_in hj)) hin (by rw [e1, hy])
        rw [e2] at hj
        have := circ_once hj hi
        omega
      · rw [hbit] at hi hj
        exact (circB_circ hi).inj (circB_circ hj) e
      · rw [← give_circ hW hc0]
        exact fun e => hne e.symm
  intro i hi
  obtain ⟨s, hs, _, _⟩ := give_at hW hi
  exact key s i hs
/-- Nobody likes the own house better than what comes. -/
theorem trade_own (hW : IsWishes n L Z) {i : Nat} (hi : i < n) : ¬ idxF (Z i) (i : Nat) n < idxF (Z i) (giveF Z n i) n := by
  obtain ⟨s, hs, hg, _⟩ := give_at hW hi
  have := best_in hW (tS_ppl Z n s) hi (circB_in hs)
  rw [hg]; omega
/-- Firmness looks at the places of people only. -/
theorem firm_congr {X Y : Nat → Int} (h : ∀ i, i < n → X i = Y i) (hf : FirmP n Z X) : FirmP n Z Y := fun S h1 h2 ⟨f, a1, a2, a3⟩ => by
  refine hf S h1 h2 ⟨f, fun i hi => by rw [h i (bit_lt h2 hi)]; exact a1 i hi, a2, ?_⟩
  rcases a3 with a3 | ⟨i, hi, hne⟩
  · cases a3
  · exact .inr ⟨i, hi, by rw [h i (bit_lt h2 hi)]; exact hne⟩
end
end Go.Proofs.YtabdbgnkiebcdaaGreatDoor

namespace Go.Proofs.YtabdbgnkiebcdaaGreatDoor
set_option linter.unusedVariables false
set_option linter.unusedSimpArgs false
open Go.RowKit

/-- What HouseFirms answers: the giving by trade, alone. -/
theorem firms_one {n : Nat} {L : Nat → Nat} {Z : Nat → Nat → Int} (hW : IsWishes n L Z) : ∃ D, firmsAll n L Z = [D] ∧ D.length = n ∧ ∀ i, i < n → nth D i = giveF Z n i := by
  obtain ⟨k1, k2, k3⟩ := isDiff_nth (trade_giving hW)
  refine ⟨_, ?_, k2, k3⟩
  rw [firmsAll_yes hW]
  unfold firmsL
  have hmem : ((List.range n).map (giveF Z n)) ∈ givs n n [] := (mem_givs n [] (Diff.nil n) (by simp) _).2 ⟨k1, k2, List.nil_prefix⟩
  refine filter_one (givs_nodup n [] (Diff.nil n) (by simp)) hmem fun D hD => ?_
  rw [tt_iff]
  constructor
  · intro hf
    have hl := ((mem_givs n [] (Diff.nil n) (by simp) D).1 hD).2.1
    have h1 := firm_trade (givsN_given hW hD) hf
    refine List.ext_getElem (by rw [hl, k2]) fun i hi hi2 => ?_
    have e1 : nth D i = D[i] := by unfold nth; rw [List.getD_eq_getElem?_getD, List.getElem?_eq_getElem hi]; rfl
    have e2 : nth ((List.range n).map (giveF Z n)) i = ((List.range n).map (giveF Z n))[i] := by unfold nth; rw [List.getD_eq_getElem?_getD, List.getElem?_eq_getElem hi2]; rfl
    rw [← e1, ← e2, h1 i (by omega), k3 i (by omega)]
  · rintro rfl
    exact firm_congr (fun i hi => (k3 i hi).symm) (trade_firm hW)
end Go.Proofs.YtabdbgnkiebcdaaGreatDoor

namespace Go.Proofs.YtabdbgnkiebcdaaGreatDoor
set_option linter.unusedVariables false
open Go.RowKit

/-- The text that is made is a proof, of a gain just where there is one. -/
theorem prT_proofs {n : Nat} {L : Nat → Nat} {Z : Nat → Nat → Int} (hr : IsRates n L Z) : (strU (prT n L Z)).size ≤ 20000 ∧ PrAny n L Z (strU (prT n L Z)) ∧ (PrG n L Z (strU (prT n L Z)) ↔ 0 < gainN n L Z) := by
  have hn5 := hr.1.2
  by_cases hg : 0 < gainN n L Z
  · have h1 := first_few hr hg
    have h2 := gain_few hn5 h1
    rw [prT_gain hr hg]
    have h3 : PrG n L Z (strU (wordsB gainsB (firstL n L Z))) := ⟨hr, _, h1, rfl⟩
    refine ⟨?_, ⟨hr, .inl h3.2⟩, fun _ => hg, fun _ => h3⟩
    rw [strU_size]
    have h4 := words_len gainsB _ h2.2.2
    have h5 := h2.2.1
    have h6 : gainsB.length = 5 := rfl
    omega
  · have hfo : FindOk n L Z := ⟨hr, by have h := hg; rw [gainN_yes hr] at h; omega⟩
    have FW : FewAll (numsL n (leastF (foundF Z n) n)) := numsL_few fun k hk => by
      have := (found_holds hfo).1.1.2.2 k hk
      exact ⟨by omega, by omega⟩
    have h1 : HoldQ n L Z (numsL n (leastF (foundF Z n) n)) := by
      have fh := found_holds hfo
      have eq : ∀ k, k < n → nth (numsL n (leastF (foundF Z n) n)) k = leastF (foundF Z n) n k := fun k hk => nth_nums hk
      unfold HoldQ
      rw [numsL_len]
      exact ⟨⟨⟨hr, fh.1.1.2.1, fun k hk => by rw [eq k hk]; exact fh.1.1.2.2 k hk⟩, rfl⟩, fun i hi k hk => by rw [eq i hi, eq k hk]; exact fh.2 i hi k hk⟩
    rw [prT_hold hr hg]
    refine ⟨?_, ⟨hr, .inr ⟨_, h1, rfl⟩⟩, ?_⟩
    · rw [strU_size]
      have h4 := words_len holdsB _ FW
      have h5 := numsL_len n (leastF (foundF Z n) n)
      have h6 : holdsB.length = 5 := rfl
      omega
    · refine ⟨fun h => ?_, fun h => absurd h hg⟩
      obtain ⟨_, D, _, h2⟩ := h
      exact absurd h2.symm (not_both (t := strU (wordsB gainsB D)) rfl)

theorem prT_size (n : Nat) (L : Nat → Nat) (Z : Nat → Nat → Int) : (strU (prT n L Z)).size ≤ 20000 := by
  by_cases h : IsRates n L Z
  · exact (prT_proofs h).1
  · rw [prT_no h]; simp [strU_size]

/-- A proof shows a gain just where there is one. -/
theorem pr_gain {n : Nat} {L : Nat → Nat} {Z : Nat → Nat → Int} {t : ByteArray} (h : PrAny n L Z t) : PrG n L Z t ↔ 0 < gainN n L Z := by
  have hr := h.1
  constructor
  · rintro ⟨_, D, h1, _⟩
    rw [gainN_yes hr]
    exact List.length_pos_of_mem (mem_gaining.2 h1)
  · intro hg
    rcases h.2 with h1 | ⟨D, h1, _⟩
    · exact ⟨hr, h1⟩
    · have h2 : HoldsOk n L Z n (nth D) := by
        have h3 : HoldsOk n L Z D.length (nth D) := h1
        have h4 : D.length = n := h3.1.2.symm
        rwa [h4] at h3
      rw [gainN_yes hr, holds_none h2] at hg
      exact absurd hg (Nat.lt_irrefl 0)
end Go.Proofs.YtabdbgnkiebcdaaGreatDoor

namespace Go.Proofs.YtabdbgnkiebcdaaGreatDoor
set_option linter.unusedVariables false
set_option linter.unusedSimpArgs false
open Go.RowKit

/-- A table and a text. -/
def DrewTabText (w : World) (e : Ending) (w' : World) : Prop :=
  ∃ ga N gc A L C Z t, e = .returned (.tuple #[.slice ga N gc, .string t]) ∧ (1 ≤ N ∧ N ≤ 5) ∧ (∀ s, s < N → L s ≤ 5) ∧ Tab w' ga N A L C Z ∧ t.size ≤ 1048576 ∧ Below w.heap.size w w'

set_option maxRecDepth 100000 in
set_option maxHeartbeats 3200000 in
theorem drawProofRateIs_any (n c : Nat) (a : Option Addr) (B : Nat → Nat) (w : World) (hn : n ≤ 1048576) (hc : n ≤ c) (hb : RdB w a n B) (hab : 0 < n → ∀ b o, a = some ⟨b, o, none⟩ → b < w.heap.size) :
    Calls Tryz.prog 12 #[.slice a n c] w (DrewTabText w) := by
  have HP := Lib.hid (l91One_any n c a B w hn hc hb hab)
  have HB := Lib.hid hb
  have HAL := Lib.hid hab
  clear hb hab
  go_enter Tryz.func12, Tryz.ntmps12
  go_wp2_with fail
  refine HP.out.mono ?_
  rintro e w1 ⟨ga, N, gc, A, L, C, Z, rfl, ⟨hN1, hN5⟩, hL, hT, hb1⟩
  have HL := Lib.hid hL
  have HT := Lib.hid hT
  have B1 := Lib.hid hb1
  clear hL hT hb1 HP
  go_wp2_with fail
  refine (specProofRate_any N gc ga A L C Z _ (by omega) (fun r hr => by have := HL.out r hr; omega) HT.out).mono ?_
  rintro e w2 ⟨rfl, hb2⟩
  have B2 := Lib.hid hb2
  obtain ⟨S, hS⟩ : ∃ S, S = strU (prT N L Z) := ⟨_, rfl⟩
  have SZ := Lib.hid (show S.size ≤ 20000 by rw [hS]; exact prT_size _ _ _)
  rw [← hS]
  clear hb2 hS
  obtain ⟨ok, hok⟩ : ∃ ok, ok = tt (IsRates N L Z) := ⟨_, rfl⟩
  rw [← hok]
  clear hok
  go_wp2_with fail
  refine (l6Open_any n c a _ hn hc).mono ?_
  rintro e w3 ⟨n', c', rfl, hn2, hnn, hR3, hs3, hb3⟩
  have c1 := hR3.cell1
  have f1 := hR3.frozen 1
  have R3 := Lib.hid hR3
  have B3 := Lib.hid hb3
  have hlt3 : w2.heap.size < w3.heap.size := by omega
  have hw2 := (below_chain B1.out B2.out).size
  have HAB := Lib.hid (show 0 < n' → ∀ b o, a = some ⟨b, o, none⟩ → b ≠ w2.heap.size from fun h0 b o e => by have := HAL.out (by omega) b o e; omega)
  clear hR3 hb3 hs3
  obtain ⟨w4, hw4⟩ : ∃ w4, w3.setCell ⟨w2.heap.size, 1, none⟩ (.int .i64 61) = w4 := ⟨_, rfl⟩
  have R4 := Lib.hid (show RdrAt w4 w2.heap.size a n' c' 61 by rw [← hw4]; exact R3.out.setP 61)
  have U4 := Lib.hid (show Below w2.heap.size w2 w4 by rw [← hw4]; exact B3.out.setCell (p := ⟨w2.heap.size, 1, none⟩) (Nat.le_refl _) _)
  have HB4 := Lib.hid (show RdB w4 a n' B from (HB.out.below (Nat.le_refl _) ((below_chain B1.out B2.out).trans (U4.out.mono hw2))).sub hnn)
  clear R3
  cases ok with
  | false =>
    go_wp2_with fail
    clear hw4 c1 f1
    refine (ofOne_any w2.heap.size n' c' 61 10 10 100 w4.heap.size a B _ (R4.out.of_block (Below.heap_alloc _ _ _ R4.out.lt)) (HB4.out.below (Nat.le_refl _) (below_alloc (Below.refl _ _) _)) HAB.out hn2 (by omega) (by omega) (by omega) (Nat.ne_of_gt R4.out.lt) (strs_cells (heap_alloc_last w4 _) ?hS1)).mono ?_
    case hS1 =>
      intro j hj
      rcases (show j = 0 ∨ j = 1 ∨ j = 2 ∨ j = 3 ∨ j = 4 ∨ j = 5 ∨ j = 6 ∨ j = 7 ∨ j = 8 ∨ j = 9 by omega) with rfl | rfl | rfl | rfl | rfl | rfl | rfl | rfl | rfl | rfl
      all_goals exact ⟨_, rfl, by decide⟩
    rintro e w9 ⟨t, rfl, ht, _, hK9⟩
    have B9 := Lib.hid (below_chain B2.out ((U4.out.trans (below_alloc (Below.refl _ _) _ |>.mono U4.out.size)).trans (hK9.below)))
    clear hK9
    go_wp2
    go_ret2
    exact ⟨ga, N, gc, A, L, C, Z, t, rfl, ⟨hN1, hN5⟩, HL.out, HT.out.below (Nat.le_refl _) B9.out, by omega, below_chain B1.out B9.out⟩
  | true =>
    go_wp2_with fail
    clear hw4 c1 f1
    refine (pick_any w2.heap.size n' c' 61 6 a B _ R4.out HB4.out HAB.out hn2 (by omega) (by omega) (by omega)).mono ?_
    rintro e w5 ⟨x, rfl, hx, hR5, hK5⟩
    have R5 := Lib.hid hR5
    have U5 := Lib.hid (show Below w2.heap.size w2 w5 from U4.out.trans hK5.below)
    have HB5 := Lib.hid (HB.out.below (Nat.le_refl _) ((below_chain B1.out B2.out).trans (U5.out.mono hw2)) |>.sub hnn)
    clear hR5 hK5 hx
    rcases Nat.eq_zero_or_pos x with rfl | hpos
    · go_wp2_with fail
      refine (ofOne_any w2.heap.size n' c' (61 + 1) 10 10 100 w5.heap.size a B _ (R5.out.of_block (Below.heap_alloc _ _ _ R5.out.lt)) (HB5.out.below (Nat.le_refl _) (below_alloc (Below.refl _ _) _)) HAB.out hn2 (by omega) (by omega) (by omega) (Nat.ne_of_gt R5.out.lt) (strs_cells (heap_alloc_last w5 _) ?hS2)).mono ?_
      case hS2 =>
        intro j hj
        rcases (show j = 0 ∨ j = 1 ∨ j = 2 ∨ j = 3 ∨ j = 4 ∨ j = 5 ∨ j = 6 ∨ j = 7 ∨ j = 8 ∨ j = 9 by omega) with rfl | rfl | rfl | rfl | rfl | rfl | rfl | rfl | rfl | rfl
        all_goals exact ⟨_, rfl, by decide⟩
      rintro e w9 ⟨t, rfl, ht, _, hK9⟩
      have B9 := Lib.hid (below_chain B2.out ((U5.out.trans (below_alloc (Below.refl _ _) _ |>.mono U5.out.size)).trans (hK9.below)))
      clear hK9
      go_wp2
      go_ret2
      exact ⟨ga, N, gc, A, L, C, Z, t, rfl, ⟨hN1, hN5⟩, HL.out, HT.out.below (Nat.le_refl _) B9.out, by omega, below_chain B1.out B9.out⟩
    · have e1 : ((x : Int) == 0) = false := by simp; omega
      have e2 : (x == 0) = false := by simp; omega
      clear hpos
      go_wp2_with fail
      refine (pick_any w2.heap.size n' c' (61 + 1) 6 a B _ R5.out HB5.out HAB.out hn2 (by omega) (by omega) (by omega)).mono ?_
      rintro e w6 ⟨y, rfl, hx, hR5, hK5⟩
      have R6 := Lib.hid hR5
      have U6 := Lib.hid (show Below w2.heap.size w2 w6 from U5.out.trans hK5.below)
      have HB6 := Lib.hid (HB.out.below (Nat.le_refl _) ((below_chain B1.out B2.out).trans (U6.out.mono hw2)) |>.sub hnn)
      clear hR5 hK5 hx
      rcases Nat.eq_zero_or_pos y with rfl | hpos
      · go_wp2_with fail
        refine (ofOne_any w2.heap.size n' c' (61 + 1 + 1) 4 4 100 w6.heap.size a B _ (R6.out.of_block (Below.heap_alloc _ _ _ R6.out.lt)) (HB6.out.below (Nat.le_refl _) (below_alloc (Below.refl _ _) _)) HAB.out hn2 (by omega) (by omega) (by omega) (Nat.ne_of_gt R6.out.lt) (strs_cells (heap_alloc_last w6 _) ?hS3)).mono ?_
        case hS3 =>
          intro j hj
          rcases (show j = 0 ∨ j = 1 ∨ j = 2 ∨ j = 3 by omega) with rfl | rfl | rfl | rfl
          all_goals exact ⟨_, rfl, by decide⟩
        rintro e w9 ⟨t, rfl, ht, _, hK9⟩
        have B9 := Lib.hid (below_chain B2.out ((U6.out.trans (below_alloc (Below.refl _ _) _ |>.mono U6.out.size)).trans (hK9.below)))
        clear hK9
        have hst : S.size + t.size ≤ 20100 := by have := SZ.out; omega
        have hst2 : (S ++ t).size = S.size + t.size := ByteArray.size_append ..
        go_wp2
        go_ret2
        exact ⟨ga, N, gc, A, L, C, Z, S ++ t, rfl, ⟨hN1, hN5⟩, HL.out, HT.out.below (Nat.le_refl _) B9.out, by omega, below_chain B1.out B9.out⟩
      · have e3 : ((y : Int) == 0) = false := by simp; omega
        have e4 : (y == 0) = false := by simp; omega
        have B9 := Lib.hid (below_chain B2.out U6.out)
        go_wp2
        go_ret2
        exact ⟨ga, N, gc, A, L, C, Z, S, rfl, ⟨hN1, hN5⟩, HL.out, HT.out.below (Nat.le_refl _) B9.out, by have := SZ.out; omega, below_chain B1.out B9.out⟩
end Go.Proofs.YtabdbgnkiebcdaaGreatDoor
