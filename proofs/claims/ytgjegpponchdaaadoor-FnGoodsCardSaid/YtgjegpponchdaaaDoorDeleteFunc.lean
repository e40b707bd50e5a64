/- The library's slices.DeleteFunc and IndexFunc at people who are gone. -/
import Derived.Test.YtgjegpponchdaaaDoorOnCircles
import Derived.Lib.SliceRun
namespace Go.Proofs.YtgjegpponchdaaaDoor
set_option linter.unusedVariables false
set_option linter.unusedSimpArgs false
open Go.RowKit

/-- A slice of pointers to the people of a list, that may be written. -/
def PtrW (w : World) (b : Nat) (tb : Nat → Nat) (l : List Nat) : Prop := ∀ k, k < l.length → w.cell? ⟨b, k, none⟩ = some (.pointer (some ⟨tb (l.getD k 0), 0, none⟩)) ∧ w.frozen? ⟨b, k, none⟩ = false
theorem PtrW.at {w : World} {b : Nat} {tb : Nat → Nat} {l : List Nat} (h : PtrW w b tb l) : PtrAt w b tb l := fun k hk => (h k hk).1
theorem PtrW.of_block {w w' : World} {b : Nat} {tb : Nat → Nat} {l : List Nat} (h : PtrW w b tb l) (e : w'.heap[b]? = w.heap[b]?) : PtrW w' b tb l :=
  fun k hk => ⟨(World.cell?_of_block (w := w) (a := ⟨b, k, none⟩) e).trans (h k hk).1, (World.frozen?_of_block (w := w) (a := ⟨b, k, none⟩) e).trans (h k hk).2⟩
theorem keeps_setCells (b : Nat) : ∀ (vs : List Value) (o : Nat) (w : World), Keeps b (b + 1) w (w.setCells b o vs)
  | [], _, w => Keeps.refl _ _ _
  | v :: r, o, w => ((Keeps.refl b (b + 1) w).setCell (p := ⟨b, o, none⟩) (Nat.le_refl _) (Nat.lt_succ_self _) v).trans (keeps_setCells b r (o + 1) _)
theorem Trd.keeps {w w' : World} {n b : Nat} {Z : Nat → Nat → Int} {tb wb cp : Nat → Nat} {pt : Nat → Option Addr} {gn : Nat → Bool} (h : Trd w n Z tb wb cp pt gn) (hk : Keeps b (b + 1) w w') (h1 : ∀ r, r < n → tb r ≠ b) (h2 : ∀ r, r < n → wb r ≠ b) : Trd w' n Z tb wb cp pt gn :=
  h.of_blocks (fun r hr => hk.block _ (by have := h1 r hr; omega)) (fun r hr => hk.block _ (by have := h2 r hr; omega))

/-- Whether a person is gone, as the program asks. -/
theorem gone_any (n r : Nat) (Z : Nat → Nat → Int) (tb wb cp : Nat → Nat) (pt : Nat → Option Addr) (gn : Nat → Bool) (w : World) (h : Trd w n Z tb wb cp pt gn) (hr : r < n) :
    Calls Tryd.prog 70 #[.pointer (some ⟨tb r, 0, none⟩)] w fun e w' => e = .returned (.bool (gn r)) ∧ w = w' := by
  have c3 := h.c3 hr
  clear h
  go_enter Tryd.func70, Tryd.ntmps70
  go_wp2
  go_ret
  exact ⟨rfl, rfl⟩

/-- The first place at which one of the list is gone. -/
def FirstGone (l : List Nat) (gn : Nat → Bool) (x : Int) : Prop := (x = -1 ∧ ∀ j, j < l.length → gn (l.getD j 0) = false) ∨ ∃ k : Nat, x = k ∧ k < l.length ∧ gn (l.getD k 0) = true ∧ ∀ j, j < k → gn (l.getD j 0) = false

set_option maxHeartbeats 800000 in
theorem indexFunc_any (n c lb : Nat) (l : List Nat) (Z : Nat → Nat → Int) (tb wb cp : Nat → Nat) (pt : Nat → Option Addr) (gn : Nat → Bool) (w : World) (h0 : Trd w n Z tb wb cp pt gn) (hl0 : ∀ r, r ∈ l → r < n) (hlen : l.length ≤ 5) (hp0 : PtrAt w lb tb l) :
    Calls Tryd.prog 84 #[.slice (some ⟨lb, 0, none⟩) l.length c, .func (.func 70) #[] #[]] w fun e w' => (∃ x, e = .returned (.int .i64 x) ∧ FirstGone l gn x) ∧ w = w' := by
  have HT := Lib.hid h0
  have HL := Lib.hid hl0
  have HP := Lib.hid hp0
  obtain ⟨m, hm⟩ : ∃ m, m = l.length := ⟨_, rfl⟩
  rw [← hm] at hlen ⊢
  have QM := Lib.hid hm
  clear h0 hl0 hp0 hm
  go_enter Tryd.func84, Tryd.ntmps84
  go_wp2
  go_loop [4, 5, 8] (fun _ _ s => ∃ k : Nat, k ≤ m ∧ s = .int .i64 k ∧ ∀ j, j < k → gn (l.getD j 0) = false) (fun _ _ s => m - (intOf s).toNat)
  case atStart => exact ⟨0, Nat.zero_le _, rfl, fun j hj => absurd hj (Nat.not_lt_zero _)⟩
  case round =>
    obtain ⟨k, hk, rfl, hno⟩ := hrel
    have HN := Lib.hid hno
    clear hno
    by_cases hlt : k < m
    · have hkl : k < l.length := by rw [← QM.out]; exact hlt
      have hck := HP.out k hkl
      obtain ⟨r, hr⟩ : ∃ r, r = l.getD k 0 := ⟨_, rfl⟩
      have hrn := HL.out r (by rw [hr]; exact getD_mem hkl)
      rw [← hr] at hck
      have QR := Lib.hid hr
      have HK := Lib.hid hkl
      clear hr hkl
      have HG := Lib.hid (gone_any n r Z tb wb cp pt gn w HT.out hrn)
      by_cases hg : gn r = true
      · have T1 := Lib.hid hg
        clear hg
        go_wp2_with (go_at_call 70; refine HG.out.mono ?_; rintro e w' ⟨rfl, rfl⟩; rw [T1.out])
        go_ret
        exact ⟨⟨_, rfl, .inr ⟨k, rfl, HK.out, by rw [← QR.out]; exact T1.out, HN.out⟩⟩, rfl⟩
      · have T1 := Lib.hid (show gn r = false by simpa using hg)
        clear hg
        go_wp2_with (go_at_call 70; refine HG.out.mono ?_; rintro e w' ⟨rfl, rfl⟩; rw [T1.out])
        go_round
        case rel => exact ⟨k + 1, by omega, by go_num, fun j hj => by
          by_cases e : j = k
          · subst e; rw [← QR.out]; exact T1.out
          · exact HN.out j (by omega)⟩
        case measure => simp [intOf]; omega
    · obtain rfl : k = m := by omega
      go_wp2
      go_ret
      exact ⟨⟨_, rfl, .inl ⟨rfl, fun j hj => HN.out j (by rw [QM.out]; exact hj)⟩⟩, rfl⟩

/-- What is left of a list, the first k seen. -/
theorem filt_front {l : List Nat} {P : Nat → Bool} (k : Nat) : ((l.take k).filter P).length ≤ k := Nat.le_trans (List.length_filter_le _ _) (by rw [List.length_take]; omega)
theorem filt_keep {l : List Nat} {P : Nat → Bool} {k : Nat} (h : ∀ j, j < k → P (l.getD j 0) = true) (hk : k ≤ l.length) : (l.take k).filter P = l.take k := by
  induction k with
  | zero => simp
  | succ k ih => rw [filt_yes (by omega) (h k (by omega)), ih (fun j hj => h j (by omega)) (by omega), take_getD (by omega)]
theorem getD_take {l : List Nat} {k j : Nat} (h : j < k) : (l.take k).getD j 0 = l.getD j 0 := by
  rw [List.getD_eq_getElem?_getD, List.getD_eq_getElem?_getD, List.getElem?_take, if_pos h]
theorem getD_front {D : List Nat} {x k : Nat} (h : k < D.length) : (D ++ [x]).getD k 0 = D.getD k 0 := by
  rw [List.getD_eq_getElem?_getD, List.getD_eq_getElem?_getD, List.getElem?_append_left h]
theorem getD_last {D : List Nat} {x : Nat} : (D ++ [x]).getD D.length 0 = x := by
  rw [List.getD_eq_getElem?_getD, List.getElem?_append_right (Nat.le_refl _)]; simp

/-- What DeleteFunc hands back: the slice cut to those who stay; it has turned that row alone. -/
def RetLeft (lb c : Nat) (tb : Nat → Nat) (l : List Nat) (w : World) (e : Ending) (w' : World) : Prop :=
  e = .returned (.slice (some ⟨lb, 0, none⟩) l.length c) ∧ PtrW w' lb tb l ∧ Keeps lb (lb + 1) w w'

set_option maxHeartbeats 1600000 in
theorem deleteFunc_any (n c lb : Nat) (l : List Nat) (Z : Nat → Nat → Int) (tb wb cp : Nat → Nat) (pt : Nat → Option Addr) (gn : Nat → Bool) (w : World) (h0 : Trd w n Z tb wb cp pt gn) (h1 : ∀ r, r < n → tb r ≠ lb) (h2 : ∀ r, r < n → wb r ≠ lb) (hl0 : ∀ r, r ∈ l → r < n) (hlen : l.length ≤ 5) (hc : l.length ≤ c) (hc2 : c ≤ 5) (hp0 : PtrW w lb tb l) :
    Calls Tryd.prog 69 #[.slice (some ⟨lb, 0, none⟩) l.length c, .func (.func 70) #[] #[]] w (RetLeft lb c tb (l.filter fun r => !gn r) w) := by
  have HT := Lib.hid h0
  have HL := Lib.hid hl0
  have HP := Lib.hid hp0
  have H12 := Lib.hid (And.intro h1 h2)
  have HI := Lib.hid (indexFunc_any n c lb l Z tb wb cp pt gn w h0 hl0 hlen hp0.at)
  obtain ⟨m, hm⟩ : ∃ m, m = l.length := ⟨_, rfl⟩
  rw [← hm] at hlen hc HI ⊢
  have QM := Lib.hid hm
  clear h0 hl0 hp0 hm h1 h2
  go_enter Tryd.func69, Tryd.ntmps69
  go_wp2_with fail
  refine HI.out.mono ?_
  rintro e w' ⟨⟨x, rfl, hx⟩, rfl⟩
  rcases hx with ⟨rfl, hall⟩ | ⟨k0, rfl, hk0, hg0, hno⟩
  · have HF := Lib.hid (show (l.filter fun r => !gn r) = l by
      have := filt_keep (P := fun r => !gn r) (l := l) (k := l.length) (fun j hj => by rw [hall j hj]; rfl) (Nat.le_refl _)
      rwa [List.take_length] at this)
    clear hall
    go_wp2
    go_ret
    refine ⟨?_, ?_, Keeps.refl _ _ _⟩
    · rw [HF.out, ← QM.out]; rfl
    · rw [HF.out]; exact HP.out
  · have hk0m : k0 < m := by rw [QM.out]; exact hk0
    have hd : ((k0 : Int) == -1) = false := beq_eq_false_iff_ne.2 (by omega)
    have HD0 := Lib.hid (show l.take k0 = (l.take (k0 + 1)).filter fun r => !gn r by
      rw [filt_no (P := fun r => !gn r) hk0 (by rw [hg0]; rfl), filt_keep (P := fun r => !gn r) (fun j hj => by rw [hno j hj]; rfl) (Nat.le_of_lt hk0)])
    have HK0 := Lib.hid hk0
    clear hno hg0 hk0
    go_wp2
    go_loopw [5, 6, 7] (fun s5 s6 _ wr => ∃ i j : Nat, j ≤ m ∧ i < j ∧ s5 = .int .i64 i ∧ s6 = .int .i64 j ∧ i = ((l.take j).filter fun r => !gn r).length ∧
        (∀ k, k < i → wr.cell? ⟨lb, k, none⟩ = some (.pointer (some ⟨tb (((l.take j).filter fun r => !gn r).getD k 0), 0, none⟩))) ∧
        (∀ k, j ≤ k → k < m → wr.cell? ⟨lb, k, none⟩ = some (.pointer (some ⟨tb (l.getD k 0), 0, none⟩))) ∧ (∀ k, k < m → (wr.cell? ⟨lb, k, none⟩).isSome = true) ∧ (∀ k, k < m → wr.frozen? ⟨lb, k, none⟩ = false) ∧ Keeps lb (lb + 1) w wr) (fun _ s6 _ _ => m - (intOf s6).toNat)
    case atStart =>
      refine ⟨k0, k0 + 1, by omega, by omega, rfl, by go_num, ?_, fun k hk => ?_, fun k h1 h2 => (HP.out k (by rw [← QM.out]; exact h2)).1, fun k hk => by rw [(HP.out k (by rw [← QM.out]; exact hk)).1]; rfl, fun k hk => (HP.out k (by rw [← QM.out]; exact hk)).2, Keeps.refl _ _ _⟩
      · rw [← HD0.out, List.length_take]; have := HK0.out; omega
      · rw [← HD0.out, getD_take hk]; exact (HP.out k (by rw [← QM.out]; omega)).1
    case round =>
      obtain ⟨i, j, hj, hij, rfl, rfl, hi, hA, hB, hS, hF, hK⟩ := hrel
      have HI2 := Lib.hid hi
      have HA := Lib.hid hA
      have HB := Lib.hid hB
      have HS := Lib.hid hS
      have HF := Lib.hid hF
      have HK := Lib.hid hK
      clear hi hA hB hS hF hK
      by_cases hjl : j < m
      · have hjl' : j < l.length := by rw [← QM.out]; exact hjl
        have hcj := HB.out j (Nat.le_refl _) hjl
        obtain ⟨r, hr⟩ : ∃ r, r = l.getD j 0 := ⟨_, rfl⟩
        have hrn := HL.out r (by rw [hr]; exact getD_mem hjl')
        rw [← hr] at hcj
        have QR := Lib.hid hr
        have HJ := Lib.hid hjl'
        clear hr hjl'
        have HG := Lib.hid (gone_any n r Z tb wb cp pt gn wr (HT.out.keeps HK.out H12.out.1 H12.out.2) hrn)
        by_cases hg : gn r = true
        · have T1 := Lib.hid hg
          have HN := Lib.hid (filt_no (l := l) (P := fun r => !gn r) HJ.out (by rw [← QR.out, hg]; rfl))
          clear hg
          go_wp2_with (go_at_call 70; refine HG.out.mono ?_; rintro e w' ⟨rfl, rfl⟩; rw [T1.out])
          go_roundw
          case rel => exact ⟨i, j + 1, by omega, by omega, rfl, by go_num, by rw [HN.out]; exact HI2.out, by rw [HN.out]; exact HA.out, fun k h1 h2 => HB.out k (by omega) h2, HS.out, HF.out, HK.out⟩
          case measure => simp [intOf]; omega
        · have hg' : gn r = false := by simpa using hg
          have T1 := Lib.hid hg'
          have HN := Lib.hid (filt_yes (l := l) (P := fun r => !gn r) HJ.out (by rw [← QR.out, hg']; rfl))
          have hfi := HF.out i (by omega)
          obtain ⟨vi, hvi⟩ := Option.isSome_iff_exists.1 (HS.out i (by omega))
          clear hg hg'
          go_wp2_with (go_at_call 70; refine HG.out.mono ?_; rintro e w' ⟨rfl, rfl⟩; rw [T1.out])
          go_roundw
          case rel =>
            refine ⟨i + 1, j + 1, by omega, by omega, by go_num, by go_num, by rw [HN.out, List.length_append, ← HI2.out]; rfl, fun k hk => ?_, fun k h1 h2 => ?_, fun k hk => ?_, fun k hk => by rw [World.frozen?_setCell]; exact HF.out k hk, HK.out.setCell (Nat.le_refl _) (Nat.lt_succ_self _) _⟩
            · rw [HN.out]
              by_cases e : k = i
              · subst e
                rw [World.cell?_setCell_same' _ _ _ (by rw [hvi]; rfl)]
                have e2 := getD_last (D := (l.take j).filter fun r => !gn r) (x := l.getD j 0)
                rw [← HI2.out] at e2
                rw [e2, ← QR.out]
              · rw [World.cell?_setCell_other (a := ⟨lb, i, none⟩) (b := ⟨lb, k, none⟩) (h := fun h => e (by simp only [Addr.mk.injEq] at h; omega)), getD_front (by rw [← HI2.out]; omega)]
                exact HA.out k (by omega)
            · rw [World.cell?_setCell_other (a := ⟨lb, i, none⟩) (b := ⟨lb, k, none⟩) (h := fun h => by simp only [Addr.mk.injEq] at h; omega)]
              exact HB.out k (by omega) h2
            · by_cases e : k = i
              · subst e
                rw [World.cell?_setCell_same' _ _ _ (by rw [hvi]; rfl)]; rfl
              · rw [World.cell?_setCell_other (a := ⟨lb, i, none⟩) (b := ⟨lb, k, none⟩) (h := fun h => e (by simp only [Addr.mk.injEq] at h; omega))]
                exact HS.out k hk
          case measure => simp [intOf]; omega
      · obtain rfl : j = m := by omega
        have HD := Lib.hid (show (l.take j).filter (fun r => !gn r) = l.filter fun r => !gn r by rw [QM.out, List.take_length])
        have hcl := fun ty => Lib.run_clear_slice (P := Tryd.prog) wr 78 80 ty (.pointer none) Tryd.underlying78 (fun _ => by kernel_rfl) rfl rfl lb i (j - i) (c - i) (by omega) (fun k hk => HS.out (i + k) (by omega)) (fun k hk => HF.out (i + k) (by omega))
        have hne : ¬ (c = i) := by omega
        have z1 : (0 : Int) ≤ (i : Int) := by omega
        have z2 : (i : Int) ≤ (j : Int) := by omega
        have z3 : (j : Int) ≤ (c : Int) := by omega
        go_wp2
        clear hcl
        go_ret
        refine ⟨by rw [← HD.out, ← HI2.out]; rfl, fun k hk => ?_, HK.out.trans (keeps_setCells lb _ i wr)⟩
        rw [← HD.out, ← HI2.out] at hk
        refine ⟨?_, ?_⟩
        · rw [World.cell?_setCells_out lb _ i wr ⟨lb, k, none⟩ (fun _ _ => .inl hk), ← HD.out]
          exact HA.out k hk
        · rw [World.frozen?_setCells]; exact HF.out k (by omega)
/-- What traders hands back. -/
def RetTraders (n : Nat) (Z : Nat → Nat → Int) (w : World) (e : Ending) (w' : World) : Prop :=
  e = .returned (.slice (some ⟨w.heap.size, 0, none⟩) n n) ∧ ∃ wb cp, Trd w' n Z (fun r => w.heap.size + 1 + r) wb cp (fun _ => none) (fun _ => false) ∧ PtrW w' w.heap.size (fun r => w.heap.size + 1 + r) (List.range n) ∧ (∀ r, r < n → w.heap.size + 1 + n ≤ wb r) ∧ Below w.heap.size w w'
end Go.Proofs.YtgjegpponchdaaaDoor
