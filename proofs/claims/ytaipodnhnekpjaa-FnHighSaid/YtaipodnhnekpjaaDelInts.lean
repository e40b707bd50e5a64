/- The library's slices.IndexFunc and slices.DeleteFunc at []int, their predicate any function value that only reads. -/
import Derived.Test.YtaipodnhnekpjaaDelKit
import Derived.Test.YtaipodnhnekpjaaProg
import Derived.Lib.SliceRun
import Derived.Shelf.GgClosure.Gives
import Derived.Shelf.RegionOpenPlain
namespace Go.Proofs.Ytaipodnhnekpjaa
set_option linter.unusedVariables false
set_option linter.unusedSimpArgs false
open Go.RowKit

set_option maxHeartbeats 1600000 in
theorem intsIndex_any (g : Nat) (lb : Array Value) (eg : ∀ args w, (callFunc g args).run Try.prog w = .ok (.enter g args) w) (enc : Nat → Value) (p : Nat → Bool) (l : List Nat) (b c m : Nat) (w : World) (hm0 : m = l.length) (hlen : m ≤ 1048576) (hp0 : CellsW w b enc l)
    (hg0 : ∀ W r, r ∈ l → Keeps b (b + 1) w W → FnGives Try.prog g lb #[enc r] (.bool (p r)) W) :
    Calls Try.prog 110 #[.slice (some ⟨b, 0, none⟩) m c, .func (.func g) #[] lb] w fun e w' => (∃ x, e = .returned (.int .i64 x) ∧ FirstHit l p x) ∧ ∃ q, w' = w.drewN q := by
  have HP := Lib.hid hp0
  have HG := Lib.hid hg0
  have QM := Lib.hid hm0
  clear hp0 hg0 hm0
  go_enter Try.func110, Try.ntmps110
  go_wp2
  go_loopw [4, 5, 8] (fun _ _ s wr => ∃ k q : Nat, k ≤ m ∧ s = .int .i64 k ∧ (∀ j, j < k → p (l.getD j 0) = false) ∧ wr = w.drewN q) (fun _ _ s _ => m - (intOf s).toNat)
  case atStart => exact ⟨0, 0, Nat.zero_le _, rfl, fun j hj => absurd hj (Nat.not_lt_zero _), rfl⟩
  case round =>
    obtain ⟨k, q, hk, rfl, hno, hwr⟩ := hrel
    have HN := Lib.hid hno
    have HW := Lib.hid hwr
    by_cases hlt : k < m
    · have hkl : k < l.length := by rw [← QM.out]; exact hlt
      have hck := (HP.out k hkl).1
      obtain ⟨r, hr⟩ : ∃ r, r = l.getD k 0 := ⟨_, rfl⟩
      have hcall := HG.out wr r (by rw [hr]; exact getD_in hkl) (by rw [hwr]; exact keeps_drewN _ _ _)
      rw [← hr] at hck
      obtain ⟨v, hv⟩ : ∃ v, v = enc r := ⟨_, rfl⟩
      have hck' : wr.cell? ⟨b, k, none⟩ = some v := by rw [hwr, hv]; simpa using hck
      rw [← hv] at hcall
      unfold FnGives at hcall
      have QR := Lib.hid hr
      clear hr hkl hno hwr hck
      cases hpr : p r with
      | true =>
        rw [hpr] at hcall
        have T1 := Lib.hid hpr
        clear hpr hv
        go_wp2_with (go_at_fn g; refine hcall.mono ?_; rintro e w' ⟨rfl, q2, rfl⟩)
        go_ret
        have HK : k < l.length := by rw [← QM.out]; exact hlt
        exact ⟨⟨_, rfl, .inr ⟨k, rfl, HK, by rw [← QR.out]; exact T1.out, HN.out⟩⟩, q + q2, by rw [HW.out]; exact drewN_two _ _ _⟩
      | false =>
        rw [hpr] at hcall
        have T1 := Lib.hid hpr
        clear hpr hv
        go_wp2_with (go_at_fn g; refine hcall.mono ?_; rintro e w' ⟨rfl, q2, rfl⟩)
        go_roundw
        case rel => exact ⟨k + 1, q + q2, by omega, by go_num, fun j hj => by
          by_cases e : j = k
          · subst e; rw [← QR.out]; exact T1.out
          · exact HN.out j (by omega), by rw [HW.out]; exact drewN_two _ _ _⟩
        case measure => simp [intOf]; omega
    · obtain rfl : k = m := by omega
      clear hno hwr
      go_wp2
      go_ret
      exact ⟨⟨_, rfl, .inl ⟨rfl, fun j hj => HN.out j (by rw [QM.out]; exact hj)⟩⟩, q, HW.out⟩

set_option maxHeartbeats 1600000 in
theorem intsDelete_any (g : Nat) (lb : Array Value) (eg : ∀ args w, (callFunc g args).run Try.prog w = .ok (.enter g args) w) (enc : Nat → Value) (h1 : ∀ r, (enc r).oneCell' = true) (p : Nat → Bool) (l : List Nat) (b c m : Nat) (w : World) (hm0 : m = l.length) (hlen : m ≤ 1048576) (hc : m ≤ c) (hc2 : c ≤ 9223372036854775807) (hp0 : CellsW w b enc l)
    (hg0 : ∀ W r, r ∈ l → Keeps b (b + 1) w W → FnGives Try.prog g lb #[enc r] (.bool (p r)) W) :
    Calls Try.prog 84 #[.slice (some ⟨b, 0, none⟩) m c, .func (.func g) #[] lb] w fun e w' => e = .returned (.slice (some ⟨b, 0, none⟩) (l.filter fun r => !p r).length c) ∧ CellsW w' b enc (l.filter fun r => !p r) ∧ Keeps b (b + 1) w w' := by
  have HP := Lib.hid hp0
  have HG := Lib.hid hg0
  have HI := Lib.hid (intsIndex_any g lb eg enc p l b c m w hm0 hlen hp0 hg0)
  have QM := Lib.hid hm0
  have H1 := Lib.hid h1
  clear hp0 hg0 hm0 h1
  go_enter Try.func84, Try.ntmps84
  go_wp2_with fail
  refine HI.out.mono ?_
  rintro e w' ⟨⟨x, rfl, hx⟩, q0, hw0⟩
  have W0 := Lib.hid hw0
  have hK0 : Keeps b (b + 1) w w' := by rw [hw0]; exact keeps_drewN _ _ _
  have K0 := Lib.hid hK0
  have P0 := Lib.hid (show CellsW w' b enc l by rw [hw0]; exact HP.out.drewN q0)
  clear hw0 hK0
  rcases hx with ⟨rfl, hall⟩ | ⟨k0, rfl, hk0, hg0, hno⟩
  · have HF := Lib.hid (show (l.filter fun r => !p r) = l by
      have := fil_keep (P := fun r => !p r) (l := l) (k := l.length) (fun j hj => by rw [hall j hj]; rfl) (Nat.le_refl _)
      rwa [List.take_length] at this)
    clear hall
    go_wp2
    go_ret
    refine ⟨?_, ?_, K0.out⟩
    · rw [HF.out, ← QM.out]; rfl
    · rw [HF.out]; exact P0.out
  · have hk0m : k0 < m := by rw [QM.out]; exact hk0
    have hd : ((k0 : Int) == -1) = false := beq_eq_false_iff_ne.2 (by omega)
    have HD0 := Lib.hid (show l.take k0 = (l.take (k0 + 1)).filter fun r => !p r by
      rw [fil_no (P := fun r => !p r) hk0 (by rw [hg0]; rfl), fil_keep (P := fun r => !p r) (fun j hj => by rw [hno j hj]; rfl) (Nat.le_of_lt hk0)])
    have HK0 := Lib.hid hk0
    clear hno hg0 hk0
    go_wp2
    go_loopw [5, 6, 7] (fun s5 s6 _ wr => ∃ i j : Nat, j ≤ m ∧ i < j ∧ s5 = .int .i64 i ∧ s6 = .int .i64 j ∧ i = ((l.take j).filter fun r => !p r).length ∧
        (∀ k, k < i → wr.cell? ⟨b, k, none⟩ = some (enc (((l.take j).filter fun r => !p r).getD k 0))) ∧
        (∀ k, j ≤ k → k < m → wr.cell? ⟨b, k, none⟩ = some (enc (l.getD k 0))) ∧ (∀ k, k < m → ∃ u, wr.cell? ⟨b, k, none⟩ = some u ∧ u.oneCell' = true) ∧ (∀ k, k < m → wr.frozen? ⟨b, k, none⟩ = false) ∧ Keeps b (b + 1) w wr) (fun _ s6 _ _ => m - (intOf s6).toNat)
    case atStart =>
      refine ⟨k0, k0 + 1, by omega, by omega, rfl, by go_num, ?_, fun k hk => ?_, fun k h1 h2 => (P0.out k (by rw [← QM.out]; exact h2)).1, fun k hk => ⟨_, (P0.out k (by rw [← QM.out]; exact hk)).1, H1.out _⟩, fun k hk => (P0.out k (by rw [← QM.out]; exact hk)).2, K0.out⟩
      · rw [← HD0.out, List.length_take]; have := HK0.out; omega
      · rw [← HD0.out, getD_takeD hk]; exact (P0.out k (by rw [← QM.out]; omega)).1
    case round =>
      obtain ⟨i, j, hj, hij, rfl, rfl, hi, hA, hB, hS, hF, hK⟩ := hrel
      have HI2 := Lib.hid hi
      have HA := Lib.hid hA
      have HB := Lib.hid hB
      have HS := Lib.hid hS
      have HF := Lib.hid hF
      have HK := Lib.hid hK
      clear hi hA hB hS hF hK P0 W0
      by_cases hjl : j < m
      · have hjl' : j < l.length := by rw [← QM.out]; exact hjl
        have hcj := HB.out j (Nat.le_refl _) hjl
        obtain ⟨r, hr⟩ : ∃ r, r = l.getD j 0 := ⟨_, rfl⟩
        have hcall := HG.out wr r (by rw [hr]; exact getD_in hjl') HK.out
        rw [← hr] at hcj
        obtain ⟨v, hv⟩ : ∃ v, v = enc r := ⟨_, rfl⟩
        have hv1 : v.oneCell' = true := by rw [hv]; exact H1.out r
        rw [← hv] at hcall hcj
        unfold FnGives at hcall
        have QR := Lib.hid hr
        have QV := Lib.hid hv
        have HJ := Lib.hid hjl'
        clear hr hjl' hv
        cases hpr : p r with
        | true =>
          rw [hpr] at hcall
          have HN := Lib.hid (fil_no (l := l) (P := fun r => !p r) HJ.out (by rw [← QR.out, hpr]; rfl))
          clear hpr
          go_wp2_with (go_at_fn g; refine hcall.mono ?_; rintro e w' ⟨rfl, q2, rfl⟩)
          go_roundw
          case rel => exact ⟨i, j + 1, by omega, by omega, rfl, by go_num, by rw [HN.out]; exact HI2.out, by rw [HN.out]; exact fun k hk => by simpa using HA.out k hk, fun k h1 h2 => by simpa using HB.out k (by omega) h2, fun k hk => by simpa using HS.out k hk, fun k hk => by simpa using HF.out k hk, HK.out.trans (keeps_drewN _ _ _)⟩
          case measure => simp [intOf]; omega
        | false =>
          rw [hpr] at hcall
          have HN := Lib.hid (fil_yes (l := l) (P := fun r => !p r) HJ.out (by rw [← QR.out, hpr]; rfl))
          have hfi := HF.out i (by omega)
          obtain ⟨vi, hvi, hv1i⟩ := HS.out i (by omega)
          clear hpr
          have HST := Lib.hid (And.intro hvi hfi)
          have HV1 := Lib.hid hv1
          clear hv1
          go_wp2_with (first
            | (go_at_fn g; refine hcall.mono ?_; rintro e w' ⟨rfl, q2, rfl⟩)
            | ((with_reducible refine wpList_store1 _ _ _ b i v vi ?_ ?_ HV1.out (by kernel_rfl) (by simpa using HST.out.1) (by simpa using HST.out.2) ?_); exact rfl; exact rfl))
          go_roundw
          case rel =>
            refine ⟨i + 1, j + 1, by omega, by omega, by go_num, by go_num, by rw [HN.out, List.length_append, ← HI2.out]; rfl, fun k hk => ?_, fun k h1 h2 => ?_, fun k hk => ?_, fun k hk => by rw [World.frozen?_setCell]; simpa using HF.out k hk, (HK.out.trans (keeps_drewN _ _ _)).setCell (Nat.le_refl _) (Nat.lt_succ_self _) _⟩
            · rw [HN.out]
              by_cases e : k = i
              · subst e
                rw [World.cell?_setCell_same' _ _ _ (by simp [hvi])]
                have e2 := getD_lastD (D := (l.take j).filter fun r => !p r) (x := l.getD j 0)
                rw [← HI2.out] at e2
                rw [e2, ← QR.out, QV.out]
              · rw [World.cell?_setCell_other (a := ⟨b, i, none⟩) (b := ⟨b, k, none⟩) (h := fun h => e (by simp only [Addr.mk.injEq] at h; omega)), getD_frontD (by rw [← HI2.out]; omega)]
                simpa using HA.out k (by omega)
            · rw [World.cell?_setCell_other (a := ⟨b, i, none⟩) (b := ⟨b, k, none⟩) (h := fun h => by simp only [Addr.mk.injEq] at h; omega)]
              simpa using HB.out k (by omega) h2
            · by_cases e : k = i
              · subst e
                exact ⟨v, World.cell?_setCell_same' _ _ _ (by simp [hvi]), HV1.out⟩
              · rw [World.cell?_setCell_other (a := ⟨b, i, none⟩) (b := ⟨b, k, none⟩) (h := fun h => e (by simp only [Addr.mk.injEq] at h; omega))]
                simpa using HS.out k hk
          case measure => simp [intOf]; omega
      · obtain rfl : j = m := by omega
        have HD := Lib.hid (show (l.take j).filter (fun r => !p r) = l.filter fun r => !p r by rw [QM.out, List.take_length])
        have hcl := fun ty => Lib.run_clear_slice (P := Try.prog) wr 23 3 ty (.int .i64 0) Try.underlying23 (fun _ => by kernel_rfl) rfl rfl b i (j - i) (c - i) (by omega) (fun k hk => by obtain ⟨u, hu, _⟩ := HS.out (i + k) (by omega); rw [hu]; rfl) (fun k hk => HF.out (i + k) (by omega))
        have z1 : (0 : Int) ≤ (i : Int) := by omega
        have z2 : (i : Int) ≤ (j : Int) := by omega
        have z3 : (j : Int) ≤ (c : Int) := by omega
        have hne : ¬ (c = i) := by omega
        go_wp2
        clear hcl
        go_ret
        refine ⟨by rw [← HD.out, ← HI2.out]; rfl, fun k hk => ?_, HK.out.trans (keeps_setCellsD b _ i wr)⟩
        rw [← HD.out, ← HI2.out] at hk
        refine ⟨?_, ?_⟩
        · rw [World.cell?_setCells_out b _ i wr ⟨b, k, none⟩ (fun _ _ => .inl hk), ← HD.out]
          exact HA.out k hk
        · rw [World.frozen?_setCells]; exact HF.out k (by omega)
end Go.Proofs.Ytaipodnhnekpjaa
