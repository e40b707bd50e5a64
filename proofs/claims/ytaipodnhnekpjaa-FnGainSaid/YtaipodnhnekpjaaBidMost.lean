/- The program's deals with the greatest total. -/
import Derived.Test.YtaipodnhnekpjaaDealsWay
import Derived.Test.YtaipodnhnekpjaaProg
import Derived.Test.YtaipodnhnekpjaaMem
import Derived.Test.YtaipodnhnekpjaaDelKit
import Derived.Lib.SliceRun
import Derived.Shelf.GgClosure.Gives
import Derived.Shelf.RegionOpenPlain
import Derived.Test.YtaipodnhnekpjaaBidDeals
import Derived.BigQuiet
/- The program's total of a deal. -/
namespace Go.Proofs.Ytaipodnhnekpjaa
set_option linter.unusedVariables false
set_option linter.unusedSimpArgs false
open Go.RowKit

set_option maxHeartbeats 800000 in
/-- n bidders, each one's row at least m long; each one gets an item or none. -/
theorem bidTotal_any (n c q d m : Nat) (a b : Option Addr) (A : Nat → Option Addr) (L C : Nat → Nat) (Z : Nat → Nat → Int) (D : Nat → Int) (w : World) (hq : q ≤ n) (hn : n ≤ 64) (hL : ∀ r, r < n → L r = m) (hZ : ∀ r, r < n → ∀ x, x < m → 0 ≤ Z r x ∧ Z r x ≤ 20) (hD : ∀ i, i < q → -1 ≤ D i ∧ D i < m) (ha0 : Tab w a n A L C Z) (hb0 : Rd w b q D) :
    Calls Try.prog 98 #[.slice a n c, .slice b q d] w fun e w' => e = .returned (.int .i64 (dealT Z D q)) ∧ w = w' := by
  have HA := Lib.hid ha0
  have HB := Lib.hid hb0
  have HD := Lib.hid hD
  have HZ := Lib.hid hZ
  have HR := Lib.hid (fun k (hk : k ≤ q) => dealT_range (Z := Z) (D := D) (M := 20) (by omega) k fun i hi hd => hZ i (by omega) _ (by have := hD i (by omega); omega))
  have HL := Lib.hid hL
  clear ha0 hb0 hD hZ hL
  go_enter Try.func98, Try.ntmps98
  go_wp2
  go_loop [5, 6, 7, 10] (fun s _ _ i => ∃ k : Nat, k ≤ q ∧ i = .int .i64 k ∧ s = .int .i64 (dealT Z D k)) (fun _ _ _ i => q - (intOf i).toNat)
  case atStart => exact ⟨0, Nat.zero_le _, rfl, rfl⟩
  case round =>
    obtain ⟨k, hk, rfl, rfl⟩ := hrel
    by_cases hlt : k < q
    · obtain ⟨bb, ob, rfl, hcb⟩ := HB.out k hlt
      obtain ⟨T, hT⟩ : ∃ T, T = dealT Z D k := ⟨_, rfl⟩
      have hTr := HR.out k hk
      rw [← hT] at hTr
      rw [← hT]
      have hd := HD.out k hlt
      by_cases he : D k = -1
      · rw [he] at hcb
        have E := Lib.hid (show dealT Z D (k + 1) = T by rw [hT]; show dealT Z D k + (if D k = -1 then 0 else _) = _; rw [if_pos he, Int.add_zero])
        clear he hd hT
        go_wp2
        go_round
        case rel => exact ⟨k + 1, by omega, by go_num, by rw [E.out]⟩
        case measure => simp [intOf]; omega
      · obtain ⟨x, hx⟩ := Int.eq_ofNat_of_zero_le (show 0 ≤ D k by omega)
        have hxm : x < m := by omega
        obtain ⟨ba, oa, rfl, hca, hra⟩ := HA.out k (by omega)
        rw [HL.out k (by omega)] at hca hra
        obtain ⟨br, or', har, hcx⟩ := hra x hxm
        rw [har] at hca
        have hzx := HZ.out k (by omega) x hxm
        obtain ⟨y, hy⟩ : ∃ y, y = Z k x := ⟨_, rfl⟩
        rw [← hy] at hcx hzx
        have E := Lib.hid (show dealT Z D (k + 1) = T + y by rw [hT, hy]; show dealT Z D k + (if D k = -1 then 0 else Z k (D k).toNat) = _; rw [if_neg he, hx, Int.toNat_natCast])
        rw [hx] at hcb
        have d1 : ((x : Int) != -1) = true := bne_iff_ne.2 (by omega)
        have hkn : (k : Int) < (n : Int) := by omega
        have hw1 : IntKind.i64.wrap (T + y) = T + y := by rw [IntKind.wrap_i64]; omega
        clear he hd hT hx hy har hra
        go_wp2
        go_round
        case rel => exact ⟨k + 1, by omega, by go_num, by rw [E.out]⟩
        case measure => simp [intOf]; omega
    · obtain rfl : k = q := by omega
      go_wp2
      go_ret
      exact ⟨rfl, rfl⟩
end Go.Proofs.Ytaipodnhnekpjaa

/- The library's cmp.Compare at integers; the order of lists, as it is told. -/
namespace Go.Proofs.Ytaipodnhnekpjaa
set_option linter.unusedVariables false
set_option linter.unusedSimpArgs false
open Go.RowKit

/-- Two numbers are compared. -/
def cmpI (x y : Int) : Int := if x < y then -1 else if y < x then 1 else 0
/-- Two lists of n numbers are compared, from the place k on. -/
def cmpN (X Y : Nat → Int) : Nat → Nat → Int
  | _, 0 => 0
  | k, m + 1 => if X k = Y k then cmpN X Y (k + 1) m else cmpI (X k) (Y k)
theorem cmpI_ne {x y : Int} (h : x ≠ y) : cmpI x y ≠ 0 := by
  unfold cmpI
  by_cases h1 : x < y
  · rw [if_pos h1]; omega
  · rw [if_neg h1, if_pos (by omega)]; omega
theorem cmpI_range (x y : Int) : -1 ≤ cmpI x y ∧ cmpI x y ≤ 1 := by
  unfold cmpI
  by_cases h1 : x < y
  · rw [if_pos h1]; omega
  · rw [if_neg h1]
    by_cases h2 : y < x
    · rw [if_pos h2]; omega
    · rw [if_neg h2]; omega

theorem isNaN_any (x : Int) (w : World) : Calls Try.prog 117 #[.int .i64 x] w fun e w' => e = .returned (.bool false) ∧ w = w' := by
  have d1 : (x != x) = false := by simp
  go_enter Try.func117, Try.ntmps117
  go_wp2
  go_ret
  exact ⟨by first | rfl | simp, rfl⟩

set_option maxHeartbeats 400000 in
theorem cmpInt_any (x y : Int) (w : World) : Calls Try.prog 106 #[.int .i64 x, .int .i64 y] w fun e w' => e = .returned (.int .i64 (cmpI x y)) ∧ w = w' := by
  by_cases h1 : x < y
  · have d1 : decide (x < y) = true := by simpa using h1
    have HE := Lib.hid (show cmpI x y = -1 by unfold cmpI; rw [if_pos h1])
    clear h1
    go_enter Try.func106, Try.ntmps106
    go_wp2_with (go_at_call 117; refine (isNaN_any _ _).mono ?_; rintro e w' ⟨rfl, rfl⟩)
    go_ret
    exact ⟨by rw [HE.out]; rfl, rfl⟩
  · have d1 : decide (x < y) = false := by simpa using h1
    by_cases h2 : y < x
    · have d2 : decide (y < x) = true := by simpa using h2
      have HE := Lib.hid (show cmpI x y = 1 by unfold cmpI; rw [if_neg h1, if_pos h2])
      clear h1 h2
      go_enter Try.func106, Try.ntmps106
      go_wp2_with (go_at_call 117; refine (isNaN_any _ _).mono ?_; rintro e w' ⟨rfl, rfl⟩)
      go_ret
      exact ⟨by rw [HE.out]; rfl, rfl⟩
    · have d2 : decide (y < x) = false := by simpa using h2
      have HE := Lib.hid (show cmpI x y = 0 by unfold cmpI; rw [if_neg h1, if_neg h2])
      clear h1 h2
      go_enter Try.func106, Try.ntmps106
      go_wp2_with (go_at_call 117; refine (isNaN_any _ _).mono ?_; rintro e w' ⟨rfl, rfl⟩)
      go_ret
      exact ⟨by rw [HE.out]; rfl, rfl⟩

theorem cmpN_self {X : Nat → Int} : ∀ (m k : Nat), cmpN X X k m = 0
  | 0, k => rfl
  | m + 1, k => by
    show (if X k = X k then cmpN X X (k + 1) m else _) = 0
    rw [if_pos rfl]; exact cmpN_self m (k + 1)
theorem cmpI_anti (x y : Int) : cmpI y x = - cmpI x y := by
  unfold cmpI
  by_cases h1 : x < y
  · rw [if_neg (by omega), if_pos h1, if_pos h1]; rfl
  · rw [if_neg h1]
    by_cases h2 : y < x
    · rw [if_pos h2, if_neg h1, if_pos h2]
    · rw [if_neg h2, if_neg h1, if_neg h2]; rfl
theorem cmpI_lt {x y : Int} : cmpI x y < 0 ↔ x < y := by
  unfold cmpI
  by_cases h1 : x < y
  · simp [h1]
  · rw [if_neg h1]
    by_cases h2 : y < x
    · rw [if_pos h2]; simp [h1]
    · rw [if_neg h2]; simp [h1]
theorem cmpN_anti {X Y : Nat → Int} : ∀ (m k : Nat), cmpN Y X k m = - cmpN X Y k m
  | 0, k => rfl
  | m + 1, k => by
    show (if Y k = X k then cmpN Y X (k + 1) m else cmpI (Y k) (X k)) = - (if X k = Y k then cmpN X Y (k + 1) m else cmpI (X k) (Y k))
    by_cases e : X k = Y k
    · rw [if_pos e, if_pos e.symm]; exact cmpN_anti m (k + 1)
    · rw [if_neg e, if_neg (fun h => e h.symm)]; exact cmpI_anti _ _
theorem cmpN_trans {X Y Z : Nat → Int} : ∀ (m k : Nat), cmpN X Y k m < 0 → cmpN Y Z k m < 0 → cmpN X Z k m < 0
  | 0, k, h, _ => h
  | m + 1, k, h1, h2 => by
    have h1' : (if X k = Y k then cmpN X Y (k + 1) m else cmpI (X k) (Y k)) < 0 := h1
    have h2' : (if Y k = Z k then cmpN Y Z (k + 1) m else cmpI (Y k) (Z k)) < 0 := h2
    show (if X k = Z k then cmpN X Z (k + 1) m else cmpI (X k) (Z k)) < 0
    by_cases e1 : X k = Y k
    · rw [if_pos e1] at h1'
      by_cases e2 : Y k = Z k
      · rw [if_pos e2] at h2'
        rw [if_pos (e1.trans e2)]
        exact cmpN_trans m (k + 1) h1' h2'
      · rw [if_neg e2] at h2'
        rw [if_neg (fun h => e2 (e1.symm.trans h)), e1]
        exact h2'
    · rw [if_neg e1] at h1'
      have a1 := cmpI_lt.1 h1'
      by_cases e2 : Y k = Z k
      · rw [if_neg (fun h => e1 (h.trans e2.symm)), ← e2]; exact h1'
      · rw [if_neg e2] at h2'
        have a2 := cmpI_lt.1 h2'
        rw [if_neg (by omega)]
        exact cmpI_lt.2 (by omega)
theorem cmpN_ntrans {X Y Z : Nat → Int} : ∀ (m k : Nat), ¬ cmpN X Y k m < 0 → ¬ cmpN Y Z k m < 0 → ¬ cmpN X Z k m < 0
  | 0, k, h, _ => h
  | m + 1, k, h1, h2 => by
    have h1' : ¬ (if X k = Y k then cmpN X Y (k + 1) m else cmpI (X k) (Y k)) < 0 := h1
    have h2' : ¬ (if Y k = Z k then cmpN Y Z (k + 1) m else cmpI (Y k) (Z k)) < 0 := h2
    show ¬ (if X k = Z k then cmpN X Z (k + 1) m else cmpI (X k) (Z k)) < 0
    by_cases e1 : X k = Y k
    · rw [if_pos e1] at h1'
      by_cases e2 : Y k = Z k
      · rw [if_pos e2] at h2'
        rw [if_pos (e1.trans e2)]
        exact cmpN_ntrans m (k + 1) h1' h2'
      · rw [if_neg e2] at h2'
        rw [if_neg (fun h => e2 (e1.symm.trans h)), e1]
        exact h2'
    · rw [if_neg e1, cmpI_lt] at h1'
      by_cases e2 : Y k = Z k
      · rw [if_neg (fun h => e1 (h.trans e2.symm)), ← e2, cmpI_lt]; exact h1'
      · rw [if_neg e2, cmpI_lt] at h2'
        rw [if_neg (by omega), cmpI_lt]
        omega
theorem cmpN_zero {X Y : Nat → Int} : ∀ (m k : Nat), cmpN X Y k m = 0 → ∀ j, j < m → X (k + j) = Y (k + j)
  | 0, k, _, j, hj => absurd hj (Nat.not_lt_zero _)
  | m + 1, k, h, j, hj => by
    have h' : (if X k = Y k then cmpN X Y (k + 1) m else cmpI (X k) (Y k)) = 0 := h
    by_cases e : X k = Y k
    · rw [if_pos e] at h'
      by_cases e0 : j = 0
      · subst e0; exact e
      · have := cmpN_zero m (k + 1) h' (j - 1) (by omega)
        rw [show k + 1 + (j - 1) = k + j by omega] at this
        exact this
    · rw [if_neg e] at h'
      exact absurd h' (cmpI_ne e)
theorem cmpN_first {X Y : Nat → Int} : ∀ (j m k : Nat), j < m → (∀ i, i < j → X (k + i) = Y (k + i)) → X (k + j) < Y (k + j) → cmpN X Y k m < 0
  | 0, m + 1, k, _, _, h => by
    show (if X k = Y k then cmpN X Y (k + 1) m else cmpI (X k) (Y k)) < 0
    have h' : X k < Y k := h
    rw [if_neg (by omega)]
    exact cmpI_lt.2 h'
  | j + 1, m + 1, k, hj, he, h => by
    show (if X k = Y k then cmpN X Y (k + 1) m else cmpI (X k) (Y k)) < 0
    rw [if_pos (show X k = Y k from he 0 (by omega))]
    refine cmpN_first j m (k + 1) (by omega) (fun i hi => ?_) ?_
    · have := he (i + 1) (by omega)
      rw [show k + 1 + i = k + (i + 1) by omega]; exact this
    · rw [show k + 1 + j = k + (j + 1) by omega]; exact h

end Go.Proofs.Ytaipodnhnekpjaa

/- The library's slices.IndexFunc and slices.DeleteFunc at [][]int, their predicate any function value that only reads. -/
namespace Go.Proofs.Ytaipodnhnekpjaa
set_option linter.unusedVariables false
set_option linter.unusedSimpArgs false
open Go.RowKit

set_option maxHeartbeats 1600000 in
theorem rowsIndex_any (g : Nat) (lb : Array Value) (eg : ∀ args w, (callFunc g args).run Try.prog w = .ok (.enter g args) w) (enc : Nat → Value) (p : Nat → Bool) (l : List Nat) (b c m : Nat) (w : World) (hm0 : m = l.length) (hlen : m ≤ 1048576) (hp0 : CellsW w b enc l)
    (hg0 : ∀ W r, r ∈ l → Keeps b (b + 1) w W → FnGives Try.prog g lb #[enc r] (.bool (p r)) W) :
    Calls Try.prog 113 #[.slice (some ⟨b, 0, none⟩) m c, .func (.func g) #[] lb] w fun e w' => (∃ x, e = .returned (.int .i64 x) ∧ FirstHit l p x) ∧ ∃ q, w' = w.drewN q := by
  have HP := Lib.hid hp0
  have HG := Lib.hid hg0
  have QM := Lib.hid hm0
  clear hp0 hg0 hm0
  go_enter Try.func113, Try.ntmps113
  go_wp2
  go_loopw [4, 5, 8] (fun _ _ s wr => ∃ k q : Nat, k ≤ m ∧ s = .int .i64 k ∧ (∀ j, j < k → p (l.getD j 0) = false) ∧ wr = w.drewN q) (fun _ _ s _ => m - (intOf s).toNat)
  case atStart => exact ⟨0, 0, Nat.zero_le _, rfl, fun j hj => absurd hj (Nat.not_lt_zero _), rfl⟩
  case round =>
    obtain ⟨k, q, hk, rfl, hno, hwr⟩ := hrel
    have HN := Lib.hid hno
    have HW := Lib.hid hwr
    by_cases hlt : k < m
    · have hkl : k < l.length := by rw [← QM.out]; exact hlt
      have hck := (HP.out k hkl).1
      obtain ⟨r, hr⟩ : ∃ r, r = l.getD k 0 := ⟨_, rfl⟩
      have hcall := HG.out wr r (by rw [hr]; exact getD_in hkl) (by rw [hwr]; exact keeps_drewN _ _ _)
      rw [← hr] at hck
      obtain ⟨v, hv⟩ : ∃ v, v = enc r := ⟨_, rfl⟩
      have hck' : wr.cell? ⟨b, k, none⟩ = some v := by rw [hwr, hv]; simpa using hck
      rw [← hv] at hcall
      unfold FnGives at hcall
      have QR := Lib.hid hr
      clear hr hkl hno hwr hck
      cases hpr : p r with
      | true =>
        rw [hpr] at hcall
        have T1 := Lib.hid hpr
        clear hpr hv
        go_wp2_with (go_at_fn g; refine hcall.mono ?_; rintro e w' ⟨rfl, q2, rfl⟩)
        go_ret
        have HK : k < l.length := by rw [← QM.out]; exact hlt
        exact ⟨⟨_, rfl, .inr ⟨k, rfl, HK, by rw [← QR.out]; exact T1.out, HN.out⟩⟩, q + q2, by rw [HW.out]; exact drewN_two _ _ _⟩
      | false =>
        rw [hpr] at hcall
        have T1 := Lib.hid hpr
        clear hpr hv
        go_wp2_with (go_at_fn g; refine hcall.mono ?_; rintro e w' ⟨rfl, q2, rfl⟩)
        go_roundw
        case rel => exact ⟨k + 1, q + q2, by omega, by go_num, fun j hj => by
          by_cases e : j = k
          · subst e; rw [← QR.out]; exact T1.out
          · exact HN.out j (by omega), by rw [HW.out]; exact drewN_two _ _ _⟩
        case measure => simp [intOf]; omega
    · obtain rfl : k = m := by omega
      clear hno hwr
      go_wp2
      go_ret
      exact ⟨⟨_, rfl, .inl ⟨rfl, fun j hj => HN.out j (by rw [QM.out]; exact hj)⟩⟩, q, HW.out⟩

set_option maxHeartbeats 1600000 in
theorem rowsDelete_any (g : Nat) (lb : Array Value) (eg : ∀ args w, (callFunc g args).run Try.prog w = .ok (.enter g args) w) (enc : Nat → Value) (h1 : ∀ r, (enc r).oneCell' = true) (p : Nat → Bool) (l : List Nat) (b c m : Nat) (w : World) (hm0 : m = l.length) (hlen : m ≤ 1048576) (hc : m ≤ c) (hc2 : c ≤ 9223372036854775807) (hp0 : CellsW w b enc l)
    (hg0 : ∀ W r, r ∈ l → Keeps b (b + 1) w W → FnGives Try.prog g lb #[enc r] (.bool (p r)) W) :
    Calls Try.prog 102 #[.slice (some ⟨b, 0, none⟩) m c, .func (.func g) #[] lb] w fun e w' => e = .returned (.slice (some ⟨b, 0, none⟩) (l.filter fun r => !p r).length c) ∧ CellsW w' b enc (l.filter fun r => !p r) ∧ Keeps b (b + 1) w w' := by
  have HP := Lib.hid hp0
  have HG := Lib.hid hg0
  have HI := Lib.hid (rowsIndex_any g lb eg enc p l b c m w hm0 hlen hp0 hg0)
  have QM := Lib.hid hm0
  have H1 := Lib.hid h1
  clear hp0 hg0 hm0 h1
  go_enter Try.func102, Try.ntmps102
  go_wp2_with fail
  refine HI.out.mono ?_
  rintro e w' ⟨⟨x, rfl, hx⟩, q0, hw0⟩
  have W0 := Lib.hid hw0
  have hK0 : Keeps b (b + 1) w w' := by rw [hw0]; exact keeps_drewN _ _ _
  have K0 := Lib.hid hK0
  have P0 := Lib.hid (show CellsW w' b enc l by rw [hw0]; exact HP.out.drewN q0)
  clear hw0 hK0
  rcases hx with ⟨rfl, hall⟩ | ⟨k0, rfl, hk0, hg0, hno⟩
  · have HF := Lib.hid (show (l.filter fun r => !p r) = l by
      have := fil_keep (P := fun r => !p r) (l := l) (k := l.length) (fun j hj => by rw [hall j hj]; rfl) (Nat.le_refl _)
      rwa [List.take_length] at this)
    clear hall
    go_wp2
    go_ret
    refine ⟨?_, ?_, K0.out⟩
    · rw [HF.out, ← QM.out]; rfl
    · rw [HF.out]; exact P0.out
  · have hk0m : k0 < m := by rw [QM.out]; exact hk0
    have hd : ((k0 : Int) == -1) = false := beq_eq_false_iff_ne.2 (by omega)
    have HD0 := Lib.hid (show l.take k0 = (l.take (k0 + 1)).filter fun r => !p r by
      rw [fil_no (P := fun r => !p r) hk0 (by rw [hg0]; rfl), fil_keep (P := fun r => !p r) (fun j hj => by rw [hno j hj]; rfl) (Nat.le_of_lt hk0)])
    have HK0 := Lib.hid hk0
    clear hno hg0 hk0
    go_wp2
    go_loopw [5, 6, 7] (fun s5 s6 _ wr => ∃ i j : Nat, j ≤ m ∧ i < j ∧ s5 = .int .i64 i ∧ s6 = .int .i64 j ∧ i = ((l.take j).filter fun r => !p r).length ∧
        (∀ k, k < i → wr.cell? ⟨b, k, none⟩ = some (enc (((l.take j).filter fun r => !p r).getD k 0))) ∧
        (∀ k, j ≤ k → k < m → wr.cell? ⟨b, k, none⟩ = some (enc (l.getD k 0))) ∧ (∀ k, k < m → ∃ u, wr.cell? ⟨b, k, none⟩ = some u ∧ u.oneCell' = true) ∧ (∀ k, k < m → wr.frozen? ⟨b, k, none⟩ = false) ∧ Keeps b (b + 1) w wr) (fun _ s6 _ _ => m - (intOf s6).toNat)
    case atStart =>
      refine ⟨k0, k0 + 1, by omega, by omega, rfl, by go_num, ?_, fun k hk => ?_, fun k h1 h2 => (P0.out k (by rw [← QM.out]; exact h2)).1, fun k hk => ⟨_, (P0.out k (by rw [← QM.out]; exact hk)).1, H1.out _⟩, fun k hk => (P0.out k (by rw [← QM.out]; exact hk)).2, K0.out⟩
      · rw [← HD0.out, List.length_take]; have := HK0.out; omega
      · rw [← HD0.out, getD_takeD hk]; exact (P0.out k (by rw [← QM.out]; omega)).1
    case round =>
      obtain ⟨i, j, hj, hij, rfl, rfl, hi, hA, hB, hS, hF, hK⟩ := hrel
      have HI2 := Lib.hid hi
      have HA := Lib.hid hA
      have HB := Lib.hid hB
      have HS := Lib.hid hS
      have HF := Lib.hid hF
      have HK := Lib.hid hK
      clear hi hA hB hS hF hK P0 W0
      by_cases hjl : j < m
      · have hjl' : j < l.length := by rw [← QM.out]; exact hjl
        have hcj := HB.out j (Nat.le_refl _) hjl
        obtain ⟨r, hr⟩ : ∃ r, r = l.getD j 0 := ⟨_, rfl⟩
        have hcall := HG.out wr r (by rw [hr]; exact getD_in hjl') HK.out
        rw [← hr] at hcj
        obtain ⟨v, hv⟩ : ∃ v, v = enc r := ⟨_, rfl⟩
        have hv1 : v.oneCell' = true := by rw [hv]; exact H1.out r
        rw [← hv] at hcall hcj
        unfold FnGives at hcall
        have QR := Lib.hid hr
        have QV := Lib.hid hv
        have HJ := Lib.hid hjl'
        clear hr hjl' hv
        cases hpr : p r with
        | true =>
          rw [hpr] at hcall
          have HN := Lib.hid (fil_no (l := l) (P := fun r => !p r) HJ.out (by rw [← QR.out, hpr]; rfl))
          clear hpr
          go_wp2_with (go_at_fn g; refine hcall.mono ?_; rintro e w' ⟨rfl, q2, rfl⟩)
          go_roundw
          case rel => exact ⟨i, j + 1, by omega, by omega, rfl, by go_num, by rw [HN.out]; exact HI2.out, by rw [HN.out]; exact fun k hk => by simpa using HA.out k hk, fun k h1 h2 => by simpa using HB.out k (by omega) h2, fun k hk => by simpa using HS.out k hk, fun k hk => by simpa using HF.out k hk, HK.out.trans (keeps_drewN _ _ _)⟩
          case measure => simp [intOf]; omega
        | false =>
          rw [hpr] at hcall
          have HN := Lib.hid (fil_yes (l := l) (P := fun r => !p r) HJ.out (by rw [← QR.out, hpr]; rfl))
          have hfi := HF.out i (by omega)
          obtain ⟨vi, hvi, hv1i⟩ := HS.out i (by omega)
          clear hpr
          have HST := Lib.hid (And.intro hvi hfi)
          have HV1 := Lib.hid hv1
          clear hv1
          go_wp2_with (first
            | (go_at_fn g; refine hcall.mono ?_; rintro e w' ⟨rfl, q2, rfl⟩)
            | ((with_reducible refine wpList_store1 _ _ _ b i v vi ?_ ?_ HV1.out (by kernel_rfl) (by simpa using HST.out.1) (by simpa using HST.out.2) ?_); exact rfl; exact rfl))
          go_roundw
          case rel =>
            refine ⟨i + 1, j + 1, by omega, by omega, by go_num, by go_num, by rw [HN.out, List.length_append, ← HI2.out]; rfl, fun k hk => ?_, fun k h1 h2 => ?_, fun k hk => ?_, fun k hk => by rw [World.frozen?_setCell]; simpa using HF.out k hk, (HK.out.trans (keeps_drewN _ _ _)).setCell (Nat.le_refl _) (Nat.lt_succ_self _) _⟩
            · rw [HN.out]
              by_cases e : k = i
              · subst e
                rw [World.cell?_setCell_same' _ _ _ (by simp [hvi])]
                have e2 := getD_lastD (D := (l.take j).filter fun r => !p r) (x := l.getD j 0)
                rw [← HI2.out] at e2
                rw [e2, ← QR.out, QV.out]
              · rw [World.cell?_setCell_other (a := ⟨b, i, none⟩) (b := ⟨b, k, none⟩) (h := fun h => e (by simp only [Addr.mk.injEq] at h; omega)), getD_frontD (by rw [← HI2.out]; omega)]
                simpa using HA.out k (by omega)
            · rw [World.cell?_setCell_other (a := ⟨b, i, none⟩) (b := ⟨b, k, none⟩) (h := fun h => by simp only [Addr.mk.injEq] at h; omega)]
              simpa using HB.out k (by omega) h2
            · by_cases e : k = i
              · subst e
                exact ⟨v, World.cell?_setCell_same' _ _ _ (by simp [hvi]), HV1.out⟩
              · rw [World.cell?_setCell_other (a := ⟨b, i, none⟩) (b := ⟨b, k, none⟩) (h := fun h => e (by simp only [Addr.mk.injEq] at h; omega))]
                simpa using HS.out k hk
          case measure => simp [intOf]; omega
      · obtain rfl : j = m := by omega
        have HD := Lib.hid (show (l.take j).filter (fun r => !p r) = l.filter fun r => !p r by rw [QM.out, List.take_length])
        have hcl := fun ty => Lib.run_clear_slice (P := Try.prog) wr 22 23 ty (.slice none 0 0) Try.underlying22 (fun _ => by kernel_rfl) rfl rfl b i (j - i) (c - i) (by omega) (fun k hk => by obtain ⟨u, hu, _⟩ := HS.out (i + k) (by omega); rw [hu]; rfl) (fun k hk => HF.out (i + k) (by omega))
        have z1 : (0 : Int) ≤ (i : Int) := by omega
        have z2 : (i : Int) ≤ (j : Int) := by omega
        have z3 : (j : Int) ≤ (c : Int) := by omega
        have hne : ¬ (c = i) := by omega
        go_wp2
        clear hcl
        go_ret
        refine ⟨by rw [← HD.out, ← HI2.out]; rfl, fun k hk => ?_, HK.out.trans (keeps_setCellsD b _ i wr)⟩
        rw [← HD.out, ← HI2.out] at hk
        refine ⟨?_, ?_⟩
        · rw [World.cell?_setCells_out b _ i wr ⟨b, k, none⟩ (fun _ _ => .inl hk), ← HD.out]
          exact HA.out k hk
        · rw [World.frozen?_setCells]; exact HF.out k (by omega)
end Go.Proofs.Ytaipodnhnekpjaa

/- The library's slices.MinFunc at rows, its comparison any function value that only reads. -/
namespace Go.Proofs.Ytaipodnhnekpjaa
set_option linter.unusedVariables false
set_option linter.unusedSimpArgs false
open Go.RowKit

/-- The first of the least, up to the place k. -/
def pickL (cf : Nat → Nat → Int) (l : List Nat) : Nat → Nat
  | 0 => l.getD 0 0
  | k + 1 => if cf (l.getD (k + 1) 0) (pickL cf l k) < 0 then l.getD (k + 1) 0 else pickL cf l k
theorem pickL_in {cf : Nat → Nat → Int} {l : List Nat} : ∀ {k : Nat}, k < l.length → pickL cf l k ∈ l
  | 0, h => getD_in h
  | k + 1, h => by
    unfold pickL
    by_cases e : cf (l.getD (k + 1) 0) (pickL cf l k) < 0
    · rw [if_pos e]; exact getD_in h
    · rw [if_neg e]; exact pickL_in (by omega)

set_option maxHeartbeats 1600000 in
theorem rowsMin_any (g : Nat) (lb : Array Value) (eg : ∀ args w, (callFunc g args).run Try.prog w = .ok (.enter g args) w) (enc : Nat → Value) (cf : Nat → Nat → Int) (l : List Nat) (b c m : Nat) (w : World) (hm0 : m = l.length) (h0 : 0 < m) (hlen : m ≤ 1048576) (hp0 : CellsW w b enc l)
    (hg0 : ∀ W r s, r ∈ l → s ∈ l → Keeps b (b + 1) w W → FnGives Try.prog g lb #[enc r, enc s] (.int .i64 (cf r s)) W) :
    Calls Try.prog 115 #[.slice (some ⟨b, 0, none⟩) m c, .func (.func g) #[] lb] w fun e w' => e = .returned (enc (pickL cf l (m - 1))) ∧ ∃ q, w' = w.drewN q := by
  have HP := Lib.hid hp0
  have HG := Lib.hid hg0
  have QM := Lib.hid hm0
  have c0 := (hp0 0 (by omega)).1
  have H0 := Lib.hid (show enc (l.getD 0 0) = enc (pickL cf l 0) from rfl)
  obtain ⟨v0, hv0⟩ : ∃ v, v = enc (l.getD 0 0) := ⟨_, rfl⟩
  rw [← hv0] at c0 H0
  have d1 : decide ((m : Int) < 1) = false := by simp; omega
  clear hp0 hg0 hm0 hv0
  go_enter Try.func115, Try.ntmps115
  go_wp2
  clear c0 d1
  go_loopw [5, 6] (fun s i wr => ∃ (k q : Nat) (v : Value), k + 1 ≤ m ∧ i = .int .i64 ((k : Int) + 1) ∧ v = s ∧ v = enc (pickL cf l k) ∧ wr = w.drewN q) (fun _ i _ => m - (intOf i).toNat)
  case atStart => exact ⟨0, 0, v0, by omega, rfl, rfl, H0.out, rfl⟩
  case round =>
    obtain ⟨k, q, v, hk, rfl, rfl, hv, hwr⟩ := hrel
    have HW := Lib.hid hwr
    have HV := Lib.hid hv
    clear H0
    by_cases hlt : k + 1 < m
    · have hkl : k + 1 < l.length := by rw [← QM.out]; exact hlt
      have hck := (HP.out (k + 1) hkl).1
      obtain ⟨r, hr⟩ : ∃ r, r = l.getD (k + 1) 0 := ⟨_, rfl⟩
      have hcall := HG.out wr r (pickL cf l k) (by rw [hr]; exact getD_in hkl) (pickL_in (by omega)) (by rw [hwr]; exact keeps_drewN _ _ _)
      rw [← hr] at hck
      rw [← hv] at hcall
      obtain ⟨u, hu⟩ : ∃ u, u = enc r := ⟨_, rfl⟩
      have hck' : wr.cell? ⟨b, k + 1, none⟩ = some u := by rw [hwr, hu]; simpa using hck
      rw [← hu] at hcall
      unfold FnGives at hcall
      obtain ⟨x, hx⟩ : ∃ x, x = cf r (pickL cf l k) := ⟨_, rfl⟩
      rw [← hx] at hcall
      have HN := Lib.hid (show pickL cf l (k + 1) = if x < 0 then r else pickL cf l k by rw [hx, hr]; rfl)
      have QU := Lib.hid hu
      have i1 : (0 : Int) ≤ (k : Int) + 1 := by omega
      have i2 : (k : Int) + 1 < (m : Int) := by omega
      have i3 : ((k : Int) + 1).toNat = k + 1 := by omega
      clear hr hkl hwr hck hv hu hx
      by_cases hneg : x < 0
      · have d1 : decide (x < 0) = true := by simpa using hneg
        have HX := Lib.hid hneg
        clear hneg
        go_wp2_with (go_at_fn g; refine hcall.mono ?_; rintro e w' ⟨rfl, q2, rfl⟩)
        go_roundw
        case rel => exact ⟨k + 1, q + q2, u, by omega, by go_num, rfl, by rw [HN.out, if_pos HX.out]; exact QU.out, by rw [HW.out]; exact drewN_two _ _ _⟩
        case measure => simp [intOf]; omega
      · have d1 : decide (x < 0) = false := by simpa using hneg
        have HX := Lib.hid hneg
        clear hneg
        go_wp2_with (go_at_fn g; refine hcall.mono ?_; rintro e w' ⟨rfl, q2, rfl⟩)
        go_roundw
        case rel => exact ⟨k + 1, q + q2, v, by omega, by go_num, rfl, by rw [HN.out, if_neg (by have := HX.out; omega)]; exact HV.out, by rw [HW.out]; exact drewN_two _ _ _⟩
        case measure => simp [intOf]; omega
    · have d1 : decide ((k : Int) + 1 < m) = false := by simp; omega
      have HE := Lib.hid (show m - 1 = k by omega)
      clear hv hwr
      go_wp2
      go_ret
      exact ⟨by rw [HE.out, ← HV.out]; rfl, q, HW.out⟩
end Go.Proofs.Ytaipodnhnekpjaa

/- The program's foremost and best: of the deals of which something holds, those with the greatest total. -/
namespace Go.Proofs.Ytaipodnhnekpjaa
set_option linter.unusedVariables false
set_option linter.unusedSimpArgs false
open Go.RowKit

/-- The r-th deal's slice. -/
def encB (n : Nat) (G Cp : Nat → Nat) (r : Nat) : Value := .slice (some ⟨G r, 0, none⟩) n (Cp r)

theorem back_same {P : Program} {f : FuncId} {args : Array Value} {w : World} {v : Value} (h : Calls P f args w fun e w' => e = .returned v ∧ w = w') : Calls P f args w fun e w' => e = .returned v ∧ w' = w :=
  h.mono fun _ _ ⟨h1, h2⟩ => ⟨h1, h2.symm⟩

theorem best1_any (hb gh : Nat) (lh : Array Value) (egh : ∀ args w, (callFunc gh args).run Try.prog w = .ok (.enter gh args) w) (v : Value) (b : Bool) (W : World) (hc : W.cell? ⟨hb, 0, none⟩ = some (.func (.func gh) #[] lh)) (hh : FnGives Try.prog gh lh #[v] (.bool b) W) :
    FnGives Try.prog 103 #[.pointer (some ⟨hb, 0, none⟩)] #[v] (.bool (!b)) W := by
  unfold FnGives at hh ⊢
  show Calls Try.prog 103 #[v, .pointer (some ⟨hb, 0, none⟩)] W _
  go_enter Try.func103, Try.ntmps103
  go_wp2_with (go_at_fn gh; refine hh.mono ?_; rintro e w' ⟨rfl, q, rfl⟩)
  go_ret
  exact ⟨rfl, q, rfl⟩

theorem best2_any (vb n c m : Nat) (a : Option Addr) (A : Nat → Option Addr) (L C : Nat → Nat) (Z : Nat → Nat → Int) (a1 a2 : Option Addr) (c1 c2 : Nat) (D E : Nat → Int) (W : World) (hn : n ≤ 64) (hL : ∀ r, r < n → L r = m) (hZ : ∀ r, r < n → ∀ x, x < m → 0 ≤ Z r x ∧ Z r x ≤ 20) (ha0 : Tab W a n A L C Z)
    (hc : W.cell? ⟨vb, 0, none⟩ = some (.slice a n c)) (hD : ∀ i, i < n → -1 ≤ D i ∧ D i < m) (hE : ∀ i, i < n → -1 ≤ E i ∧ E i < m) (hd : Rd W a1 n D) (he : Rd W a2 n E) :
    FnGives Try.prog 105 #[.pointer (some ⟨vb, 0, none⟩)] #[.slice a1 n c1, .slice a2 n c2] (.int .i64 (cmpI (dealT Z E n) (dealT Z D n))) W := by
  unfold FnGives
  show Calls Try.prog 105 #[.slice a1 n c1, .slice a2 n c2, .pointer (some ⟨vb, 0, none⟩)] W _
  have H1 := Lib.hid (fun q => back_same <| bidTotal_any n c n c2 m a a2 A L C Z E (W.drewN q) (Nat.le_refl _) hn hL hZ hE (ha0.drewN q) (he.drewN q))
  have H2 := Lib.hid (fun q => back_same <| bidTotal_any n c n c1 m a a1 A L C Z D (W.drewN q) (Nat.le_refl _) hn hL hZ hD (ha0.drewN q) (hd.drewN q))
  obtain ⟨x, hx⟩ : ∃ x, x = dealT Z E n := ⟨_, rfl⟩
  obtain ⟨y, hy⟩ : ∃ y, y = dealT Z D n := ⟨_, rfl⟩
  rw [← hx] at H1 ⊢
  rw [← hy] at H2 ⊢
  clear hx hy ha0 hD hE hd he hZ hL
  go_enter Try.func105, Try.ntmps105
  go_wp2
  go_quiet ((first | (go_at_call 98; with_reducible exact Calls.quiet_of_same (H1.out _)) | (go_at_call 98; with_reducible exact Calls.quiet_of_same (H2.out _)) | (go_at_call 106; exact Calls.quiet_of_same (back_same (cmpInt_any _ _ _)))))
  all_goals (
    go_wp2
    go_ret
    exact ⟨rfl, _, rfl⟩)

theorem foremost1_any (cb fb gh : Nat) (lh : Array Value) (egh : ∀ args w, (callFunc gh args).run Try.prog w = .ok (.enter gh args) w) (u v : Value) (x : Int) (W : World) (hc : W.cell? ⟨cb, 0, none⟩ = some (.func (.func gh) #[] lh)) (hf : W.cell? ⟨fb, 0, none⟩ = some u) (hh : FnGives Try.prog gh lh #[u, v] (.int .i64 x) W) :
    FnGives Try.prog 116 #[.pointer (some ⟨cb, 0, none⟩), .pointer (some ⟨fb, 0, none⟩)] #[v] (.bool (decide (x < 0))) W := by
  unfold FnGives at hh ⊢
  show Calls Try.prog 116 #[v, .pointer (some ⟨cb, 0, none⟩), .pointer (some ⟨fb, 0, none⟩)] W _
  go_enter Try.func116, Try.ntmps116
  go_wp2_with (go_at_fn gh; refine hh.mono ?_; rintro e w' ⟨rfl, q, rfl⟩)
  go_ret
  exact ⟨rfl, q, rfl⟩

theorem pickL_max {T : Nat → Int} {l : List Nat} : ∀ {k : Nat}, ∀ j, j ≤ k → T (l.getD j 0) ≤ T (pickL (fun x m => cmpI (T m) (T x)) l k)
  | 0, j, h => by obtain rfl : j = 0 := by omega
                  exact Int.le_refl _
  | k + 1, j, h => by
    unfold pickL
    by_cases e : cmpI (T (pickL (fun x m => cmpI (T m) (T x)) l k)) (T (l.getD (k + 1) 0)) < 0
    · rw [if_pos e]
      have e := cmpI_lt.1 e
      by_cases hj : j = k + 1
      · subst hj; exact Int.le_refl _
      · have := pickL_max (T := T) (l := l) (k := k) j (by omega); omega
    · rw [if_neg e]
      by_cases hj : j = k + 1
      · subst hj
        have h2 := mt cmpI_lt.2 e
        omega
      · exact pickL_max j (by omega)

set_option maxRecDepth 100000 in
set_option maxHeartbeats 1600000 in
theorem foremost_any (n g c m vb : Nat) (G Cp : Nat → Nat) (l : List Nat) (T : Nat → Int) (w : World) (hm : m = l.length) (h0 : 0 < m) (hlen : m ≤ 1048576) (hc : m ≤ c) (hc2 : c ≤ 9223372036854775807) (hp0 : CellsW w g (encB n G Cp) l)
    (hcmp : ∀ W r s, r ∈ l → s ∈ l → w.grownBy W (some g) → FnGives Try.prog 105 #[.pointer (some ⟨vb, 0, none⟩)] #[encB n G Cp r, encB n G Cp s] (.int .i64 (cmpI (T s) (T r))) W) :
    Calls Try.prog 104 #[.slice (some ⟨g, 0, none⟩) m c, .func (.func 105) #[] #[.pointer (some ⟨vb, 0, none⟩)]] w fun e w' => ∃ f, f ∈ l ∧ (∀ r, r ∈ l → T r ≤ T f) ∧ e = .returned (.slice (some ⟨g, 0, none⟩) (l.filter fun r => !decide (T r < T f)).length c) ∧ CellsW w' g (encB n G Cp) (l.filter fun r => !decide (T r < T f)) ∧ w.grownBy w' (some g) := by
  have egh := enters_of Try.func105 (by kernel_rfl) rfl
  have hg : g < w.heap.size := World.block_lt_of_cell? _ _ (hp0 0 (by omega)).1
  have HCmp := Lib.hid hcmp
  have QM := Lib.hid hm
  obtain ⟨wa, hwa⟩ : ∃ wa, wa = w.alloc (.cells #[.func (.func 105) #[] #[.pointer (some ⟨vb, 0, none⟩)]] 91) := ⟨_, rfl⟩
  have ha1 : wa.heap.size = w.heap.size + 1 := by rw [hwa]; simp
  have ha2 : w.grownBy wa (some g) := by rw [hwa]; exact ⟨rfl, rfl, rfl, by simp, fun k hk _ => Below.heap_alloc _ _ _ hk⟩
  have ha3 : wa.cell? ⟨w.heap.size, 0, none⟩ = some (.func (.func 105) #[] #[.pointer (some ⟨vb, 0, none⟩)]) := by rw [hwa]; exact cell_of_row _ _ 0 _ _ _ (heap_alloc_last w _)
  have ha4 : CellsW wa g (encB n G Cp) l := hp0.of_block (by rw [hwa]; exact Below.heap_alloc _ _ _ hg)
  have HMin := Lib.hid (rowsMin_any _ #[.pointer (some ⟨vb, 0, none⟩)] egh (encB n G Cp) (fun x m => cmpI (T m) (T x)) l g c m wa hm h0 hlen ha4 (fun W r s hr hs hk => hcmp W r s hr hs (ha2.trans ⟨hk.os, hk.tape, hk.output, by rw [hk.size]; exact Nat.le_refl _, fun k h1 h2 => hk.block k (by have : k ≠ g := fun e => h2 (by rw [e]); omega)⟩)))
  obtain ⟨f, hf⟩ : ∃ f, f = pickL (fun x m => cmpI (T m) (T x)) l (m - 1) := ⟨_, rfl⟩
  have hfl : f ∈ l := by rw [hf]; exact pickL_in (by omega)
  have hmax : ∀ r, r ∈ l → T r ≤ T f := fun r hr => by
    obtain ⟨p, hp, e⟩ := List.getElem_of_mem hr
    have := pickL_max (T := T) (l := l) (k := m - 1) p (by omega)
    rw [List.getD_eq_getElem?_getD, List.getElem?_eq_getElem hp, ← hf] at this
    simpa [e] using this
  rw [← hf] at HMin
  have HF := Lib.hid hfl
  have HMx := Lib.hid hmax
  have HC4 := Lib.hid ha4
  have HA := Lib.hid (And.intro ha1 (And.intro ha2 ha3))
  clear hp0 hcmp hm hf hfl hmax ha4 ha3 ha2 ha1
  go_enter Try.func104, Try.ntmps104
  go_wp2_with fail
  rw [← hwa]
  clear hwa
  refine HMin.out.mono ?_
  rintro e w1 ⟨rfl, q, hw1⟩
  obtain ⟨ha1, ha2, ha3⟩ := HA.out
  have hs1 : w1.heap.size = w.heap.size + 1 := by rw [hw1]; exact ha1
  have K1 := Lib.hid (show w.grownBy w1 (some g) from by rw [hw1]; exact ⟨ha2.os, ha2.tape, ha2.output, ha2.size, ha2.block⟩)
  have C1 := Lib.hid (show CellsW w1 g (encB n G Cp) l by rw [hw1]; exact HC4.out.drewN q)
  have F1 := Lib.hid (show w1.cell? ⟨w.heap.size, 0, none⟩ = some (.func (.func 105) #[] #[.pointer (some ⟨vb, 0, none⟩)]) from by rw [hw1]; simpa using ha3)
  have hs1' := Lib.hid hs1
  clear hw1 ha1 ha2 ha3 HA HC4 HMin hs1
  unfold encB
  go_wp2_with fail
  have hb2 := below_alloc (Below.refl w1.heap.size w1) (.cells #[.slice (some ⟨G f, 0, none⟩) n (Cp f)] 23)
  have hx2 := cell_of_row _ _ 0 _ _ _ (heap_alloc_last w1 (.cells #[.slice (some ⟨G f, 0, none⟩) n (Cp f)] 23))
  have hg1 : g < w1.heap.size := by have := hs1'.out; omega
  obtain ⟨w2, hw2⟩ : ∃ w2, w2 = w1.alloc (.cells #[.slice (some ⟨G f, 0, none⟩) n (Cp f)] 23) := ⟨_, rfl⟩
  rw [← hw2] at hb2 hx2 ⊢
  clear hw2
  have K2 := Lib.hid (show w.grownBy w2 (some g) from K1.out.trans ⟨hb2.os, hb2.tape, hb2.output, hb2.size, fun k hk _ => hb2.block k hk⟩)
  have C2 := C1.out.of_block (hb2.block g hg1)
  have F2 := (hb2.cell (p := ⟨w.heap.size, 0, none⟩) (by have := hs1'.out; show w.heap.size < _; omega)).trans F1.out
  have hsz2 := hb2.size
  have hs1o := hs1'.out
  have HDel := Lib.hid (rowsDelete_any 116 #[.pointer (some ⟨w.heap.size, 0, none⟩), .pointer (some ⟨w1.heap.size, 0, none⟩)] (enters_of Try.func116 (by kernel_rfl) rfl) (encB n G Cp) (fun _ => rfl) (fun r => decide (cmpI (T r) (T f) < 0)) l g c m w2 QM.out hlen hc hc2 C2 (fun W r hr hk => by
    have hne : w.heap.size ≠ g := by omega
    have hne1 : w1.heap.size ≠ g := by omega
    exact foremost1_any w.heap.size w1.heap.size _ #[.pointer (some ⟨vb, 0, none⟩)] egh (encB n G Cp f) (encB n G Cp r) (cmpI (T r) (T f)) W ((hk.cell (by show w.heap.size < g ∨ g + 1 ≤ w.heap.size; omega)).trans F2) ((hk.cell (by show w1.heap.size < g ∨ g + 1 ≤ w1.heap.size; omega)).trans hx2) (HCmp.out W f r HF.out hr (K2.out.trans ⟨hk.os, hk.tape, hk.output, by rw [hk.size]; exact Nat.le_refl _, fun k h1 h2 => hk.block k (by have : k ≠ g := fun e => h2 (by rw [e]); omega)⟩))))
  clear C2 F2 hx2 hb2 hsz2 hs1o
  refine HDel.out.mono ?_
  rintro e w3 ⟨rfl, hc3, hk3⟩
  have EF := Lib.hid (show (l.filter fun r => !decide (cmpI (T r) (T f) < 0)) = l.filter fun r => !decide (T r < T f) from List.filter_congr fun r _ => by rw [show decide (cmpI (T r) (T f) < 0) = decide (T r < T f) from decide_eq_decide.2 cmpI_lt])
  have HC3 := Lib.hid hc3
  have K3 := Lib.hid (show w.grownBy w3 (some g) from K2.out.trans ⟨hk3.os, hk3.tape, hk3.output, by rw [hk3.size]; exact Nat.le_refl _, fun k h1 h2 => hk3.block k (by have : k ≠ g := fun e => h2 (by rw [e]); omega)⟩)
  rw [EF.out]
  clear hc3 hk3 HDel
  go_wp2
  go_ret
  exact ⟨f, HF.out, HMx.out, rfl, by rw [← EF.out]; exact HC3.out, K3.out⟩

theorem keeps_grown {g : Nat} {w W : World} (h : Keeps g (g + 1) w W) : w.grownBy W (some g) := by
  refine ⟨h.os, h.tape, h.output, by rw [h.size]; exact Nat.le_refl _, fun k _ h2 => h.block k ?_⟩
  have : k ≠ g := fun e => h2 (by rw [e])
  omega
/-- Of a list of deals, those with the greatest total. -/
def bestsL (n : Nat) (Z : Nat → Nat → Int) (FF : List (List Int)) : List (List Int) := FF.filter fun D => decide (dealT Z (nth D) n = mostT n Z FF)
/-- The r-th of all deals. -/
def rowD (m n r : Nat) : List Int := (dealsP m n).getD r []
/-- What best hands back: the rows that tell these deals, with a top row of its own. -/
def RetBest (n m : Nat) (BB : List (List Int)) (w : World) (e : Ending) (w' : World) : Prop :=
  ∃ (g cap : Nat) (l : List Nat) (G Cp : Nat → Nat), e = .returned (.slice (some ⟨g, 0, none⟩) l.length cap) ∧ CellsW w' g (encB n G Cp) l ∧ (∀ r, r ∈ l → w.heap.size ≤ G r ∧ G r < w'.heap.size ∧ OwnR w' (G r) (some ⟨G r, 0, none⟩) n (nth (rowD m n r))) ∧ l.map (rowD m n) = BB ∧ Below w.heap.size w w'

theorem rowD_in {m n r : Nat} (h : r < (dealsP m n).length) : rowD m n r ∈ dealsP m n := by
  unfold rowD
  rw [List.getD_eq_getElem?_getD, List.getElem?_eq_getElem h]; exact List.getElem_mem h
theorem rows_map (m n : Nat) : (List.range (dealsP m n).length).map (rowD m n) = dealsP m n := by
  refine List.ext_getElem (by simp) fun i i1 i2 => ?_
  simp [rowD, List.getD_eq_getElem?_getD, i2]
theorem dealsP_ok {m n : Nat} {D : List Int} : D ∈ dealsP m n ↔ D.length = n ∧ IsDeal n m (nth D) := by rw [← deals_way n m 0]; exact mem_deal 0
theorem map_fil (p : List Int → Bool) (m n : Nat) : ((List.range (dealsP m n).length).filter fun r => p (rowD m n r)).map (rowD m n) = (dealsP m n).filter p := by
  have h := List.filter_map (f := rowD m n) (p := p) (l := List.range (dealsP m n).length)
  rw [rows_map] at h
  exact h.symm
/-- The greatest total is that of the deal which the search finds. -/
theorem most_found {m n f : Nat} {Z : Nat → Nat → Int} {l : List Nat} {FF : List (List Int)} (hl : l.map (rowD m n) = FF) (hf : f ∈ l) (hpos : 0 ≤ dealT Z (nth (rowD m n f)) n) (hmax : ∀ r, r ∈ l → dealT Z (nth (rowD m n r)) n ≤ dealT Z (nth (rowD m n f)) n) : dealT Z (nth (rowD m n f)) n = mostT n Z FF := by
  have h1 : dealT Z (nth (rowD m n f)) n ≤ mostT n Z FF := mostT_ge (by rw [← hl]; exact List.mem_map_of_mem hf)
  rcases mostT_is (n := n) (Z := Z) FF with e | ⟨E, hE, e⟩
  · omega
  · rw [← hl] at hE
    obtain ⟨r, hr, rfl⟩ := List.mem_map.1 hE
    have := hmax r hr
    omega
theorem deal_nonneg {n m : Nat} {Z : Nat → Nat → Int} {D : Nat → Int} (hZ : ∀ r, r < n → ∀ x, x < m → 0 ≤ Z r x ∧ Z r x ≤ 20) (hD : IsDeal n m D) : 0 ≤ dealT Z D n ∧ dealT Z D n ≤ 20 * (n : Int) :=
  dealT_range (by omega) n fun i hi hd => hZ i hi _ (by have := hD.1 i hi; omega)

set_option maxRecDepth 100000 in
set_option maxHeartbeats 1600000 in
theorem best_any (n c m : Nat) (a : Option Addr) (A : Nat → Option Addr) (L C : Nat → Nat) (Z : Nat → Nat → Int) (w : World) (hn1 : 1 ≤ n) (hn : n ≤ 4) (hm5 : m ≤ 5) (hL : ∀ r, r < n → L r = m) (hZ : ∀ r, r < n → ∀ x, x < m → 0 ≤ Z r x ∧ Z r x ≤ 20) (ha0 : Tab w a n A L C Z)
    (gh : Nat) (lh : Array Value) (egh : ∀ args w, (callFunc gh args).run Try.prog w = .ok (.enter gh args) w) (p : List Int → Bool) (hp : ∀ W D aD cD, Below w.heap.size w W → D ∈ dealsP m n → Rd W aD n (nth D) → FnGives Try.prog gh lh #[.slice aD n cD] (.bool (p D)) W) (hnone : p (List.replicate n (-1)) = true) :
    Calls Try.prog 68 #[.slice a n c, .func (.func gh) #[] lh] w (RetBest n m (bestsL n Z ((dealsP m n).filter p)) w) := by
  have hb1 := below_alloc (Below.refl w.heap.size w) (.cells #[.slice a n c] 44)
  have hx1 := heap_alloc_last w (.cells #[.slice a n c] 44)
  obtain ⟨wa, hwa⟩ : ∃ wa, wa = w.alloc (.cells #[.slice a n c] 44) := ⟨_, rfl⟩
  have hsa : wa.heap.size = w.heap.size + 1 := by rw [hwa]; simp
  rw [← hwa] at hb1 hx1
  have hb2 := below_alloc (Below.refl wa.heap.size wa) (.cells #[.func (.func gh) #[] lh] 48)
  have hx2 := heap_alloc_last wa (.cells #[.func (.func gh) #[] lh] 48)
  obtain ⟨wb, hwb⟩ : ∃ wb, wb = wa.alloc (.cells #[.func (.func gh) #[] lh] 48) := ⟨_, rfl⟩
  have hsb : wb.heap.size = w.heap.size + 2 := by rw [hwb]; simp [hsa]
  rw [← hwb] at hb2 hx2
  rw [hsa] at hx2
  have B0 := Lib.hid (show Below w.heap.size w wb from hb1.trans (hb2.mono (by omega)))
  have hxv := (hb2.cell (p := ⟨w.heap.size, 0, none⟩) (by show w.heap.size < _; omega)).trans (cell_of_row _ _ 0 _ _ _ hx1)
  have hxh := cell_of_row _ _ 0 _ _ _ hx2
  have HX := Lib.hid (show wb.cell? ⟨w.heap.size, 0, none⟩ = some (.slice a n c) ∧ wb.cell? ⟨w.heap.size + 1, 0, none⟩ = some (.func (.func gh) #[] lh) from ⟨hxv, hxh⟩)
  have HD := Lib.hid (bidDeals_any n c m a A L C Z wb hn1 hn (hL 0 (by omega)).symm hm5 (ha0.below (Nat.le_refl _) B0.out))
  have HA := Lib.hid ha0
  have HL := Lib.hid hL
  have HZ := Lib.hid hZ
  have HP := Lib.hid hp
  have HN := Lib.hid hnone
  have hsb' := Lib.hid hsb
  clear hb1 hx1 hb2 hx2 hxv hxh ha0 hL hZ hp hnone hsa hsb
  go_enter Try.func68, Try.ntmps68
  go_wp2_with fail
  rw [← hwa, ← hwb]
  clear hwa hwb
  refine HD.out.mono ?_
  rintro e w1 ⟨g, cap, G, Cp, rfl, hM, hB⟩
  have hg := hM.1.lt g rfl
  have hcap := owns_fits hM.1
  obtain ⟨M, hMM⟩ : ∃ M, M = (dealsP m n).length := ⟨_, rfl⟩
  have hM1296 : M ≤ 1296 := by rw [hMM]; exact dealsP_small hm5 hn
  have hsb := hsb'.out
  have B1 := Lib.hid (show Below w.heap.size w w1 from B0.out.trans (hB.mono B0.out.size))
  have HRow := Lib.hid (fun W r (hr : r < M) (hgr : w1.grownBy W (some g)) => show w.heap.size ≤ G r ∧ G r < W.heap.size ∧ OwnR W (G r) (some ⟨G r, 0, none⟩) n (nth (rowD m n r)) from by
    obtain ⟨k1, k2, k3, k4⟩ := hM.2.1 r (by rw [← hMM]; exact hr)
    have e1 : lenL (dealsP m n) r = n := dealsP_len (rowD_in (by rw [← hMM]; exact hr))
    rw [e1] at k4
    exact ⟨by omega, Nat.lt_of_lt_of_le k2 hgr.size, k4.of_block (hgr.block _ k2 (fun e => k3 e.symm))⟩)
  have HTab := Lib.hid (fun W (hgr : w1.grownBy W (some g)) => show Tab W a n A L C Z from HA.out.below (Nat.le_refl _) (B1.out.trans ⟨hgr.os, hgr.tape, hgr.output, hgr.size, fun k hk => hgr.block k (Nat.lt_of_lt_of_le hk B1.out.size) (by intro e; cases e; omega)⟩))
  have HCl := Lib.hid (fun W (hgr : w1.grownBy W (some g)) => show W.cell? ⟨w.heap.size, 0, none⟩ = some (.slice a n c) ∧ W.cell? ⟨w.heap.size + 1, 0, none⟩ = some (.func (.func gh) #[] lh) from by
    obtain ⟨x1, x2⟩ := HX.out
    have y1 := (hB.cell (p := ⟨w.heap.size, 0, none⟩) (by show w.heap.size < _; omega)).trans x1
    have y2 := (hB.cell (p := ⟨w.heap.size + 1, 0, none⟩) (by show w.heap.size + 1 < _; omega)).trans x2
    exact ⟨hgr.cell y1 (by intro e; have : w.heap.size = g := by simpa using e
                           omega), hgr.cell y2 (by intro e; have : w.heap.size + 1 = g := by simpa using e
                                                   omega)⟩)
  have C1 : CellsW w1 g (encB n G Cp) (List.range M) := fun k hk => by
    have hk : k < M := by simpa using hk
    have h1 := hM.1.cells (g := g) rfl k (.slice (some ⟨G k, 0, none⟩) (lenL (dealsP m n) k) (Cp k)) (by rw [← hMM]; simp [hk])
    rw [Go.WideShapes.add_plain, Nat.zero_add, show lenL (dealsP m n) k = n from dealsP_len (rowD_in (by rw [← hMM]; exact hk))] at h1
    rw [show (List.range M).getD k 0 = k from by rw [List.getD_eq_getElem?_getD, List.getElem?_range hk]; rfl]
    exact ⟨h1, hM.1.frozenAt _⟩
  have hBel := Lib.hid (fun W (hgr : w1.grownBy W (some g)) => show Below w.heap.size w W from B1.out.trans ⟨hgr.os, hgr.tape, hgr.output, hgr.size, fun k hk => hgr.block k (Nat.lt_of_lt_of_le hk B1.out.size) (by intro e; cases e; omega)⟩)
  rw [← hMM] at hcap
  have HDel := Lib.hid (rowsDelete_any 103 #[.pointer (some ⟨w.heap.size + 1, 0, none⟩)] (enters_of Try.func103 (by kernel_rfl) rfl) (encB n G Cp) (fun _ => rfl) (fun r => !p (rowD m n r)) (List.range M) g cap M w1 (by simp) (by omega) hcap.1 hcap.2 C1 (fun W r hr hk => by
    have hr := List.mem_range.1 hr
    have hgr := keeps_grown hk
    exact best1_any (w.heap.size + 1) gh lh egh _ (p (rowD m n r)) W (HCl.out W hgr).2 (HP.out W (rowD m n r) _ _ (hBel.out W hgr) (rowD_in (by rw [← hMM]; exact hr)) (HRow.out W r hr hgr).2.2.rd)))
  rw [← hMM]
  have QMM := Lib.hid hMM
  clear hM hB C1 HD HX hMM
  go_wp2_with fail
  refine HDel.out.mono ?_
  rintro e w2 ⟨rfl, hc2, hk2⟩
  have hMM := QMM.out
  have EL : (List.range M).filter (fun r => !(!p (rowD m n r))) = (List.range M).filter fun r => p (rowD m n r) := List.filter_congr fun r _ => by simp
  rw [EL] at hc2 ⊢
  obtain ⟨l, hl⟩ : ∃ l, l = (List.range M).filter fun r => p (rowD m n r) := ⟨_, rfl⟩
  have hlm : l.map (rowD m n) = (dealsP m n).filter p := by rw [hl, hMM]; exact map_fil p m n
  have hlM : ∀ r, r ∈ l → r < M := fun r hr => by rw [hl] at hr; exact List.mem_range.1 (List.mem_filter.1 hr).1
  have hl0 : 0 < l.length := by
    have h1 : List.replicate n (-1 : Int) ∈ (dealsP m n).filter p := List.mem_filter.2 ⟨dealsP_none n, HN.out⟩
    rw [← hlm] at h1
    obtain ⟨r, hr, _⟩ := List.mem_map.1 h1
    exact List.length_pos_of_mem hr
  have hlM2 : l.length ≤ M := by rw [hl]; exact Nat.le_trans (List.length_filter_le _ _) (by simp)
  rw [← hl] at hc2 ⊢
  have hgr2 := keeps_grown hk2
  have HFo := Lib.hid (foremost_any n g cap l.length w.heap.size G Cp l (fun r => dealT Z (nth (rowD m n r)) n) w2 rfl hl0 (by omega) (by omega) hcap.2 hc2 (fun W r s hr hs hgr => by
    have hgr := hgr2.trans hgr
    have hD : ∀ r, r ∈ l → ∀ i, i < n → -1 ≤ nth (rowD m n r) i ∧ nth (rowD m n r) i < m := fun r hr => (dealsP_ok.1 (rowD_in (by rw [← hMM]; exact hlM r hr))).2.1
    exact best2_any w.heap.size n c m a A L C Z _ _ _ _ _ _ W (by omega) HL.out HZ.out (HTab.out W hgr) (HCl.out W hgr).1 (hD r hr) (hD s hs) (HRow.out W r (hlM r hr) hgr).2.2.rd (HRow.out W s (hlM s hs) hgr).2.2.rd))
  have HG2 := Lib.hid hgr2
  have HLM := Lib.hid (And.intro hlm (And.intro hlM hMM))
  clear hc2 hk2 EL hgr2 hl hlm hlM HDel
  obtain ⟨q, hq⟩ : ∃ q, q = l.length := ⟨_, rfl⟩
  rw [← hq] at HFo ⊢
  clear hq hl0 hlM2
  go_wp2_with fail
  refine HFo.out.mono ?_
  rintro e w3 ⟨f, hf, hmax, rfl, hc3, hg3⟩
  obtain ⟨hlm, hlM, hMM⟩ := HLM.out
  have hgr := HG2.out.trans hg3
  have hpos := (deal_nonneg HZ.out (dealsP_ok.1 (rowD_in (n := n) (m := m) (by rw [← hMM]; exact hlM f hf))).2).1
  have hmo := most_found (Z := Z) hlm hf hpos hmax
  have HE := Lib.hid (show (l.filter fun r => !decide (dealT Z (nth (rowD m n r)) n < dealT Z (nth (rowD m n f)) n)).map (rowD m n) = bestsL n Z ((dealsP m n).filter p) from by
    have e1 : (l.filter fun r => !decide (dealT Z (nth (rowD m n r)) n < dealT Z (nth (rowD m n f)) n)) = l.filter fun r => decide (dealT Z (nth (rowD m n r)) n = mostT n Z ((dealsP m n).filter p)) := List.filter_congr fun r hr => by
      have h1 := hmax r hr
      rw [← hmo]
      by_cases e : dealT Z (nth (rowD m n r)) n < dealT Z (nth (rowD m n f)) n
      · have : ¬ dealT Z (nth (rowD m n r)) n = dealT Z (nth (rowD m n f)) n := by omega
        simp [e, this]
      · have : dealT Z (nth (rowD m n r)) n = dealT Z (nth (rowD m n f)) n := by omega
        simp [this]
    rw [e1]
    unfold bestsL
    rw [← hlm, List.filter_map]
    rfl)
  have HC3 := Lib.hid hc3
  have HR3 := Lib.hid (fun r (hr : r ∈ l.filter fun r => !decide (dealT Z (nth (rowD m n r)) n < dealT Z (nth (rowD m n f)) n)) => HRow.out w3 r (hlM r (List.mem_filter.1 hr).1) hgr)
  have HB3 := Lib.hid (hBel.out w3 hgr)
  obtain ⟨l3, hl3⟩ : ∃ l3, l3 = l.filter fun r => !decide (dealT Z (nth (rowD m n r)) n < dealT Z (nth (rowD m n f)) n) := ⟨_, rfl⟩
  rw [← hl3] at HC3 HR3 HE ⊢
  clear hc3 hmax hpos hmo hgr hlm hlM hl3
  go_wp2
  go_ret
  exact ⟨g, cap, l3, G, Cp, rfl, HC3.out, HR3.out, HE.out, HB3.out⟩
end Go.Proofs.Ytaipodnhnekpjaa

/- The program's most, and the predicate that always holds. -/
namespace Go.Proofs.Ytaipodnhnekpjaa
set_option linter.unusedVariables false
set_option linter.unusedSimpArgs false
open Go.RowKit

/-- A number where something holds, else 0. -/
noncomputable def ifT (P : Prop) (x : Int) : Int := if tt P = true then x else 0
theorem ifT_yes {P : Prop} {x : Int} (h : P) : ifT P x = x := by unfold ifT; rw [tt_of h]; rfl
theorem ifT_no {P : Prop} {x : Int} (h : ¬ P) : ifT P x = 0 := by unfold ifT; rw [tt_no h]; rfl

theorem IsBids.rows {n : Nat} {L : Nat → Nat} {Z : Nat → Nat → Int} (h : IsBids n L Z) : ∀ r, r < n → L r = L 0 := fun r hr => (h.2 r hr).1
theorem IsBids.cells {n : Nat} {L : Nat → Nat} {Z : Nat → Nat → Int} (h : IsBids n L Z) : ∀ r, r < n → ∀ x, x < L 0 → 0 ≤ Z r x ∧ Z r x ≤ 20 := fun r hr => (h.2 r hr).2
theorem nth_none {n i : Nat} (h : i < n) : nth (List.replicate n (-1 : Int)) i = -1 := by
  unfold nth
  rw [List.getD_eq_getElem?_getD, List.getElem?_replicate, if_pos h]; rfl
theorem none_deals (n : Nat) (Z : Nat → Nat → Int) : dealT Z (nth (List.replicate n (-1 : Int))) n = 0 := by
  rw [dealT_congr (B := fun _ => -1) n fun i hi => nth_none hi]
  exact none_total Z n
/-- There is a best one. -/
theorem bests_pos {n : Nat} {Z : Nat → Nat → Int} {FF : List (List Int)} (h : List.replicate n (-1 : Int) ∈ FF) : 0 < (bestsL n Z FF).length := by
  have hD : ∃ D, D ∈ FF ∧ dealT Z (nth D) n = mostT n Z FF := by
    rcases mostT_is (n := n) (Z := Z) FF with e | h'
    · exact ⟨_, h, by rw [none_deals, e]⟩
    · exact h'
  obtain ⟨D, hD, e⟩ := hD
  exact List.length_pos_of_mem (List.mem_filter.2 ⟨hD, by simpa using e⟩)
theorem bests_total {n : Nat} {Z : Nat → Nat → Int} {FF : List (List Int)} {D : List Int} (h : D ∈ bestsL n Z FF) : D ∈ FF ∧ dealT Z (nth D) n = mostT n Z FF := by
  obtain ⟨h1, h2⟩ := List.mem_filter.1 h
  exact ⟨h1, by simpa using h2⟩

theorem anyDeal_gives (v : Value) (W : World) : FnGives Try.prog 60 #[] #[v] (.bool true) W := by
  unfold FnGives
  show Calls Try.prog 60 #[v] W _
  go_enter Try.func60, Try.ntmps60
  go_wp2
  go_ret
  exact ⟨rfl, 0, rfl⟩

/-- The first of the rows that best hands back. -/
theorem RetBest.first {n m : Nat} {Z : Nat → Nat → Int} {FF : List (List Int)} {w : World} {e : Ending} {w' : World} (h : RetBest n m (bestsL n Z FF) w e w') (hF : List.replicate n (-1 : Int) ∈ FF) : ∃ g cap M G c2, e = .returned (.slice (some ⟨g, 0, none⟩) M cap) ∧ 0 < M ∧ M = (bestsL n Z FF).length ∧ w'.cell? ⟨g, 0, none⟩ = some (.slice (some ⟨G, 0, none⟩) n c2) ∧ w.heap.size ≤ G ∧ G < w'.heap.size ∧ OwnR w' G (some ⟨G, 0, none⟩) n (nth ((bestsL n Z FF).getD 0 [])) ∧ (bestsL n Z FF).getD 0 [] ∈ bestsL n Z FF ∧ Below w.heap.size w w' := by
  obtain ⟨g, cap, l, G, Cp, rfl, hc, hr, hm, hb⟩ := h
  have hp := bests_pos (Z := Z) hF
  have hlen : l.length = (bestsL n Z FF).length := by rw [← hm, List.length_map]
  have h0 : 0 < l.length := by omega
  have hin : l.getD 0 0 ∈ l := getD_in h0
  have e0 : (bestsL n Z FF).getD 0 [] = rowD m n (l.getD 0 0) := by
    rw [← hm]
    simp [List.getD_eq_getElem?_getD, h0]
  obtain ⟨k1, k2, k3⟩ := hr _ hin
  refine ⟨g, cap, l.length, G (l.getD 0 0), Cp (l.getD 0 0), rfl, h0, hlen, (hc 0 h0).1, k1, k2, by rw [e0]; exact k3, ?_, hb⟩
  rw [List.getD_eq_getElem?_getD, List.getElem?_eq_getElem hp]
  exact List.getElem_mem hp

set_option maxHeartbeats 800000 in
theorem most_any (n c m : Nat) (a : Option Addr) (A : Nat → Option Addr) (L C : Nat → Nat) (Z : Nat → Nat → Int) (w : World) (hn1 : 1 ≤ n) (hn : n ≤ 4) (hm5 : m ≤ 5) (hL : ∀ r, r < n → L r = m) (hZ : ∀ r, r < n → ∀ x, x < m → 0 ≤ Z r x ∧ Z r x ≤ 20) (ha0 : Tab w a n A L C Z)
    (gh : Nat) (lh : Array Value) (egh : ∀ args w, (callFunc gh args).run Try.prog w = .ok (.enter gh args) w) (p : List Int → Bool) (hp : ∀ W D aD cD, Below w.heap.size w W → D ∈ dealsP m n → Rd W aD n (nth D) → FnGives Try.prog gh lh #[.slice aD n cD] (.bool (p D)) W) (hnone : p (List.replicate n (-1)) = true) :
    Calls Try.prog 59 #[.slice a n c, .func (.func gh) #[] lh] w fun e w' => e = .returned (.int .i64 (mostT n Z ((dealsP m n).filter p))) ∧ Below w.heap.size w w' := by
  have HB := Lib.hid (best_any n c m a A L C Z w hn1 hn hm5 hL hZ ha0 gh lh egh p hp hnone)
  have hF : List.replicate n (-1 : Int) ∈ (dealsP m n).filter p := List.mem_filter.2 ⟨dealsP_none n, hnone⟩
  have HF := Lib.hid hF
  have HA := Lib.hid ha0
  have HL := Lib.hid hL
  have HZ := Lib.hid hZ
  clear hL hZ ha0 hp hnone hF
  go_enter Try.func59, Try.ntmps59
  go_wp2_with fail
  refine HB.out.mono ?_
  intro e w1 hret
  obtain ⟨g, cap, M, G, c2, rfl, hM0, _, hc, _, _, hown, hin, hb⟩ := hret.first HF.out
  obtain ⟨D, hD⟩ : ∃ D, D = (bestsL n Z ((dealsP m n).filter p)).getD 0 [] := ⟨_, rfl⟩
  rw [← hD] at hown hin
  obtain ⟨hin1, hmost⟩ := bests_total hin
  have hdl := (dealsP_ok.1 (List.mem_filter.1 hin1).1).2
  have HT := Lib.hid (bidTotal_any n c n c2 m a (some ⟨G, 0, none⟩) A L C Z (nth D) w1 (Nat.le_refl _) (by omega) HL.out HZ.out hdl.1 (HA.out.below (Nat.le_refl _) hb) hown.rd)
  rw [hmost] at HT
  have BB := Lib.hid hb
  have hz : (0 : Int) < (M : Int) := by omega
  clear hret hown hin hin1 hdl hmost hb hD HB
  go_wp2_with (go_at_call 98; refine HT.out.mono ?_; rintro e w' ⟨rfl, rfl⟩)
  go_ret
  exact ⟨rfl, BB.out⟩

/-- .. of all deals. -/
theorem most_all (n c m : Nat) (a : Option Addr) (A : Nat → Option Addr) (L C : Nat → Nat) (Z : Nat → Nat → Int) (w : World) (hn1 : 1 ≤ n) (hn : n ≤ 4) (hm5 : m ≤ 5) (hL : ∀ r, r < n → L r = m) (hZ : ∀ r, r < n → ∀ x, x < m → 0 ≤ Z r x ∧ Z r x ≤ 20) (ha0 : Tab w a n A L C Z) :
    Calls Try.prog 59 #[.slice a n c, .func (.func 60) #[] #[]] w fun e w' => e = .returned (.int .i64 (bestV n m Z)) ∧ Below w.heap.size w w' := by
  have h := most_any n c m a A L C Z w hn1 hn hm5 hL hZ ha0 _ #[] (enters_of Try.func60 (by kernel_rfl) rfl) (fun _ => true) (fun W D aD cD _ _ _ => anyDeal_gives _ W) rfl
  rw [show (dealsP m n).filter (fun _ => true) = dealsP m n from List.filter_eq_self.2 fun _ _ => rfl, ← deals_way n m 0] at h
  exact h
end Go.Proofs.Ytaipodnhnekpjaa
