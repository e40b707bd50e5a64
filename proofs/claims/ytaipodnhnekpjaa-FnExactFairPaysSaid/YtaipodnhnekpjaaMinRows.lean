/- The library's slices.MinFunc at rows, its comparison any function value that only reads. -/
import Derived.Test.YtaipodnhnekpjaaDelKit
import Derived.Test.YtaipodnhnekpjaaProg
import Derived.Lib.SliceRun
import Derived.Shelf.GgClosure.Gives
import Derived.Shelf.RegionOpenPlain
namespace Go.Proofs.Ytaipodnhnekpjaa
set_option linter.unusedVariables false
set_option linter.unusedSimpArgs false
open Go.RowKit

/-- The first of the least, up to the place k. -/
def pickL (cf : Nat → Nat → Int) (l : List Nat) : Nat → Nat
  | 0 => l.getD 0 0
  | k + 1 => if cf (l.getD (k + 1) 0) (pickL cf l k) < 0 then l.getD (k + 1) 0 else pickL cf l k
theorem pickL_in {cf : Nat → Nat → Int} {l : List Nat} : ∀ {k : Nat}, k < l.length → pickL cf l k ∈ l
  | 0, h => getD_in h
  | k + 1, h => by
    unfold pickL
    by_cases e : cf (l.getD (k + 1) 0) (pickL cf l k) < 0
    · rw [if_pos e]; exact getD_in h
    · rw [if_neg e]; exact pickL_in (by omega)

set_option maxHeartbeats 1600000 in
theorem rowsMin_any (g : Nat) (lb : Array Value) (eg : ∀ args w, (callFunc g args).run Try.prog w = .ok (.enter g args) w) (enc : Nat → Value) (cf : Nat → Nat → Int) (l : List Nat) (b c m : Nat) (w : World) (hm0 : m = l.length) (h0 : 0 < m) (hlen : m ≤ 1048576) (hp0 : CellsW w b enc l)
    (hg0 : ∀ W r s, r ∈ l → s ∈ l → Keeps b (b + 1) w W → FnGives Try.prog g lb #[enc r, enc s] (.int .i64 (cf r s)) W) :
    Calls Try.prog 115 #[.slice (some ⟨b, 0, none⟩) m c, .func (.func g) #[] lb] w fun e w' => e = .returned (enc (pickL cf l (m - 1))) ∧ ∃ q, w' = w.drewN q := by
  have HP := Lib.hid hp0
  have HG := Lib.hid hg0
  have QM := Lib.hid hm0
  have c0 := (hp0 0 (by omega)).1
  have H0 := Lib.hid (show enc (l.getD 0 0) = enc (pickL cf l 0) from rfl)
  obtain ⟨v0, hv0⟩ : ∃ v, v = enc (l.getD 0 0) := ⟨_, rfl⟩
  rw [← hv0] at c0 H0
  have d1 : decide ((m : Int) < 1) = false := by simp; omega
  clear hp0 hg0 hm0 hv0
  go_enter Try.func115, Try.ntmps115
  go_wp2
  clear c0 d1
  go_loopw [5, 6] (fun s i wr => ∃ (k q : Nat) (v : Value), k + 1 ≤ m ∧ i = .int .i64 ((k : Int) + 1) ∧ v = s ∧ v = enc (pickL cf l k) ∧ wr = w.drewN q) (fun _ i _ => m - (intOf i).toNat)
  case atStart => exact ⟨0, 0, v0, by omega, rfl, rfl, H0.out, rfl⟩
  case round =>
    obtain ⟨k, q, v, hk, rfl, rfl, hv, hwr⟩ := hrel
    have HW := Lib.hid hwr
    have HV := Lib.hid hv
    clear H0
    by_cases hlt : k + 1 < m
    · have hkl : k + 1 < l.length := by rw [← QM.out]; exact hlt
      have hck := (HP.out (k + 1) hkl).1
      obtain ⟨r, hr⟩ : ∃ r, r = l.getD (k + 1) 0 := ⟨_, rfl⟩
      have hcall := HG.out wr r (pickL cf l k) (by rw [hr]; exact getD_in hkl) (pickL_in (by omega)) (by rw [hwr]; exact keeps_drewN _ _ _)
      rw [← hr] at hck
      rw [← hv] at hcall
      obtain ⟨u, hu⟩ : ∃ u, u = enc r := ⟨_, rfl⟩
      have hck' : wr.cell? ⟨b, k + 1, none⟩ = some u := by rw [hwr, hu]; simpa using hck
      rw [← hu] at hcall
      unfold FnGives at hcall
      obtain ⟨x, hx⟩ : ∃ x, x = cf r (pickL cf l k) := ⟨_, rfl⟩
      rw [← hx] at hcall
      have HN := Lib.hid (show pickL cf l (k + 1) = if x < 0 then r else pickL cf l k by rw [hx, hr]; rfl)
      have QU := Lib.hid hu
      have i1 : (0 : Int) ≤ (k : Int) + 1 := by omega
      have i2 : (k : Int) + 1 < (m : Int) := by omega
      have i3 : ((k : Int) + 1).toNat = k + 1 := by omega
      clear hr hkl hwr hck hv hu hx
      by_cases hneg : x < 0
      · have d1 : decide (x < 0) = true := by simpa using hneg
        have HX := Lib.hid hneg
        clear hneg
        go_wp2_with (go_at_fn g; refine hcall.mono ?_; rintro e w' ⟨rfl, q2, rfl⟩)
        go_roundw
        case rel => exact ⟨k + 1, q + q2, u, by omega, by go_num, rfl, by rw [HN.out, if_pos HX.out]; exact QU.out, by rw [HW.out]; exact drewN_two _ _ _⟩
        case measure => simp [intOf]; omega
      · have d1 : decide (x < 0) = false := by simpa using hneg
        have HX := Lib.hid hneg
        clear hneg
        go_wp2_with (go_at_fn g; refine hcall.mono ?_; rintro e w' ⟨rfl, q2, rfl⟩)
        go_roundw
        case rel => exact ⟨k + 1, q + q2, v, by omega, by go_num, rfl, by rw [HN.out, if_neg (by have := HX.out; omega)]; exact HV.out, by rw [HW.out]; exact drewN_two _ _ _⟩
        case measure => simp [intOf]; omega
    · have d1 : decide ((k : Int) + 1 < m) = false := by simp; omega
      have HE := Lib.hid (show m - 1 = k by omega)
      clear hv hwr
      go_wp2
      go_ret
      exact ⟨by rw [HE.out, ← HV.out]; rfl, q, HW.out⟩
end Go.Proofs.Ytaipodnhnekpjaa
