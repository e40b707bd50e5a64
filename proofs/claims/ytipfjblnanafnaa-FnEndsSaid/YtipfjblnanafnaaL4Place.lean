/- The model's l4Place: where a giving stands among all. -/
import Derived.Test.YtipfjblnanafnaaGivsModel
import Derived.Test.YtipfjblnanafnaaSeq
import Derived.Test.YtipfjblnanafnaaProg
namespace Go.Proofs.Ytipfjblnanafnaa
set_option linter.unusedVariables false
set_option linter.unusedSimpArgs false
open Go.RowKit

/-- The first k numbers of row i are G's. -/
def EqTo (LL : List (List Int)) (G : Nat → Int) (i k : Nat) : Prop := ∀ j, j < k → nthL LL i j = G j
theorem eqTo_next {LL : List (List Int)} {G : Nat → Int} {i k : Nat} (h : EqTo LL G i k) (e : nthL LL i k = G k) : EqTo LL G i (k + 1) := fun j hj => by
  by_cases h' : j = k
  · subst h'; exact e
  · exact h j (by omega)

set_option maxHeartbeats 1600000 in
theorem l4Place_any (n M c d x : Nat) (a b : Option Addr) (A : Nat → Option Addr) (C : Nat → Nat) (LL : List (List Int)) (G : Nat → Int) (w : World) (hn : n ≤ 5) (hM : M = LL.length) (hM2 : M ≤ 7776) (hl : ∀ r, r < M → lenL LL r = n) (hnd : LL.Nodup) (hx : x < M) (hG : ∀ j, j < n → nthL LL x j = G j)
    (ha : Tab w a M A (lenL LL) C (nthL LL)) (hb : Rd w b n G) :
    Calls Try.prog 77 #[.slice a M c, .slice b n d] w fun e w' => e = .returned (.int .i64 (x : Nat)) ∧ Below w.heap.size w w' := by
  have HA := Lib.hid ha
  have HB := Lib.hid hb
  have HL := Lib.hid hl
  have HX := Lib.hid (show EqTo LL G x n from hG)
  have HN := Lib.hid (show ∀ i, i < x → ¬ EqTo LL G i n from fun i hi h => by
    have := place_one hnd (fun r hr => hl r (by omega)) (i := i) (x := x) (by omega) (by omega) (fun j hj => (h j hj).trans (hG j hj).symm)
    omega)
  clear ha hb hl hnd hG hM
  go_enter Try.func77, Try.ntmps77
  go_wp2
  go_loopw [5, 6, 7] (fun s _ _ wr => ∃ i : Nat, i ≤ x ∧ s = .int .i64 i ∧ Below w.heap.size w wr) (fun s _ _ _ => x + 1 - (intOf s).toNat)
  case atStart => exact ⟨0, Nat.zero_le _, rfl, Below.refl _ _⟩
  case round =>
    obtain ⟨i, hi, rfl, hB⟩ := hrel
    have BR := Lib.hid hB
    have hiM : i < M := by omega
    clear hB
    go_wp2
    go_loopw [6, 7] (fun sm s wr => ∃ k : Nat, k ≤ n ∧ s = .int .i64 k ∧ sm = .bool (tt (EqTo LL G i k)) ∧ Below w.heap.size w wr) (fun _ s _ => n - (intOf s).toNat)
    case atStart => exact ⟨0, Nat.zero_le _, rfl, by rw [tt_of (show EqTo LL G i 0 from fun j hj => by omega)], BR.out⟩
    case round =>
      obtain ⟨k, hk, rfl, rfl, hB⟩ := hrel
      have BQ := Lib.hid hB
      clear hB BR
      by_cases hkn : k < n
      · by_cases hE : EqTo LL G i k
        · rw [tt_of hE]
          obtain ⟨ba, oa, rfl, hca, hra⟩ := (HA.out.below (Nat.le_refl _) BQ.out) i hiM
          rw [HL.out i hiM] at hca hra
          obtain ⟨bi, oi, hAi, hci⟩ := hra k hkn
          rw [hAi] at hca
          obtain ⟨bg, og, rfl, hcg⟩ := (HB.out.below (Nat.le_refl _) BQ.out) k hkn
          obtain ⟨p, hp⟩ : ∃ p, p = nthL LL i k := ⟨_, rfl⟩
          obtain ⟨q, hq⟩ : ∃ q, q = G k := ⟨_, rfl⟩
          rw [← hp] at hci
          rw [← hq] at hcg
          have c1 : ∀ r : Later wr, r.W.cell? ⟨ba, oa + i, none⟩ = some (.slice (some ⟨bi, oi, none⟩) n (C i)) := fun r => later_cell hca r
          have c2 : ∀ r : Later wr, r.W.cell? ⟨bi, oi + k, none⟩ = some (.int .i64 p) := fun r => later_cell hci r
          have c3 : ∀ r : Later wr, r.W.cell? ⟨bg, og + k, none⟩ = some (.int .i64 q) := fun r => later_cell hcg r
          have HE := Lib.hid (show (p == q) = tt (EqTo LL G i (k + 1)) by
            by_cases e : p = q
            · rw [tt_of (eqTo_next hE (by rw [← hp, ← hq, e]))]; simpa using e
            · rw [tt_no (show ¬ EqTo LL G i (k + 1) from fun h => e (by rw [hp, hq]; exact h k (by omega)))]; simpa using e)
          have i1 : (0 : Int) ≤ (i : Int) := by omega
          have i2 : (i : Int) < (M : Int) := by omega
          have k1 : (0 : Int) ≤ (k : Int) := by omega
          have k2 : (k : Int) < (n : Int) := by omega
          clear hE hp hq hca hra hci hcg hAi
          go_wp2
          refine wp_region_later (by kernel_rfl) (by kernel_rfl) ?_
          repeat go_big_quiet_step (fail)
          refine wpQuiet_nil ?_
          rintro _ ⟨r, rfl⟩
          go_wp2
          go_roundw
          case rel => exact ⟨k + 1, by omega, by go_num, by rw [← HE.out], BQ.out.trans (r.h.mono BQ.out.size)⟩
          case measure => simp [intOf]; omega
        · rw [tt_no hE]
          have HE := Lib.hid (tt_no (show ¬ EqTo LL G i (k + 1) from fun h => hE (fun j hj => h j (by omega))))
          clear hE
          go_wp2
          refine wp_region_later (by kernel_rfl) (by kernel_rfl) ?_
          repeat go_big_quiet_step (fail)
          refine wpQuiet_nil ?_
          rintro _ ⟨r, rfl⟩
          go_wp2
          go_roundw
          case rel => exact ⟨k + 1, by omega, by go_num, by rw [HE.out], BQ.out.trans (r.h.mono BQ.out.size)⟩
          case measure => simp [intOf]; omega
      · obtain rfl : k = n := by omega
        by_cases hix : i = x
        · have T1 : tt (EqTo LL G i k) = true := by rw [hix]; exact tt_of HX.out
          rw [T1]
          have HI := Lib.hid hix
          clear T1 hix
          go_wp2
          go_ret
          exact ⟨by rw [HI.out]; rfl, BQ.out⟩
        · have T1 : tt (EqTo LL G i k) = false := tt_no (HN.out i (by omega))
          rw [T1]
          clear T1
          go_wp2
          go_roundw
          case rel => exact ⟨i + 1, by omega, by go_num, BQ.out⟩
          case measure => simp [intOf]; omega
end Go.Proofs.Ytipfjblnanafnaa
