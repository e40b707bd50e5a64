/- The program's totalOfOthers. -/
import Derived.Test.YtaipodnhnekpjaaBidMost
import Derived.Test.YtaipodnhnekpjaaClone
import Derived.Test.YtaipodnhnekpjaaDealsWay
import Derived.Test.YtaipodnhnekpjaaLists
namespace Go.Proofs.Ytaipodnhnekpjaa
set_option linter.unusedVariables false
set_option linter.unusedSimpArgs false
open Go.RowKit

set_option maxHeartbeats 800000 in
theorem totalOfOthers_any (n c d m i : Nat) (a b : Option Addr) (A : Nat → Option Addr) (L C : Nat → Nat) (Z : Nat → Nat → Int) (D : Nat → Int) (w : World) (hi : i < n) (hn : n ≤ 64) (hL : ∀ r, r < n → L r = m) (hZ : ∀ r, r < n → ∀ x, x < m → 0 ≤ Z r x ∧ Z r x ≤ 20) (hD : ∀ i, i < n → -1 ≤ D i ∧ D i < m) (ha0 : Tab w a n A L C Z) (hb0 : Rd w b n D) :
    Calls Try.prog 72 #[.slice a n c, .slice b n d, .int .i64 (i : Nat)] w fun e w' => e = .returned (.int .i64 (dealT Z D n - if D i = -1 then 0 else Z i (D i).toNat)) ∧ Below w.heap.size w w' := by
  have HC := Lib.hid (clone_any n d b D w (by omega) (by omega) hb0)
  have HT := Lib.hid (fun W g cap (hb : Below w.heap.size w W) (hr : Rd W (some ⟨g, 0, none⟩) n (fun j => if j = i then -1 else D j)) => bidTotal_any n c n cap m a (some ⟨g, 0, none⟩) A L C Z (fun j => if j = i then -1 else D j) W (Nat.le_refl _) hn hL hZ (fun j hj => by
    by_cases e : j = i
    · rw [if_pos e]; omega
    · rw [if_neg e]; exact hD j hj) (ha0.below (Nat.le_refl _) hb) hr)
  have HE := Lib.hid (show dealT Z (fun j => if j = i then -1 else D j) n = dealT Z D n - if D i = -1 then 0 else Z i (D i).toNat from by
    rw [drop_total]
    by_cases e : D i = -1
    · rw [if_pos e, if_neg fun h => h.2 e]
    · rw [if_neg e, if_pos ⟨hi, e⟩])
  rw [← HE.out]
  have i1 : (0 : Int) ≤ (i : Int) := by omega
  have i2 : (i : Int) < (n : Int) := by omega
  clear ha0 hb0 hD hZ hL HE
  go_enter Try.func72, Try.ntmps72
  go_wp2_with fail
  refine HC.out.mono ?_
  rintro e w1 ⟨g, cap, rfl, hown, hb⟩
  have O1 := OwnR.of_owns hown
  have hgl := hown.lt g rfl
  obtain ⟨hck, hfk⟩ := O1.at hi
  have RD := Lib.hid (O1.set hi (-1)).rd
  have B1 := Lib.hid (show Below w.heap.size w (w1.setCell ⟨g, i, none⟩ (.int .i64 (-1))) from hb.setCell hgl.1 _)
  clear hown hb O1 HC
  go_wp2_with (go_at_call 98; refine (HT.out _ _ _ B1.out RD.out).mono ?_; rintro e w' ⟨rfl, rfl⟩)
  go_ret
  exact ⟨rfl, B1.out⟩
end Go.Proofs.Ytaipodnhnekpjaa
