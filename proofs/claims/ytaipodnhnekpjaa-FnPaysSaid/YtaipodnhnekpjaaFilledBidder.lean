/- The program's filled, at lists for bidders. -/
import Derived.Test.YtaipodnhnekpjaaLists
import Derived.Test.YtaipodnhnekpjaaProg
import Derived.Test.YtaipodnhnekpjaaDelKit
import Derived.Shelf.GgClosure.Gives
namespace Go.Proofs.Ytaipodnhnekpjaa
set_option linter.unusedVariables false
set_option linter.unusedSimpArgs false
open Go.RowKit

set_option maxHeartbeats 1600000 in
theorem filledBidder_any (m cap g gh : Nat) (lh : Array Value) (egh : ∀ args w, (callFunc gh args).run Try.prog w = .ok (.enter gh args) w) (X Y : Nat → Int) (w : World) (hm : m ≤ 1000) (hown : OwnR w g (some ⟨g, 0, none⟩) m Y) (hf0 : ∀ W (k : Nat), k < m → Below g w W → Calls Try.prog gh (#[.int .i64 (k : Nat)] ++ lh) W fun e W' => e = .returned (.int .i64 (X k)) ∧ Below W.heap.size W W') :
    Calls Try.prog 69 #[.slice (some ⟨g, 0, none⟩) m cap, .func (.func gh) #[] lh] w fun e w' => e = .returned (.slice (some ⟨g, 0, none⟩) m cap) ∧ OwnR w' g (some ⟨g, 0, none⟩) m X ∧ Below g w w' := by
  have HF := Lib.hid hf0
  have O0 := Lib.hid hown
  clear hf0 hown
  go_enter Try.func69, Try.ntmps69
  go_wp2
  go_loopw [5, 8] (fun _ x wr => ∃ (k : Nat) (V : Nat → Int), k ≤ m ∧ x = .int .i64 k ∧ OwnR wr g (some ⟨g, 0, none⟩) m V ∧ (∀ j, j < k → V j = X j) ∧ Below g w wr) (fun _ x _ => m - (intOf x).toNat)
  case atStart => exact ⟨0, Y, Nat.zero_le _, rfl, O0.out, fun j hj => absurd hj (Nat.not_lt_zero _), Below.refl _ _⟩
  case round =>
    obtain ⟨k, V, hk, rfl, hO, hV, hB⟩ := hrel
    have HO := Lib.hid hO
    have HV := Lib.hid hV
    have HB := Lib.hid hB
    clear hO hV hB O0
    by_cases hlt : k < m
    · obtain ⟨hck, hfk⟩ := HO.out.at hlt
      have hgl : g < wr.heap.size := World.block_lt_of_cell? _ _ hck
      have hcall := HF.out wr k hlt HB.out
      have i1 : (0 : Int) ≤ (k : Int) := by omega
      have i2 : (k : Int) < (m : Int) := by omega
      obtain ⟨x, hx⟩ : ∃ x, x = X k := ⟨_, rfl⟩
      have QX := Lib.hid hx
      rw [← hx] at hcall
      clear hx
      go_wp2_with (go_at_fn gh; refine hcall.mono ?_; rintro e w1 ⟨rfl, hb⟩; have hck1 := (hb.cell (p := ⟨g, k, none⟩) hgl).trans hck; have hfk1 := (hb.frozen (p := ⟨g, k, none⟩) hgl).trans hfk; have B1 := Lib.hid hb; clear hb)
      go_roundw
      case rel =>
        have hb := B1.out
        have O1 : OwnR w1 g (some ⟨g, 0, none⟩) m V := HO.out.of_block (hb.block g hgl)
        refine ⟨k + 1, fun j => if j = k then x else V j, by omega, by go_num, O1.set hlt x, fun j hj => ?_, (HB.out.trans (hb.mono (Nat.le_of_lt hgl))).setCell (Nat.le_refl _) _⟩
        dsimp only
        by_cases e : j = k
        · rw [if_pos e, e]; exact QX.out
        · rw [if_neg e]; exact HV.out j (by omega)
      case measure => simp [intOf]; omega
    · obtain rfl : k = m := by omega
      go_wp2
      go_ret
      exact ⟨rfl, HO.out.congr HV.out, HB.out⟩
end Go.Proofs.Ytaipodnhnekpjaa
