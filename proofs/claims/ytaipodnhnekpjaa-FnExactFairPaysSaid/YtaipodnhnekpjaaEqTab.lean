/- Two tables are compared: true exactly if they have as many rows and each row is the same; nothing is written. -/
import Derived.Test.YtaipodnhnekpjaaEqInts
namespace Go.Proofs.Ytaipodnhnekpjaa
set_option linter.unusedVariables false
open Go.RowKit

set_option maxHeartbeats 400000 in
theorem eqTab_any (n m ca cb : Nat) (a b : Option Addr) (A B : Nat → Option Addr) (L K C D : Nat → Nat) (X Y : Nat → Nat → Int) (w : World) (hn : n ≤ 9223372036854775807) (hm : m ≤ 9223372036854775807)
    (hL : ∀ r, r < n → L r ≤ 9223372036854775807) (hK : ∀ r, r < m → K r ≤ 9223372036854775807) (ha : Tab w a n A L C X) (hb : Tab w b m B K D Y) :
    Calls Try.prog 20 #[.slice a n ca, .slice b m cb] w fun e w' => e = .returned (.bool (tt (SameT n m L K X Y))) ∧ ∃ q, w' = w.drewN q := by
  by_cases hnm : n = m
  · subst hnm
    go_enter Try.func20, Try.ntmps20
    go_wp2
    go_loopw [4, 5] (fun r i wr => ∃ k : Nat, k ≤ n ∧ i = .int .i64 k ∧ r = .bool false ∧ (∀ j, j < k → SameB (L j) (K j) (X j) (Y j)) ∧ ∃ q, wr = w.drewN q) (fun _ i _ => n - (intOf i).toNat)
    case atStart => exact ⟨0, Nat.zero_le _, rfl, rfl, fun j hj => absurd hj (Nat.not_lt_zero _), 0, rfl⟩
    case round =>
      obtain ⟨k, hk, rfl, rfl, hs, q, hq⟩ := hrel
      by_cases hlt : k < n
      · obtain ⟨ba, oa, rfl, hca, hra⟩ := (hq ▸ ha.drewN q : Tab wr a n A L C X) k hlt
        obtain ⟨bb, ob, rfl, hcb, hrb⟩ := (hq ▸ hb.drewN q : Tab wr b n B K D Y) k hlt
        have H0 := Lib.hid (fun W => eqInts_any (L k) (K k) (C k) (D k) (A k) (B k) (X k) (Y k) W (hL k hlt) (hK k hlt))
        have H1 := Lib.hid hs
        have H2 := Lib.hid hra
        have H3 := Lib.hid hrb
        have Hq := Lib.hid hq
        clear hs ha hb hL hK hra hrb hq
        go_wp2
        go_quiet ((go_at_call 21; exact Calls.quiet_of (H0.out _ (H2.out.drewN _) (H3.out.drewN _))))
        go_wp2
        · have ht : (!tt (SameB (L k) (K k) (X k) (Y k))) = true := by assumption
          have hf : ¬ SameT n n L K X Y := fun h => by have := tt_of (h.2 k hlt); simp [this] at ht
          go_ret
          exact ⟨by rw [tt_no hf]; rfl, q + nq, by rw [Hq.out, World.drewN_drewN]⟩
        · have ht : (!tt (SameB (L k) (K k) (X k) (Y k))) = false := by assumption
          have he : SameB (L k) (K k) (X k) (Y k) := tt_iff.1 (by simpa using ht)
          go_roundw
          case rel =>
            exact ⟨k + 1, by omega, by go_num, rfl, fun j hj => by
              by_cases e : j = k
              · rw [e]; exact he
              · exact H1.out j (by omega), q + nq, by rw [Hq.out, World.drewN_drewN]⟩
          case measure => simp [intOf]; omega
      · have H1 := Lib.hid hs
        clear hs ha hb hL hK
        have Hq := Lib.hid hq
        clear hq
        go_wp2
        go_ret
        exact ⟨by rw [tt_of ⟨rfl, fun j hj => H1.out j (by omega)⟩]; rfl, q, Hq.out⟩
  · go_enter Try.func20, Try.ntmps20
    have hne : ((n : Int) != (m : Int)) = true := by simp; omega
    go_wp2
    go_ret
    exact ⟨by rw [tt_no (fun h => hnm h.1)]; rfl, 0, rfl⟩
end Go.Proofs.Ytaipodnhnekpjaa
