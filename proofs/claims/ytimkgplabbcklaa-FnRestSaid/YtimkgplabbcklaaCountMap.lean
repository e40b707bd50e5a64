/- The program's map of how often each number stands in a list: keep. -/
import Derived.Test.YtimkgplabbcklaaProg
import Derived.Test.YtimkgplabbcklaaOddsModel
import Derived.Maps.OwnOps
import Derived.Maps.OwnSet
import Derived.Maps.Views
import Derived.Maps.RangeWalk
import Derived.WalkKit
namespace Go.Proofs.Ytimkgplabbcklaa
set_option linter.unusedVariables false
set_option linter.unusedSimpArgs false
open Go.RowKit
open Go.Maps (Keyed)

theorem Try.lawInt : Keyed Try.prog 3 := Go.Maps.int_keyed Try.underlying3
theorem Try.zeroInt (w : World) : (zeroValue 3).run Try.prog w = .ok (.int .i64 0) w := by kernel_rfl

/-- How often v stands among the first k. -/
def timesN (X : Nat → Int) : Nat → Int → Nat
  | 0, _ => 0
  | k + 1, v => timesN X k v + (if X k = v then 1 else 0)
theorem timesN_le (X : Nat → Int) (v : Int) : ∀ k, timesN X k v ≤ k
  | 0 => Nat.le_refl _
  | k + 1 => by
    have := timesN_le X v k
    show timesN X k v + (if X k = v then 1 else 0) ≤ k + 1
    split <;> omega
/-- A map reads so as how often each of the first k numbers stands there. -/
def CountD (X : Nat → Int) (k : Nat) (D : DataW Unit) : Prop :=
  (∀ kl, Maps.has D kl = true ↔ ∃ j, j < k ∧ kl = .int .i64 (X j)) ∧ ∀ v : Int, D.atKey (.int .i64 v) (.lit (.int .i64 0)) = .lit (.int .i64 (timesN X k v : Nat))
theorem CountD.start (X : Nat → Int) : CountD X 0 (.map []) := ⟨fun kl => ⟨fun h => by simp [Maps.has] at h, fun ⟨j, hj, _⟩ => absurd hj (Nat.not_lt_zero _)⟩, fun v => rfl⟩
theorem CountD.next {X : Nat → Int} {k : Nat} {D : DataW Unit} (h : CountD X k D) (hD : Maps.IsMap D) (hx : I64 (X k)) : CountD X (k + 1) (D.put (.int .i64 (X k)) (.lit (.int .i64 ((timesN X k (X k) : Nat) + 1 : Int)))) := by
  have hk : WideAt.IsKeyLit (.int .i64 (X k)) := Try.lawInt.key (Go.Maps.keyOf_int_mk Try.underlying3 (WalkArith.wf_i64 hx))
  refine ⟨fun kl => ?_, fun v => ?_⟩
  · by_cases e : kl = .int .i64 (X k)
    · subst e
      exact ⟨fun _ => ⟨k, by omega, rfl⟩, fun _ => Maps.has_put_same hD hk _⟩
    · rw [Maps.has_put_other e, h.1 kl]
      constructor
      · rintro ⟨j, hj, e'⟩; exact ⟨j, by omega, e'⟩
      · rintro ⟨j, hj, e'⟩
        refine ⟨j, ?_, e'⟩
        rcases Nat.lt_or_ge j k with h1 | h1
        · exact h1
        · obtain rfl : j = k := by omega
          exact absurd e' e
  · by_cases e : X k = v
    · subst e
      rw [Maps.atKey_put_same hD hk]
      show _ = DataW.lit (.int .i64 ((timesN X k (X k) + (if X k = X k then 1 else 0) : Nat) : Int))
      rw [if_pos rfl]; rfl
    · rw [Maps.atKey_put_other (fun e' => e (by injection e' with _ e'; exact e'.symm)), h.2 v]
      show _ = DataW.lit (.int .i64 ((timesN X k v + (if X k = v then 1 else 0) : Nat) : Int))
      rw [if_neg e]; rfl
/-- Block b is such a map. -/
def CountAt (w : World) (b : Nat) (X : Nat → Int) (m : Nat) : Prop := ∃ D, w.ownsMap Try.prog 3 (plainElem Try.prog 3) b m D ∧ CountD X m D
theorem CountAt.of_block {w w' : World} {b m : Nat} {X : Nat → Int} (h : CountAt w b X m) (e : w'.heap[b]? = w.heap[b]?) : CountAt w' b X m := by
  obtain ⟨D, ⟨es, clock, h1, h2⟩, h3⟩ := h
  exact ⟨D, ⟨es, clock, e.trans h1, h2⟩, h3⟩
theorem CountAt.lt {w : World} {b m : Nat} {X : Nat → Int} (h : CountAt w b X m) : b < w.heap.size := by obtain ⟨D, h1, _⟩ := h; exact h1.lt
theorem CountAt.map {w : World} {b m : Nat} {X : Nat → Int} (h : CountAt w b X m) : ∃ es clock, w.heap[b]? = some (.map es clock) := by obtain ⟨D, ⟨es, clock, h1, _⟩, _⟩ := h; exact ⟨es, clock, h1⟩
theorem run_clearS {w : World} {b : Nat} {es : Array MapEntry} {clock : Nat} (hb : w.heap[b]? = some (.map es clock)) (ty : TypeId) : (Builtin.clear_ #[42] ty #[.map (some b)]).run Try.prog w = .ok (.tuple #[]) (Go.ChangeMaps.setBlock w b (.map #[] clock)) := by
  simp [Builtin.clear_, run_underlying Try.underlying42, Go.MapKept.run_getObj_map hb, Go.MapKept.run_setObj_map _ hb, Result.andThen]
  rfl

set_option maxRecDepth 100000 in
set_option maxHeartbeats 1600000 in
theorem keep_any (b m c : Nat) (a : Option Addr) (X : Nat → Int) (w : World) (hm : m ≤ 8) (ha : Rd w a m X) (hX : ∀ j, j < m → 1 ≤ X j ∧ X j ≤ 20) (hb : ∃ es clock, w.heap[b]? = some (.map es clock)) :
    Calls Try.prog 43 #[.map (some b), .slice a m c] w fun e w' => e = .returned (.tuple #[]) ∧ CountAt w' b X m ∧ w.grownBy w' (some b) := by
  obtain ⟨es, clock, hb0⟩ := hb
  have hclr := run_clearS hb0
  obtain ⟨w1, hw1⟩ : ∃ w1, w1 = Go.ChangeMaps.setBlock w b (.map #[] clock) := ⟨_, rfl⟩
  rw [← hw1] at hclr
  have G1 : w.grownBy w1 (some b) := by
    rw [hw1]
    exact World.mapTurned.grown ⟨_, _, _, _, hb0, rfl⟩
  have O1 : w1.ownsMap Try.prog 3 (plainElem (H := Unit) Try.prog 3) b 0 (.map []) := by
    rw [hw1]
    exact ⟨#[], clock, Go.ChangeMaps.heap_setBlock_same hb0 _, ⟨by simp, ⟨fun _ h => by simp at h, by simp, by simp⟩, fun _ h => by simp at h⟩, Nat.le_refl _, rfl⟩
  have HO := Lib.hid O1
  have HG := Lib.hid G1
  have HA := Lib.hid ha
  have HX := Lib.hid hX
  have HC := Lib.hid (fun (p : Addr) (v : Value) (h : w.cell? p = some v) => show p.block ≠ b from fun e => by
    have h2 := World.cell?_of_block (w := w) (w' := w) (a := p) rfl
    simp [World.cell?, e, hb0] at h)
  clear hw1 G1 O1 ha hX hb0
  go_enter Try.func43, Try.ntmps43
  go_wp2
  clear hclr
  go_loopw [5, 9] (fun _ i wr => ∃ (k : Nat) (D : DataW Unit), k ≤ m ∧ i = .int .i64 k ∧ (wr.ownsMap Try.prog 3 (plainElem Try.prog 3) b k D ∧ CountD X k D) ∧ w.grownBy wr (some b)) (fun _ i _ => m - (intOf i).toNat)
  case atStart => exact ⟨0, _, Nat.zero_le _, rfl, ⟨HO.out, CountD.start X⟩, HG.out⟩
  case round =>
    obtain ⟨k, D, hk, rfl, ⟨hown, hD⟩, hg⟩ := hrel
    have HD := Lib.hid hD
    have HGr := Lib.hid hg
    have HM := Lib.hid hown.isMap
    clear hD hg HO HG
    by_cases hlt : k < m
    · obtain ⟨ba, oa, rfl, hc0⟩ := HA.out k hlt
      have hca := HGr.out.cell hc0 (fun e => HC.out _ _ hc0 (by cases e; rfl))
      have hx := HX.out k hlt
      have hcd := HD.out.2 (X k)
      have hn := HD.out.next HM.out (show I64 (X k) from ⟨by omega, by omega⟩)
      have ht := timesN_le X (X k) k
      obtain ⟨t, htt⟩ : ∃ t, t = timesN X k (X k) := ⟨_, rfl⟩
      obtain ⟨x, hxx⟩ : ∃ x, x = X k := ⟨_, rfl⟩
      rw [← htt] at hcd hn ht
      rw [← hxx] at hcd hn hx hca
      have HN := Lib.hid hn
      have HCD := Lib.hid hcd
      clear htt hxx hc0 hn hcd
      have hkey : keyOf Try.prog 3 (.int .i64 x) = some (.int .i64 x) := Go.Maps.keyOf_int_mk Try.underlying3 (WalkArith.wf_i64 ⟨by omega, by omega⟩)
      go_wp2_with (first
        | (at_lookup; refine wpList_lookup_own_int _ rfl _ _ 42 rfl 3 3 .i64 Try.lawInt Try.underlying42 Try.underlying3 (Try.zeroInt _) b k _ rfl hown _ _ rfl hkey ?_; intro c' hat hwc; obtain rfl : c' = (t : Int) := (by have h1 := hat.symm.trans HCD.out; injection h1 with h1; injection h1); clear hat hwc)
        | (at_mapUpdate; refine wpList_mapUpdate_own _ rfl _ _ _ 42 rfl 3 3 Try.lawInt Try.underlying42 _ b k _ rfl hown (by unfold maxLen; omega) _ _ _ rfl rfl hkey (.lit (.int .i64 ((t : Int) + 1))) [] (by first | exact plainElem_int Try.underlying3 (WalkArith.wf_i64 ⟨by omega, by omega⟩) | exact plainElem_int Try.underlying3 (wrap64_wf _)) ?_; intro w2 hown2 hgrow2; have O2 := Lib.hid hown2; have G2 := Lib.hid hgrow2; clear hown2 hgrow2))
      go_roundw
      case rel => exact ⟨k + 1, _, by omega, by go_num, ⟨O2.out, HN.out⟩, HGr.out.andThen G2.out (fun j hj => by cases hj; exact Or.inr rfl)⟩
      case measure => simp [intOf]; omega
    · obtain rfl : k = m := by omega
      have HW := Lib.hid hown
      clear hown
      go_wp2
      go_end0
      exact ⟨rfl, ⟨D, HW.out, HD.out⟩, HGr.out⟩
end Go.Proofs.Ytimkgplabbcklaa
