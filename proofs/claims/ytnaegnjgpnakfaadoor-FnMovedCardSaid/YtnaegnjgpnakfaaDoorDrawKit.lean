/- The reader of draws: l6Open and pick: some number of the range, whatever the bytes. -/
/- Worlds of a reader that goes on while rows are made. -/
/- Tables in the making while a reader goes on. -/
import Derived.Test.YtnaegnjgpnakfaaDoorProg
import Derived.Test.YtnaegnjgpnakfaaDoorMem
import Derived.IntWalk
import Derived.Test.YtnaegnjgpnakfaaDoorInfoInts
namespace Go.Proofs.YtnaegnjgpnakfaaDoor
set_option linter.unusedVariables false

section
open Go.RowKit
/-- n bytes. -/
def RdB (w : World) (a : Option Addr) (n : Nat) (B : Nat → Nat) : Prop := ∀ k, k < n → B k < 256 ∧ ∃ b o, a = some ⟨b, o, none⟩ ∧ w.cell? ⟨b, o + k, none⟩ = some (.int .u8 (B k : Nat))
theorem RdB.below {w w' : World} {B : Nat} {a : Option Addr} {n : Nat} {X : Nat → Nat} (h : RdB w a n X) (hB : w.heap.size ≤ B) (hb : Below B w w') : RdB w' a n X := by
  intro k hk
  obtain ⟨h1, b, o, ha, hc⟩ := h k hk
  exact ⟨h1, b, o, ha, (hb.cell (p := ⟨b, o + k, none⟩) (Nat.lt_of_lt_of_le (World.block_lt_of_cell? _ _ hc) hB)).trans hc⟩
theorem RdB.keeps {w w' : World} {lo hi : Nat} {a : Option Addr} {n : Nat} {X : Nat → Nat} (h : RdB w a n X) (hd : ∀ b o, a = some ⟨b, o, none⟩ → b < lo ∨ hi ≤ b) (hk : Keeps lo hi w w') : RdB w' a n X := by
  intro k hkn
  obtain ⟨h1, b, o, ha, hc⟩ := h k hkn
  exact ⟨h1, b, o, ha, (hk.cell (p := ⟨b, o + k, none⟩) (hd b o ha)).trans hc⟩
theorem RdB.sub {w : World} {a : Option Addr} {n m : Nat} {X : Nat → Nat} (h : RdB w a n X) (hm : m ≤ n) : RdB w a m X := fun k hk => h k (by omega)

/-- A reader in block r: its bytes, its place. -/
def RdrAt (w : World) (r : Nat) (a : Option Addr) (n c p : Nat) : Prop := w.heap[r]? = some (.cells #[.slice a n c, .int .i64 (p : Int)] 82 (0, 0))
namespace RdrAt
variable {w w' : World} {r : Nat} {a : Option Addr} {n c p : Nat}
theorem cell0 (h : RdrAt w r a n c p) : w.cell? ⟨r, 0, none⟩ = some (.slice a n c) := cell_of_row w r 0 _ _ (0, 0) h
theorem cell1 (h : RdrAt w r a n c p) : w.cell? ⟨r, 1, none⟩ = some (.int .i64 (p : Int)) := cell_of_row w r 1 _ _ (0, 0) h
theorem frozen (h : RdrAt w r a n c p) (j : Nat) : w.frozen? ⟨r, j, none⟩ = false := frozen_of_row w r j _ _ h
theorem lt (h : RdrAt w r a n c p) : r < w.heap.size := (Array.getElem?_eq_some_iff.1 h).1
theorem of_block (h : RdrAt w r a n c p) (e : w'.heap[r]? = w.heap[r]?) : RdrAt w' r a n c p := e.trans h
theorem next (h : RdrAt w r a n c p) (q : Nat) : RdrAt ((w.setCell ⟨r, 1, none⟩ (.int .i64 ((p : Int) + 1))).drewN q) r a n c (p + 1) := by
  have := heap_setCell_same w r 1 _ _ (.int .i64 ((p : Int) + 1)) h
  unfold RdrAt
  rw [World.heap_drewN, this]
  rfl
end RdrAt

theorem bits_xor_i64 (a b : Nat) (ha : a < 4611686018427387904) (hb : b < 4611686018427387904) : bits .xor .i64 (a : Int) (b : Int) = ((a ^^^ b : Nat) : Int) := by
  have hx : a ^^^ b < 2 ^ 62 := Nat.xor_lt_two_pow (by omega) (by omega)
  show IntKind.i64.wrap ((BitVec.ofInt 64 (a : Int) ^^^ BitVec.ofInt 64 (b : Int)).toNat : Int) = _
  rw [BitVec.toNat_xor, ofInt64_nat a (by omega), ofInt64_nat b (by omega), IntKind.wrap_i64]
  omega

/-- What a pick hands back. -/
def Picked (r : Nat) (a : Option Addr) (n c p : Nat) (m : Nat) (w : World) (e : Ending) (w' : World) : Prop :=
  ∃ x : Nat, e = .returned (.int .i64 (x : Int)) ∧ x < m ∧ RdrAt w' r a n c (p + 1) ∧ Keeps r (r + 1) w w'

theorem keeps_next {w : World} {r : Nat} (v : Value) (q : Nat) : Keeps r (r + 1) w ((w.setCell ⟨r, 1, none⟩ v).drewN q) :=
  ⟨rfl, rfl, rfl, by simp [World.setCell], fun k hk => Below.heap_setCell w ⟨r, 1, none⟩ v k (by show k ≠ r; omega)⟩

set_option maxHeartbeats 1600000 in
theorem pick_none (r c p m : Nat) (a : Option Addr) (w : World) (hr : RdrAt w r a 0 c p) (hp : p ≤ 1000000) (hm1 : 1 ≤ m) (hm : m ≤ 1000000) :
    Calls Tryd.prog 56 #[.pointer (some ⟨r, 0, none⟩), .int .i64 m] w (Picked r a 0 c p m w) := by
  have hc0 := hr.cell0
  have hc1 := hr.cell1
  have hf1 := hr.frozen 1
  have HR := Lib.hid hr
  clear hr
  go_enter Tryd.func56, Tryd.ntmps56
  go_wp2
  go_ret
  exact ⟨0, rfl, hm1, HR.out.next 0, keeps_next _ 0⟩

set_option maxHeartbeats 1600000 in
theorem pick_byte (r n c p m : Nat) (a : Option Addr) (B : Nat → Nat) (w : World) (hr : RdrAt w r a n c p) (hb : RdB w a n B) (hra : ∀ b o, a = some ⟨b, o, none⟩ → b ≠ r) (hpn : p < n) (hn : n ≤ 2000) (hm1 : 1 ≤ m) (hm : m ≤ 1000000) :
    Calls Tryd.prog 56 #[.pointer (some ⟨r, 0, none⟩), .int .i64 m] w (Picked r a n c p m w) := by
  have hc0 := hr.cell0
  have hc1 := hr.cell1
  have hf1 := hr.frozen 1
  have HR := Lib.hid hr
  obtain ⟨h256, ba, oa, rfl, hca0⟩ := hb p hpn
  have hne := hra ba oa rfl
  have hca : (w.setCell ⟨r, 1, none⟩ (.int .i64 ((p : Int) + 1))).cell? ⟨ba, oa + p, none⟩ = some (.int .u8 (B p : Nat)) := by
    rw [World.cell?_of_block (w := w) (Below.heap_setCell _ _ _ _ (by show ba ≠ r; exact hne))]; exact hca0
  clear hr hb hra hca0
  have HM := Lib.hid (Nat.mod_lt (B p) hm1)
  go_enter Tryd.func56, Tryd.ntmps56
  go_wp2
  go_ret
  exact ⟨B p % m, by rw [Int.natCast_emod]; rfl, HM.out, HR.out.next 0, keeps_next _ 0⟩

set_option maxHeartbeats 3200000 in
theorem pick_mix (r n c p m : Nat) (a : Option Addr) (B : Nat → Nat) (w : World) (hr : RdrAt w r a n c p) (hb : RdB w a n B) (hra : ∀ b o, a = some ⟨b, o, none⟩ → b ≠ r) (hn1 : 1 ≤ n) (hpn : n ≤ p) (hn : n ≤ 2000) (hp : p ≤ 1000000) (hm1 : 1 ≤ m) (hm : m ≤ 1000000) :
    Calls Tryd.prog 56 #[.pointer (some ⟨r, 0, none⟩), .int .i64 m] w (Picked r a n c p m w) := by
  obtain ⟨W1, hW1⟩ : ∃ W1, W1 = w.setCell ⟨r, 1, none⟩ (.int .i64 ((p : Int) + 1)) := ⟨_, rfl⟩
  obtain ⟨i1, hi1⟩ : ∃ i1, i1 = p % n := ⟨_, rfl⟩
  obtain ⟨i2, hi2⟩ : ∃ i2, i2 = (p * 7 + 3) % n := ⟨_, rfl⟩
  obtain ⟨q, hq⟩ : ∃ q, q = p / n := ⟨_, rfl⟩
  have hl1 : i1 < n := by rw [hi1]; exact Nat.mod_lt _ hn1
  have hl2 : i2 < n := by rw [hi2]; exact Nat.mod_lt _ hn1
  have hlq : q ≤ p := by rw [hq]; exact Nat.div_le_self _ _
  obtain ⟨h256, ba, oa, rfl, hca0⟩ := hb i1 hl1
  obtain ⟨h256', hca1⟩ : B i2 < 256 ∧ w.cell? ⟨ba, oa + i2, none⟩ = some (.int .u8 (B i2 : Nat)) := by
    obtain ⟨h1, b', o', he, hc⟩ := hb i2 hl2
    cases he; exact ⟨h1, hc⟩
  have hne := hra ba oa rfl
  obtain ⟨b1, hb1⟩ : ∃ b1, b1 = B i1 := ⟨_, rfl⟩
  obtain ⟨b2, hb2⟩ : ∃ b2, b2 = B i2 := ⟨_, rfl⟩
  rw [← hb1] at h256 hca0
  rw [← hb2] at h256' hca1
  have hd1 : W1.cell? ⟨ba, oa + i1, none⟩ = some (.int .u8 (b1 : Nat)) := by rw [hW1, World.cell?_of_block (w := w) (Below.heap_setCell _ _ _ _ (by show ba ≠ r; exact hne))]; exact hca0
  have hd2 : W1.cell? ⟨ba, oa + i2, none⟩ = some (.int .u8 (b2 : Nat)) := by rw [hW1, World.cell?_of_block (w := w) (Below.heap_setCell _ _ _ _ (by show ba ≠ r; exact hne))]; exact hca1
  have hR1 := hr.next 0
  have hD1 : RdrAt W1 r (some ⟨ba, oa, none⟩) n c (p + 1) := by rw [hW1]; exact hR1
  have hK1 : Keeps r (r + 1) w W1 := by rw [hW1]; exact keeps_next _ 0
  have hc0 := hr.cell0
  have hc1 := hr.cell1
  have hf1 := hr.frozen 1
  have he0 := hD1.cell0
  have hm0 : (p : Int).tmod (n : Int) = (i1 : Int) := by rw [Int.tmod_eq_emod_of_nonneg (by omega), ← Int.natCast_emod, hi1]
  have hm2 : ((p : Int) * 7 + 3).tmod (n : Int) = (i2 : Int) := by rw [Int.tmod_eq_emod_of_nonneg (by omega), hi2, Int.natCast_emod]; rfl
  have hm3 : (p : Int).tdiv (n : Int) = (q : Int) := by rw [Int.tdiv_eq_ediv_of_nonneg (by omega), hq, Int.natCast_ediv]
  obtain ⟨N, hN⟩ : ∃ N : Nat, N = b1 * 131 + b2 * 1117 + p * 29 + q * 53 := ⟨_, rfl⟩
  have hN62 : N < 4611686018427387904 := by omega
  have hS : (b1 : Int) * 131 + (b2 : Int) * 1117 + (p : Int) * 29 + (q : Int) * 53 = (N : Int) := by omega
  obtain ⟨Y, hY⟩ : ∃ Y, Y = N ^^^ N / 64 := ⟨_, rfl⟩
  have hX : bits .xor .i64 (N : Int) ((N : Int) / 64) = (Y : Int) := by
    rw [hY, show ((N : Int) / 64) = ((N / 64 : Nat) : Int) by omega]
    exact bits_xor_i64 N (N / 64) hN62 (by omega)
  have hY62 : Y < 4611686018427387904 := by rw [hY]; exact Nat.xor_lt_two_pow (n := 62) (by omega) (by omega)
  have hwp : IntKind.i64.wrap ((p : Int) * 7) = (p : Int) * 7 := IntWalk.i64_in _ (by omega)
  have hwp2 : IntKind.i64.wrap ((p : Int) * 7 + 3) = (p : Int) * 7 + 3 := IntWalk.i64_in _ (by omega)
  have hw1 : IntKind.i64.wrap (b1 : Int) = (b1 : Int) := IntWalk.i64_in _ (by omega)
  have hw2 : IntKind.i64.wrap (b2 : Int) = (b2 : Int) := IntWalk.i64_in _ (by omega)
  have hw3 : IntKind.i64.wrap ((b1 : Int) * 131) = (b1 : Int) * 131 := IntWalk.i64_in _ (by omega)
  have hw4 : IntKind.i64.wrap ((b2 : Int) * 1117) = (b2 : Int) * 1117 := IntWalk.i64_in _ (by omega)
  have hw5 : IntKind.i64.wrap ((b1 : Int) * 131 + (b2 : Int) * 1117) = (b1 : Int) * 131 + (b2 : Int) * 1117 := IntWalk.i64_in _ (by omega)
  have hw6 : IntKind.i64.wrap ((p : Int) * 29) = (p : Int) * 29 := IntWalk.i64_in _ (by omega)
  have hw7 : IntKind.i64.wrap ((b1 : Int) * 131 + (b2 : Int) * 1117 + (p : Int) * 29) = (b1 : Int) * 131 + (b2 : Int) * 1117 + (p : Int) * 29 := IntWalk.i64_in _ (by omega)
  have hw8 : IntKind.i64.wrap ((q : Int) * 53) = (q : Int) * 53 := IntWalk.i64_in _ (by omega)
  have hw9 : IntKind.i64.wrap ((b1 : Int) * 131 + (b2 : Int) * 1117 + (p : Int) * 29 + (q : Int) * 53) = (b1 : Int) * 131 + (b2 : Int) * 1117 + (p : Int) * 29 + (q : Int) * 53 := IntWalk.i64_in _ (by omega)
  have hz : ((n : Int) == 0) = false := by simp; omega
  have hz2 : ¬ (n : Int) = 0 := by omega
  have HD := Lib.hid hD1
  have HK := Lib.hid hK1
  have HM := Lib.hid (Nat.mod_lt Y hm1)
  have QW := Lib.hid hW1
  have HS := Lib.hid hS
  have HX := Lib.hid hX
  have Hw := Lib.hid (And.intro hm0 (And.intro hm2 (And.intro hm3 (And.intro hwp (And.intro hwp2 (And.intro hw1 (And.intro hw2 (And.intro hw3 (And.intro hw4 (And.intro hw5 (And.intro hw6 (And.intro hw7 (And.intro hw8 hw9)))))))))))))
  have he1 := hd1
  have he2 := hd2
  have HE := Lib.hid (And.intro he0 (And.intro hd1 hd2))
  clear hr hb hra hca0 hca1 hR1 hD1 hK1 hm0 hm2 hm3 hN hY hX hS hi1 hi2 hq hb1 hb2 hW1 hwp hwp2 hw1 hw2 hw3 hw4 hw5 hw6 hw7 hw8 hw9 he0 hd1 hd2 he1 he2
  go_enter Tryd.func56, Tryd.ntmps56
  go_wp2
  rw [← QW.out]
  obtain ⟨hm0, hm2, hm3, hwp, hwp2, hw1, hw2, hw3, hw4, hw5, hw6, hw7, hw8, hw9⟩ := Hw.out
  obtain ⟨he0, hd1, hd2⟩ := HE.out
  clear hc0 hc1 hf1
  go_quiet (fail)
  rw [HS.out]
  clear hm0 hm2 hm3 hwp hwp2 hw1 hw2 hw3 hw4 hw5 hw6 hw7 hw8 hw9 he0 hd1 hd2 hz hz2
  have hX := HX.out
  go_wp2
  go_ret
  exact ⟨Y % m, by rw [Int.natCast_emod]; rfl, HM.out, HD.out.of_block rfl, HK.out.trans ⟨rfl, rfl, rfl, rfl, fun _ _ => rfl⟩⟩

/-- THE READER's pick: some number of the range. -/
theorem pick_any (r n c p m : Nat) (a : Option Addr) (B : Nat → Nat) (w : World) (hr : RdrAt w r a n c p) (hb : RdB w a n B) (hra : 0 < n → ∀ b o, a = some ⟨b, o, none⟩ → b ≠ r) (hn : n ≤ 2000) (hp : p ≤ 1000000) (hm1 : 1 ≤ m) (hm : m ≤ 1000000) :
    Calls Tryd.prog 56 #[.pointer (some ⟨r, 0, none⟩), .int .i64 m] w (Picked r a n c p m w) := by
  by_cases h0 : n = 0
  · subst h0; exact pick_none r c p m a w hr hp hm1 hm
  · by_cases h1 : p < n
    · exact pick_byte r n c p m a B w hr hb (hra (by omega)) h1 hn hm1 hm
    · exact pick_mix r n c p m a B w hr hb (hra (by omega)) (by omega) (by omega) hn hp hm1 hm

/-- l6Open: a new reader. -/
def Opened (a : Option Addr) (n : Nat) (w : World) (e : Ending) (w' : World) : Prop :=
  ∃ n' c', e = .returned (.pointer (some ⟨w.heap.size, 0, none⟩)) ∧ n' ≤ 2000 ∧ n' ≤ n ∧ RdrAt w' w.heap.size a n' c' 0 ∧ w'.heap.size = w.heap.size + 1 ∧ Below w.heap.size w w'

set_option maxHeartbeats 800000 in
theorem l6Open_any (n c : Nat) (a : Option Addr) (w : World) (hn : n ≤ 1048576) (hc : n ≤ c) :
    Calls Tryd.prog 54 #[.slice a n c] w (Opened a n w) := by
  by_cases h : n ≤ 2000
  · go_enter Tryd.func54, Tryd.ntmps54
    go_wp2
    go_ret
    exact ⟨n, c, rfl, h, Nat.le_refl _, heap_alloc_last w _, by simp, (Below.refl _ _).alloc (Nat.le_refl _) _⟩
  · have hd : 2000 < n := by omega
    clear h
    go_enter Tryd.func54, Tryd.ntmps54
    go_wp2
    go_ret
    exact ⟨2000, c, rfl, Nat.le_refl _, by omega, heap_alloc_last w _, by simp, (Below.refl _ _).alloc (Nat.le_refl _) _⟩
end

section
open Go.RowKit
/-- Below B all is as it was, but for block r. -/
structure ButR (r B : Nat) (w w' : World) : Prop where
  os : w'.os = w.os
  tape : w'.tape = w.tape
  output : w'.output = w.output
  size : w.heap.size ≤ w'.heap.size
  block : ∀ k, k < B → k ≠ r → w'.heap[k]? = w.heap[k]?

namespace ButR
variable {r B B' : Nat} {a b c : World}
theorem refl (r B : Nat) (w : World) : ButR r B w w := ⟨rfl, rfl, rfl, Nat.le_refl _, fun _ _ _ => rfl⟩
theorem trans (h : ButR r B a b) (k : ButR r B b c) : ButR r B a c := ⟨k.os.trans h.os, k.tape.trans h.tape, k.output.trans h.output, Nat.le_trans h.size k.size, fun i h1 h2 => (k.block i h1 h2).trans (h.block i h1 h2)⟩
theorem mono (h : ButR r B a b) (hB : B' ≤ B) : ButR r B' a b := ⟨h.os, h.tape, h.output, h.size, fun k h1 h2 => h.block k (by omega) h2⟩
theorem keeps (h : Keeps r (r + 1) a b) : ButR r B a b := ⟨h.os, h.tape, h.output, Nat.le_of_eq h.size.symm, fun k _ h2 => h.block k (by omega)⟩
theorem below (h : Below B a b) : ButR r B a b := ⟨h.os, h.tape, h.output, h.size, fun k h1 _ => h.block k h1⟩
theorem alloc (h : ButR r B a b) (hB : B ≤ b.heap.size) (o : Obj) : ButR r B a (b.alloc o) := h.trans (below ((Below.refl _ _).alloc hB o))
theorem grown {row : Option Nat} (h : ButR r B a b) (hg : b.grownBy c row) (hB : B ≤ b.heap.size) (hr : ∀ k, row = some k → B ≤ k) : ButR r B a c := h.trans (below ((Below.refl B b).grown hg hB hr))
theorem setCell (h : ButR r B a b) {p : Addr} (hp : B ≤ p.block) (v : Value) : ButR r B a (b.setCell p v) := h.trans (below ((Below.refl B b).setCell hp v))
theorem toBelow (h : ButR r B a b) (hB : r ≤ B) : Below r a b := ⟨h.os, h.tape, h.output, h.size, fun k hk => h.block k (by omega) (by omega)⟩
end ButR

theorem RdB.but {w w' : World} {r B : Nat} {a : Option Addr} {n : Nat} {X : Nat → Nat} (h : RdB w a n X) (ha : 0 < n → ∀ b o, a = some ⟨b, o, none⟩ → b < B ∧ b ≠ r) (hk : ButR r B w w') : RdB w' a n X := by
  intro k hkn
  obtain ⟨h1, b, o, e, hc⟩ := h k hkn
  exact ⟨h1, b, o, e, by rw [World.cell?_of_block (w := w) (a := ⟨b, o + k, none⟩) (hk.block b (ha (by omega) b o e).1 (ha (by omega) b o e).2)]; exact hc⟩
theorem owns_but {w w' : World} {r base e n : Nat} {v : Value} {xs : List Value} (h : w.ownsRow base e 1 v n xs) (hr : r < base) (hk : Keeps r (r + 1) w w') : w'.ownsRow base e 1 v n xs := by
  obtain ⟨k1, (k2 | ⟨g, cap, cur, k3, k4, k5, k6⟩)⟩ := h
  · exact ⟨k1, .inl k2⟩
  · exact ⟨k1, .inr ⟨g, cap, cur, k3, k4, (hk.block g (by omega)).trans k5, k6⟩⟩
theorem RdrAt.alloc {w : World} {r : Nat} {a : Option Addr} {n c p : Nat} (h : RdrAt w r a n c p) (o : Obj) : RdrAt (w.alloc o) r a n c p := h.of_block (Below.heap_alloc w o r h.lt)
theorem RdrAt.grown {w w' : World} {r : Nat} {a : Option Addr} {n c p : Nat} {row : Option Nat} (h : RdrAt w r a n c p) (hg : w.grownBy w' row) (hr : row ≠ some r) : RdrAt w' r a n c p := h.of_block (hg.block _ h.lt (fun e => hr e.symm))

/-- One of nine numbers. -/
theorem nine {w : World} {g t : Nat} {x : Nat} {v0 v1 v2 v3 v4 v5 v6 v7 v8 : Int} (h : w.heap[g]? = some (.cells #[.int .i64 v0, .int .i64 v1, .int .i64 v2, .int .i64 v3, .int .i64 v4, .int .i64 v5, .int .i64 v6, .int .i64 v7, .int .i64 v8] t (0, 0))) (hx : x < 9) :
    ∃ v : Int, w.cell? ⟨g, x, none⟩ = some (.int .i64 v) := by
  rw [cell_of_row w g x _ t (0, 0) h]
  have : x = 0 ∨ x = 1 ∨ x = 2 ∨ x = 3 ∨ x = 4 ∨ x = 5 ∨ x = 6 ∨ x = 7 ∨ x = 8 := by omega
  rcases this with rfl | rfl | rfl | rfl | rfl | rfl | rfl | rfl | rfl <;> exact ⟨_, rfl⟩
end

section
open Go.RowKit
theorem making_but {tS B r i : Nat} {w w' : World} {v : Value} {G Cp L : Nat → Nat} {X : Nat → Nat → Int} (h : Making tS B w v i G Cp L X) (hr : r < B) (hk : Keeps r (r + 1) w w') : Making tS B w' v i G Cp L X := by
  obtain ⟨h1, h2, h3⟩ := h
  refine ⟨owns_but h1 hr hk, fun k hki => ?_, h3⟩
  obtain ⟨k1, k2, k3, k4⟩ := h2 k hki
  exact ⟨k1, by rw [hk.size]; exact k2, k3, k4.of_block (hk.block _ (by omega))⟩
theorem rd_but {w w' : World} {r g m : Nat} {X : Nat → Int} (h : Rd w (some ⟨g, 0, none⟩) m X) (hg : g ≠ r) (hk : Keeps r (r + 1) w w') : Rd w' (some ⟨g, 0, none⟩) m X := by
  intro k hkm
  obtain ⟨b, o, e, hc⟩ := h k hkm
  refine ⟨b, o, e, ?_⟩
  simp only [Option.some.injEq, Addr.mk.injEq, and_true] at e
  obtain ⟨rfl, rfl⟩ := e
  rw [World.cell?_of_block (w := w) (a := ⟨g, 0 + k, none⟩) (hk.block g (by omega))]
  exact hc
/-- One of six numbers from 1 to 12. -/
theorem six {w : World} {g t : Nat} {x : Nat} (h : w.heap[g]? = some (.cells #[.int .i64 1, .int .i64 2, .int .i64 3, .int .i64 4, .int .i64 6, .int .i64 12] t (0, 0))) (hx : x < 6) :
    ∃ v : Nat, (1 ≤ v ∧ v ≤ 12) ∧ w.cell? ⟨g, x, none⟩ = some (.int .i64 (v : Int)) := by
  rw [cell_of_row w g x _ t (0, 0) h]
  have : x = 0 ∨ x = 1 ∨ x = 2 ∨ x = 3 ∨ x = 4 ∨ x = 5 := by omega
  rcases this with rfl | rfl | rfl | rfl | rfl | rfl
  · exact ⟨1, by omega, rfl⟩
  · exact ⟨2, by omega, rfl⟩
  · exact ⟨3, by omega, rfl⟩
  · exact ⟨4, by omega, rfl⟩
  · exact ⟨6, by omega, rfl⟩
  · exact ⟨12, by omega, rfl⟩
end

end Go.Proofs.YtnaegnjgpnakfaaDoor
