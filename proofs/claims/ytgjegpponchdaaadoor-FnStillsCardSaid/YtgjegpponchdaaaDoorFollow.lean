/- The program's followSwaps. -/
import Derived.Test.YtgjegpponchdaaaDoorBeginning
import Derived.Test.YtgjegpponchdaaaDoorStill
import Derived.Test.YtgjegpponchdaaaDoorSwapped
import Derived.Test.YtgjegpponchdaaaDoorWelcomeSwaps
import Derived.Test.YtgjegpponchdaaaDoorRange
import Derived.Shelf.Abstract
namespace Go.Proofs.YtgjegpponchdaaaDoor
set_option linter.unusedVariables false
set_option linter.unusedSimpArgs false
open Go.RowKit
open Go.Maps (Keyed)

section
variable {P : Program} {ops : Array Oper} {C : World → Prop} {Q : Act → Prop} {a : Act} {rest : List Oper} {d : Option Nat} {ot : TypeId} {pos : String} {aft : Array Edge}
/-- A whole struct is loaded, in a region that only makes memory. -/
theorem quiet_load_st (n ty t : Nat) (dd : TypeDesc) (x : Operand) (g : Nat) (F : Nat → Int) (hx : a.eval x = .pointer (some ⟨g, 0, none⟩)) (hg : ∀ w, C w → ArrAt w g t n F) (hu : P.underlying ty = some dd) (hd : (match dd with | .struct _ | .array _ _ => true | _ => false) = true) (hi : (P.info? ty).map (·.size) = some n)
    (h : wpQuiet P ops C Q rest (a.put d (.agg (cellsV n F)))) : wpQuiet P ops C Q (⟨d, Op.load ty x, ot, pos, aft, none⟩ :: rest) a := by
  have hw : Region.wanted (⟨d, Op.load ty x, ot, pos, aft, none⟩ : Oper) (yielded ops a.tmps) = true := rfl
  unfold wpQuiet
  rw [if_pos hw]
  refine ⟨.agg (cellsV n F), fun w hC => ?_, h⟩
  unfold Oper.quietAt execOp
  simp only [hx, Instr.loadAt, Instr.sureAddr, Sem.run_bind, Sem.run_pure, Result.andThen_ok, run_loadVar_row w g t ty (cellsV n F) (0, 0) _ (hg w hC) hu hd (by rw [cellsV_size]; exact hi)]
  exact ⟨rfl, rfl⟩
end

section
variable {n : Nat} {L : Nat → Nat} {Z : Nat → Nat → Int}
/-- A swap more. -/
theorem led_next {t : Nat} {X : List Int} : Led n Z (t + 1) X ↔ ∃ G, Led n Z t G ∧ ∃ p, p ∈ mayL n Z (nth G) ∧ X = swapL n G p.1 p.2 := by
  constructor
  · intro h
    cases h with
    | step h1 h2 h3 h4 => exact ⟨_, h1, (_, _), mem_mayL.2 ⟨h2, h3, h4⟩, rfl⟩
  · rintro ⟨G, h1, p, hp, rfl⟩
    obtain ⟨h2, h3, h4⟩ := mem_mayL.1 hp
    exact .step h1 h2 h3 h4
theorem led_zero {X : List Int} : Led n Z 0 X ↔ X = ownL n := by
  constructor
  · intro h; cases h; rfl
  · rintro rfl; exact .start
end

/-- The ends of fewer than t swaps. -/
def EndsTo (n : Nat) (Z : Nat → Nat → Int) (t : Nat) (G : List Int) : Prop := (∃ s, s < t ∧ Led n Z s G) ∧ StillP n Z (nth G)

/-- What followSwaps hands back. -/
def RetFollow (n : Nat) (Z : Nat → Nat → Int) (w : World) (e : Ending) (w' : World) : Prop :=
  ∃ b t c, e = .returned (.tuple #[.map (some b), .int .i64 (t : Nat)]) ∧ w.heap.size ≤ b ∧ Below w.heap.size w w' ∧ SetAt w' b c n (EndsTo n Z (t + 1)) ∧ (∃ G, Led n Z t G) ∧ ∀ G, ¬ Led n Z (t + 1) G

/-- This giving is no longer to come. -/
def DoneK (n : Nat) (left : Lit → Bool) (G : List Int) : Prop := ∀ kl, keyOf Tryd.prog 60 (HeldK n G) = some kl → left kl = false

/-- The map to range over, told. -/
def Told (n : Nat) (Z : Nat → Nat → Int) (t : Nat) (DR : DataW Unit) : Prop := ∀ kl, Maps.has DR kl = true ↔ ∃ G, Led n Z t G ∧ keyOf Tryd.prog 60 (HeldK n G) = some kl

/-- What lies in memory throughout. -/
structure FMem (n : Nat) (w : World) (e rb nb s : Nat) (Ds : List Nat) (wr : World) : Prop where
  nodup : Ds.Nodup
  marks : ∀ D, D ∈ Ds → wr.heap[D]? = some (.deferred (some [])) ∧ w.heap.size ≤ D
  lo : w.heap.size ≤ e ∧ w.heap.size ≤ rb ∧ w.heap.size ≤ nb ∧ w.heap.size ≤ s
  ne : e ≠ rb ∧ e ≠ nb ∧ rb ≠ nb
  cell : wr.cell? ⟨s, 0, none⟩ = some (.map (some nb))
  free : wr.frozen? ⟨s, 0, none⟩ = false
  below : Below w.heap.size w wr

/-- What holds ahead of each pass. -/
def FInv (n c : Nat) (a : Option Addr) (Z : Nat → Nat → Int) (w : World) (e r0 n0 s : Nat) (a' : Act) (wr : World) : Prop :=
  ∃ (t : Nat) (Ds : List Nat) (rb nb : Nat) (u8 u9 u10 u17 u18 u19 u20 u21 u22 u23 u24 u25 u26 u27 u28 u29 u30 u31 u32 u33 u34 u35 u36 u37 u38 u39 u40 u41 u42 u43 u44 u45 u46 u47 : Value),
    a' = { tmps := #[.slice a n c, undef, .map none, .int .i64 0, .map (some e), .map (some rb), .pointer (some ⟨s, 0, none⟩), .int .i64 t, u8, u9, u10, .map (some e), .map (some r0), .slice a n c, HeldK n (ownL n), .map (some r0), .map (some n0), u17, u18, u19, u20, u21, u22, u23, u24, u25, u26, u27, u28, u29, u30, u31, u32, u33, u34, u35, u36, u37, u38, u39, u40, u41, u42, u43, u44, u45, u46, u47], defers := Ds.map markD } ∧
    (t ≤ 10 ∧ ∃ G, Led n Z t G) ∧ FMem n w e rb nb s Ds wr ∧ SetAt wr e (2 * 25 ^ t) n (EndsTo n Z t) ∧ SetAt wr rb (25 ^ t) n (Led n Z t) ∧ ∃ es clock, wr.heap[nb]? = some (.map es clock)

/-- What holds ahead of each step over a map. -/
def GInv (n c : Nat) (a : Option Addr) (Z : Nat → Nat → Int) (w : World) (e r0 n0 s t rb nb it cR : Nat) (DR : DataW Unit) (u17 u18 u19 u20 : Value) (a' : Act) (wr : World) : Prop :=
  ∃ (Ds : List Nat) (left : Lit → Bool) (cnt ke kn : Nat) (u8 u9 u10 u22 u23 u24 u25 u26 u27 u28 u29 u30 u31 u32 u33 u34 u35 u36 u37 u38 u39 u40 u41 u42 u43 u44 u45 u46 u47 : Value),
    a' = { tmps := #[.slice a n c, undef, .map none, .int .i64 0, .map (some e), .map (some rb), .pointer (some ⟨s, 0, none⟩), .int .i64 t, u8, u9, u10, .map (some e), .map (some r0), .slice a n c, HeldK n (ownL n), .map (some r0), .map (some n0), u17, u18, u19, u20, .pointer (some ⟨it, 0, none⟩), u22, u23, u24, u25, u26, u27, u28, u29, u30, u31, u32, u33, u34, u35, u36, u37, u38, u39, u40, u41, u42, u43, u44, u45, u46, u47], defers := Ds.map markD } ∧
    FMem n w e rb nb s Ds wr ∧ wr.ranges Tryd.prog 60 (plainElem Tryd.prog 4) rb it cR DR left cnt ∧ (ke + cnt ≤ 3 * 25 ^ t ∧ kn + 25 * cnt ≤ 25 ^ (t + 1)) ∧
    SetAt wr e ke n (fun X => EndsTo n Z t X ∨ (Led n Z t X ∧ StillP n Z (nth X) ∧ DoneK n left X)) ∧
    SetAt wr nb kn n (fun X => ∃ G, (Led n Z t G ∧ DoneK n left G) ∧ ∃ p, p ∈ mayL n Z (nth G) ∧ X = swapL n G p.1 p.2)

theorem not_done {n t : Nat} {L : Nat → Nat} {Z : Nat → Nat → Int} {DR : DataW Unit} {X : List Int} (hW : IsWishes n L Z) (hT : Told n Z t DR) (h : Led n Z t X) : ¬ DoneK n (Maps.has DR) X := fun hd => by
  obtain ⟨kl, hk⟩ := heldK_key hW.1.2 (led_giv hW h)
  have h1 := hd kl hk
  rw [(hT kl).2 ⟨X, h, hk⟩] at h1
  cases h1
/-- One giving more has come. -/
theorem done_next {n t : Nat} {L : Nat → Nat} {Z : Nat → Nat → Int} {left : Lit → Bool} {G X : List Int} {kl : Lit} (hW : IsWishes n L Z) (hG : Led n Z t G) (hX : Led n Z t X) (hk : keyOf Tryd.prog 60 (HeldK n G) = some kl) : DoneK n (fun z => left z && !z.sameKey kl) X ↔ DoneK n left X ∨ X = G := by
  constructor
  · intro h
    obtain ⟨kx, hx⟩ := heldK_key hW.1.2 (led_giv hW hX)
    have h1 := h kx hx
    by_cases e : kx = kl
    · subst e
      exact .inr (heldK_inj hW.1.2 (led_giv hW hX) (led_giv hW hG) (Tryd.lawHeld.inj hx hk))
    · refine .inl fun k' hk' => ?_
      rw [hx] at hk'
      cases hk'
      have h1 : (left kx && !kx.sameKey kl) = false := h1
      rw [Maps.sameKey_ne e] at h1
      simpa using h1
  · rintro (h | rfl) k' hk'
    · show (left k' && !k'.sameKey kl) = false
      rw [h k' hk']; rfl
    · rw [hk] at hk'
      cases hk'
      show (left kl && !kl.sameKey kl) = false
      rw [WideAt.sameKey_self (Tryd.lawHeld.key hk)]
      simp
/-- Memory where the two maps have taken turns. -/
theorem FMem.swap {n : Nat} {w wr : World} {e rb nb s : Nat} {Ds : List Nat} (h : FMem n w e rb nb s Ds wr) : FMem n w e nb rb s Ds (wr.setCell ⟨s, 0, none⟩ (.map (some rb))) := by
  refine ⟨h.nodup, fun D hD => ⟨?_, (h.marks D hD).2⟩, ⟨h.lo.1, h.lo.2.2.1, h.lo.2.1, h.lo.2.2.2⟩, ⟨h.ne.2.1, h.ne.1, fun e' => h.ne.2.2 e'.symm⟩, World.cell?_setCell_same' _ _ _ (by rw [h.cell]; rfl), by rw [World.frozen?_setCell]; exact h.free, h.below.setCell h.lo.2.2.2 _⟩
  refine (Below.heap_setCell _ _ _ _ (show D ≠ s from fun e' => ?_)).trans (h.marks D hD).1
  have h1 := (h.marks D hD).1
  have h2 := h.cell
  rw [e'] at h1
  simp [World.cell?, h1] at h2

/-- What is held between two welcome swaps: the map of what they lead to. -/
def NJ (n nb kn : Nat) (S : List Int → Prop) (G : List Int) (w8 : World) (pre : List (Nat × Nat)) (V : Nat → Prop) (Wx : World) : Prop :=
  V = (fun k => k = nb) ∧ Inside (fun k => k < w8.heap.size ∧ k ≠ nb) w8 Wx ∧ SetAt Wx nb (kn + pre.length) n (fun X => S X ∨ ∃ p, p ∈ pre ∧ X = swapL n G p.1 p.2)
theorem pow25 {t : Nat} (h : t ≤ 10) : 25 ^ t ≤ 95367431640625 := by
  have := Nat.pow_le_pow_right (show 0 < 25 by omega) h
  exact this

theorem no_cell {w : World} {b : Nat} (h : (∃ es c, w.heap[b]? = some (.map es c)) ∨ ∃ x1 x2 x3 x4, w.heap[b]? = some (.mapIter x1 x2 x3 x4)) (o : Nat) : w.cell? ⟨b, o, none⟩ = none := by
  rcases h with ⟨es, c, h⟩ | ⟨x1, x2, x3, x4, h⟩ <;> simp [World.cell?, h]
section
variable {n : Nat} {w wr w' : World} {e rb nb s : Nat} {Ds : List Nat}
theorem FMem.sne (h : FMem n w e rb nb s Ds wr) {x : Nat} (hx : (∃ es c, wr.heap[x]? = some (.map es c)) ∨ ∃ x1 x2 x3 x4, wr.heap[x]? = some (.mapIter x1 x2 x3 x4)) : s ≠ x := fun e' => by
  have h1 := h.cell
  rw [e', no_cell hx] at h1
  cases h1
/-- A map or its iterator is turned. -/
theorem FMem.turn (h : FMem n w e rb nb s Ds wr) {x : Nat} (hg : wr.grownBy w' (some x)) (hx : (∃ es c, wr.heap[x]? = some (.map es c)) ∨ ∃ x1 x2 x3 x4, wr.heap[x]? = some (.mapIter x1 x2 x3 x4)) (hlo : w.heap.size ≤ x) : FMem n w e rb nb s Ds w' := by
  have hs : wr.heap[s]? = wr.heap[s]? := rfl
  have hsl : s < wr.heap.size := World.block_lt_of_cell? _ _ h.cell
  have hb := hg.block s hsl (by simpa using h.sne hx)
  refine ⟨h.nodup, fun D hD => ⟨?_, (h.marks D hD).2⟩, h.lo, h.ne, (World.cell?_of_block (w := wr) hb).trans h.cell, (World.frozen?_of_block (w := wr) (a := ⟨s, 0, none⟩) hb).trans h.free, h.below.grown hg h.below.size (fun k hk => by cases hk; exact hlo)⟩
  have hm := (h.marks D hD).1
  refine (hg.block D (Array.getElem?_eq_some_iff.1 hm).1 (fun e' => ?_)).trans hm
  cases e'
  rcases hx with ⟨es, c, hx⟩ | ⟨x1, x2, x3, x4, hx⟩ <;> rw [hm] at hx <;> cases hx
/-- Memory is made. -/
theorem FMem.later (h : FMem n w e rb nb s Ds wr) (hb : Below wr.heap.size wr w') : FMem n w e rb nb s Ds w' := by
  have hsl : s < wr.heap.size := World.block_lt_of_cell? _ _ h.cell
  exact ⟨h.nodup, fun D hD => ⟨(hb.block D (Array.getElem?_eq_some_iff.1 (h.marks D hD).1).1).trans (h.marks D hD).1, (h.marks D hD).2⟩, h.lo, h.ne, (hb.cell (p := ⟨s, 0, none⟩) hsl).trans h.cell, (World.frozen?_of_block (w := wr) (a := ⟨s, 0, none⟩) (hb.block s hsl)).trans h.free, h.below.trans (hb.mono h.below.size)⟩
theorem FMem.mark (h : FMem n w e rb nb s Ds wr) {D : Nat} (hD : wr.heap[D]? = some (.deferred (some []))) (hlo : w.heap.size ≤ D) (hn : ¬ D ∈ Ds) : FMem n w e rb nb s (D :: Ds) wr :=
  ⟨List.nodup_cons.2 ⟨hn, h.nodup⟩, fun E hE => by
    rcases List.mem_cons.1 hE with e' | e'
    · subst e'; exact ⟨hD, hlo⟩
    · exact h.marks E e', h.lo, h.ne, h.cell, h.free, h.below⟩
end

section
attribute [local go_sem] Oper.semAt_some wide_fn wide_round_fn

set_option maxRecDepth 100000 in
set_option maxHeartbeats 4000000 in
theorem followSwaps_any (n c : Nat) (a : Option Addr) (A : Nat → Option Addr) (L C : Nat → Nat) (Z : Nat → Nat → Int) (w : World) (hW : IsWishes n L Z) (ha0 : Tab w a n A L C Z) :
    Calls Tryd.prog 50 #[.slice a n c] w (RetFollow n Z w) := by
  have hn5 := hW.1.2
  have HW := Lib.hid hW
  have HA := Lib.hid ha0
  obtain ⟨ko, hko⟩ := heldK_key hn5 (own_giv (n := n))
  have hmm := @run_makeMap Tryd.prog
  clear hW ha0
  refine (callsIn_wide (n := 9)).1 ?_
  refine callsIn_of_wp_marks Tryd.func50 rfl trivial ?_ rfl
  simp only [Tryd.ntmps50, List.size_toArray, List.length_cons, List.length_nil, Nat.reduceAdd, Nat.reduceSub, Array.replicate_succ, Array.replicate_zero, List.push_toArray, List.append_toArray, List.nil_append, List.cons_append]
  obtain ⟨s, hs⟩ : ∃ s, s = w.heap.size := ⟨_, rfl⟩
  gi_wp2_with (gi_at_call 75; refine (callsIn_wide.2 (beginning_any n c a _ hn5)).mono ?_; rintro e w2 ⟨rfl, hb2⟩; have B2 := Lib.hid hb2; have O2 := Lib.hid (own_of_block (World.ownsMap_made (H := Unit) (w.alloc (.map #[] 0)) Tryd.prog 60 (plainElem Tryd.prog 4)) (hb2.block _ (by simp))); have E2 := Lib.hid ((SetAt.made w n).of_block ((hb2.block w.heap.size (by simp; omega)).trans (Below.heap_alloc _ _ _ (by simp)))); clear hb2; obtain ⟨w3, hrun3, hown3, hturn3⟩ := O2.out.store Tryd.lawHeld Tryd.underlying63 (by unfold maxLen; omega) hko (plainElem_bool Tryd.underlying4 true); rw [World.size_alloc] at hrun3; have O3 := Lib.hid hown3; have T3 := Lib.hid hturn3.grown; clear hown3 hturn3)
  have hl2 := B2.out.size
  simp only [World.size_alloc] at hl2
  have hl3 := T3.out.size
  obtain ⟨s0, hs0⟩ : ∃ s0, s0 = w3.heap.size := ⟨_, rfl⟩
  obtain ⟨w4, hw4⟩ : ∃ w4, w4 = (w3.alloc (.map #[] 0)).alloc (.cells #[.map (some w3.heap.size)] 63) := ⟨_, rfl⟩
  have hb3 : Below w.heap.size w w3 := (((below_alloc (below_alloc (Below.refl w.heap.size w) (.map #[] 0)) (.map #[] 0)).trans (B2.out.mono (by simp; omega)))).grown T3.out (by omega) (fun k hk => by cases hk; simp)
  have hb4 : Below w.heap.size w w4 := by rw [hw4]; exact below_alloc (below_alloc hb3 _) _
  obtain ⟨e, he⟩ : ∃ e, e = w.heap.size := ⟨_, rfl⟩
  obtain ⟨r0, hr0⟩ : ∃ r0, r0 = w.heap.size + 1 := ⟨_, rfl⟩
  have F0 := Lib.hid (show FInv n c a Z w e r0 s0 (s0 + 1) { tmps := #[.slice a n c, undef, .map none, .int .i64 0, .map (some e), .map (some r0), .pointer (some ⟨s0 + 1, 0, none⟩), .int .i64 0, undef, undef, undef, .map (some e), .map (some r0), .slice a n c, HeldK n (ownL n), .map (some r0), .map (some s0), undef, undef, undef, undef, undef, undef, undef, undef, undef, undef, undef, undef, undef, undef, undef, undef, undef, undef, undef, undef, undef, undef, undef, undef, undef, undef, undef, undef, undef, undef, undef], defers := [] } w4 from by
    rw [hr0, he]
    refine ⟨0, [], w.heap.size + 1, s0, _, _, _, _, _, _, _, _, _, _, _, _, _, _, _, _, _, _, _, _, _, _, _, _, _, _, _, _, _, _, _, _, _, _, rfl, ⟨Nat.zero_le _, _, .start⟩, ⟨List.nodup_nil, (fun D hD => by cases hD), ⟨Nat.le_refl _, by omega, by omega, by omega⟩, ⟨by omega, by omega, by omega⟩, ?_, ?_, hb4⟩, ?_, ?_, #[], 0, ?_⟩
    · have h := heap_alloc_last (w3.alloc (.map #[] 0)) (.cells #[.map (some w3.heap.size)] 63)
      rw [World.size_alloc, ← hw4, ← hs0] at h
      exact cell_of_row _ _ 0 _ _ _ h
    · have h := heap_alloc_last (w3.alloc (.map #[] 0)) (.cells #[.map (some w3.heap.size)] 63)
      rw [World.size_alloc, ← hw4, ← hs0] at h
      exact frozen_of_row _ _ 0 _ _ h
    · refine (((E2.out.of_block (T3.out.block _ (by omega) (by simp))).of_block (w' := w4) ?_).mono (by omega)).congr fun G => ⟨fun h => h.elim, fun ⟨⟨s, hs, _⟩, _⟩ => by omega⟩
      rw [hw4, Below.heap_alloc _ _ _ (by simp; omega), Below.heap_alloc _ _ _ (by omega)]
    · have h := SetAt.put (S := fun _ => False) (G := ownL n) (n := n) O2.out (fun kl => ⟨fun h => by simp [Maps.has] at h, fun ⟨G, h, _⟩ => h.elim⟩) hko O3.out
      rw [World.size_alloc] at h
      refine ((h.of_block (w' := w4) ?_).mono (by omega)).congr fun G => ⟨fun h => by rcases h with h | rfl; exact h.elim; exact .start, fun h => .inr (led_zero.1 h)⟩
      rw [hw4, Below.heap_alloc _ _ _ (by simp; omega), Below.heap_alloc _ _ _ (by omega)]
    · rw [hw4, hs0, Below.heap_alloc _ _ _ (by simp)]
      exact heap_alloc_last w3 _)
  have HS0 := Lib.hid (show w.heap.size ≤ s0 from by omega)
  rw [← hw4, ← hs0, ← hr0, ← he]
  clear hs hs0 hw4 hb3 hb4 hrun3 E2 O2 O3 T3 B2 hl2 hl3 he hr0 hko hmm
  refine wpIn_loop (FInv n c a Z w e r0 s0 (s0 + 1)) (fun a' _ => 11 - (intOf (a'.tmps.getD 7 undef)).toNat) ?start ?round
  case start => exact F0.out
  case round =>
    clear F0
    obtain ⟨s, hs⟩ : ∃ s, s = s0 + 1 := ⟨_, rfl⟩
    rw [← hs]
    clear hs
    rintro a' wr ⟨t, Ds, rb, nb, u8, u9, u10, u17, u18, u19, u20, u21, u22, u23, u24, u25, u26, u27, u28, u29, u30, u31, u32, u33, u34, u35, u36, u37, u38, u39, u40, u41, u42, u43, u44, u45, u46, u47, rfl, ⟨ht, hled⟩, hF, hE, hR, es0, ck0, hnb⟩
    have HF := Lib.hid hF
    have HE := Lib.hid hE
    have HLED := Lib.hid hled
    obtain ⟨DR, hRo, hRt⟩ := hR
    have HRO := Lib.hid hRo
    have HRT := Lib.hid (show Told n Z t DR from hRt)
    have hcs := hF.cell
    have hclr := run_clear hnb
    obtain ⟨w1, hw1⟩ : ∃ w1, w1 = Go.ChangeMaps.setBlock wr nb (.map #[] ck0) := ⟨_, rfl⟩
    rw [← hw1] at hclr
    have hnn := HF.out.ne
    have hlo := HF.out.lo
    have hg1 : wr.grownBy w1 (some nb) := by
      rw [hw1]
      exact World.mapTurned.grown ⟨_, _, _, _, hnb, rfl⟩
    have F1 := Lib.hid (HF.out.turn hg1 (.inl ⟨_, _, hnb⟩) hlo.2.2.1)
    have hRO1 := own_of_block (w' := w1) hRo (hg1.block rb hRo.lt (by simpa using hnn.2.2))
    obtain ⟨w2, hrun2, hrg2, hg2, hsz2⟩ := hRO1.range Tryd.lawHeld Tryd.underlying63
    have hb2 : Below w1.heap.size w1 w2 := ⟨hg2.os, hg2.tape, hg2.output, hg2.size, fun k hk => hg2.block k hk (by simp)⟩
    have F2 := Lib.hid (F1.out.later hb2)
    have RG2 := Lib.hid hrg2
    have E2 := Lib.hid ((HE.out.of_block (hg1.block e HE.out.lt (by simpa using hnn.2.1))).of_block (hb2.block e (by have := HE.out.lt; have := hg1.size; omega)))
    have hnbl : nb < w1.heap.size := by have h := (Array.getElem?_eq_some_iff.1 hnb).1; have := hg1.size; omega
    have N2 := Lib.hid ((SetAt.cleared (w := w1) (b := nb) (by rw [hw1]; exact Go.ChangeMaps.heap_setBlock_same hnb _) n).of_block (hb2.block nb hnbl))
    obtain ⟨it, hit⟩ : ∃ it, it = w1.heap.size := ⟨_, rfl⟩
    rw [← hit] at hrun2 RG2
    have hitlo : w.heap.size ≤ it := by have := F1.out.below.size; omega
    have hsz := hRo.size_le
    have hpow : 25 ^ (t + 1) = 25 ^ t * 25 := Nat.pow_succ _ _
    clear hF hE hled hRo hRt hnb hw1 hRO1 hrg2 hg1 hg2 hsz2 hb2 hnbl hit
    gi_wp2
    clear hclr hrun2 hcs
    refine wpIn_loop (GInv n c a Z w e r0 s0 s t rb nb it (25 ^ t) DR u17 u18 (.map (some nb)) (.map (some rb))) (fun _ wx => wx.rangeLeft rb it) ?start2 ?round2
    case start2 =>
      refine ⟨Ds, _, _, 2 * 25 ^ t, 0, _, _, _, _, _, _, _, _, _, _, _, _, _, _, _, _, _, _, _, _, _, _, _, _, _, _, _, _, _, rfl, F2.out, RG2.out, ⟨?_, ?_⟩, ?_, ?_⟩
      · omega
      · omega
      · refine E2.out.congr fun X => ⟨.inl, fun h => ?_⟩
        rcases h with h | ⟨h1, _, h2⟩
        · exact h
        · exact absurd h2 (not_done HW.out HRT.out h1)
      · exact N2.out.congr fun X => ⟨fun h => h.elim, fun ⟨G, ⟨h1, h2⟩, _⟩ => absurd h2 (not_done HW.out HRT.out h1)⟩
    case round2 =>
      clear E2 N2 F2 RG2 F1 HE HF hsz
      rintro a' wx ⟨Ds, left, cnt, ke, kn, u8, u9, u10, u22, u23, u24, u25, u26, u27, u28, u29, u30, u31, u32, u33, u34, u35, u36, u37, u38, u39, u40, u41, u42, u43, u44, u45, u46, u47, rfl, hF, hrg, ⟨hk1, hk2⟩, hE, hN⟩
      have HF := Lib.hid hF
      have HE := Lib.hid hE
      rcases hrg.next Tryd.lawHeld 0 with ⟨h0, hl, hrun⟩ | ⟨key, v, kl, y, w3, cnt', hkey, hlk, hv, hat, hrun, hrg', hlt, hgr, hsz, hen⟩
      · have hdone : ∀ X, DoneK n left X := fun X kl _ => hl kl
        have hN' := hN.congr (S' := Led n Z (t + 1)) (fun X => ⟨fun ⟨G, ⟨h1, _⟩, h2⟩ => led_next.2 ⟨G, h1, h2⟩, fun h => by obtain ⟨G, h1, h2⟩ := led_next.1 h; exact ⟨G, ⟨h1, hdone G⟩, h2⟩⟩)
        have hE' := hE.congr (S' := EndsTo n Z (t + 1)) (fun X => ⟨fun h => by
          rcases h with ⟨⟨s, hs, h1⟩, h2⟩ | ⟨h1, h2, _⟩
          · exact ⟨⟨s, by omega, h1⟩, h2⟩
          · exact ⟨⟨t, by omega, h1⟩, h2⟩, fun ⟨⟨s, hs, h1⟩, h2⟩ => by
          by_cases e' : s = t
          · subst e'; exact .inr ⟨h1, h2, hdone X⟩
          · exact .inl ⟨⟨s, by omega, h1⟩, h2⟩⟩)
        have hR' := hrg.owns
        have HNN := Lib.hid hN'
        have HEE := Lib.hid hE'
        have HRR := Lib.hid hR'
        obtain ⟨DN, hNo, hNt⟩ := hN'
        have hsz := SetAt.size hNo hNt hn5 (fun G hG => led_giv HW.out hG)
        have hln := fun ty => hNo.len Tryd.underlying63 ty
        obtain ⟨N, hN0⟩ : ∃ N, N = Maps.size DN := ⟨_, rfl⟩
        rw [← hN0] at hsz hln
        have hcs := hF.cell
        have hfs := hF.free
        by_cases hnx : ∃ G, Led n Z (t + 1) G
        · have hN1 : N ≠ 0 := fun e' => by obtain ⟨G, hG⟩ := hnx; exact hsz.1 e' G hG
          have d1 : ((N : Int) == 0) = false := by simp; omega
          have HNX := Lib.hid hnx
          clear hsz hN1 hnx hNo hNt hN0 hN hE hR' hrg hF hdone hE' hl
          have hes := HF.out.sne (x := e) (.inl HE.out.map)
          have hns := HF.out.sne (x := nb) (.inl HNN.out.map)
          obtain ⟨esr, ckr, hrb, _⟩ := HRR.out
          have hrs := HF.out.sne (x := rb) (.inl ⟨esr, ckr, hrb⟩)
          have HRB := Lib.hid hrb
          clear hrb
          gi_wp2
          refine ⟨⟨t + 1, Ds, nb, rb, _, _, _, _, _, _, _, _, _, _, _, _, _, _, _, _, _, _, _, _, _, _, _, _, _, _, _, _, _, _, _, _, _, _, rfl, ⟨?_, HNX.out⟩, HF.out.swap, ?_, ?_, esr, ckr, ?_⟩, ?_⟩
          · obtain ⟨G, hG⟩ := HNX.out
            exact led_ten HW.out hG
          · exact (HEE.out.mono (by omega)).of_block (Below.heap_setCell _ _ _ _ (fun h => hes h.symm))
          · exact (HNN.out.mono (by omega)).of_block (Below.heap_setCell _ _ _ _ (fun h => hns h.symm))
          · rw [Below.heap_setCell _ _ _ _ (fun h => hrs h.symm)]; exact HRB.out
          · simp [intOf]; omega
        · have hN1 : N = 0 := hsz.2 fun G hG => hnx ⟨G, hG⟩
          have d1 : ((N : Int) == 0) = true := by simp [hN1]
          have HNX := Lib.hid hnx
          clear hsz hN1 hnx hNo hNt hN0 hN hE hR' hrg hF hdone hE' hl
          gi_wp2
          refine leaves_marks (V := fun k => k < w.heap.size ∨ k = e) (by simp) Ds wx HF.out.nodup (fun D hD => (HF.out.marks D hD).1) (fun D hD hv => ?_) (fun W' hin => ?_)
          · have h1 := HF.out.marks D hD
            rcases hv with hv | hv
            · omega
            · obtain ⟨es1, ck1, h2⟩ := HE.out.map
              rw [hv, h2] at h1
              cases h1.1
          · exact ⟨_, results_tmp2 rfl _ _ _, e, t, ke, rfl, HF.out.lo.1, below_inside HF.out.below hin (fun k hk => .inl hk), HEE.out.of_block (hin.block e (.inr rfl)), HLED.out, fun G hG => HNX.out ⟨G, hG⟩⟩
      · obtain ⟨G, hG, hkG⟩ := (HRT.out kl).1 (ranges_left hrg hlk)
        obtain rfl : key = HeldK n G := Tryd.lawHeld.inj hkey hkG
        have hgm := led_giv HW.out hG
        have hiter := ranges_iter hrg
        have hmap : ∀ x, (∃ es c, wx.heap[x]? = some (.map es c)) → x ≠ it := fun x ⟨es, c, h⟩ e' => by
          obtain ⟨s1, s2, s3, h3⟩ := hiter
          rw [e', h3] at h; cases h
        have hei := hmap e HE.out.map
        have hni := hmap nb hN.map
        have hri := hrg.ne
        have F3 := Lib.hid (HF.out.turn hgr (.inr (by obtain ⟨s1, s2, s3, h3⟩ := hiter; exact ⟨_, _, _, _, h3⟩)) hitlo)
        have E3 := Lib.hid (HE.out.of_block (hgr.block e HE.out.lt (by simpa using hei)))
        have N3 := Lib.hid (hN.of_block (hgr.block nb hN.lt (by simpa using hni)))
        have RG3 := Lib.hid hrg'
        have KG := Lib.hid hkG
        have HG := Lib.hid hG
        have HGM := Lib.hid hgm
        have HLK := Lib.hid hlk
        obtain ⟨g, hg⟩ : ∃ g, g = w3.heap.size := ⟨_, rfl⟩
        have hnn3 := F3.out.ne
        have hle := E3.out.lt
        have hln := N3.out.lt
        have hlr : rb < w3.heap.size := RG3.out.owns.lt
        have hli : it < w3.heap.size := RG3.out.lt
        have hold := hrg.left_eq
        clear hF hrg hE hN hkG hG hgm hiter hmap hkey hlk hat hrg' hgr hsz HF HE hv
        have t1 : True := trivial
        have t2 : True := trivial
        have hp10 := pow25 ht
        by_cases hst : StillP n Z (nth G)
        · have T1 := Lib.hid (tt_of hst)
          gi_wp2_with (first
            | ((with_reducible refine arrI_alloc 6 _ (Tryd.zeroHeld _) ?_); intro w4 hA4 hs4 hb4; have S4 := Lib.hid hs4; clear hs4)
            | ((with_reducible refine arrI_store 6 _ _ _ _ _ _ (heldF n (nth G)) ?_ ?_ hA4 Tryd.sizeHeld ?_); exact rfl; exact rfl; intro w5 hA5 hs5 ho5 hb5; have A5 := Lib.hid hA5; have B5 := Lib.hid (hb4.trans hb5); clear hA4 hs5 ho5 hb4 hb5 hA5)
            | (have _t := t1; (with_reducible refine stI_load 6 _ _ _ _ _ _ ?_ A5.out Tryd.underlying60 rfl Tryd.sizeHeld ?_); exact rfl; clear t1)
            | (gi_at_call 47; refine (callsIn_wide.2 (still_any n c a A L C Z (nth G) _ HW.out (HA.out.below (Nat.le_refl _) (F3.out.below.trans (B5.out.mono F3.out.below.size))))).mono ?_; rintro e' w6 ⟨rfl, hb6⟩; rw [T1.out]; have BB6 := Lib.hid (B5.out.trans (hb6.mono B5.out.size)); have A6 := Lib.hid (A5.out.of_block (hb6.block _ A5.out.lt)); clear hb6; obtain ⟨DE, hEo, hEt⟩ := E3.out.of_block (BB6.out.block e hle); obtain ⟨w7, hrun7, hown7, hturn7⟩ := hEo.store Tryd.lawHeld Tryd.underlying63 (by unfold maxLen; omega) KG.out (plainElem_bool Tryd.underlying4 true); have hrun7 : (Instr.mapUpdate 63 (.map (some e)) (.agg (cellsV 6 (heldF n (nth G)))) (.bool true)).run Tryd.prog w6 = .ok () w7 := hrun7; have E7 := Lib.hid (SetAt.put hEo hEt KG.out hown7); have G7 := Lib.hid hturn7.grown; have F7 := Lib.hid ((F3.out.later BB6.out).turn hturn7.grown (.inl ⟨_, _, hEo.choose_spec.choose_spec.1⟩) F3.out.lo.1); clear hEo hEt hown7 hturn7)
            | (have _t := t2; (with_reducible refine stI_load 6 _ _ _ _ _ _ ?_ A6.out Tryd.underlying60 rfl Tryd.sizeHeld ?_); exact rfl; clear t2)
            | ((with_reducible refine stI_load 6 _ _ _ _ _ _ ?_ (A6.out.of_block (G7.out.block _ A6.out.lt (by simp; omega))) Tryd.underlying60 rfl Tryd.sizeHeld ?_); exact rfl)
            | (gi_at_call 73; refine (callsIn_wide.2 (welcomeSwaps_any n c a (nth G) _)).mono ?_; rintro e' w8 ⟨rfl, hcw, hag, hs8, hb8⟩; have CW := Lib.hid hcw; have AG := Lib.hid hag; have S8 := Lib.hid hs8; have B8 := Lib.hid hb8; clear hcw hag hs8 hb8))
          have h36 := BB6.out.size
          have h67 := G7.out.size
          have KEEP := Lib.hid (show ∀ x, x < w3.heap.size → x ≠ e → w8.heap[x]? = w3.heap[x]? from fun x hx hxe => (B8.out.block x (by omega)).trans ((G7.out.block x (by omega) (by simpa using hxe)).trans (BB6.out.block x hx)))
          have A8 := Lib.hid ((A6.out.of_block (G7.out.block w3.heap.size A6.out.lt (by simp; omega))).of_block (B8.out.block w3.heap.size (by have := A6.out.lt; omega)))
          have E8 := Lib.hid (show SetAt w8 e (ke + 1) n (fun X => EndsTo n Z t X ∨ (Led n Z t X ∧ StillP n Z (nth X) ∧ DoneK n (fun z => left z && !z.sameKey kl) X)) from (E7.out.of_block (B8.out.block e (by omega))).congr fun X => by
            constructor
            · rintro ((h | ⟨h1, h2, h3⟩) | rfl)
              · exact .inl h
              · exact .inr ⟨h1, h2, (done_next HW.out HG.out h1 KG.out).2 (.inl h3)⟩
              · exact .inr ⟨HG.out, hst, (done_next HW.out HG.out HG.out KG.out).2 (.inr rfl)⟩
            · rintro (h | ⟨h1, h2, h3⟩)
              · exact .inl (.inl h)
              · rcases (done_next HW.out HG.out h1 KG.out).1 h3 with h | h
                · exact .inl (.inr ⟨h1, h2, h⟩)
                · exact .inr h)
          have F8 := Lib.hid (F7.out.later B8.out)
          have hq1 : w3.heap.size < w7.heap.size := by have := A6.out.lt; omega
          obtain ⟨q, hq⟩ : ∃ q, q = w7.heap.size := ⟨_, rfl⟩
          rw [← hq] at hq1 CW AG S8
          rw [← hq]
          clear hq h36 h67 E7 G7 F7 A6 A5 B5 B8 BB6 S4 hrun7 hst T1
          have N8 := Lib.hid (N3.out.of_block (KEEP.out nb hln (fun h => hnn3.2.1 h.symm)))
          have RG8 := Lib.hid (ranges_of_blocks RG3.out (KEEP.out rb hlr (fun h => hnn3.1 h.symm)) (KEEP.out it hli (fun h => hei h.symm)))
          have hs8 := S8.out
          have hlo8 := F8.out.lo
          have hcs8 := F8.out.cell
          have hsl8 : s < w8.heap.size := World.block_lt_of_cell? _ _ hcs8
          have hsn8 : s ≠ nb := F8.out.sne (.inl N8.out.map)
          have J0 := Lib.hid (show NJ n nb kn (fun X => ∃ G', (Led n Z t G' ∧ DoneK n left G') ∧ ∃ p, p ∈ mayL n Z (nth G') ∧ X = swapL n G' p.1 p.2) G w8 [] (fun k => k = nb) w8 from ⟨rfl, Inside.refl _ _, N8.out.congr fun X => ⟨.inl, fun h => by rcases h with h | ⟨p, hp, _⟩; exact h; cases hp⟩⟩)
          obtain ⟨SN, hSN⟩ : ∃ SN : List Int → Prop, SN = (fun X => ∃ G', (Led n Z t G' ∧ DoneK n left G') ∧ ∃ p, p ∈ mayL n Z (nth G') ∧ X = swapL n G' p.1 p.2) := ⟨_, rfl⟩
          rw [← hSN] at J0
          have QSN := Lib.hid hSN
          clear hSN hrun hen hs8
          have hs8 := S8.out
          refine wp_seqV (av := pairV) (gf := 87) (lb := #[.pointer (some ⟨q, 0, none⟩), .pointer (some ⟨q + 1, 0, none⟩)]) rfl (enters_of Tryd.func87 (by kernel_rfl) rfl) (fun _ => rfl) (R := seeR w.heap.size q (q + 1)) (LL := mayL n Z (nth G))
            (seq_welcome n c a A L C Z (nth G) w w8 q (q + 1) HW.out HA.out F8.out.below CW.out AG.out) (fun k => k = nb) (fun k hk => ⟨fun h => by rcases hk with hk | hk | hk <;> omega, by have := F3.out.below.size; rcases hk with hk | hk | hk <;> omega⟩)
            (fun V pre Wx => NJ n nb kn SN G w8 pre V Wx) (fun c' V pre Wx => False) (fun k => k < w8.heap.size ∧ k ≠ nb) (fun k hk => hk.1) ?cI1 (fun c' => ⟨fun _ _ _ h => h.elim, fun _ _ _ _ h => h.elim⟩) J0.out
            (fun p a' _ => a' = { tmps := #[.slice a n c, undef, .map none, .int .i64 0, .map (some e), .map (some rb), .pointer (some ⟨s, 0, none⟩), .int .i64 t, .pointer (some ⟨w3.heap.size, 0, none⟩), .int .i64 p.1, .int .i64 p.2, .map (some e), .map (some r0), .slice a n c, HeldK n (ownL n), .map (some r0), .map (some s0), u17, u18, .map (some nb), .map (some rb), .pointer (some ⟨it, 0, none⟩), .tuple #[.bool true, HeldK n G, v], .bool true, .tuple #[HeldK n G, v], HeldK n G, .slice a n c, .agg (cellsV 6 (heldF n (nth G))), .bool true, .map (some e), .agg (cellsV 6 (heldF n (nth G))), .slice a n c, .agg (cellsV 6 (heldF n (nth G))), .func (.func 87) #[] #[.pointer (some ⟨q, 0, none⟩), .pointer (some ⟨q + 1, 0, none⟩)], .int .i64 p.1, .int .i64 p.2, u36, u37, u38, u39, u40, u41, u42, u43, u44, u45, u46, u47], defers := [] })
            (fun v a' W l r o h _ => h) ?assign1 ?body1 ?done1 ?stop1
          case cI1 =>
            constructor
            · rintro V pre Wx ⟨rfl, h1, h2⟩ k rfl
              exact h2.lt
            · rintro V pre X Y ⟨rfl, h1, h2⟩ hin
              exact ⟨rfl, h1.trans (hin.mono fun k hk => .inr hk), h2.of_block (hin.block nb (.inl rfl))⟩
          case assign1 =>
            intro l' v' Wx K hK
            gi_wp2
            exact hK _ _ (Outside.refl _ _) (by simp [pairV])
          case body1 =>
            rintro l' V pre D a' Wx ⟨rfl, hin, hN⟩ hpre hV rfl
            have hD : D ∈ mayL n Z (nth G) := by obtain ⟨z, hz⟩ := hpre; rw [← hz]; simp
            obtain ⟨hd1, hd2, hd3⟩ := mem_mayL.1 hD
            have hlen : pre.length + 1 ≤ 25 := by
              have h7 := hpre.length_le
              rw [List.length_append] at h7
              exact Nat.le_trans h7 (mayL_le hn5)
            have hcx : Wx.cell? ⟨s, 0, none⟩ = some (.map (some nb)) := (World.cell?_of_block (w := w8) (a := ⟨s, 0, none⟩) (hin.block s ⟨hsl8, hsn8⟩)).trans hcs8
            have hax : ArrAt Wx w3.heap.size 60 6 (heldF n (nth G)) := A8.out.of_block (hin.block w3.heap.size ⟨A8.out.lt, by omega⟩)
            have hgs := swap_giv HW.out HGM.out (i := D.1) (k := D.2) (by omega) hd2
            obtain ⟨k2, hk2⟩ := heldK_key hn5 hgs
            have hswk : HeldK n (swapL n G D.1 D.2) = .agg (cellsV 6 (heldF n (swapF (nth G) D.1 D.2))) := by
              unfold HeldK
              congr 1
              exact cellsV_congr fun j _ => heldF_congr (fun k hk => swapL_nth hk) j
            have c1 : ∀ r : Later Wx, r.W.cell? ⟨s, 0, none⟩ = some (.map (some nb)) := fun r => later_cell hcx r
            have AX := Lib.hid hax
            have SW := Lib.hid (fun r : Later Wx => swapped_any n D.1 D.2 (nth G) r.W hn5 (by omega) hd2 (by omega))
            have HN := Lib.hid hN
            have HIN := Lib.hid hin
            have HK2 := Lib.hid hk2
            have HSWK := Lib.hid hswk
            clear hax hN hin hpre hV hD hd1 hd2 hd3 hgs hk2 hswk hcx
            gi_wp2
            refine region_later_tail 5 1 #[true, true, true, true, true, false] #[false, false, false, false, false, true] (by kernel_rfl) rfl (by kernel_rfl) (by kernel_rfl) (by kernel_rfl) (by kernel_rfl) ?_
            simp only [List.take_succ_cons, List.take_zero]
            repeat (first
              | ((with_reducible refine quiet_load_st 6 _ 60 _ _ w3.heap.size (heldF n (nth G)) ?_ ?_ Tryd.underlying60 rfl Tryd.sizeHeld ?_); exact rfl; (rintro _ ⟨r2, rfl⟩; exact later_arr AX.out r2))
              | quiet_step ((go_at_call 76; exact calls_later _ (SW.out _))))
            refine wpQuiet_nil ?_
            rintro _ ⟨r, rfl⟩
            have hbr := r.h
            obtain ⟨DN, hNo, hNt⟩ := HN.out.of_block (hbr.block nb HN.out.lt)
            obtain ⟨w9, hrun9, hown9, hturn9⟩ := hNo.store Tryd.lawHeld Tryd.underlying63 (by unfold maxLen; omega) HK2.out (plainElem_bool Tryd.underlying4 true)
            rw [HSWK.out] at hrun9
            have N9 := Lib.hid (SetAt.put hNo hNt HK2.out hown9)
            have G9 := Lib.hid hturn9.grown
            have HBR := Lib.hid hbr
            clear hNo hNt hown9 hturn9 hbr c1
            refine wpAnyIn_ready (rs := [5]) (by kernel_rfl) (by simp) (AllReadyIn.cons rfl (fun K hK => ?_) AllReadyIn.nil)
            go_simp
            refine hK _ _ ?_
            clear hK K hrun9
            refine wpAnyIn_done (by kernel_rfl) ?_ _
            gi_wp2
            have hnl := HN.out.lt
            refine ⟨(Outside.of_below HBR.out).trans' (Outside.of_grown (V := fun k => k = nb) (row := some nb) G9.out (fun k hk => by cases hk; rfl)) (fun _ _ h => h), _, fun k hk => .inl hk, rfl, HIN.out.trans ⟨G9.out.os.trans HBR.out.os, G9.out.tape.trans HBR.out.tape, G9.out.output.trans HBR.out.output, Nat.le_trans HBR.out.size G9.out.size, fun k hk => ?_⟩, ?_⟩
            · have h1 := HIN.out.size
              have h2 := HBR.out.size
              exact (G9.out.block k (by have := hk.1; omega) (by simpa using hk.2)).trans (HBR.out.block k (by have := hk.1; omega))
            · rw [List.length_append]
              refine N9.out.congr fun X => ?_
              constructor
              · rintro ((h | ⟨p, hp, h⟩) | h)
                · exact .inl h
                · exact .inr ⟨p, by simp [hp], h⟩
                · exact .inr ⟨D, by simp, h⟩
              · rintro (h | ⟨p, hp, h⟩)
                · exact .inl (.inl h)
                · rcases List.mem_append.1 hp with h' | h'
                  · exact .inl (.inr ⟨p, h', h⟩)
                  · rw [List.mem_singleton.1 h'] at h; exact .inr h
          case done1 =>
            rintro D V Wx hD hV hnD ⟨rfl, hin, hN⟩ hKD
            have hDl : w.heap.size ≤ D := by have := F8.out.below.size; omega
            have FX := Lib.hid (F8.out.turn (x := nb) (w' := Wx) ⟨hin.os, hin.tape, hin.output, hin.size, fun k hk hne => hin.block k ⟨hk, by simpa using hne⟩⟩ (.inl N8.out.map) hlo8.2.2.1)
            have EX := Lib.hid (E8.out.of_block (hin.block e ⟨E8.out.lt, hnn3.2.1⟩))
            have RX := Lib.hid (ranges_of_blocks RG8.out (hin.block rb ⟨RG8.out.owns.lt, hnn3.2.2⟩) (hin.block it ⟨RG8.out.lt, fun h => hni h.symm⟩))
            have hDD : ¬ D ∈ Ds := fun h => by have := (Array.getElem?_eq_some_iff.1 (F8.out.marks D h).1).1; omega
            have FY := Lib.hid (FX.out.mark hKD hDl hDD)
            have hmay := mayL_le (Z := Z) (G := nth G) hn5
            have HNF := Lib.hid ((hN.mono (show kn + (mayL n Z (nth G)).length ≤ kn + 25 by omega)).congr (S' := fun X => ∃ G', (Led n Z t G' ∧ DoneK n (fun z => left z && !z.sameKey kl) G') ∧ ∃ p, p ∈ mayL n Z (nth G') ∧ X = swapL n G' p.1 p.2) (fun X => by
              rw [QSN.out]
              constructor
              · rintro (⟨G', ⟨h1, h2⟩, h3⟩ | h)
                · exact ⟨G', ⟨h1, (done_next HW.out HG.out h1 KG.out).2 (.inl h2)⟩, h3⟩
                · exact ⟨G, ⟨HG.out, (done_next HW.out HG.out HG.out KG.out).2 (.inr rfl)⟩, h⟩
              · rintro ⟨G', ⟨h1, h2⟩, h3⟩
                rcases (done_next HW.out HG.out h1 KG.out).1 h2 with h | rfl
                · exact .inl ⟨G', ⟨h1, h⟩, h3⟩
                · exact .inr h3))
            have hnew := RX.out.left_eq
            clear hin hN hKD hV
            gi_wp2
            exact ⟨D :: Ds, _, cnt', ke + 1, kn + 25, _, _, _, _, _, _, _, _, _, _, _, _, _, _, _, _, _, _, _, _, _, _, _, _, _, _, _, _, _, rfl, FY.out, RX.out, ⟨by omega, by omega⟩, EX.out, HNF.out⟩
          case stop1 =>
            rintro D c' V pre Wx _ _ _ _ h
            exact h.elim
        · have T1 := Lib.hid (tt_no hst)
          gi_wp2_with (first
            | ((with_reducible refine arrI_alloc 6 _ (Tryd.zeroHeld _) ?_); intro w4 hA4 hs4 hb4; have S4 := Lib.hid hs4; clear hs4)
            | ((with_reducible refine arrI_store 6 _ _ _ _ _ _ (heldF n (nth G)) ?_ ?_ hA4 Tryd.sizeHeld ?_); exact rfl; exact rfl; intro w5 hA5 hs5 ho5 hb5; have A5 := Lib.hid hA5; have B5 := Lib.hid (hb4.trans hb5); clear hA4 hs5 ho5 hb4 hb5 hA5)
            | (have _t := t1; (with_reducible refine stI_load 6 _ _ _ _ _ _ ?_ A5.out Tryd.underlying60 rfl Tryd.sizeHeld ?_); exact rfl; clear t1)
            | (gi_at_call 47; refine (callsIn_wide.2 (still_any n c a A L C Z (nth G) _ HW.out (HA.out.below (Nat.le_refl _) (F3.out.below.trans (B5.out.mono F3.out.below.size))))).mono ?_; rintro e' w6 ⟨rfl, hb6⟩; rw [T1.out]; have BB6 := Lib.hid (B5.out.trans (hb6.mono B5.out.size)); have A6 := Lib.hid (A5.out.of_block (hb6.block _ A5.out.lt)); clear hb6)
            | ((with_reducible refine stI_load 6 _ _ _ _ _ _ ?_ A6.out Tryd.underlying60 rfl Tryd.sizeHeld ?_); exact rfl)
            | (gi_at_call 73; refine (callsIn_wide.2 (welcomeSwaps_any n c a (nth G) _)).mono ?_; rintro e' w8 ⟨rfl, hcw, hag, hs8, hb8⟩; have CW := Lib.hid hcw; have AG := Lib.hid hag; have S8 := Lib.hid hs8; have B8 := Lib.hid hb8; clear hcw hag hs8 hb8))
          have h36 := BB6.out.size
          have KEEP := Lib.hid (show ∀ x, x < w3.heap.size → x ≠ e → w8.heap[x]? = w3.heap[x]? from fun x hx hxe => (B8.out.block x (by omega)).trans (BB6.out.block x hx))
          have A8 := Lib.hid (A6.out.of_block (B8.out.block w3.heap.size A6.out.lt))
          have E8 := Lib.hid (show SetAt w8 e (ke + 1) n (fun X => EndsTo n Z t X ∨ (Led n Z t X ∧ StillP n Z (nth X) ∧ DoneK n (fun z => left z && !z.sameKey kl) X)) from (((E3.out.of_block (BB6.out.block e hle)).of_block (B8.out.block e (by omega))).mono (Nat.le_succ _)).congr fun X => by
            constructor
            · rintro (h | ⟨h1, h2, h3⟩)
              · exact .inl h
              · exact .inr ⟨h1, h2, (done_next HW.out HG.out h1 KG.out).2 (.inl h3)⟩
            · rintro (h | ⟨h1, h2, h3⟩)
              · exact .inl h
              · rcases (done_next HW.out HG.out h1 KG.out).1 h3 with h | h
                · exact .inr ⟨h1, h2, h⟩
                · rw [h] at h2; exact absurd h2 hst)
          have F8 := Lib.hid ((F3.out.later BB6.out).later B8.out)
          have hq1 : w3.heap.size < w6.heap.size := by have := A6.out.lt; omega
          obtain ⟨q, hq⟩ : ∃ q, q = w6.heap.size := ⟨_, rfl⟩
          rw [← hq] at hq1 CW AG S8
          rw [← hq]
          clear hq h36 A6 A5 B5 B8 BB6 S4 hst T1
          have N8 := Lib.hid (N3.out.of_block (KEEP.out nb hln (fun h => hnn3.2.1 h.symm)))
          have RG8 := Lib.hid (ranges_of_blocks RG3.out (KEEP.out rb hlr (fun h => hnn3.1 h.symm)) (KEEP.out it hli (fun h => hei h.symm)))
          have hs8 := S8.out
          have hlo8 := F8.out.lo
          have hcs8 := F8.out.cell
          have hsl8 : s < w8.heap.size := World.block_lt_of_cell? _ _ hcs8
          have hsn8 : s ≠ nb := F8.out.sne (.inl N8.out.map)
          have J0 := Lib.hid (show NJ n nb kn (fun X => ∃ G', (Led n Z t G' ∧ DoneK n left G') ∧ ∃ p, p ∈ mayL n Z (nth G') ∧ X = swapL n G' p.1 p.2) G w8 [] (fun k => k = nb) w8 from ⟨rfl, Inside.refl _ _, N8.out.congr fun X => ⟨.inl, fun h => by rcases h with h | ⟨p, hp, _⟩; exact h; cases hp⟩⟩)
          obtain ⟨SN, hSN⟩ : ∃ SN : List Int → Prop, SN = (fun X => ∃ G', (Led n Z t G' ∧ DoneK n left G') ∧ ∃ p, p ∈ mayL n Z (nth G') ∧ X = swapL n G' p.1 p.2) := ⟨_, rfl⟩
          rw [← hSN] at J0
          have QSN := Lib.hid hSN
          clear hSN hrun hen hs8
          have hs8 := S8.out
          refine wp_seqV (av := pairV) (gf := 87) (lb := #[.pointer (some ⟨q, 0, none⟩), .pointer (some ⟨q + 1, 0, none⟩)]) rfl (enters_of Tryd.func87 (by kernel_rfl) rfl) (fun _ => rfl) (R := seeR w.heap.size q (q + 1)) (LL := mayL n Z (nth G))
            (seq_welcome n c a A L C Z (nth G) w w8 q (q + 1) HW.out HA.out F8.out.below CW.out AG.out) (fun k => k = nb) (fun k hk => ⟨fun h => by rcases hk with hk | hk | hk <;> omega, by have := F3.out.below.size; rcases hk with hk | hk | hk <;> omega⟩)
            (fun V pre Wx => NJ n nb kn SN G w8 pre V Wx) (fun c' V pre Wx => False) (fun k => k < w8.heap.size ∧ k ≠ nb) (fun k hk => hk.1) ?cI2 (fun c' => ⟨fun _ _ _ h => h.elim, fun _ _ _ _ h => h.elim⟩) J0.out
            (fun p a' _ => a' = { tmps := #[.slice a n c, undef, .map none, .int .i64 0, .map (some e), .map (some rb), .pointer (some ⟨s, 0, none⟩), .int .i64 t, .pointer (some ⟨w3.heap.size, 0, none⟩), .int .i64 p.1, .int .i64 p.2, .map (some e), .map (some r0), .slice a n c, HeldK n (ownL n), .map (some r0), .map (some s0), u17, u18, .map (some nb), .map (some rb), .pointer (some ⟨it, 0, none⟩), .tuple #[.bool true, HeldK n G, v], .bool true, .tuple #[HeldK n G, v], HeldK n G, .slice a n c, .agg (cellsV 6 (heldF n (nth G))), .bool false, u29, u30, .slice a n c, .agg (cellsV 6 (heldF n (nth G))), .func (.func 87) #[] #[.pointer (some ⟨q, 0, none⟩), .pointer (some ⟨q + 1, 0, none⟩)], .int .i64 p.1, .int .i64 p.2, u36, u37, u38, u39, u40, u41, u42, u43, u44, u45, u46, u47], defers := [] })
            (fun v a' W l r o h _ => h) ?assign2 ?body2 ?done2 ?stop2
          case cI2 =>
            constructor
            · rintro V pre Wx ⟨rfl, h1, h2⟩ k rfl
              exact h2.lt
            · rintro V pre X Y ⟨rfl, h1, h2⟩ hin
              exact ⟨rfl, h1.trans (hin.mono fun k hk => .inr hk), h2.of_block (hin.block nb (.inl rfl))⟩
          case assign2 =>
            intro l' v' Wx K hK
            gi_wp2
            exact hK _ _ (Outside.refl _ _) (by simp [pairV])
          case body2 =>
            rintro l' V pre D a' Wx ⟨rfl, hin, hN⟩ hpre hV rfl
            have hD : D ∈ mayL n Z (nth G) := by obtain ⟨z, hz⟩ := hpre; rw [← hz]; simp
            obtain ⟨hd1, hd2, hd3⟩ := mem_mayL.1 hD
            have hlen : pre.length + 1 ≤ 25 := by
              have h7 := hpre.length_le
              rw [List.length_append] at h7
              exact Nat.le_trans h7 (mayL_le hn5)
            have hcx : Wx.cell? ⟨s, 0, none⟩ = some (.map (some nb)) := (World.cell?_of_block (w := w8) (a := ⟨s, 0, none⟩) (hin.block s ⟨hsl8, hsn8⟩)).trans hcs8
            have hax : ArrAt Wx w3.heap.size 60 6 (heldF n (nth G)) := A8.out.of_block (hin.block w3.heap.size ⟨A8.out.lt, by omega⟩)
            have hgs := swap_giv HW.out HGM.out (i := D.1) (k := D.2) (by omega) hd2
            obtain ⟨k2, hk2⟩ := heldK_key hn5 hgs
            have hswk : HeldK n (swapL n G D.1 D.2) = .agg (cellsV 6 (heldF n (swapF (nth G) D.1 D.2))) := by
              unfold HeldK
              congr 1
              exact cellsV_congr fun j _ => heldF_congr (fun k hk => swapL_nth hk) j
            have c1 : ∀ r : Later Wx, r.W.cell? ⟨s, 0, none⟩ = some (.map (some nb)) := fun r => later_cell hcx r
            have AX := Lib.hid hax
            have SW := Lib.hid (fun r : Later Wx => swapped_any n D.1 D.2 (nth G) r.W hn5 (by omega) hd2 (by omega))
            have HN := Lib.hid hN
            have HIN := Lib.hid hin
            have HK2 := Lib.hid hk2
            have HSWK := Lib.hid hswk
            clear hax hN hin hpre hV hD hd1 hd2 hd3 hgs hk2 hswk hcx
            gi_wp2
            refine region_later_tail 5 1 #[true, true, true, true, true, false] #[false, false, false, false, false, true] (by kernel_rfl) rfl (by kernel_rfl) (by kernel_rfl) (by kernel_rfl) (by kernel_rfl) ?_
            simp only [List.take_succ_cons, List.take_zero]
            repeat (first
              | ((with_reducible refine quiet_load_st 6 _ 60 _ _ w3.heap.size (heldF n (nth G)) ?_ ?_ Tryd.underlying60 rfl Tryd.sizeHeld ?_); exact rfl; (rintro _ ⟨r2, rfl⟩; exact later_arr AX.out r2))
              | quiet_step ((go_at_call 76; exact calls_later _ (SW.out _))))
            refine wpQuiet_nil ?_
            rintro _ ⟨r, rfl⟩
            have hbr := r.h
            obtain ⟨DN, hNo, hNt⟩ := HN.out.of_block (hbr.block nb HN.out.lt)
            obtain ⟨w9, hrun9, hown9, hturn9⟩ := hNo.store Tryd.lawHeld Tryd.underlying63 (by unfold maxLen; omega) HK2.out (plainElem_bool Tryd.underlying4 true)
            rw [HSWK.out] at hrun9
            have N9 := Lib.hid (SetAt.put hNo hNt HK2.out hown9)
            have G9 := Lib.hid hturn9.grown
            have HBR := Lib.hid hbr
            clear hNo hNt hown9 hturn9 hbr c1
            refine wpAnyIn_ready (rs := [5]) (by kernel_rfl) (by simp) (AllReadyIn.cons rfl (fun K hK => ?_) AllReadyIn.nil)
            go_simp
            refine hK _ _ ?_
            clear hK K hrun9
            refine wpAnyIn_done (by kernel_rfl) ?_ _
            gi_wp2
            have hnl := HN.out.lt
            refine ⟨(Outside.of_below HBR.out).trans' (Outside.of_grown (V := fun k => k = nb) (row := some nb) G9.out (fun k hk => by cases hk; rfl)) (fun _ _ h => h), _, fun k hk => .inl hk, rfl, HIN.out.trans ⟨G9.out.os.trans HBR.out.os, G9.out.tape.trans HBR.out.tape, G9.out.output.trans HBR.out.output, Nat.le_trans HBR.out.size G9.out.size, fun k hk => ?_⟩, ?_⟩
            · have h1 := HIN.out.size
              have h2 := HBR.out.size
              exact (G9.out.block k (by have := hk.1; omega) (by simpa using hk.2)).trans (HBR.out.block k (by have := hk.1; omega))
            · rw [List.length_append]
              refine N9.out.congr fun X => ?_
              constructor
              · rintro ((h | ⟨p, hp, h⟩) | h)
                · exact .inl h
                · exact .inr ⟨p, by simp [hp], h⟩
                · exact .inr ⟨D, by simp, h⟩
              · rintro (h | ⟨p, hp, h⟩)
                · exact .inl (.inl h)
                · rcases List.mem_append.1 hp with h' | h'
                  · exact .inl (.inr ⟨p, h', h⟩)
                  · rw [List.mem_singleton.1 h'] at h; exact .inr h
          case done2 =>
            rintro D V Wx hD hV hnD ⟨rfl, hin, hN⟩ hKD
            have hDl : w.heap.size ≤ D := by have := F8.out.below.size; omega
            have FX := Lib.hid (F8.out.turn (x := nb) (w' := Wx) ⟨hin.os, hin.tape, hin.output, hin.size, fun k hk hne => hin.block k ⟨hk, by simpa using hne⟩⟩ (.inl N8.out.map) hlo8.2.2.1)
            have EX := Lib.hid (E8.out.of_block (hin.block e ⟨E8.out.lt, hnn3.2.1⟩))
            have RX := Lib.hid (ranges_of_blocks RG8.out (hin.block rb ⟨RG8.out.owns.lt, hnn3.2.2⟩) (hin.block it ⟨RG8.out.lt, fun h => hni h.symm⟩))
            have hDD : ¬ D ∈ Ds := fun h => by have := (Array.getElem?_eq_some_iff.1 (F8.out.marks D h).1).1; omega
            have FY := Lib.hid (FX.out.mark hKD hDl hDD)
            have hmay := mayL_le (Z := Z) (G := nth G) hn5
            have HNF := Lib.hid ((hN.mono (show kn + (mayL n Z (nth G)).length ≤ kn + 25 by omega)).congr (S' := fun X => ∃ G', (Led n Z t G' ∧ DoneK n (fun z => left z && !z.sameKey kl) G') ∧ ∃ p, p ∈ mayL n Z (nth G') ∧ X = swapL n G' p.1 p.2) (fun X => by
              rw [QSN.out]
              constructor
              · rintro (⟨G', ⟨h1, h2⟩, h3⟩ | h)
                · exact ⟨G', ⟨h1, (done_next HW.out HG.out h1 KG.out).2 (.inl h2)⟩, h3⟩
                · exact ⟨G, ⟨HG.out, (done_next HW.out HG.out HG.out KG.out).2 (.inr rfl)⟩, h⟩
              · rintro ⟨G', ⟨h1, h2⟩, h3⟩
                rcases (done_next HW.out HG.out h1 KG.out).1 h2 with h | rfl
                · exact .inl ⟨G', ⟨h1, h⟩, h3⟩
                · exact .inr h3))
            have hnew := RX.out.left_eq
            clear hin hN hKD hV
            gi_wp2
            exact ⟨D :: Ds, _, cnt', ke + 1, kn + 25, _, _, _, _, _, _, _, _, _, _, _, _, _, _, _, _, _, _, _, _, _, _, _, _, _, _, _, _, _, rfl, FY.out, RX.out, ⟨by omega, by omega⟩, EX.out, HNF.out⟩
          case stop2 =>
            rintro D c' V pre Wx _ _ _ _ h
            exact h.elim
end
end Go.Proofs.YtgjegpponchdaaaDoor
