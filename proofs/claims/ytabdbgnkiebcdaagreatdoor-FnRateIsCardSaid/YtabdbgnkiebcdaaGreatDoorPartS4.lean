/- Texts joined: L11Read, L6In, Lists. -/
import Derived.Test.YtabdbgnkiebcdaaGreatDoorPartS2
import Derived.Test.YtabdbgnkiebcdaaGreatDoorPartS3
import Derived.Deep.AppendLies
import Derived.Test.YtabdbgnkiebcdaaGreatDoorProg
import Derived.Test.YtabdbgnkiebcdaaGreatDoorPartS1
namespace Go.Proofs.YtabdbgnkiebcdaaGreatDoor
set_option linter.unusedVariables false
set_option linter.unusedSimpArgs false
open Go.RowKit

/-- The byte at a place, 0 where there is none. -/
def byt (s : ByteArray) (i : Nat) : Nat := if h : i < s.size then (s[i]'h).toNat else 0
theorem byt_in {s : ByteArray} {i : Nat} (h : i < s.size) : byt s i = (s[i]'h).toNat := by unfold byt; rw [dif_pos h]
theorem byt_lt (s : ByteArray) (i : Nat) : byt s i < 256 := by
  unfold byt
  split
  · exact UInt8.toNat_lt _
  · omega
/-- What l11Read hands back. -/
def RetRead (W : List UInt8) (s : ByteArray) (w : World) (e : Ending) (w' : World) : Prop :=
  ∃ (a : Option Addr) (m c : Nat) (X : Nat → Int) (b : Bool), e = .returned (.tuple #[.slice a m c, .bool b]) ∧ m ≤ s.size ∧ Rd w' a m X ∧ Below w.heap.size w w' ∧
    ((b = true ∧ s = strU (wordsB W (numsL m X)) ∧ ∀ k, k < m → FewDig (X k)) ∨ (b = false ∧ NoWords W s.data.toList))

theorem owns_below {w w' : World} {base e n : Nat} {v : Value} {xs : List Value} (h : w.ownsRow base e 1 v n xs) (hb : Below w.heap.size w w') : w'.ownsRow base e 1 v n xs := by
  obtain ⟨k1, (k2 | ⟨g, cap, cur, k3, k4, k5, k6⟩)⟩ := h
  · exact ⟨k1, .inl k2⟩
  · exact ⟨k1, .inr ⟨g, cap, cur, k3, k4, (hb.block g (Array.getElem?_eq_some_iff.1 k5).1).trans k5, k6⟩⟩
theorem idx_byte {P : Program} (w : World) (t : TypeId) (s : ByteArray) (k : IntKind) (i : Nat) (h : P.underlying t = some .string) (hi : i < s.size) :
    (Instr.index t (.string s) (.int k (i : Nat))).run P w = .ok (.int .u8 (byt s i : Nat)) w := by
  rw [run_index_string w t s k i h, dif_pos (by omega), byt_in hi]; rfl
theorem bt_list {s : ByteArray} {i : Nat} (h : i < s.size) : s.data.toList[i]? = some (UInt8.ofNat (byt s i)) := by
  have h1 : i < s.data.toList.length := by rw [Array.length_toList]; exact h
  rw [List.getElem?_eq_getElem h1, byt_in h]
  congr 1
  show _ = UInt8.ofNat (s.data[i]'h).toNat
  rw [UInt8.ofNat_toNat, Array.getElem_toList]
theorem size_list (s : ByteArray) : s.data.toList.length = s.size := by rw [Array.length_toList]; rfl
theorem dig_bt {b : Nat} (h : b < 256) : DigB (UInt8.ofNat b) ↔ 48 ≤ b ∧ b ≤ 57 := by
  unfold DigB
  rw [UInt8.toNat_ofNat', show b % 2 ^ 8 = b by omega]
/-- The bytes from f up to e. -/
def cutL (s : ByteArray) (f e : Nat) : List UInt8 := (s.data.toList.drop f).take (e - f)
theorem cutL_nil (s : ByteArray) (f : Nat) : cutL s f f = [] := by unfold cutL; rw [Nat.sub_self]; rfl
theorem cutL_len {s : ByteArray} {f e : Nat} (h : f ≤ e) (he : e ≤ s.size) : (cutL s f e).length = e - f := by
  unfold cutL; rw [List.length_take, List.length_drop, size_list]; omega
theorem cutL_succ {s : ByteArray} {f e : Nat} (h : f ≤ e) (he : e < s.size) : cutL s f (e + 1) = cutL s f e ++ [UInt8.ofNat (byt s e)] := by
  have h1 := bt_list he
  unfold cutL
  rw [show e + 1 - f = (e - f) + 1 by omega, List.take_add_one, List.getElem?_drop, show f + (e - f) = e by omega, h1]
  rfl
theorem cutL_ext {s : ByteArray} {f e : Nat} : s.extract f e = strU (cutL s f e) := by
  apply ByteArray.ext
  rw [ByteArray.data_extract]
  apply Array.toList_inj.1
  show _ = (cutL s f e).toArray.toList
  simp [cutL]

/-- The digits from f on have been read as far as e. -/
def Digs (s : ByteArray) (f e v : Nat) : Prop := f ≤ e ∧ e ≤ s.size ∧ e - f ≤ 11 ∧ (∀ b ∈ cutL s f e, DigB b) ∧ v = numV 0 (cutL s f e)
theorem digs_zero {s : ByteArray} {f : Nat} (h : f ≤ s.size) : Digs s f f 0 := ⟨Nat.le_refl _, h, by omega, (by rw [cutL_nil]; intro b hb; cases hb), by rw [cutL_nil]; rfl⟩
theorem digs_lt {s : ByteArray} {f e v : Nat} (h : Digs s f e v) : v < 100000000000 := by
  have h1 := numV_lt (cutL s f e) 0 _ rfl h.2.2.2.1
  have h2 : (10 : Nat) ^ (cutL s f e).length ≤ 10 ^ 11 := Nat.pow_le_pow_right (by omega) (by rw [cutL_len h.1 h.2.1]; exact h.2.2.1)
  have h3 := h.2.2.2.2
  omega
theorem digs_succ {s : ByteArray} {f e v : Nat} (h : Digs s f e v) (he : e < s.size) (h11 : e - f < 11) (hb : 48 ≤ byt s e ∧ byt s e ≤ 57) : Digs s f (e + 1) (10 * v + (byt s e - 48)) := by
  obtain ⟨h1, h2, h3, h4, h5⟩ := h
  refine ⟨by omega, by omega, by omega, ?_, ?_⟩
  · rw [cutL_succ h1 he]
    intro c hc
    rcases List.mem_append.1 hc with hc | hc
    · exact h4 c hc
    · rw [List.mem_singleton] at hc
      subst hc
      exact (dig_bt (byt_lt s e)).2 hb
  · rw [cutL_succ h1 he, numV_append, ← h5]
    show _ = 10 * v + ((UInt8.ofNat (byt s e)).toNat - 48)
    rw [UInt8.toNat_ofNat', show byt s e % 2 ^ 8 = byt s e by have := byt_lt s e; omega]
/-- They go on no further. -/
def DigsEnd (s : ByteArray) (f e : Nat) : Prop := e - f = 11 ∨ ∀ b, s.data.toList[e]? = some b → ¬ DigB b
theorem end_size {s : ByteArray} {f e : Nat} (h : s.size ≤ e) : DigsEnd s f e := .inr fun b hb => by
  rw [List.getElem?_eq_none (by rw [size_list]; exact h)] at hb; cases hb
theorem end_byte {s : ByteArray} {f e : Nat} (h : e < s.size) (hb : ¬ (48 ≤ byt s e ∧ byt s e ≤ 57)) : DigsEnd s f e := .inr fun b h1 hd => by
  rw [bt_list h] at h1
  injection h1 with h1
  subst h1
  exact hb ((dig_bt (byt_lt s e)).1 hd)

theorem reads_digs {W : List UInt8} {s : ByteArray} {A : List Int} {k e v : Nat} (h : Reads W s.data.toList A k) (hk : k < s.size) (hd : Digs s (k + 1) e v) (he : DigsEnd s (k + 1) e) :
    ((byt s k = 32 ∧ e ≠ k + 1 ∧ s.extract (k + 1) e = strU (Lib.decDigits v)) → Reads W s.data.toList (A ++ [(v : Int)]) e) ∧
    (¬ (byt s k = 32 ∧ e ≠ k + 1 ∧ s.extract (k + 1) e = strU (Lib.decDigits v)) → NoWords W s.data.toList) := by
  obtain ⟨h1, h2, h3, h4, h5⟩ := hd
  have hc := bt_list hk
  have hlt := byt_lt s k
  obtain ⟨r1, r2⟩ := reads_step W s.data.toList A k e _ (cutL s (k + 1) e) h hc h1 (by rw [size_list]; exact h2) h3 rfl h4 he
  have e1 : UInt8.ofNat (byt s k) = 32 ↔ byt s k = 32 := by
    constructor
    · intro h
      have h6 := congrArg UInt8.toNat h
      rw [UInt8.toNat_ofNat', show byt s k % 2 ^ 8 = byt s k by omega] at h6
      exact h6
    · intro h; rw [h]; rfl
  have e2 : cutL s (k + 1) e ≠ [] ↔ e ≠ k + 1 := by
    have hl := cutL_len h1 h2
    constructor
    · intro h h'; subst h'; exact h (cutL_nil s _)
    · intro h h'; rw [h'] at hl; simp at hl; omega
  have e3 : cutL s (k + 1) e = Lib.decDigits (numV 0 (cutL s (k + 1) e)) ↔ s.extract (k + 1) e = strU (Lib.decDigits v) := by
    rw [cutL_ext, ← h5]
    constructor
    · intro h; exact congrArg strU h
    · intro h
      have := congrArg (fun z => z.data.toList) h
      simpa only [strU_list] using this
  rw [e1, e2, e3, ← h5] at r1
  rw [e1, e2, e3] at r2
  exact ⟨r1, r2⟩

set_option maxRecDepth 100000 in
set_option maxHeartbeats 6400000 in
theorem l11Read_any (W : List UInt8) (s : ByteArray) (w : World) (hW : W.length ≤ 100) (hs : s.size ≤ 1048576) :
    Calls Tryz.prog 38 #[.string s, .string (strU W)] w (RetRead W s w) := by
  obtain ⟨i0, hi, hz0, hz1, hz2⟩ := info_parts Tryz.infoInt
  have zW : (strU W).size = W.length := strU_size W
  have hl := size_list s
  by_cases h1 : s.size < W.length
  · have d1 : decide ((s.size : Int) < (W.length : Int)) = true := decide_eq_true (by omega)
    have d1n : decide (s.size < W.length) = true := decide_eq_true h1
    have NW := Lib.hid (no_prefix W s.data.toList (.inl (by rw [hl]; exact h1)))
    clear hl h1
    go_enter Tryz.func38, Tryz.ntmps38
    go_wp2_with fail
    go_ret2
    exact ⟨_, 0, _, fun _ => 0, _, rfl, Nat.zero_le _, (fun k h => absurd h (Nat.not_lt_zero _)), below_alloc (Below.refl _ _) _, .inr ⟨rfl, NW.out⟩⟩
  · have d1 : decide ((s.size : Int) < (W.length : Int)) = false := decide_eq_false (by omega)
    have d1n : decide (s.size < W.length) = false := decide_eq_false h1
    have i1 : (0 : Int) ≤ (W.length : Int) := by omega
    have i2 : (W.length : Int) ≤ (s.size : Int) := by omega
    have hx : (s.extract 0 W.length).toList = s.data.toList.take W.length := by
      rw [ByteArray.toList_eq]
      rw [show s.extract 0 W.length = strU (cutL s 0 W.length) from cutL_ext, strU_list]
      unfold cutL
      rw [List.drop_zero, Nat.sub_zero]
    have hy : (strU W).toList = W := by rw [ByteArray.toList_eq]; exact strU_list W
    by_cases h2 : s.data.toList.take W.length = W
    · have d2 : ((s.extract 0 W.length).toList == (strU W).toList) = true := by rw [hx, hy, h2]; simp
      have R0 := Lib.hid (reads_zero W s.data.toList (by omega) h2)
      have HS := Lib.hid hs
      have hWs : W.length ≤ s.size := by omega
      clear hx hy h1 h2 hl
      go_enter Tryz.func38, Tryz.ntmps38
      go_wp2_with fail
      have O0 := Lib.hid (owns_empty (W := w.alloc (.cells #[] 3)) (base := w.heap.size) (heap_alloc_new w _) (Nat.le_refl _))
      have B0 := Lib.hid (below_alloc (Below.refl w.heap.size w) (.cells #[] 3))
      go_loopw [6, 7, 8, 9, 10] (fun ot at_ _ _ _ wr => ∃ (A : List Int) (k : Nat), at_ = .int .i64 (k : Nat) ∧ Reads W s.data.toList A k ∧ A.length ≤ k ∧ k ≤ s.size ∧ ∃ rv, rv = ot ∧ wr.ownsRow w.heap.size 3 1 rv A.length (A.map (Value.int .i64)) ∧ Below w.heap.size w wr) (fun _ at_ _ _ _ _ => s.size - (intOf at_).toNat)
      case atStart => exact ⟨[], W.length, rfl, R0.out, Nat.zero_le _, hWs, _, rfl, O0.out, B0.out⟩
      case round =>
        obtain ⟨A, k, rfl, hR, hAk, hks, rv, rfl, hown, hB⟩ := hrel
        clear R0 O0 B0 d2
        rename World => wo
        have RD := Lib.hid hR
        have OW := Lib.hid hown
        have BW := Lib.hid hB
        have HK := Lib.hid hks
        have HAK := Lib.hid hAk
        have hs1 := HS.out
        clear hR hown hB hWs hAk
        by_cases hlt : k < s.size
        · have e1 : decide ((k : Int) < (s.size : Int)) = true := decide_eq_true (by omega)
          have e1n : decide (k < s.size) = true := decide_eq_true hlt
          obtain ⟨f, hf⟩ : ∃ f, f = k + 1 := ⟨_, rfl⟩
          have hwf : IntKind.i64.wrap ((k : Int) + 1) = (f : Int) := by rw [IntWalk.i64_in _ (by omega)]; omega
          have HF := Lib.hid hf
          have hfs : f ≤ s.size := by omega
          have HL := Lib.hid hlt
          have D0 := Lib.hid (digs_zero (s := s) (f := f) hfs)
          clear hlt hf hks
          go_wp2_with fail
          go_loop [9, 10] (fun en vv => ∃ e v : Nat, en = .int .i64 (e : Nat) ∧ vv = .int .i64 (v : Nat) ∧ Digs s f e v) (fun en _ => s.size - (intOf en).toNat)
          case atStart => exact ⟨f, 0, rfl, rfl, D0.out⟩
          case round =>
            obtain ⟨e, v, rfl, rfl, hD⟩ := hrel
            have DG := Lib.hid hD
            have hv := digs_lt hD
            have h1 := hD.1
            have h2 := hD.2.1
            have h3 := hD.2.2.1
            have RDG := Lib.hid (fun (he : DigsEnd s f e) => reads_digs RD.out HL.out (by rw [← HF.out]; exact hD) (by rw [← HF.out]; exact he))
            have hsub : wrap64 ((e : Int) - (f : Int)) = (e : Int) - (f : Int) := IntWalk.wrap64_in _ (by omega)
            have hsub2 : IntKind.i64.wrap ((e : Int) - (f : Int)) = (e : Int) - (f : Int) := by rw [IntWalk.i64_in _ (by omega)]
            obtain ⟨b, hb⟩ : ∃ b, b = byt s e := ⟨_, rfl⟩
            have HBB := Lib.hid hb
            have hb256 : b < 256 := by rw [hb]; exact byt_lt s e
            clear hD D0 d1 d1n
            by_cases hgo : e < s.size ∧ (48 ≤ b ∧ b ≤ 57) ∧ e - f < 11
            · obtain ⟨g1, ⟨g2, g3⟩, g4⟩ := hgo
              have k1 : decide ((e : Int) < (s.size : Int)) = true := decide_eq_true (by omega)
              have k1n : decide (e < s.size) = true := decide_eq_true g1
              have k2 : decide ((48 : Int) ≤ (b : Int)) = true := decide_eq_true (by omega)
              have k2n : decide (48 ≤ b) = true := decide_eq_true g2
              have k3 : decide ((b : Int) ≤ 57) = true := decide_eq_true (by omega)
              have k3n : decide (b ≤ 57) = true := decide_eq_true g3
              have k4 : decide ((e : Int) - (f : Int) < 11) = true := decide_eq_true (by omega)
              have hix : ∀ w : World, (Instr.index 9 (.string s) (.int .i64 (e : Nat))).run Tryz.prog w = .ok (.int .u8 (b : Nat)) w := fun w => by rw [hb]; exact idx_byte w _ s _ e Tryz.underlying9 g1
              obtain ⟨d, hd⟩ : ∃ d, d = b - 48 := ⟨_, rfl⟩
              have hw8 : IntKind.u8.wrap ((b : Int) - 48) = (d : Int) := by rw [IntKind.wrap_u8]; omega
              have hw8b : ((b : Int) - 48) % 256 = (d : Int) := by omega
              have hwd : IntKind.i64.wrap (d : Int) = (d : Int) := by rw [IntWalk.i64_in _ (by omega)]
              obtain ⟨v10, hv10⟩ : ∃ v10, v10 = 10 * v := ⟨_, rfl⟩
              have hw10 : IntKind.i64.wrap (10 * (v : Int)) = (v10 : Int) := by rw [IntWalk.i64_in _ (by omega)]; omega
              obtain ⟨v', hv'⟩ : ∃ v', v' = v10 + d := ⟨_, rfl⟩
              have hwv : IntKind.i64.wrap ((v10 : Int) + (d : Int)) = (v' : Int) := by rw [IntWalk.i64_in _ (by omega)]; omega
              have ND := Lib.hid (show Digs s f (e + 1) v' by rw [hv', hv10, hd, hb]; exact digs_succ DG.out g1 g4 (by rw [← hb]; exact ⟨g2, g3⟩))
              clear hv' hv10 hd hb g2 g3 g4 hsub2
              go_wp2_with fail
              go_round
              case rel => exact ⟨e + 1, v', by go_num, rfl, ND.out⟩
              case measure => simp [intOf]; omega
            · have stp : DigsEnd s f e := by
                by_cases g1 : e < s.size
                · by_cases g2 : 48 ≤ b ∧ b ≤ 57
                  · exact .inl (by have : ¬ e - f < 11 := fun h => hgo ⟨g1, g2, h⟩; omega)
                  · exact end_byte g1 (by rw [← hb]; exact g2)
                · exact end_size (by omega)
              have RS := Lib.hid (RDG.out stp)
              clear RDG stp
              obtain ⟨c, hc⟩ : ∃ c, c = byt s k := ⟨_, rfl⟩
              have HC := Lib.hid hc
              have hixk : ∀ w : World, (Instr.index 9 (.string s) (.int .i64 (k : Nat))).run Tryz.prog w = .ok (.int .u8 (c : Nat)) w := fun w => by rw [hc]; exact idx_byte w _ s _ k Tryz.underlying9 HL.out
              have hv62 : v < 4611686018427387904 := by omega
              have DEC := Lib.hid (fun (r : Later wo) => l6Dec_any v r.W hv62)
              have i1 : (0 : Int) ≤ (f : Int) := by omega
              have i2 : (f : Int) ≤ (e : Int) := by omega
              have i3 : (e : Int) ≤ (s.size : Int) := by omega
              have GOON := Lib.hid hgo
              rw [← hc] at RS
              clear hc
              by_cases c1 : c = 32
              · have q1 : ((c : Int) != 32) = false := by rw [c1]; rfl
                by_cases c2 : e = f
                · have NW := Lib.hid (RS.out.2 (fun h => h.2.1 (by rw [c2]; exact HF.out)))
                  clear RS
                  subst c2
                  have q2 : ((e : Int) == (e : Int)) = true := by simp
                  have q2n : (e == e) = true := by simp
                  by_cases g1 : e < s.size
                  · have hix : ∀ w : World, (Instr.index 9 (.string s) (.int .i64 (e : Nat))).run Tryz.prog w = .ok (.int .u8 (b : Nat)) w := fun w => by rw [hb]; exact idx_byte w _ s _ e Tryz.underlying9 g1
                    have k1 : decide ((e : Int) < (s.size : Int)) = true := decide_eq_true (by omega)
                    have k1n : decide (e < s.size) = true := decide_eq_true g1
                    by_cases g2 : 48 ≤ b
                    · have k2 : decide ((48 : Int) ≤ (b : Int)) = true := decide_eq_true (by omega)
                      have k2n : decide (48 ≤ b) = true := decide_eq_true g2
                      by_cases g3 : b ≤ 57
                      · have k3 : decide ((b : Int) ≤ 57) = true := decide_eq_true (by omega)
                        have k3n : decide (b ≤ 57) = true := decide_eq_true g3
                        exact absurd ⟨g1, ⟨g2, g3⟩, by omega⟩ GOON.out
                      · have k3 : decide ((b : Int) ≤ 57) = false := decide_eq_false (by omega)
                        have k3n : decide (b ≤ 57) = false := decide_eq_false g3
                        clear hb g2 g3 hsub2
                        go_wp2_with fail
                        go_quiet (fail)
                        go_wp2_with fail
                        go_ret2
                        exact ⟨_, 0, _, fun _ => 0, _, rfl, Nat.zero_le _, (fun k h => absurd h (Nat.not_lt_zero _)), below_alloc (below_drewN BW.out _) _, .inr ⟨rfl, NW.out⟩⟩
                    · have k2 : decide ((48 : Int) ≤ (b : Int)) = false := decide_eq_false (by omega)
                      have k2n : decide (48 ≤ b) = false := decide_eq_false g2
                      clear hb g2 hsub2
                      go_wp2_with fail
                      go_quiet (fail)
                      go_wp2_with fail
                      go_ret2
                      exact ⟨_, 0, _, fun _ => 0, _, rfl, Nat.zero_le _, (fun k h => absurd h (Nat.not_lt_zero _)), below_alloc (below_drewN BW.out _) _, .inr ⟨rfl, NW.out⟩⟩
                  · have k1 : decide ((e : Int) < (s.size : Int)) = false := decide_eq_false (by omega)
                    have k1n : decide (e < s.size) = false := decide_eq_false g1
                    clear hb hsub2
                    go_wp2_with fail
                    go_quiet (fail)
                    go_wp2_with fail
                    go_ret2
                    exact ⟨_, 0, _, fun _ => 0, _, rfl, Nat.zero_le _, (fun k h => absurd h (Nat.not_lt_zero _)), below_alloc (below_drewN BW.out _) _, .inr ⟨rfl, NW.out⟩⟩
                · have q2 : ((e : Int) == (f : Int)) = false := by simp; omega
                  have q2n : (e == f) = false := by simpa using c2
                  by_cases c3 : s.extract f e = strU (Lib.decDigits v)
                  · have q3 : ((s.extract f e).toList == (strU (Lib.decDigits v)).toList) = true := by rw [c3]; simp
                    have NR := Lib.hid (RS.out.1 ⟨c1, by rw [← HF.out]; exact c2, by rw [← HF.out]; exact c3⟩)
                    clear RS
                    by_cases g1 : e < s.size
                    · have hix : ∀ w : World, (Instr.index 9 (.string s) (.int .i64 (e : Nat))).run Tryz.prog w = .ok (.int .u8 (b : Nat)) w := fun w => by rw [hb]; exact idx_byte w _ s _ e Tryz.underlying9 g1
                      have k1 : decide ((e : Int) < (s.size : Int)) = true := decide_eq_true (by omega)
                      have k1n : decide (e < s.size) = true := decide_eq_true g1
                      by_cases g2 : 48 ≤ b
                      · have k2 : decide ((48 : Int) ≤ (b : Int)) = true := decide_eq_true (by omega)
                        have k2n : decide (48 ≤ b) = true := decide_eq_true g2
                        by_cases g3 : b ≤ 57
                        · have k3 : decide ((b : Int) ≤ 57) = true := decide_eq_true (by omega)
                          have k3n : decide (b ≤ 57) = true := decide_eq_true g3
                          have k4 : decide ((e : Int) - (f : Int) < 11) = false := decide_eq_false (by have : ¬ e - f < 11 := fun h => GOON.out ⟨g1, ⟨g2, g3⟩, h⟩; omega)
                          clear hb g2 g3 hsub2
                          go_wp2_with fail
                          refine wp_region_later (by kernel_rfl) (by kernel_rfl) ?_
                          repeat go_big_quiet_step ((go_at_call 70; exact calls_later _ (DEC.out _)))
                          refine wpQuiet_nil ?_
                          rintro _ ⟨r, rfl⟩
                          have OR := Lib.hid (owns_below OW.out r.h)
                          have BR := Lib.hid (BW.out.trans (r.h.mono BW.out.size))
                          have hAs : A.length ≤ 1048576 := by have h8 := HAK.out; have h9 := HK.out; omega
                          have hbz := BR.out.size
                          clear DEC
                          go_wp2_with (at_builtin; refine wpList_append_lies _ (by rfl) (.tmp 86) (.tmp 88) 33 (by rfl) w.heap.size 3 i0 (.int .i64 0) 1 8 Tryz.underlying33 hi hz0 hz1 hz2 (by rfl) (by decide) rv A.length (A.map (Value.int .i64)) (by rfl) (OR.out.alloc _) ⟨_, 0, none⟩ 1 1 [.int .i64 (v : Nat)] (by rfl) (by rfl) (news_one (by simp)) (by simp [Value.oneCell']) (by omega) (by unfold maxLen; omega) (by omega) (by simp; omega) _ rfl ?_; intro g2 cap2 w2 hown2 hgrow2 hat2 hlt2; have N2 := Lib.hid hown2; have G2 := Lib.hid hgrow2; clear hown2 hgrow2 hat2)
                          go_roundw
                          case rel =>
                            have hcl : ∀ g, rv.ownBlock = some g → w.heap.size ≤ g := fun g h => (OW.out.lt g h).1
                            have h5 := N2.out
                            refine ⟨A ++ [(v : Int)], e, rfl, NR.out, by have := HAK.out; have := HF.out; simp; omega, by omega, _, rfl, ?_, (below_alloc BR.out _).grown G2.out (by simp; omega) hcl⟩
                            rw [List.length_append, List.map_append]
                            exact h5
                          case measure => have := HF.out; simp [intOf]; omega
                        · have k3 : decide ((b : Int) ≤ 57) = false := decide_eq_false (by omega)
                          have k3n : decide (b ≤ 57) = false := decide_eq_false g3
                          clear hb g2 g3 hsub2
                          go_wp2_with fail
                          refine wp_region_later (by kernel_rfl) (by kernel_rfl) ?_
                          repeat go_big_quiet_step ((go_at_call 70; exact calls_later _ (DEC.out _)))
                          refine wpQuiet_nil ?_
                          rintro _ ⟨r, rfl⟩
                          have OR := Lib.hid (owns_below OW.out r.h)
                          have BR := Lib.hid (BW.out.trans (r.h.mono BW.out.size))
                          have hAs : A.length ≤ 1048576 := by have h8 := HAK.out; have h9 := HK.out; omega
                          have hbz := BR.out.size
                          clear DEC
                          go_wp2_with (at_builtin; refine wpList_append_lies _ (by rfl) (.tmp 86) (.tmp 88) 33 (by rfl) w.heap.size 3 i0 (.int .i64 0) 1 8 Tryz.underlying33 hi hz0 hz1 hz2 (by rfl) (by decide) rv A.length (A.map (Value.int .i64)) (by rfl) (OR.out.alloc _) ⟨_, 0, none⟩ 1 1 [.int .i64 (v : Nat)] (by rfl) (by rfl) (news_one (by simp)) (by simp [Value.oneCell']) (by omega) (by unfold maxLen; omega) (by omega) (by simp; omega) _ rfl ?_; intro g2 cap2 w2 hown2 hgrow2 hat2 hlt2; have N2 := Lib.hid hown2; have G2 := Lib.hid hgrow2; clear hown2 hgrow2 hat2)
                          go_roundw
                          case rel =>
                            have hcl : ∀ g, rv.ownBlock = some g → w.heap.size ≤ g := fun g h => (OW.out.lt g h).1
                            have h5 := N2.out
                            refine ⟨A ++ [(v : Int)], e, rfl, NR.out, by have := HAK.out; have := HF.out; simp; omega, by omega, _, rfl, ?_, (below_alloc BR.out _).grown G2.out (by simp; omega) hcl⟩
                            rw [List.length_append, List.map_append]
                            exact h5
                          case measure => have := HF.out; simp [intOf]; omega
                      · have k2 : decide ((48 : Int) ≤ (b : Int)) = false := decide_eq_false (by omega)
                        have k2n : decide (48 ≤ b) = false := decide_eq_false g2
                        clear hb g2 hsub2
                        go_wp2_with fail
                        refine wp_region_later (by kernel_rfl) (by kernel_rfl) ?_
                        repeat go_big_quiet_step ((go_at_call 70; exact calls_later _ (DEC.out _)))
                        refine wpQuiet_nil ?_
                        rintro _ ⟨r, rfl⟩
                        have OR := Lib.hid (owns_below OW.out r.h)
                        have BR := Lib.hid (BW.out.trans (r.h.mono BW.out.size))
                        have hAs : A.length ≤ 1048576 := by have h8 := HAK.out; have h9 := HK.out; omega
                        have hbz := BR.out.size
                        clear DEC
                        go_wp2_with (at_builtin; refine wpList_append_lies _ (by rfl) (.tmp 86) (.tmp 88) 33 (by rfl) w.heap.size 3 i0 (.int .i64 0) 1 8 Tryz.underlying33 hi hz0 hz1 hz2 (by rfl) (by decide) rv A.length (A.map (Value.int .i64)) (by rfl) (OR.out.alloc _) ⟨_, 0, none⟩ 1 1 [.int .i64 (v : Nat)] (by rfl) (by rfl) (news_one (by simp)) (by simp [Value.oneCell']) (by omega) (by unfold maxLen; omega) (by omega) (by simp; omega) _ rfl ?_; intro g2 cap2 w2 hown2 hgrow2 hat2 hlt2; have N2 := Lib.hid hown2; have G2 := Lib.hid hgrow2; clear hown2 hgrow2 hat2)
                        go_roundw
                        case rel =>
                          have hcl : ∀ g, rv.ownBlock = some g → w.heap.size ≤ g := fun g h => (OW.out.lt g h).1
                          have h5 := N2.out
                          refine ⟨A ++ [(v : Int)], e, rfl, NR.out, by have := HAK.out; have := HF.out; simp; omega, by omega, _, rfl, ?_, (below_alloc BR.out _).grown G2.out (by simp; omega) hcl⟩
                          rw [List.length_append, List.map_append]
                          exact h5
                        case measure => have := HF.out; simp [intOf]; omega
                    · have k1 : decide ((e : Int) < (s.size : Int)) = false := decide_eq_false (by omega)
                      have k1n : decide (e < s.size) = false := decide_eq_false g1
                      clear hb hsub2
                      go_wp2_with fail
                      refine wp_region_later (by kernel_rfl) (by kernel_rfl) ?_
                      repeat go_big_quiet_step ((go_at_call 70; exact calls_later _ (DEC.out _)))
                      refine wpQuiet_nil ?_
                      rintro _ ⟨r, rfl⟩
                      have OR := Lib.hid (owns_below OW.out r.h)
                      have BR := Lib.hid (BW.out.trans (r.h.mono BW.out.size))
                      have hAs : A.length ≤ 1048576 := by have h8 := HAK.out; have h9 := HK.out; omega
                      have hbz := BR.out.size
                      clear DEC
                      go_wp2_with (at_builtin; refine wpList_append_lies _ (by rfl) (.tmp 86) (.tmp 88) 33 (by rfl) w.heap.size 3 i0 (.int .i64 0) 1 8 Tryz.underlying33 hi hz0 hz1 hz2 (by rfl) (by decide) rv A.length (A.map (Value.int .i64)) (by rfl) (OR.out.alloc _) ⟨_, 0, none⟩ 1 1 [.int .i64 (v : Nat)] (by rfl) (by rfl) (news_one (by simp)) (by simp [Value.oneCell']) (by omega) (by unfold maxLen; omega) (by omega) (by simp; omega) _ rfl ?_; intro g2 cap2 w2 hown2 hgrow2 hat2 hlt2; have N2 := Lib.hid hown2; have G2 := Lib.hid hgrow2; clear hown2 hgrow2 hat2)
                      go_roundw
                      case rel =>
                        have hcl : ∀ g, rv.ownBlock = some g → w.heap.size ≤ g := fun g h => (OW.out.lt g h).1
                        have h5 := N2.out
                        refine ⟨A ++ [(v : Int)], e, rfl, NR.out, by have := HAK.out; have := HF.out; simp; omega, by omega, _, rfl, ?_, (below_alloc BR.out _).grown G2.out (by simp; omega) hcl⟩
                        rw [List.length_append, List.map_append]
                        exact h5
                      case measure => have := HF.out; simp [intOf]; omega
                  · have q3 : ((s.extract f e).toList == (strU (Lib.decDigits v)).toList) = false := by
                      rw [beq_eq_false_iff_ne]
                      intro h
                      rw [ByteArray.toList_eq, ByteArray.toList_eq] at h
                      exact c3 (ByteArray.ext (Array.toList_inj.1 h))
                    have NW := Lib.hid (RS.out.2 (fun h => c3 (by rw [HF.out]; exact h.2.2)))
                    clear RS
                    by_cases g1 : e < s.size
                    · have hix : ∀ w : World, (Instr.index 9 (.string s) (.int .i64 (e : Nat))).run Tryz.prog w = .ok (.int .u8 (b : Nat)) w := fun w => by rw [hb]; exact idx_byte w _ s _ e Tryz.underlying9 g1
                      have k1 : decide ((e : Int) < (s.size : Int)) = true := decide_eq_true (by omega)
                      have k1n : decide (e < s.size) = true := decide_eq_true g1
                      by_cases g2 : 48 ≤ b
                      · have k2 : decide ((48 : Int) ≤ (b : Int)) = true := decide_eq_true (by omega)
                        have k2n : decide (48 ≤ b) = true := decide_eq_true g2
                        by_cases g3 : b ≤ 57
                        · have k3 : decide ((b : Int) ≤ 57) = true := decide_eq_true (by omega)
                          have k3n : decide (b ≤ 57) = true := decide_eq_true g3
                          have k4 : decide ((e : Int) - (f : Int) < 11) = false := decide_eq_false (by have : ¬ e - f < 11 := fun h => GOON.out ⟨g1, ⟨g2, g3⟩, h⟩; omega)
                          clear hb g2 g3 hsub2
                          go_wp2_with fail
                          refine wp_region_later (by kernel_rfl) (by kernel_rfl) ?_
                          repeat go_big_quiet_step ((go_at_call 70; exact calls_later _ (DEC.out _)))
                          refine wpQuiet_nil ?_
                          rintro _ ⟨r, rfl⟩
                          go_wp2_with fail
                          go_ret2
                          exact ⟨_, 0, _, fun _ => 0, _, rfl, Nat.zero_le _, (fun k h => absurd h (Nat.not_lt_zero _)), below_alloc (BW.out.trans (r.h.mono BW.out.size)) _, .inr ⟨rfl, NW.out⟩⟩
                        · have k3 : decide ((b : Int) ≤ 57) = false := decide_eq_false (by omega)
                          have k3n : decide (b ≤ 57) = false := decide_eq_false g3
                          clear hb g2 g3 hsub2
                          go_wp2_with fail
                          refine wp_region_later (by kernel_rfl) (by kernel_rfl) ?_
                          repeat go_big_quiet_step ((go_at_call 70; exact calls_later _ (DEC.out _)))
                          refine wpQuiet_nil ?_
                          rintro _ ⟨r, rfl⟩
                          go_wp2_with fail
                          go_ret2
                          exact ⟨_, 0, _, fun _ => 0, _, rfl, Nat.zero_le _, (fun k h => absurd h (Nat.not_lt_zero _)), below_alloc (BW.out.trans (r.h.mono BW.out.size)) _, .inr ⟨rfl, NW.out⟩⟩
                      · have k2 : decide ((48 : Int) ≤ (b : Int)) = false := decide_eq_false (by omega)
                        have k2n : decide (48 ≤ b) = false := decide_eq_false g2
                        clear hb g2 hsub2
                        go_wp2_with fail
                        refine wp_region_later (by kernel_rfl) (by kernel_rfl) ?_
                        repeat go_big_quiet_step ((go_at_call 70; exact calls_later _ (DEC.out _)))
                        refine wpQuiet_nil ?_
                        rintro _ ⟨r, rfl⟩
                        go_wp2_with fail
                        go_ret2
                        exact ⟨_, 0, _, fun _ => 0, _, rfl, Nat.zero_le _, (fun k h => absurd h (Nat.not_lt_zero _)), below_alloc (BW.out.trans (r.h.mono BW.out.size)) _, .inr ⟨rfl, NW.out⟩⟩
                    · have k1 : decide ((e : Int) < (s.size : Int)) = false := decide_eq_false (by omega)
                      have k1n : decide (e < s.size) = false := decide_eq_false g1
                      clear hb hsub2
                      go_wp2_with fail
                      refine wp_region_later (by kernel_rfl) (by kernel_rfl) ?_
                      repeat go_big_quiet_step ((go_at_call 70; exact calls_later _ (DEC.out _)))
                      refine wpQuiet_nil ?_
                      rintro _ ⟨r, rfl⟩
                      go_wp2_with fail
                      go_ret2
                      exact ⟨_, 0, _, fun _ => 0, _, rfl, Nat.zero_le _, (fun k h => absurd h (Nat.not_lt_zero _)), below_alloc (BW.out.trans (r.h.mono BW.out.size)) _, .inr ⟨rfl, NW.out⟩⟩
              · have q1 : ((c : Int) != 32) = true := by simp; omega
                have NW := Lib.hid (RS.out.2 (fun h => c1 h.1))
                clear RS
                by_cases g1 : e < s.size
                · have hix : ∀ w : World, (Instr.index 9 (.string s) (.int .i64 (e : Nat))).run Tryz.prog w = .ok (.int .u8 (b : Nat)) w := fun w => by rw [hb]; exact idx_byte w _ s _ e Tryz.underlying9 g1
                  have k1 : decide ((e : Int) < (s.size : Int)) = true := decide_eq_true (by omega)
                  have k1n : decide (e < s.size) = true := decide_eq_true g1
                  by_cases g2 : 48 ≤ b
                  · have k2 : decide ((48 : Int) ≤ (b : Int)) = true := decide_eq_true (by omega)
                    have k2n : decide (48 ≤ b) = true := decide_eq_true g2
                    by_cases g3 : b ≤ 57
                    · have k3 : decide ((b : Int) ≤ 57) = true := decide_eq_true (by omega)
                      have k3n : decide (b ≤ 57) = true := decide_eq_true g3
                      have k4 : decide ((e : Int) - (f : Int) < 11) = false := decide_eq_false (by have : ¬ e - f < 11 := fun h => GOON.out ⟨g1, ⟨g2, g3⟩, h⟩; omega)
                      clear hb g2 g3 hsub2
                      go_wp2_with fail
                      go_quiet (fail)
                      go_wp2_with fail
                      go_ret2
                      exact ⟨_, 0, _, fun _ => 0, _, rfl, Nat.zero_le _, (fun k h => absurd h (Nat.not_lt_zero _)), below_alloc (below_drewN BW.out _) _, .inr ⟨rfl, NW.out⟩⟩
                    · have k3 : decide ((b : Int) ≤ 57) = false := decide_eq_false (by omega)
                      have k3n : decide (b ≤ 57) = false := decide_eq_false g3
                      clear hb g2 g3 hsub2
                      go_wp2_with fail
                      go_quiet (fail)
                      go_wp2_with fail
                      go_ret2
                      exact ⟨_, 0, _, fun _ => 0, _, rfl, Nat.zero_le _, (fun k h => absurd h (Nat.not_lt_zero _)), below_alloc (below_drewN BW.out _) _, .inr ⟨rfl, NW.out⟩⟩
                  · have k2 : decide ((48 : Int) ≤ (b : Int)) = false := decide_eq_false (by omega)
                    have k2n : decide (48 ≤ b) = false := decide_eq_false g2
                    clear hb g2 hsub2
                    go_wp2_with fail
                    go_quiet (fail)
                    go_wp2_with fail
                    go_ret2
                    exact ⟨_, 0, _, fun _ => 0, _, rfl, Nat.zero_le _, (fun k h => absurd h (Nat.not_lt_zero _)), below_alloc (below_drewN BW.out _) _, .inr ⟨rfl, NW.out⟩⟩
                · have k1 : decide ((e : Int) < (s.size : Int)) = false := decide_eq_false (by omega)
                  have k1n : decide (e < s.size) = false := decide_eq_false g1
                  clear hb hsub2
                  go_wp2_with fail
                  go_quiet (fail)
                  go_wp2_with fail
                  go_ret2
                  exact ⟨_, 0, _, fun _ => 0, _, rfl, Nat.zero_le _, (fun k h => absurd h (Nat.not_lt_zero _)), below_alloc (below_drewN BW.out _) _, .inr ⟨rfl, NW.out⟩⟩
        · obtain rfl : k = s.size := by have := HK.out; omega
          have e1 : decide ((s.size : Int) < (s.size : Int)) = false := decide_eq_false (by omega)
          have e1n : decide (s.size < s.size) = false := decide_eq_false (by omega)
          have RE := Lib.hid (show s = strU (wordsB W A) ∧ FewAll A from by
            have h := RD.out
            rw [← size_list s] at h
            obtain ⟨h1, h2⟩ := reads_end W _ A h
            exact ⟨by rw [← h1, strU_of], h2⟩)
          have hAs : A.length ≤ s.size := HAK.out
          go_wp2_with fail
          go_ret2
          obtain ⟨a9, c9, rfl⟩ : ∃ a c, rv = .slice a A.length c := by
            obtain ⟨_, (⟨h1, h0⟩ | ⟨g, cap, _, hv, _⟩)⟩ := OW.out
            · exact ⟨none, 0, by rw [h1, h0]⟩
            · exact ⟨some ⟨g, 0, none⟩, cap, hv⟩
          have hnL : numsL A.length (nth A) = A := by
            unfold numsL nth
            apply List.ext_getElem
            · simp
            · intro i h1 h2
              simp [List.getD_eq_getElem?_getD, List.getElem?_eq_getElem h2]
          refine ⟨a9, A.length, c9, nth A, true, rfl, hAs, ?_, BW.out, .inl ⟨rfl, by rw [hnL]; exact RE.out.1, fun k hk => RE.out.2 _ (by
            have : nth A k ∈ numsL A.length (nth A) := numsL_mem.2 ⟨k, hk, rfl⟩
            rwa [hnL] at this)⟩⟩
          have h6 := OW.out
          rw [show A.map (Value.int .i64) = cellsL A.length (nth A) from by
            unfold cellsL nth
            apply List.ext_getElem
            · simp
            · intro i h1 h2
              simp at h1
              simp [List.getD_eq_getElem?_getD, List.getElem?_eq_getElem h1]] at h6
          obtain ⟨_, (⟨h1, h0⟩ | ⟨g, cap, _, hv, _⟩)⟩ := id h6
          · exact fun k h => absurd h (by rw [h0]; exact Nat.not_lt_zero _)
          · injection hv with hv1 hv2 hv3
            subst hv1 hv3
            exact owns_rd h6
    · have d2 : ((s.extract 0 W.length).toList == (strU W).toList) = false := by
        rw [hx, hy]; simpa using h2
      have NW := Lib.hid (no_prefix W s.data.toList (.inr h2))
      clear hx hy h1 h2 hl
      go_enter Tryz.func38, Tryz.ntmps38
      go_wp2_with fail
      go_ret2
      exact ⟨_, 0, _, fun _ => 0, _, rfl, Nat.zero_le _, (fun k h => absurd h (Nat.not_lt_zero _)), below_alloc (Below.refl _ _) _, .inr ⟨rfl, NW.out⟩⟩

theorem numsL_nthR (L : List Int) : numsL L.length (nth L) = L := by
  unfold numsL nth
  apply List.ext_getElem
  · simp
  · intro i h1 h2
    simp [List.getD_eq_getElem?_getD, List.getElem?_eq_getElem h2]
theorem read_yes {W : List UInt8} {L : List Int} {t : ByteArray} (w : World) (hW : W.length ≤ 100) (hs : t.size ≤ 1048576) (hL : FewAll L) (ht : t = strU (wordsB W L)) :
    Calls Tryz.prog 38 #[.string t, .string (strU W)] w fun e w' => (∃ a c, e = .returned (.tuple #[.slice a L.length c, .bool true]) ∧ Rd w' a L.length (nth L)) ∧ L.length ≤ 1048576 ∧ Below w.heap.size w w' := by
  refine (l11Read_any W t w hW hs).mono ?_
  rintro e w' ⟨a, m, c, X, b, rfl, hm, hr, hb, (⟨rfl, h1, h2⟩ | ⟨rfl, h1⟩)⟩
  · have h3 : wordsB W (numsL m X) = wordsB W L := by
      have h4 := h1.symm.trans ht
      have := congrArg (fun z => z.data.toList) h4
      simpa only [strU_list] using this
    have h5 := words_inj W _ _ (numsL_few h2) hL h3
    have h6 : m = L.length := by rw [← h5, numsL_len]
    refine ⟨⟨a, c, by rw [h6], fun k hk => ?_⟩, by omega, hb⟩
    obtain ⟨bb, oo, e1, hc⟩ := hr k (by omega)
    refine ⟨bb, oo, e1, ?_⟩
    have h7 : nth L k = X k := by
      rw [← h5]; unfold nth numsL
      have : k < m := by omega
      simp [List.getD_eq_getElem?_getD, this]
    rw [h7]; exact hc
  · exact absurd (by rw [ht, strU_list]) (h1 L hL)
theorem read_no {W : List UInt8} {t : ByteArray} (w : World) (hW : W.length ≤ 100) (hs : t.size ≤ 1048576) (ht : ∀ L, FewAll L → t ≠ strU (wordsB W L)) :
    Calls Tryz.prog 38 #[.string t, .string (strU W)] w fun e w' => (∃ a m c, e = .returned (.tuple #[.slice a m c, .bool false])) ∧ Below w.heap.size w w' := by
  refine (l11Read_any W t w hW hs).mono ?_
  rintro e w' ⟨a, m, c, X, b, rfl, hm, hr, hb, (⟨rfl, h1, h2⟩ | ⟨rfl, h1⟩)⟩
  · exact absurd h1 (ht _ (numsL_few h2))
  · exact ⟨⟨a, m, c, rfl⟩, hb⟩
end Go.Proofs.YtabdbgnkiebcdaaGreatDoor

namespace Go.Proofs.YtabdbgnkiebcdaaGreatDoor
set_option linter.unusedVariables false
open Go.RowKit

theorem l6In_any (x lo hi : Int) (w : World) :
    Calls Tryz.prog 68 #[.int .i64 x, .int .i64 lo, .int .i64 hi] w fun e w' => e = .returned (.bool (tt (InR x lo hi))) ∧ w = w' := by
  by_cases h1 : lo ≤ x
  · by_cases h2 : x ≤ hi
    · have H := Lib.hid (tt_of (show InR x lo hi from ⟨h1, h2⟩))
      go_enter Tryz.func68, Tryz.ntmps68
      go_wp2
      go_ret
      exact ⟨by rw [H.out]; rfl, rfl⟩
    · have H := Lib.hid (tt_no (show ¬ InR x lo hi from fun h => h2 h.2))
      go_enter Tryz.func68, Tryz.ntmps68
      go_wp2
      go_ret
      exact ⟨by rw [H.out]; rfl, rfl⟩
  · have H := Lib.hid (tt_no (show ¬ InR x lo hi from fun h => h1 h.1))
    go_enter Tryz.func68, Tryz.ntmps68
    go_wp2
    go_ret
    exact ⟨by rw [H.out]; rfl, rfl⟩
end Go.Proofs.YtabdbgnkiebcdaaGreatDoor

namespace Go.Proofs.YtabdbgnkiebcdaaGreatDoor
set_option linter.unusedVariables false
set_option linter.unusedSimpArgs false
open Go.RowKit

theorem OwnR.set {w : World} {b n : Nat} {X : Nat → Int} (h : OwnR w b (some ⟨b, 0, none⟩) n X) {k : Nat} (hk : k < n) (v : Int) : OwnR (w.setCell ⟨b, k, none⟩ (.int .i64 v)) b (some ⟨b, 0, none⟩) n (fun j => if j = k then v else X j) := by
  rcases h with h0 | ⟨o, ha, hc⟩
  · exact .inl h0
  · simp only [Option.some.injEq, Addr.mk.injEq, true_and, and_true] at ha
    subst ha
    refine .inr ⟨0, rfl, fun j hj => ?_⟩
    have h1 := hc j hj
    rw [Nat.zero_add] at h1 ⊢
    have hck := (hc k hk).1
    rw [Nat.zero_add] at hck
    dsimp only
    by_cases e : j = k
    · subst e
      rw [if_pos rfl]
      exact ⟨World.cell?_setCell_same _ _ _ h1.1, by rw [World.frozen?_setCell]; exact h1.2⟩
    · rw [if_neg e]
      exact ⟨by rw [World.cell?_setCell_other _ _ _ _ (fun e' => e (by injection e' with _ e2; exact e2.symm))]; exact h1.1, by rw [World.frozen?_setCell]; exact h1.2⟩

/-- What a call hands back: a row of its own. -/
def RetI (n : Nat) (X : Nat → Int) (w : World) (e : Ending) (w' : World) : Prop :=
  ∃ g cap, e = .returned (.slice (some ⟨g, 0, none⟩) n cap) ∧ (w.heap.size ≤ g ∧ g < w'.heap.size ∧ n ≤ cap) ∧ OwnR w' g (some ⟨g, 0, none⟩) n X ∧ Below w.heap.size w w'

theorem OwnR.at {w : World} {b n : Nat} {X : Nat → Int} (h : OwnR w b (some ⟨b, 0, none⟩) n X) {k : Nat} (hk : k < n) : w.cell? ⟨b, k, none⟩ = some (.int .i64 (X k)) ∧ w.frozen? ⟨b, k, none⟩ = false := by
  rcases h with h0 | ⟨o, ha, hc⟩
  · omega
  · simp only [Option.some.injEq, Addr.mk.injEq, true_and, and_true] at ha
    subst ha
    have := hc k hk
    rwa [Nat.zero_add] at this
theorem OwnR.congr {w : World} {b n : Nat} {a : Option Addr} {X Y : Nat → Int} (h : OwnR w b a n X) (e : ∀ k, k < n → X k = Y k) : OwnR w b a n Y := by
  rcases h with h0 | ⟨o, ha, hc⟩
  · exact .inl h0
  · exact .inr ⟨o, ha, fun k hk => by rw [← e k hk]; exact hc k hk⟩

/-- The lengths of lists, and their numbers. -/
def lenL (LL : List (List Int)) (r : Nat) : Nat := (LL.getD r []).length
def nthL (LL : List (List Int)) (r k : Nat) : Int := nth (LL.getD r []) k
theorem getD_left {A B : List (List Int)} {r : Nat} (h : r < A.length) : (A ++ B).getD r [] = A.getD r [] := by
  rw [List.getD_eq_getElem?_getD, List.getD_eq_getElem?_getD, List.getElem?_append_left h]
theorem getD_right {A B : List (List Int)} {r : Nat} : (A ++ B).getD (A.length + r) [] = B.getD r [] := by
  rw [List.getD_eq_getElem?_getD, List.getD_eq_getElem?_getD, List.getElem?_append_right (Nat.le_add_right _ _), Nat.add_sub_cancel_left]

/-- Two tables in the making, the rows of the second one put behind those of the first one. -/
theorem Making.join {tS B B' i j : Nat} {w w1 : World} {v v' : Value} {G Cp L G' Cp' L' L3 : Nat → Nat} {X X' X3 : Nat → Nat → Int} {g cap H : Nat} (h : Making tS B w v i G Cp L X) (h' : Making tS B' w v' j G' Cp' L' X')
    (hBB : B ≤ B') (hG : ∀ r, r < i → G r < B') (hv : ∀ k, v.ownBlock = some k → k < B')
    (hL1 : ∀ r, r < i → L3 r = L r ∧ X3 r = X r) (hL2 : ∀ r, r < j → L3 (i + r) = L' r ∧ X3 (i + r) = X' r)
    (hown : w1.ownsRow B tS 1 (.slice (some ⟨g, 0, none⟩) (i + j) cap) (i + j) ((List.range i).map (fun r => Value.slice (some ⟨G r, 0, none⟩) (L r) (Cp r)) ++ (List.range j).map (fun r => Value.slice (some ⟨G' r, 0, none⟩) (L' r) (Cp' r))))
    (hgrow : w.grownBy w1 v.ownBlock) (hat : v.ownBlock = some g ∨ g = H) (hH : w.heap.size ≤ H) :
    Making tS B w1 (.slice (some ⟨g, 0, none⟩) (i + j) cap) (i + j) (fun r => if r < i then G r else G' (r - i)) (fun r => if r < i then Cp r else Cp' (r - i)) L3 X3 := by
  obtain ⟨h1, h2, h3⟩ := h
  obtain ⟨k1, k2, k3⟩ := h'
  have hgne : ∀ x, x < w.heap.size → v.ownBlock ≠ some x → g ≠ x := by
    intro x hx hne e
    rcases hat with h' | h'
    · exact hne (by rw [h', e])
    · omega
  have hvG' : ∀ r, r < j → v.ownBlock ≠ some (G' r) := fun r hr e => by
    have := hv _ e
    have := (k2 r hr).1
    omega
  refine ⟨?_, fun r hr => ?_, fun r s hr hs hrs => ?_⟩
  · have e : (List.range (i + j)).map (fun r => Value.slice (some ⟨if r < i then G r else G' (r - i), 0, none⟩) (L3 r) (if r < i then Cp r else Cp' (r - i))) = (List.range i).map (fun r => Value.slice (some ⟨G r, 0, none⟩) (L r) (Cp r)) ++ (List.range j).map (fun r => Value.slice (some ⟨G' r, 0, none⟩) (L' r) (Cp' r)) := by
      rw [List.range_add, List.map_append, List.map_map]
      congr 1
      · exact List.map_congr_left fun r hr => by
          have hr' := List.mem_range.1 hr
          rw [if_pos hr', if_pos hr', (hL1 r hr').1]
      · exact List.map_congr_left fun r hr => by
          have hr' := List.mem_range.1 hr
          show Value.slice (some ⟨if i + r < i then G (i + r) else G' (i + r - i), 0, none⟩) (L3 (i + r)) (if i + r < i then Cp (i + r) else Cp' (i + r - i)) = _
          rw [if_neg (by omega), if_neg (by omega), Nat.add_sub_cancel_left, (hL2 r hr').1]
    show w1.ownsRow B tS 1 _ (i + j) ((List.range (i + j)).map (fun r => Value.slice (some ⟨if r < i then G r else G' (r - i), 0, none⟩) (L3 r) (if r < i then Cp r else Cp' (r - i))))
    rw [e]
    exact hown
  · show B ≤ (if r < i then G r else G' (r - i)) ∧ (if r < i then G r else G' (r - i)) < w1.heap.size ∧ _ ≠ some (if r < i then G r else G' (r - i)) ∧ OwnR w1 (if r < i then G r else G' (r - i)) (some ⟨if r < i then G r else G' (r - i), 0, none⟩) (L3 r) (X3 r)
    by_cases e : r < i
    · rw [if_pos e, (hL1 r e).1, (hL1 r e).2]
      obtain ⟨m1, m2, m3, m4⟩ := h2 r e
      exact ⟨m1, Nat.lt_of_lt_of_le m2 hgrow.size, fun h => hgne _ m2 m3 (by simpa [Value.ownBlock] using h), m4.of_block (hgrow.block _ m2 (fun h => m3 h.symm))⟩
    · obtain ⟨s, rfl⟩ : ∃ s, r = i + s := ⟨r - i, by omega⟩
      have hs : s < j := by omega
      rw [if_neg e, (hL2 s hs).1, (hL2 s hs).2, Nat.add_sub_cancel_left]
      obtain ⟨m1, m2, m3, m4⟩ := k2 s hs
      exact ⟨by omega, Nat.lt_of_lt_of_le m2 hgrow.size, fun h => hgne _ m2 (hvG' s hs) (by simpa [Value.ownBlock] using h), m4.of_block (hgrow.block _ m2 (fun h => hvG' s hs h.symm))⟩
  · show (if r < i then G r else G' (r - i)) ≠ (if s < i then G s else G' (s - i))
    by_cases e1 : r < i
    · rw [if_pos e1]
      by_cases e2 : s < i
      · rw [if_pos e2]; exact h3 r s e1 e2 hrs
      · rw [if_neg e2]
        have h4 := hG r e1
        have h5 := (k2 (s - i) (by omega)).1
        omega
    · rw [if_neg e1]
      by_cases e2 : s < i
      · rw [if_pos e2]
        have h4 := hG s e2
        have h5 := (k2 (r - i) (by omega)).1
        omega
      · rw [if_neg e2]; exact k3 (r - i) (s - i) (by omega) (by omega) (by omega)

/-- What a call hands back: a table of its own, made by append, that tells a list of lists. -/
def RetLL (tS : Nat) (LL : List (List Int)) (w : World) (e : Ending) (w' : World) : Prop :=
  ∃ v G Cp, e = .returned v ∧ Making tS w.heap.size w' v LL.length G Cp (lenL LL) (nthL LL) ∧ Below w.heap.size w w'

theorem longer_pos {n f : Nat} {B : List Int} (hn : 2 ≤ n) (h : Diff n B) (h1 : 1 ≤ B.length) (hf : B.length + f = n) : 0 < (longer n f B).length := by
  by_cases h2 : 2 ≤ B.length
  · cases f with
    | zero => unfold longer; rw [if_pos h2]; simp
    | succ f => unfold longer; rw [if_pos h2]; simp
  · have hl : B.length = 1 := by omega
    obtain ⟨y, hy, hyB⟩ : ∃ y : Nat, y < n ∧ ¬ (y : Int) ∈ B := by
      match B, hl with
      | [b], _ =>
        by_cases e : b = 0
        · exact ⟨1, by omega, by simp; omega⟩
        · exact ⟨0, by omega, by simp; omega⟩
    obtain ⟨f', rfl⟩ : ∃ f', f = f' + 1 := ⟨f - 1, by omega⟩
    have h3 : 0 < (longer n f' (B ++ [(y : Int)])).length := by
      cases f' with
      | zero => unfold longer; rw [if_pos (by simp; omega)]; simp
      | succ f => unfold longer; rw [if_pos (by simp; omega)]; simp
    obtain ⟨D, hD⟩ := List.exists_mem_of_length_pos h3
    unfold longer
    rw [List.length_append]
    have : D ∈ (List.range n).flatMap fun (x : Nat) => if (x : Int) ∈ B then [] else longer n f' (B ++ [(x : Int)]) := List.mem_flatMap.2 ⟨y, List.mem_range.2 hy, by rw [if_neg hyB]; exact hD⟩
    have := List.length_pos_of_mem this
    omega

theorem isDiff_congr {n m : Nat} {X Y : Nat → Int} (h : ∀ j, j < m → X j = Y j) : IsDiff n m X ↔ IsDiff n m Y := by
  constructor
  · intro hd
    exact ⟨fun i hi => by rw [← h i hi]; exact hd.1 i hi, fun i j h1 h2 => by rw [← h i (by omega), ← h j h2]; exact hd.2 i j h1 h2⟩
  · intro hd
    exact ⟨fun i hi => by rw [h i hi]; exact hd.1 i hi, fun i j h1 h2 => by rw [h i (by omega), h j h2]; exact hd.2 i j h1 h2⟩
theorem snoc_nth {B : List Int} {x : Int} {j : Nat} (h : j < B.length + 1) : nth (B ++ [x]) j = if j < B.length then nth B j else x := by
  by_cases e : j < B.length
  · rw [if_pos e, nth_snoc_lt e]
  · have : j = B.length := by omega
    rw [if_neg e, this, nth_snoc]
theorem Rd.congr {w : World} {a : Option Addr} {n : Nat} {X Y : Nat → Int} (h : Rd w a n X) (e : ∀ k, k < n → X k = Y k) : Rd w a n Y := fun k hk => by
  obtain ⟨b, o, h1, h2⟩ := h k hk
  exact ⟨b, o, h1, by rw [← e k hk]; exact h2⟩
theorem lists_left {A B : List (List Int)} {r : Nat} (h : r < A.length) : lenL (A ++ B) r = lenL A r ∧ nthL (A ++ B) r = nthL A r := by
  unfold lenL nthL
  rw [getD_left h]
  exact ⟨rfl, rfl⟩
theorem lists_right {A B : List (List Int)} {r : Nat} : lenL (A ++ B) (A.length + r) = lenL B r ∧ nthL (A ++ B) (A.length + r) = nthL B r := by
  unfold lenL nthL
  rw [getD_right]
  exact ⟨rfl, rfl⟩

theorem one_nth {j : Nat} {x : Int} (h : j < 1) : x = nth ([] ++ [x]) j := by
  obtain rfl : j = 0 := by omega
  rfl

/-- Does this list gain, as a round? -/
def Gains (n : Nat) (Z : Nat → Nat → Int) (D : List Int) : Prop := IsRing n D.length (nth D) ∧ p12 n < roundV n Z D.length (nth D)
noncomputable def gainTo (n : Nat) (Z : Nat → Nat → Int) (LL : List (List Int)) (k : Nat) : List (List Int) := (LL.take k).filter fun D => tt (Gains n Z D)
/-- All rounds that gain, in order. -/
noncomputable def gaining (n : Nat) (Z : Nat → Nat → Int) : List (List Int) := (longer n n []).filter fun D => tt (Gains n Z D)
section
variable {n k : Nat} {Z : Nat → Nat → Int} {LL : List (List Int)}
theorem take_snoc (h : k < LL.length) : LL.take (k + 1) = LL.take k ++ [LL.getD k []] := by
  rw [List.take_add_one, List.getElem?_eq_getElem h, List.getD_eq_getElem?_getD, List.getElem?_eq_getElem h]
  rfl
theorem gainTo_yes (h : k < LL.length) (hg : Gains n Z (LL.getD k [])) : gainTo n Z LL (k + 1) = gainTo n Z LL k ++ [LL.getD k []] := by
  unfold gainTo
  rw [take_snoc h, List.filter_append, List.filter_cons_of_pos (by rw [tt_of hg]), List.filter_nil]
theorem gainTo_no (h : k < LL.length) (hg : ¬ Gains n Z (LL.getD k [])) : gainTo n Z LL (k + 1) = gainTo n Z LL k := by
  unfold gainTo
  rw [take_snoc h, List.filter_append, List.filter_cons_of_neg (by rw [tt_no hg]; simp), List.filter_nil, List.append_nil]
theorem gainTo_le : (gainTo n Z LL k).length ≤ k := Nat.le_trans (List.length_filter_le _ _) (by rw [List.length_take]; exact Nat.min_le_left _ _)
theorem gainTo_all : gainTo n Z (longer n n []) (longer n n []).length = gaining n Z := by unfold gainTo gaining; rw [List.take_length]
theorem longerAll_pos (hn : 2 ≤ n) : 0 < (longer n n []).length := by
  have hnd := ((Diff.nil n).snoc_iff (x := 0) (by omega)).2 List.not_mem_nil
  have h3 := longer_pos (f := n - 1) hn hnd (by simp) (by simp; omega)
  obtain ⟨D, hD⟩ := List.exists_mem_of_length_pos h3
  rw [longer_eq (Diff.nil n) (by simp)]
  unfold longerTo
  rw [List.length_append]
  have : D ∈ (List.range n).flatMap fun (x : Nat) => if (x : Int) ∈ ([] : List Int) then [] else longer n (n - 1) ([] ++ [(x : Int)]) := List.mem_flatMap.2 ⟨0, List.mem_range.2 (by omega), by rw [if_neg List.not_mem_nil]; exact hD⟩
  have := List.length_pos_of_mem this
  omega
theorem longerAll_at (h : k < (longer n n []).length) : Diff n ((longer n n []).getD k []) ∧ 2 ≤ ((longer n n []).getD k []).length ∧ ((longer n n []).getD k []).length ≤ n := by
  have h1 : (longer n n []).getD k [] ∈ longer n n [] := by
    rw [List.getD_eq_getElem?_getD, List.getElem?_eq_getElem h]
    exact List.getElem_mem h
  have h2 := mem_longer n [] (Diff.nil n) _ h1
  exact ⟨h2.1, h2.2, diff_le h2.1⟩
end
section
variable {tS B i : Nat} {w w1 : World} {v : Value} {G Cp L L' : Nat → Nat} {X X' : Nat → Nat → Int}
theorem Making.congr (h : Making tS B w v i G Cp L X) (e : ∀ r, r < i → L r = L' r ∧ X r = X' r) : Making tS B w v i G Cp L' X' := by
  obtain ⟨h1, h2, h3⟩ := h
  refine ⟨?_, fun r hr => ?_, h3⟩
  · have e1 : (List.range i).map (fun r => Value.slice (some ⟨G r, 0, none⟩) (L r) (Cp r)) = (List.range i).map (fun r => Value.slice (some ⟨G r, 0, none⟩) (L' r) (Cp r)) := List.map_congr_left fun r hr => by rw [(e r (List.mem_range.1 hr)).1]
    rw [← e1]; exact h1
  · rw [← (e r hr).1, ← (e r hr).2]; exact h2 r hr
theorem Making.grown {row : Option Nat} (h : Making tS B w v i G Cp L X) (hg : w.grownBy w1 row) (hv : ∀ k, v.ownBlock = some k → row ≠ some k) (hG : ∀ r, r < i → row ≠ some (G r)) : Making tS B w1 v i G Cp L X := by
  obtain ⟨h1, h2, h3⟩ := h
  refine ⟨?_, fun r hr => ?_, h3⟩
  · obtain ⟨k1, (k2 | ⟨g, cap, cur, k3, k4, k5, k6⟩)⟩ := h1
    · exact ⟨k1, .inl k2⟩
    · refine ⟨k1, .inr ⟨g, cap, cur, k3, k4, (hg.block g (Array.getElem?_eq_some_iff.1 k5).1 (fun e => hv g (by rw [k3]; rfl) e.symm)).trans k5, k6⟩⟩
  · obtain ⟨m1, m2, m3, m4⟩ := h2 r hr
    exact ⟨m1, Nat.lt_of_lt_of_le m2 hg.size, m3, m4.of_block (hg.block _ m2 (fun e => hG r hr e.symm))⟩
end

theorem lists_snoc {A : List (List Int)} {x : List Int} : lenL (A ++ [x]) A.length = x.length ∧ nthL (A ++ [x]) A.length = nth x := by
  exact lists_right (A := A) (B := [x]) (r := 0)
theorem Making.snoc {tS B : Nat} {w : World} {v : Value} {G Cp : Nat → Nat} {A : List (List Int)} (x : List Int) (h : Making tS B w v A.length G Cp (lenL A) (nthL A)) : Making tS B w v A.length G Cp (lenL (A ++ [x])) (nthL (A ++ [x])) :=
  h.congr fun r hr => ⟨(lists_left hr).1.symm, (lists_left hr).2.symm⟩
/-- Where its blocks are as they were, such a table is. -/
theorem Making.of_blocks {tS B i : Nat} {w w' : World} {v : Value} {G Cp L : Nat → Nat} {X : Nat → Nat → Int} (h : Making tS B w v i G Cp L X) (hs : w.heap.size ≤ w'.heap.size) (e : ∀ k, (v.ownBlock = some k ∨ ∃ r, r < i ∧ G r = k) → w'.heap[k]? = w.heap[k]?) : Making tS B w' v i G Cp L X := by
  obtain ⟨h1, h2, h3⟩ := h
  refine ⟨?_, fun r hr => ⟨(h2 r hr).1, Nat.lt_of_lt_of_le (h2 r hr).2.1 hs, (h2 r hr).2.2.1, (h2 r hr).2.2.2.of_block (e _ (.inr ⟨r, hr, rfl⟩))⟩, h3⟩
  obtain ⟨k1, (k2 | ⟨g, cap, cur, k3, k4, k5, k6⟩)⟩ := h1
  · exact ⟨k1, .inl k2⟩
  · exact ⟨k1, .inr ⟨g, cap, cur, k3, k4, (e g (.inl (by rw [k3]; rfl))).trans k5, k6⟩⟩
/-- A table made by append, as what a call hands back. -/
theorem Making.own {tS B i : Nat} {w : World} {v : Value} {G Cp L : Nat → Nat} {X : Nat → Nat → Int} (h : Making tS B w v i G Cp L X) (h0 : 0 < i) : ∃ g cap, v = .slice (some ⟨g, 0, none⟩) i cap ∧ OwnT w B w.heap.size (some ⟨g, 0, none⟩) i (fun r => some ⟨G r, 0, none⟩) L Cp X := by
  obtain ⟨g, cap, rfl⟩ := owns_form h.1 h0
  exact ⟨g, cap, rfl, h.ownT⟩
/-- .. or nothing. -/
theorem Making.slice {tS B i : Nat} {w : World} {v : Value} {G Cp L : Nat → Nat} {X : Nat → Nat → Int} (h : Making tS B w v i G Cp L X) : ∃ a c, v = .slice a i c ∧ OwnT w B w.heap.size a i (fun r => some ⟨G r, 0, none⟩) L Cp X := by
  by_cases h0 : 0 < i
  · obtain ⟨g, cap, e, o⟩ := h.own h0
    exact ⟨_, _, e, o⟩
  · obtain rfl : i = 0 := by omega
    obtain ⟨_, (⟨e, _⟩ | ⟨g, cap, cur, e, _⟩)⟩ := h.1
    · exact ⟨_, _, e, .inl rfl⟩
    · exact ⟨_, _, e, .inl rfl⟩
end Go.Proofs.YtabdbgnkiebcdaaGreatDoor
