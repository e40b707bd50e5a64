/- The program's onCircles: those of the people left to whom the pointers lead back. -/
import Derived.Test.YtgjegpponchdaaaDoorTrader
namespace Go.Proofs.YtgjegpponchdaaaDoor
set_option linter.unusedVariables false
set_option linter.unusedSimpArgs false
open Go.RowKit

theorem infoTraderP : (Tryd.prog.info? 80).map (fun i => (i.zero, i.size, i.bytes)) = some (some (.pointer none), 1, 8) := by kernel_rfl
theorem infoTrader : (Tryd.prog.info? 83).map (fun i => i.size) = some 4 := by kernel_rfl

/-- Pointers to people, in a list. -/
def ptrs (tb : Nat → Nat) (l : List Nat) : List Value := l.map fun r => .pointer (some ⟨tb r, 0, none⟩)
/-- A slice of pointers to the people of a list: block b's first cells. -/
def PtrAt (w : World) (b : Nat) (tb : Nat → Nat) (l : List Nat) : Prop := ∀ k, k < l.length → w.cell? ⟨b, k, none⟩ = some (.pointer (some ⟨tb (l.getD k 0), 0, none⟩))
theorem PtrAt.of_block {w w' : World} {b : Nat} {tb : Nat → Nat} {l : List Nat} (h : PtrAt w b tb l) (e : w'.heap[b]? = w.heap[b]?) : PtrAt w' b tb l :=
  fun k hk => (World.cell?_of_block (w := w) (a := ⟨b, k, none⟩) e).trans (h k hk)

/-- The answer to whether two pointers to people part. -/
theorem run_neq_people {w : World} {n : Nat} {Z : Nat → Nat → Int} {tb wb cp : Nat → Nat} {pt : Nat → Option Addr} {gn : Nat → Bool} (h : Trd w n Z tb wb cp pt gn) {r s : Nat} (hr : r < n) (hs : s < n) :
    (binOp .neq 80 (.pointer (some ⟨tb r, 0, none⟩)) (.pointer (some ⟨tb s, 0, none⟩))).run Tryd.prog w = .ok (.bool (decide (r ≠ s))) w := by
  obtain ⟨i0, hi, hz⟩ := Option.map_eq_some_iff.1 infoTrader
  have hz' : i0.size = 4 := hz
  have hsz : i0.size ≠ 0 := by omega
  have hu := Tryd.underlying80
  by_cases e : r = s
  · subst e
    have h1 : ∀ d : Nat, (Op.equalIn (d + 1) 80 (.pointer (some ⟨tb r, 0, none⟩)) (.pointer (some ⟨tb r, 0, none⟩))).run Tryd.prog w = .ok true w := fun d => by
      simp [Op.equalIn, run_underlying hu, sizeOf, typeInfo, hi, run_sameAddr_same]
    simp only [binOp]
    simp [Op.equal, Op.maxDepth, h1 9999]
  · have hne : (⟨tb r, 0, none⟩ : Addr) ≠ ⟨tb s, 0, none⟩ := fun e' => e (h.inj r s hr hs (by simpa using e'))
    have h1 : ∀ d : Nat, (Op.equalIn (d + 1) 80 (.pointer (some ⟨tb r, 0, none⟩)) (.pointer (some ⟨tb s, 0, none⟩))).run Tryd.prog w = .ok false w := fun d => by
      simp [Op.equalIn, run_underlying hu, sizeOf, typeInfo, hi, hsz, run_sameAddr_other w hne (h.box r hr) (h.box s hs)]
    simp only [binOp]
    simp [Op.equal, Op.maxDepth, h1 9999, e]

/-- Do as many steps at most lead back to r? -/
noncomputable def backB (f : Nat → Nat) (m r : Nat) : Bool := tt (∃ k, 1 ≤ k ∧ k ≤ m ∧ it f k r = r)
theorem take_getD {l : List Nat} {k : Nat} (h : k < l.length) : l.take (k + 1) = l.take k ++ [l.getD k 0] := by
  rw [List.take_add_one, List.getElem?_eq_getElem h, List.getD_eq_getElem?_getD, List.getElem?_eq_getElem h]; rfl
theorem getD_mem {l : List Nat} {k : Nat} (h : k < l.length) : l.getD k 0 ∈ l := by
  rw [List.getD_eq_getElem?_getD, List.getElem?_eq_getElem h]; exact List.getElem_mem h
theorem filt_yes {l : List Nat} {k : Nat} {P : Nat → Bool} (h : k < l.length) (hp : P (l.getD k 0) = true) : (l.take (k + 1)).filter P = (l.take k).filter P ++ [l.getD k 0] := by
  rw [take_getD h, List.filter_append]; generalize l.getD k 0 = x at hp ⊢; simp [List.filter_cons, hp]
theorem filt_no {l : List Nat} {k : Nat} {P : Nat → Bool} (h : k < l.length) (hp : P (l.getD k 0) = false) : (l.take (k + 1)).filter P = (l.take k).filter P := by
  rw [take_getD h, List.filter_append]; generalize l.getD k 0 = x at hp ⊢; simp [List.filter_cons, hp]
theorem filt_le (l : List Nat) (k : Nat) (P : Nat → Bool) : ((l.take k).filter P).length ≤ l.length :=
  Nat.le_trans (List.length_filter_le _ _) (by rw [List.length_take]; omega)

/-- What a call hands back: pointers to some people, in a row of its own (or none). -/
def RetPtrs (tb : Nat → Nat) (l : List Nat) (w : World) (e : Ending) (w' : World) : Prop :=
  ∃ v, e = .returned v ∧ w'.ownsRow w.heap.size 80 1 v l.length (ptrs tb l) ∧ Below w.heap.size w w'

set_option maxHeartbeats 1600000 in
theorem onCircles_any (n c lb : Nat) (l : List Nat) (f : Nat → Nat) (Z : Nat → Nat → Int) (tb wb cp : Nat → Nat) (pt : Nat → Option Addr) (gn : Nat → Bool) (w : World) (h0 : Trd w n Z tb wb cp pt gn)
    (hl0 : ∀ r, r ∈ l → r < n ∧ f r ∈ l ∧ pt r = some ⟨tb (f r), 0, none⟩) (hlen : l.length ≤ 5) (hp0 : PtrAt w lb tb l) (hlb : lb < w.heap.size) :
    Calls Tryd.prog 68 #[.slice (some ⟨lb, 0, none⟩) l.length c] w (RetPtrs tb (l.filter (backB f l.length)) w) := by
  obtain ⟨i0, hi, hz0, hz1, hz2⟩ := info_parts infoTraderP
  have HT := Lib.hid h0
  have HL := Lib.hid hl0
  have HP := Lib.hid hp0
  obtain ⟨m, hm⟩ : ∃ m, m = l.length := ⟨_, rfl⟩
  rw [← hm] at hlen ⊢
  have QM := Lib.hid hm
  clear h0 hl0 hp0 hm
  have O0 := Lib.hid (show w.ownsRow w.heap.size 80 1 (.slice none 0 0) 0 (ptrs tb []) from ⟨rfl, .inl ⟨rfl, rfl⟩⟩)
  go_enter Tryd.func68, Tryd.ntmps68
  go_wp2
  go_step3
  go_wp2
  go_step3
  go_wp2
  go_loopg [3, 5, 6, 7, 10] m (fun g fd _ _ _ s wr => ∃ k : Nat, k + g = m ∧ s = .int .i64 k ∧ ∃ (v : Value) (D : List Nat), v = fd ∧ D = (l.take k).filter (backB f m) ∧ wr.ownsRow w.heap.size 80 1 v D.length (ptrs tb D) ∧ Below w.heap.size w wr)
  case atStart => exact ⟨0, by omega, rfl, _, [], rfl, by simp, O0.out, Below.refl _ _⟩
  case round =>
    obtain ⟨k, hkg, rfl, v, D, rfl, hD, hown, hB⟩ := hrel
    have HD := Lib.hid hD
    have HO := Lib.hid hown
    have HB := Lib.hid hB
    have hDl : D.length ≤ 5 := by rw [hD]; exact Nat.le_trans (filt_le _ _ _) (by rw [← QM.out]; exact hlen)
    have hB' := hB.size
    clear hD hown hB O0
    cases gk with
    | zero =>
      obtain rfl : k = m := by omega
      have hx : ¬ ((k : Int) < (k : Int)) := by omega
      go_wp2
      try rw [Exit.noGoto_ret]
      go_ret
      have e1 : D = l.filter (backB f k) := by rw [HD.out, QM.out, List.take_length]
      exact ⟨_, rfl, by rw [← e1]; exact HO.out, HB.out⟩
    | succ g =>
      have hkm : k < l.length := by rw [← QM.out]; omega
      have hkz : (k : Int) < (m : Int) := by omega
      obtain ⟨r, hr⟩ : ∃ r, r = l.getD k 0 := ⟨_, rfl⟩
      have hrl := getD_mem hkm
      rw [← hr] at hrl
      have hck := (HP.out.of_block (HB.out.block lb hlb)) k hkm
      rw [← hr] at hck
      have QR := Lib.hid hr
      have hT := HT.out.below HB.out
      have HTr := Lib.hid hT
      have hrn := (HL.out r hrl).1
      have hcp := hT.c2 hrn
      rw [(HL.out r hrl).2.2] at hcp
      have HRl := Lib.hid hrl
      have HKm := Lib.hid hkm
      clear hr hT hrl hkm
      go_wp2
      obtain ⟨wo, rfl⟩ : ∃ wo : World, wo = wr := ⟨_, rfl⟩
      clear hcp hck
      go_loopg [6, 7] (m - 1) (fun q st nx wi => wi = wo ∧ ∃ j : Nat, 1 ≤ j ∧ j + q = m ∧ st = .int .i64 j ∧ nx = .pointer (some ⟨tb (it f j r), 0, none⟩) ∧ ∀ i, 1 ≤ i → i < j → it f i r ≠ r)
      case atStart => exact ⟨rfl, 1, Nat.le_refl _, by omega, rfl, rfl, fun i h1 h2 => by omega⟩
      case round =>
        obtain ⟨rfl, j, hj1, hjq, rfl, rfl, hno⟩ := hrel
        have HN := Lib.hid hno
        clear hno
        have hjl := it_in (f := f) (P := fun x => x ∈ l) (fun i hi => (HL.out i hi).2.1) HRl.out j
        obtain ⟨x, hx⟩ : ∃ x, x = it f j r := ⟨_, rfl⟩
        rw [← hx] at hjl ⊢
        have hxn := (HL.out x hjl).1
        have hq0 := run_neq_people HTr.out hxn hrn
        by_cases e : x = r
        · have hq : decide (x ≠ r) = false := by simp [e]
          rw [hq] at hq0
          have HY := Lib.hid (show backB f m r = true from tt_of ⟨j, hj1, by omega, by rw [← hx]; exact e⟩)
          clear hq e hx hjl
          go_wp2_with (at_builtin; refine wpList_append_lies _ (by rfl) (.tmp 31) (.tmp 33) 78 (by rfl) w.heap.size 80 i0 (.pointer none) 1 8 Tryd.underlying78 hi hz0 hz1 hz2 (by rfl) (by decide) v D.length (ptrs tb D) (by rfl) (HO.out.alloc _) ⟨_, 0, none⟩ 1 1 [.pointer (some ⟨tb r, 0, none⟩)] (by rfl) (by rfl) (news_one (by simp)) (by simp [Value.oneCell']) (by omega) (by unfold maxLen; omega) (by omega) (by simp; omega) _ rfl ?_; intro g2 cap2 w2 hown2 hgrow2 hat2 hlt2; have N2 := Lib.hid hown2; have G2 := Lib.hid hgrow2; clear hown2 hgrow2 hat2)
          clear hq0
          go_roundg g
          case measure => omega
          case rel =>
            refine ⟨k + 1, by omega, by go_num, _, D ++ [r], rfl, ?_, ?_, (HB.out.alloc hB' _).grown G2.out (by simp; omega) (fun k hk => (HO.out.lt k hk).1)⟩
            · rw [HD.out, filt_yes HKm.out (by rw [← QR.out]; exact HY.out), ← QR.out]
            · have := N2.out
              rw [List.length_append, List.length_singleton]
              unfold ptrs
              rw [List.map_append]
              exact this
        · have hq : decide (x ≠ r) = true := by simp [e]
          rw [hq] at hq0
          have HE := Lib.hid (show it f j r ≠ r by rw [← hx]; exact e)
          clear hq e
          by_cases hjm : j = m
          · have hd2 : ((j : Int) == (m : Int)) = true := by simp [hjm]
            have HY := Lib.hid (show backB f m r = false from tt_no (fun ⟨i, h1, h2, h3⟩ => by
              by_cases e' : i = j
              · subst e'; exact HE.out h3
              · exact HN.out i h1 (by omega) h3))
            have hxl := hjl
            clear hx hjl hjm
            go_wp2
            clear hq0
            go_roundg g
            case measure => omega
            case rel =>
              refine ⟨k + 1, by omega, by go_num, _, D, rfl, ?_, HO.out, HB.out⟩
              rw [HD.out, filt_no HKm.out (by rw [← QR.out]; exact HY.out)]
          · have hd2 : ((j : Int) == (m : Int)) = false := by simp; omega
            have hcx := HTr.out.c2 hxn
            rw [(HL.out x hjl).2.2] at hcx
            have HX := Lib.hid hx
            clear hx hjl
            cases gk with
            | zero => omega
            | succ q =>
              go_wp2
              clear hq0 hcx
              go_roundg q
              case measure => omega
              case rel => exact ⟨rfl, j + 1, by omega, by omega, by go_num, by rw [HX.out]; rfl, fun i h1 h2 => by
                by_cases e' : i = j
                · subst e'; exact HE.out
                · exact HN.out i h1 (by omega)⟩
end Go.Proofs.YtgjegpponchdaaaDoor
