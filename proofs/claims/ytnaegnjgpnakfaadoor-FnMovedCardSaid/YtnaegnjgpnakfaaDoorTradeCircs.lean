/- The program's circles of a giving. -/
import Derived.Test.YtnaegnjgpnakfaaDoorTidyModel
import Derived.Test.YtnaegnjgpnakfaaDoorAppendRows
import Derived.Test.YtnaegnjgpnakfaaDoorInfoInts
import Derived.Test.YtnaegnjgpnakfaaDoorDrawKit
import Derived.Deep.OwnRows
namespace Go.Proofs.YtnaegnjgpnakfaaDoor
set_option linter.unusedVariables false
set_option linter.unusedSimpArgs false
open Go.RowKit

theorem Tryd.infoBool : (Tryd.prog.info? 4).map (fun i => (i.zero, i.size, i.bytes)) = some (some (.bool false), 1, 1) := by kernel_rfl
/-- Numbers as whole numbers. -/
def intL (c : List Nat) : List Int := c.map (fun x : Nat => Int.ofNat x)
theorem intL_len (c : List Nat) : (intL c).length = c.length := by simp [intL]
theorem intL_snoc (c : List Nat) (x : Nat) : intL (c ++ [x]) = intL c ++ [(x : Int)] := by simp [intL]
def circsI (n : Nat) (D : List Int) : List (List Int) := (cycP n D).map intL
theorem slice_of {w : World} {base e n : Nat} {v : Value} {xs : List Value} (h : w.ownsRow base e 1 v n xs) : ∃ a c, v = .slice a n c := by
  obtain ⟨_, (⟨h1, h0⟩ | ⟨g, cap, _, hv, _⟩)⟩ := h
  · exact ⟨none, 0, by rw [h1, h0]⟩
  · exact ⟨_, cap, hv⟩
theorem cellsI_snoc (c : List Nat) (x : Nat) : (intL c).map (Value.int .i64) ++ [.int .i64 (x : Nat)] = (intL (c ++ [x])).map (Value.int .i64) := by simp [intL]
theorem nth_cells (l : List Int) : cellsL l.length (nth l) = l.map (Value.int .i64) := by
  unfold cellsL
  apply List.ext_getElem
  · simp
  · intro i h1 h2
    simp [nth]
    rw [List.getElem?_eq_getElem (by simpa using h2)]
    rfl

set_option maxRecDepth 100000 in
set_option maxHeartbeats 6400000 in
theorem tradeCircles_any (n c : Nat) (a : Option Addr) (G : Nat → Int) (w : World) (h2 : 2 ≤ n) (h5 : n ≤ 5) (hG : IsDiff n n G) (ha : Rd w a n G) :
    Calls Tryd.prog 50 #[.slice a n c] w (RetLL 23 (circsI n (givD n G)) w) := by
  obtain ⟨i0, hi, hz0, hz1, hz2⟩ := info_parts Tryd.infoInt
  obtain ⟨j0, hj, hy0, hy1, hy2⟩ := info_parts Tryd.infoInts
  have hmk := run_make_row' (P := Tryd.prog) 79 4 (.bool false) 1 Tryd.underlying79 Tryd.infoBool rfl .i64 .i64 n (by omega) (by omega)
  have HC := Lib.hid (chk_facts (chk_all h2 h5 hG))
  have hgd : ∀ i, i < n → G i = ((gD (givD n G) i : Nat) : Int) := fun i hi => by
    unfold gD; rw [givD_nth hi]; have := hG.1 i hi; omega
  have HGD := Lib.hid hgd
  have HA := Lib.hid ha
  obtain ⟨D, hD⟩ : ∃ D, D = givD n G := ⟨_, rfl⟩
  unfold circsI cycP
  rw [← hD] at HC HGD ⊢
  clear ha hG hgd hD h2
  go_enter Tryd.func50, Tryd.ntmps50
  go_wp2_with fail
  clear hmk
  obtain ⟨hs, hhs⟩ : ∃ hs, hs = w.heap.size := ⟨_, rfl⟩
  obtain ⟨w0, hw0⟩ : ∃ w0, w0 = w.alloc (.cells (madeCells #[.bool false] n) 4) := ⟨_, rfl⟩
  rw [← hw0, ← hhs]
  have hw0s : w0.heap.size = hs + 1 := by rw [hw0, hhs, World.size_alloc]
  have R0 := Lib.hid (show w0.rowIs hs 4 n (fun y => .bool ((outP (gD D) n 0).2.testBit y)) from by
    have h := (World.rowIs_made w (.bool false) n 4).congr (g := fun y => .bool ((outP (gD D) n 0).2.testBit y)) (fun y _ => by show Value.bool false = .bool (Nat.testBit 0 y); rw [Nat.zero_testBit])
    rw [← hhs, ← hw0] at h
    exact h)
  have B0 := Lib.hid (show Below w.heap.size w w0 from by rw [hw0]; exact below_alloc (Below.refl _ w) _)
  have HS := Lib.hid (And.intro hhs hw0s)
  have M0 := Lib.hid (show Making 23 w0.heap.size w0 (.slice none 0 0) (((outP (gD D) n 0).1.map intL).length) (fun _ => 0) (fun _ => 0) (lenL ((outP (gD D) n 0).1.map intL)) (nthL ((outP (gD D) n 0).1.map intL)) from Making.start _ _ _ _ _ _ _ _ ⟨rfl, .inl ⟨rfl, rfl⟩⟩)
  clear hw0 hhs
  go_loopw [3, 5, 6, 7, 13] (fun row _ _ _ i wr => ∃ k : Nat, k ≤ n ∧ i = .int .i64 (k : Nat) ∧ (outP (gD D) n k).1.length ≤ k ∧ wr.rowIs hs 4 n (fun y => .bool ((outP (gD D) n k).2.testBit y)) ∧ (∃ rv G0 Cp, rv = row ∧ Making 23 w0.heap.size wr rv (((outP (gD D) n k).1.map intL).length) G0 Cp (lenL ((outP (gD D) n k).1.map intL)) (nthL ((outP (gD D) n k).1.map intL))) ∧ Below w.heap.size w wr ∧ w0.heap.size ≤ wr.heap.size) (fun _ _ _ _ i _ => n - (intOf i).toNat)
  case atStart => exact ⟨0, Nat.zero_le _, rfl, Nat.le_refl _, R0.out, ⟨_, _, _, rfl, M0.out⟩, B0.out, Nat.le_refl _⟩
  case round =>
    obtain ⟨k, hk, rfl, hlen, hrow, ⟨rv, G0, Cp, rfl, hmak⟩, hBu, hsz⟩ := hrel
    rename World => wr
    clear R0 B0 M0
    by_cases hlt : k < n
    · have HR := Lib.hid hrow
      have HM := Lib.hid hmak
      have HU := Lib.hid hBu
      have HLN := Lib.hid hlen
      have HSZ := Lib.hid hsz
      clear hrow hmak hBu hlen hsz
      have HST := Lib.hid (HC.out.stopP k hlt)
      have HE := Lib.hid (show outP (gD D) n (k + 1) = (if 1 < (walkF (gD D) n (outP (gD D) n k).2 k).1.length then (outP (gD D) n k).1 ++ [(walkF (gD D) n (outP (gD D) n k).2 k).1] else (outP (gD D) n k).1, (walkF (gD D) n (outP (gD D) n k).2 k).2) from rfl)
      obtain ⟨S, hS⟩ : ∃ S, S = (outP (gD D) n k).2 := ⟨_, rfl⟩
      obtain ⟨LL, hLL⟩ : ∃ LL, LL = (outP (gD D) n k).1 := ⟨_, rfl⟩
      rw [← hS] at HR HST
      rw [← hLL] at HM HLN
      rw [← hS, ← hLL] at HE
      obtain ⟨Q, hQ⟩ : ∃ Q, Q = walkF (gD D) n S k := ⟨_, rfl⟩
      have HTOT := Lib.hid (show ([] : List Nat) ++ (walkF (gD D) n S k).1 = Q.1 ∧ (walkF (gD D) n S k).2 = Q.2 from by rw [hQ]; exact ⟨rfl, rfl⟩)
      rw [← hQ] at HE
      have HK := Lib.hid hlt
      have HMB := Lib.hid (show (∀ kk, rv.ownBlock = some kk → kk < wr.heap.size) ∧ ∀ r, r < (LL.map intL).length → G0 r < wr.heap.size from ⟨fun kk h => (HM.out.1.lt kk h).2, fun r hr => (HM.out.2.1 r hr).2.1⟩)
      have hsw : hs < wr.heap.size := by have := HS.out; have := HSZ.out; omega
      have HC0 := Lib.hid (show wr.ownsRow wr.heap.size 3 1 (.slice none 0 0) ([] : List Nat).length ((intL []).map (Value.int .i64)) from ⟨rfl, .inl ⟨rfl, rfl⟩⟩)
      clear hS hLL hQ
      go_wp2_with fail
      go_loopw [6, 7] (fun crow ps wi => ∃ (f : Nat) (acc : List Nat) (S' x' : Nat), ps = .int .i64 (x' : Nat) ∧ acc ++ (walkF (gD D) f S' x').1 = Q.1 ∧ (walkF (gD D) f S' x').2 = Q.2 ∧ stopF (gD D) f S' x' = true ∧ x' < n ∧ acc.length + f = n ∧
        wi.rowIs hs 4 n (fun y => .bool (S'.testBit y)) ∧ (∃ cv, cv = crow ∧ wi.ownsRow wr.heap.size 3 1 cv acc.length ((intL acc).map (Value.int .i64))) ∧ Making 23 w0.heap.size wi rv (LL.map intL).length G0 Cp (lenL (LL.map intL)) (nthL (LL.map intL)) ∧ Below w.heap.size w wi ∧ wr.heap.size ≤ wi.heap.size) (fun crow _ _ => n - (match crow with | .slice _ m _ => m | _ => 0))
      case atStart => exact ⟨n, [], S, k, rfl, HTOT.out.1, HTOT.out.2, HST.out, HK.out, by simp, HR.out, ⟨_, rfl, HC0.out⟩, HM.out, HU.out, Nat.le_refl _⟩
      case round =>
        obtain ⟨f, acc, S', x', rfl, htot, hend, hstop, hxn, hacc, hrow, ⟨cv, rfl, hown2⟩, hmak, hbw, hwz⟩ := hrel
        rename World => wi
        clear HTOT HC0 HST HR HM HU
        obtain ⟨ba, oa, rfl, hcw⟩ := HA.out x' hxn
        have hbaw := World.block_lt_of_cell? w ⟨ba, oa + x', none⟩ hcw
        have hc0 := hrow.cell hxn
        have hf0 := hrow.frozen x'
        have J1 := Lib.hid hmak
        have J2 := Lib.hid hown2
        have JR := Lib.hid hrow
        have JB := Lib.hid hbw
        have JT := Lib.hid (And.intro htot hend)
        have JN := Lib.hid hacc
        clear hrow hmak htot hend hacc
        cases htb : S'.testBit x' with
        | false =>
          rw [htb] at hc0
          cases f with
          | zero => exact absurd (show S'.testBit x' = true from hstop) (by rw [htb]; decide)
          | succ f =>
            have HCV := Lib.hid (slice_of J2.out)
            have hm5 : acc.length ≤ 5 := by have := JN.out; omega
            obtain ⟨y, hy⟩ : ∃ y, y = gD D x' := ⟨_, rfl⟩
            have JY := Lib.hid (show y = gD D x' ∧ gD D x' < n from ⟨hy, HC.out.lt x' hxn⟩)
            have HGX := Lib.hid (show G x' = (y : Int) from by rw [hy]; exact HGD.out x' hxn)
            have JST := Lib.hid (show stopF (gD D) f (S' ||| 2 ^ x') (gD D x') = true by
              have h : (S'.testBit x' || stopF (gD D) f (S' ||| 2 ^ x') (gD D x')) = true := hstop
              rwa [htb, Bool.false_or] at h)
            have JW1 := Lib.hid (show (walkF (gD D) (f + 1) S' x') = (x' :: (walkF (gD D) f (S' ||| 2 ^ x') (gD D x')).1, (walkF (gD D) f (S' ||| 2 ^ x') (gD D x')).2) by
              show (if S'.testBit x' then _ else _) = _
              rw [htb]; rfl)
            obtain ⟨wj, hwj⟩ : ∃ wj, wj = wi.setCell ⟨hs, x', none⟩ (.bool true) := ⟨_, rfl⟩
            have hKj : Keeps hs (hs + 1) wi wj := by
              rw [hwj]
              exact ⟨rfl, rfl, rfl, by simp [World.setCell], fun k hk => Below.heap_setCell wi ⟨hs, x', none⟩ _ k (by show k ≠ hs; omega)⟩
            have JRj := Lib.hid (show wj.rowIs hs 4 n (fun y => .bool ((S' ||| 2 ^ x').testBit y)) from by
              rw [hwj]
              exact (JR.out.set x' (.bool true)).congr (fun y _ => by
                by_cases e : y = x'
                · rw [if_pos e, e]; simp [Nat.testBit_or, Nat.testBit_two_pow_self]
                · rw [if_neg e]; simp [Nat.testBit_or, Nat.testBit_two_pow, Ne.symm e]))
            have J1j := Lib.hid (making_but J1.out (show hs < w0.heap.size by have := HS.out; omega) hKj)
            have J2j := Lib.hid (owns_but J2.out hsw hKj)
            have JBj := Lib.hid (show Below w.heap.size w wj from by rw [hwj]; exact JB.out.setCell (p := ⟨hs, x', none⟩) (by have := HS.out; show w.heap.size ≤ hs; omega) _)
            have hzj : wj.heap.size = wi.heap.size := hKj.size
            rw [hwj] at hKj
            rw [hwj] at JRj J1j J2j JBj hzj
            clear hwj
            have HN1 := Lib.hid (show ((wi.setCell ⟨hs, x', none⟩ (.bool true)).alloc (.cells #[.int .i64 (x' : Nat)] 3)).cell? ⟨wi.heap.size, 0, none⟩ = some (.int .i64 (x' : Nat)) from by
              have h := heap_alloc_new (wi.setCell ⟨hs, x', none⟩ (.bool true)) (.cells #[.int .i64 (x' : Nat)] 3)
              rw [hzj] at h
              exact (cell_of_row _ wi.heap.size 0 _ _ (0, 0) h).trans rfl)
            have hcl : ∀ g, cv.ownBlock = some g → wr.heap.size ≤ g := fun g h => (J2.out.lt g h).1
            clear hKj wj hy hstop htb hown2 hbw
            go_wp2_with (first
              | (at_builtin; refine wpList_append_lies _ (by rfl) (.tmp 29) (.tmp 31) 23 (by rfl) wr.heap.size 3 i0 (.int .i64 0) 1 8 Tryd.underlying23 hi hz0 hz1 hz2 (by rfl) (by decide) cv acc.length ((intL acc).map (Value.int .i64)) (by rfl) (J2j.out.alloc _) ⟨_, 0, none⟩ 1 1 [.int .i64 (x' : Nat)] (by rfl) (by rfl) (news_one HN1.out) (by simp [Value.oneCell']) (by omega) (by unfold maxLen; omega) (by omega) (by first | omega | (simp; omega)) _ rfl ?_; intro g2 cap2 w2 hown2 hgrow2 hat2 hlt2; have N2 := Lib.hid hown2; have G2 := Lib.hid hgrow2; have hB2 : Below w.heap.size w w2 := ((below_alloc JBj.out (.cells #[.int .i64 (x' : Nat)] 3))).grown hgrow2 (by have := JBj.out.size; simp; omega) (fun j hj => by have := hcl j hj; have := HS.out; omega); have hcg := (World.cell?_of_block (w := w) (a := ⟨ba, oa + x', none⟩) (hB2.block ba hbaw)).trans hcw; rw [HGX.out] at hcg; have HB2 := Lib.hid hB2; clear hB2 hown2 hgrow2 hat2))
            go_roundw
            case rel =>
              refine ⟨f, acc ++ [x'], S' ||| 2 ^ x', y, rfl, ?_, ?_, by rw [JY.out.1]; exact JST.out, by rw [JY.out.1]; exact JY.out.2, by simp; have := JN.out; omega, ?_, ⟨_, rfl, ?_⟩, ?_, HB2.out, ?_⟩
              · have h := JT.out.1
                rw [JW1.out] at h
                rw [JY.out.1, List.append_assoc]; exact h
              · have h := JT.out.2
                rw [JW1.out] at h
                rw [JY.out.1]; exact h
              · exact rowIs_below JRj.out (show hs < wr.heap.size from hsw) (((Below.refl wr.heap.size (wi.setCell ⟨hs, x', none⟩ (.bool true))).alloc (by rw [hzj]; exact hwz) (.cells #[.int .i64 (x' : Nat)] 3)).grown G2.out (by simp; omega) (fun j hj => hcl j hj))
              · have h := N2.out
                rw [List.length_append, List.length_singleton]
                rw [cellsI_snoc] at h
                exact h
              · refine Making.grown (Making.below J1j.out (below_alloc (Below.refl _ _) _)) G2.out (fun k h e => ?_) (fun r hr e => ?_)
                · have := HMB.out.1 k h; have := hcl k e; omega
                · have := HMB.out.2 r hr; have := hcl _ e; omega
              · have := G2.out.size; simp at this; omega
            case measure =>
              obtain ⟨_, _, e⟩ := HCV.out
              rw [e]
              have := JN.out
              simp
              omega
        | true =>
          have hw0 : walkF (gD D) f S' x' = ([], S') := by
            cases f with
            | zero => rfl
            | succ f => show (if S'.testBit x' then _ else _) = _; rw [htb]; rfl
          have JF := Lib.hid (show acc = Q.1 ∧ S' = Q.2 from by
            obtain ⟨h1, h2⟩ := JT.out
            rw [hw0] at h1 h2
            exact ⟨by simpa using h1, h2⟩)
          rw [htb] at hc0
          have hm5 : acc.length ≤ 5 := by have := JN.out; omega
          have HLM := Lib.hid (show (LL.map intL).length ≤ 5 from by rw [List.length_map]; have := HLN.out; have := HK.out; omega)
          have hlm := HLM.out
          clear hw0 hstop htb hcw
          by_cases hl : 1 < acc.length
          · have d1 : decide ((1 : Int) < (acc.length : Int)) = true := decide_eq_true (by omega)
            have d1n : decide (1 < acc.length) = true := decide_eq_true hl
            obtain ⟨gr, cr, rfl⟩ := owns_form J2.out (by omega)
            have HGR := Lib.hid (J2.out.lt gr rfl)
            have HE1 := Lib.hid (show outP (gD D) n (k + 1) = (LL ++ [acc], S') from by
              rw [HE.out, JF.out.2, ← JF.out.1, if_pos hl])
            have hzz := hwz
            clear hl
            go_wp2_with (at_builtin; refine wpList_append_lies _ (by rfl) (.tmp 36) (.tmp 38) 58 (by rfl) w0.heap.size 23 j0 (.slice none 0 0) 1 24 Tryd.underlying58 hj hy0 hy1 hy2 (by rfl) (by decide) rv (LL.map intL).length ((List.range (LL.map intL).length).map fun r => .slice (some ⟨G0 r, 0, none⟩) (lenL (LL.map intL) r) (Cp r)) (by rfl) (J1.out.1.alloc _) ⟨_, 0, none⟩ 1 1 [.slice (some ⟨gr, 0, none⟩) acc.length cr] (by rfl) (by rfl) (news_one (by simp)) (by simp [Value.oneCell']) (by omega) (by unfold maxLen; omega) (by omega) (by have := HSZ.out; simp; omega) _ rfl ?_; intro g2 cap2 w2 hown3 hgrow2 hat2 hlt2; have N2 := Lib.hid hown3; have G2 := Lib.hid hgrow2; have A2 := Lib.hid hat2; clear hown3 hgrow2 hat2)
            go_roundw
            case rel =>
              have hO : OwnR wi gr (some ⟨gr, 0, none⟩) (intL acc).length (nth (intL acc)) := by
                have h := J2.out
                rw [← nth_cells, ← intL_len] at h
                exact OwnR.of_owns h
              have hgr := HGR.out
              have hs0 := HSZ.out
              have PP := (Making.below J1.out (below_alloc (Below.refl _ wi) (.cells #[.slice (some ⟨gr, 0, none⟩) acc.length cr] 23))).push (x := intL acc) (gr := gr) (cr := cr) (hO.of_block (Below.heap_alloc _ _ _ hgr.2)) (by omega) (by simp; omega) (fun h => by have := HMB.out.1 _ h; omega) (fun r hr h => by have := HMB.out.2 r hr; omega) (by rw [intL_len]; exact N2.out) G2.out (by exact A2.out.elim (fun h => .inl h.symm) (fun h => .inr (congrArg some h)))
              rw [List.length_map] at PP
              refine ⟨k + 1, by have := HK.out; omega, by go_num, by rw [HE1.out]; simp; exact HLN.out, ?_, ⟨_, _, _, rfl, by rw [HE1.out, List.map_append]; exact PP⟩, ?_, ?_⟩
              · rw [HE1.out]
                exact rowIs_below JR.out (show hs < w0.heap.size by have := HS.out; omega) (((Below.refl w0.heap.size wi).alloc (by omega) (.cells #[.slice (some ⟨gr, 0, none⟩) acc.length cr] 23)).grown G2.out (by simp; omega) (fun j hj => (J1.out.1.lt j hj).1))
              · exact (below_alloc JB.out (.cells #[.slice (some ⟨gr, 0, none⟩) acc.length cr] 23)).grown G2.out (by have := JB.out.size; simp; omega) (fun j hj => by have := (J1.out.1.lt j hj).1; have := HS.out; omega)
              · have := G2.out.size; simp at this; omega
            case measure => simp [intOf]; have := HK.out; omega
          · obtain ⟨ra, rc, rfl⟩ := slice_of J2.out
            have d1 : decide ((1 : Int) < (acc.length : Int)) = false := decide_eq_false (by omega)
            have d1n : decide (1 < acc.length) = false := decide_eq_false hl
            have HE1 := Lib.hid (show outP (gD D) n (k + 1) = (LL, S') from by
              rw [HE.out, JF.out.2, ← JF.out.1, if_neg hl])
            clear hl
            go_wp2_with fail
            go_roundw
            case rel => exact ⟨k + 1, by have := HK.out; omega, by go_num, by rw [HE1.out]; have := HLN.out; simp; omega, by rw [HE1.out]; exact JR.out, ⟨_, _, _, rfl, by rw [HE1.out]; exact J1.out⟩, JB.out, by have := HSZ.out; omega⟩
            case measure => simp [intOf]; have := HK.out; omega
    · obtain rfl : k = n := by omega
      obtain ⟨ra, rc, rfl⟩ := slice_of hmak.1
      have HM := Lib.hid hmak
      have HU := Lib.hid hBu
      clear hrow hmak hBu
      go_wp2_with fail
      go_ret
      exact ⟨_, G0, Cp, rfl, Making.lower HM.out (by have := HS.out; omega), HU.out⟩
end Go.Proofs.YtnaegnjgpnakfaaDoor
