/- The program's SwapEnds. -/
import Derived.Test.YtgjegpponchdaaaDoorEndsIs
import Derived.Test.YtgjegpponchdaaaDoorEndsSort
import Derived.Test.YtgjegpponchdaaaDoorBlockGiv
import Derived.Test.YtgjegpponchdaaaDoorInfoInts
namespace Go.Proofs.YtgjegpponchdaaaDoor
set_option linter.unusedVariables false
set_option linter.unusedSimpArgs false
open Go.RowKit
open Go.Maps (Keyed)
open Go.Sort (SWO PermIn SortedIn Holds putRow putCells grow)

section
variable {n : Nat} {L : Nat → Nat} {Z : Nat → Nat → Int}
theorem ends_giv (hW : IsWishes n L Z) {t : Nat} {X : List Int} (h : EndsTo n Z t X) : X ∈ givs n n [] := by
  obtain ⟨⟨s, _, hs⟩, _⟩ := h
  exact led_giv hW hs
/-- One giving more has come. -/
theorem done_more {left : Lit → Bool} {G X : List Int} {kl : Lit} (hn : n ≤ 5) (hG : G ∈ givs n n []) (hX : X ∈ givs n n []) (hk : keyOf Tryd.prog 60 (HeldK n G) = some kl) : DoneK n (fun z => left z && !z.sameKey kl) X ↔ DoneK n left X ∨ X = G := by
  constructor
  · intro h
    obtain ⟨kx, hx⟩ := heldK_key hn hX
    have h1 := h kx hx
    by_cases e : kx = kl
    · subst e
      exact .inr (heldK_inj hn hX hG (Tryd.lawHeld.inj hx hk))
    · refine .inl fun k' hk' => ?_
      rw [hx] at hk'
      cases hk'
      have h1 : (left kx && !kx.sameKey kl) = false := h1
      rw [Maps.sameKey_ne e] at h1
      simpa using h1
  · rintro (h | rfl) kx hx
    · show (left kx && !kx.sameKey kl) = false
      rw [h kx hx]; rfl
    · show (left kx && !kx.sameKey kl) = false
      rw [hk] at hx
      cases hx
      have : kl.sameKey kl = true := WideAt.sameKey_self (Tryd.lawHeld.key hk)
      rw [this]; simp
theorem ends_some {t : Nat} (h1 : ∃ G, Led n Z t G) (h2 : ∀ G, ¬ Led n Z (t + 1) G) : ∃ X, EndsTo n Z (t + 1) X := by
  obtain ⟨G, hG⟩ := h1
  refine ⟨G, ⟨t, by omega, hG⟩, mayL_nil.1 ?_⟩
  cases e : mayL n Z (nth G) with
  | nil => rfl
  | cons p l =>
    obtain ⟨k1, k2, k3⟩ := mem_mayL.1 (show p ∈ mayL n Z (nth G) by rw [e]; simp)
    exact absurd (Led.step hG k1 k2 k3) (h2 _)
end

theorem making_rd {tS B M g cap n : Nat} {w w' : World} {G Cp : Nat → Nat} {LL : List (List Int)} (h : Making tS B w (.slice (some ⟨g, 0, none⟩) M cap) M G Cp (lenL LL) (nthL LL)) (hl : ∀ r, r < M → lenL LL r = n) (hg : w.grownBy w' (some g)) {r : Nat} (hr : r < M) : Rd w' (some ⟨G r, 0, none⟩) n (nthL LL r) := by
  obtain ⟨k1, k2, k3, k4⟩ := h.2.1 r hr
  rw [hl r hr] at k4
  exact (k4.of_block (hg.block _ k2 (fun e => k3 e.symm))).rd

/-- The library puts the rows of a table in order. -/
theorem sort_any (M n g cap tS B : Nat) (LL : List (List Int)) (G Cp : Nat → Nat) (w : World) (hM : LL.length = M) (h0 : 0 < M) (hM2 : M ≤ 7776) (hn : n ≤ 5) (hl : ∀ r, r < M → lenL LL r = n) (h : Making tS B w (.slice (some ⟨g, 0, none⟩) M cap) M G Cp (lenL LL) (nthL LL)) :
    Calls Tryd.prog 52 #[.slice (some ⟨g, 0, none⟩) M cap, .func (.func 53) #[] #[]] w fun e w' => e = .returned (.tuple #[]) ∧ ∃ d : Array Nat, PermIn 0 M (List.range M).toArray d ∧ SortedIn (ltOf (cmpR M n LL)) 0 M d ∧
      Making tS B w' (.slice (some ⟨g, 0, none⟩) M cap) M (fun r => G d[r]!) (fun r => Cp d[r]!) (lenL (sortedLL LL d)) (nthL (sortedLL LL d)) ∧ w.grownBy w' (some g) := by
  have hz : (List.range M).toArray.size = M := by simp
  have hcmp : CmpReads Tryd.prog 53 #[] (encR M (lenL LL) G Cp) (cmpR M n LL) g 0 (List.range M).toArray.size w := by
    intro m os dk hs x y
    rw [hz] at hs
    have hx : (if x < M then x else 0) < M := by by_cases e : x < M <;> simp [e, h0]
    have hy : (if y < M then y else 0) < M := by by_cases e : y < M <;> simp [e, h0]
    have hg := sort_grown (w := w) (g := g) (enc := encR M (lenL LL) G Cp) (n := m) (os := os) dk
    have h1 := compare_any n (Cp (if x < M then x else 0)) (Cp (if y < M then y else 0)) _ _ _ _ (sortWorld (encR M (lenL LL) G Cp) w g 0 m dk os) hn (making_rd h hl hg hx) (making_rd h hl hg hy)
    unfold encR
    rw [hl _ hx, hl _ hy]
    exact h1.mono fun e w' ⟨he, hw⟩ => ⟨he, 0, hw.symm⟩
  have hlt := h.1.lt g rfl
  have S := Any.slices_SortFunc sortL (encR M (lenL LL) G Cp) (encR_one _ _ _ _) (cmpR M n LL) (cmpR_swo M n LL) 53 #[] g 0 cap (List.range M).toArray w (enters_of Tryd.func53 (by kernel_rfl) rfl) hcmp.lays (making_holds h) hlt.2 (by rw [hz]; omega)
  rw [hz] at S
  refine Calls.mono (P := Tryd.prog) S ?_
  rintro e w' ⟨rfl, d, m, os, hP, hS, rfl⟩
  exact ⟨rfl, d, hP, hS, h.sorted hM hP, sort_grown d⟩

/-- What is made so far of the map's keys. -/
structure EJ (n t : Nat) (Z : Nat → Nat → Int) (b it c1 : Nat) (DR : DataW Unit) (w wr : World) (v : Value) (left : Lit → Bool) (cnt : Nat) (LL : List (List Int)) (G Cp : Nat → Nat) : Prop where
  making : Making 23 (it + 1) wr v LL.length G Cp (lenL LL) (nthL LL)
  nodup : LL.Nodup
  mem : ∀ X, X ∈ LL ↔ EndsTo n Z (t + 1) X ∧ DoneK n left X
  ranges : wr.ranges Tryd.prog 60 (plainElem Tryd.prog 4) b it c1 DR left cnt
  below : Below w.heap.size w wr

theorem EJ.le {n t b it c1 cnt : Nat} {L : Nat → Nat} {Z : Nat → Nat → Int} {DR : DataW Unit} {w wr : World} {v : Value} {left : Lit → Bool} {LL : List (List Int)} {G Cp : Nat → Nat} (hW : IsWishes n L Z) (h : EJ n t Z b it c1 DR w wr v left cnt LL G Cp) : LL.length ≤ 7776 :=
  Nat.le_trans (fewer h.nodup fun X hX => ends_giv hW ((h.mem X).1 hX).1) (givsN_le hW.1.2)

set_option maxRecDepth 100000 in
set_option maxHeartbeats 2000000 in
theorem swapEnds_any (n c : Nat) (a : Option Addr) (A : Nat → Option Addr) (L C : Nat → Nat) (Z : Nat → Nat → Int) (w : World) (hn0 : n ≤ 1048576) (hL0 : ∀ r, r < n → L r ≤ 1048576) (ha0 : Tab w a n A L C Z) :
    Calls Tryd.prog 27 #[.slice a n c] w (RetTB (tt (IsWishes n L Z)) (endsAll n L Z).length (lenL (endsAll n L Z)) (nthL (endsAll n L Z)) w) := by
  have H := Lib.hid (readWishes_any n c a A L C Z w hn0 hL0 ha0)
  by_cases h1 : IsWishes n L Z
  · have T1 := Lib.hid (tt_of h1)
    have HC := Lib.hid (followSwaps_any n c a A L C Z w h1 ha0)
    have HW := Lib.hid h1
    have hn2 := h1.1.1
    have hn5 := h1.1.2
    obtain ⟨i1, hj, hy0, hy1, hy2⟩ := info_parts Tryd.infoInts
    clear h1 ha0 hL0
    go_enter Tryd.func27, Tryd.ntmps27
    go_wp2_with (first
      | (go_at_call 39; refine H.out.mono ?_; rintro e w' ⟨rfl, rfl⟩; rw [T1.out])
      | (go_at_call 50; refine HC.out.mono ?_; rintro e w1 ⟨b, t, c1, rfl, hb, hbl, ⟨DR, hRo, hRt⟩, hl1, hl2⟩; have ES := Lib.hid (ends_some hl1 hl2); have EI := Lib.hid (ends_is HW.out hl2); have B1 := Lib.hid hbl; have RT := Lib.hid hRt; obtain ⟨w2, hrun2, hrg2, hg2, hsz2⟩ := hRo.range Tryd.lawHeld Tryd.underlying63; have RO := Lib.hid hRo; have RG2 := Lib.hid hrg2; have G2 := Lib.hid hg2; have Z2 := Lib.hid hsz2; have LB := Lib.hid hb; have HD := Lib.hid (show (∃ G, Led n Z t G) ∧ ∀ G, ¬ Led n Z (t + 1) G from ⟨hl1, hl2⟩); clear hRo hrg2 hg2 hsz2 hb hl1 hl2 hbl hRt))
    obtain ⟨it, hit⟩ : ∃ it, it = w1.heap.size := ⟨_, rfl⟩
    rw [← hit]
    rw [← hit] at RG2 Z2
    have hitb : b < it := by rw [hit]; exact RO.out.lt
    have hitw : w.heap.size ≤ it := by rw [hit]; exact B1.out.size
    have E0 := Lib.hid (show EJ n t Z b it c1 DR w w2 (.slice none 0 0) (Maps.has DR) (Maps.size DR) [] (fun _ => 0) (fun _ => 0) from ⟨Making.start _ _ _ _ _ _ _ _ ⟨rfl, .inl ⟨rfl, rfl⟩⟩, List.nodup_nil, fun X => ⟨fun h => (List.not_mem_nil h).elim, fun ⟨h1, h2⟩ => by
      obtain ⟨kl, hk⟩ := heldK_key hn5 (ends_giv HW.out h1)
      have h3 := h2 kl hk
      rw [(RT.out kl).2 ⟨X, h1, hk⟩] at h3
      cases h3⟩, RG2.out, B1.out.grown G2.out B1.out.size (fun k hk => by cases hk)⟩)
    clear RO RG2 G2 hit hrun2 Z2
    go_loopw [8] (fun out wr => ∃ left cnt LL G Cp v, v = out ∧ EJ n t Z b it c1 DR w wr v left cnt LL G Cp) (fun _ wr => wr.rangeLeft b it)
    case atStart => exact ⟨_, _, _, _, _, _, rfl, E0.out⟩
    case round =>
      obtain ⟨left, cnt, LL, G, Cp, v, rfl, hE⟩ := hrel
      clear E0
      have hle := hE.le HW.out
      have HE := Lib.hid hE
      obtain ⟨M, hM⟩ : ∃ M, M = LL.length := ⟨_, rfl⟩
      have QM := Lib.hid hM
      have hMk := hE.making
      rw [← hM] at hMk hle
      have HL := Lib.hid (show ∀ r, r < M → lenL LL r = n ∧ LL.getD r [] ∈ LL from fun r hr => by
        rw [hM] at hr
        have hm : LL.getD r [] ∈ LL := by
          rw [List.getD_eq_getElem?_getD, List.getElem?_eq_getElem hr]
          exact List.getElem_mem hr
        exact ⟨((mem_givs n [] (Diff.nil n) (by simp) _).1 (ends_giv HW.out ((HE.out.mem _).1 hm).1)).2.1, hm⟩)
      rcases hE.ranges.next Tryd.lawHeld 0 with ⟨h0, hl, hrun⟩ | ⟨key, v', kl, y, w3, cnt', hkey, hlk, hv, hat, hrun, hrg', hlt, hgr, hsz, hen⟩
      · have hall : ∀ X, X ∈ LL ↔ X ∈ endsAll n L Z := fun X => (HE.out.mem X).trans ⟨fun h => (EI.out X).1 h.1, fun h => ⟨(EI.out X).2 h, fun kl _ => hl kl⟩⟩
        have hpos : 0 < M := by
          obtain ⟨X, hX⟩ := ES.out
          rw [hM]
          exact List.length_pos_of_mem ((hall X).2 ((EI.out X).1 hX))
        obtain ⟨g, cap, rfl⟩ := owns_form hMk.1 hpos
        have SC := Lib.hid (sort_any M n g cap 23 (it + 1) LL G Cp wr hM.symm hpos hle hn5 (fun r hr => (HL.out r hr).1) hMk)
        have HA := Lib.hid hall
        have HG := Lib.hid (hMk.1.lt g rfl)
        clear hMk hM hE hall hl h0
        go_wp2_with (go_at_call 52; refine SC.out.mono ?_; rintro e w4 ⟨rfl, d, hP, hS, hMk, hgr⟩; have HP := Lib.hid hP; have HS := Lib.hid hS; have MK := Lib.hid hMk; have G4 := Lib.hid hgr; clear hP hS hMk hgr)
        go_ret2
        have hEq : sortedLL LL d = endsAll n L Z := by
          have hpm := sortedLL_perm QM.out.symm HP.out
          rw [endsAll_yes HW.out]
          unfold endsL
          refine ends_unique (hpm.nodup_iff.2 HE.out.nodup) (fun X => ?_) (sortedLL_asc QM.out.symm HP.out HS.out)
          have h4 := HA.out X
          rw [endsAll_yes HW.out] at h4
          unfold endsL at h4
          exact hpm.mem_iff.trans h4
        have hlen : M = (endsAll n L Z).length := by rw [← hEq, (sortedLL_perm QM.out.symm HP.out).length_eq]; exact QM.out
        have MK2 := MK.out
        rw [hEq] at MK2
        have hO := MK2.ownT
        refine ⟨_, cap, (fun r => some ⟨G d[r]!, 0, none⟩), (fun r => Cp d[r]!), by rw [T1.out, ← hlen]; rfl, ?_, HE.out.below.grown G4.out HE.out.below.size (fun k hk => by cases hk; have := HG.out.1; omega)⟩
        rw [← hlen]
        exact hO.sub (by omega) (Nat.le_refl _)
      · obtain ⟨X, hX, hkX⟩ := (RT.out kl).1 (ranges_left hE.ranges hlk)
        obtain rfl : key = HeldK n X := Tryd.lawHeld.inj hkey hkX
        have hXg := ends_giv HW.out hX
        have hold := hE.ranges.left_eq
        have hitr := hrg'.lt
        have hown : ∀ x, v.ownBlock = some x → it < x ∧ x < wr.heap.size := fun x hx => by have := hMk.1.lt x hx; omega
        have M3 := Lib.hid (hMk.grown hgr (fun k hk => by have := hown k hk; simp; omega) (fun r hr => by have := hMk.2.1 r hr; simp; omega))
        have B3 := Lib.hid (HE.out.below.grown hgr HE.out.below.size (fun k hk => by cases hk; omega))
        have R3 := Lib.hid hrg'
        have KX := Lib.hid hkX
        have HX := Lib.hid hX
        have XG := Lib.hid hXg
        have OW := Lib.hid hown
        have LK := Lib.hid hlk
        have LT := Lib.hid hlt
        have OLD := Lib.hid hold
        have SZ := Lib.hid hsz
        have EX := Lib.hid (show ¬ X ∈ LL from fun hm => by
          have := ((HE.out.mem X).1 hm).2 kl hkX
          rw [hlk] at this; cases this)
        clear hE hMk hM hXg hX hkX hkey hat hv hgr hsz hlt hold hrg' hlk hown
        have t1 : True := trivial
        go_wp2_with (first
          | ((with_reducible refine arr_alloc 6 _ (Tryd.zeroHeld _) ?_); intro w4 hA4 hs4 hb4; have S4 := Lib.hid hs4; clear hs4)
          | ((with_reducible refine arr_store 6 _ _ _ _ _ _ (heldF n (nth X)) ?_ ?_ hA4 Tryd.sizeHeld ?_); exact rfl; exact rfl; intro w5 hA5 hs5 ho5 hb5; have A5 := Lib.hid hA5; have S5 := Lib.hid hs5; have B5 := Lib.hid (hb4.trans hb5); clear hA4 hs5 ho5 hb4 hb5 hA5)
          | ((with_reducible refine st_load 6 _ _ _ _ _ _ ?_ A5.out Tryd.underlying60 rfl Tryd.sizeHeld ?_); exact rfl)
          | (go_at_call 51; refine (list_any n (nth X) _ (by omega) hn5).mono ?_; rintro e w6 ⟨gr, cr, rfl, hown6, hb6⟩; have O6 := Lib.hid hown6; have B6 := Lib.hid (B5.out.trans (hb6.mono B5.out.size)); have C6 := Lib.hid hb6.size; clear hown6 hb6)
          | (at_builtin; refine wpList_append_lies _ (by rfl) (.tmp 28) (.tmp 31) 22 (by rfl) (it + 1) 23 i1 (.slice none 0 0) 1 24 Tryd.underlying22 hj hy0 hy1 hy2 (by rfl) (by decide) v M ((List.range M).map fun r => .slice (some ⟨G r, 0, none⟩) (lenL LL r) (Cp r)) (by rfl) ((M3.out.below B6.out).1.alloc _) ⟨_, 0, none⟩ 1 1 [.slice (some ⟨gr, 0, none⟩) n cr] (by rfl) (by rfl) (news_one (by first | (simp; done) | exact World.cell?_alloc_new w6 _ _ 0)) (fun u hu => by rw [List.mem_singleton.1 hu]; rfl) (by omega) (by unfold maxLen; omega) (by omega) (by have := B6.out.size; simp; omega) _ rfl ?_; intro g7 cap7 w7 hown7 hgrow7 hat7 hlt7; have B7 := Lib.hid (below_alloc B6.out (.cells #[.slice (some ⟨gr, 0, none⟩) n cr] 23)); have N7 := Lib.hid hown7; have G7 := Lib.hid hgrow7; have A7 := Lib.hid hat7; clear hown7 hgrow7 hat7))
        go_roundw
        case rel =>
          have h36 := B6.out.size
          have hsz3 := SZ.out
          have eR : lenL (LL ++ [X]) M = n ∧ nthL (LL ++ [X]) M = nth X := by
            rw [QM.out]
            have := lists_right (A := LL) (B := [X]) (r := 0)
            exact ⟨this.1.trans ((mem_givs n [] (Diff.nil n) (by simp) _).1 XG.out).2.1, this.2⟩
          have hL := fun r (hr : r < M) => lists_left (A := LL) (B := [X]) (r := r) (by rw [← QM.out]; exact hr)
          have N7' := N7.out
          have eM : (List.range M).map (fun r => Value.slice (some ⟨G r, 0, none⟩) (lenL LL r) (Cp r)) = (List.range M).map (fun r => Value.slice (some ⟨G r, 0, none⟩) (lenL (LL ++ [X]) r) (Cp r)) := List.map_congr_left fun r hr => by
            rw [(hL r (List.mem_range.1 hr)).1]
          rw [← eR.1, eM] at N7'
          have hgr := owns_cap O6.out
          have hs5 := B5.out.size
          have hs4 := S4.out
          have hs5' := S5.out
          have hkeep : ∀ k, k ≤ it → w7.heap[k]? = w3.heap[k]? := fun k hk => by
            refine (G7.out.block k ?_ (fun e => ?_)).trans (B7.out.block k (by omega))
            · have := B7.out.size; omega
            · have := OW.out k e.symm; omega
          refine ⟨_, cnt', LL ++ [X], (fun r => if r < M then G r else gr), (fun r => if r < M then Cp r else cr), _, rfl, ⟨?_, ?_, ?_, ranges_of_blocks R3.out (hkeep b (by omega)) (hkeep it (Nat.le_refl _)), ?_⟩⟩
          · rw [List.length_append, ← QM.out]
            exact Making.next (w := w6.alloc _) ((M3.out.below B7.out).congr (fun r hr => ⟨(hL r hr).1.symm, (hL r hr).2.symm⟩)) (by rw [eR.1, eR.2]; exact (OwnR.of_owns O6.out).of_block ((below_alloc (Below.refl _ w6) _).block gr hgr.2.2)) (by omega) (by simp; omega) (fun e => by have := OW.out gr e; omega) (fun r hr e => by have := (M3.out.2.1 r hr).2.1; omega) N7' G7.out A7.out (Nat.le_refl _)
          · rw [List.nodup_append]
            exact ⟨HE.out.nodup, by simp, fun x hx y hy e => by rw [List.mem_singleton] at hy; subst hy; exact EX.out (e ▸ hx)⟩
          · intro Y
            rw [List.mem_append, List.mem_singleton, HE.out.mem Y]
            constructor
            · rintro (⟨h1, h2⟩ | rfl)
              · exact ⟨h1, (done_more hn5 XG.out (ends_giv HW.out h1) KX.out).2 (.inl h2)⟩
              · exact ⟨HX.out, (done_more hn5 XG.out XG.out KX.out).2 (.inr rfl)⟩
            · rintro ⟨h1, h2⟩
              rcases (done_more hn5 XG.out (ends_giv HW.out h1) KX.out).1 h2 with h | h
              · exact .inl ⟨h1, h⟩
              · exact .inr h
          · exact (B3.out.trans (B7.out.mono B3.out.size)).grown G7.out (by have := B7.out.size; have := B3.out.size; omega) (fun k hk => by have := OW.out k hk; omega)
        case measure =>
          have h36 := B6.out.size
          have hsz3 := SZ.out
          have hs5 := B5.out.size
          have hkeep : ∀ k, k ≤ it → w7.heap[k]? = w3.heap[k]? := fun k hk => by
            refine (G7.out.block k ?_ (fun e => ?_)).trans (B7.out.block k (by omega))
            · have := B7.out.size; omega
            · have := OW.out k e.symm; omega
          have hnew := (ranges_of_blocks R3.out (hkeep b (by omega)) (hkeep it (Nat.le_refl _))).left_eq
          have := OLD.out
          have := LT.out
          omega
  · have T1 := Lib.hid (tt_no h1)
    have TN := Lib.hid (endsAll_no h1)
    clear h1 ha0 hL0
    go_enter Tryd.func27, Tryd.ntmps27
    go_wp2_with (go_at_call 39; refine H.out.mono ?_; rintro e w' ⟨rfl, rfl⟩; rw [T1.out])
    go_ret2
    exact ⟨_, _, (fun _ => none), (fun _ => 0), by rw [T1.out, TN.out]; rfl, .inl (by rw [TN.out]; rfl), Below.refl _ _⟩
end Go.Proofs.YtgjegpponchdaaaDoor
