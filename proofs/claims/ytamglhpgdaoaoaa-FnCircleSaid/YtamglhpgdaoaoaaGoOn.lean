/- The program's search for circles: the closure that goes on behind a list. -/
import Derived.Test.YtamglhpgdaoaoaaCircsModel
import Derived.Test.YtamglhpgdaoaoaaIdxF
import Derived.Test.YtamglhpgdaoaoaaTabK
import Derived.Test.YtamglhpgdaoaoaaReadWants
import Derived.Test.YtamglhpgdaoaoaaContains
import Derived.BigQuiet
import Derived.Deep.RegionHeld3
import Derived.Deep.RegionLawGrows
import Derived.Deep.AppendLies
namespace Go.Proofs.Ytamglhpgdaoaoaa
set_option linter.unusedVariables false
set_option linter.unusedSimpArgs false
open Go.RowKit

/-- Different people, the first one the least, each one wanting the thing of the next one. -/
def PathP (n : Nat) (W : Nat → Int) (B : List Int) : Prop :=
  1 ≤ B.length ∧ Diff n B ∧ (∀ i, 0 < i → i < B.length → nth B 0 < nth B i) ∧ ∀ i, i + 1 < B.length → WantsB W (nth B i).toNat (nth B (i + 1)).toNat = true
section
variable {n m f : Nat} {W : Nat → Int} {B : List Int}
theorem path_one {x : Nat} (h : x < n) : PathP n W [(x : Int)] := by
  refine ⟨by simp, ⟨fun i hi => ?_, fun i j h1 h2 => ?_⟩, fun i h1 h2 => ?_, fun i h1 => ?_⟩
  · have : i = 0 := by simpa using hi
    subst this
    show 0 ≤ (x : Int) ∧ (x : Int) < n
    omega
  · simp at h2; omega
  · simp at h2; omega
  · simp at h1
theorem path_circ (hW : IsWants n W) (h : PathP n W B) (hm : B.length = m + 1) : IsCirc n W B.length (nth B) ↔ WantsB W (nth B m).toNat (nth B 0).toNat = true := by
  obtain ⟨h1, h2, h3, h4⟩ := h
  constructor
  · intro hc
    have := hc.2.2.1 m (by omega)
    rwa [hm, Nat.mod_self] at this
  · intro hb
    have hm1 : 1 ≤ m := by
      cases m with
      | zero =>
        have hr := h2.1 0 (by omega)
        have := (hW.2 (nth B 0).toNat (by omega)).2.2
        rw [hb] at this; cases this
      | succ m => omega
    refine ⟨h2, h3, fun i hi => ?_, by omega⟩
    by_cases e : i = m
    · subst e; rw [hm, Nat.mod_self]; exact hb
    · rw [Nat.mod_eq_of_lt (by omega)]; exact h4 i (by omega)
theorem path_goes (h : PathP n W B) (hm : B.length = m + 1) {q x : Nat} (hx : nth B 0 = x) (hq : x < q) : GoesOn W B q ↔ WantsB W (nth B m).toNat q = true ∧ ¬ HasI (m + 1) (nth B) q := by
  unfold GoesOn
  rw [hm]
  constructor
  · rintro ⟨h1, h2⟩
    refine ⟨?_, fun ⟨i, hi, e⟩ => (h1 i hi).1 e⟩
    rcases h2 with h2 | h2
    · omega
    · exact h2
  · rintro ⟨h1, h2⟩
    exact ⟨fun i hi => ⟨fun e => h2 ⟨i, hi, e⟩, by omega⟩, .inr h1⟩
theorem path_next (h : PathP n W B) (hm : B.length = m + 1) {q x : Nat} (hx : nth B 0 = x) (hq : x < q) (hqn : q < n) (hw : WantsB W (nth B m).toNat q = true) (hn : ¬ HasI (m + 1) (nth B) q) : PathP n W (B ++ [(q : Int)]) := by
  obtain ⟨h1, h2, h3, h4⟩ := h
  have hnm : ¬ (q : Int) ∈ B := fun hmem => by
    obtain ⟨j, hj, e⟩ := mem_nth.1 hmem
    exact hn ⟨j, by omega, e⟩
  have hl : (B ++ [(q : Int)]).length = m + 2 := by rw [List.length_append, hm]; rfl
  have hlow : ∀ j, j < m + 1 → nth (B ++ [(q : Int)]) j = nth B j := fun j hj => nth_snoc_lt (by omega)
  have htop : nth (B ++ [(q : Int)]) (m + 1) = q := by rw [← hm]; exact nth_snoc
  refine ⟨by omega, (h2.snoc_iff hqn).2 hnm, fun i h5 h6 => ?_, fun i h5 => ?_⟩
  · rw [hlow 0 (by omega)]
    by_cases e : i = m + 1
    · rw [e, htop, hx]; omega
    · rw [hlow i (by omega)]; exact h3 i h5 (by omega)
  · by_cases e : i = m
    · rw [e, htop, hlow m (by omega), Int.toNat_natCast]; exact hw
    · rw [hlow i (by omega), hlow (i + 1) (by omega)]; exact h4 i (by omega)
theorem path_skip (h : PathP n W B) {x : Nat} (hx : nth B 0 = x) : ∀ q, q ≤ x + 1 → circsTo n W f B q = circ1 n W B
  | 0, _ => circsTo_zero
  | q + 1, hq => by
    rw [circsTo_no (fun hg => by have := (hg.1 0 (by have := h.1; omega)).2; omega)]
    exact path_skip h hx q (by omega)
end
end Go.Proofs.Ytamglhpgdaoaoaa
namespace Go.Proofs.Ytamglhpgdaoaoaa
set_option linter.unusedVariables false
set_option linter.unusedSimpArgs false
open Go.RowKit

/-- What the closure captures. -/
def goOnV (bw bf bk bg : Nat) : Value := .func (.func 70) #[] #[.pointer (some ⟨bw, 0, none⟩), .pointer (some ⟨bf, 0, none⟩), .pointer (some ⟨bk, 0, none⟩), .pointer (some ⟨bg, 0, none⟩)]
/-- What going on behind the list B in block b leaves. -/
def RetOn (n : Nat) (W : Nat → Int) (bf : Nat) (w0 : World) (f : Nat) (B : List Int) (b : Nat) (v : Value) (R : Nat → Prop) (LL : List (List Int)) (w : World) (e : Ending) (w' : World) : Prop :=
  (∃ u, e = .returned u) ∧ Outside (TopV bf v) w w' ∧ ∃ (v' : Value) (R' : Nat → Prop), (∀ x, v'.ownBlock = some x → v.ownBlock = some x ∨ w.heap.size ≤ x) ∧ (∀ x, R' x → R x ∨ x = b ∨ w.heap.size ≤ x) ∧ TabK 23 bf w0 (LL ++ circs n W f B) v' R' w'

set_option maxRecDepth 100000 in
set_option maxHeartbeats 3200000 in
theorem goOn_any (n g k bw bf bk bg : Nat) (W : Nat → Int) (w0 : World) (hW : IsWants n W) (hkn : k ≤ n) (hbg : bf < bg)
    (hcw : w0.cell? ⟨bw, 0, none⟩ = some (.slice (some ⟨g, 0, none⟩) n n)) (hck : w0.cell? ⟨bk, 0, none⟩ = some (.int .i64 k)) (hrd : Rd w0 (some ⟨g, 0, none⟩) n W) (f : Nat) :
    ∀ (B : List Int) (m b cap : Nat) (v : Value) (R : Nat → Prop) (LL : List (List Int)) (w : World), PathP n W B → B.length = m + 1 → m + 1 + f = k →
      TabK 23 bf w0 LL v R w → OwnR w b (some ⟨b, 0, none⟩) (m + 1) (nth B) → bf < b → b < w.heap.size → m + 1 ≤ cap → ¬ R b → v.ownBlock ≠ some b → b ≠ bg →
      w.cell? ⟨bg, 0, none⟩ = some (goOnV bw bf bk bg) → ¬ R bg → v.ownBlock ≠ some bg → LL.length + 7 ^ (f + 1) ≤ 5764801 →
      Calls Try.prog 70 #[.slice (some ⟨b, 0, none⟩) (m + 1) cap, .pointer (some ⟨bw, 0, none⟩), .pointer (some ⟨bf, 0, none⟩), .pointer (some ⟨bk, 0, none⟩), .pointer (some ⟨bg, 0, none⟩)] w (RetOn n W bf w0 f B b v R LL w) := by
  have hn2 := hW.1.1
  have hn6 := hW.1.2
  have HW := Lib.hid hW
  have CW := Lib.hid hcw
  have CK := Lib.hid hck
  have RD := Lib.hid hrd
  clear hW hcw hck hrd
  obtain ⟨i0, hi, hz0, hz1, hz2⟩ := info_parts Try.infoInt
  obtain ⟨i1, hj, hy0, hy1, hy2⟩ := info_parts Try.infoInts
  induction f using Nat.strongRecOn with
  | ind f ih =>
    intro B m b cap v R LL w hP hm hf hT hO hbb hbs hcap hnR hnv hbne hcg hRg hvg hfit
    have IH := Lib.hid ih
    have HP := Lib.hid hP
    have HT := Lib.hid hT
    have HO := Lib.hid hO
    have NR := Lib.hid (And.intro hnR (And.intro hnv (And.intro hRg hvg)))
    have CG := Lib.hid hcg
    obtain ⟨b1, b2, b3, b4⟩ := hT.base
    have hgs : bg < w.heap.size := World.block_lt_of_cell? _ _ hcg
    have hfs : bf < w.heap.size := World.block_lt_of_cell? _ _ b3
    have hb0 : w0.heap.size ≤ bf := b2
    have B0 := Lib.hid b1
    have C3 := Lib.hid b3
    have F4 := Lib.hid b4
    have hcww : w.cell? ⟨bw, 0, none⟩ = some (.slice (some ⟨g, 0, none⟩) n n) := (b1.cell (p := ⟨bw, 0, none⟩) (World.block_lt_of_cell? _ _ CW.out)).trans CW.out
    have hckw : w.cell? ⟨bk, 0, none⟩ = some (.int .i64 k) := (b1.cell (p := ⟨bk, 0, none⟩) (World.block_lt_of_cell? _ _ CK.out)).trans CK.out
    obtain ⟨hd1, hd2, hd3⟩ : Diff n B ∧ (∃ x : Nat, nth B 0 = x ∧ x < n) ∧ ∃ y : Nat, nth B m = y ∧ y < n := by
      obtain ⟨h1, h2, _⟩ := hP
      refine ⟨h2, ?_, ?_⟩
      · have := h2.1 0 (by omega)
        obtain ⟨x, hx⟩ := Int.eq_ofNat_of_zero_le this.1
        exact ⟨x, hx, by omega⟩
      · have := h2.1 m (by omega)
        obtain ⟨x, hx⟩ := Int.eq_ofNat_of_zero_le this.1
        exact ⟨x, hx, by omega⟩
    obtain ⟨x, hx, hxn⟩ := hd2
    obtain ⟨y, hy, hyn⟩ := hd3
    have hc0 := (hO.at (k := 0) (by omega)).1
    have hcm := (hO.at (k := m) (by omega)).1
    rw [hx] at hc0
    rw [hy] at hcm
    have HX := Lib.hid hx
    have HY := Lib.hid hy
    have L0 := Lib.hid hc0
    have LM := Lib.hid hcm
    have HE := Lib.hid (path_circ HW.out hP hm)
    clear ih hP hT hO hnR hnv hRg hvg hcg b1 b2 b3 b4 hd1 hx hy hc0 hcm
    go_enter Try.func70, Try.ntmps70
    go_wp2_with fail
    have hk0 : ∀ r : Later w, r.W.cell? ⟨b, 0, none⟩ = some (.int .i64 (x : Nat)) := fun r => later_cell L0.out r
    have hkm : ∀ r : Later w, r.W.cell? ⟨b, m, none⟩ = some (.int .i64 (y : Nat)) := fun r => later_cell LM.out r
    refine wp_region_later (by kernel_rfl) (by kernel_rfl) ?_
    repeat go_big_quiet_step (fail)
    refine wpQuiet_nil ?_
    rintro _ ⟨r, rfl⟩
    clear hk0 hkm
    obtain ⟨w1, hw1⟩ : ∃ w1, w1 = r.W := ⟨_, rfl⟩
    have hb1 : Below w.heap.size w w1 := by rw [hw1]; exact r.h
    rw [← hw1]
    clear hw1
    have S1 := Lib.hid hb1.size
    have hgs1 : bg < w1.heap.size := Nat.lt_of_lt_of_le hgs hb1.size
    have hfs1 : bf < w1.heap.size := Nat.lt_of_lt_of_le hfs hb1.size
    have hcw1 : w1.cell? ⟨bw, 0, none⟩ = some (.slice (some ⟨g, 0, none⟩) n n) := (hb1.cell (p := ⟨bw, 0, none⟩) (World.block_lt_of_cell? _ _ hcww)).trans hcww
    have hck1 : w1.cell? ⟨bk, 0, none⟩ = some (.int .i64 k) := (hb1.cell (p := ⟨bk, 0, none⟩) (World.block_lt_of_cell? _ _ hckw)).trans hckw
    have hkf : bk < bf := Nat.lt_of_lt_of_le (World.block_lt_of_cell? _ _ CK.out) hb0
    have hwf : bw < bf := Nat.lt_of_lt_of_le (World.block_lt_of_cell? _ _ CW.out) hb0
    have CK1 := Lib.hid hck1
    have CW1 := Lib.hid hcw1
    have HWN := Lib.hid (wants_any n n (some ⟨g, 0, none⟩) W y x w1 HW.out ((RD.out.below (Nat.le_refl _) B0.out).below (Nat.le_refl _) hb1) hyn (by omega))
    obtain ⟨G, Cp, t1, t2, t3, t4, t5, t6⟩ := HT.out.below hb1
    have T1 := Lib.hid t1
    have T3 := Lib.hid t3
    have T4 := Lib.hid t4
    have MK := Lib.hid t5
    have T6 := Lib.hid t6
    have BW1 := Lib.hid hb1
    clear hb1 t1 t2 t4 t5 t6
    have HEC := Lib.hid (show WantsB W y x = true ↔ IsCirc n W B.length (nth B) by rw [HE.out, HY.out, HX.out, Int.toNat_natCast, Int.toNat_natCast])
    have hlv : LL.length ≤ 5764801 := Nat.le_trans (Nat.le_add_right _ _) hfit
    by_cases hf0 : f = 0
    · have hz : (((m : Int) + 1) == (k : Int)) = true := by simp; omega
      have HE0 := Lib.hid (show circs n W f B = circ1 n W B by rw [hf0]; rfl)
      clear hf0
      cases hb : WantsB W y x with
      | true =>
        have T2 := Lib.hid hb
        have E1 := Lib.hid (show circ1 n W B = [B] by unfold circ1; rw [tt_of (HEC.out.1 hb), if_pos rfl])
        clear hb
        go_wp2_with (first
          | (go_at_call 47; refine HWN.out.mono ?_; rintro e w' ⟨rfl, rfl⟩; rw [T2.out])
          | (at_builtin; refine wpList_append_lies _ (by rfl) (.tmp 22) (.tmp 24) 35 (by rfl) (bf + 1) 23 i1 (.slice none 0 0) 1 24 Try.underlying35 hj hy0 hy1 hy2 (by rfl) (by decide) v LL.length ((List.range LL.length).map fun r => .slice (some ⟨G r, 0, none⟩) (lenL LL r) (Cp r)) (by rfl) (MK.out.1.alloc _) ⟨_, 0, none⟩ 1 1 [.slice (some ⟨b, 0, none⟩) (m + 1) cap] (by rfl) (by rfl) (news_one (by first | (simp; done) | exact World.cell?_alloc_new w1 _ _ 0)) (fun u hu => by rw [List.mem_singleton.1 hu]; rfl) (by omega) (by unfold maxLen; omega) (by omega) (by simp; omega) _ rfl ?_; intro g2 cap2 w2 hown2 hgrow2 hat2 hlt2; have N2 := Lib.hid hown2; have G2 := Lib.hid hgrow2; have A2 := Lib.hid hat2; have c2 : w2.cell? ⟨bf, 0, none⟩ = some v := (World.cell?_of_block (w := w1.alloc _) (hgrow2.block bf (by simp; omega) (fun e => by have := (MK.out.1.lt bf e.symm).1; omega))).trans (by rw [World.cell?_of_block (w := w1) (Below.heap_alloc _ _ _ (show bf < w1.heap.size by omega))]; exact T3.out); have f2 : w2.frozen? ⟨bf, 0, none⟩ = false := (World.frozen?_of_block (w := w1.alloc _) (hgrow2.block bf (by simp; omega) (fun e => by have := (MK.out.1.lt bf e.symm).1; omega))).trans (by rw [World.frozen?_of_block (w := w1) (Below.heap_alloc _ _ _ (show bf < w1.heap.size by omega))]; exact T4.out); have k2 : ∀ u, (w2.setCell ⟨bf, 0, none⟩ u).cell? ⟨bk, 0, none⟩ = some (.int .i64 k) := fun u => (World.cell?_of_block (Below.heap_setCell _ _ _ _ (show bk ≠ bf by omega))).trans ((World.cell?_of_block (w := w1.alloc _) (hgrow2.block bk (by simp; omega) (fun e => by have := (MK.out.1.lt bk e.symm).1; omega))).trans (by rw [World.cell?_of_block (w := w1) (Below.heap_alloc _ _ _ (show bk < w1.heap.size by omega))]; exact CK1.out)); have k4 : ∀ u, (w2.setCell ⟨bf, 0, none⟩ u).cell? ⟨bw, 0, none⟩ = some (.slice (some ⟨g, 0, none⟩) n n) := fun u => (World.cell?_of_block (Below.heap_setCell _ _ _ _ (show bw ≠ bf by omega))).trans ((World.cell?_of_block (w := w1.alloc _) (hgrow2.block bw (by simp; omega) (fun e => by have := (MK.out.1.lt bw e.symm).1; omega))).trans (by rw [World.cell?_of_block (w := w1) (Below.heap_alloc _ _ _ (show bw < w1.heap.size by omega))]; exact CW1.out)); clear hown2 hgrow2 hat2))
        obtain ⟨wA, hwA⟩ : ∃ wA, wA = w2.setCell ⟨bf, 0, none⟩ (.slice (some ⟨g2, 0, none⟩) (LL.length + 1) cap2) := ⟨_, rfl⟩
        have hpush := TabK.push (x := B) (gr := b) (cr := cap) T1.out hb0 T3.out T4.out MK.out T6.out (below_alloc (Below.refl _ w1) (.cells #[.slice (some ⟨b, 0, none⟩) (m + 1) cap] 23)) (by rw [hm]; exact (HO.out.of_block (BW1.out.block b hbs)).of_block (Below.heap_alloc _ _ _ (Nat.lt_of_lt_of_le hbs S1.out))) (by omega) (by have := S1.out; simp; omega) NR.out.1 NR.out.2.1 (by rw [hm]; exact N2.out) G2.out A2.out
        rw [← hwA] at hpush ⊢
        have SA := Lib.hid (show Outside (TopV bf v) w wA from (Outside.of_below BW1.out).trans' hpush.1 (fun _ _ h => h))
        have VA := Lib.hid (show ∀ x, (Value.slice (some ⟨g2, 0, none⟩) (LL.length + 1) cap2).ownBlock = some x → v.ownBlock = some x ∨ w.heap.size ≤ x from fun x hx => by
          have hx' : g2 = x := by simpa [Value.ownBlock] using hx
          rcases A2.out with h | h
          · left; rw [h, hx']
          · right; have := S1.out; simp at h; omega)
        have QA := Lib.hid (show ∀ x, (R x ∨ x = b) → R x ∨ x = b ∨ w.heap.size ≤ x from fun x hx => hx.elim .inl fun h => .inr (.inl h))
        have TA := Lib.hid (show TabK 23 bf w0 (LL ++ circ1 n W B) _ _ wA by rw [E1.out]; exact hpush.2)
        go_end0
        exact ⟨⟨_, rfl⟩, SA.out, _, _, VA.out, QA.out, by rw [HE0.out]; exact TA.out⟩
      | false =>
        have T2 := Lib.hid hb
        have E1 := Lib.hid (show circ1 n W B = [] by unfold circ1; rw [tt_no (fun h => by have := HEC.out.2 h; rw [hb] at this; cases this), if_neg (by simp)])
        clear hb
        go_wp2_with (go_at_call 47; refine HWN.out.mono ?_; rintro e w' ⟨rfl, rfl⟩; rw [T2.out])
        have SA := Lib.hid (show Outside (TopV bf v) w w1 from Outside.of_below BW1.out)
        have VA := Lib.hid (show ∀ x, v.ownBlock = some x → v.ownBlock = some x ∨ w.heap.size ≤ x from fun x h => .inl h)
        have QA := Lib.hid (show ∀ x, R x → R x ∨ x = b ∨ w.heap.size ≤ x from fun x h => .inl h)
        have TA := Lib.hid (show TabK 23 bf w0 (LL ++ circ1 n W B) v R w1 by rw [E1.out, List.append_nil]; exact ⟨G, Cp, T1.out, hb0, T3.out, T4.out, MK.out, T6.out⟩)
        go_end0
        exact ⟨⟨_, rfl⟩, SA.out, _, _, VA.out, QA.out, by rw [HE0.out]; exact TA.out⟩
    · have hz : (((m : Int) + 1) == (k : Int)) = false := by simp; omega
      cases hb : WantsB W y x
      case' true =>
        have T2 := Lib.hid hb
        have E1 := Lib.hid (show circ1 n W B = [B] by unfold circ1; rw [tt_of (HEC.out.1 hb), if_pos rfl])
        clear hb
        go_wp2_with (first
          | (go_at_call 47; refine HWN.out.mono ?_; rintro e w' ⟨rfl, rfl⟩; rw [T2.out])
          | (at_builtin; refine wpList_append_lies _ (by rfl) (.tmp 22) (.tmp 24) 35 (by rfl) (bf + 1) 23 i1 (.slice none 0 0) 1 24 Try.underlying35 hj hy0 hy1 hy2 (by rfl) (by decide) v LL.length ((List.range LL.length).map fun r => .slice (some ⟨G r, 0, none⟩) (lenL LL r) (Cp r)) (by rfl) (MK.out.1.alloc _) ⟨_, 0, none⟩ 1 1 [.slice (some ⟨b, 0, none⟩) (m + 1) cap] (by rfl) (by rfl) (news_one (by first | (simp; done) | exact World.cell?_alloc_new w1 _ _ 0)) (fun u hu => by rw [List.mem_singleton.1 hu]; rfl) (by omega) (by unfold maxLen; omega) (by omega) (by simp; omega) _ rfl ?_; intro g2 cap2 w2 hown2 hgrow2 hat2 hlt2; have N2 := Lib.hid hown2; have G2 := Lib.hid hgrow2; have A2 := Lib.hid hat2; have c2 : w2.cell? ⟨bf, 0, none⟩ = some v := (World.cell?_of_block (w := w1.alloc _) (hgrow2.block bf (by simp; omega) (fun e => by have := (MK.out.1.lt bf e.symm).1; omega))).trans (by rw [World.cell?_of_block (w := w1) (Below.heap_alloc _ _ _ (show bf < w1.heap.size by omega))]; exact T3.out); have f2 : w2.frozen? ⟨bf, 0, none⟩ = false := (World.frozen?_of_block (w := w1.alloc _) (hgrow2.block bf (by simp; omega) (fun e => by have := (MK.out.1.lt bf e.symm).1; omega))).trans (by rw [World.frozen?_of_block (w := w1) (Below.heap_alloc _ _ _ (show bf < w1.heap.size by omega))]; exact T4.out); have k2 : ∀ u, (w2.setCell ⟨bf, 0, none⟩ u).cell? ⟨bk, 0, none⟩ = some (.int .i64 k) := fun u => (World.cell?_of_block (Below.heap_setCell _ _ _ _ (show bk ≠ bf by omega))).trans ((World.cell?_of_block (w := w1.alloc _) (hgrow2.block bk (by simp; omega) (fun e => by have := (MK.out.1.lt bk e.symm).1; omega))).trans (by rw [World.cell?_of_block (w := w1) (Below.heap_alloc _ _ _ (show bk < w1.heap.size by omega))]; exact CK1.out)); have k4 : ∀ u, (w2.setCell ⟨bf, 0, none⟩ u).cell? ⟨bw, 0, none⟩ = some (.slice (some ⟨g, 0, none⟩) n n) := fun u => (World.cell?_of_block (Below.heap_setCell _ _ _ _ (show bw ≠ bf by omega))).trans ((World.cell?_of_block (w := w1.alloc _) (hgrow2.block bw (by simp; omega) (fun e => by have := (MK.out.1.lt bw e.symm).1; omega))).trans (by rw [World.cell?_of_block (w := w1) (Below.heap_alloc _ _ _ (show bw < w1.heap.size by omega))]; exact CW1.out)); clear hown2 hgrow2 hat2))
        obtain ⟨wA, hwA⟩ : ∃ wA, wA = w2.setCell ⟨bf, 0, none⟩ (.slice (some ⟨g2, 0, none⟩) (LL.length + 1) cap2) := ⟨_, rfl⟩
        have hpush := TabK.push (x := B) (gr := b) (cr := cap) T1.out hb0 T3.out T4.out MK.out T6.out (below_alloc (Below.refl _ w1) (.cells #[.slice (some ⟨b, 0, none⟩) (m + 1) cap] 23)) (by rw [hm]; exact (HO.out.of_block (BW1.out.block b hbs)).of_block (Below.heap_alloc _ _ _ (Nat.lt_of_lt_of_le hbs S1.out))) (by omega) (by have := S1.out; simp; omega) NR.out.1 NR.out.2.1 (by rw [hm]; exact N2.out) G2.out A2.out
        rw [← hwA] at hpush ⊢
        have SA := Lib.hid (show Outside (TopV bf v) w wA from (Outside.of_below BW1.out).trans' hpush.1 (fun _ _ h => h))
        have VA := Lib.hid (show ∀ x, (Value.slice (some ⟨g2, 0, none⟩) (LL.length + 1) cap2).ownBlock = some x → v.ownBlock = some x ∨ w.heap.size ≤ x from fun x hx => by
          have hx' : g2 = x := by simpa [Value.ownBlock] using hx
          rcases A2.out with h | h
          · left; rw [h, hx']
          · right; have := S1.out; simp at h; omega)
        have QA := Lib.hid (show ∀ x, (R x ∨ x = b) → R x ∨ x = b ∨ w.heap.size ≤ x from fun x hx => hx.elim .inl fun h => .inr (.inl h))
        have TA := Lib.hid (show TabK 23 bf w0 (LL ++ circ1 n W B) _ _ wA by rw [E1.out]; exact hpush.2)
        clear hpush c2 f2 k2 k4 N2 G2 A2
      case' false =>
        have T2 := Lib.hid hb
        have E1 := Lib.hid (show circ1 n W B = [] by unfold circ1; rw [tt_no (fun h => by have := HEC.out.2 h; rw [hb] at this; cases this), if_neg (by simp)])
        clear hb
        go_wp2_with (go_at_call 47; refine HWN.out.mono ?_; rintro e w' ⟨rfl, rfl⟩; rw [T2.out])
        have SA := Lib.hid (show Outside (TopV bf v) w w1 from Outside.of_below BW1.out)
        have VA := Lib.hid (show ∀ x, v.ownBlock = some x → v.ownBlock = some x ∨ w.heap.size ≤ x from fun x h => .inl h)
        have QA := Lib.hid (show ∀ x, R x → R x ∨ x = b ∨ w.heap.size ≤ x from fun x h => .inl h)
        have TA := Lib.hid (show TabK 23 bf w0 (LL ++ circ1 n W B) v R w1 by rw [E1.out, List.append_nil]; exact ⟨G, Cp, T1.out, hb0, T3.out, T4.out, MK.out, T6.out⟩)
        obtain ⟨wA, hwA⟩ : ∃ wA, wA = w1 := ⟨_, rfl⟩
        rw [← hwA] at SA TA ⊢
      all_goals (
        have PK := Lib.hid (show ∃ (v1 : Value) (R1 : Nat → Prop), Outside (TopV bf v) w wA ∧ (∀ x, v1.ownBlock = some x → v.ownBlock = some x ∨ w.heap.size ≤ x) ∧ (∀ x, R1 x → R x ∨ x = b ∨ w.heap.size ≤ x) ∧ TabK 23 bf w0 (LL ++ circ1 n W B) v1 R1 wA from ⟨_, _, SA.out, VA.out, QA.out, TA.out⟩)
        clear SA VA QA TA MK T1 T3 T4 T6 CW1 CK1 HWN
        go_loopw [8] (fun i wr => ∃ (q : Nat) (v1 : Value) (R1 : Nat → Prop), x + 1 ≤ q ∧ q ≤ n ∧ i = .int .i64 q ∧ Outside (TopV bf v) w wr ∧ (∀ x, v1.ownBlock = some x → v.ownBlock = some x ∨ w.heap.size ≤ x) ∧ (∀ x, R1 x → R x ∨ x = b ∨ w.heap.size ≤ x) ∧ TabK 23 bf w0 (LL ++ circsTo n W (f - 1) B q) v1 R1 wr) (fun i _ => n - (intOf i).toNat)
        case atStart =>
          obtain ⟨v1, R1, h1, h2, h3, h4⟩ := PK.out
          exact ⟨x + 1, v1, R1, Nat.le_refl _, by omega, by go_num, h1, h2, h3, by rw [path_skip HP.out HX.out _ (Nat.le_refl _)]; exact h4⟩
        case round =>
          obtain ⟨q, v1, R1, hxq, hqn, rfl, ho, hv1, hR1, ht⟩ := hrel
          clear PK
          have OU := Lib.hid ho
          have hsr : w.heap.size ≤ wr.heap.size := ho.size
          have V1 := Lib.hid hv1
          have R1H := Lib.hid hR1
          have TB := Lib.hid ht
          obtain ⟨d1, d2, d3, d4⟩ := ht.base
          have BR := Lib.hid d1
          have hcwr : wr.cell? ⟨bw, 0, none⟩ = some (.slice (some ⟨g, 0, none⟩) n n) := (d1.cell (p := ⟨bw, 0, none⟩) (World.block_lt_of_cell? _ _ CW.out)).trans CW.out
          have hcgr : wr.cell? ⟨bg, 0, none⟩ = some (goOnV bw bf bk bg) := ho.cell (p := ⟨bg, 0, none⟩) (fun h => by rcases h with h | h; (have : bg = bf := h; omega); exact NR.out.2.2.2 h) CG.out
          have hOr : OwnR wr b (some ⟨b, 0, none⟩) (m + 1) (nth B) := HO.out.of_block (ho.block b hbs (fun h => by rcases h with h | h; (have : b = bf := h; omega); exact NR.out.2.1 h))
          have HOR := Lib.hid hOr
          have CGR := Lib.hid hcgr
          clear ho hv1 hR1 ht d1 d3 d4 hOr hcgr
          by_cases hlt : q < n
          · have HWQ := Lib.hid (wants_any n n (some ⟨g, 0, none⟩) W y q wr HW.out (RD.out.below (Nat.le_refl _) BR.out) hyn (by omega))
            have HGO := Lib.hid (path_goes HP.out hm HX.out (show x < q by omega))
            cases hb : WantsB W y q with
            | false =>
              have T2 := Lib.hid hb
              have NG := Lib.hid (show ¬ GoesOn W B q from fun h => by have := (HGO.out.1 h).1; rw [HY.out, Int.toNat_natCast, hb] at this; cases this)
              clear hb
              go_wp2_with (go_at_call 47; refine HWQ.out.mono ?_; rintro e w' ⟨rfl, rfl⟩; rw [T2.out])
              go_roundw
              case rel => exact ⟨q + 1, v1, R1, by omega, by omega, by go_num, OU.out, V1.out, R1H.out, by rw [circsTo_no NG.out]; exact TB.out⟩
              case measure => simp [intOf]; omega
            | true =>
              have T2 := Lib.hid hb
              have HCO := Lib.hid (contains_any (m + 1) cap (some ⟨b, 0, none⟩) (nth B) (q : Int) wr (by omega) HOR.out.rd)
              by_cases hh : HasI (m + 1) (nth B) q
              · have T5 := Lib.hid (tt_of hh)
                have NG := Lib.hid (show ¬ GoesOn W B q from fun h => (HGO.out.1 h).2 hh)
                clear hb hh
                go_wp2_with (first
                  | (go_at_call 47; refine HWQ.out.mono ?_; rintro e w' ⟨rfl, rfl⟩; rw [T2.out])
                  | (go_at_call 71; refine HCO.out.mono ?_; rintro e w' ⟨rfl, rfl⟩; rw [T5.out]))
                go_roundw
                case rel => exact ⟨q + 1, v1, R1, by omega, by omega, by go_num, OU.out, V1.out, R1H.out, by rw [circsTo_no NG.out]; exact TB.out⟩
                case measure => simp [intOf]; omega
              · have T5 := Lib.hid (tt_no hh)
                have GO := Lib.hid (HGO.out.2 ⟨by rw [HY.out, Int.toNat_natCast]; exact hb, hh⟩)
                have PN := Lib.hid (path_next HP.out hm HX.out (show x < q by omega) hlt (by rw [HY.out, Int.toNat_natCast]; exact hb) hh)
                clear hb hh
                have hcg2 := CGR.out
                unfold goOnV at hcg2
                go_wp2_with (first
                  | (go_at_call 47; refine HWQ.out.mono ?_; rintro e w' ⟨rfl, rfl⟩; rw [T2.out])
                  | (go_at_call 71; refine HCO.out.mono ?_; rintro e w' ⟨rfl, rfl⟩; rw [T5.out]))
                have hLn := circsTo_le (n := n) (W := W) (B := B) (f := f - 1) hn6 hqn
                have hfit2 := Lib.hid (fit_next (show 1 ≤ f by omega) hfit hLn)
                obtain ⟨LQ, hLQ⟩ : ∃ LQ, LQ = LL ++ circsTo n W (f - 1) B q := ⟨_, rfl⟩
                have hfit3 := Lib.hid (show LQ.length + 7 ^ (f - 1 + 1) ≤ 5764801 by rw [hLQ, List.length_append]; exact hfit2.out)
                have TBQ := Lib.hid (show TabK 23 bf w0 LQ v1 R1 wr by rw [hLQ]; exact TB.out)
                have QLQ := Lib.hid hLQ
                have hlB : (B ++ [(q : Int)]).length = m + 1 + 1 := by rw [List.length_append, hm]; rfl
                have HLB := Lib.hid hlB
                clear hLn hfit2 hLQ hlB TB HWQ HCO d2 hcwr
                have s1 : (0 : Int) ≤ (m : Int) + 1 := by omega
                have s2 : (m : Int) + 1 ≤ (cap : Int) := by omega
                have tk : True := trivial
                go_region_held3 (fun W' => W'.cell? ⟨bg, 0, none⟩ = some (.func (.func 70) #[] #[.pointer (some ⟨bw, 0, none⟩), .pointer (some ⟨bf, 0, none⟩), .pointer (some ⟨bk, 0, none⟩), .pointer (some ⟨bg, 0, none⟩)]))
                  (first | exact keepg_drew hcg2 | exact keepg_drew (by assumption) | exact keepg_alloc (by assumption) _ | exact keepg_grown (by assumption) hgrow3 | exact hcg9)
                  ((first
                    | (have _t := tk; refine step_append_grows (by rfl) (.tmp 54) (.tmp 56) 23 (by rfl) 3 i0 (.int .i64 0) 1 8 Try.underlying23 hi hz0 hz1 hz2 (by rfl) (by decide) (some ⟨b, 0, none⟩) (m + 1) (m + 1) (cellsL (m + 1) (nth B)) (by rfl) (fun h => by cases h) (by rw [cellsL_length, Nat.mul_one]) (fun bb hbb2 => by cases hbb2; exact HOR.out.rd.news (by repeat (first | exact Below.refl _ _ | refine Below.drew ?_ | refine below_alloc ?_ _))) ⟨_, 0, none⟩ 1 1 [.int .i64 (q : Nat)] (by rfl) (by rfl) (news_one (by first | (simp; done) | exact World.cell?_alloc_new _ _ _ 0)) (by simp [Value.oneCell']) (by omega) (by unfold maxLen; omega) (by omega) ?_; clear tk; intro v3 w3 hown3 hgrow3; obtain ⟨b3, cap3, rfl, hb31, hb32, hb33⟩ := owns_shape hown3 (by omega); have hb3 : Below wr.heap.size wr w3 := Below.grown (by repeat (first | exact Below.refl _ _ | refine Below.drew ?_ | refine below_alloc ?_ _)) hgrow3 (by first | exact Nat.le_refl _ | (simp; done) | (simp; omega) | omega) (fun k h => by cases h); have hb34 : wr.heap.size ≤ b3 := Nat.le_trans (by first | exact Nat.le_refl _ | (simp; done) | (simp; omega) | omega) hb31; have hO3 : OwnR w3 b3 (some ⟨b3, 0, none⟩) (m + 1 + 1) (nth (B ++ [(q : Int)])) := (OwnR.of_owns (by rw [cellsL_snoc] at hown3; exact hown3)).congr (fun j hj => by rw [snoc_nth (by omega)]; rw [hm]); clear hown3)
                    | (go_at_call 70; refine (IH.out (f - 1) (by omega) (B ++ [(q : Int)]) (m + 1) b3 cap3 v1 R1 LQ _ PN.out HLB.out (by omega) (TBQ.out.below hb3) hO3 (by omega) hb32 hb33 (fun h => by have := (TBQ.out.rows _ h).2.1; omega) (fun h => by have := (TBQ.out.top _ h).2; omega) (by omega) (by assumption) (fun h => by rcases R1H.out _ h with h | h | h; exact NR.out.2.2.1 h; omega; omega) (fun h => by rcases V1.out _ h with h | h; exact NR.out.2.2.2 h; omega) hfit3.out).mono ?_; rintro e w9 ⟨⟨u, rfl⟩, ho9, v9, R9, hv9, hR9, ht9⟩; have hcg9 := ho9.cell (p := ⟨bg, 0, none⟩) (fun h => by rcases h with h | h; (have : bg = bf := h; omega); rcases V1.out bg h with h | h; exact NR.out.2.2.2 h; omega) (by assumption))))
                all_goals (
                  have HO9 := Lib.hid ho9
                  have HV9 := Lib.hid hv9
                  have HR9 := Lib.hid hR9
                  have HT9 := Lib.hid ht9
                  have HB3 := Lib.hid hb3
                  clear ho9 hv9 hR9 ht9 hb3 hO3 hgrow3
                  go_wp2_with fail
                  go_roundw
                  case rel =>
                    have hs3 := HB3.out.size
                    refine ⟨q + 1, v9, R9, by omega, by omega, by go_num, ?_, fun z hz => ?_, fun z hz => ?_, ?_⟩
                    · refine (OU.out.trans' ((Outside.of_below HB3.out).trans' HO9.out (fun z hz h => h)) (fun z hz h => ?_))
                      rcases h with h | h
                      · exact .inl h
                      · rcases V1.out z h with h | h
                        · exact .inr h
                        · omega
                    · rcases HV9.out z hz with h | h
                      · exact V1.out z h
                      · right; omega
                    · rcases HR9.out z hz with h | h | h
                      · exact R1H.out z h
                      · right; right; omega
                      · right; right; omega
                    · rw [circsTo_yes GO.out, ← List.append_assoc, ← QLQ.out]; exact HT9.out
                  case measure => simp [intOf]; omega)
          · obtain rfl : q = n := by omega
            go_wp2_with fail
            go_end0
            exact ⟨⟨_, rfl⟩, OU.out, v1, R1, V1.out, R1H.out, by rw [show circs q W f B = circsTo q W (f - 1) B q by obtain ⟨f', rfl⟩ : ∃ f', f = f' + 1 := ⟨f - 1, by omega⟩; exact circs_succ]; exact TB.out⟩)
end Go.Proofs.Ytamglhpgdaoaoaa
