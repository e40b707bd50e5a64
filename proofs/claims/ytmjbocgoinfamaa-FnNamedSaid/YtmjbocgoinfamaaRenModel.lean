/- Moneys called otherwise, in plain mathematics. -/
import Derived.Test.YtmjbocgoinfamaaBestBack
import Derived.Test.YtmjbocgoinfamaaWalkReduce
import Derived.Test.YtmjbocgoinfamaaGainModel
namespace Go.Proofs.Ytmjbocgoinfamaa
set_option linter.unusedVariables false

/-- Two renamings of the first n numbers that undo each other. -/
structure Ren (n : Nat) (f g : Nat → Nat) : Prop where
  f1 : ∀ i, i < n → f i < n
  g1 : ∀ i, i < n → g i < n
  gf : ∀ i, i < n → g (f i) = i
  fg : ∀ i, i < n → f (g i) = i
theorem Ren.symm {n : Nat} {f g : Nat → Nat} (h : Ren n f g) : Ren n g f := ⟨h.g1, h.f1, h.fg, h.gf⟩
def renL (f : Nat → Nat) (D : List Int) : List Int := D.map fun x => (f x.toNat : Int)
def InAll (n : Nat) (D : List Int) : Prop := ∀ x, x ∈ D → 0 ≤ x ∧ x < n
theorem renL_length (f : Nat → Nat) (D : List Int) : (renL f D).length = D.length := by simp [renL]
theorem renL_append (f : Nat → Nat) (A B : List Int) : renL f (A ++ B) = renL f A ++ renL f B := by simp [renL]
theorem ren_in {n : Nat} {f g : Nat → Nat} (h : Ren n f g) {D : List Int} (hm : InAll n D) : InAll n (renL f D) := by
  intro y hy
  unfold renL at hy
  rw [List.mem_map] at hy
  obtain ⟨x, hx, rfl⟩ := hy
  have := hm x hx
  have := h.f1 x.toNat (by omega)
  omega
theorem ren_ren {n : Nat} {f g : Nat → Nat} (h : Ren n f g) {D : List Int} (hm : InAll n D) : renL g (renL f D) = D := by
  unfold renL
  rw [List.map_map]
  refine (List.map_congr_left fun x hx => ?_).trans (List.map_id D)
  have := hm x hx
  show ((g ((f x.toNat : Int).toNat) : Nat) : Int) = x
  rw [Int.toNat_natCast, h.gf _ (by omega)]
  omega
theorem ren_nodup {n : Nat} {f g : Nat → Nat} (h : Ren n f g) {D : List Int} (hm : InAll n D) (hd : D.Nodup) : (renL f D).Nodup := by
  unfold renL
  rw [List.nodup_iff_pairwise_ne, List.pairwise_map]
  refine List.Pairwise.imp_of_mem ?_ (List.nodup_iff_pairwise_ne.1 hd)
  intro a b ha hb hab e
  have h1 := hm a ha
  have h2 := hm b hb
  have h3 := h.gf a.toNat (by omega)
  have h4 := h.gf b.toNat (by omega)
  have e' : f a.toNat = f b.toNat := by omega
  rw [e', h4] at h3
  exact hab (by omega)
theorem ren_along {n : Nat} {f : Nat → Nat} {Z Z' : Nat → Nat → Int} (hZ : ∀ i k, i < n → k < n → Z' (f i) (f k) = Z i k) : ∀ D : List Int, InAll n D → along Z' (renL f D) = along Z D
  | [], _ => rfl
  | [_], _ => rfl
  | x :: y :: l, hm => by
    have hx := hm x (by simp)
    have hy := hm y (by simp)
    show Z' ((f x.toNat : Int)).toNat ((f y.toNat : Int)).toNat * along Z' (renL f (y :: l)) = Z x.toNat y.toNat * along Z (y :: l)
    rw [Int.toNat_natCast, Int.toNat_natCast, hZ _ _ (by omega) (by omega), ren_along hZ (y :: l) (fun z hz => hm z (List.mem_cons_of_mem _ hz))]
theorem nth_ren {f : Nat → Nat} {D : List Int} {j : Nat} (h : j < D.length) : nth (renL f D) j = (f (nth D j).toNat : Int) := by
  unfold nth renL
  rw [List.getD_eq_getElem?_getD, List.getD_eq_getElem?_getD, List.getElem?_map, List.getElem?_eq_getElem h]
  rfl
theorem ren_way {n : Nat} {f g : Nat → Nat} (h : Ren n f g) {i k : Nat} {D : List Int} (hw : WayTo n i k D) : WayTo n (f i : Nat) (f k : Nat) (renL f D) := by
  obtain ⟨hd, h2, h0, h1⟩ := hw
  rw [diff_mem] at hd
  refine ⟨diff_mem.2 ⟨ren_in h hd.1, ren_nodup h hd.1 hd.2⟩, by rw [renL_length]; exact h2, ?_, ?_⟩
  · rw [nth_ren (by omega), h0, Int.toNat_natCast]
  · rw [renL_length, nth_ren (by omega), h1, Int.toNat_natCast]
theorem best_ren_le {n : Nat} {f g : Nat → Nat} (h : Ren n f g) {Z Z' : Nat → Nat → Int} (hZ : ∀ i k, i < n → k < n → Z' (f i) (f k) = Z i k) {i k : Nat} (hi : i < n) {b : Int} :
    bestL n Z k b (longer n (n - 1) [(i : Int)]) ≤ bestL n Z' (f k : Nat) b (longer n (n - 1) [((f i : Nat) : Int)]) := by
  refine best_le _ _ (best_base _ _) fun D hD e => ?_
  have hw := (mem_ways hi).1 ⟨hD, e⟩
  obtain ⟨m, e2⟩ := (mem_ways (h.f1 i hi)).2 (ren_way h hw)
  have h2 := hw.2.1
  have e3 : wayV n Z D = wayV n Z' (renL f D) := by
    rw [wayV_along (by omega), wayV_along (by rw [renL_length]; omega), ren_along hZ D (diff_mem.1 hw.1).1, renL_length]
  rw [e3]
  exact best_ge e2 _ _ m
theorem ren_back {n : Nat} {f g : Nat → Nat} (h : Ren n f g) {Z Z' : Nat → Nat → Int} (hZ : ∀ i k, i < n → k < n → Z' (f i) (f k) = Z i k) : ∀ i k, i < n → k < n → Z (g i) (g k) = Z' i k := fun i k hi hk => by
  have := hZ (g i) (g k) (h.g1 i hi) (h.g1 k hk)
  rw [h.fg i hi, h.fg k hk] at this
  exact this.symm
theorem best_ren {n : Nat} {f g : Nat → Nat} (h : Ren n f g) {Z Z' : Nat → Nat → Int} (hZ : ∀ i k, i < n → k < n → Z' (f i) (f k) = Z i k) {i k : Nat} (hi : i < n) (hk : k < n) {b : Int} :
    bestL n Z' (f k : Nat) b (longer n (n - 1) [((f i : Nat) : Int)]) = bestL n Z k b (longer n (n - 1) [(i : Int)]) := by
  refine Int.le_antisymm ?_ (best_ren_le h hZ hi)
  have := best_ren_le h.symm (ren_back h hZ) (k := f k) (h.f1 i hi) (b := b)
  rwa [h.gf i hi, h.gf k hk] at this

/-- The product once around. -/
def loopV (Z : Nat → Nat → Int) : List Int → Int
  | [] => 1
  | a :: t => along Z (a :: t ++ [a])
theorem loop_turn (Z : Nat → Nat → Int) (U V : List Int) : loopV Z (U ++ V) = loopV Z (V ++ U) := by
  cases U with
  | nil => simp
  | cons x U =>
    cases V with
    | nil => simp
    | cons a V =>
      have h1 := along_join Z (x :: U) a (V ++ [x])
      have h2 := along_join Z (a :: V) x (U ++ [a])
      have e1 : along Z (x :: (U ++ a :: V) ++ [x]) = along Z (x :: U ++ [a]) * along Z (a :: (V ++ [x])) := by simpa using h1
      have e2 : along Z (a :: (V ++ x :: U) ++ [a]) = along Z (a :: V ++ [x]) * along Z (x :: (U ++ [a])) := by simpa using h2
      show along Z (x :: (U ++ a :: V) ++ [x]) = along Z (a :: (V ++ x :: U) ++ [a])
      rw [e1, e2, Int.mul_comm]
      rfl
theorem roundV_loop {n : Nat} {Z : Nat → Nat → Int} {D : List Int} (h : 1 ≤ D.length) : roundV n Z D.length (nth D) = p12 ((n : Int) - (D.length + 1 : Nat) + 1).toNat * loopV Z D := by
  cases D with
  | nil => simp at h
  | cons a t => exact roundV_along
theorem ren_loop {n : Nat} {f : Nat → Nat} {Z Z' : Nat → Nat → Int} (hZ : ∀ i k, i < n → k < n → Z' (f i) (f k) = Z i k) {D : List Int} (hm : InAll n D) : loopV Z' (renL f D) = loopV Z D := by
  cases D with
  | nil => rfl
  | cons a t =>
    have e : renL f (a :: t) ++ [(f a.toNat : Int)] = renL f (a :: t ++ [a]) := by simp [renL]
    show along Z' (renL f (a :: t) ++ [(f a.toNat : Int)]) = along Z (a :: t ++ [a])
    rw [e]
    refine ren_along hZ _ fun x hx => ?_
    rw [List.mem_append] at hx
    rcases hx with hx | hx
    · exact hm x hx
    · have : x = a := by simpa using hx
      subst this
      exact hm x (by simp)
/-- The same list, begun elsewhere. -/
def IsTurn (l l' : List Int) : Prop := ∃ U V, l = U ++ V ∧ l' = V ++ U
theorem IsTurn.trans {a b c : List Int} (h : IsTurn a b) (k : IsTurn b c) : IsTurn a c := by
  obtain ⟨U, V, rfl, rfl⟩ := h
  obtain ⟨U2, V2, e, rfl⟩ := k
  rcases List.append_eq_append_iff.1 e with ⟨a', rfl, rfl⟩ | ⟨c', rfl, rfl⟩
  · exact ⟨a', V2 ++ V, by simp, by simp⟩
  · exact ⟨U ++ U2, c', by simp, by simp⟩
theorem IsTurn.perm {a b : List Int} (h : IsTurn a b) : a.Perm b := by
  obtain ⟨U, V, rfl, rfl⟩ := h
  exact List.perm_append_comm
def Lead (l : List Int) : Prop := ∀ a t, l = a :: t → ∀ x, x ∈ t → a ≤ x
theorem turn_exists (l : List Int) : ∃ l', IsTurn l l' ∧ Lead l' := by
  cases l with
  | nil => exact ⟨[], ⟨[], [], rfl, rfl⟩, fun a t e => by cases e⟩
  | cons y l =>
    obtain ⟨U, a, V, e, ha⟩ := least_split (y :: l) (by simp)
    refine ⟨a :: V ++ U, ⟨U, a :: V, e, rfl⟩, fun b t e' x hx => ?_⟩
    have h1 : a = b := by simp at e'; exact e'.1
    have h2 : V ++ U = t := by simp at e'; exact e'.2
    subst h1
    subst h2
    exact ha x (by rw [e]; simp at hx ⊢; rcases hx with h | h <;> simp [h])
noncomputable def turnL (l : List Int) : List Int := Classical.choose (turn_exists l)
theorem turnL_spec (l : List Int) : IsTurn l (turnL l) ∧ Lead (turnL l) := Classical.choose_spec (turn_exists l)
theorem turn_unique {l l' : List Int} (hn : l.Nodup) (ht : IsTurn l l') (h1 : Lead l) (h2 : Lead l') : l' = l := by
  obtain ⟨U, V, rfl, rfl⟩ := ht
  cases U with
  | nil => simp
  | cons x U =>
    cases V with
    | nil => simp
    | cons a V =>
      have g1 := h1 x (U ++ a :: V) rfl a (by simp)
      have g2 := h2 a (V ++ x :: U) rfl x (by simp)
      have e : x = a := by omega
      subst e
      exact absurd hn (by simp)
/-- A round called otherwise. -/
noncomputable def phi (f : Nat → Nat) (D : List Int) : List Int := turnL (renL f D)
theorem phi_phi {n : Nat} {f g : Nat → Nat} (h : Ren n f g) {D : List Int} (hm : InAll n D) (hd : D.Nodup) (hl : Lead D) : phi g (phi f D) = D := by
  obtain ⟨⟨U, V, e, e'⟩, _⟩ := turnL_spec (renL f D)
  have t1 : IsTurn D (renL g (turnL (renL f D))) := ⟨renL g U, renL g V, by rw [← renL_append, ← e, ren_ren h hm], by rw [e', renL_append]⟩
  have t2 := turnL_spec (renL g (turnL (renL f D)))
  exact turn_unique hd (t1.trans t2.1) hl t2.2
theorem gains_parts {n : Nat} {Z : Nat → Nat → Int} {D : List Int} (h : Gains n Z D) : InAll n D ∧ D.Nodup ∧ Lead D ∧ 2 ≤ D.length := by
  have hd := diff_mem.1 (show Diff n D from h.1.1.1)
  refine ⟨hd.1, hd.2, fun a t e x hx => ?_, h.1.1.2.1⟩
  subst e
  have := (ring_mem.1 h.1).2.2 x hx
  omega
theorem phi_gains {n : Nat} {f g : Nat → Nat} (h : Ren n f g) {Z Z' : Nat → Nat → Int} (hZ : ∀ i k, i < n → k < n → Z' (f i) (f k) = Z i k) {D : List Int} (hD : Gains n Z D) : Gains n Z' (phi f D) := by
  obtain ⟨hm, hd, hl, h2⟩ := gains_parts hD
  obtain ⟨ht, hlead⟩ := turnL_spec (renL f D)
  have hp := ht.perm
  have hin := ren_in h hm
  have hnd := ren_nodup h hm hd
  have hlen : (phi f D).length = D.length := by rw [← renL_length f D]; exact hp.length_eq.symm
  have hnd' : (phi f D).Nodup := hp.nodup hnd
  have hin' : InAll n (phi f D) := fun x hx => hin x (hp.mem_iff.2 hx)
  have hv : roundV n Z' (phi f D).length (nth (phi f D)) = roundV n Z D.length (nth D) := by
    rw [roundV_loop (by omega), roundV_loop (by omega), hlen]
    congr 1
    obtain ⟨U, V, e, e'⟩ := ht
    show loopV Z' (turnL (renL f D)) = _
    rw [e', ← loop_turn, ← e, ren_loop hZ hm]
  refine ⟨?_, by rw [hv]; exact hD.2⟩
  obtain ⟨b, s, e⟩ : ∃ b s, phi f D = b :: s := by
    cases e : phi f D with
    | nil => rw [e] at hlen; simp at hlen; omega
    | cons b s => exact ⟨b, s, rfl⟩
  have hlb : ∀ x, x ∈ s → b ≤ x := hlead b s e
  rw [e] at hnd' hin' hlen ⊢
  refine ring_mem.2 ⟨diff_mem.2 ⟨hin', hnd'⟩, by simp at hlen; omega, fun x hx => ?_⟩
  have h1 := hlb x hx
  have h3 : x ≠ b := fun e'' => (List.nodup_cons.1 hnd').1 (by rw [← e'']; exact hx)
  omega
theorem gaining_ren_le {n : Nat} {f g : Nat → Nat} (h : Ren n f g) {Z Z' : Nat → Nat → Int} (hZ : ∀ i k, i < n → k < n → Z' (f i) (f k) = Z i k) : (gaining n Z).length ≤ (gaining n Z').length := by
  have hnd : (gaining n Z).Nodup := (longer_nodup n []).filter _
  have h1 : ((gaining n Z).map (phi f)).Nodup := by
    rw [List.nodup_iff_pairwise_ne, List.pairwise_map]
    refine List.Pairwise.imp_of_mem ?_ (List.nodup_iff_pairwise_ne.1 hnd)
    intro a b ha hb hab e
    obtain ⟨a1, a2, a3, _⟩ := gains_parts (mem_gaining.1 ha)
    obtain ⟨b1, b2, b3, _⟩ := gains_parts (mem_gaining.1 hb)
    exact hab (by rw [← phi_phi h a1 a2 a3, e, phi_phi h b1 b2 b3])
  have h2 : ∀ D, D ∈ (gaining n Z).map (phi f) → D ∈ gaining n Z' := by
    intro D hD
    rw [List.mem_map] at hD
    obtain ⟨E, hE, rfl⟩ := hD
    exact mem_gaining.2 (phi_gains h hZ (mem_gaining.1 hE))
  have := nodup_le h1 h2
  rwa [List.length_map] at this
theorem gaining_ren {n : Nat} {f g : Nat → Nat} (h : Ren n f g) {Z Z' : Nat → Nat → Int} (hZ : ∀ i k, i < n → k < n → Z' (f i) (f k) = Z i k) : (gaining n Z').length = (gaining n Z).length :=
  Nat.le_antisymm (gaining_ren_le h.symm (ren_back h hZ)) (gaining_ren_le h hZ)
end Go.Proofs.Ytmjbocgoinfamaa
