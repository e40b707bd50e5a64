/- What the texts of givings tell back; how often givings lead back. -/
import Derived.Test.YtnaegnjgpnakfaaDoorSpecText
namespace Go.Proofs.YtnaegnjgpnakfaaDoor
set_option linter.unusedVariables false
set_option linter.unusedSimpArgs false
open Go.RowKit

def pairsT : List Nat → Nat → Nat → List (Nat × Nat)
  | [], _, _ => []
  | b :: l, first, prev =>
    if b = 91 then pairsT l 0 0
    else if b = 93 then (prev - 97, first - 97) :: pairsT l 0 0
    else if 97 ≤ b then (if first = 0 then pairsT l b b else (prev - 97, b - 97) :: pairsT l first b)
    else pairsT l first prev
/-- The giving that a tidy text tells. -/
def backT (n : Nat) (t : List Nat) : List Int := (List.range n).map fun (i : Nat) => match (pairsT t 0 0).find? (fun p => p.1 == i) with
  | some p => (p.2 : Int)
  | none => (i : Int)
/-- The term that a tidy text is. -/
def treeL : List (List Nat) → Tm
  | [] => .keep
  | c :: l => l.foldl (fun t c => .pair t (.circ c)) (.circ c)
def nodB : List Nat → Bool
  | [] => true
  | x :: l => !(l.contains x) && nodB l
def chkE (n : Nat) (D : List Int) : Bool :=
  backT n (textN (cycS n D)) == D && ((List.range n).map (giv n (treeL (cycS n D))) == D) && ((cycS n D).all nodB) &&
  ((textN (cycS n D)).filter (fun b => b == 91)).length == (cycS n D).length && ((textN (cycS n D)).filter (fun b => decide (97 ≤ b) && decide (b ≤ 101))).length == moveN n D && decide ((textN (cycS n D)).length ≤ 60)
theorem chkE2 : (givs 2 2 []).all (chkE 2) = true := by decide +kernel
theorem chkE3 : (givs 3 3 []).all (chkE 3) = true := by decide +kernel
theorem chkE4 : (givs 4 4 []).all (chkE 4) = true := by decide +kernel
theorem chkE5 : (givs 5 5 []).all (chkE 5) = true := by decide +kernel
theorem chkE_all {n : Nat} {G : Nat → Int} (h2 : 2 ≤ n) (h5 : n ≤ 5) (h : IsDiff n n G) : chkE n (givD n G) = true := by
  have hm := givD_mem h
  rcases (by omega : n = 2 ∨ n = 3 ∨ n = 4 ∨ n = 5) with rfl | rfl | rfl | rfl
  · exact List.all_eq_true.1 chkE2 _ hm
  · exact List.all_eq_true.1 chkE3 _ hm
  · exact List.all_eq_true.1 chkE4 _ hm
  · exact List.all_eq_true.1 chkE5 _ hm
structure ChkE (n : Nat) (D : List Int) : Prop where
  back : backT n (textN (cycS n D)) = D
  tree : (List.range n).map (giv n (treeL (cycS n D))) = D
  nod : ∀ c ∈ cycS n D, nodB c = true
  opens : ((textN (cycS n D)).filter (fun b => b == 91)).length = (cycS n D).length
  lets : ((textN (cycS n D)).filter (fun b => decide (97 ≤ b) && decide (b ≤ 101))).length = moveN n D
  len : (textN (cycS n D)).length ≤ 60
theorem chkE_facts {n : Nat} {D : List Int} (h : chkE n D = true) : ChkE n D := by
  unfold chkE at h
  simp only [Bool.and_eq_true, decide_eq_true_eq, List.all_eq_true, beq_iff_eq] at h
  obtain ⟨⟨⟨⟨⟨h1, h2⟩, h3⟩, h4⟩, h5⟩, h6⟩ := h
  exact ⟨h1, h2, h3, h4, by
    have e : (fun b : Nat => decide (97 ≤ b) && decide (b ≤ 101)) = (fun b : Nat => decide (97 ≤ b) && decide (b ≤ 101)) := rfl
    simpa using h5, h6⟩
/-- Texts that are the same tell the same giving. -/
theorem text_same {n : Nat} {G H : Nat → Int} (h2 : 2 ≤ n) (h5 : n ≤ 5) (hG : IsDiff n n G) (hH : IsDiff n n H) :
    textN (cycS n (givD n G)) = textN (cycS n (givD n H)) ↔ ∀ i, i < n → G i = H i := by
  constructor
  · intro e i hi
    have e1 := (chkE_facts (chkE_all h2 h5 hG)).back
    have e2 := (chkE_facts (chkE_all h2 h5 hH)).back
    rw [e, e2] at e1
    rw [← givD_nth (G := G) hi, ← e1, givD_nth hi]
  · intro e
    have : givD n G = givD n H := List.map_congr_left fun i hi => e i (List.mem_range.1 hi)
    rw [this]
theorem textN_i {LL : List (List Nat)} : textN LL = [105] ↔ LL.length = 0 := by
  cases LL with
  | nil => simp [textN]
  | cons c l =>
    have h : ∀ (l : List (List Nat)) (t : List Nat), t.head? ≠ some 105 → t ≠ [] → (l.foldl joinN t).head? ≠ some 105 := by
      intro l
      induction l with
      | nil => intro t h _; exact h
      | cons d l ih => intro t h hn; exact ih (joinN t d) (by simp [joinN]) (by simp [joinN])
    constructor
    · intro e
      exact absurd (show (textN (c :: l)).head? = some 105 by rw [e]; rfl) (h l (circN c) (by simp [circN]) (by simp [circN]))
    · intro e; simp at e
theorem strN_inj {a b : List Nat} (ha : ∀ x ∈ a, x < 256) (hb : ∀ x ∈ b, x < 256) : strN a = strN b ↔ a = b := by
  constructor
  · intro e
    have e1 : a.map UInt8.ofNat = b.map UInt8.ofNat := by
      have := congrArg (fun s : ByteArray => s.data.toList) e
      simpa [strN] using this
    have h : ∀ (l : List Nat), (∀ x ∈ l, x < 256) → (l.map UInt8.ofNat).map UInt8.toNat = l := fun l hl => by
      rw [List.map_map]
      conv => rhs; rw [← List.map_id l]
      exact List.map_congr_left fun x hx => by have := hl x hx; simp [UInt8.toNat_ofNat]; omega
    rw [← h a ha, ← h b hb, e1]
  · intro e; rw [e]
theorem circN_lt {c : List Nat} (h : ∀ x ∈ c, x < 5) : ∀ x ∈ circN c, x < 256 := by
  intro x hx
  simp only [circN, letN, List.cons_append, List.mem_cons, List.mem_append, List.mem_map, List.not_mem_nil, or_false] at hx
  rcases hx with rfl | ⟨y, hy, rfl⟩ | rfl
  · omega
  · have := h y hy; omega
  · omega
theorem joinN_lt {t c : List Nat} (ht : ∀ x ∈ t, x < 256) (h : ∀ x ∈ c, x < 5) : ∀ x ∈ joinN t c, x < 256 := by
  intro x hx
  simp only [joinN, List.mem_append, List.mem_cons, List.not_mem_nil, or_false] at hx
  rcases hx with (((rfl | hx) | rfl) | hx) | rfl
  · omega
  · exact ht x hx
  · omega
  · exact circN_lt h x hx
  · omega
theorem textN_lt {LL : List (List Nat)} (h : ∀ c ∈ LL, ∀ x ∈ c, x < 5) : ∀ x ∈ textN LL, x < 256 := by
  cases LL with
  | nil => intro x hx; simp [textN] at hx; omega
  | cons c l =>
    have H : ∀ (l : List (List Nat)) (t : List Nat), (∀ x ∈ t, x < 256) → (∀ d ∈ l, ∀ x ∈ d, x < 5) → ∀ x ∈ l.foldl joinN t, x < 256 := by
      intro l
      induction l with
      | nil => intro t h _; exact h
      | cons d l ih => intro t ht hd; exact ih (joinN t d) (joinN_lt ht (hd d (by simp))) (fun e he => hd e (by simp [he]))
    exact H l (circN c) (circN_lt (h c (by simp))) (fun d hd => h d (by simp [hd]))
theorem cyc_lt {n : Nat} {G : Nat → Int} (h2 : 2 ≤ n) (h5 : n ≤ 5) (hG : IsDiff n n G) : ∀ x ∈ textN (cycS n (givD n G)), x < 256 :=
  textN_lt fun c hc x hx => by have := ((chk_facts (chk_all h2 h5 hG)).lens c hc).2.2 x hx; omega

/-! ### How many move -/
theorem movedN_zero {T : Nat → Int} : ∀ {k : Nat}, movedN T k = 0 ↔ ∀ i, i < k → T i = i
  | 0 => ⟨fun _ i hi => absurd hi (Nat.not_lt_zero _), fun _ => rfl⟩
  | k + 1 => by
    unfold movedN
    constructor
    · intro h i hi
      have h1 : movedN T k = 0 := by omega
      by_cases e : i = k
      · subst e
        by_cases e2 : T i = i
        · exact e2
        · rw [if_neg e2] at h; omega
      · exact movedN_zero.1 h1 i (by omega)
    · intro h
      rw [if_pos (h k (by omega)), movedN_zero.2 fun i hi => h i (by omega)]
theorem movedN_filter {D : List Int} {G : Nat → Int} : ∀ {k : Nat}, (∀ i, i < k → G i = ((gD D i : Nat) : Int)) → movedN G k = ((List.range k).filter fun i => gD D i != i).length
  | 0, _ => rfl
  | k + 1, h => by
    unfold movedN
    rw [movedN_filter (k := k) fun i hi => h i (by omega), List.range_succ, List.filter_append, List.length_append, h k (by omega)]
    by_cases e : gD D k = k
    · rw [if_pos (by omega)]; simp [e]
    · rw [if_neg (by omega)]; simp [e]
theorem gD_giv {n : Nat} {G : Nat → Int} (hG : IsDiff n n G) {i : Nat} (hi : i < n) : G i = ((gD (givD n G) i : Nat) : Int) := by
  unfold gD; rw [givD_nth hi]; have := hG.1 i hi; omega
theorem moved_is {n : Nat} {G : Nat → Int} (hG : IsDiff n n G) : movedN G n = moveN n (givD n G) := movedN_filter fun i hi => gD_giv hG hi
/-- A giving so often is as told by the list. -/
theorem iter_is {n : Nat} {G : Nat → Int} (hG : IsDiff n n G) : ∀ (k i : Nat), i < n → powF G k i = ((iterD n (givD n G) k i : Nat) : Int)
  | 0, i, hi => rfl
  | k + 1, i, hi => by
    have h := iter_is hG k i hi
    have hp := (perm_pow hG k).1 i hi
    show G (powF G k i).toNat = ((gD (givD n G) (iterD n (givD n G) k i) : Nat) : Int)
    rw [h, Int.toNat_natCast]
    exact gD_giv hG (by rw [h] at hp; omega)
theorem isId_is {n k : Nat} {G : Nat → Int} (hG : IsDiff n n G) : isIdD n (givD n G) k = true ↔ movedN (powF G k) n = 0 := by
  rw [movedN_zero]
  unfold isIdD
  rw [List.all_eq_true]
  constructor
  · intro h i hi
    have := h i (List.mem_range.2 hi)
    rw [beq_iff_eq] at this
    rw [iter_is hG k i hi, this]
  · intro h i hi
    have := h i (List.mem_range.1 hi)
    rw [iter_is hG k i (List.mem_range.1 hi)] at this
    rw [beq_iff_eq]; omega
/-- How often a giving leads back. -/
def ordG (n : Nat) (G : Nat → Int) : Nat := ordD n (givD n G)
theorem ordG_facts {n : Nat} {G : Nat → Int} (h2 : 2 ≤ n) (h5 : n ≤ 5) (hG : IsDiff n n G) : (1 ≤ ordG n G ∧ ordG n G ≤ 6) ∧ movedN (powF G (ordG n G)) n = 0 ∧ ∀ k, 1 ≤ k → k < ordG n G → movedN (powF G k) n ≠ 0 := by
  have hc := chk_facts (chk_all h2 h5 hG)
  refine ⟨hc.ord1, (isId_is hG).1 hc.ordI, fun k h1 h3 h4 => ?_⟩
  have := ord_least h1 h3 hc.ord1.2
  rw [(isId_is hG).2 h4] at this
  cases this
/-- The text of a giving is i just if all keep their houses. -/
theorem text_i {n : Nat} {G : Nat → Int} (h2 : 2 ≤ n) (h5 : n ≤ 5) (hG : IsDiff n n G) : textN (cycS n (givD n G)) = [105] ↔ movedN G n = 0 := by
  rw [textN_i, (chk_facts (chk_all h2 h5 hG)).none, moved_is hG]
end Go.Proofs.YtnaegnjgpnakfaaDoor
