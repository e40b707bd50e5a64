/- Texts joined: WordsModel, Atoi, InfoInts, DrawKit, DrawTab, DrawOne, L6Dec, L11Words. -/
import Derived.Lib.ItoaNum
import Derived.Lib.AtoiAllCases
import Derived.Lib.ItoaMem
import Derived.Lib.Strings
import Derived.Lib.Bytealg
import Derived.Test.YtabdbgnkiebcdaaGreatDoorPartS1
import Derived.Test.YtabdbgnkiebcdaaGreatDoorProg
import Derived.Shelf.Strconv.AtoiAll
import Derived.Lib.AtoiErrMem
import Derived.Deep.OwnRows
import Derived.IntWalk
import Derived.Lib.MinMax
import Derived.Deep.DrawnRows
import Derived.Deep.RegionHeld3
namespace Go.Proofs.YtabdbgnkiebcdaaGreatDoor
set_option linter.unusedVariables false
open Go.Lib

/-- The byte is a decimal digit. -/
def DigB (b : UInt8) : Prop := 48 ≤ b.toNat ∧ b.toNat ≤ 57

theorem dec_lt (u : Nat) (h : u < 10) : decDigits u = [UInt8.ofNat (48 + u)] := by
  rw [decDigits, dif_pos h]
theorem dec_ge (u : Nat) (h : 10 ≤ u) : decDigits u = decDigits (u / 10) ++ [UInt8.ofNat (48 + u % 10)] := by
  rw [decDigits, dif_neg (by omega)]

theorem toNat_dig (d : Nat) (h : d < 10) : (UInt8.ofNat (48 + d)).toNat = 48 + d := by
  rw [UInt8.toNat_ofNat']; omega

theorem dec_dig (u : Nat) : ∀ b ∈ decDigits u, DigB b := by
  induction u using Nat.strongRecOn with
  | ind u ih =>
    by_cases h : u < 10
    · rw [dec_lt u h]
      intro b hb
      rw [List.mem_singleton] at hb
      subst hb
      unfold DigB
      rw [toNat_dig u h]
      omega
    · rw [dec_ge u (by omega)]
      intro b hb
      rcases List.mem_append.1 hb with hb | hb
      · exact ih (u / 10) (by omega) b hb
      · rw [List.mem_singleton] at hb
        subst hb
        unfold DigB
        rw [toNat_dig _ (by omega)]
        omega

theorem dec_len : ∀ (k u : Nat), 1 ≤ k → u < 10 ^ k → (decDigits u).length ≤ k := by
  intro k
  induction k with
  | zero => intro u h; omega
  | succ k ih =>
    intro u _ hu
    by_cases h : u < 10
    · rw [dec_lt u h]; simp
    · have hk : 1 ≤ k := by
        rcases Nat.eq_zero_or_pos k with rfl | h0
        · simp at hu; omega
        · exact h0
      rw [dec_ge u (by omega), List.length_append]
      have := ih (u / 10) hk (by rw [Nat.pow_succ] at hu; omega)
      simp; omega

theorem dec_ne (u : Nat) : decDigits u ≠ [] := by
  by_cases h : u < 10
  · rw [dec_lt u h]; simp
  · rw [dec_ge u (by omega)]; simp

/-- What digits are worth behind a number. -/
def numV (acc : Nat) : List UInt8 → Nat
  | [] => acc
  | c :: r => numV (10 * acc + (c.toNat - 48)) r

theorem numV_append (l m : List UInt8) : ∀ acc, numV acc (l ++ m) = numV (numV acc l) m := by
  induction l with
  | nil => intro acc; rfl
  | cons c r ih => intro acc; exact ih _

theorem numV_ge (l : List UInt8) : ∀ acc, acc ≤ numV acc l := by
  induction l with
  | nil => intro acc; exact Nat.le_refl _
  | cons c r ih => intro acc; exact Nat.le_trans (by omega) (ih _)

theorem numV_lt (l : List UInt8) : ∀ (acc k : Nat), l.length = k → (∀ b ∈ l, DigB b) → numV acc l < (acc + 1) * 10 ^ k := by
  induction l with
  | nil =>
    intro acc k hk _
    have hk0 : k = 0 := hk.symm
    rw [hk0, Nat.pow_zero, Nat.mul_one]
    exact Nat.lt_succ_self acc
  | cons c r ih =>
    intro acc k hk h
    cases k with
    | zero => simp at hk
    | succ k =>
    have hk' : r.length = k := by simpa using hk
    have h1 := ih (10 * acc + (c.toNat - 48)) k hk' (fun b hb => h b (List.mem_cons_of_mem _ hb))
    have hc : DigB c := h c (List.mem_cons_self ..)
    unfold DigB at hc
    have h2 : 10 * acc + (c.toNat - 48) + 1 ≤ (acc + 1) * 10 := by omega
    have h3 := Nat.mul_le_mul_right (10 ^ k) h2
    have h4 : (acc + 1) * 10 ^ (k + 1) = (acc + 1) * 10 * 10 ^ k := by rw [Nat.pow_succ, Nat.mul_comm (10 ^ k) 10, Nat.mul_assoc]
    rw [h4]
    exact Nat.lt_of_lt_of_le h1 h3

theorem dec_val (u : Nat) : numV 0 (decDigits u) = u := by
  induction u using Nat.strongRecOn with
  | ind u ih =>
    by_cases h : u < 10
    · rw [dec_lt u h]
      show 10 * 0 + ((UInt8.ofNat (48 + u)).toNat - 48) = u
      rw [toNat_dig u h]; omega
    · rw [dec_ge u (by omega), numV_append, ih (u / 10) (by omega)]
      show 10 * (u / 10) + ((UInt8.ofNat (48 + u % 10)).toNat - 48) = u
      rw [toNat_dig _ (by omega)]; omega

theorem parse_dig (l : List UInt8) : ∀ acc, (∀ b ∈ l, DigB b) → numV acc l < 1000000000000000000 → parseUint10 acc l = .ok (numV acc l) := by
  induction l with
  | nil => intro acc _ _; rfl
  | cons c r ih =>
    intro acc h hv
    have hc : DigB c := h c (List.mem_cons_self ..)
    have hv' : numV (10 * acc + (c.toNat - 48)) r < 1000000000000000000 := hv
    have hge := numV_ge r (10 * acc + (c.toNat - 48))
    unfold DigB at hc
    rw [parseUint10, if_pos hc, if_neg (by omega), if_neg (by omega), Nat.mul_comm acc 10]
    exact ih _ (fun b hb => h b (List.mem_cons_of_mem _ hb)) hv'

/-- The number is one that the texts here hold: not negative, of at most eleven digits. -/
def FewDig (x : Int) : Prop := 0 ≤ x ∧ x < 100000000000

theorem itoa_few {x : Int} (h : FewDig x) : itoa x = decDigits x.toNat := by
  unfold itoa; rw [if_neg (by have := h.1; omega)]

theorem atoi_few {x : Int} (h : FewDig x) : atoiAll (itoa x) = .ok x := by
  have hx := h
  unfold FewDig at hx
  rw [itoa_few h]
  have hd := dec_dig x.toNat
  have hne := dec_ne x.toNat
  have hv := dec_val x.toNat
  generalize hl : decDigits x.toNat = l at hd hne hv
  cases l with
  | nil => exact absurd rfl hne
  | cons c r =>
    have hc : DigB c := hd c (List.mem_cons_self ..)
    unfold DigB at hc
    have hp : parseMag (c :: r) = .ok x.toNat := by
      unfold parseMag
      rw [if_neg (by simp), parse_dig (c :: r) 0 hd (by rw [hv]; omega), hv]
    unfold atoiAll
    simp only
    rw [if_neg (by omega), hp]
    simp only
    rw [if_neg (by omega), if_neg (by omega), if_neg (by omega)]
    congr 1
    omega

/-- Numbers, each one behind a space. -/
def flatN : List Int → List UInt8
  | [] => []
  | x :: r => 32 :: (itoa x ++ flatN r)

theorem flatN_append (L M : List Int) : flatN (L ++ M) = flatN L ++ flatN M := by
  induction L with
  | nil => rfl
  | cons x r ih => simp only [List.cons_append, flatN, ih, List.append_assoc]

theorem flatN_snoc (L : List Int) (x : Int) : flatN (L ++ [x]) = flatN L ++ 32 :: itoa x := by
  rw [flatN_append]; simp [flatN]

/-- A word and numbers behind it. -/
def wordsB (W : List UInt8) (L : List Int) : List UInt8 := W ++ flatN L

def FewAll (L : List Int) : Prop := ∀ x ∈ L, FewDig x

/-- What a text of numbers begins with is a space, if it begins with something. -/
theorem flatN_head (L : List Int) : flatN L = [] ∧ L = [] ∨ ∃ x r, L = x :: r ∧ flatN L = 32 :: (itoa x ++ flatN r) := by
  cases L with
  | nil => exact .inl ⟨rfl, rfl⟩
  | cons x r => exact .inr ⟨x, r, rfl, rfl⟩

/-- Digits in front are told from what is behind them: two ways to part a text are one. -/
theorem digs_part : ∀ (a b r t : List UInt8), (∀ c ∈ a, DigB c) → (∀ c ∈ b, DigB c) → (∀ c t', r = c :: t' → ¬ DigB c) → (∀ c t', t = c :: t' → ¬ DigB c) → a ++ r = b ++ t → a = b ∧ r = t := by
  intro a
  induction a with
  | nil =>
    intro b r t _ hb hr _ h
    cases b with
    | nil => exact ⟨rfl, h⟩
    | cons c b' =>
      exact absurd (hb c (List.mem_cons_self ..)) (hr c (b' ++ t) h)
  | cons c a' ih =>
    intro b r t ha hb hr ht h
    cases b with
    | nil => exact absurd (ha c (List.mem_cons_self ..)) (ht c (a' ++ r) h.symm)
    | cons d b' =>
      simp only [List.cons_append, List.cons.injEq] at h
      obtain ⟨rfl, h⟩ := h
      obtain ⟨rfl, rfl⟩ := ih b' r t (fun x hx => ha x (List.mem_cons_of_mem _ hx)) (fun x hx => hb x (List.mem_cons_of_mem _ hx)) hr ht h
      exact ⟨rfl, rfl⟩

theorem flatN_nodig (L : List Int) : ∀ c t, flatN L = c :: t → ¬ DigB c := by
  intro c t h hd
  rcases flatN_head L with ⟨h0, _⟩ | ⟨x, r, _, h0⟩
  · rw [h0] at h; cases h
  · rw [h0] at h
    injection h with h1 h2
    subst h1
    unfold DigB at hd
    exact absurd hd.1 (by decide)

/-! ### Texts that are parted at spaces -/

/-- The parts of a text between its spaces. -/
def splitB : List UInt8 → List (List UInt8)
  | [] => [[]]
  | c :: r => if c = 32 then [] :: splitB r else match splitB r with
    | [] => [[c]]
    | a :: m => (c :: a) :: m

theorem splitB_ne (l : List UInt8) : splitB l ≠ [] := by
  cases l with
  | nil => simp [splitB]
  | cons c r =>
    unfold splitB
    split
    · simp
    · split <;> simp

theorem splitB_miss (l : List UInt8) (h : ∀ c ∈ l, c ≠ 32) : splitB l = [l] := by
  induction l with
  | nil => rfl
  | cons c r ih =>
    unfold splitB
    rw [if_neg (h c (List.mem_cons_self ..)), ih (fun d hd => h d (List.mem_cons_of_mem _ hd))]

theorem splitB_hit (l r : List UInt8) (h : ∀ c ∈ l, c ≠ 32) : splitB (l ++ 32 :: r) = l :: splitB r := by
  induction l with
  | nil => simp [splitB]
  | cons c a ih =>
    rw [List.cons_append]
    conv => lhs; unfold splitB
    rw [if_neg (h c (List.mem_cons_self ..)), ih (fun d hd => h d (List.mem_cons_of_mem _ hd))]

theorem splitB_len (l : List UInt8) : (splitB l).length ≤ l.length + 1 := by
  induction l with
  | nil => simp [splitB]
  | cons c r ih =>
    unfold splitB
    split
    · simp; omega
    · split
      · simp
      · rename_i a m hm; rw [hm] at ih; simp at ih ⊢; omega

/-- All parts as numbers, if all are. -/
def numsOf : List (List UInt8) → Option (List Int)
  | [] => some []
  | s :: r => match atoiAll s with
    | .ok v => (numsOf r).map (v :: ·)
    | _ => none

theorem dig_ne {c : UInt8} (h : DigB c) : c ≠ 32 := by
  rintro rfl
  exact absurd h.1 (by decide)

theorem split_flat : ∀ (L : List Int) (x : Int), FewAll (x :: L) → numsOf (splitB (itoa x ++ flatN L)) = some (x :: L) := by
  intro L
  induction L with
  | nil =>
    intro x h
    have hx := h x (List.mem_cons_self ..)
    have hd : ∀ c ∈ itoa x, c ≠ 32 := fun c hc => dig_ne (dec_dig x.toNat c (by rw [← itoa_few hx]; exact hc))
    rw [show flatN [] = [] from rfl, List.append_nil, splitB_miss _ hd]
    simp only [numsOf, atoi_few hx, Option.map]
  | cons y r ih =>
    intro x h
    have hx := h x (List.mem_cons_self ..)
    have hd : ∀ c ∈ itoa x, c ≠ 32 := fun c hc => dig_ne (dec_dig x.toNat c (by rw [← itoa_few hx]; exact hc))
    rw [show flatN (y :: r) = 32 :: (itoa y ++ flatN r) from rfl, splitB_hit _ _ hd]
    simp only [numsOf, atoi_few hx]
    rw [ih y (fun z hz => h z (List.mem_cons_of_mem _ hz))]
    rfl

/-- What is behind the first space of a text. -/
def behindB : List UInt8 → List UInt8
  | [] => []
  | c :: r => if c = 32 then r else behindB r

theorem behind_words (W : List UInt8) (hW : ∀ c ∈ W, c ≠ 32) (x : Int) (L : List Int) : behindB (wordsB W (x :: L)) = itoa x ++ flatN L := by
  unfold wordsB
  induction W with
  | nil => simp [behindB, flatN]
  | cons c r ih =>
    rw [List.cons_append]
    unfold behindB
    rw [if_neg (hW c (List.mem_cons_self ..))]
    exact ih (fun d hd => hW d (List.mem_cons_of_mem _ hd))

theorem behind_none (l : List UInt8) (h : ∀ c ∈ l, c ≠ 32) : behindB l = [] := by
  induction l with
  | nil => rfl
  | cons c r ih =>
    unfold behindB
    rw [if_neg (h c (List.mem_cons_self ..))]
    exact ih (fun d hd => h d (List.mem_cons_of_mem _ hd))

/-- The numbers of a text that is a word and numbers are read again. -/
theorem nums_words (W : List UInt8) (hW : ∀ c ∈ W, c ≠ 32) (L : List Int) (h0 : L ≠ []) (h : FewAll L) : numsOf (splitB (behindB (wordsB W L))) = some L := by
  cases L with
  | nil => exact absurd rfl h0
  | cons x r =>
    rw [behind_words W hW]
    exact split_flat r x h

/-- A word alone has no numbers. -/
theorem nums_word (W : List UInt8) (hW : ∀ c ∈ W, c ≠ 32) : numsOf (splitB (behindB (wordsB W []))) = none := by
  rw [show wordsB W [] = W from List.append_nil W, behind_none W hW]
  rfl

/-- Texts of one word and numbers are alike just if the numbers are. -/
theorem words_inj (W : List UInt8) : ∀ (L M : List Int), FewAll L → FewAll M → wordsB W L = wordsB W M → L = M := by
  have key : ∀ (L M : List Int), FewAll L → FewAll M → flatN L = flatN M → L = M := by
    intro L
    induction L with
    | nil =>
      intro M _ _ h
      rcases flatN_head M with ⟨_, h1⟩ | ⟨x, r, _, h1⟩
      · exact h1.symm
      · rw [h1] at h; cases h
    | cons x r ih =>
      intro M hL hM h
      rcases flatN_head M with ⟨h1, _⟩ | ⟨y, m, rfl, h1⟩
      · rw [h1] at h; cases h
      · have hx := hL x (List.mem_cons_self ..)
        have hy := hM y (List.mem_cons_self ..)
        rw [flatN, flatN] at h
        injection h with _ h
        rw [itoa_few hx, itoa_few hy] at h
        obtain ⟨h2, h3⟩ := digs_part _ _ _ _ (dec_dig _) (dec_dig _) (flatN_nodig r) (flatN_nodig m) h
        have h4 : x.toNat = y.toNat := by rw [← dec_val x.toNat, ← dec_val y.toNat, h2]
        have h5 : x = y := by have := hx.1; have := hy.1; omega
        rw [h5, ih m (fun z hz => hL z (List.mem_cons_of_mem _ hz)) (fun z hz => hM z (List.mem_cons_of_mem _ hz)) h3]
  intro L M hL hM h
  exact key L M hL hM (List.append_cancel_left h)

/-! ### The place of the first space -/

/-- Where a text has no space, and where its first one is. -/
theorem space_cases (l : List UInt8) : (indexByte l 32 = -1 ∧ (∀ c ∈ l, c ≠ 32)) ∨ ∃ i : Nat, indexByte l 32 = i ∧ i < l.length ∧ l = l.take i ++ 32 :: l.drop (i + 1) ∧ (∀ c ∈ l.take i, c ≠ 32) := by
  induction l with
  | nil => left; exact ⟨rfl, fun c hc => by cases hc⟩
  | cons b r ih =>
    by_cases hb : b = 32
    · right
      refine ⟨0, ?_, by simp, by simp [hb], fun c hc => by simp at hc⟩
      unfold indexByte
      rw [hb]; rfl
    · have hb' : (b == 32) = false := by simpa using hb
      rcases ih with ⟨h1, h2⟩ | ⟨i, h1, h2, h3, h4⟩
      · left
        refine ⟨?_, ?_⟩
        · unfold indexByte
          rw [hb', h1]; rfl
        · intro c hc
          rcases List.mem_cons.1 hc with hc | hc
          · rw [hc]; exact hb
          · exact h2 c hc
      · right
        refine ⟨i + 1, ?_, by simp; omega, ?_, ?_⟩
        · unfold indexByte
          have h5 : ((i : Int) == -1) = false := by rw [beq_eq_false_iff_ne]; omega
          rw [hb', h1, h5]
          simp
        · simp only [List.take_succ_cons, List.drop_succ_cons, List.cons_append]
          rw [← h3]
        · intro c hc
          rw [List.take_succ_cons] at hc
          rcases List.mem_cons.1 hc with hc | hc
          · rw [hc]; exact hb
          · exact h4 c hc

theorem split_at {l : List UInt8} {i : Nat} (h : l = l.take i ++ 32 :: l.drop (i + 1)) (h4 : ∀ c ∈ l.take i, c ≠ 32) : splitB l = l.take i :: splitB (l.drop (i + 1)) := by
  conv => lhs; rw [h]
  exact splitB_hit _ _ h4

theorem behind_at {l : List UInt8} {i : Nat} (h : l = l.take i ++ 32 :: l.drop (i + 1)) (h4 : ∀ c ∈ l.take i, c ≠ 32) : behindB l = l.drop (i + 1) := by
  have key : ∀ (a r : List UInt8), (∀ c ∈ a, c ≠ 32) → behindB (a ++ 32 :: r) = r := by
    intro a
    induction a with
    | nil => intro r _; simp [behindB]
    | cons c a ih =>
      intro r ha
      rw [List.cons_append]
      unfold behindB
      rw [if_neg (ha c (List.mem_cons_self ..))]
      exact ih r (fun d hd => ha d (List.mem_cons_of_mem _ hd))
  conv => lhs; rw [h]
  exact key _ _ h4

theorem behind_len (l : List UInt8) : (behindB l).length ≤ l.length := by
  induction l with
  | nil => exact Nat.le_refl _
  | cons c r ih =>
    unfold behindB
    split
    · simp
    · simp; omega

/-- All that is read are ints of the machine. -/
theorem nums_i64 : ∀ (P : List (List UInt8)) (L : List Int), numsOf P = some L → L.length = P.length ∧ ∀ x ∈ L, -9223372036854775808 ≤ x ∧ x ≤ 9223372036854775807 := by
  intro P
  induction P with
  | nil => intro L h; simp only [numsOf, Option.some.injEq] at h; subst h; exact ⟨rfl, fun x hx => by cases hx⟩
  | cons s r ih =>
    intro L h
    unfold numsOf at h
    cases hv : atoiAll s with
    | ok v =>
      rw [hv] at h
      simp only at h
      cases hr : numsOf r with
      | none => rw [hr] at h; cases h
      | some M =>
        rw [hr] at h
        simp only [Option.map, Option.some.injEq] at h
        subst h
        obtain ⟨h1, h2⟩ := ih M hr
        refine ⟨by simp [h1], ?_⟩
        intro x hx
        rcases List.mem_cons.1 hx with hx | hx
        · subst hx
          exact atoiAll_bounds hv
        · exact h2 x hx
    | _ => rw [hv] at h; cases h

/-- A part that is no number: there are no numbers. -/
theorem nums_bad (A : List (List UInt8)) (s : List UInt8) (B : List (List UInt8)) (h : ∀ v, atoiAll s ≠ .ok v) : numsOf (A ++ s :: B) = none := by
  induction A with
  | nil =>
    rw [List.nil_append]
    unfold numsOf
    split
    · rename_i v hv; exact absurd hv (h v)
    · rfl
  | cons a r ih =>
    rw [List.cons_append]
    unfold numsOf
    rw [ih]
    split <;> rfl

theorem nums_snoc (A : List (List UInt8)) (s : List UInt8) (L : List Int) (v : Int) (h : numsOf A = some L) (hv : atoiAll s = .ok v) : numsOf (A ++ [s]) = some (L ++ [v]) := by
  induction A generalizing L with
  | nil =>
    simp only [numsOf, Option.some.injEq] at h
    subst h
    simp only [List.nil_append, numsOf, hv, Option.map]
  | cons a r ih =>
    unfold numsOf at h
    rw [List.cons_append]
    unfold numsOf
    cases ha : atoiAll a with
    | ok x =>
      rw [ha] at h
      simp only at h ⊢
      cases hr : numsOf r with
      | none => rw [hr] at h; cases h
      | some M =>
        rw [hr] at h
        simp only [Option.map, Option.some.injEq] at h
        subst h
        rw [ih M hr]
        rfl
    | _ => rw [ha] at h; cases h

/-! ### Lists that are read number by number -/

/-- The first m numbers. -/
def numsL (m : Nat) (X : Nat → Int) : List Int := (List.range m).map X
theorem numsL_succ (m : Nat) (X : Nat → Int) : numsL (m + 1) X = numsL m X ++ [X m] := by
  unfold numsL; rw [List.range_succ, List.map_append]; rfl
theorem numsL_len (m : Nat) (X : Nat → Int) : (numsL m X).length = m := by simp [numsL]
theorem numsL_mem {m : Nat} {X : Nat → Int} {x : Int} : x ∈ numsL m X ↔ ∃ k, k < m ∧ X k = x := by
  unfold numsL
  simp
theorem numsL_few {m : Nat} {X : Nat → Int} (h : ∀ k, k < m → FewDig (X k)) : FewAll (numsL m X) := by
  intro x hx
  obtain ⟨k, hk, rfl⟩ := numsL_mem.1 hx
  exact h k hk
theorem itoa_len {x : Int} (h : FewDig x) : (itoa x).length ≤ 11 := by
  rw [itoa_few h]
  exact dec_len 11 _ (by omega) (by have := h.1; have := h.2; omega)
theorem flatN_len : ∀ (L : List Int), FewAll L → (flatN L).length ≤ 12 * L.length := by
  intro L
  induction L with
  | nil => intro _; simp [flatN]
  | cons x r ih =>
    intro h
    have h1 := itoa_len (h x (List.mem_cons_self ..))
    have h2 := ih (fun y hy => h y (List.mem_cons_of_mem _ hy))
    simp only [flatN, List.length_cons, List.length_append]
    omega
theorem words_len (W : List UInt8) (L : List Int) (h : FewAll L) : (wordsB W L).length ≤ W.length + 12 * L.length := by
  have := flatN_len L h
  unfold wordsB
  rw [List.length_append]; omega
theorem words_snoc (W : List UInt8) (m : Nat) (X : Nat → Int) : wordsB W (numsL (m + 1) X) = wordsB W (numsL m X) ++ ([32] ++ itoa (X m)) := by
  unfold wordsB
  rw [numsL_succ, flatN_snoc, List.append_assoc]; rfl
end Go.Proofs.YtabdbgnkiebcdaaGreatDoor

namespace Go.Proofs.YtabdbgnkiebcdaaGreatDoor
set_option linter.unusedVariables false
set_option linter.unusedSimpArgs false
open Go.RowKit

def laysC172_ren : Go.Shelf.Ren := ⟨fun | 172 => 111 | 244 => 133 | 245 => 134 | 247 => 150 | 279 => 151 | 280 => 152 | 281 => 153 | 282 => 154 | 287 => 167 | 316 => 168 | 171 => 62 | 205 => 169 | 321 => 172 | 322 => 173 | 243 => 101 | 246 => 129 | 283 => 142 | 284 => 143 | 285 => 144 | 286 => 145 | 129 => 159 | 317 => 158 | 318 => 160 | 319 => 161 | 320 => 140 | 337 => 156 | 338 => 157 | n => n, fun | 9 => 9 | 3 => 3 | 75 => 91 | 76 => 92 | 4 => 4 | 5 => 5 | 167 => 158 | 37 => 22 | 0 => 0 | 85 => 159 | 2 => 2 | 168 => 161 | 53 => 149 | 175 => 170 | 46 => 147 | 210 => 174 | 127 => 117 | 145 => 187 | 143 => 185 | 21 => 21 | 171 => 148 | 173 => 152 | 212 => 167 | 51 => 165 | 20 => 20 | 213 => 168 | 232 => 176 | 233 => 177 | 80 => 53 | n => n, fun | 15 => 2 | 16 => 3 | 17 => 0 | 18 => 4 | 19 => 5 | n => n⟩
theorem laysC172 : Go.Proofs.LaysC.n172 Tryz.prog laysC172_ren := {
  mixed := by kernel_rfl
  f129 := Tryz.func159.trans (congrArg some (by kernel_rfl))
  f171 := Tryz.func62.trans (congrArg some (by kernel_rfl))
  f172 := Tryz.func111.trans (congrArg some (by kernel_rfl))
  f205 := Tryz.func169.trans (congrArg some (by kernel_rfl))
  f243 := Tryz.func101.trans (congrArg some (by kernel_rfl))
  f244 := Tryz.func133.trans (congrArg some (by kernel_rfl))
  f245 := Tryz.func134.trans (congrArg some (by kernel_rfl))
  f246 := Tryz.func129.trans (congrArg some (by kernel_rfl))
  f247 := Tryz.func150.trans (congrArg some (by kernel_rfl))
  f279 := Tryz.func151.trans (congrArg some (by kernel_rfl))
  f280 := Tryz.func152.trans (congrArg some (by kernel_rfl))
  f281 := Tryz.func153.trans (congrArg some (by kernel_rfl))
  f282 := Tryz.func154.trans (congrArg some (by kernel_rfl))
  f283 := Tryz.func142.trans (congrArg some (by kernel_rfl))
  f284 := Tryz.func143.trans (congrArg some (by kernel_rfl))
  f285 := Tryz.func144.trans (congrArg some (by kernel_rfl))
  f286 := Tryz.func145.trans (congrArg some (by kernel_rfl))
  f287 := Tryz.func167.trans (congrArg some (by kernel_rfl))
  f316 := Tryz.func168.trans (congrArg some (by kernel_rfl))
  f317 := Tryz.func158.trans (congrArg some (by kernel_rfl))
  f318 := Tryz.func160.trans (congrArg some (by kernel_rfl))
  f319 := Tryz.func161.trans (congrArg some (by kernel_rfl))
  f320 := Tryz.func140.trans (congrArg some (by kernel_rfl))
  f321 := Tryz.func172.trans (congrArg some (by kernel_rfl))
  f322 := Tryz.func173.trans (congrArg some (by kernel_rfl))
  f337 := Tryz.func156.trans (congrArg some (by kernel_rfl))
  f338 := Tryz.func157.trans (congrArg some (by kernel_rfl))
  t0 := Tryz.underlying0
  a0 := Tryz.isAgg0
  z0 := Tryz.sizeOf0
  v0 := Tryz.zeroValue0
  t2 := Tryz.underlying2
  a2 := Tryz.isAgg2
  z2 := Tryz.sizeOf2
  v2 := Tryz.zeroValue2
  t3 := Tryz.underlying3
  a3 := Tryz.isAgg3
  z3 := Tryz.sizeOf3
  v3 := Tryz.zeroValue3
  t4 := Tryz.underlying4
  a4 := Tryz.isAgg4
  z4 := Tryz.sizeOf4
  v4 := Tryz.zeroValue4
  t5 := Tryz.underlying5
  a5 := Tryz.isAgg5
  z5 := Tryz.sizeOf5
  v5 := Tryz.zeroValue5
  t9 := Tryz.underlying9
  a9 := Tryz.isAgg9
  z9 := Tryz.sizeOf9
  v9 := Tryz.zeroValue9
  t20 := Tryz.underlying20
  a20 := Tryz.isAgg20
  z20 := Tryz.sizeOf20
  v20 := Tryz.zeroValue20
  t21 := Tryz.underlying21
  a21 := Tryz.isAgg21
  z21 := Tryz.sizeOf21
  v21 := Tryz.zeroValue21
  t37 := Tryz.underlying22
  a37 := Tryz.isAgg22
  z37 := Tryz.sizeOf22
  v37 := Tryz.zeroValue22
  t46 := Tryz.underlying147
  a46 := Tryz.isAgg147
  z46 := Tryz.sizeOf147
  v46 := Tryz.zeroValue147
  t51 := Tryz.underlying165
  a51 := Tryz.isAgg165
  z51 := Tryz.sizeOf165
  v51 := Tryz.zeroValue165
  t53 := Tryz.underlying149
  a53 := Tryz.isAgg149
  z53 := Tryz.sizeOf149
  v53 := Tryz.zeroValue149
  t75 := Tryz.underlying91
  a75 := Tryz.isAgg91
  z75 := Tryz.sizeOf91
  v75 := Tryz.zeroValue91
  t76 := Tryz.underlying92
  a76 := Tryz.isAgg92
  z76 := Tryz.sizeOf92
  v76 := Tryz.zeroValue92
  t85 := Tryz.underlying159
  a85 := Tryz.isAgg159
  z85 := Tryz.sizeOf159
  v85 := Tryz.zeroValue159
  t127 := Tryz.underlying117
  a127 := Tryz.isAgg117
  z127 := Tryz.sizeOf117
  v127 := Tryz.zeroValue117
  t143 := Tryz.underlying185
  a143 := Tryz.isAgg185
  z143 := Tryz.sizeOf185
  v143 := Tryz.zeroValue185
  t145 := Tryz.underlying187
  a145 := Tryz.isAgg187
  z145 := Tryz.sizeOf187
  v145 := Tryz.zeroValue187
  t167 := Tryz.underlying158
  a167 := Tryz.isAgg158
  z167 := Tryz.sizeOf158
  v167 := Tryz.zeroValue158
  t168 := Tryz.underlying161
  a168 := Tryz.isAgg161
  z168 := Tryz.sizeOf161
  v168 := Tryz.zeroValue161
  t171 := Tryz.underlying148
  a171 := Tryz.isAgg148
  z171 := Tryz.sizeOf148
  v171 := Tryz.zeroValue148
  t173 := Tryz.underlying152
  a173 := Tryz.isAgg152
  z173 := Tryz.sizeOf152
  v173 := Tryz.zeroValue152
  t175 := Tryz.underlying170
  a175 := Tryz.isAgg170
  z175 := Tryz.sizeOf170
  v175 := Tryz.zeroValue170
  t210 := Tryz.underlying174
  a210 := Tryz.isAgg174
  z210 := Tryz.sizeOf174
  v210 := Tryz.zeroValue174
  t212 := Tryz.underlying167
  a212 := Tryz.isAgg167
  z212 := Tryz.sizeOf167
  v212 := Tryz.zeroValue167
  t213 := Tryz.underlying168
  a213 := Tryz.isAgg168
  z213 := Tryz.sizeOf168
  t232 := Tryz.underlying176
  a232 := Tryz.isAgg176
  z232 := Tryz.sizeOf176
  v232 := Tryz.zeroValue176
  t233 := Tryz.underlying177
  a233 := Tryz.isAgg177
  z233 := Tryz.sizeOf177
  v233 := Tryz.zeroValue177
  g15 := by kernel_rfl
  g16 := by kernel_rfl
  g17 := by kernel_rfl
  g18 := by kernel_rfl
  g19 := by kernel_rfl
  t80 := Tryz.underlying53
  a80 := Tryz.isAgg53
  z80 := Tryz.sizeOf53
  v80 := Tryz.zeroValue53
  i0 := by kernel_rfl
  i2 := by kernel_rfl
  i3 := by kernel_rfl
  i4 := by kernel_rfl
  i5 := by kernel_rfl
  i9 := by kernel_rfl
  i20 := by kernel_rfl
  i21 := by kernel_rfl
  i37 := by kernel_rfl
  i46 := by kernel_rfl
  i51 := by kernel_rfl
  i53 := by kernel_rfl
  i75 := by kernel_rfl
  i76 := by kernel_rfl
  i80 := by kernel_rfl
  i85 := by kernel_rfl
  i127 := by kernel_rfl
  i143 := by kernel_rfl
  i145 := by kernel_rfl
  i167 := by kernel_rfl
  i168 := by kernel_rfl
  i171 := by kernel_rfl
  i173 := by kernel_rfl
  i175 := by kernel_rfl
  i210 := by kernel_rfl
  i212 := by kernel_rfl
  i232 := by kernel_rfl
  i233 := by kernel_rfl
  m15 := by kernel_rfl
  m16 := by kernel_rfl
  m17 := by kernel_rfl
  m18 := by kernel_rfl
  m19 := by kernel_rfl
  c0 := by kernel_rfl
  c2 := by kernel_rfl
  c3 := by kernel_rfl
  c4 := by kernel_rfl
  c5 := by kernel_rfl
  c9 := by kernel_rfl
  c20 := by kernel_rfl
  c21 := by kernel_rfl
  c37 := by kernel_rfl
  c46 := by kernel_rfl
  c51 := by kernel_rfl
  c53 := by kernel_rfl
  c75 := by kernel_rfl
  c76 := by kernel_rfl
  c80 := by kernel_rfl
  c85 := by kernel_rfl
  c127 := by kernel_rfl
  c143 := by kernel_rfl
  c145 := by kernel_rfl
  c167 := by kernel_rfl
  c168 := by kernel_rfl
  c171 := by kernel_rfl
  c173 := by kernel_rfl
  c175 := by kernel_rfl
  c210 := by kernel_rfl
  c212 := by kernel_rfl
  c213 := by kernel_rfl
  c232 := by kernel_rfl
  c233 := by kernel_rfl }
/-- The library's two errors lie in their variables. -/
def NumErrAt (w : World) : Prop := (∃ t p, w.cell? ⟨2, 0, none⟩ = some (.iface t p)) ∧ ∃ t p, w.cell? ⟨3, 0, none⟩ = some (.iface t p)
theorem NumErrAt.below {w w' : World} {B : Nat} (h : NumErrAt w) (hB : w.heap.size ≤ B) (hb : Below B w w') : NumErrAt w' := by
  obtain ⟨⟨t, p, h1⟩, ⟨u, q, h2⟩⟩ := h
  exact ⟨⟨t, p, (hb.cell (p := ⟨_, 0, none⟩) (Nat.lt_of_lt_of_le (World.block_lt_of_cell? _ _ h1) hB)).trans h1⟩, ⟨u, q, (hb.cell (p := ⟨_, 0, none⟩) (Nat.lt_of_lt_of_le (World.block_lt_of_cell? _ _ h2) hB)).trans h2⟩⟩
/-- What Atoi hands back. -/
def RetAtoi (s : ByteArray) (w : World) (e : Ending) (w' : World) : Prop :=
  Below w.heap.size w w' ∧ ((∃ v : Int, Lib.atoiAll s.data.toList = .ok v ∧ e = .returned (.tuple #[.int .i64 v, .nilIface])) ∨ ((∀ v, Lib.atoiAll s.data.toList ≠ .ok v) ∧ ∃ x t p, e = .returned (.tuple #[.int .i64 x, .iface t p])))
theorem atoi_any (s : ByteArray) (w : World) (hs : s.size ≤ 1048576) (hE : NumErrAt w) : Calls Tryz.prog 111 #[.string s] w (RetAtoi s w) := by
  obtain ⟨⟨t, p, h1⟩, ⟨u, q, h2⟩⟩ := hE
  cases h : Lib.atoiAll s.data.toList
  case ok v =>
    refine (Any.strconv_Atoi_ok laysC172 s (by omega) v h w).mono ?_
    rintro e w' ⟨rfl, hw⟩
    refine ⟨?_, .inl ⟨v, h, rfl⟩⟩
    rcases hw with rfl | ⟨z, rfl⟩
    · exact Below.refl _ _
    · exact Lib.bytesWorld_below w _ z
  case range =>
    refine (Any.strconv_Atoi_range laysC172 s (by omega) h _ w h2 (.inr ⟨_, _, rfl⟩)).mono ?_
    rintro e w' ⟨N, rfl, _, _, hb⟩
    exact ⟨hb, .inr ⟨fun v hv => (by rw [h] at hv; cases hv), _, _, _, rfl⟩⟩
  refine (Any.strconv_Atoi_syntax laysC172 s (by omega) h _ w h1 (.inr ⟨_, _, rfl⟩)).mono ?_
  rintro e w' ⟨N, rfl, _, _, hb⟩
  exact ⟨hb, .inr ⟨fun v hv => (by rw [h] at hv; cases hv), _, _, _, rfl⟩⟩
end Go.Proofs.YtabdbgnkiebcdaaGreatDoor

namespace Go.Proofs.YtabdbgnkiebcdaaGreatDoor
set_option linter.unusedVariables false

theorem Tryz.infoInt : (Tryz.prog.info? 3).map (fun i => (i.zero, i.size, i.bytes)) = some (some (.int .i64 0), 1, 8) := by kernel_rfl

theorem Tryz.infoInts : (Tryz.prog.info? 33).map (fun i => (i.zero, i.size, i.bytes)) = some (some (.slice none 0 0), 1, 24) := by kernel_rfl
end Go.Proofs.YtabdbgnkiebcdaaGreatDoor

namespace Go.Proofs.YtabdbgnkiebcdaaGreatDoor
set_option linter.unusedVariables false

section
open Go.RowKit
/-- n bytes. -/
def RdB (w : World) (a : Option Addr) (n : Nat) (B : Nat → Nat) : Prop := ∀ k, k < n → B k < 256 ∧ ∃ b o, a = some ⟨b, o, none⟩ ∧ w.cell? ⟨b, o + k, none⟩ = some (.int .u8 (B k : Nat))
theorem RdB.below {w w' : World} {B : Nat} {a : Option Addr} {n : Nat} {X : Nat → Nat} (h : RdB w a n X) (hB : w.heap.size ≤ B) (hb : Below B w w') : RdB w' a n X := by
  intro k hk
  obtain ⟨h1, b, o, ha, hc⟩ := h k hk
  exact ⟨h1, b, o, ha, (hb.cell (p := ⟨b, o + k, none⟩) (Nat.lt_of_lt_of_le (World.block_lt_of_cell? _ _ hc) hB)).trans hc⟩
theorem RdB.keeps {w w' : World} {lo hi : Nat} {a : Option Addr} {n : Nat} {X : Nat → Nat} (h : RdB w a n X) (hd : ∀ b o, a = some ⟨b, o, none⟩ → b < lo ∨ hi ≤ b) (hk : Keeps lo hi w w') : RdB w' a n X := by
  intro k hkn
  obtain ⟨h1, b, o, ha, hc⟩ := h k hkn
  exact ⟨h1, b, o, ha, (hk.cell (p := ⟨b, o + k, none⟩) (hd b o ha)).trans hc⟩
theorem RdB.sub {w : World} {a : Option Addr} {n m : Nat} {X : Nat → Nat} (h : RdB w a n X) (hm : m ≤ n) : RdB w a m X := fun k hk => h k (by omega)

/-- A reader in block r: its bytes, its place. -/
def RdrAt (w : World) (r : Nat) (a : Option Addr) (n c p : Nat) : Prop := w.heap[r]? = some (.cells #[.slice a n c, .int .i64 (p : Int)] 61 (0, 0))
namespace RdrAt
variable {w w' : World} {r : Nat} {a : Option Addr} {n c p : Nat}
theorem cell0 (h : RdrAt w r a n c p) : w.cell? ⟨r, 0, none⟩ = some (.slice a n c) := cell_of_row w r 0 _ _ (0, 0) h
theorem cell1 (h : RdrAt w r a n c p) : w.cell? ⟨r, 1, none⟩ = some (.int .i64 (p : Int)) := cell_of_row w r 1 _ _ (0, 0) h
theorem frozen (h : RdrAt w r a n c p) (j : Nat) : w.frozen? ⟨r, j, none⟩ = false := frozen_of_row w r j _ _ h
theorem lt (h : RdrAt w r a n c p) : r < w.heap.size := (Array.getElem?_eq_some_iff.1 h).1
theorem of_block (h : RdrAt w r a n c p) (e : w'.heap[r]? = w.heap[r]?) : RdrAt w' r a n c p := e.trans h
theorem next (h : RdrAt w r a n c p) (q : Nat) : RdrAt ((w.setCell ⟨r, 1, none⟩ (.int .i64 ((p : Int) + 1))).drewN q) r a n c (p + 1) := by
  have := heap_setCell_same w r 1 _ _ (.int .i64 ((p : Int) + 1)) h
  unfold RdrAt
  rw [World.heap_drewN, this]
  rfl
end RdrAt

theorem bits_xor_i64 (a b : Nat) (ha : a < 4611686018427387904) (hb : b < 4611686018427387904) : bits .xor .i64 (a : Int) (b : Int) = ((a ^^^ b : Nat) : Int) := by
  have hx : a ^^^ b < 2 ^ 62 := Nat.xor_lt_two_pow (by omega) (by omega)
  show IntKind.i64.wrap ((BitVec.ofInt 64 (a : Int) ^^^ BitVec.ofInt 64 (b : Int)).toNat : Int) = _
  rw [BitVec.toNat_xor, ofInt64_nat a (by omega), ofInt64_nat b (by omega), IntKind.wrap_i64]
  omega

/-- What a pick hands back. -/
def Picked (r : Nat) (a : Option Addr) (n c p : Nat) (m : Nat) (w : World) (e : Ending) (w' : World) : Prop :=
  ∃ x : Nat, e = .returned (.int .i64 (x : Int)) ∧ x < m ∧ RdrAt w' r a n c (p + 1) ∧ Keeps r (r + 1) w w'

theorem keeps_next {w : World} {r : Nat} (v : Value) (q : Nat) : Keeps r (r + 1) w ((w.setCell ⟨r, 1, none⟩ v).drewN q) :=
  ⟨rfl, rfl, rfl, by simp [World.setCell], fun k hk => Below.heap_setCell w ⟨r, 1, none⟩ v k (by show k ≠ r; omega)⟩

set_option maxHeartbeats 1600000 in
theorem pick_none (r c p m : Nat) (a : Option Addr) (w : World) (hr : RdrAt w r a 0 c p) (hp : p ≤ 1000000) (hm1 : 1 ≤ m) (hm : m ≤ 1000000) :
    Calls Tryz.prog 36 #[.pointer (some ⟨r, 0, none⟩), .int .i64 m] w (Picked r a 0 c p m w) := by
  have hc0 := hr.cell0
  have hc1 := hr.cell1
  have hf1 := hr.frozen 1
  have HR := Lib.hid hr
  clear hr
  go_enter Tryz.func36, Tryz.ntmps36
  go_wp2
  go_ret
  exact ⟨0, rfl, hm1, HR.out.next 0, keeps_next _ 0⟩

set_option maxHeartbeats 1600000 in
theorem pick_byte (r n c p m : Nat) (a : Option Addr) (B : Nat → Nat) (w : World) (hr : RdrAt w r a n c p) (hb : RdB w a n B) (hra : ∀ b o, a = some ⟨b, o, none⟩ → b ≠ r) (hpn : p < n) (hn : n ≤ 2000) (hm1 : 1 ≤ m) (hm : m ≤ 1000000) :
    Calls Tryz.prog 36 #[.pointer (some ⟨r, 0, none⟩), .int .i64 m] w (Picked r a n c p m w) := by
  have hc0 := hr.cell0
  have hc1 := hr.cell1
  have hf1 := hr.frozen 1
  have HR := Lib.hid hr
  obtain ⟨h256, ba, oa, rfl, hca0⟩ := hb p hpn
  have hne := hra ba oa rfl
  have hca : (w.setCell ⟨r, 1, none⟩ (.int .i64 ((p : Int) + 1))).cell? ⟨ba, oa + p, none⟩ = some (.int .u8 (B p : Nat)) := by
    rw [World.cell?_of_block (w := w) (Below.heap_setCell _ _ _ _ (by show ba ≠ r; exact hne))]; exact hca0
  clear hr hb hra hca0
  have HM := Lib.hid (Nat.mod_lt (B p) hm1)
  go_enter Tryz.func36, Tryz.ntmps36
  go_wp2
  go_ret
  exact ⟨B p % m, by rw [Int.natCast_emod]; rfl, HM.out, HR.out.next 0, keeps_next _ 0⟩

set_option maxHeartbeats 3200000 in
theorem pick_mix (r n c p m : Nat) (a : Option Addr) (B : Nat → Nat) (w : World) (hr : RdrAt w r a n c p) (hb : RdB w a n B) (hra : ∀ b o, a = some ⟨b, o, none⟩ → b ≠ r) (hn1 : 1 ≤ n) (hpn : n ≤ p) (hn : n ≤ 2000) (hp : p ≤ 1000000) (hm1 : 1 ≤ m) (hm : m ≤ 1000000) :
    Calls Tryz.prog 36 #[.pointer (some ⟨r, 0, none⟩), .int .i64 m] w (Picked r a n c p m w) := by
  obtain ⟨W1, hW1⟩ : ∃ W1, W1 = w.setCell ⟨r, 1, none⟩ (.int .i64 ((p : Int) + 1)) := ⟨_, rfl⟩
  obtain ⟨i1, hi1⟩ : ∃ i1, i1 = p % n := ⟨_, rfl⟩
  obtain ⟨i2, hi2⟩ : ∃ i2, i2 = (p * 7 + 3) % n := ⟨_, rfl⟩
  obtain ⟨q, hq⟩ : ∃ q, q = p / n := ⟨_, rfl⟩
  have hl1 : i1 < n := by rw [hi1]; exact Nat.mod_lt _ hn1
  have hl2 : i2 < n := by rw [hi2]; exact Nat.mod_lt _ hn1
  have hlq : q ≤ p := by rw [hq]; exact Nat.div_le_self _ _
  obtain ⟨h256, ba, oa, rfl, hca0⟩ := hb i1 hl1
  obtain ⟨h256', hca1⟩ : B i2 < 256 ∧ w.cell? ⟨ba, oa + i2, none⟩ = some (.int .u8 (B i2 : Nat)) := by
    obtain ⟨h1, b', o', he, hc⟩ := hb i2 hl2
    cases he; exact ⟨h1, hc⟩
  have hne := hra ba oa rfl
  obtain ⟨b1, hb1⟩ : ∃ b1, b1 = B i1 := ⟨_, rfl⟩
  obtain ⟨b2, hb2⟩ : ∃ b2, b2 = B i2 := ⟨_, rfl⟩
  rw [← hb1] at h256 hca0
  rw [← hb2] at h256' hca1
  have hd1 : W1.cell? ⟨ba, oa + i1, none⟩ = some (.int .u8 (b1 : Nat)) := by rw [hW1, World.cell?_of_block (w := w) (Below.heap_setCell _ _ _ _ (by show ba ≠ r; exact hne))]; exact hca0
  have hd2 : W1.cell? ⟨ba, oa + i2, none⟩ = some (.int .u8 (b2 : Nat)) := by rw [hW1, World.cell?_of_block (w := w) (Below.heap_setCell _ _ _ _ (by show ba ≠ r; exact hne))]; exact hca1
  have hR1 := hr.next 0
  have hD1 : RdrAt W1 r (some ⟨ba, oa, none⟩) n c (p + 1) := by rw [hW1]; exact hR1
  have hK1 : Keeps r (r + 1) w W1 := by rw [hW1]; exact keeps_next _ 0
  have hc0 := hr.cell0
  have hc1 := hr.cell1
  have hf1 := hr.frozen 1
  have he0 := hD1.cell0
  have hm0 : (p : Int).tmod (n : Int) = (i1 : Int) := by rw [Int.tmod_eq_emod_of_nonneg (by omega), ← Int.natCast_emod, hi1]
  have hm2 : ((p : Int) * 7 + 3).tmod (n : Int) = (i2 : Int) := by rw [Int.tmod_eq_emod_of_nonneg (by omega), hi2, Int.natCast_emod]; rfl
  have hm3 : (p : Int).tdiv (n : Int) = (q : Int) := by rw [Int.tdiv_eq_ediv_of_nonneg (by omega), hq, Int.natCast_ediv]
  obtain ⟨N, hN⟩ : ∃ N : Nat, N = b1 * 131 + b2 * 1117 + p * 29 + q * 53 := ⟨_, rfl⟩
  have hN62 : N < 4611686018427387904 := by omega
  have hS : (b1 : Int) * 131 + (b2 : Int) * 1117 + (p : Int) * 29 + (q : Int) * 53 = (N : Int) := by omega
  obtain ⟨Y, hY⟩ : ∃ Y, Y = N ^^^ N / 64 := ⟨_, rfl⟩
  have hX : bits .xor .i64 (N : Int) ((N : Int) / 64) = (Y : Int) := by
    rw [hY, show ((N : Int) / 64) = ((N / 64 : Nat) : Int) by omega]
    exact bits_xor_i64 N (N / 64) hN62 (by omega)
  have hY62 : Y < 4611686018427387904 := by rw [hY]; exact Nat.xor_lt_two_pow (n := 62) (by omega) (by omega)
  have hwp : IntKind.i64.wrap ((p : Int) * 7) = (p : Int) * 7 := IntWalk.i64_in _ (by omega)
  have hwp2 : IntKind.i64.wrap ((p : Int) * 7 + 3) = (p : Int) * 7 + 3 := IntWalk.i64_in _ (by omega)
  have hw1 : IntKind.i64.wrap (b1 : Int) = (b1 : Int) := IntWalk.i64_in _ (by omega)
  have hw2 : IntKind.i64.wrap (b2 : Int) = (b2 : Int) := IntWalk.i64_in _ (by omega)
  have hw3 : IntKind.i64.wrap ((b1 : Int) * 131) = (b1 : Int) * 131 := IntWalk.i64_in _ (by omega)
  have hw4 : IntKind.i64.wrap ((b2 : Int) * 1117) = (b2 : Int) * 1117 := IntWalk.i64_in _ (by omega)
  have hw5 : IntKind.i64.wrap ((b1 : Int) * 131 + (b2 : Int) * 1117) = (b1 : Int) * 131 + (b2 : Int) * 1117 := IntWalk.i64_in _ (by omega)
  have hw6 : IntKind.i64.wrap ((p : Int) * 29) = (p : Int) * 29 := IntWalk.i64_in _ (by omega)
  have hw7 : IntKind.i64.wrap ((b1 : Int) * 131 + (b2 : Int) * 1117 + (p : Int) * 29) = (b1 : Int) * 131 + (b2 : Int) * 1117 + (p : Int) * 29 := IntWalk.i64_in _ (by omega)
  have hw8 : IntKind.i64.wrap ((q : Int) * 53) = (q : Int) * 53 := IntWalk.i64_in _ (by omega)
  have hw9 : IntKind.i64.wrap ((b1 : Int) * 131 + (b2 : Int) * 1117 + (p : Int) * 29 + (q : Int) * 53) = (b1 : Int) * 131 + (b2 : Int) * 1117 + (p : Int) * 29 + (q : Int) * 53 := IntWalk.i64_in _ (by omega)
  have hz : ((n : Int) == 0) = false := by simp; omega
  have hz2 : ¬ (n : Int) = 0 := by omega
  have HD := Lib.hid hD1
  have HK := Lib.hid hK1
  have HM := Lib.hid (Nat.mod_lt Y hm1)
  have QW := Lib.hid hW1
  have HS := Lib.hid hS
  have HX := Lib.hid hX
  have Hw := Lib.hid (And.intro hm0 (And.intro hm2 (And.intro hm3 (And.intro hwp (And.intro hwp2 (And.intro hw1 (And.intro hw2 (And.intro hw3 (And.intro hw4 (And.intro hw5 (And.intro hw6 (And.intro hw7 (And.intro hw8 hw9)))))))))))))
  have he1 := hd1
  have he2 := hd2
  have HE := Lib.hid (And.intro he0 (And.intro hd1 hd2))
  clear hr hb hra hca0 hca1 hR1 hD1 hK1 hm0 hm2 hm3 hN hY hX hS hi1 hi2 hq hb1 hb2 hW1 hwp hwp2 hw1 hw2 hw3 hw4 hw5 hw6 hw7 hw8 hw9 he0 hd1 hd2 he1 he2
  go_enter Tryz.func36, Tryz.ntmps36
  go_wp2
  rw [← QW.out]
  obtain ⟨hm0, hm2, hm3, hwp, hwp2, hw1, hw2, hw3, hw4, hw5, hw6, hw7, hw8, hw9⟩ := Hw.out
  obtain ⟨he0, hd1, hd2⟩ := HE.out
  clear hc0 hc1 hf1
  go_quiet (fail)
  rw [HS.out]
  clear hm0 hm2 hm3 hwp hwp2 hw1 hw2 hw3 hw4 hw5 hw6 hw7 hw8 hw9 he0 hd1 hd2 hz hz2
  have hX := HX.out
  go_wp2
  go_ret
  exact ⟨Y % m, by rw [Int.natCast_emod]; rfl, HM.out, HD.out.of_block rfl, HK.out.trans ⟨rfl, rfl, rfl, rfl, fun _ _ => rfl⟩⟩

/-- THE READER's pick: some number of the range. -/
theorem pick_any (r n c p m : Nat) (a : Option Addr) (B : Nat → Nat) (w : World) (hr : RdrAt w r a n c p) (hb : RdB w a n B) (hra : 0 < n → ∀ b o, a = some ⟨b, o, none⟩ → b ≠ r) (hn : n ≤ 2000) (hp : p ≤ 1000000) (hm1 : 1 ≤ m) (hm : m ≤ 1000000) :
    Calls Tryz.prog 36 #[.pointer (some ⟨r, 0, none⟩), .int .i64 m] w (Picked r a n c p m w) := by
  by_cases h0 : n = 0
  · subst h0; exact pick_none r c p m a w hr hp hm1 hm
  · by_cases h1 : p < n
    · exact pick_byte r n c p m a B w hr hb (hra (by omega)) h1 hn hm1 hm
    · exact pick_mix r n c p m a B w hr hb (hra (by omega)) (by omega) (by omega) hn hp hm1 hm

/-- l6Open: a new reader. -/
def Opened (a : Option Addr) (n : Nat) (w : World) (e : Ending) (w' : World) : Prop :=
  ∃ n' c', e = .returned (.pointer (some ⟨w.heap.size, 0, none⟩)) ∧ n' ≤ 2000 ∧ n' ≤ n ∧ RdrAt w' w.heap.size a n' c' 0 ∧ w'.heap.size = w.heap.size + 1 ∧ Below w.heap.size w w'

set_option maxHeartbeats 800000 in
theorem l6Open_any (n c : Nat) (a : Option Addr) (w : World) (hn : n ≤ 1048576) (hc : n ≤ c) :
    Calls Tryz.prog 35 #[.slice a n c] w (Opened a n w) := by
  by_cases h : n ≤ 2000
  · go_enter Tryz.func35, Tryz.ntmps35
    go_wp2
    go_ret
    exact ⟨n, c, rfl, h, Nat.le_refl _, heap_alloc_last w _, by simp, (Below.refl _ _).alloc (Nat.le_refl _) _⟩
  · have hd : 2000 < n := by omega
    clear h
    go_enter Tryz.func35, Tryz.ntmps35
    go_wp2
    go_ret
    exact ⟨2000, c, rfl, Nat.le_refl _, by omega, heap_alloc_last w _, by simp, (Below.refl _ _).alloc (Nat.le_refl _) _⟩
end

section
open Go.RowKit
/-- Below B all is as it was, but for block r. -/
structure ButR (r B : Nat) (w w' : World) : Prop where
  os : w'.os = w.os
  tape : w'.tape = w.tape
  output : w'.output = w.output
  size : w.heap.size ≤ w'.heap.size
  block : ∀ k, k < B → k ≠ r → w'.heap[k]? = w.heap[k]?

namespace ButR
variable {r B B' : Nat} {a b c : World}
theorem refl (r B : Nat) (w : World) : ButR r B w w := ⟨rfl, rfl, rfl, Nat.le_refl _, fun _ _ _ => rfl⟩
theorem trans (h : ButR r B a b) (k : ButR r B b c) : ButR r B a c := ⟨k.os.trans h.os, k.tape.trans h.tape, k.output.trans h.output, Nat.le_trans h.size k.size, fun i h1 h2 => (k.block i h1 h2).trans (h.block i h1 h2)⟩
theorem mono (h : ButR r B a b) (hB : B' ≤ B) : ButR r B' a b := ⟨h.os, h.tape, h.output, h.size, fun k h1 h2 => h.block k (by omega) h2⟩
theorem keeps (h : Keeps r (r + 1) a b) : ButR r B a b := ⟨h.os, h.tape, h.output, Nat.le_of_eq h.size.symm, fun k _ h2 => h.block k (by omega)⟩
theorem below (h : Below B a b) : ButR r B a b := ⟨h.os, h.tape, h.output, h.size, fun k h1 _ => h.block k h1⟩
theorem alloc (h : ButR r B a b) (hB : B ≤ b.heap.size) (o : Obj) : ButR r B a (b.alloc o) := h.trans (below ((Below.refl _ _).alloc hB o))
theorem grown {row : Option Nat} (h : ButR r B a b) (hg : b.grownBy c row) (hB : B ≤ b.heap.size) (hr : ∀ k, row = some k → B ≤ k) : ButR r B a c := h.trans (below ((Below.refl B b).grown hg hB hr))
theorem setCell (h : ButR r B a b) {p : Addr} (hp : B ≤ p.block) (v : Value) : ButR r B a (b.setCell p v) := h.trans (below ((Below.refl B b).setCell hp v))
theorem toBelow (h : ButR r B a b) (hB : r ≤ B) : Below r a b := ⟨h.os, h.tape, h.output, h.size, fun k hk => h.block k (by omega) (by omega)⟩
end ButR

theorem RdB.but {w w' : World} {r B : Nat} {a : Option Addr} {n : Nat} {X : Nat → Nat} (h : RdB w a n X) (ha : 0 < n → ∀ b o, a = some ⟨b, o, none⟩ → b < B ∧ b ≠ r) (hk : ButR r B w w') : RdB w' a n X := by
  intro k hkn
  obtain ⟨h1, b, o, e, hc⟩ := h k hkn
  exact ⟨h1, b, o, e, by rw [World.cell?_of_block (w := w) (a := ⟨b, o + k, none⟩) (hk.block b (ha (by omega) b o e).1 (ha (by omega) b o e).2)]; exact hc⟩
theorem owns_but {w w' : World} {r base e n : Nat} {v : Value} {xs : List Value} (h : w.ownsRow base e 1 v n xs) (hr : r < base) (hk : Keeps r (r + 1) w w') : w'.ownsRow base e 1 v n xs := by
  obtain ⟨k1, (k2 | ⟨g, cap, cur, k3, k4, k5, k6⟩)⟩ := h
  · exact ⟨k1, .inl k2⟩
  · exact ⟨k1, .inr ⟨g, cap, cur, k3, k4, (hk.block g (by omega)).trans k5, k6⟩⟩
theorem RdrAt.alloc {w : World} {r : Nat} {a : Option Addr} {n c p : Nat} (h : RdrAt w r a n c p) (o : Obj) : RdrAt (w.alloc o) r a n c p := h.of_block (Below.heap_alloc w o r h.lt)
theorem RdrAt.grown {w w' : World} {r : Nat} {a : Option Addr} {n c p : Nat} {row : Option Nat} (h : RdrAt w r a n c p) (hg : w.grownBy w' row) (hr : row ≠ some r) : RdrAt w' r a n c p := h.of_block (hg.block _ h.lt (fun e => hr e.symm))

/-- One of nine numbers. -/
theorem nine {w : World} {g t : Nat} {x : Nat} {v0 v1 v2 v3 v4 v5 v6 v7 v8 : Int} (h : w.heap[g]? = some (.cells #[.int .i64 v0, .int .i64 v1, .int .i64 v2, .int .i64 v3, .int .i64 v4, .int .i64 v5, .int .i64 v6, .int .i64 v7, .int .i64 v8] t (0, 0))) (hx : x < 9) :
    ∃ v : Int, w.cell? ⟨g, x, none⟩ = some (.int .i64 v) := by
  rw [cell_of_row w g x _ t (0, 0) h]
  have : x = 0 ∨ x = 1 ∨ x = 2 ∨ x = 3 ∨ x = 4 ∨ x = 5 ∨ x = 6 ∨ x = 7 ∨ x = 8 := by omega
  rcases this with rfl | rfl | rfl | rfl | rfl | rfl | rfl | rfl | rfl <;> exact ⟨_, rfl⟩
end

section
open Go.RowKit
theorem making_but {tS B r i : Nat} {w w' : World} {v : Value} {G Cp L : Nat → Nat} {X : Nat → Nat → Int} (h : Making tS B w v i G Cp L X) (hr : r < B) (hk : Keeps r (r + 1) w w') : Making tS B w' v i G Cp L X := by
  obtain ⟨h1, h2, h3⟩ := h
  refine ⟨owns_but h1 hr hk, fun k hki => ?_, h3⟩
  obtain ⟨k1, k2, k3, k4⟩ := h2 k hki
  exact ⟨k1, by rw [hk.size]; exact k2, k3, k4.of_block (hk.block _ (by omega))⟩
theorem rd_but {w w' : World} {r g m : Nat} {X : Nat → Int} (h : Rd w (some ⟨g, 0, none⟩) m X) (hg : g ≠ r) (hk : Keeps r (r + 1) w w') : Rd w' (some ⟨g, 0, none⟩) m X := by
  intro k hkm
  obtain ⟨b, o, e, hc⟩ := h k hkm
  refine ⟨b, o, e, ?_⟩
  simp only [Option.some.injEq, Addr.mk.injEq, and_true] at e
  obtain ⟨rfl, rfl⟩ := e
  rw [World.cell?_of_block (w := w) (a := ⟨g, 0 + k, none⟩) (hk.block g (by omega))]
  exact hc
/-- One of six numbers from 1 to 12. -/
theorem six {w : World} {g t : Nat} {x : Nat} (h : w.heap[g]? = some (.cells #[.int .i64 1, .int .i64 2, .int .i64 3, .int .i64 4, .int .i64 6, .int .i64 12] t (0, 0))) (hx : x < 6) :
    ∃ v : Nat, (1 ≤ v ∧ v ≤ 12) ∧ w.cell? ⟨g, x, none⟩ = some (.int .i64 (v : Int)) := by
  rw [cell_of_row w g x _ t (0, 0) h]
  have : x = 0 ∨ x = 1 ∨ x = 2 ∨ x = 3 ∨ x = 4 ∨ x = 5 := by omega
  rcases this with rfl | rfl | rfl | rfl | rfl | rfl
  · exact ⟨1, by omega, rfl⟩
  · exact ⟨2, by omega, rfl⟩
  · exact ⟨3, by omega, rfl⟩
  · exact ⟨4, by omega, rfl⟩
  · exact ⟨6, by omega, rfl⟩
  · exact ⟨12, by omega, rfl⟩
end

end Go.Proofs.YtabdbgnkiebcdaaGreatDoor

namespace Go.Proofs.YtabdbgnkiebcdaaGreatDoor
set_option linter.unusedVariables false

section
open Go.RowKit
/-- The blocks of a table lie at or behind lo. -/
def Apart (lo N : Nat) (ga : Option Addr) (A : Nat → Option Addr) : Prop := (∀ b o, ga = some ⟨b, o, none⟩ → lo ≤ b) ∧ ∀ s, s < N → ∀ b o, A s = some ⟨b, o, none⟩ → lo ≤ b
theorem Apart.mono {lo lo' N : Nat} {ga : Option Addr} {A : Nat → Option Addr} (h : Apart lo N ga A) (hl : lo' ≤ lo) : Apart lo' N ga A :=
  ⟨fun b o e => Nat.le_trans hl (h.1 b o e), fun s hs b o e => Nat.le_trans hl (h.2 s hs b o e)⟩

/-- What l91Table hands back: a table of one to five rows, of five numbers at most, the reader gone on. -/
def DrewTab (r : Nat) (a : Option Addr) (n c p : Nat) (w : World) (e : Ending) (w' : World) : Prop :=
  ∃ ga N gc A L C Z p', e = .returned (.slice ga N gc) ∧ (1 ≤ N ∧ N ≤ 5) ∧ ((∀ s, s < N → L s ≤ 5) ∧ Apart w.heap.size N ga A) ∧ Tab w' ga N A L C Z ∧ RdrAt w' r a n c p' ∧ p' ≤ p + 200 ∧ ButR r w.heap.size w w'

theorem making_butR {tS B r i : Nat} {w w' : World} {v : Value} {G Cp L : Nat → Nat} {X : Nat → Nat → Int} (h : Making tS B w v i G Cp L X) (hr : r < B) (hk : ButR r w.heap.size w w') : Making tS B w' v i G Cp L X := by
  obtain ⟨h1, h2, h3⟩ := h
  refine ⟨?_, fun s hs => ?_, h3⟩
  · obtain ⟨k1, (k2 | ⟨g, cap, cur, k3, k4, k5, k6⟩)⟩ := h1
    · exact ⟨k1, .inl k2⟩
    · exact ⟨k1, .inr ⟨g, cap, cur, k3, k4, (hk.block g (Array.getElem?_eq_some_iff.1 k5).1 (by omega)).trans k5, k6⟩⟩
  · obtain ⟨k1, k2, k3, k4⟩ := h2 s hs
    exact ⟨k1, Nat.lt_of_lt_of_le k2 hk.size, k3, k4.of_block (hk.block _ k2 (by omega))⟩
theorem rd_butR {w w' : World} {r g m B : Nat} {X : Nat → Int} (h : Rd w (some ⟨g, 0, none⟩) m X) (hg : g ≠ r) (hB : g < B) (hk : ButR r B w w') : Rd w' (some ⟨g, 0, none⟩) m X := by
  intro k hkm
  obtain ⟨b, o, e, hc⟩ := h k hkm
  refine ⟨b, o, e, ?_⟩
  simp only [Option.some.injEq, Addr.mk.injEq, and_true] at e
  obtain ⟨rfl, rfl⟩ := e
  rw [World.cell?_of_block (w := w) (a := ⟨g, 0 + k, none⟩) (hk.block g hB hg)]
  exact hc
theorem making_same {tS B i : Nat} {w : World} {v : Value} {G Cp L : Nat → Nat} {X X' : Nat → Nat → Int} (h : Making tS B w v i G Cp L X) (e : ∀ s, s < i → X s = X' s) : Making tS B w v i G Cp L X' :=
  ⟨h.1, fun s hs => by rw [← e s hs]; exact h.2.1 s hs, h.2.2⟩

/-- What they hand back: a table of one to five rows, of five numbers at most. -/
def DrewTabTop (w : World) (e : Ending) (w' : World) : Prop :=
  ∃ ga N gc A L C Z, e = .returned (.slice ga N gc) ∧ (1 ≤ N ∧ N ≤ 5) ∧ (∀ s, s < N → L s ≤ 5) ∧ Tab w' ga N A L C Z ∧ Below w.heap.size w w'
end

section
open Go.RowKit
/-- What it hands back: a table of one to five rows, of five numbers at most, and a row of as many prices. -/
def DrewBoth (w : World) (e : Ending) (w' : World) : Prop :=
  ∃ ga N gc A L C Z b d W, e = .returned (.tuple #[.slice ga N gc, .slice b N d]) ∧ (1 ≤ N ∧ N ≤ 5 ∧ N ≤ d) ∧ (∀ s, s < N → L s ≤ 5) ∧ Tab w' ga N A L C Z ∧ Rd w' b N W ∧ Below w.heap.size w w'

theorem tab_but {r lo : Nat} {w w' : World} {a : Option Addr} {n : Nat} {A : Nat → Option Addr} {L C : Nat → Nat} {X : Nat → Nat → Int} (h : Tab w a n A L C X) (hA : Apart lo n a A) (hr : r < lo) (hk : ButR r w.heap.size w w') : Tab w' a n A L C X := by
  intro s hs
  obtain ⟨b, o, he, hc, hd⟩ := h s hs
  have h1 := hA.1 b o he
  have hl : b < w.heap.size := World.block_lt_of_cell? _ _ hc
  refine ⟨b, o, he, (World.cell?_of_block (w := w) (a := ⟨b, o + s, none⟩) (hk.block b hl (by omega))).trans hc, fun k hk' => ?_⟩
  obtain ⟨b2, o2, he2, hc2⟩ := hd k hk'
  have h2 := hA.2 s hs b2 o2 he2
  have hl2 : b2 < w.heap.size := World.block_lt_of_cell? _ _ hc2
  exact ⟨b2, o2, he2, (World.cell?_of_block (w := w) (a := ⟨b2, o2 + k, none⟩) (hk.block b2 hl2 (by omega))).trans hc2⟩
end
end Go.Proofs.YtabdbgnkiebcdaaGreatDoor

namespace Go.Proofs.YtabdbgnkiebcdaaGreatDoor
set_option linter.unusedVariables false

section
open Go.RowKit
set_option maxRecDepth 100000 in
set_option maxHeartbeats 6400000 in
theorem l91Table_any (r n c p : Nat) (a : Option Addr) (B : Nat → Nat) (w : World) (hR : RdrAt w r a n c p) (hb : RdB w a n B) (hab : 0 < n → ∀ b o, a = some ⟨b, o, none⟩ → b < w.heap.size ∧ b ≠ r) (hn : n ≤ 2000) (hp : p ≤ 1000) :
    Calls Tryz.prog 57 #[.pointer (some ⟨r, 0, none⟩)] w (DrewTab r a n c p w) := by
  obtain ⟨i0, hi, hz0, hz1, hz2⟩ := info_parts Tryz.infoInt
  obtain ⟨i1, hj, hy0, hy1, hy2⟩ := info_parts Tryz.infoInts
  have hrl := hR.lt
  have HR0 := Lib.hid hR
  have HB := Lib.hid hb
  have HAB := Lib.hid hab
  clear hR hb hab
  go_enter Tryz.func57, Tryz.ntmps57
  go_wp2_with fail
  refine (pick_any r n c p 4 a B _ HR0.out HB.out (fun h0 b o e => (HAB.out h0 b o e).2) hn (by omega) (by omega) (by omega)).mono ?_
  rintro e w1 ⟨x, rfl, hx, hR1, hK1⟩
  have HR1 := Lib.hid (hR1.alloc (.cells #[] 3))
  have hs1 : w.heap.size ≤ w1.heap.size := Nat.le_of_eq hK1.size.symm
  have HU1 := Lib.hid ((ButR.keeps (B := w.heap.size) hK1).alloc hs1 (.cells #[] 3))
  have hrl1 : r < w1.heap.size := by omega
  clear hR1 hK1
  obtain ⟨N, hN⟩ : ∃ N, N = 2 + x := ⟨_, rfl⟩
  have hN2 : 2 ≤ N := by omega
  have hN5 : N ≤ 5 := by omega
  have hNx : (2 : Int) + (x : Int) = (N : Int) := by omega
  clear hN
  go_wp2
  clear hNx
  have R0 := Lib.hid (show (w1.alloc (.cells #[] 3)).ownsRow w1.heap.size 3 1 (.slice (some ⟨w1.heap.size, 0, none⟩) 0 0) 0 (cellsL 0 (fun _ => 0)) from World.ownsRow_made w1 #[] 0 (Nat.le_refl _) (Nat.zero_le _) (by simp))
  go_loopw [4, 5] (fun row s wi => ∃ k : Nat, k ≤ N ∧ s = .int .i64 k ∧ ∃ rv X p', rv = row ∧ wi.ownsRow w1.heap.size 3 1 rv k (cellsL k X) ∧ (∀ j, j < k → 1 ≤ X j ∧ X j ≤ 12) ∧ RdrAt wi r a n c p' ∧ p' ≤ p + 1 + k ∧ w1.heap.size ≤ wi.heap.size ∧ ButR r w.heap.size w wi) (fun _ s _ => N - (intOf s).toNat)
  case atStart => exact ⟨0, Nat.zero_le _, rfl, _, fun _ => 0, p + 1, rfl, R0.out, fun j hj => absurd hj (Nat.not_lt_zero _), HR1.out, Nat.le_refl _, by simp, HU1.out⟩
  case round =>
    obtain ⟨k, hk, rfl, rv, X, p', rfl, hown, hX, hR, hp', hsz, hBu⟩ := hrel
    clear R0 HU1 HR1
    have HX := Lib.hid hX
    by_cases hlt : k < N
    · have HO := Lib.hid hown
      have HR := Lib.hid hR
      have HU := Lib.hid hBu
      clear hown hR hBu hX
      go_wp2_with (first
        | (go_at_call 36; refine (pick_any r n c p' 6 a B _ (HR.out.alloc _) (HB.out.but HAB.out (HU.out.alloc (by omega) _)) (fun h0 b o e => (HAB.out h0 b o e).2) hn (by omega) (by omega) (by omega)).mono ?_; rintro e w5 ⟨y, rfl, hy, hR5, hK5⟩; obtain ⟨v, hv12, hv⟩ := six (w := w5) (g := wr.heap.size) (x := y) ((hK5.block _ (by omega)).trans (heap_alloc_last wr _)) hy; have HV := Lib.hid hv12; have H5 := Lib.hid hR5; have hs5 : wr.heap.size + 1 ≤ w5.heap.size := (by rw [hK5.size, World.size_alloc]; exact Nat.le_refl _); have O5 := Lib.hid (owns_but (HO.out.alloc _) hrl1 hK5); have U5 := Lib.hid ((HU.out.alloc (by omega) (.cells _ 3)).trans (ButR.keeps hK5)); clear hR5 hK5 hv12)
        | (at_builtin; refine wpList_append_lies _ (by rfl) (.tmp 21) (.tmp 27) 33 (by rfl) w1.heap.size 3 i0 (.int .i64 0) 1 8 Tryz.underlying33 hi hz0 hz1 hz2 (by rfl) (by decide) rv k (cellsL k X) (by rfl) (O5.out.alloc _) ⟨_, 0, none⟩ 1 1 [.int .i64 (v : Int)] (by rfl) (by rfl) (news_one (by simp)) (by simp [Value.oneCell']) (by omega) (by unfold maxLen; omega) (by omega) (by first | omega | (simp; omega)) _ rfl ?_; intro g2 cap2 w2 hown2 hgrow2 hat2 hlt2; have N2 := Lib.hid hown2; have G2 := Lib.hid hgrow2; clear hown2 hgrow2 hat2))
      go_roundw
      case rel =>
        refine ⟨k + 1, by omega, by go_num, _, _, p' + 1, rfl, by have := N2.out; rwa [cellsL_snoc] at this, fun j hj => ?_, (H5.out.alloc _).grown G2.out (fun e => by have := (O5.out.lt r e).1; omega), by omega, by have := G2.out.size; simp at this; omega, (U5.out.alloc (by omega) _).grown G2.out (by simp; omega) (fun k hk => by have := (O5.out.lt k hk).1; omega)⟩
        show 1 ≤ (if j < k then X j else (v : Int)) ∧ (if j < k then X j else (v : Int)) ≤ 12
        by_cases e : j < k
        · rw [if_pos e]; exact HX.out j e
        · rw [if_neg e]; have := HV.out; omega
      case measure => simp [intOf]; omega
    · obtain rfl : k = N := by omega
      obtain ⟨gp, cp, rfl⟩ := owns_form hown (by omega)
      have hcap := owns_cap hown
      have HP := Lib.hid (owns_rd hown)
      have HR := Lib.hid hR
      have HU := Lib.hid hBu
      have hgp1 := hcap.2.1
      have hgp2 := hcap.2.2
      have hgpr : gp ≠ r := by omega
      clear hown hR hBu hcap hX
      go_wp2_with fail
      refine (pick_any r n c p' 5 a B _ HR.out (HB.out.but HAB.out HU.out) (fun h0 b o e => (HAB.out h0 b o e).2) hn (by omega) (by omega) (by omega)).mono ?_
      rintro e w6 ⟨kd, rfl, hkd, hR6, hK6⟩
      have hs6 : wr.heap.size ≤ w6.heap.size := Nat.le_of_eq hK6.size.symm
      have HR6 := Lib.hid (hR6.alloc (.cells #[] 33))
      have HU6 := Lib.hid ((HU.out.trans (ButR.keeps hK6)).alloc (by omega) (.cells #[] 33))
      have hgp3 : gp < w6.heap.size := by omega
      have HP6 := Lib.hid ((rd_butR HP.out hgpr hgp2 (ButR.keeps hK6)).below (Nat.le_refl _) (below_alloc (Below.refl _ _) (.cells #[] 33)))
      have hrl6 : r < w6.heap.size := by omega
      obtain ⟨pm, hpm⟩ : ∃ pm, pm = p' + 1 := ⟨_, rfl⟩
      rw [← hpm] at HR6
      have hpm1 : pm ≤ p + 7 := by omega
      clear hR6 hK6 hpm
      go_wp2
      have M0 := Lib.hid (Making.start 33 w6.heap.size (w6.alloc (.cells #[] 33)) (.slice (some ⟨w6.heap.size, 0, none⟩) 0 0) (fun _ => 0) (fun _ => 0) (fun _ => k) (fun _ _ => 0) (World.ownsRow_made w6 #[] 0 (Nat.le_refl _) (Nat.zero_le _) (by simp)))
      go_loopw [7, 8] (fun out s wr => ∃ i : Nat, i ≤ k ∧ s = .int .i64 i ∧ ∃ v G Cp XX pi, v = out ∧ Making 33 w6.heap.size wr v i G Cp (fun _ => k) XX ∧ RdrAt wr r a n c pi ∧ pi ≤ pm + 10 * i ∧ Rd wr (some ⟨gp, 0, none⟩) k X ∧ w6.heap.size ≤ wr.heap.size ∧ ButR r w.heap.size w wr) (fun _ s _ => k - (intOf s).toNat)
      case atStart => exact ⟨0, Nat.zero_le _, rfl, _, _, _, _, pm, rfl, M0.out, HR6.out, by omega, HP6.out, by simp, HU6.out⟩
      case round =>
        obtain ⟨i, hik, rfl, ov, G, Cp, XX, pi, rfl, hM, hRi, hpi, hPi, hsi, hUi⟩ := hrel
        clear M0 HR6 HU6 HP6
        obtain ⟨M, hM'⟩ : ∃ M : Nat, M = k := ⟨_, rfl⟩
        rw [← hM'] at hM hik hPi ⊢
        have HM5 := Lib.hid (show M ≤ 5 by omega)
        have hM2 : 2 ≤ M := by omega
        have hM5 : M ≤ 5 := by omega
        have HXM := Lib.hid (show ∀ j, j < M → 1 ≤ X j ∧ X j ≤ 12 by rw [hM']; exact HX.out)
        have HM := Lib.hid hM
        have HRi := Lib.hid hRi
        have HPi := Lib.hid hPi
        have HUo := Lib.hid hUi
        clear hM hRi hPi hUi hM' HX hk hlt
        by_cases hil : i < M
        · go_wp2
          obtain ⟨wo, rfl⟩ : ∃ wo : World, wo = wr := ⟨_, rfl⟩
          have hrwo : r < wo.heap.size := by omega
          have hwo : w.heap.size ≤ wo.heap.size := by omega
          have hgpo : gp < wo.heap.size := by omega
          have R0 := Lib.hid (show (wo.alloc (.cells #[] 3)).ownsRow wo.heap.size 3 1 (.slice (some ⟨wo.heap.size, 0, none⟩) 0 0) 0 (cellsL 0 (fun _ => 0)) from World.ownsRow_made wo #[] 0 (Nat.le_refl _) (Nat.zero_le _) (by simp))
          have HRr := Lib.hid (HRi.out.alloc (.cells #[] 3))
          have U0 := Lib.hid ((ButR.refl r wo.heap.size wo).alloc (Nat.le_refl _) (.cells #[] 3))
          go_loopw [9, 10] (fun row s wi => ∃ k : Nat, k ≤ M ∧ s = .int .i64 k ∧ ∃ rv Y pk, rv = row ∧ wi.ownsRow wo.heap.size 3 1 rv k (cellsL k Y) ∧ RdrAt wi r a n c pk ∧ pk ≤ pi + 2 * k ∧ wo.heap.size ≤ wi.heap.size ∧ ButR r wo.heap.size wo wi) (fun _ s _ => M - (intOf s).toNat)
          case atStart => exact ⟨0, Nat.zero_le _, rfl, _, fun _ => 0, pi, rfl, R0.out, HRr.out, Nat.le_refl _, by simp, U0.out⟩
          case round =>
            obtain ⟨k, hkM, rfl, rv, Y, pk, rfl, hown, hRk, hpk, hsk, hUk⟩ := hrel
            clear R0 HRr U0
            by_cases hkl : k < M
            · have hP := rd_butR HPi.out hgpr hgpo hUk
              obtain ⟨bi, oi, ei, hci⟩ := hP i hil
              simp only [Option.some.injEq, Addr.mk.injEq, and_true] at ei
              obtain ⟨rfl, rfl⟩ := ei
              obtain ⟨bk, ok, ek, hck⟩ := hP k hkl
              simp only [Option.some.injEq, Addr.mk.injEq, and_true] at ek
              obtain ⟨rfl, rfl⟩ := ek
              rw [Nat.zero_add] at hci hck
              have hxi := HXM.out i hil
              have hxk := HXM.out k hkl
              have hq1 : 1 ≤ 12 * X i / X k := Int.le_ediv_of_mul_le (by omega) (by omega)
              have hq2 : 12 * X i / X k ≤ 12 * X i := Int.ediv_le_self _ (by omega)
              obtain ⟨V, hV⟩ := Int.eq_ofNat_of_zero_le (show 0 ≤ 12 * X i / X k by omega)
              have hV1 : 1 ≤ V := by omega
              have hV2 : V ≤ 144 := by omega
              have hm1 : IntKind.i64.wrap (12 * X i) = 12 * X i := IntWalk.i64_in _ (by omega)
              have hm2 : (12 * X i).tdiv (X k) = (V : Int) := by rw [Int.tdiv_eq_ediv_of_nonneg (by omega)]; exact hV
              have hm3 : IntKind.i64.wrap (V : Int) = (V : Int) := IntWalk.i64_in _ (by omega)
              have hz : (X k == 0) = false := by simp; omega
              have hz2' : ¬ X k = 0 := by omega
              have HO := Lib.hid hown
              have HRk := Lib.hid hRk
              have HUk := Lib.hid hUk
              clear hown hRk hUk hP hxi hxk hq1 hq2 hV
              go_wp2
              go_quiet (fail)
              clear hm1 hm2 hm3 hz hz2' hci hck
              obtain ⟨wz0, hwz0⟩ : ∃ wz0, wz0 = wr.drewN nq := ⟨_, rfl⟩
              have ZR0 : Hid (RdrAt wz0 r a n c pk) := Lib.hid (by rw [hwz0]; exact HRk.out.of_block rfl)
              have ZU0 : Hid (ButR r wo.heap.size wo wz0) := Lib.hid (by rw [hwz0]; exact HUk.out.trans ⟨rfl, rfl, rfl, Nat.le_refl _, fun _ _ _ => rfl⟩)
              have ZO0 : Hid (wz0.ownsRow wo.heap.size 3 1 rv k (cellsL k Y)) := Lib.hid (by rw [hwz0]; exact HO.out)
              have zs0 : wo.heap.size ≤ wz0.heap.size := by rw [hwz0]; exact hsk
              rw [← hwz0]
              clear hwz0 HO HRk HUk
              by_cases hdi : i = k
              · have hd : ((i : Int) == (k : Int)) = true := by simp; omega
                clear hdi
                have ZR := ZR0
                have ZU := ZU0
                have ZO := ZO0
                have zs := zs0
                obtain ⟨pz, hpz⟩ : ∃ pz, pz = pk := ⟨_, rfl⟩
                rw [← hpz] at ZR
                have hpzle : pz ≤ pk + 2 := by omega
                clear hpz
                go_wp2_with (at_builtin; refine wpList_append_lies _ (by rfl) (.tmp 92) (.tmp 94) 33 (by rfl) wo.heap.size 3 i0 (.int .i64 0) 1 8 Tryz.underlying33 hi hz0 hz1 hz2 (by rfl) (by decide) rv k (cellsL k Y) (by rfl) (ZO.out.alloc _) ⟨_, 0, none⟩ 1 1 [.int .i64 (12)] (by rfl) (by rfl) (news_one (by simp)) (by simp [Value.oneCell']) (by omega) (by unfold maxLen; omega) (by omega) (by first | omega | (simp; omega)) _ rfl ?_; intro g2 cap2 w2 hown2 hgrow2 hat2 hlt2; have N2 := Lib.hid hown2; have G2 := Lib.hid hgrow2; clear hown2 hgrow2 hat2)
                go_roundw
                case rel =>
                  exact ⟨k + 1, by omega, by go_num, _, _, pz, rfl, by have := N2.out; rwa [cellsL_snoc] at this, (ZR.out.alloc _).grown G2.out (fun e => by have := (ZO.out.lt r e).1; omega), by omega, by have := G2.out.size; simp at this; omega, (ZU.out.alloc zs _).grown G2.out (by simp; omega) (fun k hk => (ZO.out.lt k hk).1)⟩
                case measure => simp [intOf]; omega
              · have hd : ((i : Int) == (k : Int)) = false := by simp; omega
                clear hdi
                have hkc : kd = 0 ∨ kd = 1 ∨ kd = 2 ∨ kd = 3 ∨ kd = 4 := by omega
                rcases hkc with hke | hke | hke | hke | hke
                · have e0 : ((kd : Int) == 0) = true := by simp; omega
                  clear hke
                  go_wp2_with fail
                  refine (pick_any r n c pk 40 a B _ ZR0.out (HB.out.but HAB.out (HUo.out.trans (ZU0.out.mono hwo))) (fun h0 b o e => (HAB.out h0 b o e).2) hn (by omega) (by omega) (by omega)).mono ?_
                  rintro e wz1 ⟨y, rfl, hy, hR5, hK5⟩
                  have ZR1 := Lib.hid hR5
                  have ZU1 := Lib.hid (ZU0.out.trans (ButR.keeps hK5))
                  have ZO1 := Lib.hid (owns_but ZO0.out hrwo hK5)
                  have zs1 : wo.heap.size ≤ wz1.heap.size := Nat.le_trans zs0 (Nat.le_of_eq hK5.size.symm)
                  clear hR5 hK5
                  have ZR := ZR1
                  have ZU := ZU1
                  have ZO := ZO1
                  have zs := zs1
                  obtain ⟨pz, hpz⟩ : ∃ pz, pz = pk + 1 := ⟨_, rfl⟩
                  rw [← hpz] at ZR
                  have hpzle : pz ≤ pk + 2 := by omega
                  clear hpz
                  go_wp2_with (at_builtin; refine wpList_append_lies _ (by rfl) (.tmp 92) (.tmp 94) 33 (by rfl) wo.heap.size 3 i0 (.int .i64 0) 1 8 Tryz.underlying33 hi hz0 hz1 hz2 (by rfl) (by decide) rv k (cellsL k Y) (by rfl) (ZO.out.alloc _) ⟨_, 0, none⟩ 1 1 [.int .i64 (1 + (y : Int))] (by rfl) (by rfl) (news_one (by simp)) (by simp [Value.oneCell']) (by omega) (by unfold maxLen; omega) (by omega) (by first | omega | (simp; omega)) _ rfl ?_; intro g2 cap2 w2 hown2 hgrow2 hat2 hlt2; have N2 := Lib.hid hown2; have G2 := Lib.hid hgrow2; clear hown2 hgrow2 hat2)
                  go_roundw
                  case rel =>
                    exact ⟨k + 1, by omega, by go_num, _, _, pz, rfl, by have := N2.out; rwa [cellsL_snoc] at this, (ZR.out.alloc _).grown G2.out (fun e => by have := (ZO.out.lt r e).1; omega), by omega, by have := G2.out.size; simp at this; omega, (ZU.out.alloc zs _).grown G2.out (by simp; omega) (fun k hk => (ZO.out.lt k hk).1)⟩
                  case measure => simp [intOf]; omega
                · have e0 : ((kd : Int) == 0) = false := by simp; omega
                  have e1 : ((kd : Int) == 1) = true := by simp; omega
                  clear hke
                  go_wp2_with fail
                  refine (pick_any r n c pk 2 a B _ ZR0.out (HB.out.but HAB.out (HUo.out.trans (ZU0.out.mono hwo))) (fun h0 b o e => (HAB.out h0 b o e).2) hn (by omega) (by omega) (by omega)).mono ?_
                  rintro e wz1 ⟨y, rfl, hy, hR5, hK5⟩
                  have ZR1 := Lib.hid hR5
                  have ZU1 := Lib.hid (ZU0.out.trans (ButR.keeps hK5))
                  have ZO1 := Lib.hid (owns_but ZO0.out hrwo hK5)
                  have zs1 : wo.heap.size ≤ wz1.heap.size := Nat.le_trans zs0 (Nat.le_of_eq hK5.size.symm)
                  clear hR5 hK5
                  have ZR := ZR1
                  have ZU := ZU1
                  have ZO := ZO1
                  have zs := zs1
                  obtain ⟨pz, hpz⟩ : ∃ pz, pz = pk + 1 := ⟨_, rfl⟩
                  rw [← hpz] at ZR
                  have hpzle : pz ≤ pk + 2 := by omega
                  clear hpz
                  go_wp2_with (at_builtin; refine wpList_append_lies _ (by rfl) (.tmp 92) (.tmp 94) 33 (by rfl) wo.heap.size 3 i0 (.int .i64 0) 1 8 Tryz.underlying33 hi hz0 hz1 hz2 (by rfl) (by decide) rv k (cellsL k Y) (by rfl) (ZO.out.alloc _) ⟨_, 0, none⟩ 1 1 [.int .i64 (max 1 ((V : Int) - (y : Int)))] (by rfl) (by rfl) (news_one (by simp)) (by simp [Value.oneCell']) (by omega) (by unfold maxLen; omega) (by omega) (by first | omega | (simp; omega)) _ rfl ?_; intro g2 cap2 w2 hown2 hgrow2 hat2 hlt2; have N2 := Lib.hid hown2; have G2 := Lib.hid hgrow2; clear hown2 hgrow2 hat2)
                  go_roundw
                  case rel =>
                    exact ⟨k + 1, by omega, by go_num, _, _, pz, rfl, by have := N2.out; rwa [cellsL_snoc] at this, (ZR.out.alloc _).grown G2.out (fun e => by have := (ZO.out.lt r e).1; omega), by omega, by have := G2.out.size; simp at this; omega, (ZU.out.alloc zs _).grown G2.out (by simp; omega) (fun k hk => (ZO.out.lt k hk).1)⟩
                  case measure => simp [intOf]; omega
                · have e0 : ((kd : Int) == 0) = false := by simp; omega
                  have e1 : ((kd : Int) == 1) = false := by simp; omega
                  have e2 : ((kd : Int) == 2) = true := by simp; omega
                  clear hke
                  go_wp2_with fail
                  refine (pick_any r n c pk V a B _ ZR0.out (HB.out.but HAB.out (HUo.out.trans (ZU0.out.mono hwo))) (fun h0 b o e => (HAB.out h0 b o e).2) hn (by omega) (by omega) (by omega)).mono ?_
                  rintro e wz1 ⟨y, rfl, hy, hR5, hK5⟩
                  have ZR1 := Lib.hid hR5
                  have ZU1 := Lib.hid (ZU0.out.trans (ButR.keeps hK5))
                  have ZO1 := Lib.hid (owns_but ZO0.out hrwo hK5)
                  have zs1 : wo.heap.size ≤ wz1.heap.size := Nat.le_trans zs0 (Nat.le_of_eq hK5.size.symm)
                  clear hR5 hK5
                  have ZR := ZR1
                  have ZU := ZU1
                  have ZO := ZO1
                  have zs := zs1
                  obtain ⟨pz, hpz⟩ : ∃ pz, pz = pk + 1 := ⟨_, rfl⟩
                  rw [← hpz] at ZR
                  have hpzle : pz ≤ pk + 2 := by omega
                  clear hpz
                  go_wp2_with (at_builtin; refine wpList_append_lies _ (by rfl) (.tmp 92) (.tmp 94) 33 (by rfl) wo.heap.size 3 i0 (.int .i64 0) 1 8 Tryz.underlying33 hi hz0 hz1 hz2 (by rfl) (by decide) rv k (cellsL k Y) (by rfl) (ZO.out.alloc _) ⟨_, 0, none⟩ 1 1 [.int .i64 (max 1 ((V : Int) - (y : Int)))] (by rfl) (by rfl) (news_one (by simp)) (by simp [Value.oneCell']) (by omega) (by unfold maxLen; omega) (by omega) (by first | omega | (simp; omega)) _ rfl ?_; intro g2 cap2 w2 hown2 hgrow2 hat2 hlt2; have N2 := Lib.hid hown2; have G2 := Lib.hid hgrow2; clear hown2 hgrow2 hat2)
                  go_roundw
                  case rel =>
                    exact ⟨k + 1, by omega, by go_num, _, _, pz, rfl, by have := N2.out; rwa [cellsL_snoc] at this, (ZR.out.alloc _).grown G2.out (fun e => by have := (ZO.out.lt r e).1; omega), by omega, by have := G2.out.size; simp at this; omega, (ZU.out.alloc zs _).grown G2.out (by simp; omega) (fun k hk => (ZO.out.lt k hk).1)⟩
                  case measure => simp [intOf]; omega
                · have e0 : ((kd : Int) == 0) = false := by simp; omega
                  have e1 : ((kd : Int) == 1) = false := by simp; omega
                  have e2 : ((kd : Int) == 2) = false := by simp; omega
                  have e3 : ((kd : Int) == 3) = true := by simp; omega
                  clear hke
                  go_wp2_with fail
                  refine (pick_any r n c pk 4 a B _ ZR0.out (HB.out.but HAB.out (HUo.out.trans (ZU0.out.mono hwo))) (fun h0 b o e => (HAB.out h0 b o e).2) hn (by omega) (by omega) (by omega)).mono ?_
                  rintro e wz1 ⟨y, rfl, hy, hR5, hK5⟩
                  have ZR1 := Lib.hid hR5
                  have ZU1 := Lib.hid (ZU0.out.trans (ButR.keeps hK5))
                  have ZO1 := Lib.hid (owns_but ZO0.out hrwo hK5)
                  have zs1 : wo.heap.size ≤ wz1.heap.size := Nat.le_trans zs0 (Nat.le_of_eq hK5.size.symm)
                  clear hR5 hK5
                  by_cases hy0 : y = 0
                  · have hd2 : ((y : Int) == 0) = true := by simp; omega
                    clear hy0
                    go_wp2_with fail
                    refine (pick_any r n c (pk + 1) 2 a B _ ZR1.out (HB.out.but HAB.out (HUo.out.trans (ZU1.out.mono hwo))) (fun h0 b o e => (HAB.out h0 b o e).2) hn (by omega) (by omega) (by omega)).mono ?_
                    rintro e wz2 ⟨z, rfl, hz, hR5, hK5⟩
                    have ZR2 := Lib.hid hR5
                    have ZU2 := Lib.hid (ZU1.out.trans (ButR.keeps hK5))
                    have ZO2 := Lib.hid (owns_but ZO1.out hrwo hK5)
                    have zs2 : wo.heap.size ≤ wz2.heap.size := Nat.le_trans zs1 (Nat.le_of_eq hK5.size.symm)
                    clear hR5 hK5
                    have ZR := ZR2
                    have ZU := ZU2
                    have ZO := ZO2
                    have zs := zs2
                    obtain ⟨pz, hpz⟩ : ∃ pz, pz = pk + 1 + 1 := ⟨_, rfl⟩
                    rw [← hpz] at ZR
                    have hpzle : pz ≤ pk + 2 := by omega
                    clear hpz
                    go_wp2_with (at_builtin; refine wpList_append_lies _ (by rfl) (.tmp 92) (.tmp 94) 33 (by rfl) wo.heap.size 3 i0 (.int .i64 0) 1 8 Tryz.underlying33 hi hz0 hz1 hz2 (by rfl) (by decide) rv k (cellsL k Y) (by rfl) (ZO.out.alloc _) ⟨_, 0, none⟩ 1 1 [.int .i64 ((V : Int) + (z : Int))] (by rfl) (by rfl) (news_one (by simp)) (by simp [Value.oneCell']) (by omega) (by unfold maxLen; omega) (by omega) (by first | omega | (simp; omega)) _ rfl ?_; intro g2 cap2 w2 hown2 hgrow2 hat2 hlt2; have N2 := Lib.hid hown2; have G2 := Lib.hid hgrow2; clear hown2 hgrow2 hat2)
                    go_roundw
                    case rel =>
                      exact ⟨k + 1, by omega, by go_num, _, _, pz, rfl, by have := N2.out; rwa [cellsL_snoc] at this, (ZR.out.alloc _).grown G2.out (fun e => by have := (ZO.out.lt r e).1; omega), by omega, by have := G2.out.size; simp at this; omega, (ZU.out.alloc zs _).grown G2.out (by simp; omega) (fun k hk => (ZO.out.lt k hk).1)⟩
                    case measure => simp [intOf]; omega
                  · have hd2 : ((y : Int) == 0) = false := by simp; omega
                    clear hy0
                    have ZR := ZR1
                    have ZU := ZU1
                    have ZO := ZO1
                    have zs := zs1
                    obtain ⟨pz, hpz⟩ : ∃ pz, pz = pk + 1 := ⟨_, rfl⟩
                    rw [← hpz] at ZR
                    have hpzle : pz ≤ pk + 2 := by omega
                    clear hpz
                    go_wp2_with (at_builtin; refine wpList_append_lies _ (by rfl) (.tmp 92) (.tmp 94) 33 (by rfl) wo.heap.size 3 i0 (.int .i64 0) 1 8 Tryz.underlying33 hi hz0 hz1 hz2 (by rfl) (by decide) rv k (cellsL k Y) (by rfl) (ZO.out.alloc _) ⟨_, 0, none⟩ 1 1 [.int .i64 ((V : Int))] (by rfl) (by rfl) (news_one (by simp)) (by simp [Value.oneCell']) (by omega) (by unfold maxLen; omega) (by omega) (by first | omega | (simp; omega)) _ rfl ?_; intro g2 cap2 w2 hown2 hgrow2 hat2 hlt2; have N2 := Lib.hid hown2; have G2 := Lib.hid hgrow2; clear hown2 hgrow2 hat2)
                    go_roundw
                    case rel =>
                      exact ⟨k + 1, by omega, by go_num, _, _, pz, rfl, by have := N2.out; rwa [cellsL_snoc] at this, (ZR.out.alloc _).grown G2.out (fun e => by have := (ZO.out.lt r e).1; omega), by omega, by have := G2.out.size; simp at this; omega, (ZU.out.alloc zs _).grown G2.out (by simp; omega) (fun k hk => (ZO.out.lt k hk).1)⟩
                    case measure => simp [intOf]; omega
                · have e0 : ((kd : Int) == 0) = false := by simp; omega
                  have e1 : ((kd : Int) == 1) = false := by simp; omega
                  have e2 : ((kd : Int) == 2) = false := by simp; omega
                  have e3 : ((kd : Int) == 3) = false := by simp; omega
                  clear hke
                  have ZR := ZR0
                  have ZU := ZU0
                  have ZO := ZO0
                  have zs := zs0
                  obtain ⟨pz, hpz⟩ : ∃ pz, pz = pk := ⟨_, rfl⟩
                  rw [← hpz] at ZR
                  have hpzle : pz ≤ pk + 2 := by omega
                  clear hpz
                  go_wp2_with (at_builtin; refine wpList_append_lies _ (by rfl) (.tmp 92) (.tmp 94) 33 (by rfl) wo.heap.size 3 i0 (.int .i64 0) 1 8 Tryz.underlying33 hi hz0 hz1 hz2 (by rfl) (by decide) rv k (cellsL k Y) (by rfl) (ZO.out.alloc _) ⟨_, 0, none⟩ 1 1 [.int .i64 ((V : Int))] (by rfl) (by rfl) (news_one (by simp)) (by simp [Value.oneCell']) (by omega) (by unfold maxLen; omega) (by omega) (by first | omega | (simp; omega)) _ rfl ?_; intro g2 cap2 w2 hown2 hgrow2 hat2 hlt2; have N2 := Lib.hid hown2; have G2 := Lib.hid hgrow2; clear hown2 hgrow2 hat2)
                  go_roundw
                  case rel =>
                    exact ⟨k + 1, by omega, by go_num, _, _, pz, rfl, by have := N2.out; rwa [cellsL_snoc] at this, (ZR.out.alloc _).grown G2.out (fun e => by have := (ZO.out.lt r e).1; omega), by omega, by have := G2.out.size; simp at this; omega, (ZU.out.alloc zs _).grown G2.out (by simp; omega) (fun k hk => (ZO.out.lt k hk).1)⟩
                  case measure => simp [intOf]; omega
            · obtain rfl : k = M := by omega
              obtain ⟨gr, cr, rfl⟩ := owns_form hown (by omega)
              have hrow := OwnR.of_owns hown
              have hltr := hown.lt gr rfl
              have HR2 := Lib.hid hrow
              have HM2 := Lib.hid (making_butR HM.out (by omega) hUk)
              have hvlt := fun x hx => (HM.out.1.lt x hx)
              have HV := Lib.hid hvlt
              have HRk := Lib.hid hRk
              have HUk := Lib.hid hUk
              have HU2 := Lib.hid (HUo.out.trans (hUk.mono hwo))
              have HP2 := Lib.hid (rd_butR HPi.out hgpr hgpo hUk)
              clear hown hrow hRk hUk hvlt
              go_wp2_with (at_builtin; refine wpList_append_lies _ (by rfl) (.tmp 96) (.tmp 98) 23 (by rfl) w6.heap.size 33 i1 (.slice none 0 0) 1 24 Tryz.underlying23 hj hy0 hy1 hy2 (by rfl) (by decide) ov i ((List.range i).map fun r => .slice (some ⟨G r, 0, none⟩) k (Cp r)) (by rfl) (HM2.out.1.alloc _) ⟨_, 0, none⟩ 1 1 [.slice (some ⟨gr, 0, none⟩) k cr] (by rfl) (by rfl) (news_one (by simp)) (by simp [Value.oneCell']) (by omega) (by unfold maxLen; omega) (by omega) (by first | omega | (simp; omega)) _ rfl ?_; intro g2 cap2 w2 hown2 hgrow2 hat2 hlt2; have N2 := Lib.hid hown2; have G2' := Lib.hid hgrow2; have A2 := Lib.hid hat2; clear hown2 hgrow2 hat2)
              go_roundw
              case rel =>
                refine ⟨i + 1, by omega, by go_num, _, (fun s => if s < i then G s else gr), (fun s => if s < i then Cp s else cr), (fun s => if s < i then XX s else Y), pk, rfl, ?_, (HRk.out.alloc _).grown G2'.out (fun e => by have := (HV.out r e).1; omega), by omega, ?_, by have := G2'.out.size; simp at this; omega, (HU2.out.alloc (by omega) _).grown G2'.out (by simp; omega) (fun x hx => by have := (HV.out x hx).1; omega)⟩
                · refine Making.next (w := wr.alloc _) ((making_same HM2.out (fun s hs => by show XX s = (if s < i then XX s else Y); rw [if_pos hs])).below (below_alloc (Below.refl _ _) _)) (by show OwnR _ gr _ k (if i < i then XX i else Y); rw [if_neg (Nat.lt_irrefl _)]; exact HR2.out.of_block (Below.heap_alloc _ _ _ hltr.2)) (by omega) (by simp; omega) (fun h => by have := HV.out gr h; omega) (fun s hs e => by have := (HM.out.2.1 s hs).2.1; omega) N2.out G2'.out A2.out (Nat.le_refl _)
                · intro j hj
                  obtain ⟨b', o', he, hc⟩ := HP2.out j hj
                  refine ⟨b', o', he, ?_⟩
                  simp only [Option.some.injEq, Addr.mk.injEq, and_true] at he
                  obtain ⟨rfl, rfl⟩ := he
                  have h7 : (wr.alloc (.cells #[.slice (some ⟨gr, 0, none⟩) k cr] 33)).cell? ⟨gp, 0 + j, none⟩ = some (.int .i64 (X j)) := by
                    rw [World.cell?_of_block (w := wr) (a := ⟨gp, 0 + j, none⟩) (Below.heap_alloc _ _ _ (by show gp < wr.heap.size; omega))]; exact hc
                  exact G2'.out.cell h7 (fun e => by have := (HV.out gp e.symm).1; omega)
              case measure => simp [intOf]; omega
        · obtain rfl : i = M := by omega
          obtain ⟨go, co, rfl⟩ := owns_form HM.out.1 (by omega)
          have hcapo := (owns_cap HM.out.1).1
          go_wp2_with fail
          refine (pick_any r n c pi 50 a B _ HRi.out (HB.out.but HAB.out HUo.out) (fun h0 b o e => (HAB.out h0 b o e).2) hn (by omega) (by omega) (by omega)).mono ?_
          rintro e w7 ⟨u, rfl, hu, hR7, hK7⟩
          have M7 := Lib.hid (making_but HM.out (by omega) hK7)
          have HR7 := Lib.hid hR7
          have U7 := Lib.hid (HUo.out.trans (ButR.keeps hK7))
          have T7 := Lib.hid M7.out.ownT.tab
          have hgo := M7.out.1.lt go rfl
          have hgo1 := hgo.1
          have AG7 := Lib.hid (show w.heap.size ≤ go by omega)
          have AP7 := Lib.hid (show ∀ s, s < i → w.heap.size ≤ G s from fun s hs => by have := (M7.out.2.1 s hs).1; omega)
          clear hR7 hK7 hgo
          by_cases hu0 : u = 0
          · subst hu0
            have hd : (((0 : Nat) : Int) == 0) = true := by decide
            have hct := M7.out.1.cells (g := go) rfl 0 (.slice (some ⟨G 0, 0, none⟩) i (Cp 0)) (by simp [show 0 < i by omega])
            rw [Go.WideShapes.add_plain, Nat.zero_add] at hct
            obtain ⟨hG1, hG2, hG3, hG4⟩ := M7.out.2.1 0 (by omega)
            have hne : go ≠ G 0 := fun e => hG3 (by rw [← e]; rfl)
            have hrG : r ≠ G 0 := by omega
            obtain ⟨hc1, hf1⟩ : w7.cell? ⟨G 0, 1, none⟩ = some (.int .i64 (XX 0 1)) ∧ w7.frozen? ⟨G 0, 1, none⟩ = false := by
              rcases hG4 with h0 | ⟨o, ha, hc⟩
              · have h0' : i = 0 := h0
                omega
              · simp only [Option.some.injEq, Addr.mk.injEq, true_and, and_true] at ha
                subst ha
                exact hc 1 (show 1 < i by omega)
            have HC1 := Lib.hid hc1
            clear hG3 hG4
            go_wp2
            go_ret
            refine ⟨some ⟨go, 0, none⟩, i, co, fun s => some ⟨G s, 0, none⟩, fun _ => i, Cp, (fun s k => if s = 0 ∧ k = 1 then 0 else XX s k), pi + 1, rfl, ⟨by omega, by omega⟩, ⟨fun s hs => by show i ≤ 5; omega, fun b o e => by cases e; exact AG7.out, fun s hs b o e => by cases e; exact AP7.out s hs⟩, ?_, HR7.out.of_block (Below.heap_setCell _ _ _ _ hrG), by omega, U7.out.setCell (p := ⟨G 0, 1, none⟩) (by show w.heap.size ≤ G 0; omega) _⟩
            intro s hs
            obtain ⟨b', o', e', hc', hr'⟩ := T7.out s hs
            cases e'
            refine ⟨go, 0, rfl, ?_, fun k hk => ?_⟩
            · rw [World.cell?_of_block (w := w7) (a := ⟨go, 0 + s, none⟩) (Below.heap_setCell _ _ _ _ hne)]; exact hc'
            · obtain ⟨b2, o2, e2, hc2⟩ := hr' k hk
              refine ⟨b2, o2, e2, ?_⟩
              cases e2
              rw [Nat.zero_add] at hc2 ⊢
              show _ = some (Value.int .i64 (if s = 0 ∧ k = 1 then 0 else XX s k))
              by_cases hs0 : s = 0 ∧ k = 1
              · obtain ⟨rfl, rfl⟩ := hs0
                rw [if_pos ⟨rfl, rfl⟩]
                exact World.cell?_setCell_same _ _ _ HC1.out
              · rw [if_neg hs0, World.cell?_setCell_other _ _ _ _ (fun e' => hs0 ?_)]
                · exact hc2
                · injection e' with e1 e2'
                  refine ⟨?_, e2'.symm⟩
                  rcases Nat.eq_zero_or_pos s with h' | h'
                  · exact h'
                  · exact absurd e1 (M7.out.2.2 0 s (by omega) hs (by omega))
          · have hd0 : ((u : Int) == 0) = false := by simp; omega
            by_cases hu1 : u = 1
            · subst hu1
              have hd1 : (((1 : Nat) : Int) == 1) = true := by decide
              go_wp2
              go_ret
              refine ⟨some ⟨go, 1, none⟩, i - 1, co - 1, fun s => some ⟨G (s + 1), 0, none⟩, fun _ => i, fun s => Cp (s + 1), fun s => XX (s + 1), pi + 1, rfl, ⟨by omega, by omega⟩, ⟨fun s hs => by show i ≤ 5; omega, fun b o e => by cases e; exact AG7.out, fun s hs b o e => by cases e; exact AP7.out (s + 1) (by omega)⟩, ?_, HR7.out, by omega, U7.out⟩
              intro s hs
              obtain ⟨b', o', e', hc', hr'⟩ := T7.out (s + 1) (by omega)
              cases e'
              exact ⟨go, 1, rfl, by rw [Nat.add_comm 1 s]; rw [Nat.zero_add] at hc'; exact hc', hr'⟩
            · have hd1 : ((u : Int) == 1) = false := by simp; omega
              go_wp2
              go_ret
              exact ⟨some ⟨go, 0, none⟩, i, co, fun s => some ⟨G s, 0, none⟩, fun _ => i, Cp, XX, pi + 1, rfl, ⟨by omega, by omega⟩, ⟨fun s hs => by show i ≤ 5; omega, fun b o e => by cases e; exact AG7.out, fun s hs b o e => by cases e; exact AP7.out s hs⟩, T7.out, HR7.out, by omega, U7.out⟩
end

section
open Go.RowKit
set_option maxHeartbeats 1600000 in
theorem l91One_any (n c : Nat) (a : Option Addr) (B : Nat → Nat) (w : World) (hn : n ≤ 1048576) (hc : n ≤ c) (hb : RdB w a n B) (hab : 0 < n → ∀ b o, a = some ⟨b, o, none⟩ → b < w.heap.size) :
    Calls Tryz.prog 23 #[.slice a n c] w (DrewTabTop w) := by
  have HB := Lib.hid hb
  have HAL := Lib.hid hab
  clear hb hab
  go_enter Tryz.func23, Tryz.ntmps23
  go_wp2_with fail
  refine (l6Open_any n c a _ hn hc).mono ?_
  rintro e w1 ⟨n', c', rfl, hn2, hnn, hR1, hs1, hb1⟩
  have HB1 := Lib.hid ((HB.out.below (Nat.le_refl _) hb1).sub hnn)
  have HR1 := Lib.hid hR1
  have Hb1 := Lib.hid hb1
  have hlt1 : w.heap.size < w1.heap.size := by omega
  have HAL1 := Lib.hid (show 0 < n' → ∀ b o, a = some ⟨b, o, none⟩ → b < w1.heap.size ∧ b ≠ w.heap.size from fun h0 b o e => by have := HAL.out (by omega) b o e; exact ⟨by omega, by omega⟩)
  clear hR1 hb1 hs1
  go_wp2_with fail
  refine (l91Table_any w.heap.size n' c' 0 a B _ HR1.out HB1.out HAL1.out hn2 (by omega)).mono ?_
  rintro e w2 ⟨ga, N, gc, A, L, C, Z, p2, rfl, hN, ⟨hL, -⟩, hT, hR2, hp2, hU2⟩
  have HN := Lib.hid hN
  have HL := Lib.hid hL
  have HT := Lib.hid hT
  have HU := Lib.hid (Hb1.out.trans (hU2.toBelow (Nat.le_of_lt hlt1)))
  clear hN hL hT hR2 hU2
  go_wp2
  go_ret
  exact ⟨ga, N, gc, A, L, C, Z, rfl, HN.out, HL.out, HT.out, HU.out⟩
end

end Go.Proofs.YtabdbgnkiebcdaaGreatDoor

namespace Go.Proofs.YtabdbgnkiebcdaaGreatDoor
set_option linter.unusedVariables false
set_option linter.unusedSimpArgs false
open Go.RowKit
attribute [local go_sem ↓] Go.wp_at_zero Go.wp_at_succ

/-- The text of some bytes. -/
def strU (l : List UInt8) : ByteArray := ⟨l.toArray⟩
theorem strU_app (a b : List UInt8) : strU a ++ strU b = strU (a ++ b) := by unfold strU; rw [ByteArray.mk_append_mk]
theorem strU_size (a : List UInt8) : (strU a).size = a.length := by show a.toArray.size = _; simp
theorem strU_list (a : List UInt8) : (strU a).data.toList = a := by simp [strU]
theorem strU_of (s : ByteArray) : strU s.data.toList = s := by apply ByteArray.ext; simp [strU]

/-- One byte made a text. -/
theorem byte_str {w : World} {g : Nat} {x : Nat} (hx : x < 256) (h : w.cell? ⟨g, 0, none⟩ = some (.int .u8 (x : Nat))) :
    (convert 22 9 (.slice (some ⟨g, 0, none⟩) 1 1)).run Tryz.prog w = .ok (.string (strU [UInt8.ofNat x])) w := by
  rw [run_convert_bytes_string w _ _ 5 _ _ _ Tryz.underlying22 Tryz.underlying5 Tryz.underlying9]
  have hc : (loadCells ⟨g, 0, none⟩ 1).run Tryz.prog w = .ok (([((x : Nat) : Int)]).map (Value.int .u8)).toArray w := by
    have hx := run_loadCells_list (P := Tryz.prog) w ⟨g, 0, none⟩ [.int .u8 (x : Nat)] (fun j v hv => by
      cases j with
      | zero => simp at hv; subst hv; exact h
      | succ j => simp at hv)
    exact hx
  rw [run_bytesToString w _ _ _ _ hc]
  rfl

set_option maxRecDepth 100000 in
set_option maxHeartbeats 1600000 in
theorem l6Dec_any (u : Nat) : ∀ (w : World), u < 4611686018427387904 →
    Calls Tryz.prog 70 #[.int .i64 (u : Nat)] w fun e w' => e = .returned (.string (strU (Lib.decDigits u))) ∧ Below w.heap.size w w' := by
  induction u using Nat.strongRecOn with
  | ind u ih =>
    intro w hu
    have d1 : decide ((u : Int) < -9223372036854775807) = false := decide_eq_false (by omega)
    have d2 : decide ((u : Int) < 0) = false := decide_eq_false (by omega)
    by_cases h : u < 10
    · have d3 : decide ((u : Int) < 10) = true := decide_eq_true (by omega)
      have E := Lib.hid (dec_lt u h)
      obtain ⟨x, hx⟩ : ∃ x, x = 48 + u := ⟨_, rfl⟩
      have hw : wrap64 (48 + (u : Int)) = (x : Int) := by rw [IntWalk.wrap64_in _ (by omega)]; omega
      have hm : (x : Int) % 256 = (x : Int) := by omega
      have h256 : x < 256 := by omega
      rw [← hx] at E
      have BS := byte_str (w := w.alloc (.cells #[.int .u8 (x : Nat)] 5)) (g := w.heap.size) h256 (by simp)
      clear ih hu h hx
      go_enter Tryz.func70, Tryz.ntmps70
      go_wp2_with fail
      go_ret
      exact ⟨by rw [E.out]; rfl, below_alloc (Below.refl _ _) _⟩
    · have d3 : decide ((u : Int) < 10) = false := decide_eq_false (by omega)
      have E := Lib.hid (dec_ge u (by omega))
      obtain ⟨q, hq⟩ : ∃ q, q = u / 10 := ⟨_, rfl⟩
      have hdiv : (u : Int) / 10 = (q : Int) := by omega
      have hqs : q < 4611686018427387904 := by omega
      have hwq : IntKind.i64.wrap (q : Int) = (q : Int) := by rw [IntKind.wrap_i64]; omega
      have hdiv2 : Int.tdiv (u : Int) 10 = (q : Int) := by rw [Int.tdiv_eq_ediv_of_nonneg (by omega)]; omega
      obtain ⟨x, hx⟩ : ∃ x, x = 48 + u % 10 := ⟨_, rfl⟩
      have hmod2 : Int.tmod (u : Int) 10 = ((u % 10 : Nat) : Int) := by rw [Int.tmod_eq_emod_of_nonneg (by omega)]; omega
      have hw : IntKind.i64.wrap (48 + (u : Int) % 10) = (x : Int) := by rw [IntKind.wrap_i64]; omega
      have h256 : x < 256 := by omega
      have hm : IntKind.u8.wrap (x : Int) = (x : Int) := by rw [IntKind.wrap_u8]; omega
      rw [← hx, ← hq] at E
      have BS := fun (w1 : World) (g : Nat) => byte_str (w := w1) (g := g) h256
      have hlen : (Lib.decDigits q).length ≤ 19 := dec_len 19 q (by omega) (by omega)
      have z1 : (strU (Lib.decDigits q)).size = (Lib.decDigits q).length := strU_size _
      have z2 : (strU [UInt8.ofNat x]).size = 1 := strU_size _
      have hsum := fun (w : World) => run_string_add_sum (P := Tryz.prog) w (strU (Lib.decDigits q)) (strU [UInt8.ofNat x]) (by rw [z1, z2]; omega)
      have IH := Lib.hid (ih q (by omega))
      have hq2 : q < 4611686018427387904 := by omega
      have Q2 := Lib.hid hq2
      clear ih hu h hx hq hq2
      go_enter Tryz.func70, Tryz.ntmps70
      go_wp2_with fail
      refine wp_region_any (by kernel_rfl) ?_
      change wpAny _ _ _ _ _ _ _ (World.drew _)
      generalize hwq : w.drew = wq
      have BQ : Below w.heap.size w wq := by rw [← hwq]; exact (Below.refl _ w).drew
      have BQ := Lib.hid BQ
      clear hwq
      refine wpAny_take (i := 0) (v := .int .i64 (u : Nat)) rfl (by kernel_rfl) (by kernel_rfl) (by kernel_rfl) (fun _ _ _ h => h) (Or.inl ⟨by rfl, fun w => rfl⟩) ?_
      refine wpAny_take (i := 1) (v := .int .i64 (q : Nat)) rfl (by kernel_rfl) (by kernel_rfl) (by kernel_rfl) (fun _ _ _ h => h) (Or.inl ⟨by rfl, fun w => by go_simp⟩) ?_
      refine wpAny_take (i := 3) (v := .int .i64 (u : Nat)) rfl (by kernel_rfl) (by kernel_rfl) (by kernel_rfl) (fun _ _ _ h => h) (Or.inl ⟨by rfl, fun w => rfl⟩) ?_
      refine wpAny_take (i := 4) (v := .int .i64 ((u : Int) % 10)) rfl (by kernel_rfl) (by kernel_rfl) (by kernel_rfl) (fun _ _ _ h => h) (Or.inl ⟨by rfl, fun w => by go_simp⟩) ?_
      refine wpAny_take (i := 5) (v := .int .i64 (x : Nat)) rfl (by kernel_rfl) (by kernel_rfl) (by kernel_rfl) (fun _ _ _ h => h) (Or.inl ⟨by rfl, fun w => by go_simp⟩) ?_
      refine wpAny_take (i := 6) (v := .int .u8 (x : Nat)) rfl (by kernel_rfl) (by kernel_rfl) (by kernel_rfl) (fun _ _ _ h => h) (Or.inl ⟨by rfl, fun w => by go_simp⟩) ?_
      refine wpAny_ready (rs := [2, 7]) (by kernel_rfl) (by simp) (AllReady.cons (o := ⟨_, Op.call _, _, _, _, _⟩) rfl (fun K hK => ?_) (AllReady.cons (o := ⟨_, Op.buildSlice _ _ _, _, _, _, _⟩) rfl (fun K hK => ?_) AllReady.nil))
      · skip
        have HK := Lib.hid hK
        clear hK
        go_simp
        (go_at_call 70; refine (IH.out _ Q2.out).mono ?_; rintro e w1 ⟨rfl, hb⟩; have hk := fun p hp => hb.cell (p := p) hp; have HB := Lib.hid hb; clear hb)
        try go_simp
        refine HK.out _ _ ?_
        clear HK K
        refine wpAny_ready (rs := [7]) (by kernel_rfl) (by simp) (AllReady.cons (o := ⟨_, Op.buildSlice _ _ _, _, _, _, _⟩) rfl (fun K hK => ?_) AllReady.nil)
        have HK := Lib.hid hK
        clear hK
        go_simp
        refine HK.out _ _ ?_
        clear HK K
        refine wpAny_ready (rs := [8]) (by kernel_rfl) (by simp) (AllReady.cons (o := ⟨_, Op.convert _ _ _, _, _, _, _⟩) rfl (fun K hK => ?_) AllReady.nil)
        have HK := Lib.hid hK
        clear hK
        go_simp
        refine HK.out _ _ ?_
        clear HK K
        refine wpAny_ready (rs := [9]) (by kernel_rfl) (by simp) (AllReady.cons (o := ⟨_, Op.binOp _ _ _ _ _, _, _, _, _⟩) rfl (fun K hK => ?_) AllReady.nil)
        have HK := Lib.hid hK
        clear hK
        go_simp
        refine HK.out _ _ ?_
        clear HK K
        refine wpAny_ready (rs := [10]) (by kernel_rfl) (by simp) (AllReady.cons (o := ⟨_, Op.assign _, _, _, _, _⟩) rfl (fun K hK => ?_) AllReady.nil)
        have HK := Lib.hid hK
        clear hK
        go_simp
        refine HK.out _ _ ?_
        clear HK K
        refine wpAny_done (by kernel_rfl) ?_ _
        go_wp2_with fail
        go_ret
        refine ⟨by rw [E.out, strU_app]; rfl, ?_⟩
        exact below_alloc (BQ.out.trans (HB.out.mono BQ.out.size)) _
      · skip
        have HK := Lib.hid hK
        clear hK
        go_simp
        refine HK.out _ _ ?_
        clear HK K
        refine wpAny_ready (rs := [2, 8]) (by kernel_rfl) (by simp) (AllReady.cons (o := ⟨_, Op.call _, _, _, _, _⟩) rfl (fun K hK => ?_) (AllReady.cons (o := ⟨_, Op.convert _ _ _, _, _, _, _⟩) rfl (fun K hK => ?_) AllReady.nil))
        · skip
          have HK := Lib.hid hK
          clear hK
          go_simp
          (go_at_call 70; refine (IH.out _ Q2.out).mono ?_; rintro e w1 ⟨rfl, hb⟩; have hk := fun p hp => hb.cell (p := p) hp; have HB := Lib.hid hb; clear hb)
          try go_simp
          refine HK.out _ _ ?_
          clear HK K
          refine wpAny_ready (rs := [8]) (by kernel_rfl) (by simp) (AllReady.cons (o := ⟨_, Op.convert _ _ _, _, _, _, _⟩) rfl (fun K hK => ?_) AllReady.nil)
          have HK := Lib.hid hK
          clear hK
          go_simp
          refine HK.out _ _ ?_
          clear HK K
          refine wpAny_ready (rs := [9]) (by kernel_rfl) (by simp) (AllReady.cons (o := ⟨_, Op.binOp _ _ _ _ _, _, _, _, _⟩) rfl (fun K hK => ?_) AllReady.nil)
          have HK := Lib.hid hK
          clear hK
          go_simp
          refine HK.out _ _ ?_
          clear HK K
          refine wpAny_ready (rs := [10]) (by kernel_rfl) (by simp) (AllReady.cons (o := ⟨_, Op.assign _, _, _, _, _⟩) rfl (fun K hK => ?_) AllReady.nil)
          have HK := Lib.hid hK
          clear hK
          go_simp
          refine HK.out _ _ ?_
          clear HK K
          refine wpAny_done (by kernel_rfl) ?_ _
          go_wp2_with fail
          go_ret
          refine ⟨by rw [E.out, strU_app]; rfl, ?_⟩
          exact below_chain (below_alloc BQ.out _) HB.out
        · skip
          have HK := Lib.hid hK
          clear hK
          go_simp
          refine HK.out _ _ ?_
          clear HK K
          refine wpAny_ready (rs := [2]) (by kernel_rfl) (by simp) (AllReady.cons (o := ⟨_, Op.call _, _, _, _, _⟩) rfl (fun K hK => ?_) AllReady.nil)
          have HK := Lib.hid hK
          clear hK
          go_simp
          (go_at_call 70; refine (IH.out _ Q2.out).mono ?_; rintro e w1 ⟨rfl, hb⟩; have hk := fun p hp => hb.cell (p := p) hp; have HB := Lib.hid hb; clear hb)
          try go_simp
          refine HK.out _ _ ?_
          clear HK K
          refine wpAny_ready (rs := [9]) (by kernel_rfl) (by simp) (AllReady.cons (o := ⟨_, Op.binOp _ _ _ _ _, _, _, _, _⟩) rfl (fun K hK => ?_) AllReady.nil)
          have HK := Lib.hid hK
          clear hK
          go_simp
          refine HK.out _ _ ?_
          clear HK K
          refine wpAny_ready (rs := [10]) (by kernel_rfl) (by simp) (AllReady.cons (o := ⟨_, Op.assign _, _, _, _, _⟩) rfl (fun K hK => ?_) AllReady.nil)
          have HK := Lib.hid hK
          clear hK
          go_simp
          refine HK.out _ _ ?_
          clear HK K
          refine wpAny_done (by kernel_rfl) ?_ _
          go_wp2_with fail
          go_ret
          refine ⟨by rw [E.out, strU_app]; rfl, ?_⟩
          exact below_chain (below_alloc BQ.out _) HB.out
end Go.Proofs.YtabdbgnkiebcdaaGreatDoor

namespace Go.Proofs.YtabdbgnkiebcdaaGreatDoor
set_option linter.unusedVariables false
set_option linter.unusedSimpArgs false
open Go.RowKit

set_option maxRecDepth 100000 in
set_option maxHeartbeats 1600000 in
theorem l11Words_any (W : List UInt8) (m c : Nat) (a : Option Addr) (X : Nat → Int) (w : World) (hW : W.length ≤ 100) (hm : m ≤ 1000) (hX : ∀ k, k < m → FewDig (X k)) (ha : Rd w a m X) :
    Calls Tryz.prog 32 #[.string (strU W), .slice a m c] w fun e w' => e = .returned (.string (strU (wordsB W (numsL m X)))) ∧ Below w.heap.size w w' := by
  have HA := Lib.hid ha
  have HX := Lib.hid hX
  have E0 := Lib.hid (show wordsB W (numsL 0 X) = W from List.append_nil W)
  clear ha hX
  go_enter Tryz.func32, Tryz.ntmps32
  go_wp2_with fail
  go_loopw [0, 5] (fun tx i wr => ∃ k : Nat, k ≤ m ∧ i = .int .i64 (k : Nat) ∧ tx = .string (strU (wordsB W (numsL k X))) ∧ Below w.heap.size w wr) (fun _ i _ => m - (intOf i).toNat)
  case atStart => exact ⟨0, Nat.zero_le _, rfl, by rw [E0.out], Below.refl _ _⟩
  case round =>
    obtain ⟨k, hk, rfl, rfl, hB⟩ := hrel
    have BR := Lib.hid hB
    by_cases hlt : k < m
    · obtain ⟨ba, oa, rfl, hca⟩ := (HA.out.below (Nat.le_refl _) hB) k hlt
      have hf := HX.out k hlt
      obtain ⟨u, hu⟩ : ∃ u : Nat, X k = (u : Int) := ⟨(X k).toNat, by have := hf.1; omega⟩
      have hu2 : u < 100000000000 := by have := hf.2; omega
      have hl := words_len W (numsL k X) (numsL_few fun j hj => HX.out j (by omega))
      rw [numsL_len] at hl
      have hs := words_snoc W k X
      rw [hu, Lib.itoa_nonneg] at hs
      rw [hu] at hca
      obtain ⟨T, hT⟩ : ∃ T, T = wordsB W (numsL k X) := ⟨_, rfl⟩
      rw [← hT] at hl hs ⊢
      have hd := dec_len 11 u (by omega) (by omega)
      have z1 : (strU T).size = T.length := strU_size _
      have z2 : (strU [32]).size = 1 := strU_size _
      have z3 : (strU (T ++ [32])).size = T.length + 1 := by rw [strU_size]; simp
      have z4 : (strU (Lib.decDigits u)).size = (Lib.decDigits u).length := strU_size _
      have s1 := fun (w : World) => run_string_add_sum (P := Tryz.prog) w (strU T) ⟨#[32]⟩ (by rw [z1, show (⟨#[32]⟩ : ByteArray).size = 1 from rfl]; omega)
      have e1 : strU T ++ ⟨#[32]⟩ = strU (T ++ [32]) := strU_app T [32]
      have s2 := fun (w : World) => run_string_add_sum (P := Tryz.prog) w (strU (T ++ [32])) (strU (Lib.decDigits u)) (by rw [z3, z4]; omega)
      have DC := Lib.hid (fun (w1 : World) => l6Dec_any u w1 (by omega))
      have HS := Lib.hid (show strU (T ++ [32]) ++ strU (Lib.decDigits u) = strU (wordsB W (numsL (k + 1) X)) by rw [strU_app, hs, List.append_assoc])
      have i1 : (0 : Int) ≤ (k : Int) := by omega
      have i2 : (k : Int) < (m : Int) := by omega
      clear hT hs hf hu hB hl hd
      go_wp2_with (go_at_call 70; refine (DC.out _).mono ?_; rintro e w1 ⟨rfl, hb⟩; have B1 := Lib.hid (BR.out.trans (hb.mono BR.out.size)); clear hb)
      go_roundw
      case rel => exact ⟨k + 1, by omega, by go_num, by rw [HS.out], B1.out⟩
      case measure => simp [intOf]; omega
    · obtain rfl : k = m := by omega
      go_wp2_with fail
      go_ret
      exact ⟨rfl, BR.out⟩
end Go.Proofs.YtabdbgnkiebcdaaGreatDoor
