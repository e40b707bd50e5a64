/- Texts joined: WordsModel, L6Dec, L11Words, WordsRead, DrawKit, KeepP, AppendAny. -/
import Derived.Lib.ItoaNum
import Derived.Lib.AtoiAllCases
import Derived.Lib.ItoaMem
import Derived.Lib.Strings
import Derived.Lib.Bytealg
import Derived.Test.YtabdbgnkiebcdaaDoorPartR1
import Derived.Test.YtabdbgnkiebcdaaDoorProg
import Derived.Deep.DrawnRows
import Derived.Deep.RegionHeld3
import Derived.IntWalk
import Derived.Deep.AppendLies
import Derived.Deep.RegionLaw
namespace Go.Proofs.YtabdbgnkiebcdaaDoor
set_option linter.unusedVariables false
open Go.Lib

/-- The byte is a decimal digit. -/
def DigB (b : UInt8) : Prop := 48 ≤ b.toNat ∧ b.toNat ≤ 57

theorem dec_lt (u : Nat) (h : u < 10) : decDigits u = [UInt8.ofNat (48 + u)] := by
  rw [decDigits, dif_pos h]
theorem dec_ge (u : Nat) (h : 10 ≤ u) : decDigits u = decDigits (u / 10) ++ [UInt8.ofNat (48 + u % 10)] := by
  rw [decDigits, dif_neg (by omega)]

theorem toNat_dig (d : Nat) (h : d < 10) : (UInt8.ofNat (48 + d)).toNat = 48 + d := by
  rw [UInt8.toNat_ofNat']; omega

theorem dec_dig (u : Nat) : ∀ b ∈ decDigits u, DigB b := by
  induction u using Nat.strongRecOn with
  | ind u ih =>
    by_cases h : u < 10
    · rw [dec_lt u h]
      intro b hb
      rw [List.mem_singleton] at hb
      subst hb
      unfold DigB
      rw [toNat_dig u h]
      omega
    · rw [dec_ge u (by omega)]
      intro b hb
      rcases List.mem_append.1 hb with hb | hb
      · exact ih (u / 10) (by omega) b hb
      · rw [List.mem_singleton] at hb
        subst hb
        unfold DigB
        rw [toNat_dig _ (by omega)]
        omega

theorem dec_len : ∀ (k u : Nat), 1 ≤ k → u < 10 ^ k → (decDigits u).length ≤ k := by
  intro k
  induction k with
  | zero => intro u h; omega
  | succ k ih =>
    intro u _ hu
    by_cases h : u < 10
    · rw [dec_lt u h]; simp
    · have hk : 1 ≤ k := by
        rcases Nat.eq_zero_or_pos k with rfl | h0
        · simp at hu; omega
        · exact h0
      rw [dec_ge u (by omega), List.length_append]
      have := ih (u / 10) hk (by rw [Nat.pow_succ] at hu; omega)
      simp; omega

theorem dec_ne (u : Nat) : decDigits u ≠ [] := by
  by_cases h : u < 10
  · rw [dec_lt u h]; simp
  · rw [dec_ge u (by omega)]; simp

/-- What digits are worth behind a number. -/
def numV (acc : Nat) : List UInt8 → Nat
  | [] => acc
  | c :: r => numV (10 * acc + (c.toNat - 48)) r

theorem numV_append (l m : List UInt8) : ∀ acc, numV acc (l ++ m) = numV (numV acc l) m := by
  induction l with
  | nil => intro acc; rfl
  | cons c r ih => intro acc; exact ih _

theorem numV_ge (l : List UInt8) : ∀ acc, acc ≤ numV acc l := by
  induction l with
  | nil => intro acc; exact Nat.le_refl _
  | cons c r ih => intro acc; exact Nat.le_trans (by omega) (ih _)

theorem numV_lt (l : List UInt8) : ∀ (acc k : Nat), l.length = k → (∀ b ∈ l, DigB b) → numV acc l < (acc + 1) * 10 ^ k := by
  induction l with
  | nil =>
    intro acc k hk _
    have hk0 : k = 0 := hk.symm
    rw [hk0, Nat.pow_zero, Nat.mul_one]
    exact Nat.lt_succ_self acc
  | cons c r ih =>
    intro acc k hk h
    cases k with
    | zero => simp at hk
    | succ k =>
    have hk' : r.length = k := by simpa using hk
    have h1 := ih (10 * acc + (c.toNat - 48)) k hk' (fun b hb => h b (List.mem_cons_of_mem _ hb))
    have hc : DigB c := h c (List.mem_cons_self ..)
    unfold DigB at hc
    have h2 : 10 * acc + (c.toNat - 48) + 1 ≤ (acc + 1) * 10 := by omega
    have h3 := Nat.mul_le_mul_right (10 ^ k) h2
    have h4 : (acc + 1) * 10 ^ (k + 1) = (acc + 1) * 10 * 10 ^ k := by rw [Nat.pow_succ, Nat.mul_comm (10 ^ k) 10, Nat.mul_assoc]
    rw [h4]
    exact Nat.lt_of_lt_of_le h1 h3

theorem dec_val (u : Nat) : numV 0 (decDigits u) = u := by
  induction u using Nat.strongRecOn with
  | ind u ih =>
    by_cases h : u < 10
    · rw [dec_lt u h]
      show 10 * 0 + ((UInt8.ofNat (48 + u)).toNat - 48) = u
      rw [toNat_dig u h]; omega
    · rw [dec_ge u (by omega), numV_append, ih (u / 10) (by omega)]
      show 10 * (u / 10) + ((UInt8.ofNat (48 + u % 10)).toNat - 48) = u
      rw [toNat_dig _ (by omega)]; omega

theorem parse_dig (l : List UInt8) : ∀ acc, (∀ b ∈ l, DigB b) → numV acc l < 1000000000000000000 → parseUint10 acc l = .ok (numV acc l) := by
  induction l with
  | nil => intro acc _ _; rfl
  | cons c r ih =>
    intro acc h hv
    have hc : DigB c := h c (List.mem_cons_self ..)
    have hv' : numV (10 * acc + (c.toNat - 48)) r < 1000000000000000000 := hv
    have hge := numV_ge r (10 * acc + (c.toNat - 48))
    unfold DigB at hc
    rw [parseUint10, if_pos hc, if_neg (by omega), if_neg (by omega), Nat.mul_comm acc 10]
    exact ih _ (fun b hb => h b (List.mem_cons_of_mem _ hb)) hv'

/-- The number is one that the texts here hold: not negative, of at most eleven digits. -/
def FewDig (x : Int) : Prop := 0 ≤ x ∧ x < 100000000000

theorem itoa_few {x : Int} (h : FewDig x) : itoa x = decDigits x.toNat := by
  unfold itoa; rw [if_neg (by have := h.1; omega)]

theorem atoi_few {x : Int} (h : FewDig x) : atoiAll (itoa x) = .ok x := by
  have hx := h
  unfold FewDig at hx
  rw [itoa_few h]
  have hd := dec_dig x.toNat
  have hne := dec_ne x.toNat
  have hv := dec_val x.toNat
  generalize hl : decDigits x.toNat = l at hd hne hv
  cases l with
  | nil => exact absurd rfl hne
  | cons c r =>
    have hc : DigB c := hd c (List.mem_cons_self ..)
    unfold DigB at hc
    have hp : parseMag (c :: r) = .ok x.toNat := by
      unfold parseMag
      rw [if_neg (by simp), parse_dig (c :: r) 0 hd (by rw [hv]; omega), hv]
    unfold atoiAll
    simp only
    rw [if_neg (by omega), hp]
    simp only
    rw [if_neg (by omega), if_neg (by omega), if_neg (by omega)]
    congr 1
    omega

/-- Numbers, each one behind a space. -/
def flatN : List Int → List UInt8
  | [] => []
  | x :: r => 32 :: (itoa x ++ flatN r)

theorem flatN_append (L M : List Int) : flatN (L ++ M) = flatN L ++ flatN M := by
  induction L with
  | nil => rfl
  | cons x r ih => simp only [List.cons_append, flatN, ih, List.append_assoc]

theorem flatN_snoc (L : List Int) (x : Int) : flatN (L ++ [x]) = flatN L ++ 32 :: itoa x := by
  rw [flatN_append]; simp [flatN]

/-- A word and numbers behind it. -/
def wordsB (W : List UInt8) (L : List Int) : List UInt8 := W ++ flatN L

def FewAll (L : List Int) : Prop := ∀ x ∈ L, FewDig x

/-- What a text of numbers begins with is a space, if it begins with something. -/
theorem flatN_head (L : List Int) : flatN L = [] ∧ L = [] ∨ ∃ x r, L = x :: r ∧ flatN L = 32 :: (itoa x ++ flatN r) := by
  cases L with
  | nil => exact .inl ⟨rfl, rfl⟩
  | cons x r => exact .inr ⟨x, r, rfl, rfl⟩

/-- Digits in front are told from what is behind them: two ways to part a text are one. -/
theorem digs_part : ∀ (a b r t : List UInt8), (∀ c ∈ a, DigB c) → (∀ c ∈ b, DigB c) → (∀ c t', r = c :: t' → ¬ DigB c) → (∀ c t', t = c :: t' → ¬ DigB c) → a ++ r = b ++ t → a = b ∧ r = t := by
  intro a
  induction a with
  | nil =>
    intro b r t _ hb hr _ h
    cases b with
    | nil => exact ⟨rfl, h⟩
    | cons c b' =>
      exact absurd (hb c (List.mem_cons_self ..)) (hr c (b' ++ t) h)
  | cons c a' ih =>
    intro b r t ha hb hr ht h
    cases b with
    | nil => exact absurd (ha c (List.mem_cons_self ..)) (ht c (a' ++ r) h.symm)
    | cons d b' =>
      simp only [List.cons_append, List.cons.injEq] at h
      obtain ⟨rfl, h⟩ := h
      obtain ⟨rfl, rfl⟩ := ih b' r t (fun x hx => ha x (List.mem_cons_of_mem _ hx)) (fun x hx => hb x (List.mem_cons_of_mem _ hx)) hr ht h
      exact ⟨rfl, rfl⟩

theorem flatN_nodig (L : List Int) : ∀ c t, flatN L = c :: t → ¬ DigB c := by
  intro c t h hd
  rcases flatN_head L with ⟨h0, _⟩ | ⟨x, r, _, h0⟩
  · rw [h0] at h; cases h
  · rw [h0] at h
    injection h with h1 h2
    subst h1
    unfold DigB at hd
    exact absurd hd.1 (by decide)

/-! ### Texts that are parted at spaces -/

/-- The parts of a text between its spaces. -/
def splitB : List UInt8 → List (List UInt8)
  | [] => [[]]
  | c :: r => if c = 32 then [] :: splitB r else match splitB r with
    | [] => [[c]]
    | a :: m => (c :: a) :: m

theorem splitB_ne (l : List UInt8) : splitB l ≠ [] := by
  cases l with
  | nil => simp [splitB]
  | cons c r =>
    unfold splitB
    split
    · simp
    · split <;> simp

theorem splitB_miss (l : List UInt8) (h : ∀ c ∈ l, c ≠ 32) : splitB l = [l] := by
  induction l with
  | nil => rfl
  | cons c r ih =>
    unfold splitB
    rw [if_neg (h c (List.mem_cons_self ..)), ih (fun d hd => h d (List.mem_cons_of_mem _ hd))]

theorem splitB_hit (l r : List UInt8) (h : ∀ c ∈ l, c ≠ 32) : splitB (l ++ 32 :: r) = l :: splitB r := by
  induction l with
  | nil => simp [splitB]
  | cons c a ih =>
    rw [List.cons_append]
    conv => lhs; unfold splitB
    rw [if_neg (h c (List.mem_cons_self ..)), ih (fun d hd => h d (List.mem_cons_of_mem _ hd))]

theorem splitB_len (l : List UInt8) : (splitB l).length ≤ l.length + 1 := by
  induction l with
  | nil => simp [splitB]
  | cons c r ih =>
    unfold splitB
    split
    · simp; omega
    · split
      · simp
      · rename_i a m hm; rw [hm] at ih; simp at ih ⊢; omega

/-- All parts as numbers, if all are. -/
def numsOf : List (List UInt8) → Option (List Int)
  | [] => some []
  | s :: r => match atoiAll s with
    | .ok v => (numsOf r).map (v :: ·)
    | _ => none

theorem dig_ne {c : UInt8} (h : DigB c) : c ≠ 32 := by
  rintro rfl
  exact absurd h.1 (by decide)

theorem split_flat : ∀ (L : List Int) (x : Int), FewAll (x :: L) → numsOf (splitB (itoa x ++ flatN L)) = some (x :: L) := by
  intro L
  induction L with
  | nil =>
    intro x h
    have hx := h x (List.mem_cons_self ..)
    have hd : ∀ c ∈ itoa x, c ≠ 32 := fun c hc => dig_ne (dec_dig x.toNat c (by rw [← itoa_few hx]; exact hc))
    rw [show flatN [] = [] from rfl, List.append_nil, splitB_miss _ hd]
    simp only [numsOf, atoi_few hx, Option.map]
  | cons y r ih =>
    intro x h
    have hx := h x (List.mem_cons_self ..)
    have hd : ∀ c ∈ itoa x, c ≠ 32 := fun c hc => dig_ne (dec_dig x.toNat c (by rw [← itoa_few hx]; exact hc))
    rw [show flatN (y :: r) = 32 :: (itoa y ++ flatN r) from rfl, splitB_hit _ _ hd]
    simp only [numsOf, atoi_few hx]
    rw [ih y (fun z hz => h z (List.mem_cons_of_mem _ hz))]
    rfl

/-- What is behind the first space of a text. -/
def behindB : List UInt8 → List UInt8
  | [] => []
  | c :: r => if c = 32 then r else behindB r

theorem behind_words (W : List UInt8) (hW : ∀ c ∈ W, c ≠ 32) (x : Int) (L : List Int) : behindB (wordsB W (x :: L)) = itoa x ++ flatN L := by
  unfold wordsB
  induction W with
  | nil => simp [behindB, flatN]
  | cons c r ih =>
    rw [List.cons_append]
    unfold behindB
    rw [if_neg (hW c (List.mem_cons_self ..))]
    exact ih (fun d hd => hW d (List.mem_cons_of_mem _ hd))

theorem behind_none (l : List UInt8) (h : ∀ c ∈ l, c ≠ 32) : behindB l = [] := by
  induction l with
  | nil => rfl
  | cons c r ih =>
    unfold behindB
    rw [if_neg (h c (List.mem_cons_self ..))]
    exact ih (fun d hd => h d (List.mem_cons_of_mem _ hd))

/-- The numbers of a text that is a word and numbers are read again. -/
theorem nums_words (W : List UInt8) (hW : ∀ c ∈ W, c ≠ 32) (L : List Int) (h0 : L ≠ []) (h : FewAll L) : numsOf (splitB (behindB (wordsB W L))) = some L := by
  cases L with
  | nil => exact absurd rfl h0
  | cons x r =>
    rw [behind_words W hW]
    exact split_flat r x h

/-- A word alone has no numbers. -/
theorem nums_word (W : List UInt8) (hW : ∀ c ∈ W, c ≠ 32) : numsOf (splitB (behindB (wordsB W []))) = none := by
  rw [show wordsB W [] = W from List.append_nil W, behind_none W hW]
  rfl

/-- Texts of one word and numbers are alike just if the numbers are. -/
theorem words_inj (W : List UInt8) : ∀ (L M : List Int), FewAll L → FewAll M → wordsB W L = wordsB W M → L = M := by
  have key : ∀ (L M : List Int), FewAll L → FewAll M → flatN L = flatN M → L = M := by
    intro L
    induction L with
    | nil =>
      intro M _ _ h
      rcases flatN_head M with ⟨_, h1⟩ | ⟨x, r, _, h1⟩
      · exact h1.symm
      · rw [h1] at h; cases h
    | cons x r ih =>
      intro M hL hM h
      rcases flatN_head M with ⟨h1, _⟩ | ⟨y, m, rfl, h1⟩
      · rw [h1] at h; cases h
      · have hx := hL x (List.mem_cons_self ..)
        have hy := hM y (List.mem_cons_self ..)
        rw [flatN, flatN] at h
        injection h with _ h
        rw [itoa_few hx, itoa_few hy] at h
        obtain ⟨h2, h3⟩ := digs_part _ _ _ _ (dec_dig _) (dec_dig _) (flatN_nodig r) (flatN_nodig m) h
        have h4 : x.toNat = y.toNat := by rw [← dec_val x.toNat, ← dec_val y.toNat, h2]
        have h5 : x = y := by have := hx.1; have := hy.1; omega
        rw [h5, ih m (fun z hz => hL z (List.mem_cons_of_mem _ hz)) (fun z hz => hM z (List.mem_cons_of_mem _ hz)) h3]
  intro L M hL hM h
  exact key L M hL hM (List.append_cancel_left h)

/-! ### The place of the first space -/

/-- Where a text has no space, and where its first one is. -/
theorem space_cases (l : List UInt8) : (indexByte l 32 = -1 ∧ (∀ c ∈ l, c ≠ 32)) ∨ ∃ i : Nat, indexByte l 32 = i ∧ i < l.length ∧ l = l.take i ++ 32 :: l.drop (i + 1) ∧ (∀ c ∈ l.take i, c ≠ 32) := by
  induction l with
  | nil => left; exact ⟨rfl, fun c hc => by cases hc⟩
  | cons b r ih =>
    by_cases hb : b = 32
    · right
      refine ⟨0, ?_, by simp, by simp [hb], fun c hc => by simp at hc⟩
      unfold indexByte
      rw [hb]; rfl
    · have hb' : (b == 32) = false := by simpa using hb
      rcases ih with ⟨h1, h2⟩ | ⟨i, h1, h2, h3, h4⟩
      · left
        refine ⟨?_, ?_⟩
        · unfold indexByte
          rw [hb', h1]; rfl
        · intro c hc
          rcases List.mem_cons.1 hc with hc | hc
          · rw [hc]; exact hb
          · exact h2 c hc
      · right
        refine ⟨i + 1, ?_, by simp; omega, ?_, ?_⟩
        · unfold indexByte
          have h5 : ((i : Int) == -1) = false := by rw [beq_eq_false_iff_ne]; omega
          rw [hb', h1, h5]
          simp
        · simp only [List.take_succ_cons, List.drop_succ_cons, List.cons_append]
          rw [← h3]
        · intro c hc
          rw [List.take_succ_cons] at hc
          rcases List.mem_cons.1 hc with hc | hc
          · rw [hc]; exact hb
          · exact h4 c hc

theorem split_at {l : List UInt8} {i : Nat} (h : l = l.take i ++ 32 :: l.drop (i + 1)) (h4 : ∀ c ∈ l.take i, c ≠ 32) : splitB l = l.take i :: splitB (l.drop (i + 1)) := by
  conv => lhs; rw [h]
  exact splitB_hit _ _ h4

theorem behind_at {l : List UInt8} {i : Nat} (h : l = l.take i ++ 32 :: l.drop (i + 1)) (h4 : ∀ c ∈ l.take i, c ≠ 32) : behindB l = l.drop (i + 1) := by
  have key : ∀ (a r : List UInt8), (∀ c ∈ a, c ≠ 32) → behindB (a ++ 32 :: r) = r := by
    intro a
    induction a with
    | nil => intro r _; simp [behindB]
    | cons c a ih =>
      intro r ha
      rw [List.cons_append]
      unfold behindB
      rw [if_neg (ha c (List.mem_cons_self ..))]
      exact ih r (fun d hd => ha d (List.mem_cons_of_mem _ hd))
  conv => lhs; rw [h]
  exact key _ _ h4

theorem behind_len (l : List UInt8) : (behindB l).length ≤ l.length := by
  induction l with
  | nil => exact Nat.le_refl _
  | cons c r ih =>
    unfold behindB
    split
    · simp
    · simp; omega

/-- All that is read are ints of the machine. -/
theorem nums_i64 : ∀ (P : List (List UInt8)) (L : List Int), numsOf P = some L → L.length = P.length ∧ ∀ x ∈ L, -9223372036854775808 ≤ x ∧ x ≤ 9223372036854775807 := by
  intro P
  induction P with
  | nil => intro L h; simp only [numsOf, Option.some.injEq] at h; subst h; exact ⟨rfl, fun x hx => by cases hx⟩
  | cons s r ih =>
    intro L h
    unfold numsOf at h
    cases hv : atoiAll s with
    | ok v =>
      rw [hv] at h
      simp only at h
      cases hr : numsOf r with
      | none => rw [hr] at h; cases h
      | some M =>
        rw [hr] at h
        simp only [Option.map, Option.some.injEq] at h
        subst h
        obtain ⟨h1, h2⟩ := ih M hr
        refine ⟨by simp [h1], ?_⟩
        intro x hx
        rcases List.mem_cons.1 hx with hx | hx
        · subst hx
          exact atoiAll_bounds hv
        · exact h2 x hx
    | _ => rw [hv] at h; cases h

/-- A part that is no number: there are no numbers. -/
theorem nums_bad (A : List (List UInt8)) (s : List UInt8) (B : List (List UInt8)) (h : ∀ v, atoiAll s ≠ .ok v) : numsOf (A ++ s :: B) = none := by
  induction A with
  | nil =>
    rw [List.nil_append]
    unfold numsOf
    split
    · rename_i v hv; exact absurd hv (h v)
    · rfl
  | cons a r ih =>
    rw [List.cons_append]
    unfold numsOf
    rw [ih]
    split <;> rfl

theorem nums_snoc (A : List (List UInt8)) (s : List UInt8) (L : List Int) (v : Int) (h : numsOf A = some L) (hv : atoiAll s = .ok v) : numsOf (A ++ [s]) = some (L ++ [v]) := by
  induction A generalizing L with
  | nil =>
    simp only [numsOf, Option.some.injEq] at h
    subst h
    simp only [List.nil_append, numsOf, hv, Option.map]
  | cons a r ih =>
    unfold numsOf at h
    rw [List.cons_append]
    unfold numsOf
    cases ha : atoiAll a with
    | ok x =>
      rw [ha] at h
      simp only at h ⊢
      cases hr : numsOf r with
      | none => rw [hr] at h; cases h
      | some M =>
        rw [hr] at h
        simp only [Option.map, Option.some.injEq] at h
        subst h
        rw [ih M hr]
        rfl
    | _ => rw [ha] at h; cases h

/-! ### Lists that are read number by number -/

/-- The first m numbers. -/
def numsL (m : Nat) (X : Nat → Int) : List Int := (List.range m).map X
theorem numsL_succ (m : Nat) (X : Nat → Int) : numsL (m + 1) X = numsL m X ++ [X m] := by
  unfold numsL; rw [List.range_succ, List.map_append]; rfl
theorem numsL_len (m : Nat) (X : Nat → Int) : (numsL m X).length = m := by simp [numsL]
theorem numsL_mem {m : Nat} {X : Nat → Int} {x : Int} : x ∈ numsL m X ↔ ∃ k, k < m ∧ X k = x := by
  unfold numsL
  simp
theorem numsL_few {m : Nat} {X : Nat → Int} (h : ∀ k, k < m → FewDig (X k)) : FewAll (numsL m X) := by
  intro x hx
  obtain ⟨k, hk, rfl⟩ := numsL_mem.1 hx
  exact h k hk
theorem itoa_len {x : Int} (h : FewDig x) : (itoa x).length ≤ 11 := by
  rw [itoa_few h]
  exact dec_len 11 _ (by omega) (by have := h.1; have := h.2; omega)
theorem flatN_len : ∀ (L : List Int), FewAll L → (flatN L).length ≤ 12 * L.length := by
  intro L
  induction L with
  | nil => intro _; simp [flatN]
  | cons x r ih =>
    intro h
    have h1 := itoa_len (h x (List.mem_cons_self ..))
    have h2 := ih (fun y hy => h y (List.mem_cons_of_mem _ hy))
    simp only [flatN, List.length_cons, List.length_append]
    omega
theorem words_len (W : List UInt8) (L : List Int) (h : FewAll L) : (wordsB W L).length ≤ W.length + 12 * L.length := by
  have := flatN_len L h
  unfold wordsB
  rw [List.length_append]; omega
theorem words_snoc (W : List UInt8) (m : Nat) (X : Nat → Int) : wordsB W (numsL (m + 1) X) = wordsB W (numsL m X) ++ ([32] ++ itoa (X m)) := by
  unfold wordsB
  rw [numsL_succ, flatN_snoc, List.append_assoc]; rfl
end Go.Proofs.YtabdbgnkiebcdaaDoor

namespace Go.Proofs.YtabdbgnkiebcdaaDoor
set_option linter.unusedVariables false
set_option linter.unusedSimpArgs false
open Go.RowKit
attribute [local go_sem ↓] Go.wp_at_zero Go.wp_at_succ

/-- The text of some bytes. -/
def strU (l : List UInt8) : ByteArray := ⟨l.toArray⟩
theorem strU_app (a b : List UInt8) : strU a ++ strU b = strU (a ++ b) := by unfold strU; rw [ByteArray.mk_append_mk]
theorem strU_size (a : List UInt8) : (strU a).size = a.length := by show a.toArray.size = _; simp
theorem strU_list (a : List UInt8) : (strU a).data.toList = a := by simp [strU]
theorem strU_of (s : ByteArray) : strU s.data.toList = s := by apply ByteArray.ext; simp [strU]

/-- One byte made a text. -/
theorem byte_str {w : World} {g : Nat} {x : Nat} (hx : x < 256) (h : w.cell? ⟨g, 0, none⟩ = some (.int .u8 (x : Nat))) :
    (convert 38 9 (.slice (some ⟨g, 0, none⟩) 1 1)).run Tryd.prog w = .ok (.string (strU [UInt8.ofNat x])) w := by
  rw [run_convert_bytes_string w _ _ 5 _ _ _ Tryd.underlying38 Tryd.underlying5 Tryd.underlying9]
  have hc : (loadCells ⟨g, 0, none⟩ 1).run Tryd.prog w = .ok (([((x : Nat) : Int)]).map (Value.int .u8)).toArray w := by
    have hx := run_loadCells_list (P := Tryd.prog) w ⟨g, 0, none⟩ [.int .u8 (x : Nat)] (fun j v hv => by
      cases j with
      | zero => simp at hv; subst hv; exact h
      | succ j => simp at hv)
    exact hx
  rw [run_bytesToString w _ _ _ _ hc]
  rfl

set_option maxRecDepth 100000 in
set_option maxHeartbeats 1600000 in
theorem l6Dec_any (u : Nat) : ∀ (w : World), u < 4611686018427387904 →
    Calls Tryd.prog 77 #[.int .i64 (u : Nat)] w fun e w' => e = .returned (.string (strU (Lib.decDigits u))) ∧ Below w.heap.size w w' := by
  induction u using Nat.strongRecOn with
  | ind u ih =>
    intro w hu
    have d1 : decide ((u : Int) < -9223372036854775807) = false := decide_eq_false (by omega)
    have d2 : decide ((u : Int) < 0) = false := decide_eq_false (by omega)
    by_cases h : u < 10
    · have d3 : decide ((u : Int) < 10) = true := decide_eq_true (by omega)
      have E := Lib.hid (dec_lt u h)
      obtain ⟨x, hx⟩ : ∃ x, x = 48 + u := ⟨_, rfl⟩
      have hw : wrap64 (48 + (u : Int)) = (x : Int) := by rw [IntWalk.wrap64_in _ (by omega)]; omega
      have hm : (x : Int) % 256 = (x : Int) := by omega
      have h256 : x < 256 := by omega
      rw [← hx] at E
      have BS := byte_str (w := w.alloc (.cells #[.int .u8 (x : Nat)] 5)) (g := w.heap.size) h256 (by simp)
      clear ih hu h hx
      go_enter Tryd.func77, Tryd.ntmps77
      go_wp2_with fail
      go_ret
      exact ⟨by rw [E.out]; rfl, below_alloc (Below.refl _ _) _⟩
    · have d3 : decide ((u : Int) < 10) = false := decide_eq_false (by omega)
      have E := Lib.hid (dec_ge u (by omega))
      obtain ⟨q, hq⟩ : ∃ q, q = u / 10 := ⟨_, rfl⟩
      have hdiv : (u : Int) / 10 = (q : Int) := by omega
      have hqs : q < 4611686018427387904 := by omega
      have hwq : IntKind.i64.wrap (q : Int) = (q : Int) := by rw [IntKind.wrap_i64]; omega
      have hdiv2 : Int.tdiv (u : Int) 10 = (q : Int) := by rw [Int.tdiv_eq_ediv_of_nonneg (by omega)]; omega
      obtain ⟨x, hx⟩ : ∃ x, x = 48 + u % 10 := ⟨_, rfl⟩
      have hmod2 : Int.tmod (u : Int) 10 = ((u % 10 : Nat) : Int) := by rw [Int.tmod_eq_emod_of_nonneg (by omega)]; omega
      have hw : IntKind.i64.wrap (48 + (u : Int) % 10) = (x : Int) := by rw [IntKind.wrap_i64]; omega
      have h256 : x < 256 := by omega
      have hm : IntKind.u8.wrap (x : Int) = (x : Int) := by rw [IntKind.wrap_u8]; omega
      rw [← hx, ← hq] at E
      have BS := fun (w1 : World) (g : Nat) => byte_str (w := w1) (g := g) h256
      have hlen : (Lib.decDigits q).length ≤ 19 := dec_len 19 q (by omega) (by omega)
      have z1 : (strU (Lib.decDigits q)).size = (Lib.decDigits q).length := strU_size _
      have z2 : (strU [UInt8.ofNat x]).size = 1 := strU_size _
      have hsum := fun (w : World) => run_string_add_sum (P := Tryd.prog) w (strU (Lib.decDigits q)) (strU [UInt8.ofNat x]) (by rw [z1, z2]; omega)
      have IH := Lib.hid (ih q (by omega))
      have hq2 : q < 4611686018427387904 := by omega
      have Q2 := Lib.hid hq2
      clear ih hu h hx hq hq2
      go_enter Tryd.func77, Tryd.ntmps77
      go_wp2_with fail
      refine wp_region_any (by kernel_rfl) ?_
      change wpAny _ _ _ _ _ _ _ (World.drew _)
      generalize hwq : w.drew = wq
      have BQ : Below w.heap.size w wq := by rw [← hwq]; exact (Below.refl _ w).drew
      have BQ := Lib.hid BQ
      clear hwq
      refine wpAny_take (i := 0) (v := .int .i64 (u : Nat)) rfl (by kernel_rfl) (by kernel_rfl) (by kernel_rfl) (fun _ _ _ h => h) (Or.inl ⟨by rfl, fun w => rfl⟩) ?_
      refine wpAny_take (i := 1) (v := .int .i64 (q : Nat)) rfl (by kernel_rfl) (by kernel_rfl) (by kernel_rfl) (fun _ _ _ h => h) (Or.inl ⟨by rfl, fun w => by go_simp⟩) ?_
      refine wpAny_take (i := 3) (v := .int .i64 (u : Nat)) rfl (by kernel_rfl) (by kernel_rfl) (by kernel_rfl) (fun _ _ _ h => h) (Or.inl ⟨by rfl, fun w => rfl⟩) ?_
      refine wpAny_take (i := 4) (v := .int .i64 ((u : Int) % 10)) rfl (by kernel_rfl) (by kernel_rfl) (by kernel_rfl) (fun _ _ _ h => h) (Or.inl ⟨by rfl, fun w => by go_simp⟩) ?_
      refine wpAny_take (i := 5) (v := .int .i64 (x : Nat)) rfl (by kernel_rfl) (by kernel_rfl) (by kernel_rfl) (fun _ _ _ h => h) (Or.inl ⟨by rfl, fun w => by go_simp⟩) ?_
      refine wpAny_take (i := 6) (v := .int .u8 (x : Nat)) rfl (by kernel_rfl) (by kernel_rfl) (by kernel_rfl) (fun _ _ _ h => h) (Or.inl ⟨by rfl, fun w => by go_simp⟩) ?_
      refine wpAny_ready (rs := [2, 7]) (by kernel_rfl) (by simp) (AllReady.cons (o := ⟨_, Op.call _, _, _, _, _⟩) rfl (fun K hK => ?_) (AllReady.cons (o := ⟨_, Op.buildSlice _ _ _, _, _, _, _⟩) rfl (fun K hK => ?_) AllReady.nil))
      · skip
        have HK := Lib.hid hK
        clear hK
        go_simp
        (go_at_call 77; refine (IH.out _ Q2.out).mono ?_; rintro e w1 ⟨rfl, hb⟩; have hk := fun p hp => hb.cell (p := p) hp; have HB := Lib.hid hb; clear hb)
        try go_simp
        refine HK.out _ _ ?_
        clear HK K
        refine wpAny_ready (rs := [7]) (by kernel_rfl) (by simp) (AllReady.cons (o := ⟨_, Op.buildSlice _ _ _, _, _, _, _⟩) rfl (fun K hK => ?_) AllReady.nil)
        have HK := Lib.hid hK
        clear hK
        go_simp
        refine HK.out _ _ ?_
        clear HK K
        refine wpAny_ready (rs := [8]) (by kernel_rfl) (by simp) (AllReady.cons (o := ⟨_, Op.convert _ _ _, _, _, _, _⟩) rfl (fun K hK => ?_) AllReady.nil)
        have HK := Lib.hid hK
        clear hK
        go_simp
        refine HK.out _ _ ?_
        clear HK K
        refine wpAny_ready (rs := [9]) (by kernel_rfl) (by simp) (AllReady.cons (o := ⟨_, Op.binOp _ _ _ _ _, _, _, _, _⟩) rfl (fun K hK => ?_) AllReady.nil)
        have HK := Lib.hid hK
        clear hK
        go_simp
        refine HK.out _ _ ?_
        clear HK K
        refine wpAny_ready (rs := [10]) (by kernel_rfl) (by simp) (AllReady.cons (o := ⟨_, Op.assign _, _, _, _, _⟩) rfl (fun K hK => ?_) AllReady.nil)
        have HK := Lib.hid hK
        clear hK
        go_simp
        refine HK.out _ _ ?_
        clear HK K
        refine wpAny_done (by kernel_rfl) ?_ _
        go_wp2_with fail
        go_ret
        refine ⟨by rw [E.out, strU_app]; rfl, ?_⟩
        exact below_alloc (BQ.out.trans (HB.out.mono BQ.out.size)) _
      · skip
        have HK := Lib.hid hK
        clear hK
        go_simp
        refine HK.out _ _ ?_
        clear HK K
        refine wpAny_ready (rs := [2, 8]) (by kernel_rfl) (by simp) (AllReady.cons (o := ⟨_, Op.call _, _, _, _, _⟩) rfl (fun K hK => ?_) (AllReady.cons (o := ⟨_, Op.convert _ _ _, _, _, _, _⟩) rfl (fun K hK => ?_) AllReady.nil))
        · skip
          have HK := Lib.hid hK
          clear hK
          go_simp
          (go_at_call 77; refine (IH.out _ Q2.out).mono ?_; rintro e w1 ⟨rfl, hb⟩; have hk := fun p hp => hb.cell (p := p) hp; have HB := Lib.hid hb; clear hb)
          try go_simp
          refine HK.out _ _ ?_
          clear HK K
          refine wpAny_ready (rs := [8]) (by kernel_rfl) (by simp) (AllReady.cons (o := ⟨_, Op.convert _ _ _, _, _, _, _⟩) rfl (fun K hK => ?_) AllReady.nil)
          have HK := Lib.hid hK
          clear hK
          go_simp
          refine HK.out _ _ ?_
          clear HK K
          refine wpAny_ready (rs := [9]) (by kernel_rfl) (by simp) (AllReady.cons (o := ⟨_, Op.binOp _ _ _ _ _, _, _, _, _⟩) rfl (fun K hK => ?_) AllReady.nil)
          have HK := Lib.hid hK
          clear hK
          go_simp
          refine HK.out _ _ ?_
          clear HK K
          refine wpAny_ready (rs := [10]) (by kernel_rfl) (by simp) (AllReady.cons (o := ⟨_, Op.assign _, _, _, _, _⟩) rfl (fun K hK => ?_) AllReady.nil)
          have HK := Lib.hid hK
          clear hK
          go_simp
          refine HK.out _ _ ?_
          clear HK K
          refine wpAny_done (by kernel_rfl) ?_ _
          go_wp2_with fail
          go_ret
          refine ⟨by rw [E.out, strU_app]; rfl, ?_⟩
          exact below_chain (below_alloc BQ.out _) HB.out
        · skip
          have HK := Lib.hid hK
          clear hK
          go_simp
          refine HK.out _ _ ?_
          clear HK K
          refine wpAny_ready (rs := [2]) (by kernel_rfl) (by simp) (AllReady.cons (o := ⟨_, Op.call _, _, _, _, _⟩) rfl (fun K hK => ?_) AllReady.nil)
          have HK := Lib.hid hK
          clear hK
          go_simp
          (go_at_call 77; refine (IH.out _ Q2.out).mono ?_; rintro e w1 ⟨rfl, hb⟩; have hk := fun p hp => hb.cell (p := p) hp; have HB := Lib.hid hb; clear hb)
          try go_simp
          refine HK.out _ _ ?_
          clear HK K
          refine wpAny_ready (rs := [9]) (by kernel_rfl) (by simp) (AllReady.cons (o := ⟨_, Op.binOp _ _ _ _ _, _, _, _, _⟩) rfl (fun K hK => ?_) AllReady.nil)
          have HK := Lib.hid hK
          clear hK
          go_simp
          refine HK.out _ _ ?_
          clear HK K
          refine wpAny_ready (rs := [10]) (by kernel_rfl) (by simp) (AllReady.cons (o := ⟨_, Op.assign _, _, _, _, _⟩) rfl (fun K hK => ?_) AllReady.nil)
          have HK := Lib.hid hK
          clear hK
          go_simp
          refine HK.out _ _ ?_
          clear HK K
          refine wpAny_done (by kernel_rfl) ?_ _
          go_wp2_with fail
          go_ret
          refine ⟨by rw [E.out, strU_app]; rfl, ?_⟩
          exact below_chain (below_alloc BQ.out _) HB.out
end Go.Proofs.YtabdbgnkiebcdaaDoor

namespace Go.Proofs.YtabdbgnkiebcdaaDoor
set_option linter.unusedVariables false
set_option linter.unusedSimpArgs false
open Go.RowKit

set_option maxRecDepth 100000 in
set_option maxHeartbeats 1600000 in
theorem l11Words_any (W : List UInt8) (m c : Nat) (a : Option Addr) (X : Nat → Int) (w : World) (hW : W.length ≤ 100) (hm : m ≤ 1000) (hX : ∀ k, k < m → FewDig (X k)) (ha : Rd w a m X) :
    Calls Tryd.prog 37 #[.string (strU W), .slice a m c] w fun e w' => e = .returned (.string (strU (wordsB W (numsL m X)))) ∧ Below w.heap.size w w' := by
  have HA := Lib.hid ha
  have HX := Lib.hid hX
  have E0 := Lib.hid (show wordsB W (numsL 0 X) = W from List.append_nil W)
  clear ha hX
  go_enter Tryd.func37, Tryd.ntmps37
  go_wp2_with fail
  go_loopw [0, 5] (fun tx i wr => ∃ k : Nat, k ≤ m ∧ i = .int .i64 (k : Nat) ∧ tx = .string (strU (wordsB W (numsL k X))) ∧ Below w.heap.size w wr) (fun _ i _ => m - (intOf i).toNat)
  case atStart => exact ⟨0, Nat.zero_le _, rfl, by rw [E0.out], Below.refl _ _⟩
  case round =>
    obtain ⟨k, hk, rfl, rfl, hB⟩ := hrel
    have BR := Lib.hid hB
    by_cases hlt : k < m
    · obtain ⟨ba, oa, rfl, hca⟩ := (HA.out.below (Nat.le_refl _) hB) k hlt
      have hf := HX.out k hlt
      obtain ⟨u, hu⟩ : ∃ u : Nat, X k = (u : Int) := ⟨(X k).toNat, by have := hf.1; omega⟩
      have hu2 : u < 100000000000 := by have := hf.2; omega
      have hl := words_len W (numsL k X) (numsL_few fun j hj => HX.out j (by omega))
      rw [numsL_len] at hl
      have hs := words_snoc W k X
      rw [hu, Lib.itoa_nonneg] at hs
      rw [hu] at hca
      obtain ⟨T, hT⟩ : ∃ T, T = wordsB W (numsL k X) := ⟨_, rfl⟩
      rw [← hT] at hl hs ⊢
      have hd := dec_len 11 u (by omega) (by omega)
      have z1 : (strU T).size = T.length := strU_size _
      have z2 : (strU [32]).size = 1 := strU_size _
      have z3 : (strU (T ++ [32])).size = T.length + 1 := by rw [strU_size]; simp
      have z4 : (strU (Lib.decDigits u)).size = (Lib.decDigits u).length := strU_size _
      have s1 := fun (w : World) => run_string_add_sum (P := Tryd.prog) w (strU T) ⟨#[32]⟩ (by rw [z1, show (⟨#[32]⟩ : ByteArray).size = 1 from rfl]; omega)
      have e1 : strU T ++ ⟨#[32]⟩ = strU (T ++ [32]) := strU_app T [32]
      have s2 := fun (w : World) => run_string_add_sum (P := Tryd.prog) w (strU (T ++ [32])) (strU (Lib.decDigits u)) (by rw [z3, z4]; omega)
      have DC := Lib.hid (fun (w1 : World) => l6Dec_any u w1 (by omega))
      have HS := Lib.hid (show strU (T ++ [32]) ++ strU (Lib.decDigits u) = strU (wordsB W (numsL (k + 1) X)) by rw [strU_app, hs, List.append_assoc])
      have i1 : (0 : Int) ≤ (k : Int) := by omega
      have i2 : (k : Int) < (m : Int) := by omega
      clear hT hs hf hu hB hl hd
      go_wp2_with (go_at_call 77; refine (DC.out _).mono ?_; rintro e w1 ⟨rfl, hb⟩; have B1 := Lib.hid (BR.out.trans (hb.mono BR.out.size)); clear hb)
      go_roundw
      case rel => exact ⟨k + 1, by omega, by go_num, by rw [HS.out], B1.out⟩
      case measure => simp [intOf]; omega
    · obtain rfl : k = m := by omega
      go_wp2_with fail
      go_ret
      exact ⟨rfl, BR.out⟩
end Go.Proofs.YtabdbgnkiebcdaaDoor

namespace Go.Proofs.YtabdbgnkiebcdaaDoor
set_option linter.unusedVariables false
open Go.Lib

/-- Ahead of the place k stand the word and the numbers A, and so it is with each reading of the text. -/
def Reads (W l : List UInt8) (A : List Int) (k : Nat) : Prop :=
  k ≤ l.length ∧ l.take k = wordsB W A ∧ FewAll A ∧ ∀ L, FewAll L → l = wordsB W L → ∃ M, L = A ++ M ∧ l.drop k = flatN M

/-- No numbers behind the word make the text. -/
def NoWords (W l : List UInt8) : Prop := ∀ L, FewAll L → l ≠ wordsB W L

theorem reads_zero (W l : List UInt8) (h : W.length ≤ l.length) (hW : l.take W.length = W) : Reads W l [] W.length := by
  refine ⟨h, by rw [hW]; exact (List.append_nil W).symm, (fun x hx => by cases hx), ?_⟩
  intro L _ hl
  refine ⟨L, rfl, ?_⟩
  rw [hl]
  unfold wordsB
  exact List.drop_left

theorem no_prefix (W l : List UInt8) (h : l.length < W.length ∨ l.take W.length ≠ W) : NoWords W l := by
  intro L _ hl
  rcases h with h | h
  · rw [hl] at h; unfold wordsB at h; rw [List.length_append] at h; omega
  · apply h; rw [hl]; unfold wordsB; exact List.take_left

theorem reads_end (W l : List UInt8) (A : List Int) (h : Reads W l A l.length) : l = wordsB W A ∧ FewAll A := by
  obtain ⟨_, h1, h2, _⟩ := h
  rw [List.take_length] at h1
  exact ⟨h1, h2⟩

/-- Digits that go on as far as they can, but not beyond eleven, are those of a number of at most eleven digits that stands there. -/
theorem digs_eleven (a b r t : List UInt8) (ha : ∀ c ∈ a, DigB c) (hb : ∀ c ∈ b, DigB c) (hr : ∀ c t', r = c :: t' → ¬ DigB c) (hlen : a.length ≤ 11) (h : a ++ r = b ++ t) (ht : b.length = 11 ∨ ∀ c t', t = c :: t' → ¬ DigB c) : a = b ∧ r = t := by
  rcases ht with hb11 | ht
  · have key : ∀ (a b r t : List UInt8), (∀ c ∈ b, DigB c) → (∀ c t', r = c :: t' → ¬ DigB c) → a.length ≤ b.length → a ++ r = b ++ t → a = b ∧ r = t := by
      intro a
      induction a with
      | nil =>
        intro b r t hb hr _ h
        cases b with
        | nil => exact ⟨rfl, h⟩
        | cons c b' => exact absurd (hb c (List.mem_cons_self ..)) (hr c (b' ++ t) h)
      | cons c a' ih =>
        intro b r t hb hr hl h
        cases b with
        | nil => simp at hl
        | cons d b' =>
          simp only [List.cons_append, List.cons.injEq] at h
          obtain ⟨rfl, h⟩ := h
          obtain ⟨rfl, rfl⟩ := ih b' r t (fun x hx => hb x (List.mem_cons_of_mem _ hx)) hr (by simpa using hl) h
          exact ⟨rfl, rfl⟩
    exact key a b r t hb hr (by omega) h
  · exact digs_part a b r t ha hb hr ht h

theorem reads_step (W l : List UInt8) (A : List Int) (k e : Nat) (c : UInt8) (D : List UInt8) (h : Reads W l A k) (hk : l[k]? = some c) (he : k + 1 ≤ e) (hel : e ≤ l.length) (he11 : e - (k + 1) ≤ 11)
    (hD : D = (l.drop (k + 1)).take (e - (k + 1))) (hdig : ∀ b ∈ D, DigB b) (hstop : e - (k + 1) = 11 ∨ ∀ b, l[e]? = some b → ¬ DigB b) :
    ((c = 32 ∧ D ≠ [] ∧ D = decDigits (numV 0 D)) → Reads W l (A ++ [(numV 0 D : Int)]) e) ∧
    (¬ (c = 32 ∧ D ≠ [] ∧ D = decDigits (numV 0 D)) → NoWords W l) := by
  obtain ⟨h0, h1, h2, h3⟩ := h
  have hdl : D.length = e - (k + 1) := by rw [hD, List.length_take, List.length_drop]; omega
  have hkl : k < l.length := by omega
  have hcons : l.drop k = c :: l.drop (k + 1) := by
    rw [List.drop_eq_getElem_cons hkl]
    congr 1
    rw [List.getElem?_eq_getElem hkl] at hk
    injection hk
  have hsplit : l.drop (k + 1) = D ++ l.drop e := by
    have h4 := List.take_append_drop (e - (k + 1)) (l.drop (k + 1))
    rw [← hD, List.drop_drop, show k + 1 + (e - (k + 1)) = e by omega] at h4
    exact h4.symm
  have hrest : ∀ b t', l.drop e = b :: t' → l[e]? = some b := by
    intro b t' hb
    have h4 : (l.drop e)[0]? = some b := by rw [hb]; rfl
    rw [List.getElem?_drop] at h4
    simpa using h4
  have hst : D.length = 11 ∨ ∀ b t', l.drop e = b :: t' → ¬ DigB b := by
    rcases hstop with h5 | h5
    · left; omega
    · right; intro b t' hb; exact h5 b (hrest b t' hb)
  have hlt : numV 0 D < 100000000000 := by
    have h6 := numV_lt D 0 D.length rfl hdig
    have h7 : (10 : Nat) ^ D.length ≤ 10 ^ 11 := Nat.pow_le_pow_right (by omega) (by omega)
    omega
  -- each reading goes on so
  have hgo : ∀ L, FewAll L → l = wordsB W L → ∃ x M, L = A ++ x :: M ∧ c = 32 ∧ D = decDigits x.toNat ∧ l.drop e = flatN M := by
    intro L hL hl
    obtain ⟨M, hM, hf⟩ := h3 L hL hl
    rw [hcons] at hf
    rcases flatN_head M with ⟨h8, _⟩ | ⟨x, r, rfl, h8⟩
    · rw [h8] at hf; cases hf
    · rw [h8] at hf
      injection hf with hc hf
      have hx : FewDig x := hL x (by rw [hM]; exact List.mem_append_right _ (List.mem_cons_self ..))
      rw [hsplit, itoa_few hx] at hf
      have hx11 : (decDigits x.toNat).length ≤ 11 := dec_len 11 _ (by omega) (by have := hx.1; have := hx.2; omega)
      obtain ⟨h9, h10⟩ := digs_eleven _ _ _ _ (dec_dig _) hdig (flatN_nodig r) hx11 hf.symm hst
      exact ⟨x, r, hM, hc, h9.symm, h10.symm⟩
  constructor
  · rintro ⟨hc, hne, hv⟩
    refine ⟨hel, ?_, ?_, ?_⟩
    · have h4 : l.take e = l.take k ++ c :: D := by
        have h5 : e = k + (1 + D.length) := by omega
        rw [h5, List.take_add, hcons, hsplit]
        congr 1
        rw [Nat.add_comm 1 D.length, List.take_succ_cons, List.take_left]
      rw [h4, h1, hc]
      unfold wordsB
      rw [flatN_snoc, ← List.append_assoc]
      rw [itoa_nonneg]
      exact congrArg (fun z => W ++ flatN A ++ 32 :: z) hv
    · intro x hx
      rcases List.mem_append.1 hx with hx | hx
      · exact h2 x hx
      · rw [List.mem_singleton] at hx
        subst hx
        exact ⟨by omega, by omega⟩
    · intro L hL hl
      obtain ⟨x, M, hM, _, hDx, hf⟩ := hgo L hL hl
      refine ⟨M, ?_, hf⟩
      have hx : FewDig x := hL x (by rw [hM]; exact List.mem_append_right _ (List.mem_cons_self ..))
      have h4 : numV 0 D = x.toNat := by rw [hDx, dec_val]
      have h5 : (numV 0 D : Int) = x := by have := hx.1; omega
      rw [h5, hM]; simp
  · intro hno L hL hl
    obtain ⟨x, M, hM, hc, hDx, hf⟩ := hgo L hL hl
    apply hno
    refine ⟨hc, ?_, ?_⟩
    · rw [hDx]; exact dec_ne _
    · rw [hDx, dec_val]
end Go.Proofs.YtabdbgnkiebcdaaDoor

namespace Go.Proofs.YtabdbgnkiebcdaaDoor
set_option linter.unusedVariables false

section
open Go.RowKit
/-- n bytes. -/
def RdB (w : World) (a : Option Addr) (n : Nat) (B : Nat → Nat) : Prop := ∀ k, k < n → B k < 256 ∧ ∃ b o, a = some ⟨b, o, none⟩ ∧ w.cell? ⟨b, o + k, none⟩ = some (.int .u8 (B k : Nat))
theorem RdB.below {w w' : World} {B : Nat} {a : Option Addr} {n : Nat} {X : Nat → Nat} (h : RdB w a n X) (hB : w.heap.size ≤ B) (hb : Below B w w') : RdB w' a n X := by
  intro k hk
  obtain ⟨h1, b, o, ha, hc⟩ := h k hk
  exact ⟨h1, b, o, ha, (hb.cell (p := ⟨b, o + k, none⟩) (Nat.lt_of_lt_of_le (World.block_lt_of_cell? _ _ hc) hB)).trans hc⟩
theorem RdB.keeps {w w' : World} {lo hi : Nat} {a : Option Addr} {n : Nat} {X : Nat → Nat} (h : RdB w a n X) (hd : ∀ b o, a = some ⟨b, o, none⟩ → b < lo ∨ hi ≤ b) (hk : Keeps lo hi w w') : RdB w' a n X := by
  intro k hkn
  obtain ⟨h1, b, o, ha, hc⟩ := h k hkn
  exact ⟨h1, b, o, ha, (hk.cell (p := ⟨b, o + k, none⟩) (hd b o ha)).trans hc⟩
theorem RdB.sub {w : World} {a : Option Addr} {n m : Nat} {X : Nat → Nat} (h : RdB w a n X) (hm : m ≤ n) : RdB w a m X := fun k hk => h k (by omega)

/-- A reader in block r: its bytes, its place. -/
def RdrAt (w : World) (r : Nat) (a : Option Addr) (n c p : Nat) : Prop := w.heap[r]? = some (.cells #[.slice a n c, .int .i64 (p : Int)] 90 (0, 0))
namespace RdrAt
variable {w w' : World} {r : Nat} {a : Option Addr} {n c p : Nat}
theorem cell0 (h : RdrAt w r a n c p) : w.cell? ⟨r, 0, none⟩ = some (.slice a n c) := cell_of_row w r 0 _ _ (0, 0) h
theorem cell1 (h : RdrAt w r a n c p) : w.cell? ⟨r, 1, none⟩ = some (.int .i64 (p : Int)) := cell_of_row w r 1 _ _ (0, 0) h
theorem frozen (h : RdrAt w r a n c p) (j : Nat) : w.frozen? ⟨r, j, none⟩ = false := frozen_of_row w r j _ _ h
theorem lt (h : RdrAt w r a n c p) : r < w.heap.size := (Array.getElem?_eq_some_iff.1 h).1
theorem of_block (h : RdrAt w r a n c p) (e : w'.heap[r]? = w.heap[r]?) : RdrAt w' r a n c p := e.trans h
theorem next (h : RdrAt w r a n c p) (q : Nat) : RdrAt ((w.setCell ⟨r, 1, none⟩ (.int .i64 ((p : Int) + 1))).drewN q) r a n c (p + 1) := by
  have := heap_setCell_same w r 1 _ _ (.int .i64 ((p : Int) + 1)) h
  unfold RdrAt
  rw [World.heap_drewN, this]
  rfl
end RdrAt

theorem bits_xor_i64 (a b : Nat) (ha : a < 4611686018427387904) (hb : b < 4611686018427387904) : bits .xor .i64 (a : Int) (b : Int) = ((a ^^^ b : Nat) : Int) := by
  have hx : a ^^^ b < 2 ^ 62 := Nat.xor_lt_two_pow (by omega) (by omega)
  show IntKind.i64.wrap ((BitVec.ofInt 64 (a : Int) ^^^ BitVec.ofInt 64 (b : Int)).toNat : Int) = _
  rw [BitVec.toNat_xor, ofInt64_nat a (by omega), ofInt64_nat b (by omega), IntKind.wrap_i64]
  omega

/-- What a pick hands back. -/
def Picked (r : Nat) (a : Option Addr) (n c p : Nat) (m : Nat) (w : World) (e : Ending) (w' : World) : Prop :=
  ∃ x : Nat, e = .returned (.int .i64 (x : Int)) ∧ x < m ∧ RdrAt w' r a n c (p + 1) ∧ Keeps r (r + 1) w w'

theorem keeps_next {w : World} {r : Nat} (v : Value) (q : Nat) : Keeps r (r + 1) w ((w.setCell ⟨r, 1, none⟩ v).drewN q) :=
  ⟨rfl, rfl, rfl, by simp [World.setCell], fun k hk => Below.heap_setCell w ⟨r, 1, none⟩ v k (by show k ≠ r; omega)⟩

set_option maxHeartbeats 1600000 in
theorem pick_none (r c p m : Nat) (a : Option Addr) (w : World) (hr : RdrAt w r a 0 c p) (hp : p ≤ 1000000) (hm1 : 1 ≤ m) (hm : m ≤ 1000000) :
    Calls Tryd.prog 66 #[.pointer (some ⟨r, 0, none⟩), .int .i64 m] w (Picked r a 0 c p m w) := by
  have hc0 := hr.cell0
  have hc1 := hr.cell1
  have hf1 := hr.frozen 1
  have HR := Lib.hid hr
  clear hr
  go_enter Tryd.func66, Tryd.ntmps66
  go_wp2
  go_ret
  exact ⟨0, rfl, hm1, HR.out.next 0, keeps_next _ 0⟩

set_option maxHeartbeats 1600000 in
theorem pick_byte (r n c p m : Nat) (a : Option Addr) (B : Nat → Nat) (w : World) (hr : RdrAt w r a n c p) (hb : RdB w a n B) (hra : ∀ b o, a = some ⟨b, o, none⟩ → b ≠ r) (hpn : p < n) (hn : n ≤ 2000) (hm1 : 1 ≤ m) (hm : m ≤ 1000000) :
    Calls Tryd.prog 66 #[.pointer (some ⟨r, 0, none⟩), .int .i64 m] w (Picked r a n c p m w) := by
  have hc0 := hr.cell0
  have hc1 := hr.cell1
  have hf1 := hr.frozen 1
  have HR := Lib.hid hr
  obtain ⟨h256, ba, oa, rfl, hca0⟩ := hb p hpn
  have hne := hra ba oa rfl
  have hca : (w.setCell ⟨r, 1, none⟩ (.int .i64 ((p : Int) + 1))).cell? ⟨ba, oa + p, none⟩ = some (.int .u8 (B p : Nat)) := by
    rw [World.cell?_of_block (w := w) (Below.heap_setCell _ _ _ _ (by show ba ≠ r; exact hne))]; exact hca0
  clear hr hb hra hca0
  have HM := Lib.hid (Nat.mod_lt (B p) hm1)
  go_enter Tryd.func66, Tryd.ntmps66
  go_wp2
  go_ret
  exact ⟨B p % m, by rw [Int.natCast_emod]; rfl, HM.out, HR.out.next 0, keeps_next _ 0⟩

set_option maxHeartbeats 3200000 in
theorem pick_mix (r n c p m : Nat) (a : Option Addr) (B : Nat → Nat) (w : World) (hr : RdrAt w r a n c p) (hb : RdB w a n B) (hra : ∀ b o, a = some ⟨b, o, none⟩ → b ≠ r) (hn1 : 1 ≤ n) (hpn : n ≤ p) (hn : n ≤ 2000) (hp : p ≤ 1000000) (hm1 : 1 ≤ m) (hm : m ≤ 1000000) :
    Calls Tryd.prog 66 #[.pointer (some ⟨r, 0, none⟩), .int .i64 m] w (Picked r a n c p m w) := by
  obtain ⟨W1, hW1⟩ : ∃ W1, W1 = w.setCell ⟨r, 1, none⟩ (.int .i64 ((p : Int) + 1)) := ⟨_, rfl⟩
  obtain ⟨i1, hi1⟩ : ∃ i1, i1 = p % n := ⟨_, rfl⟩
  obtain ⟨i2, hi2⟩ : ∃ i2, i2 = (p * 7 + 3) % n := ⟨_, rfl⟩
  obtain ⟨q, hq⟩ : ∃ q, q = p / n := ⟨_, rfl⟩
  have hl1 : i1 < n := by rw [hi1]; exact Nat.mod_lt _ hn1
  have hl2 : i2 < n := by rw [hi2]; exact Nat.mod_lt _ hn1
  have hlq : q ≤ p := by rw [hq]; exact Nat.div_le_self _ _
  obtain ⟨h256, ba, oa, rfl, hca0⟩ := hb i1 hl1
  obtain ⟨h256', hca1⟩ : B i2 < 256 ∧ w.cell? ⟨ba, oa + i2, none⟩ = some (.int .u8 (B i2 : Nat)) := by
    obtain ⟨h1, b', o', he, hc⟩ := hb i2 hl2
    cases he; exact ⟨h1, hc⟩
  have hne := hra ba oa rfl
  obtain ⟨b1, hb1⟩ : ∃ b1, b1 = B i1 := ⟨_, rfl⟩
  obtain ⟨b2, hb2⟩ : ∃ b2, b2 = B i2 := ⟨_, rfl⟩
  rw [← hb1] at h256 hca0
  rw [← hb2] at h256' hca1
  have hd1 : W1.cell? ⟨ba, oa + i1, none⟩ = some (.int .u8 (b1 : Nat)) := by rw [hW1, World.cell?_of_block (w := w) (Below.heap_setCell _ _ _ _ (by show ba ≠ r; exact hne))]; exact hca0
  have hd2 : W1.cell? ⟨ba, oa + i2, none⟩ = some (.int .u8 (b2 : Nat)) := by rw [hW1, World.cell?_of_block (w := w) (Below.heap_setCell _ _ _ _ (by show ba ≠ r; exact hne))]; exact hca1
  have hR1 := hr.next 0
  have hD1 : RdrAt W1 r (some ⟨ba, oa, none⟩) n c (p + 1) := by rw [hW1]; exact hR1
  have hK1 : Keeps r (r + 1) w W1 := by rw [hW1]; exact keeps_next _ 0
  have hc0 := hr.cell0
  have hc1 := hr.cell1
  have hf1 := hr.frozen 1
  have he0 := hD1.cell0
  have hm0 : (p : Int).tmod (n : Int) = (i1 : Int) := by rw [Int.tmod_eq_emod_of_nonneg (by omega), ← Int.natCast_emod, hi1]
  have hm2 : ((p : Int) * 7 + 3).tmod (n : Int) = (i2 : Int) := by rw [Int.tmod_eq_emod_of_nonneg (by omega), hi2, Int.natCast_emod]; rfl
  have hm3 : (p : Int).tdiv (n : Int) = (q : Int) := by rw [Int.tdiv_eq_ediv_of_nonneg (by omega), hq, Int.natCast_ediv]
  obtain ⟨N, hN⟩ : ∃ N : Nat, N = b1 * 131 + b2 * 1117 + p * 29 + q * 53 := ⟨_, rfl⟩
  have hN62 : N < 4611686018427387904 := by omega
  have hS : (b1 : Int) * 131 + (b2 : Int) * 1117 + (p : Int) * 29 + (q : Int) * 53 = (N : Int) := by omega
  obtain ⟨Y, hY⟩ : ∃ Y, Y = N ^^^ N / 64 := ⟨_, rfl⟩
  have hX : bits .xor .i64 (N : Int) ((N : Int) / 64) = (Y : Int) := by
    rw [hY, show ((N : Int) / 64) = ((N / 64 : Nat) : Int) by omega]
    exact bits_xor_i64 N (N / 64) hN62 (by omega)
  have hY62 : Y < 4611686018427387904 := by rw [hY]; exact Nat.xor_lt_two_pow (n := 62) (by omega) (by omega)
  have hwp : IntKind.i64.wrap ((p : Int) * 7) = (p : Int) * 7 := IntWalk.i64_in _ (by omega)
  have hwp2 : IntKind.i64.wrap ((p : Int) * 7 + 3) = (p : Int) * 7 + 3 := IntWalk.i64_in _ (by omega)
  have hw1 : IntKind.i64.wrap (b1 : Int) = (b1 : Int) := IntWalk.i64_in _ (by omega)
  have hw2 : IntKind.i64.wrap (b2 : Int) = (b2 : Int) := IntWalk.i64_in _ (by omega)
  have hw3 : IntKind.i64.wrap ((b1 : Int) * 131) = (b1 : Int) * 131 := IntWalk.i64_in _ (by omega)
  have hw4 : IntKind.i64.wrap ((b2 : Int) * 1117) = (b2 : Int) * 1117 := IntWalk.i64_in _ (by omega)
  have hw5 : IntKind.i64.wrap ((b1 : Int) * 131 + (b2 : Int) * 1117) = (b1 : Int) * 131 + (b2 : Int) * 1117 := IntWalk.i64_in _ (by omega)
  have hw6 : IntKind.i64.wrap ((p : Int) * 29) = (p : Int) * 29 := IntWalk.i64_in _ (by omega)
  have hw7 : IntKind.i64.wrap ((b1 : Int) * 131 + (b2 : Int) * 1117 + (p : Int) * 29) = (b1 : Int) * 131 + (b2 : Int) * 1117 + (p : Int) * 29 := IntWalk.i64_in _ (by omega)
  have hw8 : IntKind.i64.wrap ((q : Int) * 53) = (q : Int) * 53 := IntWalk.i64_in _ (by omega)
  have hw9 : IntKind.i64.wrap ((b1 : Int) * 131 + (b2 : Int) * 1117 + (p : Int) * 29 + (q : Int) * 53) = (b1 : Int) * 131 + (b2 : Int) * 1117 + (p : Int) * 29 + (q : Int) * 53 := IntWalk.i64_in _ (by omega)
  have hz : ((n : Int) == 0) = false := by simp; omega
  have hz2 : ¬ (n : Int) = 0 := by omega
  have HD := Lib.hid hD1
  have HK := Lib.hid hK1
  have HM := Lib.hid (Nat.mod_lt Y hm1)
  have QW := Lib.hid hW1
  have HS := Lib.hid hS
  have HX := Lib.hid hX
  have Hw := Lib.hid (And.intro hm0 (And.intro hm2 (And.intro hm3 (And.intro hwp (And.intro hwp2 (And.intro hw1 (And.intro hw2 (And.intro hw3 (And.intro hw4 (And.intro hw5 (And.intro hw6 (And.intro hw7 (And.intro hw8 hw9)))))))))))))
  have he1 := hd1
  have he2 := hd2
  have HE := Lib.hid (And.intro he0 (And.intro hd1 hd2))
  clear hr hb hra hca0 hca1 hR1 hD1 hK1 hm0 hm2 hm3 hN hY hX hS hi1 hi2 hq hb1 hb2 hW1 hwp hwp2 hw1 hw2 hw3 hw4 hw5 hw6 hw7 hw8 hw9 he0 hd1 hd2 he1 he2
  go_enter Tryd.func66, Tryd.ntmps66
  go_wp2
  rw [← QW.out]
  obtain ⟨hm0, hm2, hm3, hwp, hwp2, hw1, hw2, hw3, hw4, hw5, hw6, hw7, hw8, hw9⟩ := Hw.out
  obtain ⟨he0, hd1, hd2⟩ := HE.out
  clear hc0 hc1 hf1
  go_quiet (fail)
  rw [HS.out]
  clear hm0 hm2 hm3 hwp hwp2 hw1 hw2 hw3 hw4 hw5 hw6 hw7 hw8 hw9 he0 hd1 hd2 hz hz2
  have hX := HX.out
  go_wp2
  go_ret
  exact ⟨Y % m, by rw [Int.natCast_emod]; rfl, HM.out, HD.out.of_block rfl, HK.out.trans ⟨rfl, rfl, rfl, rfl, fun _ _ => rfl⟩⟩

/-- THE READER's pick: some number of the range. -/
theorem pick_any (r n c p m : Nat) (a : Option Addr) (B : Nat → Nat) (w : World) (hr : RdrAt w r a n c p) (hb : RdB w a n B) (hra : 0 < n → ∀ b o, a = some ⟨b, o, none⟩ → b ≠ r) (hn : n ≤ 2000) (hp : p ≤ 1000000) (hm1 : 1 ≤ m) (hm : m ≤ 1000000) :
    Calls Tryd.prog 66 #[.pointer (some ⟨r, 0, none⟩), .int .i64 m] w (Picked r a n c p m w) := by
  by_cases h0 : n = 0
  · subst h0; exact pick_none r c p m a w hr hp hm1 hm
  · by_cases h1 : p < n
    · exact pick_byte r n c p m a B w hr hb (hra (by omega)) h1 hn hm1 hm
    · exact pick_mix r n c p m a B w hr hb (hra (by omega)) (by omega) (by omega) hn hp hm1 hm

/-- l6Open: a new reader. -/
def Opened (a : Option Addr) (n : Nat) (w : World) (e : Ending) (w' : World) : Prop :=
  ∃ n' c', e = .returned (.pointer (some ⟨w.heap.size, 0, none⟩)) ∧ n' ≤ 2000 ∧ n' ≤ n ∧ RdrAt w' w.heap.size a n' c' 0 ∧ w'.heap.size = w.heap.size + 1 ∧ Below w.heap.size w w'

set_option maxHeartbeats 800000 in
theorem l6Open_any (n c : Nat) (a : Option Addr) (w : World) (hn : n ≤ 1048576) (hc : n ≤ c) :
    Calls Tryd.prog 64 #[.slice a n c] w (Opened a n w) := by
  by_cases h : n ≤ 2000
  · go_enter Tryd.func64, Tryd.ntmps64
    go_wp2
    go_ret
    exact ⟨n, c, rfl, h, Nat.le_refl _, heap_alloc_last w _, by simp, (Below.refl _ _).alloc (Nat.le_refl _) _⟩
  · have hd : 2000 < n := by omega
    clear h
    go_enter Tryd.func64, Tryd.ntmps64
    go_wp2
    go_ret
    exact ⟨2000, c, rfl, Nat.le_refl _, by omega, heap_alloc_last w _, by simp, (Below.refl _ _).alloc (Nat.le_refl _) _⟩
end

section
open Go.RowKit
/-- Below B all is as it was, but for block r. -/
structure ButR (r B : Nat) (w w' : World) : Prop where
  os : w'.os = w.os
  tape : w'.tape = w.tape
  output : w'.output = w.output
  size : w.heap.size ≤ w'.heap.size
  block : ∀ k, k < B → k ≠ r → w'.heap[k]? = w.heap[k]?

namespace ButR
variable {r B B' : Nat} {a b c : World}
theorem refl (r B : Nat) (w : World) : ButR r B w w := ⟨rfl, rfl, rfl, Nat.le_refl _, fun _ _ _ => rfl⟩
theorem trans (h : ButR r B a b) (k : ButR r B b c) : ButR r B a c := ⟨k.os.trans h.os, k.tape.trans h.tape, k.output.trans h.output, Nat.le_trans h.size k.size, fun i h1 h2 => (k.block i h1 h2).trans (h.block i h1 h2)⟩
theorem mono (h : ButR r B a b) (hB : B' ≤ B) : ButR r B' a b := ⟨h.os, h.tape, h.output, h.size, fun k h1 h2 => h.block k (by omega) h2⟩
theorem keeps (h : Keeps r (r + 1) a b) : ButR r B a b := ⟨h.os, h.tape, h.output, Nat.le_of_eq h.size.symm, fun k _ h2 => h.block k (by omega)⟩
theorem below (h : Below B a b) : ButR r B a b := ⟨h.os, h.tape, h.output, h.size, fun k h1 _ => h.block k h1⟩
theorem alloc (h : ButR r B a b) (hB : B ≤ b.heap.size) (o : Obj) : ButR r B a (b.alloc o) := h.trans (below ((Below.refl _ _).alloc hB o))
theorem grown {row : Option Nat} (h : ButR r B a b) (hg : b.grownBy c row) (hB : B ≤ b.heap.size) (hr : ∀ k, row = some k → B ≤ k) : ButR r B a c := h.trans (below ((Below.refl B b).grown hg hB hr))
theorem setCell (h : ButR r B a b) {p : Addr} (hp : B ≤ p.block) (v : Value) : ButR r B a (b.setCell p v) := h.trans (below ((Below.refl B b).setCell hp v))
theorem toBelow (h : ButR r B a b) (hB : r ≤ B) : Below r a b := ⟨h.os, h.tape, h.output, h.size, fun k hk => h.block k (by omega) (by omega)⟩
end ButR

theorem RdB.but {w w' : World} {r B : Nat} {a : Option Addr} {n : Nat} {X : Nat → Nat} (h : RdB w a n X) (ha : 0 < n → ∀ b o, a = some ⟨b, o, none⟩ → b < B ∧ b ≠ r) (hk : ButR r B w w') : RdB w' a n X := by
  intro k hkn
  obtain ⟨h1, b, o, e, hc⟩ := h k hkn
  exact ⟨h1, b, o, e, by rw [World.cell?_of_block (w := w) (a := ⟨b, o + k, none⟩) (hk.block b (ha (by omega) b o e).1 (ha (by omega) b o e).2)]; exact hc⟩
theorem owns_but {w w' : World} {r base e n : Nat} {v : Value} {xs : List Value} (h : w.ownsRow base e 1 v n xs) (hr : r < base) (hk : Keeps r (r + 1) w w') : w'.ownsRow base e 1 v n xs := by
  obtain ⟨k1, (k2 | ⟨g, cap, cur, k3, k4, k5, k6⟩)⟩ := h
  · exact ⟨k1, .inl k2⟩
  · exact ⟨k1, .inr ⟨g, cap, cur, k3, k4, (hk.block g (by omega)).trans k5, k6⟩⟩
theorem RdrAt.alloc {w : World} {r : Nat} {a : Option Addr} {n c p : Nat} (h : RdrAt w r a n c p) (o : Obj) : RdrAt (w.alloc o) r a n c p := h.of_block (Below.heap_alloc w o r h.lt)
theorem RdrAt.grown {w w' : World} {r : Nat} {a : Option Addr} {n c p : Nat} {row : Option Nat} (h : RdrAt w r a n c p) (hg : w.grownBy w' row) (hr : row ≠ some r) : RdrAt w' r a n c p := h.of_block (hg.block _ h.lt (fun e => hr e.symm))

/-- One of nine numbers. -/
theorem nine {w : World} {g t : Nat} {x : Nat} {v0 v1 v2 v3 v4 v5 v6 v7 v8 : Int} (h : w.heap[g]? = some (.cells #[.int .i64 v0, .int .i64 v1, .int .i64 v2, .int .i64 v3, .int .i64 v4, .int .i64 v5, .int .i64 v6, .int .i64 v7, .int .i64 v8] t (0, 0))) (hx : x < 9) :
    ∃ v : Int, w.cell? ⟨g, x, none⟩ = some (.int .i64 v) := by
  rw [cell_of_row w g x _ t (0, 0) h]
  have : x = 0 ∨ x = 1 ∨ x = 2 ∨ x = 3 ∨ x = 4 ∨ x = 5 ∨ x = 6 ∨ x = 7 ∨ x = 8 := by omega
  rcases this with rfl | rfl | rfl | rfl | rfl | rfl | rfl | rfl | rfl <;> exact ⟨_, rfl⟩
end

section
open Go.RowKit
theorem making_but {tS B r i : Nat} {w w' : World} {v : Value} {G Cp L : Nat → Nat} {X : Nat → Nat → Int} (h : Making tS B w v i G Cp L X) (hr : r < B) (hk : Keeps r (r + 1) w w') : Making tS B w' v i G Cp L X := by
  obtain ⟨h1, h2, h3⟩ := h
  refine ⟨owns_but h1 hr hk, fun k hki => ?_, h3⟩
  obtain ⟨k1, k2, k3, k4⟩ := h2 k hki
  exact ⟨k1, by rw [hk.size]; exact k2, k3, k4.of_block (hk.block _ (by omega))⟩
theorem rd_but {w w' : World} {r g m : Nat} {X : Nat → Int} (h : Rd w (some ⟨g, 0, none⟩) m X) (hg : g ≠ r) (hk : Keeps r (r + 1) w w') : Rd w' (some ⟨g, 0, none⟩) m X := by
  intro k hkm
  obtain ⟨b, o, e, hc⟩ := h k hkm
  refine ⟨b, o, e, ?_⟩
  simp only [Option.some.injEq, Addr.mk.injEq, and_true] at e
  obtain ⟨rfl, rfl⟩ := e
  rw [World.cell?_of_block (w := w) (a := ⟨g, 0 + k, none⟩) (hk.block g (by omega))]
  exact hc
/-- One of six numbers from 1 to 12. -/
theorem six {w : World} {g t : Nat} {x : Nat} (h : w.heap[g]? = some (.cells #[.int .i64 1, .int .i64 2, .int .i64 3, .int .i64 4, .int .i64 6, .int .i64 12] t (0, 0))) (hx : x < 6) :
    ∃ v : Nat, (1 ≤ v ∧ v ≤ 12) ∧ w.cell? ⟨g, x, none⟩ = some (.int .i64 (v : Int)) := by
  rw [cell_of_row w g x _ t (0, 0) h]
  have : x = 0 ∨ x = 1 ∨ x = 2 ∨ x = 3 ∨ x = 4 ∨ x = 5 := by omega
  rcases this with rfl | rfl | rfl | rfl | rfl | rfl
  · exact ⟨1, by omega, rfl⟩
  · exact ⟨2, by omega, rfl⟩
  · exact ⟨3, by omega, rfl⟩
  · exact ⟨4, by omega, rfl⟩
  · exact ⟨6, by omega, rfl⟩
  · exact ⟨12, by omega, rfl⟩
end

end Go.Proofs.YtabdbgnkiebcdaaDoor

namespace Go.Proofs.YtabdbgnkiebcdaaDoor
set_option linter.unusedVariables false
set_option linter.unusedSimpArgs false
open Go.RowKit

/-- append(x, y...) at a step of a region that draws: the old row or a new one, also where nothing is appended. -/
theorem step_append_any {P : Program} (w : World) {ops : Array Oper} {o : Oper} {a : Act} {K : Act → World → Prop} {Q : Exit → Act → World → Prop} {E : Prop} (hgd : o.guard = none) (s x : Operand) (t : TypeId)
    (ho : o.op = .call { callee := .builtin .append, args := #[s, x], argTypes := #[t, t] })
    (base : Nat) (e : TypeId) (i : TypeInfo) (ht : P.underlying t = some (.slice e)) (hi : P.info? e = some i) (hz : i.zero = some (.int .i64 0)) (hsize : i.size = 1) (hby : i.bytes = 8)
    (g n cap : Nat) (xs : List Value) (hs : a.eval s = .slice (some ⟨g, 0, none⟩) n cap) (hown : w.ownsRow base e 1 (.slice (some ⟨g, 0, none⟩) n cap) n xs)
    (ad : Addr) (m c : Nat) (news : List Value) (hx : a.eval x = .slice (some ad) m c) (hl : news.length = m) (hnews : ∀ j u, news[j]? = some u → w.cell? (ad.add j) = some u) (h1 : ∀ u ∈ news, u.oneCell' = true)
    (hn : n + m ≤ 1048576) (hbase : base ≤ w.heap.size)
    (h : ∀ g' cap' w', w'.ownsRow base e 1 (.slice (some ⟨g', 0, none⟩) (n + m) cap') (n + m) (xs ++ news) → w.grownBy w' (some g) → K (a.put o.dst (.slice (some ⟨g', 0, none⟩) (n + m) cap')) w') :
    if Region.wanted o (yielded ops a.tmps) = true then Oper.wp P o a w K Q else E := by
  have hw : Region.wanted o (yielded ops a.tmps) = true := by simp [Region.wanted, hgd]
  rw [if_pos hw]
  obtain ⟨v', w', hr, h2, h3, h4, _⟩ := run_append_own_at (P := P) w base t o.type e i (.int .i64 0) 1 8 ht hi hz hsize hby rfl (by decide) (.slice (some ⟨g, 0, none⟩) n cap) n xs hown ad m c news (by omega) hnews h1 (by unfold maxLen; omega) (by omega) hbase
  have hne : v' ≠ .slice none 0 0 := fun e => by have := (h4.1 e).1; cases this
  obtain ⟨g', cap', rfl⟩ : ∃ g' cap', v' = .slice (some ⟨g', 0, none⟩) (n + m) cap' := by
    obtain ⟨_, (⟨h5, _⟩ | ⟨g', cap', _, h5, _⟩)⟩ := h2
    · exact absurd h5 hne
    · exact ⟨g', cap', h5⟩
  unfold Oper.wp execOp
  simp only [ho, resolve, invoke, builtin, Sem.run_bind, Sem.run_pure, Result.andThen_ok, List.map_toArray, List.map_cons, List.map_nil, hs, hx, hr]
  exact h g' cap' w' h2 h3

/-- append(x, y...) in a plain region. -/
theorem wpList_append_any {P : Program} (w : World) {ops : Array Oper} {rest : List Oper} {o : Oper} {a : Act} {Q : Exit → Act → World → Prop} (hgd : o.guard = none) (s x : Operand) (t : TypeId)
    (ho : o.op = .call { callee := .builtin .append, args := #[s, x], argTypes := #[t, t] })
    (base : Nat) (e : TypeId) (i : TypeInfo) (ht : P.underlying t = some (.slice e)) (hi : P.info? e = some i) (hz : i.zero = some (.int .i64 0)) (hsize : i.size = 1) (hby : i.bytes = 8)
    (g n cap : Nat) (xs : List Value) (hs : a.eval s = .slice (some ⟨g, 0, none⟩) n cap) (hown : w.ownsRow base e 1 (.slice (some ⟨g, 0, none⟩) n cap) n xs)
    (ad : Addr) (m c : Nat) (news : List Value) (hx : a.eval x = .slice (some ad) m c) (hl : news.length = m) (hnews : ∀ j u, news[j]? = some u → w.cell? (ad.add j) = some u) (h1 : ∀ u ∈ news, u.oneCell' = true)
    (hn : n + m ≤ 1048576) (hbase : base ≤ w.heap.size)
    (h : ∀ g' cap' w', w'.ownsRow base e 1 (.slice (some ⟨g', 0, none⟩) (n + m) cap') (n + m) (xs ++ news) → w.grownBy w' (some g) → wpList P ops Q rest (a.put o.dst (.slice (some ⟨g', 0, none⟩) (n + m) cap')) w') :
    wpList P ops Q (o :: rest) a w :=
  wpList_step fun K hK => step_append_any w hgd s x t ho base e i ht hi hz hsize hby g n cap xs hs hown ad m c news hx hl hnews h1 hn hbase fun g' cap' w' a b => hK _ _ (h g' cap' w' a b)
/-- append(x, y...) at a step of a region that draws: the old row or a new one, also where nothing is appended. -/
theorem step_append_anyw {P : Program} (w : World) {ops : Array Oper} {o : Oper} {a : Act} {K : Act → World → Prop} {Q : Exit → Act → World → Prop} {E : Prop} (hw : Region.wanted o (yielded ops a.tmps) = true) (s x : Operand) (t : TypeId)
    (ho : o.op = .call { callee := .builtin .append, args := #[s, x], argTypes := #[t, t] })
    (base : Nat) (e : TypeId) (i : TypeInfo) (ht : P.underlying t = some (.slice e)) (hi : P.info? e = some i) (hz : i.zero = some (.int .i64 0)) (hsize : i.size = 1) (hby : i.bytes = 8)
    (g n cap : Nat) (xs : List Value) (hs : a.eval s = .slice (some ⟨g, 0, none⟩) n cap) (hown : w.ownsRow base e 1 (.slice (some ⟨g, 0, none⟩) n cap) n xs)
    (ad : Addr) (m c : Nat) (news : List Value) (hx : a.eval x = .slice (some ad) m c) (hl : news.length = m) (hnews : ∀ j u, news[j]? = some u → w.cell? (ad.add j) = some u) (h1 : ∀ u ∈ news, u.oneCell' = true)
    (hn : n + m ≤ 1048576) (hbase : base ≤ w.heap.size)
    (h : ∀ g' cap' w', w'.ownsRow base e 1 (.slice (some ⟨g', 0, none⟩) (n + m) cap') (n + m) (xs ++ news) → w.grownBy w' (some g) → K (a.put o.dst (.slice (some ⟨g', 0, none⟩) (n + m) cap')) w') :
    if Region.wanted o (yielded ops a.tmps) = true then Oper.wp P o a w K Q else E := by
  rw [if_pos hw]
  obtain ⟨v', w', hr, h2, h3, h4, _⟩ := run_append_own_at (P := P) w base t o.type e i (.int .i64 0) 1 8 ht hi hz hsize hby rfl (by decide) (.slice (some ⟨g, 0, none⟩) n cap) n xs hown ad m c news (by omega) hnews h1 (by unfold maxLen; omega) (by omega) hbase
  have hne : v' ≠ .slice none 0 0 := fun e => by have := (h4.1 e).1; cases this
  obtain ⟨g', cap', rfl⟩ : ∃ g' cap', v' = .slice (some ⟨g', 0, none⟩) (n + m) cap' := by
    obtain ⟨_, (⟨h5, _⟩ | ⟨g', cap', _, h5, _⟩)⟩ := h2
    · exact absurd h5 hne
    · exact ⟨g', cap', h5⟩
  unfold Oper.wp execOp
  simp only [ho, resolve, invoke, builtin, Sem.run_bind, Sem.run_pure, Result.andThen_ok, List.map_toArray, List.map_cons, List.map_nil, hs, hx, hr]
  exact h g' cap' w' h2 h3

/-- append(x, y...) in a plain region, behind a guard that holds. -/
theorem wpList_append_anyw {P : Program} (w : World) {ops : Array Oper} {rest : List Oper} {o : Oper} {a : Act} {Q : Exit → Act → World → Prop} (hw : Region.wanted o (yielded ops a.tmps) = true) (s x : Operand) (t : TypeId)
    (ho : o.op = .call { callee := .builtin .append, args := #[s, x], argTypes := #[t, t] })
    (base : Nat) (e : TypeId) (i : TypeInfo) (ht : P.underlying t = some (.slice e)) (hi : P.info? e = some i) (hz : i.zero = some (.int .i64 0)) (hsize : i.size = 1) (hby : i.bytes = 8)
    (g n cap : Nat) (xs : List Value) (hs : a.eval s = .slice (some ⟨g, 0, none⟩) n cap) (hown : w.ownsRow base e 1 (.slice (some ⟨g, 0, none⟩) n cap) n xs)
    (ad : Addr) (m c : Nat) (news : List Value) (hx : a.eval x = .slice (some ad) m c) (hl : news.length = m) (hnews : ∀ j u, news[j]? = some u → w.cell? (ad.add j) = some u) (h1 : ∀ u ∈ news, u.oneCell' = true)
    (hn : n + m ≤ 1048576) (hbase : base ≤ w.heap.size)
    (h : ∀ g' cap' w', w'.ownsRow base e 1 (.slice (some ⟨g', 0, none⟩) (n + m) cap') (n + m) (xs ++ news) → w.grownBy w' (some g) → wpList P ops Q rest (a.put o.dst (.slice (some ⟨g', 0, none⟩) (n + m) cap')) w') :
    wpList P ops Q (o :: rest) a w :=
  wpList_step fun K hK => step_append_anyw w hw s x t ho base e i ht hi hz hsize hby g n cap xs hs hown ad m c news hx hl hnews h1 hn hbase fun g' cap' w' a b => hK _ _ (h g' cap' w' a b)
theorem keepP_drew {a b : Addr} {v u : Value} {W : World} (h : W.cell? a = some v ∧ W.cell? b = some u) : W.drew.cell? a = some v ∧ W.drew.cell? b = some u := ⟨by simpa using h.1, by simpa using h.2⟩
theorem keepP_alloc {a b : Addr} {v u : Value} {W : World} (h : W.cell? a = some v ∧ W.cell? b = some u) (o : Obj) : (W.alloc o).cell? a = some v ∧ (W.alloc o).cell? b = some u :=
  ⟨(World.cell?_of_block (w := W) (a := a) (Below.heap_alloc W o _ (World.block_lt_of_cell? _ _ h.1))).trans h.1, (World.cell?_of_block (w := W) (a := b) (Below.heap_alloc W o _ (World.block_lt_of_cell? _ _ h.2))).trans h.2⟩
theorem keepP_grown {a b : Addr} {v u : Value} {W W' : World} {row : Option Nat} (h : W.cell? a = some v ∧ W.cell? b = some u) (hg : W.grownBy W' row) (hr : ∀ k, row = some k → a.block ≠ k ∧ b.block ≠ k) : W'.cell? a = some v ∧ W'.cell? b = some u :=
  ⟨hg.cell h.1 (fun e => (hr _ e.symm).1 rfl), hg.cell h.2 (fun e => (hr _ e.symm).2 rfl)⟩
theorem keepP_keeps {a b : Addr} {v u : Value} {W W' : World} {r : Nat} (h : W.cell? a = some v ∧ W.cell? b = some u) (ha : a.block ≠ r) (hb : b.block ≠ r) (hk : Keeps r (r + 1) W W') : W'.cell? a = some v ∧ W'.cell? b = some u :=
  ⟨(hk.cell (by omega)).trans h.1, (hk.cell (by omega)).trans h.2⟩

end Go.Proofs.YtabdbgnkiebcdaaDoor

namespace Go.Proofs.YtabdbgnkiebcdaaDoor
set_option linter.unusedVariables false
open Go.RowKit

theorem owns_empty {W : World} {g base e : Nat} (hh : W.heap[g]? = some (.cells #[] e (0, 0))) (hb : base ≤ g) : W.ownsRow base e 1 (.slice (some ⟨g, 0, none⟩) 0 0) 0 [] :=
  ⟨by simp, .inr ⟨g, 0, #[], rfl, hb, hh, Nat.le_refl _, Nat.zero_le _, by simp, by simp⟩⟩
/-- A list of numbers as cells. -/
theorem list_cells (xs : List Value) (h : ∀ u, u ∈ xs → ∃ z : Int, u = .int .i64 z) : ∃ Y : Nat → Int, xs = cellsL xs.length Y := by
  induction xs with
  | nil => exact ⟨fun _ => 0, rfl⟩
  | cons u xs ih =>
    obtain ⟨z, rfl⟩ := h u (by simp)
    obtain ⟨Y, e⟩ := ih (fun v hv => h v (by simp [hv]))
    refine ⟨fun k => match k with | 0 => z | k + 1 => Y k, ?_⟩
    unfold cellsL at e ⊢
    rw [List.length_cons, List.range_succ_eq_map, List.map_cons, List.map_map]
    congr 1

theorem owns_cells {w : World} {base e N : Nat} {v : Value} {xs : List Value} (h : w.ownsRow base e 1 v N xs) (hall : ∀ u, u ∈ xs → ∃ z : Int, u = .int .i64 z) : ∃ Y : Nat → Int, w.ownsRow base e 1 v N (cellsL N Y) := by
  obtain ⟨Y, e'⟩ := list_cells xs hall
  have hl := h.1
  rw [Nat.mul_one] at hl
  rw [hl] at e'
  exact ⟨Y, e' ▸ h⟩

/-- What it hands back: some row of n + 1 numbers at most, the reader gone on. -/
def DrewAny (r : Nat) (a : Option Addr) (n c p m : Nat) (w : World) (e : Ending) (w' : World) : Prop :=
  ∃ g k cap X p', e = .returned (.slice (some ⟨g, 0, none⟩) k cap) ∧ (w.heap.size ≤ g ∧ g < w'.heap.size ∧ k ≤ cap ∧ k ≤ m + 1) ∧ Rd w' (some ⟨g, 0, none⟩) k X ∧ RdrAt w' r a n c p' ∧ p' ≤ p + m + 2 ∧ ButR r w.heap.size w w'

/-- What it hands back: a table of one to five rows, of five numbers at most, and a row of six numbers at most. -/
def DrewWay (w : World) (e : Ending) (w' : World) : Prop :=
  ∃ ga N gc A L C Z g m cap X, e = .returned (.tuple #[.slice ga N gc, .slice (some ⟨g, 0, none⟩) m cap]) ∧ (1 ≤ N ∧ N ≤ 5 ∧ m ≤ cap ∧ m ≤ 6) ∧ (∀ s, s < N → L s ≤ 5) ∧ Tab w' ga N A L C Z ∧ Rd w' (some ⟨g, 0, none⟩) m X ∧ Below w.heap.size w w'
end Go.Proofs.YtabdbgnkiebcdaaDoor
