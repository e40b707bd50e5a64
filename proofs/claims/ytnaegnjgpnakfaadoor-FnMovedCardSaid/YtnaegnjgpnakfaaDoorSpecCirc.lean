/- The model's terms in memory; the model reads circles. -/
import Derived.Test.YtnaegnjgpnakfaaDoorTermModel
import Derived.Test.YtnaegnjgpnakfaaDoorInfoInts
import Derived.Test.YtnaegnjgpnakfaaDoorBox
namespace Go.Proofs.YtnaegnjgpnakfaaDoor
set_option linter.unusedVariables false
set_option linter.unusedSimpArgs false
open Go.RowKit

/-- A struct of three words lies at a place. -/
def Elem3 (w : World) (b o c : Nat) (L : ByteArray) (a : Option Addr) (n k : Nat) : Prop :=
  w.cell? ⟨b, o, none⟩ = some (.int .u8 (c : Nat)) ∧ w.cell? ⟨b, o + 1, none⟩ = some (.string L) ∧ w.cell? ⟨b, o + 2, none⟩ = some (.slice a n k)
theorem Elem3.below {w w' : World} {b o c : Nat} {L : ByteArray} {a : Option Addr} {n k : Nat} (h : Elem3 w b o c L a n k) (hb : Below w.heap.size w w') : Elem3 w' b o c L a n k := by
  have hl := World.block_lt_of_cell? w ⟨b, o, none⟩ h.1
  have hq := hb.block b hl
  exact ⟨(World.cell?_of_block (w := w) hq).trans h.1, (World.cell?_of_block (w := w) (a := ⟨b, o + 1, none⟩) hq).trans h.2.1, (World.cell?_of_block (w := w) (a := ⟨b, o + 2, none⟩) hq).trans h.2.2⟩
/-- The model's value of a term: its sign, its letters, the terms in it, in blocks at or behind B. -/
def SV (w : World) (B : Nat) : Tm → Nat → ByteArray → Option Addr → Nat → Prop
  | .keep, c, L, a, n => c = 105 ∧ L.size = 0 ∧ n = 0
  | .circ M, c, L, a, n => c = 91 ∧ (L.size = M.length ∧ ∀ j, j < M.length → bt L j = M.getD j 0 + 97) ∧ n = 0
  | .back t, c, L, a, n => c = 45 ∧ L.size = 0 ∧ n = 1 ∧ ∃ b c' L' a' n' k', a = some ⟨b, 0, none⟩ ∧ B ≤ b ∧ Elem3 w b 0 c' L' a' n' k' ∧ SV w B t c' L' a' n'
  | .times q t, c, L, a, n => c = 48 + q ∧ L.size = 0 ∧ n = 1 ∧ ∃ b c' L' a' n' k', a = some ⟨b, 0, none⟩ ∧ B ≤ b ∧ Elem3 w b 0 c' L' a' n' k' ∧ SV w B t c' L' a' n'
  | .pair x y, c, L, a, n => c = 46 ∧ L.size = 0 ∧ n = 2 ∧ ∃ b c' L' a' n' k' c2 L2 a2 n2 k2, a = some ⟨b, 0, none⟩ ∧ B ≤ b ∧ Elem3 w b 0 c' L' a' n' k' ∧ SV w B x c' L' a' n' ∧ Elem3 w b 3 c2 L2 a2 n2 k2 ∧ SV w B y c2 L2 a2 n2
theorem Elem3.keep {w w' : World} {B b o c : Nat} {L : ByteArray} {a : Option Addr} {n k : Nat} (hk : ∀ k, B ≤ k → k < w.heap.size → w'.heap[k]? = w.heap[k]?) (hb : B ≤ b) (h : Elem3 w b o c L a n k) : Elem3 w' b o c L a n k := by
  have hl := World.block_lt_of_cell? w ⟨b, o, none⟩ h.1
  have hq := hk b hb hl
  exact ⟨(World.cell?_of_block (w := w) hq).trans h.1, (World.cell?_of_block (w := w) (a := ⟨b, o + 1, none⟩) hq).trans h.2.1, (World.cell?_of_block (w := w) (a := ⟨b, o + 2, none⟩) hq).trans h.2.2⟩
theorem SV.keep {w w' : World} {B : Nat} (hk : ∀ k, B ≤ k → k < w.heap.size → w'.heap[k]? = w.heap[k]?) : ∀ {t : Tm} {c : Nat} {L : ByteArray} {a : Option Addr} {n : Nat}, SV w B t c L a n → SV w' B t c L a n
  | .keep, c, L, a, n, h => h
  | .circ M, c, L, a, n, h => h
  | .back t, c, L, a, n, ⟨h1, h2, h3, b, c', L', a', n', k', h4, h0, h5, h6⟩ => ⟨h1, h2, h3, b, c', L', a', n', k', h4, h0, h5.keep hk h0, SV.keep hk h6⟩
  | .times q t, c, L, a, n, ⟨h1, h2, h3, b, c', L', a', n', k', h4, h0, h5, h6⟩ => ⟨h1, h2, h3, b, c', L', a', n', k', h4, h0, h5.keep hk h0, SV.keep hk h6⟩
  | .pair x y, c, L, a, n, ⟨h1, h2, h3, b, c', L', a', n', k', c2, L2, a2, n2, k2, h4, h0, h5, h6, h7, h8⟩ => ⟨h1, h2, h3, b, c', L', a', n', k', c2, L2, a2, n2, k2, h4, h0, h5.keep hk h0, SV.keep hk h6, h7.keep hk h0, SV.keep hk h8⟩
theorem SV.below {w w' : World} {B : Nat} {t : Tm} {c : Nat} {L : ByteArray} {a : Option Addr} {n : Nat} (hb : Below w.heap.size w w') (h : SV w B t c L a n) : SV w' B t c L a n := SV.keep (fun k _ h2 => hb.block k h2) h
theorem SV.mono {w : World} {B B' : Nat} (hB : B' ≤ B) : ∀ {t : Tm} {c : Nat} {L : ByteArray} {a : Option Addr} {n : Nat}, SV w B t c L a n → SV w B' t c L a n
  | .keep, c, L, a, n, h => h
  | .circ M, c, L, a, n, h => h
  | .back t, c, L, a, n, ⟨h1, h2, h3, b, c', L', a', n', k', h4, h0, h5, h6⟩ => ⟨h1, h2, h3, b, c', L', a', n', k', h4, Nat.le_trans hB h0, h5, SV.mono hB h6⟩
  | .times q t, c, L, a, n, ⟨h1, h2, h3, b, c', L', a', n', k', h4, h0, h5, h6⟩ => ⟨h1, h2, h3, b, c', L', a', n', k', h4, Nat.le_trans hB h0, h5, SV.mono hB h6⟩
  | .pair x y, c, L, a, n, ⟨h1, h2, h3, b, c', L', a', n', k', c2, L2, a2, n2, k2, h4, h0, h5, h6, h7, h8⟩ => ⟨h1, h2, h3, b, c', L', a', n', k', c2, L2, a2, n2, k2, h4, Nat.le_trans hB h0, h5, SV.mono hB h6, h7, SV.mono hB h8⟩

/-- No term, or a term and the place behind it. -/
abbrev OkS (w : World) (B q c : Nat) (L : ByteArray) (a : Option Addr) (n : Nat) : Option (Tm × Nat) → Prop
  | none => q = 0
  | some (t, p) => q = p ∧ SV w B t c L a n
/-- What the model's readers hand back: a term and the place behind it, or 0. -/
def RetS (w : World) (o : Option (Tm × Nat)) (e : Ending) (w' : World) : Prop :=
  Below w.heap.size w w' ∧ ∃ (c : Nat) (L : ByteArray) (a : Option Addr) (n k q : Nat), e = .returned (.tuple #[.agg #[.int .u8 (c : Nat), .string L, .slice a n k], .int .i64 (q : Nat)]) ∧ OkS w' w.heap.size q c L a n o

/-- A store is next. -/
theorem st_next {P : Program} {ops : Array Oper} {rest : List Oper} {a : Act} {w : World} {Q : Exit → Act → World → Prop} {d : Option Nat} {ot : TypeId} {pos : String} {aft : Array Edge} {ty : TypeId} {x y : Operand}
    (h : wpList P ops Q (⟨d, Op.store ty x y, ot, pos, aft, none⟩ :: rest) a w) : wpList P ops Q (⟨d, Op.store ty x y, ot, pos, aft, none⟩ :: rest) a w := h
section
variable {P : Program} {ops : Array Oper} {rest : List Oper} {a : Act} {w : World} {Q : Exit → Act → World → Prop} {d : Option Nat} {ot : TypeId} {pos : String} {aft : Array Edge}
/-- A whole struct of three words is stored. -/
theorem row3_store (ty t : Nat) (x y : Operand) (g : Nat) (v1 v2 v3 u1 u2 u3 : Value) (hx : a.eval x = .pointer (some ⟨g, 0, none⟩)) (hy : a.eval y = .agg #[u1, u2, u3]) (hg : w.heap[g]? = some (.cells #[v1, v2, v3] t (0, 0))) (hi : (P.info? ty).map (·.size) = some 3) (h1 : u1.oneCell' = true) (h2 : u2.oneCell' = true) (h3 : u3.oneCell' = true)
    (h : ∀ w1 : World, w1.heap[g]? = some (.cells #[u1, u2, u3] t (0, 0)) → w1.heap.size = w.heap.size → (∀ k, k ≠ g → w1.heap[k]? = w.heap[k]?) → Below g w w1 → wpList P ops Q rest (a.put d undef) w1) : wpList P ops Q (⟨d, Op.store ty x y, ot, pos, aft, none⟩ :: rest) a w := by
  refine wpList_plain rfl fun K hK' => ?_
  refine wp_store_row ty x y rfl g #[u1, u2, u3] hx hy t #[v1, v2, v3] hg hi rfl (by simp [h1, h2, h3]) (hK' _ _ ?_)
  exact h _ (setRow_heap w g #[v1, v2, v3] #[u1, u2, u3] t (0, 0) hg) (by simp) (fun k hk => setRow_other w g k _ hk) (below_setRow w _ (Nat.le_refl _))
end
theorem Tryd.sizeTerm : (Tryd.prog.info? 45).map (·.size) = some 3 := by kernel_rfl
theorem results_term {fn : Func} {p q : Tmp} (h : fn.results = #[.cell p 45, .tmp q]) (tmps : Array Value) (w : World) (g : Nat) (v1 v2 v3 : Value)
    (hp : tmps.getD p undef = .pointer (some ⟨g, 0, none⟩)) (hg : w.heap[g]? = some (.cells #[v1, v2, v3] 45 (0, 0))) :
    (results fn tmps).run Tryd.prog w = .ok (.tuple #[.agg #[v1, v2, v3], tmps.getD q undef]) w :=
  results_box_tmp h tmps w g 45 #[v1, v2, v3] (0, 0) _ hp hg Tryd.underlying45 rfl Tryd.sizeTerm

theorem run_index_bt {P : Program} (w : World) (t : TypeId) (s : ByteArray) (k : IntKind) (i : Nat) (h : P.underlying t = some .string) (hi : i < s.size) :
    (Instr.index t (.string s) (.int k (i : Nat))).run P w = .ok (.int .u8 (bt s i : Nat)) w := by
  rw [run_index_string w t s k i h, dif_pos (by omega), bt_in hi]; rfl
theorem bt_extract {s : ByteArray} {p q j : Nat} (hj : j < q - p) (hq : q ≤ s.size) : bt (s.extract p q) j = bt s (p + j) := by
  have h1 : j < (s.extract p q).size := by rw [ByteArray.size_extract]; omega
  have h2 : p + j < s.size := by omega
  have e : (s.extract p q)[j]'h1 = s[p + j]'h2 := by
    show (s.extract p q).data[j]'h1 = s.data[p + j]'h2
    simp [ByteArray.data_extract]
  rw [bt_in h1, bt_in h2, e]
theorem bt_u8 {b : Nat} (h : 97 ≤ b ∧ b ≤ 101) : IntKind.u8.wrap ((b : Int) - 97) = ((b - 97 : Nat) : Int) := by
  obtain ⟨x, rfl⟩ : ∃ x, b = x + 97 := ⟨b - 97, by omega⟩
  have : x ≤ 4 := by omega
  rcases (by omega : x = 0 ∨ x = 1 ∨ x = 2 ∨ x = 3 ∨ x = 4) with rfl | rfl | rfl | rfl | rfl <;> rfl
set_option maxRecDepth 100000 in
set_option maxHeartbeats 3200000 in
theorem specCircle_any (s : ByteArray) (p : Nat) (w : World) (hs : s.size ≤ 60) (hp : p ≤ s.size) :
    Calls Tryd.prog 69 #[.string s, .int .i64 (p : Nat)] w (RetS w (circR s p)) := by
  obtain ⟨m, hm⟩ : ∃ m, m = runN s p := ⟨_, rfl⟩
  have hle := runN_le hp
  have HM := Lib.hid (show p + m ≤ s.size ∧ (∀ j, j < m → LetP (bt s (p + j))) ∧ ¬ LetP (bt s (p + m)) from ⟨by omega, fun j hj => runN_let (by omega), by rw [hm]; exact runN_end s p⟩)
  have HS := Lib.hid (And.intro hs hp)
  have HMM := Lib.hid hm
  clear hm hle hs hp
  go_enter Tryd.func69, Tryd.ntmps69
  go_wp2
  obtain ⟨G, hG⟩ : ∃ G, G = w.heap.size := ⟨_, rfl⟩
  obtain ⟨W0, hW0⟩ : ∃ W0, W0 = ((w.alloc (.cells #[.int .u8 0, .string ⟨#[]⟩, .slice none 0 0] 45)).alloc (.cells #[] 45)).alloc (.cells #[.int .u8 105, .string ⟨#[]⟩, .slice (some ⟨w.heap.size + 1, 0, none⟩) 0 0] 45) := ⟨_, rfl⟩
  rw [← hW0, ← hG]
  rw [← hG] at hW0
  have sW : W0.heap.size = G + 3 := by rw [hW0]; simp [hG]
  have hR : W0.heap[G]? = some (.cells #[.int .u8 0, .string ⟨#[]⟩, .slice none 0 0] 45 (0, 0)) := by
    rw [hW0, Below.heap_alloc _ _ _ (by simp [hG]; omega), Below.heap_alloc _ _ _ (by simp [hG]), hG]; exact heap_alloc_last w _
  have hN : W0.heap[G + 1 + 1]? = some (.cells #[.int .u8 105, .string ⟨#[]⟩, .slice (some ⟨G + 1, 0, none⟩) 0 0] 45 (0, 0)) := by
    rw [hW0]
    have h := heap_alloc_last ((w.alloc (.cells #[.int .u8 0, .string ⟨#[]⟩, .slice none 0 0] 45)).alloc (.cells #[] 45)) (.cells #[.int .u8 105, .string ⟨#[]⟩, .slice (some ⟨G + 1, 0, none⟩) 0 0] 45)
    rwa [World.size_alloc, World.size_alloc, ← hG] at h
  have HB := Lib.hid (show Below w.heap.size w W0 from by rw [hW0]; exact ((Below.refl _ _).alloc (Nat.le_refl _) _ |>.alloc (by simp) _).alloc (by simp; omega) _)
  have n0 : W0.cell? ⟨G + 1 + 1, 0, none⟩ = some (.int .u8 105) := cell_of_row _ _ 0 _ _ (0, 0) hN
  have n1 : W0.cell? ⟨G + 1 + 1, 1, none⟩ = some (.string ⟨#[]⟩) := cell_of_row _ _ 1 _ _ (0, 0) hN
  have n2 : W0.cell? ⟨G + 1 + 1, 2, none⟩ = some (.slice (some ⟨G + 1, 0, none⟩) 0 0) := cell_of_row _ _ 2 _ _ (0, 0) hN
  have HR := Lib.hid hR
  have HN := Lib.hid hN
  have HG := Lib.hid (And.intro hG sW)
  have HSET0 := Lib.hid (SetOf.nil (letF s p))
  have HD0 := Lib.hid (IsDiff.nil 5 (letF s p))
  clear hW0 hG sW hR hN
  go_loop [1, 8] (fun at_ sn => ∃ k : Nat, k ≤ m ∧ at_ = .int .i64 ((p + k : Nat) : Int) ∧ ∃ S : Nat, S < 2 ^ 5 ∧ sn = .int .i64 (S : Nat) ∧ SetOf S k (letF s p) ∧ IsDiff 5 k (letF s p)) (fun at_ _ => p + m - (intOf at_).toNat)
  case atStart => exact ⟨0, Nat.zero_le _, rfl, 0, by decide, rfl, HSET0.out, HD0.out⟩
  case round =>
    obtain ⟨k, hk, rfl, S, hS, rfl, hset, hdiff⟩ := hrel
    clear HSET0 HD0
    obtain ⟨q, hq⟩ : ∃ q, q = p + k := ⟨_, rfl⟩
    obtain ⟨b, hb⟩ : ∃ b, b = bt s (p + k) := ⟨_, rfl⟩
    have H1 := Lib.hid hset
    have H2 := Lib.hid hdiff
    have HQ := Lib.hid hq
    have HBB := Lib.hid hb
    rw [← hq]
    have hqs : q ≤ s.size := by have := HM.out.1; omega
    by_cases hlt : k < m
    · have hL : 97 ≤ b ∧ b ≤ 101 := by rw [hb]; exact HM.out.2.1 k hlt
      have hql : q < s.size := by have := HM.out.1; omega
      have hix : ∀ w : World, (Instr.index 9 (.string s) (.int .i64 (q : Nat))).run Tryd.prog w = .ok (.int .u8 (b : Nat)) w := fun w => by rw [hb, ← hq]; exact run_index_bt w _ s _ q Tryd.underlying9 hql
      have e1 : decide ((q : Int) < (s.size : Int)) = true := decide_eq_true (by omega)
      have e1n : decide (q < s.size) = true := decide_eq_true hql
      have e2 : ((b : Int) != 93) = true := by simp; omega
      have e3 : decide ((b : Int) < 97) = false := decide_eq_false (by omega)
      have e3n : decide (b < 97) = false := decide_eq_false (by omega)
      have e4 : decide ((101 : Int) < (b : Int)) = false := decide_eq_false (by omega)
      have e4n : decide (101 < b) = false := decide_eq_false (by omega)
      have hw := bt_u8 hL
      obtain ⟨x, hx⟩ : ∃ x, x = b - 97 := ⟨_, rfl⟩
      rw [← hx] at hw
      have HX := Lib.hid (show letF s p k = (x : Int) from by unfold letF; rw [← hb]; omega)
      have hx5 : x < 5 := by omega
      have hx62 : x < 62 := by omega
      have hS62 : S < 2 ^ 62 := Nat.lt_trans hS (by decide)
      have hw3 : IntKind.i64.wrap ((q : Int) + 1) = ((p + (k + 1) : Nat) : Int) := by rw [IntWalk.i64_in _ (by have := HS.out.1; omega), HQ.out]; omega
      have hhas := bit_has S x hS62
      clear hset hdiff hb hq hx hqs hL
      cases htb : S.testBit x with
      | true =>
        have HE := Lib.hid (circR_no (s := s) (p := p) (fun h => not_diff_twice H1.out (by rw [← HMM.out]; exact hlt) HX.out htb h.2.2))
        rw [htb] at hhas
        clear hlt hk hS hS62 htb
        go_wp2_with ((with_reducible refine st_next ?_); refine row3_store 45 45 _ _ G _ _ _ _ _ _ (by rfl) (by rfl) HR.out Tryd.sizeTerm (by rfl) (by rfl) (by rfl) ?_; intro W1 r1 s1 o1 b1; have X1 := Lib.hid (And.intro r1 (And.intro s1 b1)); clear r1 s1 o1 b1)
        refine bodyPost_ret (results_term Tryd.results69 _ _ G _ _ _ rfl X1.out.1) rfl ?_
        rw [HE.out]
        exact ⟨HB.out.trans (X1.out.2.2.mono (by rw [HG.out.1]; exact Nat.le_refl _)), _, _, _, _, _, 0, rfl, rfl⟩
      | false =>
        have hput := bit_put S x hS62 hx62
        obtain ⟨S', hS'⟩ : ∃ S', S' = S ||| 2 ^ x := ⟨_, rfl⟩
        rw [← hS'] at hput
        have HS' := Lib.hid (show S' < 2 ^ 5 ∧ SetOf S' (k + 1) (letF s p) ∧ IsDiff 5 (k + 1) (letF s p) from ⟨by rw [hS']; exact bit_put_lt hS hx5, by rw [hS']; exact H1.out.put HX.out, H2.out.snoc H1.out HX.out hx5 htb⟩)
        rw [htb] at hhas
        have HK := Lib.hid hlt
        clear hk hS hS62 htb hS'
        go_wp2
        go_round
        case rel => exact ⟨k + 1, HK.out, by first | rfl | go_num | (rw [HQ.out]; go_num), S', HS'.out.1, rfl, HS'.out.2⟩
        case measure => clear hput hhas; have := HK.out; have := HQ.out; simp [intOf]; omega
    · obtain rfl : k = m := by omega
      by_cases hql : q < s.size
      · have e1 : decide ((q : Int) < (s.size : Int)) = true := decide_eq_true (by omega)
        have e1n : decide (q < s.size) = true := decide_eq_true hql
        have hix : ∀ w : World, (Instr.index 9 (.string s) (.int .i64 (q : Nat))).run Tryd.prog w = .ok (.int .u8 (b : Nat)) w := fun w => by rw [hb, ← hq]; exact run_index_bt w _ s _ q Tryd.underlying9 hql
        by_cases e93 : b = 93
        · have e2 : ((b : Int) != 93) = false := by simp [e93]
          have e5 : decide ((s.size : Int) ≤ (q : Int)) = false := decide_eq_false (by omega)
          have e5n : decide (s.size ≤ q) = false := decide_eq_false (by omega)
          have hw1 : IntKind.i64.wrap ((q : Int) - (p : Int)) = (k : Int) := by rw [IntWalk.i64_in _ (by have := HS.out.1; omega)]; omega
          by_cases e6 : k < 2
          · have d6 : decide ((k : Int) < 2) = true := decide_eq_true (by omega)
            have d6n : decide (k < 2) = true := decide_eq_true e6
            have HE := Lib.hid (circR_no (s := s) (p := p) (fun h => by have := h.2.1; rw [← HMM.out] at this; omega))
            clear hset hdiff hb hq hqs hlt hk hS hql e93 e6
            go_wp2_with ((with_reducible refine st_next ?_); refine row3_store 45 45 _ _ G _ _ _ _ _ _ (by rfl) (by rfl) HR.out Tryd.sizeTerm (by rfl) (by rfl) (by rfl) ?_; intro W1 r1 s1 o1 b1; have X1 := Lib.hid (And.intro r1 (And.intro s1 b1)); clear r1 s1 o1 b1)
            refine bodyPost_ret (results_term Tryd.results69 _ _ G _ _ _ rfl X1.out.1) rfl ?_
            rw [HE.out]
            exact ⟨HB.out.trans (X1.out.2.2.mono (by rw [HG.out.1]; exact Nat.le_refl _)), _, _, _, _, _, 0, rfl, rfl⟩
          · have d6 : decide ((k : Int) < 2) = false := decide_eq_false (by omega)
            have d6n : decide (k < 2) = false := decide_eq_false e6
            have HE := Lib.hid (circR_yes (s := s) (p := p) ⟨by rw [← HMM.out, ← hb, e93], by rw [← HMM.out]; omega, by rw [← HMM.out]; exact H2.out⟩)
            have hw2 : IntKind.i64.wrap ((q : Int) + 1) = ((q + 1 : Nat) : Int) := by rw [IntWalk.i64_in _ (by have := HS.out.1; omega)]; omega
            have hp0 : (0 : Int) ≤ (p : Int) := by omega
            have hpq : (p : Int) ≤ (q : Int) := by omega
            have hpqn : p ≤ q := by omega
            have hqz : (q : Int) ≤ (s.size : Int) := by omega
            have HX := Lib.hid (show (s.extract p q).size = k ∧ ∀ j, j < k → bt (s.extract p q) j = bt s (p + j) from ⟨by rw [ByteArray.size_extract]; omega, fun j hj => bt_extract (by omega) (by omega)⟩)
            have HRA := Lib.hid (show ∀ o : Obj, (W0.alloc o).heap[G]? = some (.cells #[.int .u8 0, .string ⟨#[]⟩, .slice none 0 0] 45 (0, 0)) from fun o => (Below.heap_alloc W0 o G (by have := HG.out.2; omega)).trans HR.out)
            clear hset hdiff hb hq hlt hk hS e93 e6
            go_wp2_with ((with_reducible refine st_next ?_); refine row3_store 45 45 _ _ G _ _ _ _ _ _ (by rfl) (by rfl) (HRA.out _) Tryd.sizeTerm (by rfl) (by rfl) (by rfl) ?_; intro W1 r1 s1 o1 b1; have X1 := Lib.hid (And.intro r1 (And.intro s1 b1)); clear r1 s1 o1 b1)
            refine bodyPost_ret (results_term Tryd.results69 _ _ G _ _ _ rfl X1.out.1) rfl ?_
            rw [HE.out, ← HMM.out]
            refine ⟨(below_alloc HB.out _).trans (X1.out.2.2.mono (by rw [HG.out.1]; exact Nat.le_refl _)), _, _, _, _, _, q + 1, rfl, by rw [HQ.out], rfl, ⟨?_, ?_⟩, rfl⟩
            · rw [lets_len]; exact HX.out.1
            · rw [lets_len]
              intro j hj
              rw [HX.out.2 j hj, lets_get hj]
              have := HM.out.2.1 j hj
              unfold LetP at this
              omega
        · have e2 : ((b : Int) != 93) = true := by simp; omega
          have HE := Lib.hid (circR_no (s := s) (p := p) (fun h => by have := h.1; rw [← HMM.out, ← hb] at this; exact e93 this))
          have hnl : ¬ (97 ≤ b ∧ b ≤ 101) := by rw [hb]; exact HM.out.2.2
          have hcase : (decide ((b : Int) < 97) = true ∧ decide (b < 97) = true) ∨ (decide ((b : Int) < 97) = false ∧ decide (b < 97) = false ∧ decide ((101 : Int) < (b : Int)) = true ∧ decide (101 < b) = true) := by
            by_cases e : b < 97
            · left; exact ⟨decide_eq_true (by omega), decide_eq_true e⟩
            · right; exact ⟨decide_eq_false (by omega), decide_eq_false e, decide_eq_true (by omega), decide_eq_true (by omega)⟩
          clear hset hdiff hb hq hqs hlt hk hS hql e93 hnl
          rcases hcase with ⟨d1, d2⟩ | ⟨d1, d2, d3, d4⟩
          all_goals
            go_wp2_with ((with_reducible refine st_next ?_); refine row3_store 45 45 _ _ G _ _ _ _ _ _ (by rfl) (by rfl) HR.out Tryd.sizeTerm (by rfl) (by rfl) (by rfl) ?_; intro W1 r1 s1 o1 b1; have X1 := Lib.hid (And.intro r1 (And.intro s1 b1)); clear r1 s1 o1 b1)
            refine bodyPost_ret (results_term Tryd.results69 _ _ G _ _ _ rfl X1.out.1) rfl ?_
            rw [HE.out]
            exact ⟨HB.out.trans (X1.out.2.2.mono (by rw [HG.out.1]; exact Nat.le_refl _)), _, _, _, _, _, 0, rfl, rfl⟩
      · have e1 : decide ((q : Int) < (s.size : Int)) = false := decide_eq_false (by omega)
        have e1n : decide (q < s.size) = false := decide_eq_false hql
        have e5 : decide ((s.size : Int) ≤ (q : Int)) = true := decide_eq_true (by omega)
        have e5n : decide (s.size ≤ q) = true := decide_eq_true (by omega)
        have HE := Lib.hid (circR_no (s := s) (p := p) (fun h => by have := h.1; rw [← HMM.out, bt_out (by omega)] at this; omega))
        clear hset hdiff hb hq hqs hlt hk hS hql
        go_wp2_with ((with_reducible refine st_next ?_); refine row3_store 45 45 _ _ G _ _ _ _ _ _ (by rfl) (by rfl) HR.out Tryd.sizeTerm (by rfl) (by rfl) (by rfl) ?_; intro W1 r1 s1 o1 b1; have X1 := Lib.hid (And.intro r1 (And.intro s1 b1)); clear r1 s1 o1 b1)
        refine bodyPost_ret (results_term Tryd.results69 _ _ G _ _ _ rfl X1.out.1) rfl ?_
        rw [HE.out]
        exact ⟨HB.out.trans (X1.out.2.2.mono (by rw [HG.out.1]; exact Nat.le_refl _)), _, _, _, _, _, 0, rfl, rfl⟩
end Go.Proofs.YtnaegnjgpnakfaaDoor
