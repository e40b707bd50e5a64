/- The model's l7Most and l7Best. -/
import Derived.Test.YtaipodnhnekpjaaL7Deals
import Derived.Test.YtaipodnhnekpjaaL7Items
import Derived.Test.YtaipodnhnekpjaaL7Total
import Derived.Lib.MinMax
namespace Go.Proofs.Ytaipodnhnekpjaa
set_option linter.unusedVariables false
set_option linter.unusedSimpArgs false
open Go.RowKit

/-- Is this deal without that bidder, or none asked for? -/
def keepW (u : Int) (D : List Int) : Bool := decide (u < 0) || decide (nth D u.toNat < 0)
theorem mostT_snoc {n : Nat} {Z : Nat → Nat → Int} {A : List (List Int)} {D : List Int} : mostT n Z (A ++ [D]) = max (mostT n Z A) (dealT Z (nth D) n) := by
  unfold mostT
  rw [List.foldl_append]
  rfl
theorem deals_form {m n : Nat} {X : Nat → Int} {D : List Int} (hX : ∀ k, k < m → 0 ≤ X k ∧ X k ≤ 2) (h : D ∈ deals m n [] X) : D.length = n ∧ ∀ i, i < n → -1 ≤ nth D i ∧ nth D i < m := by
  obtain ⟨T, e, h1, h2, _⟩ := (mem_deals n [] X fun k hk => (hX k hk).1).1 h
  rw [List.nil_append] at e
  subst e
  refine ⟨h1, fun i hi => ?_⟩
  rw [← h1] at hi
  exact rest_range.1 h2 i hi
def mostTo (n : Nat) (Z : Nat → Nat → Int) (u : Int) (LL : List (List Int)) (k : Nat) : Int := mostT n Z ((LL.take k).filter (keepW u))
section
variable {n k : Nat} {Z : Nat → Nat → Int} {u : Int} {LL : List (List Int)}
theorem mostTo_zero : mostTo n Z u LL 0 = 0 := rfl
theorem mostTo_all : mostTo n Z u LL LL.length = mostT n Z (LL.filter (keepW u)) := by unfold mostTo; rw [List.take_length]
theorem mostTo_yes (h : k < LL.length) (hk : keepW u (LL.getD k []) = true) : mostTo n Z u LL (k + 1) = max (mostTo n Z u LL k) (dealT Z (nth (LL.getD k [])) n) := by
  unfold mostTo
  rw [take_snoc h, List.filter_append, List.filter_cons_of_pos hk, List.filter_nil, mostT_snoc]
theorem mostTo_no (h : k < LL.length) (hk : keepW u (LL.getD k []) = false) : mostTo n Z u LL (k + 1) = mostTo n Z u LL k := by
  unfold mostTo
  rw [take_snoc h, List.filter_append, List.filter_cons_of_neg (by rw [hk]; simp), List.filter_nil, List.append_nil]
end

set_option maxRecDepth 100000 in
set_option maxHeartbeats 1600000 in
theorem l7Most_any (n c m c2 : Nat) (a a2 : Option Addr) (A : Nat → Option Addr) (L C : Nat → Nat) (Z : Nat → Nat → Int) (X : Nat → Int) (u : Int) (w : World) (hn : n ≤ 4) (hm1 : 1 ≤ m) (hm : m ≤ 4) (hu : u = -1 ∨ 0 ≤ u ∧ u < n) (hL : ∀ r, r < n → L r = m) (hZ : ∀ r, r < n → ∀ x, x < m → 0 ≤ Z r x ∧ Z r x ≤ 20) (hX : ∀ k, k < m → 0 ≤ X k ∧ X k ≤ 2) (ha0 : Tab w a n A L C Z) (hx0 : Rd w a2 m X) :
    Calls Try.prog 55 #[.slice a n c, .slice a2 m c2, .int .i64 u] w fun e w' => e = .returned (.int .i64 (mostT n Z ((deals m n [] X).filter (keepW u)))) ∧ Below w.heap.size w w' := by
  have HD := Lib.hid (fun w' cb (hb : Below w.heap.size w w') (hs : w.heap.size < w'.heap.size) => l7Deals_any n c m a hn hm1 hm n [] X 0 cb w.heap.size 0 c2 a2 w' rfl (by omega) hX hs (fun j hj => absurd hj (Nat.not_lt_zero _)) (hx0.below (Nat.le_refl _) hb))
  have HA := Lib.hid ha0
  have HL := Lib.hid hL
  have HZ := Lib.hid hZ
  have HF := Lib.hid (fun D (h : D ∈ deals m n [] X) => deals_form hX h)
  have HU := Lib.hid hu
  clear ha0 hx0 hL hZ hX hu
  go_enter Try.func55, Try.ntmps55
  go_wp2_with fail
  refine (HD.out _ _ (below_alloc (Below.refl _ _) _) (by simp)).mono ?_
  rintro e w1 ⟨g, cap, G, Cp, rfl, hM, hB⟩
  obtain ⟨LL, hLL⟩ : ∃ LL, LL = deals m n [] X := ⟨_, rfl⟩
  rw [← hLL] at HF ⊢ hM
  obtain ⟨M, hMM⟩ : ∃ M, M = LL.length := ⟨_, rfl⟩
  rw [← hMM] at hM ⊢
  have hM625 : M ≤ 625 := by rw [hMM, hLL]; exact Nat.le_trans (deals_le hm n [] X) (Nat.pow_le_pow_right (show 0 < 5 by omega) hn)
  have QLL := Lib.hid hLL
  have QM := Lib.hid hMM
  have HMk := Lib.hid hM
  have B1 := Lib.hid ((below_alloc (Below.refl w.heap.size w) (.cells #[] 3)).trans (hB.mono (by simp)))
  have hMl := hM.1.lt g rfl
  clear hLL hMM hM hB HD
  go_wp2
  go_loopw [7, 9] (fun b i wr => ∃ k : Nat, k ≤ M ∧ i = .int .i64 k ∧ b = .int .i64 (mostTo n Z u LL k) ∧ Below w1.heap.size w1 wr) (fun _ i _ => M - (intOf i).toNat)
  case atStart => exact ⟨0, Nat.zero_le _, rfl, rfl, Below.refl _ _⟩
  case round =>
    obtain ⟨k, hk, rfl, rfl, hB⟩ := hrel
    have BR := Lib.hid hB
    have BW := Lib.hid (B1.out.trans (hB.mono B1.out.size))
    clear hB
    by_cases hlt : k < M
    · have hkl : k < LL.length := by rw [← QM.out]; exact hlt
      obtain ⟨D, hD⟩ : ∃ D, D = LL.getD k [] := ⟨_, rfl⟩
      have hin : D ∈ LL := by rw [hD, List.getD_eq_getElem?_getD, List.getElem?_eq_getElem hkl]; exact List.getElem_mem hkl
      have hform := HF.out D hin
      have hM := HMk.out.below BR.out
      have hck := hM.1.cells (g := g) rfl k (.slice (some ⟨G k, 0, none⟩) (lenL LL k) (Cp k)) (by simp [hlt])
      rw [Go.WideShapes.add_plain, Nat.zero_add, show lenL LL k = n from by rw [show lenL LL k = (LL.getD k []).length from rfl, ← hD]; exact hform.1] at hck
      have hrd : Rd wr (some ⟨G k, 0, none⟩) n (nth D) := by
        have := (hM.2.1 k hlt).2.2.2.rd
        rw [show lenL LL k = n from by rw [show lenL LL k = (LL.getD k []).length from rfl, ← hD]; exact hform.1, show nthL LL k = nth D from by rw [hD]; rfl] at this
        exact this
      obtain ⟨T, hT⟩ : ∃ T, T = mostTo n Z u LL k := ⟨_, rfl⟩
      obtain ⟨S, hS⟩ : ∃ S, S = dealT Z (nth D) n := ⟨_, rfl⟩
      have HT := Lib.hid (l7Total_any n c n (Cp k) m a (some ⟨G k, 0, none⟩) A L C Z (nth D) wr (Nat.le_refl _) (by omega) HL.out HZ.out hform.2 (HA.out.below (Nat.le_refl _) BW.out) hrd)
      rw [← hS] at HT
      have EY := Lib.hid (fun (h : keepW u D = true) => show mostTo n Z u LL (k + 1) = max T S from by rw [mostTo_yes hkl (by rw [← hD]; exact h), hT, hS, hD])
      have EN := Lib.hid (fun (h : keepW u D = false) => show mostTo n Z u LL (k + 1) = T from by rw [mostTo_no hkl (by rw [← hD]; exact h), hT])
      rw [← hT]
      have hkM : (k : Int) < (M : Int) := by omega
      clear hkl hD hin hform hM hT hS
      by_cases hneg : u < 0
      · have d1 : decide (u < 0) = true := by simpa using hneg
        have E := Lib.hid (EY.out (by unfold keepW; rw [d1]; rfl))
        clear hneg hrd EY EN
        go_wp2_with (go_at_call 94; refine HT.out.mono ?_; rintro e w2 ⟨rfl, hb⟩; have B2 := Lib.hid hb; clear hb)
        go_roundw
        case rel => exact ⟨k + 1, by omega, by go_num, by rw [E.out], BR.out.trans (B2.out.mono BR.out.size)⟩
        case measure => simp [intOf]; omega
      · have d1 : decide (u < 0) = false := by simpa using hneg
        obtain ⟨i, hi⟩ := Int.eq_ofNat_of_zero_le (show 0 ≤ u by omega)
        have hin : i < n := by have := HU.out; omega
        obtain ⟨bd, od, hbd, hcd⟩ := hrd i hin
        obtain ⟨rfl, rfl⟩ : G k = bd ∧ 0 = od := by simpa using hbd
        rw [Nat.zero_add] at hcd
        obtain ⟨x, hx⟩ : ∃ x, x = nth D i := ⟨_, rfl⟩
        rw [← hx] at hcd
        have hkw : keepW u D = decide (x < 0) := by unfold keepW; rw [d1, hi, Int.toNat_natCast, ← hx]; rfl
        have hin' : (i : Int) < (n : Int) := by omega
        subst hi
        by_cases hxn : x < 0
        · have d2 : decide (x < 0) = true := by simpa using hxn
          have E := Lib.hid (EY.out (by rw [hkw, d2]))
          clear hneg hrd EY EN hbd hx hkw hxn
          go_wp2_with (go_at_call 94; refine HT.out.mono ?_; rintro e w2 ⟨rfl, hb⟩; have B2 := Lib.hid hb; clear hb)
          go_roundw
          case rel => exact ⟨k + 1, by omega, by go_num, by rw [E.out], BR.out.trans (B2.out.mono BR.out.size)⟩
          case measure => simp [intOf]; omega
        · have d2 : decide (x < 0) = false := by simpa using hxn
          have E := Lib.hid (EN.out (by rw [hkw, d2]))
          clear hneg hrd EY EN hbd hx hkw hxn
          go_wp2
          go_roundw
          case rel => exact ⟨k + 1, by omega, by go_num, by rw [E.out], BR.out⟩
          case measure => simp [intOf]; omega
    · obtain rfl : k = M := by omega
      have E := Lib.hid (show mostTo n Z u LL k = mostT n Z (LL.filter (keepW u)) by rw [QM.out]; exact mostTo_all)
      rw [E.out]
      go_wp2
      go_ret
      exact ⟨by rw [← QLL.out]; rfl, BW.out⟩

theorem keepW_all {n : Nat} {Z : Nat → Nat → Int} (DD : List (List Int)) : DD.filter (keepW (-1)) = DD := List.filter_eq_self.2 fun _ _ => rfl
theorem keepW_at {DD : List (List Int)} {i : Nat} : DD.filter (keepW (i : Nat)) = DD.filter fun D => decide (nth D i < 0) := List.filter_congr fun D _ => by
  unfold keepW
  rw [Int.toNat_natCast, decide_eq_false (show ¬ ((i : Nat) : Int) < 0 by omega)]; rfl
theorem items_range {m k : Nat} {c : Int} (hc : 0 ≤ c ∧ c ≤ 2) : ∀ j, j < m → 0 ≤ itemsX k c j ∧ itemsX k c j ≤ 2 := fun j _ => by
  unfold itemsX
  by_cases e : j = k
  · rw [if_pos e]; exact hc
  · rw [if_neg e]; omega

set_option maxHeartbeats 800000 in
theorem l7Best_any (n c : Nat) (a : Option Addr) (A : Nat → Option Addr) (L C : Nat → Nat) (Z : Nat → Nat → Int) (w : World) (h : IsBids n L Z) (ha0 : Tab w a n A L C Z) :
    Calls Try.prog 57 #[.slice a n c] w fun e w' => e = .returned (.int .i64 (bestV n (L 0) Z)) ∧ Below w.heap.size w w' := by
  have HI := Lib.hid (l7Items_any n c (L 0) 0 a A L C Z 1 w h.1.1.1 rfl h.1.2.1 h.1.2.2 (by omega) ha0)
  have HM := Lib.hid (fun w' g cap (hb : Below w.heap.size w w') (hr : Rd w' (some ⟨g, 0, none⟩) (L 0) (itemsX 0 1)) => show Calls Try.prog 55 #[.slice a n c, .slice (some ⟨g, 0, none⟩) (L 0) cap, .int .i64 (-1)] w' fun e w2 => e = .returned (.int .i64 (bestV n (L 0) Z)) ∧ Below w'.heap.size w' w2 from by
    have := l7Most_any n c (L 0) cap a (some ⟨g, 0, none⟩) A L C Z (itemsX 0 1) (-1) w' h.1.1.2 h.1.2.1 h.1.2.2 (.inl rfl) (fun r hr => (h.2 r hr).1) (fun r hr => (h.2 r hr).2) (items_range (by omega)) (ha0.below (Nat.le_refl _) hb) hr
    rw [keepW_all (n := n) (Z := Z)] at this
    exact this)
  clear ha0 h
  go_enter Try.func57, Try.ntmps57
  go_wp2_with (first
    | (go_at_call 56; refine HI.out.mono ?_; rintro e w1 ⟨g, cap, rfl, hg, hO, hb⟩; have R1 := Lib.hid hO.rd; have B1 := Lib.hid hb; clear hg hO hb)
    | (go_at_call 55; refine (HM.out _ _ _ B1.out R1.out).mono ?_; rintro e w2 ⟨rfl, hb⟩; have B2 := Lib.hid (B1.out.trans (hb.mono B1.out.size)); clear hb))
  go_ret
  exact ⟨rfl, B2.out⟩
end Go.Proofs.Ytaipodnhnekpjaa
