/- The program's fairWithSome: whether item prices are fair with some deal. -/
import Derived.Test.YtaipodnhnekpjaaItemFair
import Derived.Test.YtaipodnhnekpjaaFairAns
import Derived.Shelf.GgClosure.Gives
namespace Go.Proofs.Ytaipodnhnekpjaa
set_option linter.unusedVariables false
set_option linter.unusedSimpArgs false
open Go.RowKit

theorem fairWith_any (vb pb n c m d e : Nat) (a b g : Option Addr) (A : Nat → Option Addr) (L C : Nat → Nat) (Z : Nat → Nat → Int) (P D : Nat → Int) (W : World) (hn : n ≤ 4) (hm : m ≤ 4) (hL : ∀ r, r < n → L r = m) (hZ : ∀ r, r < n → ∀ x, x < m → 0 ≤ Z r x ∧ Z r x ≤ 20) (hP : ∀ x, x < m → 0 ≤ P x ∧ P x ≤ 20) (hD : ∀ i, i < n → -1 ≤ D i ∧ D i < m)
    (hv : W.cell? ⟨vb, 0, none⟩ = some (.slice a n c)) (hp : W.cell? ⟨pb, 0, none⟩ = some (.slice b m d)) (ha0 : Tab W a n A L C Z) (hb0 : Rd W b m P) (hg0 : Rd W g n D) :
    FnGives Try.prog 92 #[.pointer (some ⟨vb, 0, none⟩), .pointer (some ⟨pb, 0, none⟩)] #[.slice g n e] (.bool (tt (FairP n m Z P D))) W := by
  unfold FnGives
  show Calls Try.prog 92 #[.slice g n e, .pointer (some ⟨vb, 0, none⟩), .pointer (some ⟨pb, 0, none⟩)] W _
  have H := Lib.hid (itemFair_any n c m d e a b g A L C Z P D W hn hm hL hZ hP hD ha0 hb0 hg0)
  clear ha0 hb0 hg0 hL hZ hP hD
  go_enter Try.func92, Try.ntmps92
  go_wp2_with (go_at_call 51; refine H.out.mono ?_; rintro r w' ⟨rfl, q, rfl⟩)
  go_ret
  exact ⟨rfl, q, rfl⟩

set_option maxHeartbeats 1600000 in
theorem rowsFind_any (g : Nat) (lb : Array Value) (eg : ∀ args w, (callFunc g args).run Try.prog w = .ok (.enter g args) w) (enc : Nat → Value) (p : Nat → Bool) (l : List Nat) (b c m : Nat) (w : World) (hm0 : m = l.length) (hlen : m ≤ 1048576) (hp0 : CellsW w b enc l)
    (hg0 : ∀ q r, r ∈ l → FnGives Try.prog g lb #[enc r] (.bool (p r)) (w.drewN q)) :
    Calls Try.prog 113 #[.slice (some ⟨b, 0, none⟩) m c, .func (.func g) #[] lb] w fun e w' => (∃ x, e = .returned (.int .i64 x) ∧ FirstHit l p x) ∧ ∃ q, w' = w.drewN q := by
  have HP := Lib.hid hp0
  have HG := Lib.hid hg0
  have QM := Lib.hid hm0
  clear hp0 hg0 hm0
  go_enter Try.func113, Try.ntmps113
  go_wp2
  go_loopw [4, 5, 8] (fun _ _ s wr => ∃ k q : Nat, k ≤ m ∧ s = .int .i64 k ∧ (∀ j, j < k → p (l.getD j 0) = false) ∧ wr = w.drewN q) (fun _ _ s _ => m - (intOf s).toNat)
  case atStart => exact ⟨0, 0, Nat.zero_le _, rfl, fun j hj => absurd hj (Nat.not_lt_zero _), rfl⟩
  case round =>
    obtain ⟨k, q, hk, rfl, hno, hwr⟩ := hrel
    have HN := Lib.hid hno
    have HW := Lib.hid hwr
    by_cases hlt : k < m
    · have hkl : k < l.length := by rw [← QM.out]; exact hlt
      have hck := (HP.out k hkl).1
      obtain ⟨r, hr⟩ : ∃ r, r = l.getD k 0 := ⟨_, rfl⟩
      have hcall := HG.out q r (by rw [hr]; exact getD_in hkl)
      rw [← hwr] at hcall
      rw [← hr] at hck
      obtain ⟨v, hv⟩ : ∃ v, v = enc r := ⟨_, rfl⟩
      have hck' : wr.cell? ⟨b, k, none⟩ = some v := by rw [hwr, hv]; simpa using hck
      rw [← hv] at hcall
      unfold FnGives at hcall
      have QR := Lib.hid hr
      clear hr hkl hno hwr hck
      cases hpr : p r with
      | true =>
        rw [hpr] at hcall
        have T1 := Lib.hid hpr
        clear hpr hv
        go_wp2_with (go_at_fn g; refine hcall.mono ?_; rintro e w' ⟨rfl, q2, rfl⟩)
        go_ret
        have HK : k < l.length := by rw [← QM.out]; exact hlt
        exact ⟨⟨_, rfl, .inr ⟨k, rfl, HK, by rw [← QR.out]; exact T1.out, HN.out⟩⟩, q + q2, by rw [HW.out]; exact drewN_two _ _ _⟩
      | false =>
        rw [hpr] at hcall
        have T1 := Lib.hid hpr
        clear hpr hv
        go_wp2_with (go_at_fn g; refine hcall.mono ?_; rintro e w' ⟨rfl, q2, rfl⟩)
        go_roundw
        case rel => exact ⟨k + 1, q + q2, by omega, by go_num, fun j hj => by
          by_cases e : j = k
          · subst e; rw [← QR.out]; exact T1.out
          · exact HN.out j (by omega), by rw [HW.out]; exact drewN_two _ _ _⟩
        case measure => simp [intOf]; omega
    · obtain rfl : k = m := by omega
      clear hno hwr
      go_wp2
      go_ret
      exact ⟨⟨_, rfl, .inl ⟨rfl, fun j hj => HN.out j (by rw [QM.out]; exact hj)⟩⟩, q, HW.out⟩

set_option maxRecDepth 100000 in
set_option maxHeartbeats 1600000 in
theorem fairWithSome_any (n c m d g cap M : Nat) (a b : Option Addr) (A : Nat → Option Addr) (L C G Cp : Nat → Nat) (Z : Nat → Nat → Int) (P : Nat → Int) (w : World) (hn : n ≤ 4) (hm : m ≤ 4) (hL : ∀ r, r < n → L r = m) (hZ : ∀ r, r < n → ∀ x, x < m → 0 ≤ Z r x ∧ Z r x ≤ 20) (hP : ∀ x, x < m → 0 ≤ P x ∧ P x ≤ 20) (hM : M = (dealsP m n).length) (ha0 : Tab w a n A L C Z) (hb0 : Rd w b m P)
    (hrow : ∀ r, r < M → w.cell? ⟨g, r, none⟩ = some (.slice (some ⟨G r, 0, none⟩) n (Cp r)) ∧ w.frozen? ⟨g, r, none⟩ = false ∧ Rd w (some ⟨G r, 0, none⟩) n (nth (rowD m n r))) :
    Calls Try.prog 53 #[.slice a n c, .slice b m d, .slice (some ⟨g, 0, none⟩) M cap] w fun r w' => r = .returned (.bool (tt (SomeP n m Z P))) ∧ Below w.heap.size w w' := by
  have hM1296 : M ≤ 1296 := by rw [hM]; exact dealsP_small (by omega) hn
  have hb1 := below_alloc (Below.refl w.heap.size w) (.cells #[.slice a n c] 44)
  have hx1 := heap_alloc_last w (.cells #[.slice a n c] 44)
  obtain ⟨wa, hwa⟩ : ∃ wa, wa = w.alloc (.cells #[.slice a n c] 44) := ⟨_, rfl⟩
  have hsa : wa.heap.size = w.heap.size + 1 := by rw [hwa]; simp
  rw [← hwa] at hb1 hx1
  have hb2 := below_alloc (Below.refl wa.heap.size wa) (.cells #[.slice b m d] 45)
  have hx2 := heap_alloc_last wa (.cells #[.slice b m d] 45)
  obtain ⟨wb, hwb⟩ : ∃ wb, wb = wa.alloc (.cells #[.slice b m d] 45) := ⟨_, rfl⟩
  rw [← hwb] at hb2 hx2
  rw [hsa] at hx2
  have hB : Below w.heap.size w wb := hb1.trans (hb2.mono (by omega))
  have B0 := Lib.hid hB
  have hxv := (hb2.cell (p := ⟨w.heap.size, 0, none⟩) (by show w.heap.size < _; omega)).trans (cell_of_row _ _ 0 _ _ _ hx1)
  have hxp := cell_of_row _ _ 0 _ _ _ hx2
  have ha1 := ha0.below (Nat.le_refl _) hB
  have hp1 := hb0.below (Nat.le_refl _) hB
  have hr1 : ∀ r, r < M → Rd wb (some ⟨G r, 0, none⟩) n (nth (rowD m n r)) := fun r hr => (hrow r hr).2.2.below (Nat.le_refl _) hB
  have C1 : CellsW wb g (encB n G Cp) (List.range M) := fun k hk => by
    have hk : k < M := by simpa using hk
    obtain ⟨k1, k2, _⟩ := hrow k hk
    have hlt := World.block_lt_of_cell? _ _ k1
    rw [show (List.range M).getD k 0 = k from by rw [List.getD_eq_getElem?_getD, List.getElem?_range hk]; rfl]
    exact ⟨(hB.cell (p := ⟨g, k, none⟩) hlt).trans k1, (hB.frozen (p := ⟨g, k, none⟩) hlt).trans k2⟩
  have HF := Lib.hid (rowsFind_any 92 #[.pointer (some ⟨w.heap.size, 0, none⟩), .pointer (some ⟨w.heap.size + 1, 0, none⟩)] (enters_of Try.func92 (by kernel_rfl) rfl) (encB n G Cp) (fun r => tt (FairP n m Z P (nth (rowD m n r)))) (List.range M) g cap M wb (by simp) (by omega) C1 (fun q r hr => by
    have hr := List.mem_range.1 hr
    exact fairWith_any _ _ n c m d (Cp r) a b _ A L C Z P _ (wb.drewN q) hn hm hL hZ hP (row_range (by rw [← hM]; exact hr)) (by simpa using hxv) (by simpa using hxp) (ha1.drewN q) (hp1.drewN q) ((hr1 r hr).drewN q)))
  have HC : Calls Try.prog 91 #[.slice (some ⟨g, 0, none⟩) M cap, .func (.func 92) #[] #[.pointer (some ⟨w.heap.size, 0, none⟩), .pointer (some ⟨w.heap.size + 1, 0, none⟩)]] wb fun e w' => e = .returned (.bool (tt (SomeP n m Z P))) ∧ ∃ q, w' = wb.drewN q := by
    have HE := Lib.hid (fun x (h : FirstHit (List.range M) (fun r => tt (FairP n m Z P (nth (rowD m n r)))) x) => show decide (x ≥ 0) = tt (SomeP n m Z P) from by
      have hat : ∀ k, k < M → (List.range M).getD k 0 = k := fun k hk => by rw [List.getD_eq_getElem?_getD, List.getElem?_range hk]; rfl
      rcases h with ⟨rfl, hno⟩ | ⟨k, rfl, hk, hp, _⟩
      · rw [tt_no fun h => by
          obtain ⟨r, hr, hf⟩ := some_rows.1 h
          have := hno r (by rw [List.length_range, hM]; exact hr)
          rw [hat r (by rw [hM]; exact hr)] at this
          have this : tt (FairP n m Z P (nth (rowD m n r))) = false := this
          rw [tt_of hf] at this
          cases this]
        rfl
      · have hk : k < M := by simpa using hk
        rw [hat k hk] at hp
        rw [tt_of (some_rows.2 ⟨k, by rw [← hM]; exact hk, tt_iff.1 hp⟩)]
        simp)
    obtain ⟨t, ht⟩ : ∃ t, t = tt (SomeP n m Z P) := ⟨_, rfl⟩
    rw [← ht] at HE ⊢
    clear hrow ha0 hb0 ha1 hp1 hr1 C1 hxv hxp hb1 hb2 hx1 hx2 hB hwa hwb hsa hM ht hL hZ hP
    go_enter Try.func91, Try.ntmps91
    go_wp2_with (go_at_call 113; refine HF.out.mono ?_; rintro e w' ⟨⟨x, rfl, hx⟩, q, rfl⟩; have EX := Lib.hid (HE.out x hx); clear hx)
    go_ret
    exact ⟨by rw [← EX.out]; rfl, q, rfl⟩
  have HC := Lib.hid HC
  clear hrow ha0 hb0 ha1 hp1 hr1 C1 hxv hxp hb1 hb2 hx1 hx2 hB hM HF hL hZ hP
  go_enter Try.func53, Try.ntmps53
  go_wp2_with fail
  rw [← hwa, ← hwb]
  clear hwa hwb
  refine HC.out.mono ?_
  rintro e w1 ⟨rfl, q, rfl⟩
  go_wp2
  go_ret
  exact ⟨rfl, below_drewN B0.out q⟩
end Go.Proofs.Ytaipodnhnekpjaa
