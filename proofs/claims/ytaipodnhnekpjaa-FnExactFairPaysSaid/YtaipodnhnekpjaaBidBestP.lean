/- The program's foremost and best: of the deals of which something holds, those with the greatest total. -/
import Derived.Test.YtaipodnhnekpjaaBidDeals
import Derived.Test.YtaipodnhnekpjaaDelRows
import Derived.Test.YtaipodnhnekpjaaMinRows
import Derived.Test.YtaipodnhnekpjaaBidTotalP
import Derived.Test.YtaipodnhnekpjaaCmpInt
import Derived.BigQuiet
namespace Go.Proofs.Ytaipodnhnekpjaa
set_option linter.unusedVariables false
set_option linter.unusedSimpArgs false
open Go.RowKit

/-- The r-th deal's slice. -/
def encB (n : Nat) (G Cp : Nat → Nat) (r : Nat) : Value := .slice (some ⟨G r, 0, none⟩) n (Cp r)

theorem back_same {P : Program} {f : FuncId} {args : Array Value} {w : World} {v : Value} (h : Calls P f args w fun e w' => e = .returned v ∧ w = w') : Calls P f args w fun e w' => e = .returned v ∧ w' = w :=
  h.mono fun _ _ ⟨h1, h2⟩ => ⟨h1, h2.symm⟩

theorem best1_any (hb gh : Nat) (lh : Array Value) (egh : ∀ args w, (callFunc gh args).run Try.prog w = .ok (.enter gh args) w) (v : Value) (b : Bool) (W : World) (hc : W.cell? ⟨hb, 0, none⟩ = some (.func (.func gh) #[] lh)) (hh : FnGives Try.prog gh lh #[v] (.bool b) W) :
    FnGives Try.prog 103 #[.pointer (some ⟨hb, 0, none⟩)] #[v] (.bool (!b)) W := by
  unfold FnGives at hh ⊢
  show Calls Try.prog 103 #[v, .pointer (some ⟨hb, 0, none⟩)] W _
  go_enter Try.func103, Try.ntmps103
  go_wp2_with (go_at_fn gh; refine hh.mono ?_; rintro e w' ⟨rfl, q, rfl⟩)
  go_ret
  exact ⟨rfl, q, rfl⟩

theorem best2_any (vb n c m : Nat) (a : Option Addr) (A : Nat → Option Addr) (L C : Nat → Nat) (Z : Nat → Nat → Int) (a1 a2 : Option Addr) (c1 c2 : Nat) (D E : Nat → Int) (W : World) (hn : n ≤ 64) (hL : ∀ r, r < n → L r = m) (hZ : ∀ r, r < n → ∀ x, x < m → 0 ≤ Z r x ∧ Z r x ≤ 20) (ha0 : Tab W a n A L C Z)
    (hc : W.cell? ⟨vb, 0, none⟩ = some (.slice a n c)) (hD : ∀ i, i < n → -1 ≤ D i ∧ D i < m) (hE : ∀ i, i < n → -1 ≤ E i ∧ E i < m) (hd : Rd W a1 n D) (he : Rd W a2 n E) :
    FnGives Try.prog 105 #[.pointer (some ⟨vb, 0, none⟩)] #[.slice a1 n c1, .slice a2 n c2] (.int .i64 (cmpI (dealT Z E n) (dealT Z D n))) W := by
  unfold FnGives
  show Calls Try.prog 105 #[.slice a1 n c1, .slice a2 n c2, .pointer (some ⟨vb, 0, none⟩)] W _
  have H1 := Lib.hid (fun q => back_same <| bidTotal_any n c n c2 m a a2 A L C Z E (W.drewN q) (Nat.le_refl _) hn hL hZ hE (ha0.drewN q) (he.drewN q))
  have H2 := Lib.hid (fun q => back_same <| bidTotal_any n c n c1 m a a1 A L C Z D (W.drewN q) (Nat.le_refl _) hn hL hZ hD (ha0.drewN q) (hd.drewN q))
  obtain ⟨x, hx⟩ : ∃ x, x = dealT Z E n := ⟨_, rfl⟩
  obtain ⟨y, hy⟩ : ∃ y, y = dealT Z D n := ⟨_, rfl⟩
  rw [← hx] at H1 ⊢
  rw [← hy] at H2 ⊢
  clear hx hy ha0 hD hE hd he hZ hL
  go_enter Try.func105, Try.ntmps105
  go_wp2
  go_quiet ((first | (go_at_call 98; with_reducible exact Calls.quiet_of_same (H1.out _)) | (go_at_call 98; with_reducible exact Calls.quiet_of_same (H2.out _)) | (go_at_call 106; exact Calls.quiet_of_same (back_same (cmpInt_any _ _ _)))))
  all_goals (
    go_wp2
    go_ret
    exact ⟨rfl, _, rfl⟩)

theorem foremost1_any (cb fb gh : Nat) (lh : Array Value) (egh : ∀ args w, (callFunc gh args).run Try.prog w = .ok (.enter gh args) w) (u v : Value) (x : Int) (W : World) (hc : W.cell? ⟨cb, 0, none⟩ = some (.func (.func gh) #[] lh)) (hf : W.cell? ⟨fb, 0, none⟩ = some u) (hh : FnGives Try.prog gh lh #[u, v] (.int .i64 x) W) :
    FnGives Try.prog 116 #[.pointer (some ⟨cb, 0, none⟩), .pointer (some ⟨fb, 0, none⟩)] #[v] (.bool (decide (x < 0))) W := by
  unfold FnGives at hh ⊢
  show Calls Try.prog 116 #[v, .pointer (some ⟨cb, 0, none⟩), .pointer (some ⟨fb, 0, none⟩)] W _
  go_enter Try.func116, Try.ntmps116
  go_wp2_with (go_at_fn gh; refine hh.mono ?_; rintro e w' ⟨rfl, q, rfl⟩)
  go_ret
  exact ⟨rfl, q, rfl⟩

theorem pickL_max {T : Nat → Int} {l : List Nat} : ∀ {k : Nat}, ∀ j, j ≤ k → T (l.getD j 0) ≤ T (pickL (fun x m => cmpI (T m) (T x)) l k)
  | 0, j, h => by obtain rfl : j = 0 := by omega
                  exact Int.le_refl _
  | k + 1, j, h => by
    unfold pickL
    by_cases e : cmpI (T (pickL (fun x m => cmpI (T m) (T x)) l k)) (T (l.getD (k + 1) 0)) < 0
    · rw [if_pos e]
      have e := cmpI_lt.1 e
      by_cases hj : j = k + 1
      · subst hj; exact Int.le_refl _
      · have := pickL_max (T := T) (l := l) (k := k) j (by omega); omega
    · rw [if_neg e]
      by_cases hj : j = k + 1
      · subst hj
        have h2 := mt cmpI_lt.2 e
        omega
      · exact pickL_max j (by omega)

set_option maxRecDepth 100000 in
set_option maxHeartbeats 1600000 in
theorem foremost_any (n g c m vb : Nat) (G Cp : Nat → Nat) (l : List Nat) (T : Nat → Int) (w : World) (hm : m = l.length) (h0 : 0 < m) (hlen : m ≤ 1048576) (hc : m ≤ c) (hc2 : c ≤ 9223372036854775807) (hp0 : CellsW w g (encB n G Cp) l)
    (hcmp : ∀ W r s, r ∈ l → s ∈ l → w.grownBy W (some g) → FnGives Try.prog 105 #[.pointer (some ⟨vb, 0, none⟩)] #[encB n G Cp r, encB n G Cp s] (.int .i64 (cmpI (T s) (T r))) W) :
    Calls Try.prog 104 #[.slice (some ⟨g, 0, none⟩) m c, .func (.func 105) #[] #[.pointer (some ⟨vb, 0, none⟩)]] w fun e w' => ∃ f, f ∈ l ∧ (∀ r, r ∈ l → T r ≤ T f) ∧ e = .returned (.slice (some ⟨g, 0, none⟩) (l.filter fun r => !decide (T r < T f)).length c) ∧ CellsW w' g (encB n G Cp) (l.filter fun r => !decide (T r < T f)) ∧ w.grownBy w' (some g) := by
  have egh := enters_of Try.func105 (by kernel_rfl) rfl
  have hg : g < w.heap.size := World.block_lt_of_cell? _ _ (hp0 0 (by omega)).1
  have HCmp := Lib.hid hcmp
  have QM := Lib.hid hm
  obtain ⟨wa, hwa⟩ : ∃ wa, wa = w.alloc (.cells #[.func (.func 105) #[] #[.pointer (some ⟨vb, 0, none⟩)]] 91) := ⟨_, rfl⟩
  have ha1 : wa.heap.size = w.heap.size + 1 := by rw [hwa]; simp
  have ha2 : w.grownBy wa (some g) := by rw [hwa]; exact ⟨rfl, rfl, rfl, by simp, fun k hk _ => Below.heap_alloc _ _ _ hk⟩
  have ha3 : wa.cell? ⟨w.heap.size, 0, none⟩ = some (.func (.func 105) #[] #[.pointer (some ⟨vb, 0, none⟩)]) := by rw [hwa]; exact cell_of_row _ _ 0 _ _ _ (heap_alloc_last w _)
  have ha4 : CellsW wa g (encB n G Cp) l := hp0.of_block (by rw [hwa]; exact Below.heap_alloc _ _ _ hg)
  have HMin := Lib.hid (rowsMin_any _ #[.pointer (some ⟨vb, 0, none⟩)] egh (encB n G Cp) (fun x m => cmpI (T m) (T x)) l g c m wa hm h0 hlen ha4 (fun W r s hr hs hk => hcmp W r s hr hs (ha2.trans ⟨hk.os, hk.tape, hk.output, by rw [hk.size]; exact Nat.le_refl _, fun k h1 h2 => hk.block k (by have : k ≠ g := fun e => h2 (by rw [e]); omega)⟩)))
  obtain ⟨f, hf⟩ : ∃ f, f = pickL (fun x m => cmpI (T m) (T x)) l (m - 1) := ⟨_, rfl⟩
  have hfl : f ∈ l := by rw [hf]; exact pickL_in (by omega)
  have hmax : ∀ r, r ∈ l → T r ≤ T f := fun r hr => by
    obtain ⟨p, hp, e⟩ := List.getElem_of_mem hr
    have := pickL_max (T := T) (l := l) (k := m - 1) p (by omega)
    rw [List.getD_eq_getElem?_getD, List.getElem?_eq_getElem hp, ← hf] at this
    simpa [e] using this
  rw [← hf] at HMin
  have HF := Lib.hid hfl
  have HMx := Lib.hid hmax
  have HC4 := Lib.hid ha4
  have HA := Lib.hid (And.intro ha1 (And.intro ha2 ha3))
  clear hp0 hcmp hm hf hfl hmax ha4 ha3 ha2 ha1
  go_enter Try.func104, Try.ntmps104
  go_wp2_with fail
  rw [← hwa]
  clear hwa
  refine HMin.out.mono ?_
  rintro e w1 ⟨rfl, q, hw1⟩
  obtain ⟨ha1, ha2, ha3⟩ := HA.out
  have hs1 : w1.heap.size = w.heap.size + 1 := by rw [hw1]; exact ha1
  have K1 := Lib.hid (show w.grownBy w1 (some g) from by rw [hw1]; exact ⟨ha2.os, ha2.tape, ha2.output, ha2.size, ha2.block⟩)
  have C1 := Lib.hid (show CellsW w1 g (encB n G Cp) l by rw [hw1]; exact HC4.out.drewN q)
  have F1 := Lib.hid (show w1.cell? ⟨w.heap.size, 0, none⟩ = some (.func (.func 105) #[] #[.pointer (some ⟨vb, 0, none⟩)]) from by rw [hw1]; simpa using ha3)
  have hs1' := Lib.hid hs1
  clear hw1 ha1 ha2 ha3 HA HC4 HMin hs1
  unfold encB
  go_wp2_with fail
  have hb2 := below_alloc (Below.refl w1.heap.size w1) (.cells #[.slice (some ⟨G f, 0, none⟩) n (Cp f)] 23)
  have hx2 := cell_of_row _ _ 0 _ _ _ (heap_alloc_last w1 (.cells #[.slice (some ⟨G f, 0, none⟩) n (Cp f)] 23))
  have hg1 : g < w1.heap.size := by have := hs1'.out; omega
  obtain ⟨w2, hw2⟩ : ∃ w2, w2 = w1.alloc (.cells #[.slice (some ⟨G f, 0, none⟩) n (Cp f)] 23) := ⟨_, rfl⟩
  rw [← hw2] at hb2 hx2 ⊢
  clear hw2
  have K2 := Lib.hid (show w.grownBy w2 (some g) from K1.out.trans ⟨hb2.os, hb2.tape, hb2.output, hb2.size, fun k hk _ => hb2.block k hk⟩)
  have C2 := C1.out.of_block (hb2.block g hg1)
  have F2 := (hb2.cell (p := ⟨w.heap.size, 0, none⟩) (by have := hs1'.out; show w.heap.size < _; omega)).trans F1.out
  have hsz2 := hb2.size
  have hs1o := hs1'.out
  have HDel := Lib.hid (rowsDelete_any 116 #[.pointer (some ⟨w.heap.size, 0, none⟩), .pointer (some ⟨w1.heap.size, 0, none⟩)] (enters_of Try.func116 (by kernel_rfl) rfl) (encB n G Cp) (fun _ => rfl) (fun r => decide (cmpI (T r) (T f) < 0)) l g c m w2 QM.out hlen hc hc2 C2 (fun W r hr hk => by
    have hne : w.heap.size ≠ g := by omega
    have hne1 : w1.heap.size ≠ g := by omega
    exact foremost1_any w.heap.size w1.heap.size _ #[.pointer (some ⟨vb, 0, none⟩)] egh (encB n G Cp f) (encB n G Cp r) (cmpI (T r) (T f)) W ((hk.cell (by show w.heap.size < g ∨ g + 1 ≤ w.heap.size; omega)).trans F2) ((hk.cell (by show w1.heap.size < g ∨ g + 1 ≤ w1.heap.size; omega)).trans hx2) (HCmp.out W f r HF.out hr (K2.out.trans ⟨hk.os, hk.tape, hk.output, by rw [hk.size]; exact Nat.le_refl _, fun k h1 h2 => hk.block k (by have : k ≠ g := fun e => h2 (by rw [e]); omega)⟩))))
  clear C2 F2 hx2 hb2 hsz2 hs1o
  refine HDel.out.mono ?_
  rintro e w3 ⟨rfl, hc3, hk3⟩
  have EF := Lib.hid (show (l.filter fun r => !decide (cmpI (T r) (T f) < 0)) = l.filter fun r => !decide (T r < T f) from List.filter_congr fun r _ => by rw [show decide (cmpI (T r) (T f) < 0) = decide (T r < T f) from decide_eq_decide.2 cmpI_lt])
  have HC3 := Lib.hid hc3
  have K3 := Lib.hid (show w.grownBy w3 (some g) from K2.out.trans ⟨hk3.os, hk3.tape, hk3.output, by rw [hk3.size]; exact Nat.le_refl _, fun k h1 h2 => hk3.block k (by have : k ≠ g := fun e => h2 (by rw [e]); omega)⟩)
  rw [EF.out]
  clear hc3 hk3 HDel
  go_wp2
  go_ret
  exact ⟨f, HF.out, HMx.out, rfl, by rw [← EF.out]; exact HC3.out, K3.out⟩

theorem keeps_grown {g : Nat} {w W : World} (h : Keeps g (g + 1) w W) : w.grownBy W (some g) := by
  refine ⟨h.os, h.tape, h.output, by rw [h.size]; exact Nat.le_refl _, fun k _ h2 => h.block k ?_⟩
  have : k ≠ g := fun e => h2 (by rw [e])
  omega
/-- Of a list of deals, those with the greatest total. -/
def bestsL (n : Nat) (Z : Nat → Nat → Int) (FF : List (List Int)) : List (List Int) := FF.filter fun D => decide (dealT Z (nth D) n = mostT n Z FF)
/-- The r-th of all deals. -/
def rowD (m n r : Nat) : List Int := (dealsP m n).getD r []
/-- What best hands back: the rows that tell these deals, with a top row of its own. -/
def RetBest (n m : Nat) (BB : List (List Int)) (w : World) (e : Ending) (w' : World) : Prop :=
  ∃ (g cap : Nat) (l : List Nat) (G Cp : Nat → Nat), e = .returned (.slice (some ⟨g, 0, none⟩) l.length cap) ∧ CellsW w' g (encB n G Cp) l ∧ (∀ r, r ∈ l → w.heap.size ≤ G r ∧ G r < w'.heap.size ∧ OwnR w' (G r) (some ⟨G r, 0, none⟩) n (nth (rowD m n r))) ∧ l.map (rowD m n) = BB ∧ Below w.heap.size w w'

theorem rowD_in {m n r : Nat} (h : r < (dealsP m n).length) : rowD m n r ∈ dealsP m n := by
  unfold rowD
  rw [List.getD_eq_getElem?_getD, List.getElem?_eq_getElem h]; exact List.getElem_mem h
theorem rows_map (m n : Nat) : (List.range (dealsP m n).length).map (rowD m n) = dealsP m n := by
  refine List.ext_getElem (by simp) fun i i1 i2 => ?_
  simp [rowD, List.getD_eq_getElem?_getD, i2]
theorem dealsP_ok {m n : Nat} {D : List Int} : D ∈ dealsP m n ↔ D.length = n ∧ IsDeal n m (nth D) := by rw [← deals_way n m 0]; exact mem_deal 0
theorem map_fil (p : List Int → Bool) (m n : Nat) : ((List.range (dealsP m n).length).filter fun r => p (rowD m n r)).map (rowD m n) = (dealsP m n).filter p := by
  have h := List.filter_map (f := rowD m n) (p := p) (l := List.range (dealsP m n).length)
  rw [rows_map] at h
  exact h.symm
/-- The greatest total is that of the deal which the search finds. -/
theorem most_found {m n f : Nat} {Z : Nat → Nat → Int} {l : List Nat} {FF : List (List Int)} (hl : l.map (rowD m n) = FF) (hf : f ∈ l) (hpos : 0 ≤ dealT Z (nth (rowD m n f)) n) (hmax : ∀ r, r ∈ l → dealT Z (nth (rowD m n r)) n ≤ dealT Z (nth (rowD m n f)) n) : dealT Z (nth (rowD m n f)) n = mostT n Z FF := by
  have h1 : dealT Z (nth (rowD m n f)) n ≤ mostT n Z FF := mostT_ge (by rw [← hl]; exact List.mem_map_of_mem hf)
  rcases mostT_is (n := n) (Z := Z) FF with e | ⟨E, hE, e⟩
  · omega
  · rw [← hl] at hE
    obtain ⟨r, hr, rfl⟩ := List.mem_map.1 hE
    have := hmax r hr
    omega
theorem deal_nonneg {n m : Nat} {Z : Nat → Nat → Int} {D : Nat → Int} (hZ : ∀ r, r < n → ∀ x, x < m → 0 ≤ Z r x ∧ Z r x ≤ 20) (hD : IsDeal n m D) : 0 ≤ dealT Z D n ∧ dealT Z D n ≤ 20 * (n : Int) :=
  dealT_range (by omega) n fun i hi hd => hZ i hi _ (by have := hD.1 i hi; omega)

set_option maxRecDepth 100000 in
set_option maxHeartbeats 1600000 in
theorem best_any (n c m : Nat) (a : Option Addr) (A : Nat → Option Addr) (L C : Nat → Nat) (Z : Nat → Nat → Int) (w : World) (hn1 : 1 ≤ n) (hn : n ≤ 4) (hm5 : m ≤ 5) (hL : ∀ r, r < n → L r = m) (hZ : ∀ r, r < n → ∀ x, x < m → 0 ≤ Z r x ∧ Z r x ≤ 20) (ha0 : Tab w a n A L C Z)
    (gh : Nat) (lh : Array Value) (egh : ∀ args w, (callFunc gh args).run Try.prog w = .ok (.enter gh args) w) (p : List Int → Bool) (hp : ∀ W D aD cD, Below w.heap.size w W → D ∈ dealsP m n → Rd W aD n (nth D) → FnGives Try.prog gh lh #[.slice aD n cD] (.bool (p D)) W) (hnone : p (List.replicate n (-1)) = true) :
    Calls Try.prog 68 #[.slice a n c, .func (.func gh) #[] lh] w (RetBest n m (bestsL n Z ((dealsP m n).filter p)) w) := by
  have hb1 := below_alloc (Below.refl w.heap.size w) (.cells #[.slice a n c] 44)
  have hx1 := heap_alloc_last w (.cells #[.slice a n c] 44)
  obtain ⟨wa, hwa⟩ : ∃ wa, wa = w.alloc (.cells #[.slice a n c] 44) := ⟨_, rfl⟩
  have hsa : wa.heap.size = w.heap.size + 1 := by rw [hwa]; simp
  rw [← hwa] at hb1 hx1
  have hb2 := below_alloc (Below.refl wa.heap.size wa) (.cells #[.func (.func gh) #[] lh] 48)
  have hx2 := heap_alloc_last wa (.cells #[.func (.func gh) #[] lh] 48)
  obtain ⟨wb, hwb⟩ : ∃ wb, wb = wa.alloc (.cells #[.func (.func gh) #[] lh] 48) := ⟨_, rfl⟩
  have hsb : wb.heap.size = w.heap.size + 2 := by rw [hwb]; simp [hsa]
  rw [← hwb] at hb2 hx2
  rw [hsa] at hx2
  have B0 := Lib.hid (show Below w.heap.size w wb from hb1.trans (hb2.mono (by omega)))
  have hxv := (hb2.cell (p := ⟨w.heap.size, 0, none⟩) (by show w.heap.size < _; omega)).trans (cell_of_row _ _ 0 _ _ _ hx1)
  have hxh := cell_of_row _ _ 0 _ _ _ hx2
  have HX := Lib.hid (show wb.cell? ⟨w.heap.size, 0, none⟩ = some (.slice a n c) ∧ wb.cell? ⟨w.heap.size + 1, 0, none⟩ = some (.func (.func gh) #[] lh) from ⟨hxv, hxh⟩)
  have HD := Lib.hid (bidDeals_any n c m a A L C Z wb hn1 hn (hL 0 (by omega)).symm hm5 (ha0.below (Nat.le_refl _) B0.out))
  have HA := Lib.hid ha0
  have HL := Lib.hid hL
  have HZ := Lib.hid hZ
  have HP := Lib.hid hp
  have HN := Lib.hid hnone
  have hsb' := Lib.hid hsb
  clear hb1 hx1 hb2 hx2 hxv hxh ha0 hL hZ hp hnone hsa hsb
  go_enter Try.func68, Try.ntmps68
  go_wp2_with fail
  rw [← hwa, ← hwb]
  clear hwa hwb
  refine HD.out.mono ?_
  rintro e w1 ⟨g, cap, G, Cp, rfl, hM, hB⟩
  have hg := hM.1.lt g rfl
  have hcap := owns_fits hM.1
  obtain ⟨M, hMM⟩ : ∃ M, M = (dealsP m n).length := ⟨_, rfl⟩
  have hM1296 : M ≤ 1296 := by rw [hMM]; exact dealsP_small hm5 hn
  have hsb := hsb'.out
  have B1 := Lib.hid (show Below w.heap.size w w1 from B0.out.trans (hB.mono B0.out.size))
  have HRow := Lib.hid (fun W r (hr : r < M) (hgr : w1.grownBy W (some g)) => show w.heap.size ≤ G r ∧ G r < W.heap.size ∧ OwnR W (G r) (some ⟨G r, 0, none⟩) n (nth (rowD m n r)) from by
    obtain ⟨k1, k2, k3, k4⟩ := hM.2.1 r (by rw [← hMM]; exact hr)
    have e1 : lenL (dealsP m n) r = n := dealsP_len (rowD_in (by rw [← hMM]; exact hr))
    rw [e1] at k4
    exact ⟨by omega, Nat.lt_of_lt_of_le k2 hgr.size, k4.of_block (hgr.block _ k2 (fun e => k3 e.symm))⟩)
  have HTab := Lib.hid (fun W (hgr : w1.grownBy W (some g)) => show Tab W a n A L C Z from HA.out.below (Nat.le_refl _) (B1.out.trans ⟨hgr.os, hgr.tape, hgr.output, hgr.size, fun k hk => hgr.block k (Nat.lt_of_lt_of_le hk B1.out.size) (by intro e; cases e; omega)⟩))
  have HCl := Lib.hid (fun W (hgr : w1.grownBy W (some g)) => show W.cell? ⟨w.heap.size, 0, none⟩ = some (.slice a n c) ∧ W.cell? ⟨w.heap.size + 1, 0, none⟩ = some (.func (.func gh) #[] lh) from by
    obtain ⟨x1, x2⟩ := HX.out
    have y1 := (hB.cell (p := ⟨w.heap.size, 0, none⟩) (by show w.heap.size < _; omega)).trans x1
    have y2 := (hB.cell (p := ⟨w.heap.size + 1, 0, none⟩) (by show w.heap.size + 1 < _; omega)).trans x2
    exact ⟨hgr.cell y1 (by intro e; have : w.heap.size = g := by simpa using e
                           omega), hgr.cell y2 (by intro e; have : w.heap.size + 1 = g := by simpa using e
                                                   omega)⟩)
  have C1 : CellsW w1 g (encB n G Cp) (List.range M) := fun k hk => by
    have hk : k < M := by simpa using hk
    have h1 := hM.1.cells (g := g) rfl k (.slice (some ⟨G k, 0, none⟩) (lenL (dealsP m n) k) (Cp k)) (by rw [← hMM]; simp [hk])
    rw [Go.WideShapes.add_plain, Nat.zero_add, show lenL (dealsP m n) k = n from dealsP_len (rowD_in (by rw [← hMM]; exact hk))] at h1
    rw [show (List.range M).getD k 0 = k from by rw [List.getD_eq_getElem?_getD, List.getElem?_range hk]; rfl]
    exact ⟨h1, hM.1.frozenAt _⟩
  have hBel := Lib.hid (fun W (hgr : w1.grownBy W (some g)) => show Below w.heap.size w W from B1.out.trans ⟨hgr.os, hgr.tape, hgr.output, hgr.size, fun k hk => hgr.block k (Nat.lt_of_lt_of_le hk B1.out.size) (by intro e; cases e; omega)⟩)
  rw [← hMM] at hcap
  have HDel := Lib.hid (rowsDelete_any 103 #[.pointer (some ⟨w.heap.size + 1, 0, none⟩)] (enters_of Try.func103 (by kernel_rfl) rfl) (encB n G Cp) (fun _ => rfl) (fun r => !p (rowD m n r)) (List.range M) g cap M w1 (by simp) (by omega) hcap.1 hcap.2 C1 (fun W r hr hk => by
    have hr := List.mem_range.1 hr
    have hgr := keeps_grown hk
    exact best1_any (w.heap.size + 1) gh lh egh _ (p (rowD m n r)) W (HCl.out W hgr).2 (HP.out W (rowD m n r) _ _ (hBel.out W hgr) (rowD_in (by rw [← hMM]; exact hr)) (HRow.out W r hr hgr).2.2.rd)))
  rw [← hMM]
  have QMM := Lib.hid hMM
  clear hM hB C1 HD HX hMM
  go_wp2_with fail
  refine HDel.out.mono ?_
  rintro e w2 ⟨rfl, hc2, hk2⟩
  have hMM := QMM.out
  have EL : (List.range M).filter (fun r => !(!p (rowD m n r))) = (List.range M).filter fun r => p (rowD m n r) := List.filter_congr fun r _ => by simp
  rw [EL] at hc2 ⊢
  obtain ⟨l, hl⟩ : ∃ l, l = (List.range M).filter fun r => p (rowD m n r) := ⟨_, rfl⟩
  have hlm : l.map (rowD m n) = (dealsP m n).filter p := by rw [hl, hMM]; exact map_fil p m n
  have hlM : ∀ r, r ∈ l → r < M := fun r hr => by rw [hl] at hr; exact List.mem_range.1 (List.mem_filter.1 hr).1
  have hl0 : 0 < l.length := by
    have h1 : List.replicate n (-1 : Int) ∈ (dealsP m n).filter p := List.mem_filter.2 ⟨dealsP_none n, HN.out⟩
    rw [← hlm] at h1
    obtain ⟨r, hr, _⟩ := List.mem_map.1 h1
    exact List.length_pos_of_mem hr
  have hlM2 : l.length ≤ M := by rw [hl]; exact Nat.le_trans (List.length_filter_le _ _) (by simp)
  rw [← hl] at hc2 ⊢
  have hgr2 := keeps_grown hk2
  have HFo := Lib.hid (foremost_any n g cap l.length w.heap.size G Cp l (fun r => dealT Z (nth (rowD m n r)) n) w2 rfl hl0 (by omega) (by omega) hcap.2 hc2 (fun W r s hr hs hgr => by
    have hgr := hgr2.trans hgr
    have hD : ∀ r, r ∈ l → ∀ i, i < n → -1 ≤ nth (rowD m n r) i ∧ nth (rowD m n r) i < m := fun r hr => (dealsP_ok.1 (rowD_in (by rw [← hMM]; exact hlM r hr))).2.1
    exact best2_any w.heap.size n c m a A L C Z _ _ _ _ _ _ W (by omega) HL.out HZ.out (HTab.out W hgr) (HCl.out W hgr).1 (hD r hr) (hD s hs) (HRow.out W r (hlM r hr) hgr).2.2.rd (HRow.out W s (hlM s hs) hgr).2.2.rd))
  have HG2 := Lib.hid hgr2
  have HLM := Lib.hid (And.intro hlm (And.intro hlM hMM))
  clear hc2 hk2 EL hgr2 hl hlm hlM HDel
  obtain ⟨q, hq⟩ : ∃ q, q = l.length := ⟨_, rfl⟩
  rw [← hq] at HFo ⊢
  clear hq hl0 hlM2
  go_wp2_with fail
  refine HFo.out.mono ?_
  rintro e w3 ⟨f, hf, hmax, rfl, hc3, hg3⟩
  obtain ⟨hlm, hlM, hMM⟩ := HLM.out
  have hgr := HG2.out.trans hg3
  have hpos := (deal_nonneg HZ.out (dealsP_ok.1 (rowD_in (n := n) (m := m) (by rw [← hMM]; exact hlM f hf))).2).1
  have hmo := most_found (Z := Z) hlm hf hpos hmax
  have HE := Lib.hid (show (l.filter fun r => !decide (dealT Z (nth (rowD m n r)) n < dealT Z (nth (rowD m n f)) n)).map (rowD m n) = bestsL n Z ((dealsP m n).filter p) from by
    have e1 : (l.filter fun r => !decide (dealT Z (nth (rowD m n r)) n < dealT Z (nth (rowD m n f)) n)) = l.filter fun r => decide (dealT Z (nth (rowD m n r)) n = mostT n Z ((dealsP m n).filter p)) := List.filter_congr fun r hr => by
      have h1 := hmax r hr
      rw [← hmo]
      by_cases e : dealT Z (nth (rowD m n r)) n < dealT Z (nth (rowD m n f)) n
      · have : ¬ dealT Z (nth (rowD m n r)) n = dealT Z (nth (rowD m n f)) n := by omega
        simp [e, this]
      · have : dealT Z (nth (rowD m n r)) n = dealT Z (nth (rowD m n f)) n := by omega
        simp [this]
    rw [e1]
    unfold bestsL
    rw [← hlm, List.filter_map]
    rfl)
  have HC3 := Lib.hid hc3
  have HR3 := Lib.hid (fun r (hr : r ∈ l.filter fun r => !decide (dealT Z (nth (rowD m n r)) n < dealT Z (nth (rowD m n f)) n)) => HRow.out w3 r (hlM r (List.mem_filter.1 hr).1) hgr)
  have HB3 := Lib.hid (hBel.out w3 hgr)
  obtain ⟨l3, hl3⟩ : ∃ l3, l3 = l.filter fun r => !decide (dealT Z (nth (rowD m n r)) n < dealT Z (nth (rowD m n f)) n) := ⟨_, rfl⟩
  rw [← hl3] at HC3 HR3 HE ⊢
  clear hc3 hmax hpos hmo hgr hlm hlM hl3
  go_wp2
  go_ret
  exact ⟨g, cap, l3, G, Cp, rfl, HC3.out, HR3.out, HE.out, HB3.out⟩
end Go.Proofs.Ytaipodnhnekpjaa
