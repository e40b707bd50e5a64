/- The model's l7First: all best deals. -/
import Derived.Test.YtaipodnhnekpjaaL7Most
import Derived.Test.YtaipodnhnekpjaaBidMost
namespace Go.Proofs.Ytaipodnhnekpjaa
set_option linter.unusedVariables false
set_option linter.unusedSimpArgs false
open Go.RowKit

theorem _root_.Go.World.ownsRow.below_row {w w' : World} {base e n : Nat} {v : Value} {xs : List Value} (h : w.ownsRow base e 1 v n xs) (hb : Below w.heap.size w w') : w'.ownsRow base e 1 v n xs := by
  obtain ⟨k1, (k2 | ⟨g, cap, cur, k3, k4, k5, k6⟩)⟩ := h
  · exact ⟨k1, .inl k2⟩
  · exact ⟨k1, .inr ⟨g, cap, cur, k3, k4, (hb.block g (Array.getElem?_eq_some_iff.1 k5).1).trans k5, k6⟩⟩
/-- What l7First hands back: a top row of its own over rows of its own. -/
def RetFirst (tS n m : Nat) (BB : List (List Int)) (w : World) (e : Ending) (w' : World) : Prop :=
  ∃ (v : Value) (l : List Nat) (G Cp : Nat → Nat), e = .returned v ∧ w'.ownsRow w.heap.size tS 1 v l.length (l.map (encB n G Cp)) ∧ (∀ r, r ∈ l → w.heap.size ≤ G r ∧ G r < w'.heap.size ∧ OwnR w' (G r) (some ⟨G r, 0, none⟩) n (nth (rowD m n r))) ∧ l.map (rowD m n) = BB ∧ Below w.heap.size w w'
/-- The indexes of those with a total, below k. -/
def idxT (m n : Nat) (Z : Nat → Nat → Int) (T : Int) (k : Nat) : List Nat := (List.range k).filter fun r => decide (dealT Z (nth (rowD m n r)) n = T)
theorem idxT_yes {m n k : Nat} {Z : Nat → Nat → Int} {T : Int} (h : dealT Z (nth (rowD m n k)) n = T) : idxT m n Z T (k + 1) = idxT m n Z T k ++ [k] := by
  unfold idxT
  rw [List.range_succ, List.filter_append, List.filter_cons_of_pos (by simpa using h), List.filter_nil]
theorem idxT_no {m n k : Nat} {Z : Nat → Nat → Int} {T : Int} (h : ¬ dealT Z (nth (rowD m n k)) n = T) : idxT m n Z T (k + 1) = idxT m n Z T k := by
  unfold idxT
  rw [List.range_succ, List.filter_append, List.filter_cons_of_neg (by simpa using h), List.filter_nil, List.append_nil]
theorem idxT_le (m n : Nat) (Z : Nat → Nat → Int) (T : Int) (k : Nat) : (idxT m n Z T k).length ≤ k := Nat.le_trans (List.length_filter_le _ _) (by simp)
theorem idxT_mem {m n k r : Nat} {Z : Nat → Nat → Int} {T : Int} (h : r ∈ idxT m n Z T k) : r < k := List.mem_range.1 (List.mem_filter.1 h).1

set_option maxRecDepth 100000 in
set_option maxHeartbeats 1600000 in
theorem l7First_any (n c : Nat) (a : Option Addr) (A : Nat → Option Addr) (L C : Nat → Nat) (Z : Nat → Nat → Int) (w : World) (h : IsBids n L Z) (ha0 : Tab w a n A L C Z) :
    Calls Try.prog 67 #[.slice a n c] w (RetFirst 23 n (L 0) (bestsL n Z (dealsP (L 0) n)) w) := by
  obtain ⟨i1, hj, hy0, hy1, hy2⟩ := info_parts Try.infoInts
  obtain ⟨m, hm⟩ : ∃ m, m = L 0 := ⟨_, rfl⟩
  have hn4 := h.1.1.2
  have hm4 : m ≤ 4 := by rw [hm]; exact h.1.2.2
  have HBs := Lib.hid (fun w' (hb : Below w.heap.size w w') => l7Best_any n c a A L C Z w' h (ha0.below (Nat.le_refl _) hb))
  have HI := Lib.hid (fun w' (hb : Below w.heap.size w w') => l7Items_any n c (L 0) 0 a A L C Z 1 w' h.1.1.1 rfl h.1.2.1 h.1.2.2 (by omega) (ha0.below (Nat.le_refl _) hb))
  have HD := Lib.hid (fun w' ba cb a2 c2 (hba : ba < w'.heap.size) (hr : Rd w' a2 (L 0) (itemsX 0 1)) => l7Deals_any n c (L 0) a h.1.1.2 h.1.2.1 h.1.2.2 n [] (itemsX 0 1) 0 cb ba 0 c2 a2 w' rfl (by omega) (items_range (by omega)) hba (fun j hj => absurd hj (Nat.not_lt_zero _)) hr)
  have HT := Lib.hid (fun w' D g2 c2 (hb : Below w.heap.size w w') (hD : D ∈ dealsP (L 0) n) (hr : Rd w' (some ⟨g2, 0, none⟩) n (nth D)) => l7Total_any n c n c2 (L 0) a (some ⟨g2, 0, none⟩) A L C Z (nth D) w' (Nat.le_refl _) (by omega) h.rows h.cells (dealsP_ok.1 hD).2.1 (ha0.below (Nat.le_refl _) hb) hr)
  have O0 := Lib.hid (show (w.alloc (.cells #[] 23)).ownsRow w.heap.size 23 1 (.slice (some ⟨w.heap.size, 0, none⟩) 0 0) 0 [] from World.ownsRow_made w #[] 0 (Nat.le_refl _) (Nat.zero_le _) (by simp))
  rw [← hm] at HBs HI HD HT ⊢
  obtain ⟨T, hT⟩ : ∃ T, T = bestV n m Z := ⟨_, rfl⟩
  rw [← hT] at HBs
  have QT := Lib.hid hT
  clear ha0 h hm hT
  go_enter Try.func67, Try.ntmps67
  go_wp2_with (first
    | (go_at_call 57; refine (HBs.out _ (below_alloc (Below.refl _ _) _)).mono ?_; rintro e w1 ⟨rfl, hb⟩; have O1 := Lib.hid (O0.out.below_row hb); have B1 := Lib.hid ((below_alloc (Below.refl w.heap.size w) (.cells #[] 23)).trans (hb.mono (by simp))); clear hb)
    | (go_at_call 56; refine (HI.out _ (below_alloc B1.out _)).mono ?_; rintro e w2 ⟨gi, ci, rfl, hg, hO, hb⟩; have RI := Lib.hid hO.rd; have B2 := Lib.hid ((below_alloc (Below.refl w1.heap.size w1) (.cells #[] 3)).trans (hb.mono (by simp))); have S2 := Lib.hid (show w1.heap.size < w2.heap.size by have := hb.size; simp at this; omega); clear hg hO hb)
    | (go_at_call 90; refine (HD.out _ _ _ _ _ S2.out RI.out).mono ?_; rintro e w3 ⟨g, cap, G, Cp, rfl, hM, hb⟩; rw [deals_way] at hM ⊢; have HMk := Lib.hid hM; have B3 := Lib.hid (B1.out.trans ((B2.out.trans (hb.mono B2.out.size)).mono B1.out.size)); have O3 := Lib.hid (O1.out.below_row (B2.out.trans (hb.mono B2.out.size))); have S3 := Lib.hid (show w.heap.size ≤ w2.heap.size from Nat.le_trans B1.out.size B2.out.size); clear hM hb))
  obtain ⟨M, hMM⟩ : ∃ M, M = (dealsP m n).length := ⟨_, rfl⟩
  have hM1296 : M ≤ 1296 := by rw [hMM]; exact dealsP_small (by omega) hn4
  rw [← hMM] at HMk ⊢
  have QM := Lib.hid hMM
  have hgl := HMk.out.1.lt g rfl
  have S4 := Lib.hid (show w.heap.size < w2.heap.size by
    have h1 := B1.out.size
    have h2 := S2.out
    omega)
  clear hMM O0 O1 RI B2 S3
  go_loopw [3, 6] (fun o i wr => ∃ (k : Nat) (v : Value), k ≤ M ∧ i = .int .i64 k ∧ v = o ∧ wr.ownsRow w.heap.size 23 1 v (idxT m n Z T k).length ((idxT m n Z T k).map (encB n G Cp)) ∧ (∀ x, v.ownBlock = some x → x = w.heap.size ∨ w3.heap.size ≤ x) ∧ (∀ x, w2.heap.size ≤ x → x < w3.heap.size → wr.heap[x]? = w3.heap[x]?) ∧ w3.heap.size ≤ wr.heap.size ∧ Below w.heap.size w wr) (fun _ i _ => M - (intOf i).toNat)
  case atStart => exact ⟨0, _, Nat.zero_le _, rfl, rfl, O3.out, fun x hx => .inl (Option.some.inj hx).symm, fun _ _ _ => rfl, Nat.le_refl _, B3.out⟩
  case round =>
    obtain ⟨k, v, hk, rfl, rfl, hO, hv, hsame, hsz, hB⟩ := hrel
    have HO := Lib.hid hO
    have HV := Lib.hid hv
    have HSame := Lib.hid hsame
    have HB := Lib.hid hB
    have HSz := Lib.hid hsz
    clear hO hv hsame hB O3 B3
    have HRow := Lib.hid (fun r (hr : r < M) W (hs : ∀ x, w2.heap.size ≤ x → x < w3.heap.size → W.heap[x]? = w3.heap[x]?) => show W.cell? ⟨g, r, none⟩ = some (.slice (some ⟨G r, 0, none⟩) n (Cp r)) ∧ w2.heap.size ≤ G r ∧ G r < w3.heap.size ∧ OwnR W (G r) (some ⟨G r, 0, none⟩) n (nth (rowD m n r)) from by
      have hlen : lenL (dealsP m n) r = n := dealsP_len (rowD_in (by rw [← QM.out]; exact hr))
      have hck := HMk.out.1.cells (g := g) rfl r (.slice (some ⟨G r, 0, none⟩) (lenL (dealsP m n) r) (Cp r)) (by simp [hr])
      rw [Go.WideShapes.add_plain, Nat.zero_add, hlen] at hck
      obtain ⟨k1, k2, k3, k4⟩ := HMk.out.2.1 r hr
      rw [hlen] at k4
      exact ⟨(World.cell?_of_block (w := w3) (a := ⟨g, r, none⟩) (hs g hgl.1 hgl.2)).trans hck, k1, k2, k4.of_block (hs _ k1 k2)⟩)
    by_cases hlt : k < M
    · obtain ⟨hck, hg1, hg2, hown⟩ := HRow.out k hlt wr HSame.out
      have HTk := Lib.hid (HT.out wr (rowD m n k) (G k) (Cp k) HB.out (rowD_in (by rw [← QM.out]; exact hlt)) hown.rd)
      obtain ⟨S, hS⟩ : ∃ S, S = dealT Z (nth (rowD m n k)) n := ⟨_, rfl⟩
      rw [← hS] at HTk
      have QS := Lib.hid hS
      have hle := idxT_le m n Z T k
      have hkM : (k : Int) < (M : Int) := by omega
      clear hown hS hg1 hg2
      by_cases he : S = T
      · have d1 : (S == T) = true := by simp [he]
        have EX := Lib.hid (idxT_yes (m := m) (n := n) (Z := Z) (T := T) (k := k) (by rw [← QS.out]; exact he))
        obtain ⟨l, hl⟩ : ∃ l, l = idxT m n Z T k := ⟨_, rfl⟩
        rw [← hl] at HO EX hle
        clear he hl
        go_wp2_with (first
          | (go_at_call 94; refine HTk.out.mono ?_; rintro e w4 ⟨rfl, hb⟩; have hck4 := (hb.cell (p := ⟨g, k, none⟩) (World.block_lt_of_cell? _ _ hck)).trans hck; have B4 := Lib.hid hb; have O4 := Lib.hid (HO.out.below_row hb); clear hb)
          | (at_builtin; refine wpList_append_gen _ (by rfl) (.tmp 29) (.tmp 34) 22 (by rfl) w.heap.size 23 i1 (.slice none 0 0) 24 Try.underlying22 hj hy0 hy1 hy2 (by rfl) v l.length (l.map (encB n G Cp)) (by rfl) (O4.out.alloc _) ⟨_, 0, none⟩ 1 1 [.slice (some ⟨G k, 0, none⟩) n (Cp k)] (by rfl) (by rfl) (news_one (by simp)) (by simp [Value.oneCell']) (by unfold maxLen; omega) (by omega) (by have := B4.out.size; have := HB.out.size; simp; omega) ?_; intro v2 w5 hown2 hgrow2 hat2; have N2 := Lib.hid hown2; have G2 := Lib.hid hgrow2; have A2 := Lib.hid hat2; clear hown2 hgrow2 hat2))
        go_roundw
        case rel =>
          have h4 := B4.out.size
          have hs := HSz.out
          have hsw := HB.out.size
          have hs4 := S4.out
          refine ⟨k + 1, v2, by omega, by go_num, rfl, ?_, fun x hx => ?_, fun x hx1 hx2 => ?_, ?_, ?_⟩
          · rw [EX.out, List.length_append, List.map_append]
            exact N2.out
          · rcases A2.out with e | e
            · rw [e] at hx; exact HV.out x hx
            · rw [e] at hx
              have := Option.some.inj hx
              right
              rw [← this]
              simp
              omega
          · rw [G2.out.block x (by simp; omega) (fun e => by have := HV.out x e.symm; omega), Below.heap_alloc _ _ _ (by omega), B4.out.block x (by omega)]
            exact HSame.out x hx1 hx2
          · have := G2.out.size
            simp at this
            omega
          · exact (HB.out.trans ((below_alloc B4.out _).mono hsw)).grown G2.out (by simp; omega) (fun x hx => (HO.out.lt x hx).1)
        case measure => simp [intOf]; omega
      · have d1 : (S == T) = false := beq_eq_false_iff_ne.2 he
        have EX := Lib.hid (idxT_no (m := m) (n := n) (Z := Z) (T := T) (k := k) (by rw [← QS.out]; exact he))
        clear he
        go_wp2_with (go_at_call 94; refine HTk.out.mono ?_; rintro e w4 ⟨rfl, hb⟩; have B4 := Lib.hid hb; have O4 := Lib.hid (HO.out.below_row hb); clear hb)
        go_roundw
        case rel => exact ⟨k + 1, v, by omega, by go_num, rfl, by rw [EX.out]; exact O4.out, HV.out, fun x hx1 hx2 => by have := HSz.out; rw [B4.out.block x (by omega)]; exact HSame.out x hx1 hx2, by have := HSz.out; have := B4.out.size; omega, HB.out.trans (B4.out.mono HB.out.size)⟩
        case measure => simp [intOf]; omega
    · obtain rfl : k = M := by omega
      go_wp2
      go_ret
      refine ⟨v, idxT m n Z T k, G, Cp, rfl, HO.out, fun r hr => ?_, ?_, HB.out⟩
      · obtain ⟨_, k1, k2, k3⟩ := HRow.out r (idxT_mem hr) wr HSame.out
        have := HSz.out
        have := S4.out
        exact ⟨by omega, by omega, k3⟩
      · rw [QM.out]
        have h := map_fil (fun D => decide (dealT Z (nth D) n = T)) m n
        unfold bestsL
        rw [← deals_way n m 0, ← show bestV n m Z = mostT n Z (deals m n [] (itemsX 0 1)) from rfl, ← QT.out, deals_way]
        exact h
end Go.Proofs.Ytaipodnhnekpjaa
