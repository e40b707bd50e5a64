/- The program's most, and the predicate that always holds. -/
import Derived.Test.YtaipodnhnekpjaaBidBestP
namespace Go.Proofs.Ytaipodnhnekpjaa
set_option linter.unusedVariables false
set_option linter.unusedSimpArgs false
open Go.RowKit

/-- A number where something holds, else 0. -/
noncomputable def ifT (P : Prop) (x : Int) : Int := if tt P = true then x else 0
theorem ifT_yes {P : Prop} {x : Int} (h : P) : ifT P x = x := by unfold ifT; rw [tt_of h]; rfl
theorem ifT_no {P : Prop} {x : Int} (h : ¬ P) : ifT P x = 0 := by unfold ifT; rw [tt_no h]; rfl

theorem IsBids.rows {n : Nat} {L : Nat → Nat} {Z : Nat → Nat → Int} (h : IsBids n L Z) : ∀ r, r < n → L r = L 0 := fun r hr => (h.2 r hr).1
theorem IsBids.cells {n : Nat} {L : Nat → Nat} {Z : Nat → Nat → Int} (h : IsBids n L Z) : ∀ r, r < n → ∀ x, x < L 0 → 0 ≤ Z r x ∧ Z r x ≤ 20 := fun r hr => (h.2 r hr).2
theorem nth_none {n i : Nat} (h : i < n) : nth (List.replicate n (-1 : Int)) i = -1 := by
  unfold nth
  rw [List.getD_eq_getElem?_getD, List.getElem?_replicate, if_pos h]; rfl
theorem none_deals (n : Nat) (Z : Nat → Nat → Int) : dealT Z (nth (List.replicate n (-1 : Int))) n = 0 := by
  rw [dealT_congr (B := fun _ => -1) n fun i hi => nth_none hi]
  exact none_total Z n
/-- There is a best one. -/
theorem bests_pos {n : Nat} {Z : Nat → Nat → Int} {FF : List (List Int)} (h : List.replicate n (-1 : Int) ∈ FF) : 0 < (bestsL n Z FF).length := by
  have hD : ∃ D, D ∈ FF ∧ dealT Z (nth D) n = mostT n Z FF := by
    rcases mostT_is (n := n) (Z := Z) FF with e | h'
    · exact ⟨_, h, by rw [none_deals, e]⟩
    · exact h'
  obtain ⟨D, hD, e⟩ := hD
  exact List.length_pos_of_mem (List.mem_filter.2 ⟨hD, by simpa using e⟩)
theorem bests_total {n : Nat} {Z : Nat → Nat → Int} {FF : List (List Int)} {D : List Int} (h : D ∈ bestsL n Z FF) : D ∈ FF ∧ dealT Z (nth D) n = mostT n Z FF := by
  obtain ⟨h1, h2⟩ := List.mem_filter.1 h
  exact ⟨h1, by simpa using h2⟩

theorem anyDeal_gives (v : Value) (W : World) : FnGives Try.prog 60 #[] #[v] (.bool true) W := by
  unfold FnGives
  show Calls Try.prog 60 #[v] W _
  go_enter Try.func60, Try.ntmps60
  go_wp2
  go_ret
  exact ⟨rfl, 0, rfl⟩

/-- The first of the rows that best hands back. -/
theorem RetBest.first {n m : Nat} {Z : Nat → Nat → Int} {FF : List (List Int)} {w : World} {e : Ending} {w' : World} (h : RetBest n m (bestsL n Z FF) w e w') (hF : List.replicate n (-1 : Int) ∈ FF) : ∃ g cap M G c2, e = .returned (.slice (some ⟨g, 0, none⟩) M cap) ∧ 0 < M ∧ M = (bestsL n Z FF).length ∧ w'.cell? ⟨g, 0, none⟩ = some (.slice (some ⟨G, 0, none⟩) n c2) ∧ w.heap.size ≤ G ∧ G < w'.heap.size ∧ OwnR w' G (some ⟨G, 0, none⟩) n (nth ((bestsL n Z FF).getD 0 [])) ∧ (bestsL n Z FF).getD 0 [] ∈ bestsL n Z FF ∧ Below w.heap.size w w' := by
  obtain ⟨g, cap, l, G, Cp, rfl, hc, hr, hm, hb⟩ := h
  have hp := bests_pos (Z := Z) hF
  have hlen : l.length = (bestsL n Z FF).length := by rw [← hm, List.length_map]
  have h0 : 0 < l.length := by omega
  have hin : l.getD 0 0 ∈ l := getD_in h0
  have e0 : (bestsL n Z FF).getD 0 [] = rowD m n (l.getD 0 0) := by
    rw [← hm]
    simp [List.getD_eq_getElem?_getD, h0]
  obtain ⟨k1, k2, k3⟩ := hr _ hin
  refine ⟨g, cap, l.length, G (l.getD 0 0), Cp (l.getD 0 0), rfl, h0, hlen, (hc 0 h0).1, k1, k2, by rw [e0]; exact k3, ?_, hb⟩
  rw [List.getD_eq_getElem?_getD, List.getElem?_eq_getElem hp]
  exact List.getElem_mem hp

set_option maxHeartbeats 800000 in
theorem most_any (n c m : Nat) (a : Option Addr) (A : Nat → Option Addr) (L C : Nat → Nat) (Z : Nat → Nat → Int) (w : World) (hn1 : 1 ≤ n) (hn : n ≤ 4) (hm5 : m ≤ 5) (hL : ∀ r, r < n → L r = m) (hZ : ∀ r, r < n → ∀ x, x < m → 0 ≤ Z r x ∧ Z r x ≤ 20) (ha0 : Tab w a n A L C Z)
    (gh : Nat) (lh : Array Value) (egh : ∀ args w, (callFunc gh args).run Try.prog w = .ok (.enter gh args) w) (p : List Int → Bool) (hp : ∀ W D aD cD, Below w.heap.size w W → D ∈ dealsP m n → Rd W aD n (nth D) → FnGives Try.prog gh lh #[.slice aD n cD] (.bool (p D)) W) (hnone : p (List.replicate n (-1)) = true) :
    Calls Try.prog 59 #[.slice a n c, .func (.func gh) #[] lh] w fun e w' => e = .returned (.int .i64 (mostT n Z ((dealsP m n).filter p))) ∧ Below w.heap.size w w' := by
  have HB := Lib.hid (best_any n c m a A L C Z w hn1 hn hm5 hL hZ ha0 gh lh egh p hp hnone)
  have hF : List.replicate n (-1 : Int) ∈ (dealsP m n).filter p := List.mem_filter.2 ⟨dealsP_none n, hnone⟩
  have HF := Lib.hid hF
  have HA := Lib.hid ha0
  have HL := Lib.hid hL
  have HZ := Lib.hid hZ
  clear hL hZ ha0 hp hnone hF
  go_enter Try.func59, Try.ntmps59
  go_wp2_with fail
  refine HB.out.mono ?_
  intro e w1 hret
  obtain ⟨g, cap, M, G, c2, rfl, hM0, _, hc, _, _, hown, hin, hb⟩ := hret.first HF.out
  obtain ⟨D, hD⟩ : ∃ D, D = (bestsL n Z ((dealsP m n).filter p)).getD 0 [] := ⟨_, rfl⟩
  rw [← hD] at hown hin
  obtain ⟨hin1, hmost⟩ := bests_total hin
  have hdl := (dealsP_ok.1 (List.mem_filter.1 hin1).1).2
  have HT := Lib.hid (bidTotal_any n c n c2 m a (some ⟨G, 0, none⟩) A L C Z (nth D) w1 (Nat.le_refl _) (by omega) HL.out HZ.out hdl.1 (HA.out.below (Nat.le_refl _) hb) hown.rd)
  rw [hmost] at HT
  have BB := Lib.hid hb
  have hz : (0 : Int) < (M : Int) := by omega
  clear hret hown hin hin1 hdl hmost hb hD HB
  go_wp2_with (go_at_call 98; refine HT.out.mono ?_; rintro e w' ⟨rfl, rfl⟩)
  go_ret
  exact ⟨rfl, BB.out⟩

/-- .. of all deals. -/
theorem most_all (n c m : Nat) (a : Option Addr) (A : Nat → Option Addr) (L C : Nat → Nat) (Z : Nat → Nat → Int) (w : World) (hn1 : 1 ≤ n) (hn : n ≤ 4) (hm5 : m ≤ 5) (hL : ∀ r, r < n → L r = m) (hZ : ∀ r, r < n → ∀ x, x < m → 0 ≤ Z r x ∧ Z r x ≤ 20) (ha0 : Tab w a n A L C Z) :
    Calls Try.prog 59 #[.slice a n c, .func (.func 60) #[] #[]] w fun e w' => e = .returned (.int .i64 (bestV n m Z)) ∧ Below w.heap.size w w' := by
  have h := most_any n c m a A L C Z w hn1 hn hm5 hL hZ ha0 _ #[] (enters_of Try.func60 (by kernel_rfl) rfl) (fun _ => true) (fun W D aD cD _ _ _ => anyDeal_gives _ W) rfl
  rw [show (dealsP m n).filter (fun _ => true) = dealsP m n from List.filter_eq_self.2 fun _ _ => rfl, ← deals_way n m 0] at h
  exact h
end Go.Proofs.Ytaipodnhnekpjaa
