/- The program's longer: it yields the list and all that go on behind it. -/
/- The program's waysFrom: an iterator. -/
import Derived.Test.YteigenmagifplaaSeq
import Derived.Test.YteigenmagifplaaContains
import Derived.Test.YteigenmagifplaaClone
import Derived.WalkKit
import Derived.OwnWalkIn
import Derived.TacticsInMore
import Derived.LoopNIn
import Derived.LoopIn
namespace Go.Proofs.Yteigenmagifplaa
set_option linter.unusedVariables false

section
open Go.RowKit
attribute [local go_sem] Oper.semAt_some wide_fn wide_round_fn

theorem hasI_mem {B : List Int} {x : Int} : HasI B.length (nth B) x ↔ x ∈ B := mem_nth.symm
theorem cellsD_snoc (B : List Int) (x : Int) : cellsD B ++ [.int .i64 x] = cellsD (B ++ [x]) := by
  unfold cellsD
  rw [cellsL_snoc, List.length_append]
  exact cellsL_congr fun k hk => by
    have hk' : k < B.length + 1 := hk
    by_cases e : k < B.length
    · rw [if_pos e, nth_snoc_lt e]
    · have : k = B.length := by omega
      rw [if_neg e, this, nth_snoc]
theorem yieldAt_mono {m : Nat} {P : Program} {l : Nat} {args : Array Value} {W : World} {R R' : Ending → World → Prop} (h : YieldAt Fence.wide 9 P l args W R) (hr : ∀ e w, R e w → R' e w) : YieldAt Fence.wide m P l args W R' := by
  obtain ⟨fn, tmps, assign, body, hy, hR⟩ := h
  exact ⟨fn, tmps, assign, body, hy, roundIn_wide (hR.mono hr)⟩

/-- What longer hands back. -/
def RetLater (tI s g cap : Nat) (B : List Int) (V : Nat → Prop) (J Jx : (Nat → Prop) → List (List Int) → World → Prop) (pre LB : List (List Int)) (W : World) (e : Ending) (W' : World) : Prop :=
  Outside (fun k => V k ∨ k = g) W W' ∧ W'.ownsRow s tI 1 (.slice (some ⟨g, 0, none⟩) B.length cap) B.length (cellsD B) ∧ ∃ V', (∀ k, V' k → V k ∨ W.heap.size ≤ k) ∧
    (e = .returned (.bool true) ∧ J V' (pre ++ LB) W' ∨ e = .returned (.bool false) ∧ ∃ q, q <+: LB ∧ Jx V' (pre ++ q) W')

set_option maxRecDepth 100000 in
set_option maxHeartbeats 4000000 in
theorem longer_in6 (n least s l : Nat) (J Jx : (Nat → Prop) → List (List Int) → World → Prop) (LL : List (List Int)) (hn2 : 2 ≤ n) (hn : n ≤ 6) (hle : least ≤ n) (hJ : Caller J) (hJx : Caller Jx) (hY : Yields Try.prog 3 s l J Jx LL) (f : Nat) :
    ∀ (B : List Int) (g cap : Nat) (V : Nat → Prop) (pre : List (List Int)) (W : World), Diff n B → 1 ≤ B.length → B.length + f = n → J V pre W → ¬ V g → s ≤ W.heap.size →
      W.ownsRow s 3 1 (.slice (some ⟨g, 0, none⟩) B.length cap) B.length (cellsD B) → (pre ++ later n least f B) <+: LL →
      CallsIn Fence.wide 9 Try.prog 73 #[.int .i64 n, .int .i64 least, .slice (some ⟨g, 0, none⟩) B.length cap, .func (.yield l) #[] #[]] W (RetLater 3 s g cap B V J Jx pre (later n least f B) W) := by
  induction f using Nat.strongRecOn with
  | ind f ih =>
    intro B g cap V pre W hd hm1 hf hj hg hs hown hpre
    obtain ⟨i0, hi, hz0, hz1, hz2⟩ := info_parts Try.infoInt
    have hle5 := diff_le hd
    have IH := Lib.hid ih
    have HD := Lib.hid hd
    have HG := Lib.hid hg
    have HJ := Lib.hid hj
    have HO := Lib.hid hown
    have hgl := (owns_cap hown).2.2
    have hcap := (owns_cap hown).1
    have EQ := Lib.hid (later_eq (least := least) hd hf)
    rw [later_eq (least := least) hd hf] at hpre ⊢
    have HP := Lib.hid hpre
    have HY := Lib.hid hY
    clear ih hd hg hj hown hpre hY
    by_cases h2 : 2 ≤ B.length
    · have hq : decide (2 ≤ (B.length : Int)) = true := by simp; omega
      have H0 := Lib.hid (show laterTo n least (f - 1) B least = [B] by rw [laterTo_least, if_pos h2])
      refine callsIn_of_wp Try.func73 rfl trivial ?_ rfl
      simp only [Try.ntmps73, List.size_toArray, List.length_cons, List.length_nil, Nat.reduceAdd, Nat.reduceSub, Array.replicate_succ, Array.replicate_zero, List.push_toArray, List.append_toArray, List.nil_append, List.cons_append]
      gi_wp2_with (gi_at_call 60; refine (callsIn_wide.2 (clone_any B.length cap (some ⟨g, 0, none⟩) (nth B) _ (by omega) (by omega) (owns_rd HO.out))).mono ?_; rintro e W1 ⟨g3, cap3, rfl, hown3, hb3⟩; have B3 := Lib.hid hb3; have J3 := Lib.hid (hJ.steady _ _ _ _ HJ.out (Inside.of_below hb3 (hJ.lies _ _ _ HJ.out))); have O3 := Lib.hid (owns_base hown3 hs); have hg3 := (owns_cap hown3).2.1; have F3 := Lib.hid (show ¬ V g3 from fun h => by have h2 := hJ.lies _ _ _ HJ.out _ h; omega); clear hown3 hb3; obtain ⟨fn, tmps, assign, body, hy, hR⟩ := HY.out V pre B g3 cap3 W1 J3.out (by have h1 := HP.out; have h2 := laterTo_front (n := n) (least := least) (f := f - 1) (B := B) hle; rw [H0.out] at h2; exact ((List.prefix_append_right_inj _).2 h2).trans h1) O3.out F3.out; have HR := Lib.hid hR; clear hR)
      refine (roundIn_wide HR.out).mono ?_
      rintro e W2 ⟨ho2, V2, hV2, (⟨rfl, hj2⟩ | ⟨rfl, hj2⟩)⟩
      · have O2 := Lib.hid (show Outside (fun j => V j ∨ j = g) W W2 from ((Outside.of_below (V := fun j => V j ∨ j = g) B3.out).trans' ho2 (fun _ _ h => .inl h)))
        have W2o := Lib.hid (owns_at HO.out ((ho2.block g (by have := B3.out.size; omega) HG.out).trans (B3.out.block g hgl)))
        have J2 := Lib.hid hj2
        have V2' := Lib.hid (show ∀ j, V2 j → V j ∨ W.heap.size ≤ j from fun j h => by rcases hV2 j h with h | h | h; exact .inl h; exact .inr (by omega); exact .inr (by have := B3.out.size; omega))
        clear ho2 hV2 hj2 hy HR
        gi_wp2
        gi_loopw [8, 9] (fun _ i wr => ∃ k : Nat, least ≤ k ∧ k ≤ n ∧ i = .int .i64 k ∧ Outside (fun j => V j ∨ j = g) W wr ∧ wr.ownsRow s 3 1 (.slice (some ⟨g, 0, none⟩) B.length cap) B.length (cellsD B) ∧
            ∃ V1, (∀ j, V1 j → V j ∨ W.heap.size ≤ j) ∧ J V1 (pre ++ laterTo n least (f - 1) B k) wr) (fun _ i _ => n - (intOf i).toNat)
        case atStart => exact ⟨least, Nat.le_refl _, hle, rfl, O2.out, W2o.out, V2, V2'.out, by rw [H0.out]; exact J2.out⟩
        case round =>
          obtain ⟨k, hk0, hk, rfl, hout, hown, V1, hV1, hj⟩ := hrel
          have OUT := Lib.hid hout
          have OWN := Lib.hid hown
          have HV1 := Lib.hid hV1
          have J1 := Lib.hid hj
          have G1 := Lib.hid (show ¬ V1 g from fun h => by rcases hV1 g h with h | h; exact HG.out h; omega)
          have hsz := hout.size
          have L1 := Lib.hid (hJ.lies _ _ _ hj)
          clear hout hown hV1 hj
          by_cases hlt : k < n
          · by_cases hin : (k : Int) ∈ B
            · have T1 := Lib.hid (tt_of (hasI_mem.2 hin))
              have N1 := Lib.hid (laterTo_no (n := n) (least := least) (f := f - 1) (k := k) (B := B) (fun h => h.2 hin))
              clear hin
              gi_wp2_with (gi_at_call 57; refine (callsIn_wide.2 (contains_any B.length cap (some ⟨g, 0, none⟩) (nth B) _ _ (by omega) (owns_rd OWN.out))).mono ?_; rintro e w1 ⟨rfl, rfl⟩; rw [T1.out])
              go_roundw
              case rel => exact ⟨k + 1, by omega, by omega, by go_num, OUT.out, OWN.out, V1, HV1.out, by rw [N1.out]; exact J1.out⟩
              case measure => simp [intOf]; omega
            · have T1 := Lib.hid (tt_no (fun h => hin (hasI_mem.1 h)))
              have N1 := Lib.hid (laterTo_yes (n := n) (least := least) (f := f - 1) (k := k) (B := B) ⟨hk0, hin⟩)
              have hnd := (HD.out.snoc_iff hlt).2 hin
              have hle2 := diff_le hnd
              rw [List.length_append] at hle2
              simp only [List.length_cons, List.length_nil] at hle2
              have ND := Lib.hid hnd
              have PF := Lib.hid (show (pre ++ laterTo n least (f - 1) B k) ++ later n least (f - 1) (B ++ [(k : Int)]) <+: LL by
                have h1 := laterTo_front (n := n) (least := least) (f := f - 1) (B := B) (show k + 1 ≤ n by omega)
                rw [N1.out] at h1
                rw [List.append_assoc]
                exact ((List.prefix_append_right_inj _).2 h1).trans HP.out)
              clear hin hnd
              gi_wp2_with (first
                | (gi_at_call 57; refine (callsIn_wide.2 (contains_any B.length cap (some ⟨g, 0, none⟩) (nth B) _ _ (by omega) (owns_rd OWN.out))).mono ?_; rintro e w1 ⟨rfl, rfl⟩; rw [T1.out])
                | (gi_at_builtin; refine wpListIn_append1_g _ (4, true) (.tmp 33) (.tmp 35) (by rfl) 3 i0 Try.underlying23 hi hz0 hz1 hz2 s g B.length cap (cellsD B) (by rfl) (OWN.out.alloc _) ⟨wr.heap.size, 0, none⟩ 1 (.int .i64 k) (by rfl) (by simp) (by rfl) (by omega) ?_; intro g4 cap4 w4 hown4 hown5 hgr4 hat4; rw [cellsD_snoc] at hown4; have O4 := Lib.hid hown4; have O5 := Lib.hid hown5; have G4 := Lib.hid hgr4; have A4 := Lib.hid hat4; clear hown4 hown5 hgr4 hat4))
              have e1 : (B ++ [(k : Int)]).length = B.length + 1 := by simp
              have hs4 := G4.out.size
              simp only [World.size_alloc] at hs4
              have HIN := Lib.hid (show Inside V1 wr w4 from ((Outside.of_below (below_alloc (Below.refl _ wr) (.cells #[.int .i64 k] 3)) : Outside (fun _ => False) wr _).inside L1.out (fun _ _ h => h)).trans ((Outside.of_grown (V := fun j => j = g) G4.out (fun j h => by cases h; rfl)).inside (fun j h => by have := L1.out j h; simp; omega) (fun j h e => G1.out (by rw [← e]; exact h))))
              have hg4 : ¬ V1 g4 := fun h => by
                rcases A4.out with ⟨rfl, _⟩ | h'
                · exact G1.out h
                · have := L1.out _ h; (try simp only [World.size_alloc] at h'); omega
              have hc : CallsIn Fence.wide 9 Try.prog 73 #[.int .i64 n, .int .i64 least, .slice (some ⟨g4, 0, none⟩) (B.length + 1) cap4, .func (.yield l) #[] #[]] w4 (RetLater 3 s g4 cap4 (B ++ [(k : Int)]) V1 J Jx (pre ++ laterTo n least (f - 1) B k) (later n least (f - 1) (B ++ [(k : Int)])) w4) := by
                have h := IH.out (f - 1) (by omega) (B ++ [(k : Int)]) g4 cap4 V1 (pre ++ laterTo n least (f - 1) B k) w4 ND.out (by rw [e1]; omega) (by rw [e1]; omega) (hJ.steady _ _ _ _ J1.out HIN.out) hg4 (by omega) (by rw [e1]; exact O4.out) PF.out
                rw [e1] at h
                exact h
              refine (callsIn_wide.2 (callsIn_wide.1 hc)).mono ?_
              have HOUT := Lib.hid (show ∀ W5, Outside (fun j => V1 j ∨ j = g4) w4 W5 → Outside (fun j => V j ∨ j = g) W W5 from fun W5 h => by
                have o1 : Outside (fun j => V j ∨ j = g) wr w4 := (Outside.of_below (V := fun j => V j ∨ j = g) (below_alloc (Below.refl _ wr) (.cells #[.int .i64 k] 3))).trans' (Outside.of_grown (V := fun j => V j ∨ j = g) G4.out (fun j h => by cases h; exact .inr rfl)) (fun _ _ h => h)
                refine (OUT.out.trans' o1 (fun _ _ h => h)).trans' h (fun j hj hv => ?_)
                rcases hv with hv | rfl
                · rcases HV1.out j hv with h' | h'
                  · exact .inl h'
                  · omega
                · rcases A4.out with ⟨h', _⟩ | h'
                  · exact .inr h'
                  · (try simp only [World.size_alloc] at h'); omega)
              have HOWN := Lib.hid (show ∀ W5, Outside (fun j => V1 j ∨ j = g4) w4 W5 → W5.ownsRow s 3 1 (.slice (some ⟨g4, 0, none⟩) (B.length + 1) cap4) (B.length + 1) (cellsD (B ++ [(k : Int)])) → W5.ownsRow s 3 1 (.slice (some ⟨g, 0, none⟩) B.length cap) B.length (cellsD B) from fun W5 h hw => by
                rcases A4.out with ⟨h1, h2⟩ | h'
                · rw [h1, h2, ← cellsD_snoc] at hw
                  exact owns_front hw (cellsL_length _ _)
                · (try simp only [World.size_alloc] at h')
                  exact owns_at O5.out (h.block g (by omega) (fun hv => by rcases hv with hv | hv; exact G1.out hv; omega)))
              have HV2 := Lib.hid (show ∀ V2 : Nat → Prop, (∀ j, V2 j → V1 j ∨ w4.heap.size ≤ j) → ∀ j, V2 j → V j ∨ W.heap.size ≤ j from fun V2 h j hj => by
                rcases h j hj with h' | h'
                · exact HV1.out j h'
                · exact .inr (by omega))
              have FR := Lib.hid (show laterTo n least (f - 1) B k ++ later n least (f - 1) (B ++ [(k : Int)]) <+: laterTo n least (f - 1) B n by rw [← N1.out]; exact laterTo_front (by omega))
              clear hc hg4 hs4
              rintro e W5 ⟨hout5, hown5, V2, hV2, (⟨rfl, hj5⟩ | ⟨rfl, q, hq, hj5⟩)⟩
              · have OUT5 := Lib.hid (HOUT.out W5 hout5)
                have OWN5 := Lib.hid (HOWN.out W5 hout5 (by rw [e1] at hown5; exact hown5))
                have V5 := Lib.hid (HV2.out V2 hV2)
                have J5 := Lib.hid hj5
                clear hout5 hown5 hV2 hj5 e1
                gi_wp2
                go_roundw
                case rel => exact ⟨k + 1, by omega, by omega, by go_num, OUT5.out, OWN5.out, V2, V5.out, by rw [N1.out, ← List.append_assoc]; exact J5.out⟩
                case measure => simp [intOf]; omega
              · have OUT5 := Lib.hid (HOUT.out W5 hout5)
                have OWN5 := Lib.hid (HOWN.out W5 hout5 (by rw [e1] at hown5; exact hown5))
                have V5 := Lib.hid (HV2.out V2 hV2)
                have J5 := Lib.hid hj5
                have Q5 := Lib.hid hq
                clear hout5 hown5 hV2 hj5 e1 hq
                gi_wp2
                go_ret
                exact ⟨OUT5.out, OWN5.out, V2, V5.out, .inr ⟨rfl, laterTo n least (f - 1) B k ++ q, ((List.prefix_append_right_inj _).2 Q5.out).trans FR.out, by rw [← List.append_assoc]; exact J5.out⟩⟩
          · obtain rfl : k = n := by omega
            gi_wp2
            go_ret
            exact ⟨OUT.out, OWN.out, V1, HV1.out, .inl ⟨rfl, J1.out⟩⟩
      · have O2 := Lib.hid (show Outside (fun j => V j ∨ j = g) W W2 from ((Outside.of_below (V := fun j => V j ∨ j = g) B3.out).trans' ho2 (fun _ _ h => .inl h)))
        have W2o := Lib.hid (owns_at HO.out ((ho2.block g (by have := B3.out.size; omega) HG.out).trans (B3.out.block g hgl)))
        have J2 := Lib.hid hj2
        have V2' := Lib.hid (show ∀ j, V2 j → V j ∨ W.heap.size ≤ j from fun j h => by rcases hV2 j h with h | h | h; exact .inl h; exact .inr (by omega); exact .inr (by have := B3.out.size; omega))
        have PQ := Lib.hid (laterTo_front (n := n) (least := least) (f := f - 1) (B := B) hle)
        clear ho2 hV2 hj2 hy HR
        gi_wp2
        go_ret
        exact ⟨O2.out, W2o.out, V2, V2'.out, .inr ⟨rfl, [B], by rw [← H0.out]; exact PQ.out, J2.out⟩⟩
    · have hq : decide (2 ≤ (B.length : Int)) = false := by simp; omega
      have H0 := Lib.hid (show laterTo n least (f - 1) B least = [] by rw [laterTo_least, if_neg h2])
      refine callsIn_of_wp Try.func73 rfl trivial ?_ rfl
      simp only [Try.ntmps73, List.size_toArray, List.length_cons, List.length_nil, Nat.reduceAdd, Nat.reduceSub, Array.replicate_succ, Array.replicate_zero, List.push_toArray, List.append_toArray, List.nil_append, List.cons_append]
      gi_wp2
      gi_loopw [8, 9] (fun _ i wr => ∃ k : Nat, least ≤ k ∧ k ≤ n ∧ i = .int .i64 k ∧ Outside (fun j => V j ∨ j = g) W wr ∧ wr.ownsRow s 3 1 (.slice (some ⟨g, 0, none⟩) B.length cap) B.length (cellsD B) ∧
          ∃ V1, (∀ j, V1 j → V j ∨ W.heap.size ≤ j) ∧ J V1 (pre ++ laterTo n least (f - 1) B k) wr) (fun _ i _ => n - (intOf i).toNat)
      case atStart => exact ⟨least, Nat.le_refl _, hle, rfl, Outside.refl _ _, HO.out, V, (fun j h => .inl h), by rw [H0.out, List.append_nil]; exact HJ.out⟩
      case round =>
        obtain ⟨k, hk0, hk, rfl, hout, hown, V1, hV1, hj⟩ := hrel
        have OUT := Lib.hid hout
        have OWN := Lib.hid hown
        have HV1 := Lib.hid hV1
        have J1 := Lib.hid hj
        have G1 := Lib.hid (show ¬ V1 g from fun h => by rcases hV1 g h with h | h; exact HG.out h; omega)
        have hsz := hout.size
        have L1 := Lib.hid (hJ.lies _ _ _ hj)
        clear hout hown hV1 hj
        by_cases hlt : k < n
        · by_cases hin : (k : Int) ∈ B
          · have T1 := Lib.hid (tt_of (hasI_mem.2 hin))
            have N1 := Lib.hid (laterTo_no (n := n) (least := least) (f := f - 1) (k := k) (B := B) (fun h => h.2 hin))
            clear hin
            gi_wp2_with (gi_at_call 57; refine (callsIn_wide.2 (contains_any B.length cap (some ⟨g, 0, none⟩) (nth B) _ _ (by omega) (owns_rd OWN.out))).mono ?_; rintro e w1 ⟨rfl, rfl⟩; rw [T1.out])
            go_roundw
            case rel => exact ⟨k + 1, by omega, by omega, by go_num, OUT.out, OWN.out, V1, HV1.out, by rw [N1.out]; exact J1.out⟩
            case measure => simp [intOf]; omega
          · have T1 := Lib.hid (tt_no (fun h => hin (hasI_mem.1 h)))
            have N1 := Lib.hid (laterTo_yes (n := n) (least := least) (f := f - 1) (k := k) (B := B) ⟨hk0, hin⟩)
            have hnd := (HD.out.snoc_iff hlt).2 hin
            have hle2 := diff_le hnd
            rw [List.length_append] at hle2
            simp only [List.length_cons, List.length_nil] at hle2
            have ND := Lib.hid hnd
            have PF := Lib.hid (show (pre ++ laterTo n least (f - 1) B k) ++ later n least (f - 1) (B ++ [(k : Int)]) <+: LL by
              have h1 := laterTo_front (n := n) (least := least) (f := f - 1) (B := B) (show k + 1 ≤ n by omega)
              rw [N1.out] at h1
              rw [List.append_assoc]
              exact ((List.prefix_append_right_inj _).2 h1).trans HP.out)
            clear hin hnd
            gi_wp2_with (first
              | (gi_at_call 57; refine (callsIn_wide.2 (contains_any B.length cap (some ⟨g, 0, none⟩) (nth B) _ _ (by omega) (owns_rd OWN.out))).mono ?_; rintro e w1 ⟨rfl, rfl⟩; rw [T1.out])
              | (gi_at_builtin; refine wpListIn_append1_g _ (4, true) (.tmp 33) (.tmp 35) (by rfl) 3 i0 Try.underlying23 hi hz0 hz1 hz2 s g B.length cap (cellsD B) (by rfl) (OWN.out.alloc _) ⟨wr.heap.size, 0, none⟩ 1 (.int .i64 k) (by rfl) (by simp) (by rfl) (by omega) ?_; intro g4 cap4 w4 hown4 hown5 hgr4 hat4; rw [cellsD_snoc] at hown4; have O4 := Lib.hid hown4; have O5 := Lib.hid hown5; have G4 := Lib.hid hgr4; have A4 := Lib.hid hat4; clear hown4 hown5 hgr4 hat4))
            have e1 : (B ++ [(k : Int)]).length = B.length + 1 := by simp
            have hs4 := G4.out.size
            simp only [World.size_alloc] at hs4
            have HIN := Lib.hid (show Inside V1 wr w4 from ((Outside.of_below (below_alloc (Below.refl _ wr) (.cells #[.int .i64 k] 3)) : Outside (fun _ => False) wr _).inside L1.out (fun _ _ h => h)).trans ((Outside.of_grown (V := fun j => j = g) G4.out (fun j h => by cases h; rfl)).inside (fun j h => by have := L1.out j h; simp; omega) (fun j h e => G1.out (by rw [← e]; exact h))))
            have hg4 : ¬ V1 g4 := fun h => by
              rcases A4.out with ⟨rfl, _⟩ | h'
              · exact G1.out h
              · have := L1.out _ h; (try simp only [World.size_alloc] at h'); omega
            have hc : CallsIn Fence.wide 9 Try.prog 73 #[.int .i64 n, .int .i64 least, .slice (some ⟨g4, 0, none⟩) (B.length + 1) cap4, .func (.yield l) #[] #[]] w4 (RetLater 3 s g4 cap4 (B ++ [(k : Int)]) V1 J Jx (pre ++ laterTo n least (f - 1) B k) (later n least (f - 1) (B ++ [(k : Int)])) w4) := by
              have h := IH.out (f - 1) (by omega) (B ++ [(k : Int)]) g4 cap4 V1 (pre ++ laterTo n least (f - 1) B k) w4 ND.out (by rw [e1]; omega) (by rw [e1]; omega) (hJ.steady _ _ _ _ J1.out HIN.out) hg4 (by omega) (by rw [e1]; exact O4.out) PF.out
              rw [e1] at h
              exact h
            refine (callsIn_wide.2 (callsIn_wide.1 hc)).mono ?_
            have HOUT := Lib.hid (show ∀ W5, Outside (fun j => V1 j ∨ j = g4) w4 W5 → Outside (fun j => V j ∨ j = g) W W5 from fun W5 h => by
              have o1 : Outside (fun j => V j ∨ j = g) wr w4 := (Outside.of_below (V := fun j => V j ∨ j = g) (below_alloc (Below.refl _ wr) (.cells #[.int .i64 k] 3))).trans' (Outside.of_grown (V := fun j => V j ∨ j = g) G4.out (fun j h => by cases h; exact .inr rfl)) (fun _ _ h => h)
              refine (OUT.out.trans' o1 (fun _ _ h => h)).trans' h (fun j hj hv => ?_)
              rcases hv with hv | rfl
              · rcases HV1.out j hv with h' | h'
                · exact .inl h'
                · omega
              · rcases A4.out with ⟨h', _⟩ | h'
                · exact .inr h'
                · (try simp only [World.size_alloc] at h'); omega)
            have HOWN := Lib.hid (show ∀ W5, Outside (fun j => V1 j ∨ j = g4) w4 W5 → W5.ownsRow s 3 1 (.slice (some ⟨g4, 0, none⟩) (B.length + 1) cap4) (B.length + 1) (cellsD (B ++ [(k : Int)])) → W5.ownsRow s 3 1 (.slice (some ⟨g, 0, none⟩) B.length cap) B.length (cellsD B) from fun W5 h hw => by
              rcases A4.out with ⟨h1, h2⟩ | h'
              · rw [h1, h2, ← cellsD_snoc] at hw
                exact owns_front hw (cellsL_length _ _)
              · (try simp only [World.size_alloc] at h')
                exact owns_at O5.out (h.block g (by omega) (fun hv => by rcases hv with hv | hv; exact G1.out hv; omega)))
            have HV2 := Lib.hid (show ∀ V2 : Nat → Prop, (∀ j, V2 j → V1 j ∨ w4.heap.size ≤ j) → ∀ j, V2 j → V j ∨ W.heap.size ≤ j from fun V2 h j hj => by
              rcases h j hj with h' | h'
              · exact HV1.out j h'
              · exact .inr (by omega))
            have FR := Lib.hid (show laterTo n least (f - 1) B k ++ later n least (f - 1) (B ++ [(k : Int)]) <+: laterTo n least (f - 1) B n by rw [← N1.out]; exact laterTo_front (by omega))
            clear hc hg4 hs4
            rintro e W5 ⟨hout5, hown5, V2, hV2, (⟨rfl, hj5⟩ | ⟨rfl, q, hq, hj5⟩)⟩
            · have OUT5 := Lib.hid (HOUT.out W5 hout5)
              have OWN5 := Lib.hid (HOWN.out W5 hout5 (by rw [e1] at hown5; exact hown5))
              have V5 := Lib.hid (HV2.out V2 hV2)
              have J5 := Lib.hid hj5
              clear hout5 hown5 hV2 hj5 e1
              gi_wp2
              go_roundw
              case rel => exact ⟨k + 1, by omega, by omega, by go_num, OUT5.out, OWN5.out, V2, V5.out, by rw [N1.out, ← List.append_assoc]; exact J5.out⟩
              case measure => simp [intOf]; omega
            · have OUT5 := Lib.hid (HOUT.out W5 hout5)
              have OWN5 := Lib.hid (HOWN.out W5 hout5 (by rw [e1] at hown5; exact hown5))
              have V5 := Lib.hid (HV2.out V2 hV2)
              have J5 := Lib.hid hj5
              have Q5 := Lib.hid hq
              clear hout5 hown5 hV2 hj5 e1 hq
              gi_wp2
              go_ret
              exact ⟨OUT5.out, OWN5.out, V2, V5.out, .inr ⟨rfl, laterTo n least (f - 1) B k ++ q, ((List.prefix_append_right_inj _).2 Q5.out).trans FR.out, by rw [← List.append_assoc]; exact J5.out⟩⟩
        · obtain rfl : k = n := by omega
          gi_wp2
          go_ret
          exact ⟨OUT.out, OWN.out, V1, HV1.out, .inl ⟨rfl, J1.out⟩⟩
end

section
open Go.RowKit
attribute [local go_sem] Oper.semAt_some wide_fn wide_round_fn

theorem waysFrom_any (n i : Int) (w : World) :
    Calls Try.prog 68 #[.int .i64 n, .int .i64 i] w fun e w' => e = .returned (.func (.func 72) #[] #[.pointer (some ⟨w.heap.size, 0, none⟩), .pointer (some ⟨w.heap.size + 1, 0, none⟩)]) ∧ w' = (w.alloc (.cells #[.int .i64 n] 3)).alloc (.cells #[.int .i64 i] 3) := by
  go_enter Try.func68, Try.ntmps68
  go_wp2
  go_ret
  exact ⟨rfl, rfl⟩

theorem owns_new (w : World) (s tI : Nat) (x : Int) (hs : s ≤ w.heap.size) : (w.alloc (.cells #[.int .i64 x] tI)).ownsRow s tI 1 (.slice (some ⟨w.heap.size, 0, none⟩) 1 1) 1 (cellsD [x]) :=
  ⟨rfl, .inr ⟨w.heap.size, 1, #[.int .i64 x], rfl, hs, World.alloc_heap_new w _, Nat.le_refl _, by unfold maxLen; omega, rfl, rfl⟩⟩
theorem diff_one {n k : Nat} (h : k < n) : Diff n [(k : Int)] := by
  have := (Diff.nil n).snoc_iff (x := k) h
  simp at this
  exact this

set_option maxRecDepth 100000 in
set_option maxHeartbeats 2000000 in
theorem seq_ways6 (n i Bn Bi : Nat) (w : World) (hn2 : 2 ≤ n) (hn : n ≤ 6) (hi : i < n) (hc : w.cell? ⟨Bn, 0, none⟩ = some (.int .i64 n)) (hci : w.cell? ⟨Bi, 0, none⟩ = some (.int .i64 i)) :
    SeqL Try.prog 3 72 #[.pointer (some ⟨Bn, 0, none⟩), .pointer (some ⟨Bi, 0, none⟩)] (fun k => k = Bn ∨ k = Bi) (longer n (n - 1) [(i : Int)]) w := by
  intro l V J Jx W hin hR hJ hJx hY h0
  have hcW : W.cell? ⟨Bn, 0, none⟩ = some (.int .i64 n) := hin.cell (p := ⟨Bn, 0, none⟩) (.inl rfl) hc
  have hciW : W.cell? ⟨Bi, 0, none⟩ = some (.int .i64 i) := hin.cell (p := ⟨Bi, 0, none⟩) (.inr rfl) hci
  have J2 := hJ.steady _ _ _ _ h0 (Inside.of_below (below_alloc (Below.refl _ W) (.cells #[.int .i64 i] 3)) (hJ.lies _ _ _ h0))
  have hcl := longer_in6 n 0 W.heap.size l J Jx (longer n (n - 1) [(i : Int)]) hn2 hn (by omega) hJ hJx hY (n - 1) [(i : Int)] W.heap.size 1 V [] (W.alloc (.cells #[.int .i64 i] 3)) (diff_one hi) (by simp) (by simp; omega) J2
    (fun h => by have := hJ.lies _ _ _ h0 _ h; omega) (by simp) (owns_new W _ _ _ (Nat.le_refl _)) (by rw [later_zero, List.nil_append]; exact List.prefix_refl _)
  rw [later_zero, show ((0 : Nat) : Int) = 0 by rfl] at hcl
  simp only [List.length_cons, List.length_nil, Nat.zero_add] at hcl
  have HC := Lib.hid hcl
  clear hin hR hY h0 J2 hcl hc hci
  refine callsIn_of_wp Try.func72 rfl trivial ?_ rfl
  simp only [Try.ntmps72, List.size_toArray, List.length_cons, List.length_nil, Nat.reduceAdd, Nat.reduceSub, Array.replicate_succ, Array.replicate_zero, List.push_toArray, List.append_toArray, List.nil_append, List.cons_append]
  gi_wp2
  refine (callsIn_wide.2 (callsIn_wide.1 HC.out)).mono ?_
  rintro e W5 ⟨hout5, hown5, V2, hV2, (⟨rfl, hj5⟩ | ⟨rfl, q, hq, hj5⟩)⟩
  · have J5 := Lib.hid hj5
    clear hout5 hown5 hV2 hj5
    gi_wp2
    go_end0
    exact ⟨⟨_, rfl⟩, .inl ⟨V2, by have := J5.out; rwa [List.nil_append] at this⟩⟩
  · have J5 := Lib.hid hj5
    have Q5 := Lib.hid hq
    clear hout5 hown5 hV2 hj5 hq
    gi_wp2
    go_end0
    exact ⟨⟨_, rfl⟩, .inr ⟨V2, q, Q5.out, by have := J5.out; rwa [List.nil_append] at this⟩⟩
theorem seq_ways (n i Bn Bi : Nat) (w : World) (hn2 : 2 ≤ n) (hn : n ≤ 5) (hi : i < n) (hc : w.cell? ⟨Bn, 0, none⟩ = some (.int .i64 n)) (hci : w.cell? ⟨Bi, 0, none⟩ = some (.int .i64 i)) :
    SeqL Try.prog 3 72 #[.pointer (some ⟨Bn, 0, none⟩), .pointer (some ⟨Bi, 0, none⟩)] (fun k => k = Bn ∨ k = Bi) (longer n (n - 1) [(i : Int)]) w :=
  seq_ways6 n i Bn Bi w hn2 (by omega) hi hc hci
end

end Go.Proofs.Yteigenmagifplaa
