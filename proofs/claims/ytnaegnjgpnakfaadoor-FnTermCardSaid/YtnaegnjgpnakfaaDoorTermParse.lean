/- The program's reader of terms: terms, and whole texts. -/
import Derived.Test.YtnaegnjgpnakfaaDoorTermCirc
namespace Go.Proofs.YtnaegnjgpnakfaaDoor
set_option linter.unusedVariables false
set_option linter.unusedSimpArgs false
open Go.RowKit

/-- The contract of the reader's term, from a place on with so much left. -/
def TermC (s : ByteArray) (g f : Nat) : Prop := ∀ (p : Nat) (w : World), p ≤ s.size → s.size ≤ p + f → TxtAt w g s p →
  Calls Tryd.prog 70 #[.pointer (some ⟨g, 0, none⟩)] w (RetTerm s g w (readT s f p))

theorem sign_num {c : Nat} (h : SignP c) (h' : c ≠ 45) : IntKind.u8.wrap ((c : Int) - 48) = ((c - 48 : Nat) : Int) ∧ wrap64 ((c - 48 : Nat) : Int) = ((c - 48 : Nat) : Int) := by
  unfold SignP at h
  refine ⟨?_, IntWalk.wrap64_in _ (by omega)⟩
  obtain ⟨x, rfl⟩ : ∃ x, c = x + 50 := ⟨c - 50, by omega⟩
  have : x ≤ 7 := by omega
  rcases (by omega : x = 0 ∨ x = 1 ∨ x = 2 ∨ x = 3 ∨ x = 4 ∨ x = 5 ∨ x = 6 ∨ x = 7) with rfl | rfl | rfl | rfl | rfl | rfl | rfl | rfl <;> rfl

set_option maxHeartbeats 1600000 in
theorem signed_any (s : ByteArray) (g f p c : Nat) (w : World) (H : TermC s g f) (hp : p ≤ s.size) (hf : s.size ≤ p + f) (h : TxtAt w g s p) (hc : SignP c) :
    Calls Tryd.prog 86 #[.pointer (some ⟨g, 0, none⟩), .int .u8 (c : Nat)] w (RetTerm s g w (signR c (readT s f p))) := by
  have T0 := Lib.hid (H p w hp hf h)
  clear h H hp hf
  cases ho : readT s f p with
  | none =>
    rw [ho] at T0
    go_enter Tryd.func86, Tryd.ntmps86
    go_wp2_with (go_at_call 70; refine T0.out.mono ?_; rintro e w1 ⟨hb, ⟨q, rfl⟩, hr⟩; have X1 := Lib.hid (And.intro hb hr); clear hb hr)
    go_ret2
    exact ⟨X1.out.1, ⟨q, rfl⟩, X1.out.2⟩
  | some o =>
    obtain ⟨t, e⟩ := o
    rw [ho] at T0
    by_cases e45 : c = 45
    · have d1 : ((c : Int) == 45) = true := by simp [e45]
      have E := Lib.hid (show signR c (some (t, e)) = some (.back t, e) by unfold signR; simp [e45])
      clear e45 hc
      go_enter Tryd.func86, Tryd.ntmps86
      go_wp2_with (go_at_call 70; refine T0.out.mono ?_; rintro e w1 ⟨hb, v, rfl, hr⟩; obtain ⟨T1, x1, hv⟩ := hr.1.iface; subst hv; have X1 := Lib.hid (And.intro hb hr); clear hb hr)
      go_ret2
      rw [E.out]
      exact ⟨X1.out.1, _, rfl, ⟨_, rfl, X1.out.2.1⟩, X1.out.2.2⟩
    · have d1 : ((c : Int) == 45) = false := by simp; omega
      have E := Lib.hid (show signR c (some (t, e)) = some (.times (c - 48) t, e) by unfold signR; simp [e45])
      obtain ⟨hw1, hw2⟩ := sign_num hc e45
      obtain ⟨k, hk⟩ : ∃ k, k = c - 48 := ⟨_, rfl⟩
      rw [← hk] at hw1 hw2 E
      clear e45 hc hk
      go_enter Tryd.func86, Tryd.ntmps86
      go_wp2_with (go_at_call 70; refine T0.out.mono ?_; rintro e w1 ⟨hb, v, rfl, hr⟩; obtain ⟨T1, x1, hv⟩ := hr.1.iface; subst hv; have X1 := Lib.hid (And.intro hb hr); clear hb hr)
      go_ret2
      rw [E.out]
      exact ⟨X1.out.1, _, rfl, ⟨_, rfl, X1.out.2.1⟩, X1.out.2.2⟩

set_option maxHeartbeats 1600000 in
theorem ahead_any (s : ByteArray) (g f p c : Nat) (w : World) (H : TermC s g f) (hs : s.size ≤ 60) (hp : p ≤ s.size) (hf : s.size ≤ p + f) (h : TxtAt w g s p) (hc : c ≠ 0) :
    Calls Tryd.prog 93 #[.pointer (some ⟨g, 0, none⟩), .int .u8 (c : Nat)] w (RetTerm s g w (aheadR s c (readT s f p))) := by
  have T0 := Lib.hid (H p w hp hf h)
  have HS := Lib.hid hs
  have HC := Lib.hid hc
  clear h H hf hs hc hp
  cases ho : readT s f p with
  | none =>
    rw [ho] at T0
    go_enter Tryd.func93, Tryd.ntmps93
    go_wp2_with (go_at_call 70; refine T0.out.mono ?_; rintro e w1 ⟨hb, ⟨q, rfl⟩, hr⟩; have X1 := Lib.hid (And.intro hb hr); clear hb hr)
    go_ret2
    exact ⟨X1.out.1, ⟨q, rfl⟩, X1.out.2⟩
  | some o =>
    obtain ⟨t, e⟩ := o
    have HE := Lib.hid (readT_bound _ _ _ _ ho).2
    rw [ho] at T0
    obtain ⟨b, hb⟩ : ∃ b, b = bt s e := ⟨_, rfl⟩
    have HB := Lib.hid hb
    clear ho hb
    have arm := fun (w1 : World) (h1 : ButR g w.heap.size w w1) (h2 : TxtAt w1 g s e) => take_any s g e w1 HS.out HE.out h2
    have HA := Lib.hid arm
    clear arm
    by_cases ec : b = c
    · have d1 : ((b : Int) != (c : Int)) = false := by simp [ec]
      have E := Lib.hid (show aheadR s c (some (t, e)) = some (t, e + 1) by show (if bt s e = c then some (t, e + 1) else none) = _; rw [if_pos (by rw [← HB.out, ec])])
      have HN := Lib.hid (show nxt s e = e + 1 from nxt_in (bt_pos (by rw [← HB.out, ec]; exact HC.out)))
      clear ec
      go_enter Tryd.func93, Tryd.ntmps93
      go_wp2_with (go_at_call 70; refine T0.out.mono ?_; rintro e' w1 ⟨hb, v, rfl, hr⟩; obtain ⟨T1, x1, hv⟩ := hr.1.iface; subst hv; have hcell : w1.cell? ⟨g, 1, none⟩ = some (.int .i64 (e : Nat)) := hr.2.cell (i := 1) (by omega); have X1 := Lib.hid (And.intro hb hr); clear hb hr)
      refine (HA.out w1 X1.out.1 X1.out.2.2).mono ?_
      rintro e' w2 ⟨rfl, tx, k2⟩
      rw [← HB.out]
      have X2 := Lib.hid (And.intro tx k2)
      clear tx k2 hcell
      go_wp2_with fail
      go_ret2
      rw [E.out]
      refine ⟨X1.out.1.trans (ButR.keeps X2.out.2), _, rfl, X1.out.2.1.but (ButR.keeps X2.out.2), ?_⟩
      have h := X2.out.1
      rwa [HN.out] at h
    · have d1 : ((b : Int) != (c : Int)) = true := by simp; omega
      have E := Lib.hid (show aheadR s c (some (t, e)) = none by show (if bt s e = c then some (t, e + 1) else none) = _; rw [if_neg (by rw [← HB.out]; exact ec)])
      have HN := Lib.hid (nxt_le HE.out)
      clear ec
      go_enter Tryd.func93, Tryd.ntmps93
      go_wp2_with (go_at_call 70; refine T0.out.mono ?_; rintro e' w1 ⟨hb, v, rfl, hr⟩; obtain ⟨T1, x1, hv⟩ := hr.1.iface; subst hv; have hcell : w1.cell? ⟨g, 1, none⟩ = some (.int .i64 (e : Nat)) := hr.2.cell (i := 1) (by omega); have X1 := Lib.hid (And.intro hb hr); clear hb hr)
      refine (HA.out w1 X1.out.1 X1.out.2.2).mono ?_
      rintro e' w2 ⟨rfl, tx, k2⟩
      rw [← HB.out]
      have X2 := Lib.hid (And.intro tx k2)
      clear tx k2 hcell
      go_wp2_with fail
      go_ret2
      rw [E.out]
      exact ⟨X1.out.1.trans (ButR.keeps X2.out.2), ⟨_, rfl⟩, _, HN.out, X2.out.1⟩

theorem RetTerm.back {s : ByteArray} {g : Nat} {w w1 w2 : World} {o : Option (Tm × Nat)} {e : Ending} (h : ButR g w.heap.size w w1) (hr : RetTerm s g w1 o e w2) : RetTerm s g w o e w2 :=
  ⟨h.trans (hr.1.mono h.size), hr.2⟩

/-- What comes back are two values. -/
theorem RetTerm.calls {f : Nat} {args : Array Value} {s : ByteArray} {g : Nat} {w : World} {o : Option (Tm × Nat)} (h : Calls Tryd.prog f args w (RetTerm s g w o)) :
    Calls Tryd.prog f args w fun e w' => ∃ v1 v2, e = .returned (.tuple #[v1, v2]) ∧ RetTerm s g w o (.returned (.tuple #[v1, v2])) w' :=
  h.mono fun e w' hr => by
    obtain ⟨h1, h2⟩ := hr
    cases o with
    | none =>
      obtain ⟨⟨q, rfl⟩, h3⟩ := h2
      exact ⟨_, _, rfl, h1, ⟨q, rfl⟩, h3⟩
    | some o =>
      obtain ⟨v, rfl, h3⟩ := h2
      exact ⟨_, _, rfl, h1, v, rfl, h3⟩
set_option maxHeartbeats 1600000 in
theorem pair_any (s : ByteArray) (g f p : Nat) (w : World) (H : TermC s g f) (hs : s.size ≤ 60) (hp : p ≤ s.size) (hf : s.size ≤ p + f) (h : TxtAt w g s p) :
    Calls Tryd.prog 85 #[.pointer (some ⟨g, 0, none⟩)] w (RetTerm s g w (bothR (aheadR s 46 (readT s f p)) (fun e => aheadR s 41 (readT s f e)))) := by
  have T0 := Lib.hid (ahead_any s g f p 46 w H hs hp hf h (by decide))
  have T1 := Lib.hid (fun (e : Nat) (w1 : World) (he : p ≤ e) (he2 : e ≤ s.size) (h1 : TxtAt w1 g s e) => ahead_any s g f e 41 w1 H hs he2 (by omega) h1 (by decide))
  clear h H hs
  cases ho : aheadR s 46 (readT s f p) with
  | none =>
    rw [ho] at T0
    clear T1 hp hf
    go_enter Tryd.func85, Tryd.ntmps85
    go_wp2_with (go_at_call 93; refine T0.out.mono ?_; rintro e w1 ⟨hb, ⟨q, rfl⟩, hr⟩; have X1 := Lib.hid (And.intro hb hr); clear hb hr)
    go_ret2
    exact ⟨X1.out.1, ⟨q, rfl⟩, X1.out.2⟩
  | some o =>
    obtain ⟨t, e⟩ := o
    have HE := Lib.hid (show p ≤ e ∧ e ≤ s.size by
      obtain ⟨e', h1, h2, _, h3⟩ := aheadR_some (by decide) ho
      have := readT_bound _ _ _ _ h1
      omega)
    rw [ho] at T0
    clear ho hp hf
    cases ho2 : aheadR s 41 (readT s f e) with
    | none =>
      have E := Lib.hid (show bothR (some (t, e)) (fun e => aheadR s 41 (readT s f e)) = none by simp only [bothR, ho2])
      go_enter Tryd.func85, Tryd.ntmps85
      go_wp2_with (go_at_call 93; refine T0.out.mono ?_; clear T0; rintro e' w1 ⟨hb, v, rfl, hr⟩; obtain ⟨V1, x1, hv⟩ := hr.1.iface; subst hv; have X1 := Lib.hid (And.intro hb hr); clear hb hr)
      refine (T1.out e w1 HE.out.1 HE.out.2 X1.out.2.2).mono ?_
      rw [ho2]
      rintro e' w2 ⟨hb, ⟨q, rfl⟩, hr⟩
      have X2 := Lib.hid (And.intro hb hr)
      clear hb hr ho2
      go_wp2_with fail
      go_ret2
      rw [E.out]
      exact ⟨X1.out.1.trans (X2.out.1.mono X1.out.1.size), ⟨q, rfl⟩, X2.out.2⟩
    | some o2 =>
      obtain ⟨t2, e2⟩ := o2
      have E := Lib.hid (show bothR (some (t, e)) (fun e => aheadR s 41 (readT s f e)) = some (.pair t t2, e2) by simp only [bothR, ho2])
      go_enter Tryd.func85, Tryd.ntmps85
      go_wp2_with (go_at_call 93; refine T0.out.mono ?_; clear T0; rintro e' w1 ⟨hb, v, rfl, hr⟩; obtain ⟨V1, x1, hv⟩ := hr.1.iface; subst hv; have X1 := Lib.hid (And.intro hb hr); clear hb hr)
      refine (T1.out e w1 HE.out.1 HE.out.2 X1.out.2.2).mono ?_
      rw [ho2]
      rintro e' w2 ⟨hb, v2, rfl, hr⟩
      obtain ⟨V2, x2, hv⟩ := hr.1.iface
      subst hv
      have X2 := Lib.hid (And.intro hb hr)
      clear hb hr ho2
      go_wp2_with fail
      go_ret2
      rw [E.out]
      exact ⟨X1.out.1.trans (X2.out.1.mono X1.out.1.size), _, rfl, ⟨_, _, rfl, X1.out.2.1.but X2.out.1, X2.out.2.1⟩, X2.out.2.2⟩
end Go.Proofs.YtnaegnjgpnakfaaDoor
