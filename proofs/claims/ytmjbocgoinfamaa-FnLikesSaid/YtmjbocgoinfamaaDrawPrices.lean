/- The draw of prices. -/
import Derived.Test.YtmjbocgoinfamaaDrawKit
namespace Go.Proofs.Ytmjbocgoinfamaa
set_option linter.unusedVariables false
open Go.RowKit

/-- What l91Prices hands back: m numbers of its own, the reader gone on. -/
def DrewRow (r : Nat) (a : Option Addr) (n c p m : Nat) (w : World) (e : Ending) (w' : World) : Prop :=
  ∃ g cap X p', e = .returned (.slice (some ⟨g, 0, none⟩) m cap) ∧ (w.heap.size ≤ g ∧ g < w'.heap.size ∧ m ≤ cap) ∧ Rd w' (some ⟨g, 0, none⟩) m X ∧ RdrAt w' r a n c p' ∧ p' ≤ p + 10 ∧ ButR r w.heap.size w w'

set_option maxHeartbeats 3200000 in
theorem l91Prices_any (r n c p m : Nat) (a : Option Addr) (B : Nat → Nat) (w : World) (hR : RdrAt w r a n c p) (hb : RdB w a n B) (hab : 0 < n → ∀ b o, a = some ⟨b, o, none⟩ → b < w.heap.size ∧ b ≠ r) (hn : n ≤ 2000) (hp : p ≤ 1000) (hm1 : 1 ≤ m) (hm : m ≤ 5) :
    Calls Try.prog 85 #[.pointer (some ⟨r, 0, none⟩), .int .i64 m] w (DrewRow r a n c p m w) := by
  obtain ⟨i0, hi, hz0, hz1, hz2⟩ := info_parts Try.infoInt
  have hrl := hR.lt
  have HRd := Lib.hid (hR.alloc (.cells #[] 3))
  have HB := Lib.hid hb
  have HAB := Lib.hid hab
  clear hR hb hab
  go_enter Try.func85, Try.ntmps85
  go_wp2
  have R0 := Lib.hid (show (w.alloc (.cells #[] 3)).ownsRow w.heap.size 3 1 (.slice (some ⟨w.heap.size, 0, none⟩) 0 0) 0 (cellsL 0 (fun _ => 0)) from World.ownsRow_made w #[] 0 (Nat.le_refl _) (Nat.zero_le _) (by simp))
  have B0 := Lib.hid ((ButR.refl r w.heap.size w).alloc (Nat.le_refl _) (.cells #[] 3))
  go_loopw [5, 6] (fun row s wi => ∃ k : Nat, k ≤ m ∧ s = .int .i64 k ∧ ∃ rv X p', rv = row ∧ wi.ownsRow w.heap.size 3 1 rv k (cellsL k X) ∧ RdrAt wi r a n c p' ∧ p' ≤ p + k ∧ ButR r w.heap.size w wi) (fun _ s _ => m - (intOf s).toNat)
  case atStart => exact ⟨0, Nat.zero_le _, rfl, _, fun _ => 0, p, rfl, R0.out, HRd.out, Nat.le_refl _, B0.out⟩
  case round =>
    obtain ⟨k, hk, rfl, rv, X, p', rfl, hown, hR, hp', hBu⟩ := hrel
    clear R0 B0 HRd
    have hsz := hBu.size
    by_cases hlt : k < m
    · have HO := Lib.hid hown
      have HR := Lib.hid hR
      have HU := Lib.hid hBu
      have hne : r ≠ wr.heap.size := by omega
      clear hown hR hBu
      go_wp2_with (first
        | (go_at_call 64; refine (pick_any r n c p' 9 a B _ (HR.out.alloc _) (HB.out.but HAB.out (HU.out.alloc hsz _)) (fun h0 b o e => (HAB.out h0 b o e).2) hn (by omega) (by omega) (by omega)).mono ?_; rintro e w5 ⟨x, rfl, hx, hR5, hK5⟩; obtain ⟨v, hv⟩ := nine (w := w5) (g := wr.heap.size) (x := x) ((hK5.block _ (by omega)).trans (heap_alloc_last wr _)) hx; have H5 := Lib.hid hR5; have hs5 : wr.heap.size + 1 ≤ w5.heap.size := (by rw [hK5.size, World.size_alloc]; exact Nat.le_refl _); have O5 := Lib.hid (owns_but (HO.out.alloc _) hrl hK5); have U5 := Lib.hid ((HU.out.alloc hsz (.cells _ 3)).trans (ButR.keeps hK5)); clear hR5 hK5)
        | (at_builtin; refine wpList_append_lies _ (by rfl) (.tmp 13) (.tmp 19) 24 (by rfl) w.heap.size 3 i0 (.int .i64 0) 1 8 Try.underlying24 hi hz0 hz1 hz2 (by rfl) (by decide) rv k (cellsL k X) (by rfl) (O5.out.alloc _) ⟨_, 0, none⟩ 1 1 [.int .i64 v] (by rfl) (by rfl) (news_one (by simp)) (by simp [Value.oneCell']) (by omega) (by unfold maxLen; omega) (by omega) (by first | omega | (simp; omega)) _ rfl ?_; intro g2 cap2 w2 hown2 hgrow2 hat2 hlt2; have N2 := Lib.hid hown2; have G2 := Lib.hid hgrow2; clear hown2 hgrow2 hat2))
      go_roundw
      case rel =>
        refine ⟨k + 1, by omega, by go_num, _, _, p' + 1, rfl, by have := N2.out; rwa [cellsL_snoc] at this, (H5.out.alloc _).grown G2.out (fun e => by have := (O5.out.lt r e).1; omega), by omega, (U5.out.alloc (by omega) _).grown G2.out (by simp; omega) (fun k hk => (O5.out.lt k hk).1)⟩
      case measure => simp [intOf]; omega
    · obtain rfl : k = m := by omega
      obtain ⟨gr, cr, rfl⟩ := owns_form hown (by omega)
      have hcap := owns_cap hown
      have HO := Lib.hid (OwnR.of_owns hown)
      have HR := Lib.hid hR
      have HU := Lib.hid hBu
      have hgr : r ≠ gr := by have := hcap.2.1; omega
      have hg1 := hcap.2.1
      have hg2 := hcap.2.2
      have hg3 := hcap.1
      clear hown hR hBu hcap
      go_wp2_with fail
      refine (pick_any r n c p' 40 a B _ HR.out (HB.out.but HAB.out HU.out) (fun h0 b o e => (HAB.out h0 b o e).2) hn (by omega) (by omega) (by omega)).mono ?_
      rintro e w5 ⟨x, rfl, hx, hR5, hK5⟩
      have H5 := Lib.hid hR5
      have hs5 : wr.heap.size ≤ w5.heap.size := Nat.le_of_eq hK5.size.symm
      have O5 := Lib.hid (HO.out.of_block (hK5.block gr (by omega)))
      have U5 := Lib.hid (HU.out.trans (ButR.keeps hK5))
      clear hR5 hK5
      by_cases hx0 : x = 0
      · subst hx0
        have hd : (((0 : Nat) : Int) == 0) = true := by decide
        go_wp2_with fail
        refine (pick_any r n c (p' + 1) 2 a B _ H5.out (HB.out.but HAB.out U5.out) (fun h0 b o e => (HAB.out h0 b o e).2) hn (by omega) (by omega) (by omega)).mono ?_
        rintro e w6 ⟨y, rfl, hy, hR6, hK6⟩
        have H6 := Lib.hid hR6
        have hs6 : w5.heap.size ≤ w6.heap.size := Nat.le_of_eq hK6.size.symm
        have hO6 := O5.out.of_block (hK6.block gr (by omega))
        have U6 := Lib.hid (U5.out.trans (ButR.keeps hK6))
        have hc6 : w6.cell? ⟨gr, 0, none⟩ = some (.int .i64 (X 0)) ∧ w6.frozen? ⟨gr, 0, none⟩ = false := by
          rcases hO6 with h0 | ⟨o, ha, hc⟩
          · omega
          · simp only [Option.some.injEq, Addr.mk.injEq, true_and, and_true] at ha
            subst ha
            exact hc 0 (by omega)
        have hc61 := hc6.1
        have hc62 := hc6.2
        have O6 := Lib.hid hO6
        clear hR6 hK6 hO6 hc6
        have hy1 : (y : Int) * 1000000001 ≤ 1000000001 := by omega
        go_wp2
        go_ret
        refine ⟨gr, cr, fun j => if j = 0 then (y : Int) * 1000000001 else X j, p' + 1 + 1, rfl, ⟨hg1, by simp [World.setCell]; omega, hg3⟩, ?_, H6.out.of_block (Below.heap_setCell _ _ _ _ hgr), by omega, U6.out.setCell (p := ⟨gr, 0, none⟩) hg1 _⟩
        intro j hj
        have h6 := O6.out.rd
        obtain ⟨b', o', he, hc⟩ := h6 j hj
        simp only [Option.some.injEq, Addr.mk.injEq, and_true] at he
        obtain ⟨rfl, rfl⟩ := he
        refine ⟨gr, 0, rfl, ?_⟩
        rw [Nat.zero_add] at hc ⊢
        show _ = some (Value.int .i64 (if j = 0 then (y : Int) * 1000000001 else X j))
        by_cases e : j = 0
        · subst e
          exact World.cell?_setCell_same _ _ _ hc61
        · rw [if_neg e, World.cell?_setCell_other _ _ _ _ (fun e' => e (by injection e' with _ e2; exact e2.symm))]
          exact hc
      · have hd : ((x : Int) == 0) = false := by simp; omega
        go_wp2
        go_ret
        exact ⟨gr, cr, X, p' + 1, rfl, ⟨hg1, by omega, hg3⟩, O5.out.rd, H5.out, by omega, U5.out⟩
end Go.Proofs.Ytmjbocgoinfamaa
