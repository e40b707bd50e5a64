/- The model's l1Steps: greatest values of changes behind each other, in a new row. -/
import Derived.Test.YtakipaehoeapcaaProg
import Derived.Test.YtakipaehoeapcaaMem
import Derived.Test.YtakipaehoeapcaaInfoInts
import Derived.StillTailTactics
import Derived.Lib.MinMax
namespace Go.Proofs.Ytakipaehoeapcaa
set_option linter.unusedVariables false
open Go.RowKit

/-- What a call hands back that makes a new row of n integers X: nothing that was there has turned. -/
def RetRow (tI n : Nat) (X : Nat → Int) (w : World) (e : Ending) (w' : World) : Prop :=
  ∃ g, e = .returned (.slice (some ⟨g, 0, none⟩) n n) ∧ w.heap.size ≤ g ∧ w'.rowIs g tI n (fun i => .int .i64 (X i)) ∧ Below w.heap.size w w'

/-- The next row when x moneys are done and y numbers of the next one. -/
def nextF (T : Nat → Nat → Int) (now : Nat → Int) (x y k : Nat) : Int := rmax (fun j => now j * T j k) (if k < y then x + 1 else x)

theorem nextF_start (T : Nat → Nat → Int) (now : Nat → Int) (k : Nat) : 0 = nextF T now 0 0 k := rfl
theorem nextF_row (T : Nat → Nat → Int) (now : Nat → Int) (x n k : Nat) (hk : k < n) : nextF T now x n k = nextF T now (x + 1) 0 k := by
  unfold nextF; rw [if_pos hk, if_neg (Nat.not_lt_zero _)]
theorem nextF_step (T : Nat → Nat → Int) (now : Nat → Int) (x y k : Nat) : (if k = y then max (nextF T now x y y) (now x * T x y) else nextF T now x y k) = nextF T now x (y + 1) k := by
  unfold nextF
  by_cases e : k = y
  · subst e
    rw [if_pos rfl, if_neg (Nat.lt_irrefl _), if_pos (Nat.lt_succ_self _)]
    rfl
  · rw [if_neg e]
    by_cases h : k < y
    · rw [if_pos h, if_pos (by omega)]
    · rw [if_neg h, if_neg (by omega)]

set_option maxRecDepth 100000 in
set_option maxHeartbeats 1600000 in
theorem l1Steps_any (n c i : Nat) (a : Option Addr) (A : Nat → Option Addr) (L C : Nat → Nat) (Z : Nat → Nat → Int) (w : World) (hr : IsRates n L Z) (hi : i < n) (ha : Tab w a n A L C Z) :
    Calls Try.prog 98 #[.slice a n c, .int .i64 i] w (RetRow 3 n (stepV Z n i (n - 1)) w) := by
  have hn2 := hr.1.1
  have hn5 := hr.1.2
  have hmk := run_make_row' (P := Try.prog) 31 3 (.int .i64 0) 8 Try.underlying31 Try.infoInt rfl .i64 .i64 n (by omega) (by omega)
  have hset : (w.alloc (.cells (madeCells #[.int .i64 0] n) 3)).cell? ⟨w.heap.size, i, none⟩ = some (.int .i64 0) := (World.rowIs_made w (.int .i64 0) n 3).cell hi
  have hfrz : (w.alloc (.cells (madeCells #[.int .i64 0] n) 3)).frozen? ⟨w.heap.size, i, none⟩ = false := (World.rowIs_made w (.int .i64 0) n 3).frozen i
  have HR := Lib.hid hr
  have HA := Lib.hid ha
  clear hr ha
  go_enter Try.func98, Try.ntmps98
  go_wp2
  clear hset hfrz
  have h0 : (w.alloc (.cells ((madeCells #[.int .i64 0] n).setIfInBounds i (.int .i64 1)) 3)).rowIs w.heap.size 3 n (fun y => .int .i64 (stepV Z n i 0 y)) := by
    have := (World.rowIs_made w (.int .i64 0) n 3).set i (.int .i64 1)
    rw [World.setCell_alloc_at _ _ _ _ _ rfl] at this
    refine this.congr fun y _ => ?_
    unfold stepV
    by_cases e : y = i
    · rw [if_pos e, if_pos e]
    · rw [if_neg e, if_neg e]
  have H0 := Lib.hid h0
  clear h0
  go_loopw [5, 6, 7, 8, 9] (fun now s _ _ _ wr => ∃ k : Nat, k + 1 ≤ n ∧ s = .int .i64 ((k : Int) + 1) ∧ ∃ g, now = .slice (some ⟨g, 0, none⟩) n n ∧ w.heap.size ≤ g ∧ wr.rowIs g 3 n (fun y => .int .i64 (stepV Z n i k y)) ∧ Below w.heap.size w wr) (fun _ s _ _ _ _ => n + 1 - (intOf s).toNat)
  case atStart => exact ⟨0, by omega, rfl, w.heap.size, rfl, Nat.le_refl _, H0.out, (Below.refl _ _).alloc (Nat.le_refl _) _⟩
  case round =>
    obtain ⟨k, hk, rfl, g, rfl, hg, hrow, hb⟩ := hrel
    clear H0
    have R1 := Lib.hid hrow
    have B1 := Lib.hid hb
    clear hrow hb
    by_cases hlt : k + 1 < n
    · have hd1 : decide ((k : Int) + 1 < n) = true := by simp; omega
      go_wp2
      obtain ⟨wo, rfl⟩ : ∃ wo : World, wo = wr := ⟨_, rfl⟩
      have hgl := R1.out.lt
      clear hmk
      have Gl := Lib.hid hgl
      clear hgl
      have M0 := Lib.hid ((World.rowIs_made wo (.int .i64 0) n 3).congr (g := fun y => .int .i64 (nextF Z (stepV Z n i k) 0 0 y)) (fun _ _ => rfl))
      go_loopw [8, 9] (fun x _ wr => ∃ p : Nat, p ≤ n ∧ x = .int .i64 p ∧ wr.rowIs wo.heap.size 3 n (fun y => .int .i64 (nextF Z (stepV Z n i k) p 0 y)) ∧ Below wo.heap.size wo wr) (fun x _ _ => n - (intOf x).toNat)
      case atStart => exact ⟨0, Nat.zero_le _, rfl, M0.out, (Below.refl _ _).alloc (Nat.le_refl _) _⟩
      case round =>
        obtain ⟨p, hp, rfl, hrow, hb⟩ := hrel
        clear M0
        have R2 := Lib.hid hrow
        have B2 := Lib.hid hb
        clear hrow hb
        by_cases hplt : p < n
        · go_wp2
          obtain ⟨wm, rfl⟩ : ∃ wm : World, wm = wr := ⟨_, rfl⟩
          go_loopw [9] (fun y wr => ∃ q : Nat, q ≤ n ∧ y = .int .i64 q ∧ wr.rowIs wo.heap.size 3 n (fun y => .int .i64 (nextF Z (stepV Z n i k) p q y)) ∧ Below wo.heap.size wo wr) (fun y _ => n - (intOf y).toNat)
          case atStart => exact ⟨0, Nat.zero_le _, rfl, R2.out, B2.out⟩
          case round =>
            obtain ⟨q, hq, rfl, hrow, hb⟩ := hrel
            clear R2 B2
            by_cases hqlt : q < n
            · have hc1 := hrow.cell hqlt
              have hf1 := hrow.frozen q
              have hc2 := (hb.cell (p := ⟨g, p, none⟩) Gl.out).trans (R1.out.cell hplt)
              have hT := (HA.out.below (Nat.le_refl _) B1.out).below (Nat.le_refl _) hb
              obtain ⟨ba, oa, rfl, hca, hra⟩ := hT p hplt
              have hLp := (HR.out.2 p hplt).1
              have hqL : q < L p := by omega
              obtain ⟨bc, oc, hA, hcc⟩ := hra q (by omega)
              rw [hA] at hca
              have hz := ((HR.out.2 p hplt).2 q hqlt).1
              have hsb := stepV_bound (T := Z) (n := n) (i := i) (fun x y hx hy => by have := ((HR.out.2 x hx).2 y hy).1; omega) k p (by omega) hplt
              have hpb := prod_bound hsb ⟨by omega, hz.2⟩
              have hmul : IntKind.i64.wrap (stepV Z n i k p * Z p q) = stepV Z n i k p * Z p q := IntWalk.i64_in _ (by omega)
              have hpos : 0 ≤ stepV Z n i k p * Z p q := hpb.1
              have R3 := Lib.hid hrow
              have B3 := Lib.hid hb
              clear hT hra hA hLp hrow hb
              go_wp2
              go_still_tail 20, (by kernel_rfl)
              go_wp2
              go_roundw
              case rel =>
                refine ⟨q + 1, by omega, by go_num, ((R3.out.set q _).drew).congr (fun y _ => ?_), (B3.out.setCell (Nat.le_refl _) _).drew⟩
                rw [← nextF_step Z (stepV Z n i k) p q y]
                by_cases e : y = q
                · rw [if_pos e, if_pos e]
                · rw [if_neg e, if_neg e]
              case measure => simp [intOf]; omega
            · obtain rfl : q = n := by omega
              have R3 := Lib.hid (hrow.congr (g := fun y => .int .i64 (nextF Z (stepV Z q i k) (p + 1) 0 y)) (fun y hy => by rw [nextF_row _ _ _ _ _ hy]))
              have B3 := Lib.hid hb
              clear hrow hb
              go_wp2
              go_roundw
              case rel => exact ⟨p + 1, by omega, by go_num, R3.out, B3.out⟩
              case measure => simp [intOf]; omega
        · obtain rfl : p = n := by omega
          go_wp2
          go_roundw
          case rel => exact ⟨k + 1, by omega, by go_num, wo.heap.size, rfl, by have := B1.out.size; omega, R2.out.congr (fun y hy => rfl), B1.out.trans (B2.out.mono B1.out.size)⟩
          case measure => simp [intOf]; omega
    · have hkn : k = n - 1 := by omega
      have R3 := Lib.hid (hkn ▸ R1.out)
      clear hmk hkn
      go_wp2
      go_ret
      exact ⟨g, rfl, hg, R3.out, B1.out⟩
end Go.Proofs.Ytakipaehoeapcaa
