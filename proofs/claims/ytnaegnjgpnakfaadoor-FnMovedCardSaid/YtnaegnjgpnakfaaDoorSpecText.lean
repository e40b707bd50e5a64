/- The model's circles and texts of givings. -/
import Derived.Test.YtnaegnjgpnakfaaDoorTidyModel
import Derived.Test.YtnaegnjgpnakfaaDoorInfoInts
import Derived.Laws.BytesString
namespace Go.Proofs.YtnaegnjgpnakfaaDoor
set_option linter.unusedVariables false
set_option linter.unusedSimpArgs false
open Go.RowKit

theorem Tryd.infoByte : (Tryd.prog.info? 5).map (fun i => (i.zero, i.size, i.bytes)) = some (some (.int .u8 0), 1, 1) := by kernel_rfl
theorem Tryd.infoStr : (Tryd.prog.info? 9).map (fun i => (i.zero, i.size, i.bytes)) = some (some (.string ⟨#[]⟩), 1, 16) := by kernel_rfl

/-- Bytes as a text. -/
def strN (ns : List Nat) : ByteArray := ⟨(ns.map UInt8.ofNat).toArray⟩
theorem strN_app (a b : List Nat) : strN a ++ strN b = strN (a ++ b) := by unfold strN; rw [ByteArray.mk_append_mk, List.map_append]
theorem strN_size (a : List Nat) : (strN a).size = a.length := by show ((a.map UInt8.ofNat).toArray).size = _; simp
def letN (c : List Nat) : List Nat := c.map (· + 97)
/-- A circle's text. -/
def circN (c : List Nat) : List Nat := (91 :: letN c) ++ [93]
def joinN (t : List Nat) (c : List Nat) : List Nat := [40] ++ t ++ [46] ++ circN c ++ [41]
/-- The text of circles. -/
def textN : List (List Nat) → List Nat
  | [] => [105]
  | c :: l => l.foldl joinN (circN c)
theorem textN_snoc {l : List (List Nat)} (c : List Nat) (h : l ≠ []) : textN (l ++ [c]) = joinN (textN l) c := by
  cases l with
  | nil => exact absurd rfl h
  | cons d l => show (l ++ [c]).foldl joinN (circN d) = _; rw [List.foldl_append]; rfl
def cellsB (ns : List Nat) : List Value := ns.map fun b => .int .u8 (b : Nat)
theorem cellsB_snoc (ns : List Nat) (b : Nat) : cellsB ns ++ [.int .u8 (b : Nat)] = cellsB (ns ++ [b]) := by simp [cellsB]
theorem cellsB_one (ns : List Nat) : ∀ u ∈ cellsB ns, u.oneCell' = true := by
  intro u hu
  obtain ⟨b, _, rfl⟩ := List.mem_map.1 hu
  rfl
theorem foldl_push : ∀ (ns : List Nat) (s : List UInt8), (ns.map fun b => ((b : Nat) : Int)).foldl (fun r n => r.push (UInt8.ofNat n.toNat)) (⟨s.toArray⟩ : ByteArray) = ⟨(s ++ ns.map UInt8.ofNat).toArray⟩
  | [], s => by simp
  | n :: ns, s => by
    show (ns.map fun b => ((b : Nat) : Int)).foldl (fun r n => r.push (UInt8.ofNat n.toNat)) ((⟨s.toArray⟩ : ByteArray).push (UInt8.ofNat ((n : Nat) : Int).toNat)) = _
    have e : (⟨s.toArray⟩ : ByteArray).push (UInt8.ofNat ((n : Nat) : Int).toNat) = ⟨(s ++ [UInt8.ofNat n]).toArray⟩ := by
      apply ByteArray.ext
      simp [ByteArray.push]
    rw [e, foldl_push ns]
    simp
/-- An own row of bytes made a text. -/
theorem bytes_str {w : World} {base g cap : Nat} {ns : List Nat} (h : w.ownsRow base 5 1 (.slice (some ⟨g, 0, none⟩) ns.length cap) ns.length (cellsB ns)) :
    (convert 35 9 (.slice (some ⟨g, 0, none⟩) ns.length cap)).run Tryd.prog w = .ok (.string (strN ns)) w := by
  rw [run_convert_bytes_string w _ _ 5 _ _ _ Tryd.underlying35 Tryd.underlying5 Tryd.underlying9]
  have hc : (loadCells ⟨g, 0, none⟩ ns.length).run Tryd.prog w = .ok ((ns.map fun b => ((b : Nat) : Int)).map (Value.int .u8)).toArray w := by
    have hx := run_loadCells_list (P := Tryd.prog) w ⟨g, 0, none⟩ (cellsB ns) (fun j v hv => h.cells (g := g) rfl j v hv)
    have hl : (cellsB ns).length = ns.length := by simp [cellsB]
    rw [hl] at hx
    rw [hx]
    congr 2
    simp [cellsB]
  rw [run_bytesToString w _ _ _ _ hc]
  have := foldl_push ns []
  rw [show (ByteArray.empty : ByteArray) = ⟨([] : List UInt8).toArray⟩ from rfl, this]
  rfl
theorem bytes_str' {w : World} {base g cap m : Nat} {ns : List Nat} (hm : m = ns.length) (h : w.ownsRow base 5 1 (.slice (some ⟨g, 0, none⟩) m cap) m (cellsB ns)) :
    (convert 35 9 (.slice (some ⟨g, 0, none⟩) m cap)).run Tryd.prog w = .ok (.string (strN ns)) w := by
  subst hm; exact bytes_str h
theorem cellsB_93 (ns : List Nat) : cellsB ns ++ [.int .u8 93] = cellsB (ns ++ [93]) := cellsB_snoc ns 93
/-- What the model's circles hand back. -/
def RetStr (Ls : List (List Nat)) (w : World) (e : Ending) (w' : World) : Prop :=
  ∃ (rv : Value), e = .returned rv ∧ w'.ownsRow w.heap.size 9 1 rv Ls.length (Ls.map fun c => .string (strN c)) ∧ Below w.heap.size w w'
theorem byte_num {x : Nat} (h : x < 5) : IntKind.u8.wrap (97 + (x : Int)) = ((x + 97 : Nat) : Int) := by
  rcases (by omega : x = 0 ∨ x = 1 ∨ x = 2 ∨ x = 3 ∨ x = 4) with rfl | rfl | rfl | rfl | rfl <;> rfl

set_option maxRecDepth 100000 in
set_option maxHeartbeats 4000000 in
theorem l10Circles_any (n c : Nat) (a : Option Addr) (G : Nat → Int) (w : World) (h2 : 2 ≤ n) (h5 : n ≤ 5) (hG : IsDiff n n G) (ha : Rd w a n G) :
    Calls Tryd.prog 49 #[.slice a n c] w (RetStr ((cycS n (givD n G)).map circN) w) := by
  obtain ⟨i0, hi, hz0, hz1, hz2⟩ := info_parts Tryd.infoByte
  obtain ⟨j0, hj, hy0, hy1, hy2⟩ := info_parts Tryd.infoStr
  have HC := Lib.hid (chk_facts (chk_all h2 h5 hG))
  have hgd : ∀ i, i < n → G i = ((gD (givD n G) i : Nat) : Int) := fun i hi => by
    unfold gD; rw [givD_nth hi]; have := hG.1 i hi; omega
  have HGD := Lib.hid hgd
  have HA := Lib.hid ha
  have HN := Lib.hid (And.intro h2 h5)
  obtain ⟨D, hD⟩ : ∃ D, D = givD n G := ⟨_, rfl⟩
  rw [← hD] at HC HGD ⊢
  clear ha hG hgd hD h2
  go_enter Tryd.func49, Tryd.ntmps49
  go_wp2_with fail
  have R0 := Lib.hid (show (w.alloc (.cells #[] 9)).ownsRow w.heap.size 9 1 (.slice (some ⟨w.heap.size, 0, none⟩) 0 0) 0 (((outS (gD D) n 0).1.map circN).map fun c => Value.string (strN c)) from World.ownsRow_made w #[] 0 (Nat.le_refl _) (Nat.zero_le _) (by simp))
  have B0 := Lib.hid (below_alloc (Below.refl w.heap.size w) (.cells #[] 9))
  go_loopw [3, 4, 5] (fun row sn i wr => ∃ k : Nat, k ≤ n ∧ i = .int .i64 (k : Nat) ∧ sn = .int .i64 ((outS (gD D) n k).2 : Nat) ∧ (outS (gD D) n k).2 < 2 ^ 5 ∧ (outS (gD D) n k).1.length ≤ k ∧ ∃ rv, rv = row ∧ wr.ownsRow w.heap.size 9 1 rv (outS (gD D) n k).1.length (((outS (gD D) n k).1.map circN).map fun c => Value.string (strN c)) ∧ Below w.heap.size w wr) (fun _ _ i _ => n - (intOf i).toNat)
  case atStart => exact ⟨0, Nat.zero_le _, rfl, rfl, Nat.two_pow_pos 5, Nat.le_refl _, _, rfl, R0.out, B0.out⟩
  case round =>
    obtain ⟨k, hk, rfl, rfl, hS5, hlen, rv, rfl, hown, hBu⟩ := hrel
    rename World => wr
    clear R0 B0
    obtain ⟨S, hS⟩ : ∃ S, S = (outS (gD D) n k).2 := ⟨_, rfl⟩
    obtain ⟨LL, hLL⟩ : ∃ LL, LL = (outS (gD D) n k).1 := ⟨_, rfl⟩
    rw [← hS] at hS5
    rw [← hLL] at hlen hown
    have HS := Lib.hid (And.intro hS hLL)
    rw [← hS]
    have HO := Lib.hid hown
    have HU := Lib.hid hBu
    have HLN := Lib.hid hlen
    have hsz := hBu.size
    clear hown hS hLL hlen
    by_cases hlt : k < n
    · obtain ⟨ba, oa, rfl, hca⟩ := (HA.out.below (Nat.le_refl _) hBu) k hlt
      obtain ⟨x, hx⟩ : ∃ x, x = gD D k := ⟨_, rfl⟩
      rw [HGD.out k hlt, ← hx] at hca
      have hS62 : S < 2 ^ 62 := Nat.lt_trans hS5 (by decide)
      have hhas := bit_has S k hS62
      have hhas0 := bit_hasnt S k hS62
      have HX := Lib.hid hx
      have H5 := Lib.hid hS5
      have HK := Lib.hid hlt
      clear hBu hx hS62 hS5 hk
      cases htb : S.testBit k with
      | true =>
        have HE := Lib.hid (show outS (gD D) n (k + 1) = outS (gD D) n k from by
          show (if (outS (gD D) n k).2.testBit k || gD D k == k then outS (gD D) n k else _) = _
          rw [← HS.out.1, htb]; rfl)
        rw [htb] at hhas
        clear htb hhas0
        go_wp2_with fail
        go_roundw
        case rel => exact ⟨k + 1, HK.out, by go_num, by rw [HE.out, HS.out.1], by rw [HE.out, ← HS.out.1]; exact H5.out, by rw [HE.out, ← HS.out.2]; have := HLN.out; omega, _, rfl, by rw [HE.out, ← HS.out.2]; exact HO.out, HU.out⟩
        case measure => simp [intOf]; omega
      | false =>
        rw [htb] at hhas hhas0
        by_cases hxk : x = k
        · have d1 : ((x : Int) == (k : Int)) = true := by simp [hxk]
          have HE := Lib.hid (show outS (gD D) n (k + 1) = outS (gD D) n k from by
            show (if (outS (gD D) n k).2.testBit k || gD D k == k then outS (gD D) n k else _) = _
            rw [← HX.out, hxk]; simp)
          clear htb hxk hhas0
          go_wp2_with fail
          go_roundw
          case rel => exact ⟨k + 1, HK.out, by go_num, by rw [HE.out, HS.out.1], by rw [HE.out, ← HS.out.1]; exact H5.out, by rw [HE.out, ← HS.out.2]; have := HLN.out; omega, _, rfl, by rw [HE.out, ← HS.out.2]; exact HO.out, HU.out⟩
          case measure => simp [intOf]; omega
        · have d1 : ((x : Int) == (k : Int)) = false := by simp; omega
          have HE := Lib.hid (show outS (gD D) n (k + 1) = (LL ++ [(walkF (gD D) n S k).1], (walkF (gD D) n S k).2) from by
            show (if (outS (gD D) n k).2.testBit k || gD D k == k then outS (gD D) n k else _) = _
            rw [← HS.out.1, htb, ← HX.out, show (false || x == k) = false by simp [hxk], ← HS.out.2]; rfl)
          have HST := Lib.hid (show stopF (gD D) n S k = true by rw [HS.out.1]; exact HC.out.stopS k HK.out)
          clear htb hxk hhas0
          go_wp2_with fail
          have HO2 := Lib.hid (show (wr.alloc (.cells #[.int .u8 91] 5)).ownsRow wr.heap.size 5 1 (.slice (some ⟨wr.heap.size, 0, none⟩) 1 1) 1 (cellsB (91 :: letN [])) from ⟨by simp [cellsB, letN], .inr ⟨wr.heap.size, 1, #[.int .u8 91], rfl, Nat.le_refl _, heap_alloc_new wr _, Nat.le_refl _, by unfold maxLen; omega, by simp, by simp [cellsB, letN]⟩⟩)
          have HO1 := Lib.hid (HO.out.alloc (.cells #[.int .u8 91] 5))
          have HB2 := Lib.hid (below_alloc (Below.refl wr.heap.size wr) (.cells #[.int .u8 91] 5))
          have HTOT := Lib.hid (show ([] : List Nat) ++ (walkF (gD D) n S k).1 = (walkF (gD D) n S k).1 from rfl)
          go_loopw [4, 6, 7] (fun sn crow xs wi => ∃ (f : Nat) (acc : List Nat) (S' x' : Nat), sn = .int .i64 (S' : Nat) ∧ xs = .int .i64 (x' : Nat) ∧ acc ++ (walkF (gD D) f S' x').1 = (walkF (gD D) n S k).1 ∧ (walkF (gD D) f S' x').2 = (walkF (gD D) n S k).2 ∧ stopF (gD D) f S' x' = true ∧ S' < 2 ^ 5 ∧ x' < n ∧ acc.length + f = n ∧
            (∃ g cap m : Nat, m = acc.length + 1 ∧ crow = .slice (some ⟨g, 0, none⟩) m cap ∧ wi.ownsRow wr.heap.size 5 1 (.slice (some ⟨g, 0, none⟩) m cap) m (cellsB (91 :: letN acc))) ∧ wi.ownsRow w.heap.size 9 1 rv LL.length ((LL.map circN).map fun c => Value.string (strN c)) ∧ Below wr.heap.size wr wi) (fun _ crow _ _ => n + 1 - (match crow with | .slice _ m _ => m | _ => 0))
          case atStart => exact ⟨n, [], S, k, rfl, rfl, rfl, rfl, HST.out, H5.out, HK.out, by simp, ⟨wr.heap.size, 1, 1, rfl, rfl, HO2.out⟩, HO1.out, HB2.out⟩
          case round =>
            obtain ⟨f, acc, S', x', rfl, rfl, htot, hend, hstop, hS5', hxn', hacc, ⟨g, cap, m, hm, rfl, hown2⟩, hown1, hbw⟩ := hrel
            rename World => wi
            clear HO2 HO1 HB2 HTOT HST
            have hS62' : S' < 2 ^ 62 := Nat.lt_trans hS5' (by decide)
            have hh := bit_hasnt S' x' hS62'
            have J1 := Lib.hid hown1
            have J2 := Lib.hid hown2
            have JB := Lib.hid hbw
            have JT := Lib.hid (And.intro htot hend)
            have hwsz := hbw.size
            have hgl := hown2.lt g rfl
            clear hown1 hown2 htot hend
            cases htb : S'.testBit x' with
            | false =>
              rw [htb] at hh
              cases f with
              | zero => exact absurd (show S'.testBit x' = true from hstop) (by rw [htb]; decide)
              | succ f =>
                obtain ⟨bb, ob, he2, hcw⟩ := (HA.out.below (Nat.le_refl _) HU.out) x' hxn'
                cases he2
                have hbbl : ba < wr.heap.size := World.block_lt_of_cell? wr ⟨ba, oa + x', none⟩ hcw
                have hcb := (World.cell?_of_block (w := wr) (a := ⟨ba, oa + x', none⟩) (hbw.block ba hbbl)).trans hcw
                clear hcw
                obtain ⟨y, hy⟩ : ∃ y, y = gD D x' := ⟨_, rfl⟩
                rw [HGD.out x' hxn', ← hy] at hcb
                have JST := Lib.hid (show stopF (gD D) f (S' ||| 2 ^ x') (gD D x') = true by
                  have h : (S'.testBit x' || stopF (gD D) f (S' ||| 2 ^ x') (gD D x')) = true := hstop
                  rwa [htb, Bool.false_or] at h)
                have JW1 := Lib.hid (show (walkF (gD D) (f + 1) S' x') = (x' :: (walkF (gD D) f (S' ||| 2 ^ x') (gD D x')).1, (walkF (gD D) f (S' ||| 2 ^ x') (gD D x')).2) by
                  show (if S'.testBit x' then _ else _) = _
                  rw [htb]; rfl)
                have hx62 : x' < 62 := by omega
                have hput := bit_put S' x' hS62' hx62
                obtain ⟨S2, hS2⟩ : ∃ S2, S2 = S' ||| 2 ^ x' := ⟨_, rfl⟩
                rw [← hS2] at hput
                have JS := Lib.hid (show S2 = S' ||| 2 ^ x' ∧ S2 < 2 ^ 5 from ⟨hS2, by rw [hS2]; exact bit_put_lt hS5' (by omega)⟩)
                have hby := byte_num (show x' < 5 by omega)
                obtain ⟨bn, hbn⟩ : ∃ bn, bn = x' + 97 := ⟨_, rfl⟩
                rw [← hbn] at hby
                have JBN := Lib.hid hbn
                have JY := Lib.hid (show y = gD D x' ∧ gD D x' < n from ⟨hy, HC.out.lt x' hxn'⟩)
                have JN := Lib.hid hacc
                have hw97 : IntKind.i64.wrap (97 + (x' : Int)) = 97 + (x' : Int) := IntWalk.i64_in _ (by omega)
                have hle60 : m ≤ 60 := by omega
                have JL := Lib.hid hm
                clear hS2 hy hbn hbw hstop hS5' hS62' htb hx62 hm
                go_wp2_with (at_builtin; refine wpList_append_lies _ (by rfl) (.tmp 43) (.tmp 47) 35 (by rfl) wr.heap.size 5 i0 (.int .u8 0) 1 1 Tryd.underlying35 hi hz0 hz1 hz2 (by rfl) (by decide) _ m (cellsB (91 :: letN acc)) (by rfl) (J2.out.alloc _) ⟨_, 0, none⟩ 1 1 [.int .u8 (bn : Nat)] (by rfl) (by rfl) (news_one (by simp)) (by simp [Value.oneCell']) (by omega) (by unfold maxLen; omega) (by omega) (by simp; omega) _ rfl ?_; intro g2 cap2 w2 hown2 hgrow2 hat2 hlt2; have N2 := Lib.hid hown2; have G2 := Lib.hid hgrow2; have hcb2 : w2.cell? ⟨ba, oa + x', none⟩ = some (.int .i64 (y : Nat)) := hgrow2.cell ((World.cell?_of_block (w := wi) (a := ⟨ba, oa + x', none⟩) (Below.heap_alloc wi _ ba (World.block_lt_of_cell? wi ⟨ba, oa + x', none⟩ hcb))).trans hcb) (fun e => by cases e; exact absurd hbbl (Nat.not_lt.2 hgl.1)); clear hown2 hgrow2 hat2)
                clear hcb
                go_wp2_with fail
                go_roundw
                case rel =>
                  have hB3 : Below wr.heap.size wr w2 := (below_alloc JB.out (.cells #[.int .u8 (bn : Nat)] 5)).grown G2.out (by simp; omega) (fun j hj => by cases hj; exact hgl.1)
                  refine ⟨f, acc ++ [x'], S2, y, rfl, rfl, ?_, ?_, by rw [JS.out.1, JY.out.1]; exact JST.out, JS.out.2, by rw [JY.out.1]; exact JY.out.2, by simp; have := JN.out; omega, ⟨g2, cap2, m + 1, by simp; have := JL.out; omega, rfl, ?_⟩, ?_, hB3⟩
                  · have h := JT.out.1
                    rw [JW1.out] at h
                    rw [JS.out.1, JY.out.1, List.append_assoc]; exact h
                  · have h := JT.out.2
                    rw [JW1.out] at h
                    rw [JS.out.1, JY.out.1]; exact h
                  · have h := N2.out
                    rw [cellsB_snoc, JBN.out] at h
                    have e : (91 :: letN acc) ++ [x' + 97] = 91 :: letN (acc ++ [x']) := by simp [letN]
                    rw [e] at h
                    exact h
                  · refine (J1.out.alloc _).kept G2.out (.inr (fun e => ?_))
                    have h9 := HO.out.lt g (by rw [e]; rfl)
                    have h8 := hgl.1
                    omega
                case measure => have := JN.out; have := JL.out; simp; omega
            | true =>
              rw [htb] at hh
              have hw0 : walkF (gD D) f S' x' = ([], S') := by
                cases f with
                | zero => rfl
                | succ f => show (if S'.testBit x' then _ else _) = _; rw [htb]; rfl
              have JF := Lib.hid (show acc = (walkF (gD D) n S k).1 ∧ S' = (walkF (gD D) n S k).2 from by
                obtain ⟨h1, h2⟩ := JT.out
                rw [hw0] at h1 h2
                exact ⟨by rw [← h1]; simp, h2⟩)
              have JM := Lib.hid hm
              have J5 := Lib.hid hS5'
              have hle60 : m ≤ 60 := by omega
              have hLn : LL.length ≤ 5 := by have := HLN.out; omega
              clear hw0 htb hbw hstop hS5' hS62' hm hacc hca
              go_wp2_with (first
                | (at_builtin; refine wpList_append_lies _ (by rfl) (.tmp 50) (.tmp 51) 35 (by rfl) wr.heap.size 5 i0 (.int .u8 0) 1 1 Tryd.underlying35 hi hz0 hz1 hz2 (by rfl) (by decide) _ m (cellsB (91 :: letN acc)) (by rfl) (J2.out.alloc _) ⟨_, 0, none⟩ 1 1 [.int .u8 93] (by rfl) (by rfl) (news_one (by simp)) (by simp [Value.oneCell']) (by omega) (by unfold maxLen; omega) (by omega) (by simp; omega) _ rfl ?_; intro g2 cap2 w2 hown2 hgrow2 hat2 hlt2; have N2 := Lib.hid hown2; have G2 := Lib.hid hgrow2; have hcv := bytes_str' (ns := 91 :: letN acc ++ [93]) (m := m + 1) (by simp [letN]; have := JM.out; omega) (by have h := hown2; rw [cellsB_93] at h; exact h); clear hown2 hgrow2 hat2)
                | (at_builtin; refine wpList_append_lies _ (by rfl) (.tmp 49) (.tmp 54) 56 (by rfl) w.heap.size 9 j0 (.string ⟨#[]⟩) 1 16 Tryd.underlying56 hj hy0 hy1 hy2 (by rfl) (by decide) rv LL.length _ (by rfl) (((J1.out.alloc _).kept G2.out (.inr (fun e => by have h9 := HO.out.lt g (by rw [e]; rfl); have h8 := hgl.1; omega))).alloc _) ⟨_, 0, none⟩ 1 1 [.string (strN (91 :: letN acc ++ [93]))] (by rfl) (by rfl) (news_one (by simp)) (by simp [Value.oneCell']) (by omega) (by unfold maxLen; omega) (by omega) (by have h1 := G2.out.size; simp at h1 ⊢; omega) _ rfl ?_; intro g3 cap3 w3 hown3 hgrow3 hat3 hlt3; have N3 := Lib.hid hown3; have G3 := Lib.hid hgrow3; clear hown3 hgrow3 hat3))
              go_roundw
              case rel =>
                have hB2 : Below wr.heap.size wr w2 := (below_alloc JB.out (.cells #[.int .u8 93] 5)).grown G2.out (by simp; omega) (fun j hj => by cases hj; exact hgl.1)
                have hB3 : Below w.heap.size w w3 := (((HU.out.trans (hB2.mono HU.out.size)).alloc (by have := HU.out.size; have := hB2.size; omega) _)).grown G3.out (by have := HU.out.size; have := hB2.size; simp; omega) (fun j hj => (HO.out.lt j hj).1)
                refine ⟨k + 1, HK.out, by go_num, by rw [HE.out, ← JF.out.2], by rw [HE.out]; show (walkF (gD D) n S k).2 < 2 ^ 5; rw [← JF.out.2]; exact J5.out, by rw [HE.out]; simp; have := HLN.out; omega, _, rfl, ?_, hB3⟩
                rw [HE.out]
                have h := N3.out
                simp only [List.map_append, List.map_cons, List.map_nil, List.length_append, List.length_cons, List.length_nil, Nat.zero_add]
                rw [← JF.out.1]
                exact h
              case measure => simp [intOf]; omega
    · obtain rfl : k = n := by omega
      clear hlt hk
      go_wp2_with fail
      go_ret
      refine ⟨_, rfl, ?_, HU.out⟩
      have h := HO.out
      rw [HS.out.2] at h
      rw [List.length_map]
      exact h

theorem textN_ne {LL : List (List Nat)} {i : Nat} (h1 : 1 ≤ i) (h2 : i < LL.length) : textN (LL.take (i + 1)) = joinN (textN (LL.take i)) (LL.getD i []) := by
  rw [show LL.take (i + 1) = LL.take i ++ [LL.getD i []] by
    rw [List.take_succ_eq_append_getElem h2, List.getD_eq_getElem?_getD, List.getElem?_eq_getElem h2]; rfl]
  exact textN_snoc _ (fun e => by have h := congrArg List.length e; rw [List.length_take] at h; simp only [List.length_nil] at h; omega)
theorem strN_join (t c : List Nat) : (((⟨#[40]⟩ : ByteArray) ++ strN t) ++ ⟨#[46]⟩ ++ strN (circN c)) ++ ⟨#[41]⟩ = strN (joinN t c) := by
  have e1 : (⟨#[40]⟩ : ByteArray) = strN [40] := rfl
  have e2 : (⟨#[46]⟩ : ByteArray) = strN [46] := rfl
  have e3 : (⟨#[41]⟩ : ByteArray) = strN [41] := rfl
  rw [e1, e2, e3, strN_app, strN_app, strN_app, strN_app]
  rfl

set_option maxRecDepth 100000 in
set_option maxHeartbeats 3200000 in
theorem l10Text_any (n c : Nat) (a : Option Addr) (G : Nat → Int) (w : World) (h2 : 2 ≤ n) (h5 : n ≤ 5) (hG : IsDiff n n G) (ha : Rd w a n G) :
    Calls Tryd.prog 42 #[.slice a n c] w fun e w' => e = .returned (.string (strN (textN (cycS n (givD n G))))) ∧ Below w.heap.size w w' := by
  have H := Lib.hid (l10Circles_any n c a G w h2 h5 hG ha)
  have HC := Lib.hid (chk_facts (chk_all h2 h5 hG))
  obtain ⟨LL, hLL⟩ : ∃ LL, LL = cycS n (givD n G) := ⟨_, rfl⟩
  have HL := Lib.hid (show LL.length ≤ 2 ∧ ∀ i, i < LL.length → (LL.getD i []).length ≤ 5 from ⟨by rw [hLL]; exact HC.out.two, fun i hi => by
    have hm : LL.getD i [] ∈ cycS n (givD n G) := by
      rw [← hLL, List.getD_eq_getElem?_getD, List.getElem?_eq_getElem hi]; exact List.getElem_mem hi
    exact (HC.out.lens _ hm).2.1⟩)
  rw [← hLL] at H ⊢
  clear hLL HC h2 h5 hG ha
  go_enter Tryd.func42, Tryd.ntmps42
  go_wp2_with fail
  refine H.out.mono ?_
  rintro e w1 ⟨rv, rfl, hown, hb⟩
  rw [List.length_map] at hown
  have B1 := Lib.hid hb
  have HO := Lib.hid hown
  clear hb hown
  cases hz : LL with
  | nil =>
    have e0 : rv = .slice none 0 0 ∨ ∃ g cap, rv = .slice (some ⟨g, 0, none⟩) 0 cap := by
      have h := HO.out
      rw [hz] at h
      obtain ⟨_, (⟨h1, _⟩ | ⟨g', cap', cur, h1, _⟩)⟩ := h
      · exact .inl h1
      · exact .inr ⟨_, _, h1⟩
    rcases e0 with rfl | ⟨g, cap, rfl⟩
    all_goals
      go_wp2_with fail
      go_ret
      exact ⟨by rw [hz]; rfl, B1.out⟩
  | cons c0 l0 =>
    have hlen : 1 ≤ LL.length := by rw [hz]; simp
    obtain ⟨g, cap, hrv⟩ := owns_form HO.out (by omega)
    subst hrv
    have hcell : ∀ i, i < LL.length → w1.cell? ⟨g, i, none⟩ = some (.string (strN (circN (LL.getD i [])))) := fun i hi => by
      have h := HO.out.cells (g := g) rfl i (.string (strN (circN (LL.getD i [])))) (by
        rw [List.map_map, List.getElem?_map, List.getElem?_eq_getElem hi, List.getD_eq_getElem?_getD, List.getElem?_eq_getElem hi]; rfl)
      rwa [Go.WideShapes.add_plain, Nat.zero_add] at h
    have HCE := Lib.hid hcell
    obtain ⟨m, hm⟩ : ∃ m, m = LL.length := ⟨_, rfl⟩
    have HM := Lib.hid hm
    have hc0 := hcell 0 (by omega)
    obtain ⟨t0, ht0⟩ : ∃ t0, t0 = strN (circN (LL.getD 0 [])) := ⟨_, rfl⟩
    rw [← ht0] at hc0
    have HT0 := Lib.hid (show t0 = strN (textN (LL.take 1)) by rw [ht0, hz]; rfl)
    rw [← hm] at hlen ⊢
    have hl0 : ((m : Int) == 0) = false := by simp; omega
    have hl1 : (m == 0) = false := by simp; omega
    have hl2 : 0 < m := by omega
    clear hcell ht0 hz hm
    go_wp2_with fail
    clear hc0 hl0 hl1 hl2
    go_loop [4, 5] (fun tx i => ∃ k : Nat, 1 ≤ k ∧ k ≤ m ∧ i = .int .i64 (k : Nat) ∧ tx = .string (strN (textN (LL.take k))) ∧ (textN (LL.take k)).length ≤ 20 * k) (fun _ i => m - (intOf i).toNat)
    case atStart => exact ⟨1, Nat.le_refl _, hlen, rfl, by rw [HT0.out], by
      have h5 := HL.out.2 0 (by rw [← HM.out]; omega)
      have e : textN (LL.take 1) = circN (LL.getD 0 []) := by
        cases LL with
        | nil => exact absurd HM.out (by simp; omega)
        | cons c l => rfl
      rw [e]; simp [circN, letN]; simp at h5; omega⟩
    case round =>
      obtain ⟨k, hk1, hk, rfl, rfl, hsz⟩ := hrel
      by_cases hlt : k < m
      · have hck := HCE.out k (by rw [← HM.out]; exact hlt)
        have h5 := HL.out.2 k (by rw [← HM.out]; exact hlt)
        have hJ := strN_join (textN (LL.take k)) (LL.getD k [])
        have hne := textN_ne hk1 (show k < LL.length by rw [← HM.out]; exact hlt)
        obtain ⟨T, hT⟩ : ∃ T, T = textN (LL.take k) := ⟨_, rfl⟩
        obtain ⟨C, hC⟩ : ∃ C, C = LL.getD k [] := ⟨_, rfl⟩
        rw [← hC] at hck h5 hJ hne
        rw [← hT] at hsz hJ hne ⊢
        have z1 : (strN T).size = T.length := strN_size T
        have z2 : (strN (circN C)).size = C.length + 2 := by rw [strN_size]; simp [circN, letN]
        have hm2 : m ≤ 2 := by rw [HM.out]; exact HL.out.1
        have HNE := Lib.hid (show strN (textN (LL.take (k + 1))) = strN (joinN T C) ∧ (textN (LL.take (k + 1))).length ≤ 20 * (k + 1) from ⟨by rw [hne], by rw [hne]; simp [joinN, circN, letN]; omega⟩)
        have HJ := Lib.hid hJ
        clear hT hC hne hJ
        go_wp2_with fail
        go_round
        case rel => exact ⟨k + 1, by omega, by omega, by go_num, by rw [HJ.out, ← HNE.out.1], HNE.out.2⟩
        case measure => simp [intOf]; omega
      · obtain rfl : k = m := by omega
        have HE := Lib.hid (show LL.take k = LL by rw [HM.out]; exact List.take_length)
        clear hk hlt hsz
        go_wp2_with fail
        go_ret
        exact ⟨by rw [HE.out]; rfl, B1.out⟩
end Go.Proofs.YtnaegnjgpnakfaaDoor
