/-
  NARROWER THAN 'FOR EVERY INPUT', by the rows' own cells (each row's printed sentence says how): FnExactHouseBlocks: laid · FnExactHouseFirm: laid · FnExactHouseFirms: laid · FnTrade: laid · FnBlocks: laid · FnFirm: laid · FnFirms: laid.
  DERIVED. THE GIVEN ROWS OF THIS SEAT. 7 by the template 'for every input the law returns true; each argument reads behind the call as it read before'; 0 by the template 'total and deterministic' (their statements: YtfhkbjheleojmaaDoorTotals.lean).
  GIVEN WITH THE SEED: the statements are not yours to turn. If you find one false, say at which input.
  Laid BY PROGRAM, IN A SANDBOX (cutbox-rows.mjs): the forced cells as the released guide's own fill.sh prints them over the translation acd19e5abd9a9870… (all of the seat's roots in one cut). By AI agents, Wed Nov 11 2026. No macro, syntax, notation, axiom, sorry.
-/
import Derived.Test.YtfhkbjheleojmaaDoorChecked
import GoSem.Claim
import GoSem.ClaimJoined
import GoSem.ClaimMapViews
import Derived.JoinedTies
import Derived.KernelRfl
namespace Go.Proofs.YtfhkbjheleojmaaDoor
/- THE CELL 'sum', in the pinned program and in every row, IS THE sha256 OF THE DUMP (.gsa) THAT YtfhkbjheleojmaaDoorProg.lean LOADS. Nothing in Lean hashes anything: it is a label: what it is worth is what the hold of that sum in a sandbox is worth. -/
noncomputable def Tryd.pinned : Pinned := { name := "ytfhkbjheleojmaadoor", sum := "acd19e5abd9a987023915c04a3ddc614ad7fc66e52f5b3fdd7fb43b475d44a98", checked := Tryd.checked }
namespace Rows
def none {H : Type} : Left H := { results := [], args := [] }

/- WHAT THE LISTED PACKAGE-LEVEL VARIABLES READ AS WHEN THE CALL BEGINS. Each datum BY PROGRAM (the guide's laid-datum.mjs) off the statement by which the dump's own 'gosem.cut.vars' lays the variable. In a bare row this is a premise. The card (YtfhkbjheleojmaaDoorCards.lean) ties it to the program's text. -/
def laid_math_bits_deBruijn32tab {H : Type} : DataW H := .agg [.lit (.int .u8 0), .lit (.int .u8 1), .lit (.int .u8 28), .lit (.int .u8 2), .lit (.int .u8 29), .lit (.int .u8 14), .lit (.int .u8 24), .lit (.int .u8 3), .lit (.int .u8 30), .lit (.int .u8 22), .lit (.int .u8 20), .lit (.int .u8 15), .lit (.int .u8 25), .lit (.int .u8 17), .lit (.int .u8 4), .lit (.int .u8 8), .lit (.int .u8 31), .lit (.int .u8 27), .lit (.int .u8 13), .lit (.int .u8 23), .lit (.int .u8 21), .lit (.int .u8 19), .lit (.int .u8 16), .lit (.int .u8 7), .lit (.int .u8 26), .lit (.int .u8 12), .lit (.int .u8 18), .lit (.int .u8 6), .lit (.int .u8 11), .lit (.int .u8 5), .lit (.int .u8 10), .lit (.int .u8 9)]
def laid_math_bits_deBruijn64tab {H : Type} : DataW H := .agg [.lit (.int .u8 0), .lit (.int .u8 1), .lit (.int .u8 56), .lit (.int .u8 2), .lit (.int .u8 57), .lit (.int .u8 49), .lit (.int .u8 28), .lit (.int .u8 3), .lit (.int .u8 61), .lit (.int .u8 58), .lit (.int .u8 42), .lit (.int .u8 50), .lit (.int .u8 38), .lit (.int .u8 29), .lit (.int .u8 17), .lit (.int .u8 4), .lit (.int .u8 62), .lit (.int .u8 47), .lit (.int .u8 59), .lit (.int .u8 36), .lit (.int .u8 45), .lit (.int .u8 43), .lit (.int .u8 51), .lit (.int .u8 22), .lit (.int .u8 53), .lit (.int .u8 39), .lit (.int .u8 33), .lit (.int .u8 30), .lit (.int .u8 24), .lit (.int .u8 18), .lit (.int .u8 12), .lit (.int .u8 5), .lit (.int .u8 63), .lit (.int .u8 55), .lit (.int .u8 48), .lit (.int .u8 27), .lit (.int .u8 60), .lit (.int .u8 41), .lit (.int .u8 37), .lit (.int .u8 16), .lit (.int .u8 46), .lit (.int .u8 35), .lit (.int .u8 44), .lit (.int .u8 21), .lit (.int .u8 52), .lit (.int .u8 32), .lit (.int .u8 23), .lit (.int .u8 11), .lit (.int .u8 54), .lit (.int .u8 26), .lit (.int .u8 40), .lit (.int .u8 15), .lit (.int .u8 34), .lit (.int .u8 20), .lit (.int .u8 31), .lit (.int .u8 10), .lit (.int .u8 25), .lit (.int .u8 14), .lit (.int .u8 19), .lit (.int .u8 9), .lit (.int .u8 13), .lit (.int .u8 8), .lit (.int .u8 7), .lit (.int .u8 6)]

/-- 'laws.FnExactHouseBlocks': WHATEVER THE INPUT: true; the input reads as it did. -/
def fnExactHouseBlocksSpec : ChangeSpec := { name := "fnExactHouseBlocks", fn := fun _ => fun
  | [d1, d2, d3] => { results := [.lit (.bool true)], args := [d1, d2, d3] }
  | _ => none }
def fnExactHouseBlocksRow : OpenClaim := { program := "ytfhkbjheleojmaadoor", sum := "acd19e5abd9a987023915c04a3ddc614ad7fc66e52f5b3fdd7fb43b475d44a98", func := "loop.example/tradecircles/laws.FnExactHouseBlocks", spec := "fnExactHouseBlocks", recurses := true, named := ["math/bits.deBruijn32tab", "math/bits.deBruijn64tab"], apart := false, laid := [("math/bits.deBruijn32tab", laid_math_bits_deBruijn32tab), ("math/bits.deBruijn64tab", laid_math_bits_deBruijn64tab)] }
def FnExactHouseBlocksSaid : Prop := fnExactHouseBlocksRow.holds Tryd.pinned (OpenSpec.ofChange fnExactHouseBlocksSpec)

/-- ITS FALSE NEIGHBOUR: 'it returns false'. Refute it at one input. -/
def fnExactHouseBlocksWrong : ChangeSpec := { name := "fnExactHouseBlocks", fn := fun _ => fun
  | [d1, d2, d3] => { results := [.lit (.bool false)], args := [d1, d2, d3] }
  | _ => none }
def FnExactHouseBlocksWrongFalsely : Prop := fnExactHouseBlocksRow.holds Tryd.pinned (OpenSpec.ofChange fnExactHouseBlocksWrong)

/-- 'laws.FnExactHouseFirm': WHATEVER THE INPUT: true; the input reads as it did. -/
def fnExactHouseFirmSpec : ChangeSpec := { name := "fnExactHouseFirm", fn := fun _ => fun
  | [d1, d2] => { results := [.lit (.bool true)], args := [d1, d2] }
  | _ => none }
def fnExactHouseFirmRow : OpenClaim := { program := "ytfhkbjheleojmaadoor", sum := "acd19e5abd9a987023915c04a3ddc614ad7fc66e52f5b3fdd7fb43b475d44a98", func := "loop.example/tradecircles/laws.FnExactHouseFirm", spec := "fnExactHouseFirm", recurses := true, named := ["math/bits.deBruijn32tab", "math/bits.deBruijn64tab"], apart := false, laid := [("math/bits.deBruijn32tab", laid_math_bits_deBruijn32tab), ("math/bits.deBruijn64tab", laid_math_bits_deBruijn64tab)] }
def FnExactHouseFirmSaid : Prop := fnExactHouseFirmRow.holds Tryd.pinned (OpenSpec.ofChange fnExactHouseFirmSpec)

/-- ITS FALSE NEIGHBOUR: 'it returns false'. Refute it at one input. -/
def fnExactHouseFirmWrong : ChangeSpec := { name := "fnExactHouseFirm", fn := fun _ => fun
  | [d1, d2] => { results := [.lit (.bool false)], args := [d1, d2] }
  | _ => none }
def FnExactHouseFirmWrongFalsely : Prop := fnExactHouseFirmRow.holds Tryd.pinned (OpenSpec.ofChange fnExactHouseFirmWrong)

/-- 'laws.FnExactHouseFirms': WHATEVER THE INPUT: true; the input reads as it did. -/
def fnExactHouseFirmsSpec : ChangeSpec := { name := "fnExactHouseFirms", fn := fun _ => fun
  | [d] => { results := [.lit (.bool true)], args := [d] }
  | _ => none }
def fnExactHouseFirmsRow : OpenClaim := { program := "ytfhkbjheleojmaadoor", sum := "acd19e5abd9a987023915c04a3ddc614ad7fc66e52f5b3fdd7fb43b475d44a98", func := "loop.example/tradecircles/laws.FnExactHouseFirms", spec := "fnExactHouseFirms", unfollowed := true, recurses := true, named := ["math/bits.deBruijn32tab", "math/bits.deBruijn64tab"], apart := false, laid := [("math/bits.deBruijn32tab", laid_math_bits_deBruijn32tab), ("math/bits.deBruijn64tab", laid_math_bits_deBruijn64tab)] }
def FnExactHouseFirmsSaid : Prop := fnExactHouseFirmsRow.holds Tryd.pinned (OpenSpec.ofChange fnExactHouseFirmsSpec)

/-- ITS FALSE NEIGHBOUR: 'it returns false'. Refute it at one input. -/
def fnExactHouseFirmsWrong : ChangeSpec := { name := "fnExactHouseFirms", fn := fun _ => fun
  | [d] => { results := [.lit (.bool false)], args := [d] }
  | _ => none }
def FnExactHouseFirmsWrongFalsely : Prop := fnExactHouseFirmsRow.holds Tryd.pinned (OpenSpec.ofChange fnExactHouseFirmsWrong)

/-- 'laws.FnTrade': WHATEVER THE INPUT: true; the input reads as it did. -/
def fnTradeSpec : ChangeSpec := { name := "fnTrade", fn := fun _ => fun
  | [d] => { results := [.lit (.bool true)], args := [d] }
  | _ => none }
def fnTradeRow : OpenClaim := { program := "ytfhkbjheleojmaadoor", sum := "acd19e5abd9a987023915c04a3ddc614ad7fc66e52f5b3fdd7fb43b475d44a98", func := "loop.example/tradecircles/laws.FnTrade", spec := "fnTrade", unfollowed := true, recurses := true, named := ["math/bits.deBruijn32tab", "math/bits.deBruijn64tab"], apart := false, laid := [("math/bits.deBruijn32tab", laid_math_bits_deBruijn32tab), ("math/bits.deBruijn64tab", laid_math_bits_deBruijn64tab)] }
def FnTradeSaid : Prop := fnTradeRow.holds Tryd.pinned (OpenSpec.ofChange fnTradeSpec)

/-- ITS FALSE NEIGHBOUR: 'it returns false'. Refute it at one input. -/
def fnTradeWrong : ChangeSpec := { name := "fnTrade", fn := fun _ => fun
  | [d] => { results := [.lit (.bool false)], args := [d] }
  | _ => none }
def FnTradeWrongFalsely : Prop := fnTradeRow.holds Tryd.pinned (OpenSpec.ofChange fnTradeWrong)

/-- 'laws.FnBlocks': WHATEVER THE INPUT: true; the input reads as it did. -/
def fnBlocksSpec : ChangeSpec := { name := "fnBlocks", fn := fun _ => fun
  | [d] => { results := [.lit (.bool true)], args := [d] }
  | _ => none }
def fnBlocksRow : OpenClaim := { program := "ytfhkbjheleojmaadoor", sum := "acd19e5abd9a987023915c04a3ddc614ad7fc66e52f5b3fdd7fb43b475d44a98", func := "loop.example/tradecircles/laws.FnBlocks", spec := "fnBlocks", unfollowed := true, recurses := true, named := ["math/bits.deBruijn32tab", "math/bits.deBruijn64tab"], apart := false, laid := [("math/bits.deBruijn32tab", laid_math_bits_deBruijn32tab), ("math/bits.deBruijn64tab", laid_math_bits_deBruijn64tab)] }
def FnBlocksSaid : Prop := fnBlocksRow.holds Tryd.pinned (OpenSpec.ofChange fnBlocksSpec)

/-- ITS FALSE NEIGHBOUR: 'it returns false'. Refute it at one input. -/
def fnBlocksWrong : ChangeSpec := { name := "fnBlocks", fn := fun _ => fun
  | [d] => { results := [.lit (.bool false)], args := [d] }
  | _ => none }
def FnBlocksWrongFalsely : Prop := fnBlocksRow.holds Tryd.pinned (OpenSpec.ofChange fnBlocksWrong)

/-- 'laws.FnFirm': WHATEVER THE INPUT: true; the input reads as it did. -/
def fnFirmSpec : ChangeSpec := { name := "fnFirm", fn := fun _ => fun
  | [d] => { results := [.lit (.bool true)], args := [d] }
  | _ => none }
def fnFirmRow : OpenClaim := { program := "ytfhkbjheleojmaadoor", sum := "acd19e5abd9a987023915c04a3ddc614ad7fc66e52f5b3fdd7fb43b475d44a98", func := "loop.example/tradecircles/laws.FnFirm", spec := "fnFirm", unfollowed := true, recurses := true, named := ["math/bits.deBruijn32tab", "math/bits.deBruijn64tab"], apart := false, laid := [("math/bits.deBruijn32tab", laid_math_bits_deBruijn32tab), ("math/bits.deBruijn64tab", laid_math_bits_deBruijn64tab)] }
def FnFirmSaid : Prop := fnFirmRow.holds Tryd.pinned (OpenSpec.ofChange fnFirmSpec)

/-- ITS FALSE NEIGHBOUR: 'it returns false'. Refute it at one input. -/
def fnFirmWrong : ChangeSpec := { name := "fnFirm", fn := fun _ => fun
  | [d] => { results := [.lit (.bool false)], args := [d] }
  | _ => none }
def FnFirmWrongFalsely : Prop := fnFirmRow.holds Tryd.pinned (OpenSpec.ofChange fnFirmWrong)

/-- 'laws.FnFirms': WHATEVER THE INPUT: true; the input reads as it did. -/
def fnFirmsSpec : ChangeSpec := { name := "fnFirms", fn := fun _ => fun
  | [d] => { results := [.lit (.bool true)], args := [d] }
  | _ => none }
def fnFirmsRow : OpenClaim := { program := "ytfhkbjheleojmaadoor", sum := "acd19e5abd9a987023915c04a3ddc614ad7fc66e52f5b3fdd7fb43b475d44a98", func := "loop.example/tradecircles/laws.FnFirms", spec := "fnFirms", unfollowed := true, recurses := true, named := ["math/bits.deBruijn32tab", "math/bits.deBruijn64tab"], apart := false, laid := [("math/bits.deBruijn32tab", laid_math_bits_deBruijn32tab), ("math/bits.deBruijn64tab", laid_math_bits_deBruijn64tab)] }
def FnFirmsSaid : Prop := fnFirmsRow.holds Tryd.pinned (OpenSpec.ofChange fnFirmsSpec)

/-- ITS FALSE NEIGHBOUR: 'it returns false'. Refute it at one input. -/
def fnFirmsWrong : ChangeSpec := { name := "fnFirms", fn := fun _ => fun
  | [d] => { results := [.lit (.bool false)], args := [d] }
  | _ => none }
def FnFirmsWrongFalsely : Prop := fnFirmsRow.holds Tryd.pinned (OpenSpec.ofChange fnFirmsWrong)

/- THE SECOND FORM. 'bulk': how many values and letters a reading holds, each counted each time it is reached (what is shared counts as often as it is met; a slice's spare places count too). A statement '..UptoSaid' is the law's where the arguments, and the package variables that the reading takes, are together of bulk at most 1048576: NARROWER than '..Said'. Prove '..Said' where nothing that the law and all that it calls make is longer than what came in: it says more and counts as full. Else prove '..UptoSaid'. A law counts once. -/
mutual
def uptoBulk {H : Type} : DataW H → Nat
  | .lit (.string bytes) => bytes.length + 1
  | .lit _ => 1
  | .nil => 1
  | .ptr d => uptoBulk d + 1
  | .slice elems spare => uptoBulkAll elems + uptoBulkAll spare + 1
  | .agg parts => uptoBulkAll parts + 1
  | .iface _ d => uptoBulk d + 1
  | .map entries => uptoBulkEntries entries + 1
  | .held _ => 1
def uptoBulkAll {H : Type} : List (DataW H) → Nat
  | [] => 0
  | d :: r => uptoBulk d + uptoBulkAll r
def uptoBulkEntries {H : Type} : List (Lit × DataW H) → Nat
  | [] => 0
  | x :: r => uptoBulkEntry x + uptoBulkEntries r
def uptoBulkEntry {H : Type} : Lit × DataW H → Nat
  | (.string bytes, d) => bytes.length + uptoBulk d + 1
  | (_, d) => uptoBulk d + 1
 end
def uptoSmall : (H : Type) → List (DataW H) → Bool := fun _ ds => decide (uptoBulkAll ds ≤ 1048576)
def OpenSpec.upto (s : _root_.Go.ChangeSpec) : _root_.Go.OpenSpec := { _root_.Go.OpenSpec.ofChange s with cond := some uptoSmall }

/-- 'laws.FnExactHouseBlocks', WHERE WHAT IT READS IS OF BULK AT MOST 1048576: true; the input reads as it did. -/
def fnExactHouseBlocksUptoRow : OpenClaim := { program := "ytfhkbjheleojmaadoor", sum := "acd19e5abd9a987023915c04a3ddc614ad7fc66e52f5b3fdd7fb43b475d44a98", func := "loop.example/tradecircles/laws.FnExactHouseBlocks", spec := "fnExactHouseBlocks", recurses := true, named := ["math/bits.deBruijn32tab", "math/bits.deBruijn64tab"], apart := false, laid := [("math/bits.deBruijn32tab", laid_math_bits_deBruijn32tab), ("math/bits.deBruijn64tab", laid_math_bits_deBruijn64tab)], narrowed := true }
def FnExactHouseBlocksUptoSaid : Prop := fnExactHouseBlocksUptoRow.holds Tryd.pinned (OpenSpec.upto fnExactHouseBlocksSpec)

/-- 'laws.FnExactHouseFirm', WHERE WHAT IT READS IS OF BULK AT MOST 1048576: true; the input reads as it did. -/
def fnExactHouseFirmUptoRow : OpenClaim := { program := "ytfhkbjheleojmaadoor", sum := "acd19e5abd9a987023915c04a3ddc614ad7fc66e52f5b3fdd7fb43b475d44a98", func := "loop.example/tradecircles/laws.FnExactHouseFirm", spec := "fnExactHouseFirm", recurses := true, named := ["math/bits.deBruijn32tab", "math/bits.deBruijn64tab"], apart := false, laid := [("math/bits.deBruijn32tab", laid_math_bits_deBruijn32tab), ("math/bits.deBruijn64tab", laid_math_bits_deBruijn64tab)], narrowed := true }
def FnExactHouseFirmUptoSaid : Prop := fnExactHouseFirmUptoRow.holds Tryd.pinned (OpenSpec.upto fnExactHouseFirmSpec)

/-- 'laws.FnExactHouseFirms', WHERE WHAT IT READS IS OF BULK AT MOST 1048576: true; the input reads as it did. -/
def fnExactHouseFirmsUptoRow : OpenClaim := { program := "ytfhkbjheleojmaadoor", sum := "acd19e5abd9a987023915c04a3ddc614ad7fc66e52f5b3fdd7fb43b475d44a98", func := "loop.example/tradecircles/laws.FnExactHouseFirms", spec := "fnExactHouseFirms", unfollowed := true, recurses := true, named := ["math/bits.deBruijn32tab", "math/bits.deBruijn64tab"], apart := false, laid := [("math/bits.deBruijn32tab", laid_math_bits_deBruijn32tab), ("math/bits.deBruijn64tab", laid_math_bits_deBruijn64tab)], narrowed := true }
def FnExactHouseFirmsUptoSaid : Prop := fnExactHouseFirmsUptoRow.holds Tryd.pinned (OpenSpec.upto fnExactHouseFirmsSpec)

/-- 'laws.FnTrade', WHERE WHAT IT READS IS OF BULK AT MOST 1048576: true; the input reads as it did. -/
def fnTradeUptoRow : OpenClaim := { program := "ytfhkbjheleojmaadoor", sum := "acd19e5abd9a987023915c04a3ddc614ad7fc66e52f5b3fdd7fb43b475d44a98", func := "loop.example/tradecircles/laws.FnTrade", spec := "fnTrade", unfollowed := true, recurses := true, named := ["math/bits.deBruijn32tab", "math/bits.deBruijn64tab"], apart := false, laid := [("math/bits.deBruijn32tab", laid_math_bits_deBruijn32tab), ("math/bits.deBruijn64tab", laid_math_bits_deBruijn64tab)], narrowed := true }
def FnTradeUptoSaid : Prop := fnTradeUptoRow.holds Tryd.pinned (OpenSpec.upto fnTradeSpec)

/-- 'laws.FnBlocks', WHERE WHAT IT READS IS OF BULK AT MOST 1048576: true; the input reads as it did. -/
def fnBlocksUptoRow : OpenClaim := { program := "ytfhkbjheleojmaadoor", sum := "acd19e5abd9a987023915c04a3ddc614ad7fc66e52f5b3fdd7fb43b475d44a98", func := "loop.example/tradecircles/laws.FnBlocks", spec := "fnBlocks", unfollowed := true, recurses := true, named := ["math/bits.deBruijn32tab", "math/bits.deBruijn64tab"], apart := false, laid := [("math/bits.deBruijn32tab", laid_math_bits_deBruijn32tab), ("math/bits.deBruijn64tab", laid_math_bits_deBruijn64tab)], narrowed := true }
def FnBlocksUptoSaid : Prop := fnBlocksUptoRow.holds Tryd.pinned (OpenSpec.upto fnBlocksSpec)

/-- 'laws.FnFirm', WHERE WHAT IT READS IS OF BULK AT MOST 1048576: true; the input reads as it did. -/
def fnFirmUptoRow : OpenClaim := { program := "ytfhkbjheleojmaadoor", sum := "acd19e5abd9a987023915c04a3ddc614ad7fc66e52f5b3fdd7fb43b475d44a98", func := "loop.example/tradecircles/laws.FnFirm", spec := "fnFirm", unfollowed := true, recurses := true, named := ["math/bits.deBruijn32tab", "math/bits.deBruijn64tab"], apart := false, laid := [("math/bits.deBruijn32tab", laid_math_bits_deBruijn32tab), ("math/bits.deBruijn64tab", laid_math_bits_deBruijn64tab)], narrowed := true }
def FnFirmUptoSaid : Prop := fnFirmUptoRow.holds Tryd.pinned (OpenSpec.upto fnFirmSpec)

/-- 'laws.FnFirms', WHERE WHAT IT READS IS OF BULK AT MOST 1048576: true; the input reads as it did. -/
def fnFirmsUptoRow : OpenClaim := { program := "ytfhkbjheleojmaadoor", sum := "acd19e5abd9a987023915c04a3ddc614ad7fc66e52f5b3fdd7fb43b475d44a98", func := "loop.example/tradecircles/laws.FnFirms", spec := "fnFirms", unfollowed := true, recurses := true, named := ["math/bits.deBruijn32tab", "math/bits.deBruijn64tab"], apart := false, laid := [("math/bits.deBruijn32tab", laid_math_bits_deBruijn32tab), ("math/bits.deBruijn64tab", laid_math_bits_deBruijn64tab)], narrowed := true }
def FnFirmsUptoSaid : Prop := fnFirmsUptoRow.holds Tryd.pinned (OpenSpec.upto fnFirmsSpec)

end Rows
end Go.Proofs.YtfhkbjheleojmaaDoor
