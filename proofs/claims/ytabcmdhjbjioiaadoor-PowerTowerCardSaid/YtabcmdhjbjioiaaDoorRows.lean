/-
  NARROWER THAN 'FOR EVERY INPUT', by the rows' own cells (each row's printed sentence says how): PowerExp: laid · PowerSums: laid · PowerSmall: laid · PowerSymbols: laid · PowerEuler: laid · PowerTower: laid · PowerRests: laid.
  DERIVED. THE GIVEN ROWS OF THIS SEAT. 7 by the template 'for every input the law returns true; each argument reads behind the call as it read before'; 0 by the template 'total and deterministic' (their statements: YtabcmdhjbjioiaaDoorTotals.lean).
  GIVEN WITH THE SEED: the statements are not yours to turn. If you find one false, say at which input.
  Laid BY PROGRAM, IN A SANDBOX (cutbox-rows.mjs): the forced cells as the released guide's own fill.sh prints them over the translation 431240043a32ccbc… (all of the seat's roots in one cut). By AI agents, Wed Nov 11 2026. No macro, syntax, notation, axiom, sorry.
-/
import Derived.Test.YtabcmdhjbjioiaaDoorChecked
import GoSem.Claim
import GoSem.ClaimJoined
import GoSem.ClaimMapViews
import Derived.JoinedTies
import Derived.KernelRfl
namespace Go.Proofs.YtabcmdhjbjioiaaDoor
/- THE CELL 'sum', in the pinned program and in every row, IS THE sha256 OF THE DUMP (.gsa) THAT YtabcmdhjbjioiaaDoorProg.lean LOADS. Nothing in Lean hashes anything: it is a label: what it is worth is what the hold of that sum in a sandbox is worth. -/
noncomputable def Tryd.pinned : Pinned := { name := "ytabcmdhjbjioiaadoor", sum := "431240043a32ccbc6ea86d15a02f95bed9824af0407bfe8249dfc59753240736", checked := Tryd.checked }
namespace Rows
def none {H : Type} : Left H := { results := [], args := [] }

/- WHAT THE LISTED PACKAGE-LEVEL VARIABLES READ AS WHEN THE CALL BEGINS. Each datum BY PROGRAM (the guide's laid-datum.mjs) off the statement by which the dump's own 'gosem.cut.vars' lays the variable. In a bare row this is a premise. The card (YtabcmdhjbjioiaaDoorCards.lean) ties it to the program's text. -/
def laid_math_bits_deBruijn64tab {H : Type} : DataW H := .agg [.lit (.int .u8 0), .lit (.int .u8 1), .lit (.int .u8 56), .lit (.int .u8 2), .lit (.int .u8 57), .lit (.int .u8 49), .lit (.int .u8 28), .lit (.int .u8 3), .lit (.int .u8 61), .lit (.int .u8 58), .lit (.int .u8 42), .lit (.int .u8 50), .lit (.int .u8 38), .lit (.int .u8 29), .lit (.int .u8 17), .lit (.int .u8 4), .lit (.int .u8 62), .lit (.int .u8 47), .lit (.int .u8 59), .lit (.int .u8 36), .lit (.int .u8 45), .lit (.int .u8 43), .lit (.int .u8 51), .lit (.int .u8 22), .lit (.int .u8 53), .lit (.int .u8 39), .lit (.int .u8 33), .lit (.int .u8 30), .lit (.int .u8 24), .lit (.int .u8 18), .lit (.int .u8 12), .lit (.int .u8 5), .lit (.int .u8 63), .lit (.int .u8 55), .lit (.int .u8 48), .lit (.int .u8 27), .lit (.int .u8 60), .lit (.int .u8 41), .lit (.int .u8 37), .lit (.int .u8 16), .lit (.int .u8 46), .lit (.int .u8 35), .lit (.int .u8 44), .lit (.int .u8 21), .lit (.int .u8 52), .lit (.int .u8 32), .lit (.int .u8 23), .lit (.int .u8 11), .lit (.int .u8 54), .lit (.int .u8 26), .lit (.int .u8 40), .lit (.int .u8 15), .lit (.int .u8 34), .lit (.int .u8 20), .lit (.int .u8 31), .lit (.int .u8 10), .lit (.int .u8 25), .lit (.int .u8 14), .lit (.int .u8 19), .lit (.int .u8 9), .lit (.int .u8 13), .lit (.int .u8 8), .lit (.int .u8 7), .lit (.int .u8 6)]

/-- 'caltroplaw08.PowerExp': WHATEVER THE INPUT: true; the input reads as it did. -/
def powerExpSpec : ChangeSpec := { name := "powerExp", fn := fun _ => fun
  | [d1, d2, d3] => { results := [.lit (.bool true)], args := [d1, d2, d3] }
  | _ => none }
def powerExpRow : OpenClaim := { program := "ytabcmdhjbjioiaadoor", sum := "431240043a32ccbc6ea86d15a02f95bed9824af0407bfe8249dfc59753240736", func := "caltrop/caltroplaw08.PowerExp", spec := "powerExp", inPlace := ["math/bits.Add64", "math/bits.Sub64"], unfollowed := true, recurses := true, named := ["math/bits.divideError", "math/bits.overflowError", "math/bits.deBruijn64tab"], apart := false, laid := [("math/bits.deBruijn64tab", laid_math_bits_deBruijn64tab)] }
def PowerExpSaid : Prop := powerExpRow.holds Tryd.pinned (OpenSpec.ofChange powerExpSpec)

/-- ITS FALSE NEIGHBOUR: 'it returns false'. Refute it at one input. -/
def powerExpWrong : ChangeSpec := { name := "powerExp", fn := fun _ => fun
  | [d1, d2, d3] => { results := [.lit (.bool false)], args := [d1, d2, d3] }
  | _ => none }
def PowerExpWrongFalsely : Prop := powerExpRow.holds Tryd.pinned (OpenSpec.ofChange powerExpWrong)

/-- 'caltroplaw08.PowerSums': WHATEVER THE INPUT: true; the input reads as it did. -/
def powerSumsSpec : ChangeSpec := { name := "powerSums", fn := fun _ => fun
  | [d1, d2, d3, d4, d5] => { results := [.lit (.bool true)], args := [d1, d2, d3, d4, d5] }
  | _ => none }
def powerSumsRow : OpenClaim := { program := "ytabcmdhjbjioiaadoor", sum := "431240043a32ccbc6ea86d15a02f95bed9824af0407bfe8249dfc59753240736", func := "caltrop/caltroplaw08.PowerSums", spec := "powerSums", inPlace := ["math/bits.Add64", "math/bits.Sub64"], unfollowed := true, recurses := true, named := ["math/bits.divideError", "math/bits.overflowError", "math/bits.deBruijn64tab"], apart := false, laid := [("math/bits.deBruijn64tab", laid_math_bits_deBruijn64tab)] }
def PowerSumsSaid : Prop := powerSumsRow.holds Tryd.pinned (OpenSpec.ofChange powerSumsSpec)

/-- ITS FALSE NEIGHBOUR: 'it returns false'. Refute it at one input. -/
def powerSumsWrong : ChangeSpec := { name := "powerSums", fn := fun _ => fun
  | [d1, d2, d3, d4, d5] => { results := [.lit (.bool false)], args := [d1, d2, d3, d4, d5] }
  | _ => none }
def PowerSumsWrongFalsely : Prop := powerSumsRow.holds Tryd.pinned (OpenSpec.ofChange powerSumsWrong)

/-- 'caltroplaw08.PowerSmall': WHATEVER THE INPUT: true; the input reads as it did. -/
def powerSmallSpec : ChangeSpec := { name := "powerSmall", fn := fun _ => fun
  | [d1, d2] => { results := [.lit (.bool true)], args := [d1, d2] }
  | _ => none }
def powerSmallRow : OpenClaim := { program := "ytabcmdhjbjioiaadoor", sum := "431240043a32ccbc6ea86d15a02f95bed9824af0407bfe8249dfc59753240736", func := "caltrop/caltroplaw08.PowerSmall", spec := "powerSmall", inPlace := ["math/bits.Add64", "math/bits.Sub64"], unfollowed := true, recurses := true, named := ["math/bits.divideError", "math/bits.overflowError", "math/bits.deBruijn64tab"], apart := false, laid := [("math/bits.deBruijn64tab", laid_math_bits_deBruijn64tab)] }
def PowerSmallSaid : Prop := powerSmallRow.holds Tryd.pinned (OpenSpec.ofChange powerSmallSpec)

/-- ITS FALSE NEIGHBOUR: 'it returns false'. Refute it at one input. -/
def powerSmallWrong : ChangeSpec := { name := "powerSmall", fn := fun _ => fun
  | [d1, d2] => { results := [.lit (.bool false)], args := [d1, d2] }
  | _ => none }
def PowerSmallWrongFalsely : Prop := powerSmallRow.holds Tryd.pinned (OpenSpec.ofChange powerSmallWrong)

/-- 'caltroplaw08.PowerSymbols': WHATEVER THE INPUT: true; the input reads as it did. -/
def powerSymbolsSpec : ChangeSpec := { name := "powerSymbols", fn := fun _ => fun
  | [d1, d2, d3, d4] => { results := [.lit (.bool true)], args := [d1, d2, d3, d4] }
  | _ => none }
def powerSymbolsRow : OpenClaim := { program := "ytabcmdhjbjioiaadoor", sum := "431240043a32ccbc6ea86d15a02f95bed9824af0407bfe8249dfc59753240736", func := "caltrop/caltroplaw08.PowerSymbols", spec := "powerSymbols", inPlace := ["math/bits.Add64", "math/bits.Sub64"], unfollowed := true, recurses := true, named := ["math/bits.divideError", "math/bits.overflowError", "math/bits.deBruijn64tab"], apart := false, laid := [("math/bits.deBruijn64tab", laid_math_bits_deBruijn64tab)] }
def PowerSymbolsSaid : Prop := powerSymbolsRow.holds Tryd.pinned (OpenSpec.ofChange powerSymbolsSpec)

/-- ITS FALSE NEIGHBOUR: 'it returns false'. Refute it at one input. -/
def powerSymbolsWrong : ChangeSpec := { name := "powerSymbols", fn := fun _ => fun
  | [d1, d2, d3, d4] => { results := [.lit (.bool false)], args := [d1, d2, d3, d4] }
  | _ => none }
def PowerSymbolsWrongFalsely : Prop := powerSymbolsRow.holds Tryd.pinned (OpenSpec.ofChange powerSymbolsWrong)

/-- 'caltroplaw08.PowerEuler': WHATEVER THE INPUT: true; the input reads as it did. -/
def powerEulerSpec : ChangeSpec := { name := "powerEuler", fn := fun _ => fun
  | [d1, d2] => { results := [.lit (.bool true)], args := [d1, d2] }
  | _ => none }
def powerEulerRow : OpenClaim := { program := "ytabcmdhjbjioiaadoor", sum := "431240043a32ccbc6ea86d15a02f95bed9824af0407bfe8249dfc59753240736", func := "caltrop/caltroplaw08.PowerEuler", spec := "powerEuler", inPlace := ["math/bits.Add64", "math/bits.Sub64"], unfollowed := true, recurses := true, named := ["math/bits.divideError", "math/bits.overflowError", "math/bits.deBruijn64tab"], apart := false, laid := [("math/bits.deBruijn64tab", laid_math_bits_deBruijn64tab)] }
def PowerEulerSaid : Prop := powerEulerRow.holds Tryd.pinned (OpenSpec.ofChange powerEulerSpec)

/-- ITS FALSE NEIGHBOUR: 'it returns false'. Refute it at one input. -/
def powerEulerWrong : ChangeSpec := { name := "powerEuler", fn := fun _ => fun
  | [d1, d2] => { results := [.lit (.bool false)], args := [d1, d2] }
  | _ => none }
def PowerEulerWrongFalsely : Prop := powerEulerRow.holds Tryd.pinned (OpenSpec.ofChange powerEulerWrong)

/-- 'caltroplaw08.PowerTower': WHATEVER THE INPUT: true; the input reads as it did. -/
def powerTowerSpec : ChangeSpec := { name := "powerTower", fn := fun _ => fun
  | [d1, d2, d3, d4, d5] => { results := [.lit (.bool true)], args := [d1, d2, d3, d4, d5] }
  | _ => none }
def powerTowerRow : OpenClaim := { program := "ytabcmdhjbjioiaadoor", sum := "431240043a32ccbc6ea86d15a02f95bed9824af0407bfe8249dfc59753240736", func := "caltrop/caltroplaw08.PowerTower", spec := "powerTower", inPlace := ["math/bits.Add64", "math/bits.Sub64"], unfollowed := true, recurses := true, named := ["math/bits.divideError", "math/bits.overflowError", "math/bits.deBruijn64tab"], apart := false, laid := [("math/bits.deBruijn64tab", laid_math_bits_deBruijn64tab)] }
def PowerTowerSaid : Prop := powerTowerRow.holds Tryd.pinned (OpenSpec.ofChange powerTowerSpec)

/-- ITS FALSE NEIGHBOUR: 'it returns false'. Refute it at one input. -/
def powerTowerWrong : ChangeSpec := { name := "powerTower", fn := fun _ => fun
  | [d1, d2, d3, d4, d5] => { results := [.lit (.bool false)], args := [d1, d2, d3, d4, d5] }
  | _ => none }
def PowerTowerWrongFalsely : Prop := powerTowerRow.holds Tryd.pinned (OpenSpec.ofChange powerTowerWrong)

/-- 'caltroplaw08.PowerRests': WHATEVER THE INPUT: true; the input reads as it did. -/
def powerRestsSpec : ChangeSpec := { name := "powerRests", fn := fun _ => fun
  | [d1, d2, d3, d4] => { results := [.lit (.bool true)], args := [d1, d2, d3, d4] }
  | _ => none }
def powerRestsRow : OpenClaim := { program := "ytabcmdhjbjioiaadoor", sum := "431240043a32ccbc6ea86d15a02f95bed9824af0407bfe8249dfc59753240736", func := "caltrop/caltroplaw08.PowerRests", spec := "powerRests", inPlace := ["math/bits.Add64", "math/bits.Sub64"], unfollowed := true, recurses := true, named := ["math/bits.divideError", "math/bits.overflowError", "math/bits.deBruijn64tab"], apart := false, laid := [("math/bits.deBruijn64tab", laid_math_bits_deBruijn64tab)] }
def PowerRestsSaid : Prop := powerRestsRow.holds Tryd.pinned (OpenSpec.ofChange powerRestsSpec)

/-- ITS FALSE NEIGHBOUR: 'it returns false'. Refute it at one input. -/
def powerRestsWrong : ChangeSpec := { name := "powerRests", fn := fun _ => fun
  | [d1, d2, d3, d4] => { results := [.lit (.bool false)], args := [d1, d2, d3, d4] }
  | _ => none }
def PowerRestsWrongFalsely : Prop := powerRestsRow.holds Tryd.pinned (OpenSpec.ofChange powerRestsWrong)

/- THE SECOND FORM. 'bulk': how many values and letters a reading holds, each counted each time it is reached (what is shared counts as often as it is met; a slice's spare places count too). A statement '..UptoSaid' is the law's where the arguments, and the package variables that the reading takes, are together of bulk at most 1048576: NARROWER than '..Said'. Prove '..Said' where nothing that the law and all that it calls make is longer than what came in: it says more and counts as full. Else prove '..UptoSaid'. A law counts once. -/
mutual
def uptoBulk {H : Type} : DataW H → Nat
  | .lit (.string bytes) => bytes.length + 1
  | .lit _ => 1
  | .nil => 1
  | .ptr d => uptoBulk d + 1
  | .slice elems spare => uptoBulkAll elems + uptoBulkAll spare + 1
  | .agg parts => uptoBulkAll parts + 1
  | .iface _ d => uptoBulk d + 1
  | .map entries => uptoBulkEntries entries + 1
  | .held _ => 1
def uptoBulkAll {H : Type} : List (DataW H) → Nat
  | [] => 0
  | d :: r => uptoBulk d + uptoBulkAll r
def uptoBulkEntries {H : Type} : List (Lit × DataW H) → Nat
  | [] => 0
  | x :: r => uptoBulkEntry x + uptoBulkEntries r
def uptoBulkEntry {H : Type} : Lit × DataW H → Nat
  | (.string bytes, d) => bytes.length + uptoBulk d + 1
  | (_, d) => uptoBulk d + 1
 end
def uptoSmall : (H : Type) → List (DataW H) → Bool := fun _ ds => decide (uptoBulkAll ds ≤ 1048576)
def OpenSpec.upto (s : _root_.Go.ChangeSpec) : _root_.Go.OpenSpec := { _root_.Go.OpenSpec.ofChange s with cond := some uptoSmall }

/-- 'caltroplaw08.PowerExp', WHERE WHAT IT READS IS OF BULK AT MOST 1048576: true; the input reads as it did. -/
def powerExpUptoRow : OpenClaim := { program := "ytabcmdhjbjioiaadoor", sum := "431240043a32ccbc6ea86d15a02f95bed9824af0407bfe8249dfc59753240736", func := "caltrop/caltroplaw08.PowerExp", spec := "powerExp", inPlace := ["math/bits.Add64", "math/bits.Sub64"], unfollowed := true, recurses := true, named := ["math/bits.divideError", "math/bits.overflowError", "math/bits.deBruijn64tab"], apart := false, laid := [("math/bits.deBruijn64tab", laid_math_bits_deBruijn64tab)], narrowed := true }
def PowerExpUptoSaid : Prop := powerExpUptoRow.holds Tryd.pinned (OpenSpec.upto powerExpSpec)

/-- 'caltroplaw08.PowerSums', WHERE WHAT IT READS IS OF BULK AT MOST 1048576: true; the input reads as it did. -/
def powerSumsUptoRow : OpenClaim := { program := "ytabcmdhjbjioiaadoor", sum := "431240043a32ccbc6ea86d15a02f95bed9824af0407bfe8249dfc59753240736", func := "caltrop/caltroplaw08.PowerSums", spec := "powerSums", inPlace := ["math/bits.Add64", "math/bits.Sub64"], unfollowed := true, recurses := true, named := ["math/bits.divideError", "math/bits.overflowError", "math/bits.deBruijn64tab"], apart := false, laid := [("math/bits.deBruijn64tab", laid_math_bits_deBruijn64tab)], narrowed := true }
def PowerSumsUptoSaid : Prop := powerSumsUptoRow.holds Tryd.pinned (OpenSpec.upto powerSumsSpec)

/-- 'caltroplaw08.PowerSmall', WHERE WHAT IT READS IS OF BULK AT MOST 1048576: true; the input reads as it did. -/
def powerSmallUptoRow : OpenClaim := { program := "ytabcmdhjbjioiaadoor", sum := "431240043a32ccbc6ea86d15a02f95bed9824af0407bfe8249dfc59753240736", func := "caltrop/caltroplaw08.PowerSmall", spec := "powerSmall", inPlace := ["math/bits.Add64", "math/bits.Sub64"], unfollowed := true, recurses := true, named := ["math/bits.divideError", "math/bits.overflowError", "math/bits.deBruijn64tab"], apart := false, laid := [("math/bits.deBruijn64tab", laid_math_bits_deBruijn64tab)], narrowed := true }
def PowerSmallUptoSaid : Prop := powerSmallUptoRow.holds Tryd.pinned (OpenSpec.upto powerSmallSpec)

/-- 'caltroplaw08.PowerSymbols', WHERE WHAT IT READS IS OF BULK AT MOST 1048576: true; the input reads as it did. -/
def powerSymbolsUptoRow : OpenClaim := { program := "ytabcmdhjbjioiaadoor", sum := "431240043a32ccbc6ea86d15a02f95bed9824af0407bfe8249dfc59753240736", func := "caltrop/caltroplaw08.PowerSymbols", spec := "powerSymbols", inPlace := ["math/bits.Add64", "math/bits.Sub64"], unfollowed := true, recurses := true, named := ["math/bits.divideError", "math/bits.overflowError", "math/bits.deBruijn64tab"], apart := false, laid := [("math/bits.deBruijn64tab", laid_math_bits_deBruijn64tab)], narrowed := true }
def PowerSymbolsUptoSaid : Prop := powerSymbolsUptoRow.holds Tryd.pinned (OpenSpec.upto powerSymbolsSpec)

/-- 'caltroplaw08.PowerEuler', WHERE WHAT IT READS IS OF BULK AT MOST 1048576: true; the input reads as it did. -/
def powerEulerUptoRow : OpenClaim := { program := "ytabcmdhjbjioiaadoor", sum := "431240043a32ccbc6ea86d15a02f95bed9824af0407bfe8249dfc59753240736", func := "caltrop/caltroplaw08.PowerEuler", spec := "powerEuler", inPlace := ["math/bits.Add64", "math/bits.Sub64"], unfollowed := true, recurses := true, named := ["math/bits.divideError", "math/bits.overflowError", "math/bits.deBruijn64tab"], apart := false, laid := [("math/bits.deBruijn64tab", laid_math_bits_deBruijn64tab)], narrowed := true }
def PowerEulerUptoSaid : Prop := powerEulerUptoRow.holds Tryd.pinned (OpenSpec.upto powerEulerSpec)

/-- 'caltroplaw08.PowerTower', WHERE WHAT IT READS IS OF BULK AT MOST 1048576: true; the input reads as it did. -/
def powerTowerUptoRow : OpenClaim := { program := "ytabcmdhjbjioiaadoor", sum := "431240043a32ccbc6ea86d15a02f95bed9824af0407bfe8249dfc59753240736", func := "caltrop/caltroplaw08.PowerTower", spec := "powerTower", inPlace := ["math/bits.Add64", "math/bits.Sub64"], unfollowed := true, recurses := true, named := ["math/bits.divideError", "math/bits.overflowError", "math/bits.deBruijn64tab"], apart := false, laid := [("math/bits.deBruijn64tab", laid_math_bits_deBruijn64tab)], narrowed := true }
def PowerTowerUptoSaid : Prop := powerTowerUptoRow.holds Tryd.pinned (OpenSpec.upto powerTowerSpec)

/-- 'caltroplaw08.PowerRests', WHERE WHAT IT READS IS OF BULK AT MOST 1048576: true; the input reads as it did. -/
def powerRestsUptoRow : OpenClaim := { program := "ytabcmdhjbjioiaadoor", sum := "431240043a32ccbc6ea86d15a02f95bed9824af0407bfe8249dfc59753240736", func := "caltrop/caltroplaw08.PowerRests", spec := "powerRests", inPlace := ["math/bits.Add64", "math/bits.Sub64"], unfollowed := true, recurses := true, named := ["math/bits.divideError", "math/bits.overflowError", "math/bits.deBruijn64tab"], apart := false, laid := [("math/bits.deBruijn64tab", laid_math_bits_deBruijn64tab)], narrowed := true }
def PowerRestsUptoSaid : Prop := powerRestsUptoRow.holds Tryd.pinned (OpenSpec.upto powerRestsSpec)

end Rows
end Go.Proofs.YtabcmdhjbjioiaaDoor
