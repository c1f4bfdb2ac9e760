/-
  No cell of these rows narrows 'for every input' (looked for: loops, veiled, ifaces, maps, wideKeys, modest, calm, conditions, laid).
  DERIVED. THE GIVEN ROWS OF THIS SEAT. 5 by the template 'for every input the law returns true; each argument reads behind the call as it read before'; 0 by the template 'total and deterministic' (their statements: YtjimnepjheppgaaTotals.lean).
  GIVEN WITH THE SEED: the statements are not yours to turn. If you find one false, say at which input.
  Laid BY PROGRAM, IN A SANDBOX (cutbox-rows.mjs): the forced cells as the released guide's own fill.sh prints them over the translation 28ad0a378805ec88… (all of the seat's roots in one cut). By AI agents, Wed Nov 11 2026. No macro, syntax, notation, axiom, sorry.
-/
import Derived.Test.YtjimnepjheppgaaChecked
import GoSem.Claim
import GoSem.ClaimJoined
import GoSem.ClaimMapViews
import Derived.JoinedTies
import Derived.KernelRfl
namespace Go.Proofs.Ytjimnepjheppgaa
/- THE CELL 'sum', in the pinned program and in every row, IS THE sha256 OF THE DUMP (.gsa) THAT YtjimnepjheppgaaProg.lean LOADS. Nothing in Lean hashes anything: it is a label: what it is worth is what the hold of that sum in a sandbox is worth. -/
noncomputable def Try.pinned : Pinned := { name := "ytjimnepjheppgaa", sum := "28ad0a378805ec8835053feddfe1d92c5a02a91fd94cb60d4604c964d7de7268", checked := Try.checked }
namespace Rows
def none {H : Type} : Left H := { results := [], args := [] }

/-- 'caltroplaw04.DivPlays': WHATEVER THE INPUT: true; the input reads as it did. -/
def divPlaysSpec : ChangeSpec := { name := "divPlays", fn := fun _ => fun
  | [d1, d2, d3] => { results := [.lit (.bool true)], args := [d1, d2, d3] }
  | _ => none }
def divPlaysRow : OpenClaim := { program := "ytjimnepjheppgaa", sum := "28ad0a378805ec8835053feddfe1d92c5a02a91fd94cb60d4604c964d7de7268", func := "caltrop/caltroplaw04.DivPlays", spec := "divPlays", inPlace := ["math/bits.Add64", "math/bits.Sub64"], unfollowed := true, recurses := true, named := ["math/bits.divideError", "math/bits.overflowError"], apart := false }
def DivPlaysSaid : Prop := divPlaysRow.holds Try.pinned (OpenSpec.ofChange divPlaysSpec)

/-- ITS FALSE NEIGHBOUR: 'it returns false'. Refute it at one input. -/
def divPlaysWrong : ChangeSpec := { name := "divPlays", fn := fun _ => fun
  | [d1, d2, d3] => { results := [.lit (.bool false)], args := [d1, d2, d3] }
  | _ => none }
def DivPlaysWrongFalsely : Prop := divPlaysRow.holds Try.pinned (OpenSpec.ofChange divPlaysWrong)

/-- 'caltroplaw04.DivMakes': WHATEVER THE INPUT: true; the input reads as it did. -/
def divMakesSpec : ChangeSpec := { name := "divMakes", fn := fun _ => fun
  | [d1, d2] => { results := [.lit (.bool true)], args := [d1, d2] }
  | _ => none }
def divMakesRow : OpenClaim := { program := "ytjimnepjheppgaa", sum := "28ad0a378805ec8835053feddfe1d92c5a02a91fd94cb60d4604c964d7de7268", func := "caltrop/caltroplaw04.DivMakes", spec := "divMakes", inPlace := ["math/bits.Add64", "math/bits.Sub64"], unfollowed := true, recurses := true, named := ["math/bits.divideError", "math/bits.overflowError"], apart := false }
def DivMakesSaid : Prop := divMakesRow.holds Try.pinned (OpenSpec.ofChange divMakesSpec)

/-- ITS FALSE NEIGHBOUR: 'it returns false'. Refute it at one input. -/
def divMakesWrong : ChangeSpec := { name := "divMakes", fn := fun _ => fun
  | [d1, d2] => { results := [.lit (.bool false)], args := [d1, d2] }
  | _ => none }
def DivMakesWrongFalsely : Prop := divMakesRow.holds Try.pinned (OpenSpec.ofChange divMakesWrong)

/-- 'caltroplaw04.DivBack': WHATEVER THE INPUT: true; the input reads as it did. -/
def divBackSpec : ChangeSpec := { name := "divBack", fn := fun _ => fun
  | [d1, d2, d3] => { results := [.lit (.bool true)], args := [d1, d2, d3] }
  | _ => none }
def divBackRow : OpenClaim := { program := "ytjimnepjheppgaa", sum := "28ad0a378805ec8835053feddfe1d92c5a02a91fd94cb60d4604c964d7de7268", func := "caltrop/caltroplaw04.DivBack", spec := "divBack", inPlace := ["math/bits.Add64", "math/bits.Sub64"], unfollowed := true, recurses := true, named := ["math/bits.divideError", "math/bits.overflowError"], apart := false }
def DivBackSaid : Prop := divBackRow.holds Try.pinned (OpenSpec.ofChange divBackSpec)

/-- ITS FALSE NEIGHBOUR: 'it returns false'. Refute it at one input. -/
def divBackWrong : ChangeSpec := { name := "divBack", fn := fun _ => fun
  | [d1, d2, d3] => { results := [.lit (.bool false)], args := [d1, d2, d3] }
  | _ => none }
def DivBackWrongFalsely : Prop := divBackRow.holds Try.pinned (OpenSpec.ofChange divBackWrong)

/-- 'caltroplaw04.DivNear': WHATEVER THE INPUT: true; the input reads as it did. -/
def divNearSpec : ChangeSpec := { name := "divNear", fn := fun _ => fun
  | [d1, d2, d3] => { results := [.lit (.bool true)], args := [d1, d2, d3] }
  | _ => none }
def divNearRow : OpenClaim := { program := "ytjimnepjheppgaa", sum := "28ad0a378805ec8835053feddfe1d92c5a02a91fd94cb60d4604c964d7de7268", func := "caltrop/caltroplaw04.DivNear", spec := "divNear", inPlace := ["math/bits.Add64", "math/bits.Sub64"], unfollowed := true, recurses := true, named := ["math/bits.divideError", "math/bits.overflowError"], apart := false }
def DivNearSaid : Prop := divNearRow.holds Try.pinned (OpenSpec.ofChange divNearSpec)

/-- ITS FALSE NEIGHBOUR: 'it returns false'. Refute it at one input. -/
def divNearWrong : ChangeSpec := { name := "divNear", fn := fun _ => fun
  | [d1, d2, d3] => { results := [.lit (.bool false)], args := [d1, d2, d3] }
  | _ => none }
def DivNearWrongFalsely : Prop := divNearRow.holds Try.pinned (OpenSpec.ofChange divNearWrong)

/-- 'caltroplaw04.DivTower': WHATEVER THE INPUT: true; the input reads as it did. -/
def divTowerSpec : ChangeSpec := { name := "divTower", fn := fun _ => fun
  | [d1, d2, d3] => { results := [.lit (.bool true)], args := [d1, d2, d3] }
  | _ => none }
def divTowerRow : OpenClaim := { program := "ytjimnepjheppgaa", sum := "28ad0a378805ec8835053feddfe1d92c5a02a91fd94cb60d4604c964d7de7268", func := "caltrop/caltroplaw04.DivTower", spec := "divTower", inPlace := ["math/bits.Add64", "math/bits.Sub64"], unfollowed := true, recurses := true, named := ["math/bits.divideError", "math/bits.overflowError"], apart := false }
def DivTowerSaid : Prop := divTowerRow.holds Try.pinned (OpenSpec.ofChange divTowerSpec)

/-- ITS FALSE NEIGHBOUR: 'it returns false'. Refute it at one input. -/
def divTowerWrong : ChangeSpec := { name := "divTower", fn := fun _ => fun
  | [d1, d2, d3] => { results := [.lit (.bool false)], args := [d1, d2, d3] }
  | _ => none }
def DivTowerWrongFalsely : Prop := divTowerRow.holds Try.pinned (OpenSpec.ofChange divTowerWrong)

/- THE SECOND FORM. 'bulk': how many values and letters a reading holds, each counted each time it is reached (what is shared counts as often as it is met; a slice's spare places count too). A statement '..UptoSaid' is the law's where the arguments, and the package variables that the reading takes, are together of bulk at most 1048576: NARROWER than '..Said'. Prove '..Said' where nothing that the law and all that it calls make is longer than what came in: it says more and counts as full. Else prove '..UptoSaid'. A law counts once. -/
mutual
def uptoBulk {H : Type} : DataW H → Nat
  | .lit (.string bytes) => bytes.length + 1
  | .lit _ => 1
  | .nil => 1
  | .ptr d => uptoBulk d + 1
  | .slice elems spare => uptoBulkAll elems + uptoBulkAll spare + 1
  | .agg parts => uptoBulkAll parts + 1
  | .iface _ d => uptoBulk d + 1
  | .map entries => uptoBulkEntries entries + 1
  | .held _ => 1
def uptoBulkAll {H : Type} : List (DataW H) → Nat
  | [] => 0
  | d :: r => uptoBulk d + uptoBulkAll r
def uptoBulkEntries {H : Type} : List (Lit × DataW H) → Nat
  | [] => 0
  | x :: r => uptoBulkEntry x + uptoBulkEntries r
def uptoBulkEntry {H : Type} : Lit × DataW H → Nat
  | (.string bytes, d) => bytes.length + uptoBulk d + 1
  | (_, d) => uptoBulk d + 1
 end
def uptoSmall : (H : Type) → List (DataW H) → Bool := fun _ ds => decide (uptoBulkAll ds ≤ 1048576)
def OpenSpec.upto (s : _root_.Go.ChangeSpec) : _root_.Go.OpenSpec := { _root_.Go.OpenSpec.ofChange s with cond := some uptoSmall }

/-- 'caltroplaw04.DivPlays', WHERE WHAT IT READS IS OF BULK AT MOST 1048576: true; the input reads as it did. -/
def divPlaysUptoRow : OpenClaim := { program := "ytjimnepjheppgaa", sum := "28ad0a378805ec8835053feddfe1d92c5a02a91fd94cb60d4604c964d7de7268", func := "caltrop/caltroplaw04.DivPlays", spec := "divPlays", inPlace := ["math/bits.Add64", "math/bits.Sub64"], unfollowed := true, recurses := true, named := ["math/bits.divideError", "math/bits.overflowError"], apart := false, narrowed := true }
def DivPlaysUptoSaid : Prop := divPlaysUptoRow.holds Try.pinned (OpenSpec.upto divPlaysSpec)

/-- 'caltroplaw04.DivMakes', WHERE WHAT IT READS IS OF BULK AT MOST 1048576: true; the input reads as it did. -/
def divMakesUptoRow : OpenClaim := { program := "ytjimnepjheppgaa", sum := "28ad0a378805ec8835053feddfe1d92c5a02a91fd94cb60d4604c964d7de7268", func := "caltrop/caltroplaw04.DivMakes", spec := "divMakes", inPlace := ["math/bits.Add64", "math/bits.Sub64"], unfollowed := true, recurses := true, named := ["math/bits.divideError", "math/bits.overflowError"], apart := false, narrowed := true }
def DivMakesUptoSaid : Prop := divMakesUptoRow.holds Try.pinned (OpenSpec.upto divMakesSpec)

/-- 'caltroplaw04.DivBack', WHERE WHAT IT READS IS OF BULK AT MOST 1048576: true; the input reads as it did. -/
def divBackUptoRow : OpenClaim := { program := "ytjimnepjheppgaa", sum := "28ad0a378805ec8835053feddfe1d92c5a02a91fd94cb60d4604c964d7de7268", func := "caltrop/caltroplaw04.DivBack", spec := "divBack", inPlace := ["math/bits.Add64", "math/bits.Sub64"], unfollowed := true, recurses := true, named := ["math/bits.divideError", "math/bits.overflowError"], apart := false, narrowed := true }
def DivBackUptoSaid : Prop := divBackUptoRow.holds Try.pinned (OpenSpec.upto divBackSpec)

/-- 'caltroplaw04.DivNear', WHERE WHAT IT READS IS OF BULK AT MOST 1048576: true; the input reads as it did. -/
def divNearUptoRow : OpenClaim := { program := "ytjimnepjheppgaa", sum := "28ad0a378805ec8835053feddfe1d92c5a02a91fd94cb60d4604c964d7de7268", func := "caltrop/caltroplaw04.DivNear", spec := "divNear", inPlace := ["math/bits.Add64", "math/bits.Sub64"], unfollowed := true, recurses := true, named := ["math/bits.divideError", "math/bits.overflowError"], apart := false, narrowed := true }
def DivNearUptoSaid : Prop := divNearUptoRow.holds Try.pinned (OpenSpec.upto divNearSpec)

/-- 'caltroplaw04.DivTower', WHERE WHAT IT READS IS OF BULK AT MOST 1048576: true; the input reads as it did. -/
def divTowerUptoRow : OpenClaim := { program := "ytjimnepjheppgaa", sum := "28ad0a378805ec8835053feddfe1d92c5a02a91fd94cb60d4604c964d7de7268", func := "caltrop/caltroplaw04.DivTower", spec := "divTower", inPlace := ["math/bits.Add64", "math/bits.Sub64"], unfollowed := true, recurses := true, named := ["math/bits.divideError", "math/bits.overflowError"], apart := false, narrowed := true }
def DivTowerUptoSaid : Prop := divTowerUptoRow.holds Try.pinned (OpenSpec.upto divTowerSpec)

end Rows
end Go.Proofs.Ytjimnepjheppgaa
