/-
  No cell of these rows narrows 'for every input' (looked for: loops, veiled, ifaces, maps, wideKeys, modest, calm, conditions, laid).
  DERIVED. THE GIVEN ROWS OF THIS SEAT. 5 by the template 'for every input the law returns true; each argument reads behind the call as it read before'; 0 by the template 'total and deterministic' (their statements: YtjdjklejchginaaTotals.lean).
  GIVEN WITH THE SEED: the statements are not yours to turn. If you find one false, say at which input.
  Laid BY PROGRAM, IN A SANDBOX (cutbox-rows.mjs): the forced cells as the released guide's own fill.sh prints them over the translation 16e0a575d06b9e66… (all of the seat's roots in one cut). By AI agents, Wed Nov 11 2026. No macro, syntax, notation, axiom, sorry.
-/
import Derived.Test.YtjdjklejchginaaChecked
import GoSem.Claim
import GoSem.ClaimJoined
import GoSem.ClaimMapViews
import Derived.JoinedTies
import Derived.KernelRfl
namespace Go.Proofs.Ytjdjklejchginaa
/- THE CELL 'sum', in the pinned program and in every row, IS THE sha256 OF THE DUMP (.gsa) THAT YtjdjklejchginaaProg.lean LOADS. Nothing in Lean hashes anything: it is a label: what it is worth is what the hold of that sum in a sandbox is worth. -/
noncomputable def Try.pinned : Pinned := { name := "ytjdjklejchginaa", sum := "16e0a575d06b9e66fb98e57c6f64708a7a3c7f156f891a29d0d3a434596e64a4", checked := Try.checked }
namespace Rows
def none {H : Type} : Left H := { results := [], args := [] }

/-- 'caltroplaw03.MulPlays': WHATEVER THE INPUT: true; the input reads as it did. -/
def mulPlaysSpec : ChangeSpec := { name := "mulPlays", fn := fun _ => fun
  | [d1, d2] => { results := [.lit (.bool true)], args := [d1, d2] }
  | _ => none }
def mulPlaysRow : OpenClaim := { program := "ytjdjklejchginaa", sum := "16e0a575d06b9e66fb98e57c6f64708a7a3c7f156f891a29d0d3a434596e64a4", func := "caltrop/caltroplaw03.MulPlays", spec := "mulPlays", inPlace := ["math/bits.Add64", "math/bits.Sub64"], unfollowed := true, recurses := true, apart := false }
def MulPlaysSaid : Prop := mulPlaysRow.holds Try.pinned (OpenSpec.ofChange mulPlaysSpec)

/-- ITS FALSE NEIGHBOUR: 'it returns false'. Refute it at one input. -/
def mulPlaysWrong : ChangeSpec := { name := "mulPlays", fn := fun _ => fun
  | [d1, d2] => { results := [.lit (.bool false)], args := [d1, d2] }
  | _ => none }
def MulPlaysWrongFalsely : Prop := mulPlaysRow.holds Try.pinned (OpenSpec.ofChange mulPlaysWrong)

/-- 'caltroplaw03.MulLaws': WHATEVER THE INPUT: true; the input reads as it did. -/
def mulLawsSpec : ChangeSpec := { name := "mulLaws", fn := fun _ => fun
  | [d1, d2, d3] => { results := [.lit (.bool true)], args := [d1, d2, d3] }
  | _ => none }
def mulLawsRow : OpenClaim := { program := "ytjdjklejchginaa", sum := "16e0a575d06b9e66fb98e57c6f64708a7a3c7f156f891a29d0d3a434596e64a4", func := "caltrop/caltroplaw03.MulLaws", spec := "mulLaws", inPlace := ["math/bits.Add64", "math/bits.Sub64"], unfollowed := true, recurses := true, apart := false }
def MulLawsSaid : Prop := mulLawsRow.holds Try.pinned (OpenSpec.ofChange mulLawsSpec)

/-- ITS FALSE NEIGHBOUR: 'it returns false'. Refute it at one input. -/
def mulLawsWrong : ChangeSpec := { name := "mulLaws", fn := fun _ => fun
  | [d1, d2, d3] => { results := [.lit (.bool false)], args := [d1, d2, d3] }
  | _ => none }
def MulLawsWrongFalsely : Prop := mulLawsRow.holds Try.pinned (OpenSpec.ofChange mulLawsWrong)

/-- 'caltroplaw03.MulShifts': WHATEVER THE INPUT: true; the input reads as it did. -/
def mulShiftsSpec : ChangeSpec := { name := "mulShifts", fn := fun _ => fun
  | [d1, d2] => { results := [.lit (.bool true)], args := [d1, d2] }
  | _ => none }
def mulShiftsRow : OpenClaim := { program := "ytjdjklejchginaa", sum := "16e0a575d06b9e66fb98e57c6f64708a7a3c7f156f891a29d0d3a434596e64a4", func := "caltrop/caltroplaw03.MulShifts", spec := "mulShifts", inPlace := ["math/bits.Add64", "math/bits.Sub64"], unfollowed := true, recurses := true, apart := false }
def MulShiftsSaid : Prop := mulShiftsRow.holds Try.pinned (OpenSpec.ofChange mulShiftsSpec)

/-- ITS FALSE NEIGHBOUR: 'it returns false'. Refute it at one input. -/
def mulShiftsWrong : ChangeSpec := { name := "mulShifts", fn := fun _ => fun
  | [d1, d2] => { results := [.lit (.bool false)], args := [d1, d2] }
  | _ => none }
def MulShiftsWrongFalsely : Prop := mulShiftsRow.holds Try.pinned (OpenSpec.ofChange mulShiftsWrong)

/-- 'caltroplaw03.MulPower': WHATEVER THE INPUT: true; the input reads as it did. -/
def mulPowerSpec : ChangeSpec := { name := "mulPower", fn := fun _ => fun
  | [d1, d2] => { results := [.lit (.bool true)], args := [d1, d2] }
  | _ => none }
def mulPowerRow : OpenClaim := { program := "ytjdjklejchginaa", sum := "16e0a575d06b9e66fb98e57c6f64708a7a3c7f156f891a29d0d3a434596e64a4", func := "caltrop/caltroplaw03.MulPower", spec := "mulPower", inPlace := ["math/bits.Add64", "math/bits.Sub64"], unfollowed := true, recurses := true, apart := false }
def MulPowerSaid : Prop := mulPowerRow.holds Try.pinned (OpenSpec.ofChange mulPowerSpec)

/-- ITS FALSE NEIGHBOUR: 'it returns false'. Refute it at one input. -/
def mulPowerWrong : ChangeSpec := { name := "mulPower", fn := fun _ => fun
  | [d1, d2] => { results := [.lit (.bool false)], args := [d1, d2] }
  | _ => none }
def MulPowerWrongFalsely : Prop := mulPowerRow.holds Try.pinned (OpenSpec.ofChange mulPowerWrong)

/-- 'caltroplaw03.MulSquares': WHATEVER THE INPUT: true; the input reads as it did. -/
def mulSquaresSpec : ChangeSpec := { name := "mulSquares", fn := fun _ => fun
  | [d1, d2] => { results := [.lit (.bool true)], args := [d1, d2] }
  | _ => none }
def mulSquaresRow : OpenClaim := { program := "ytjdjklejchginaa", sum := "16e0a575d06b9e66fb98e57c6f64708a7a3c7f156f891a29d0d3a434596e64a4", func := "caltrop/caltroplaw03.MulSquares", spec := "mulSquares", inPlace := ["math/bits.Add64", "math/bits.Sub64"], unfollowed := true, recurses := true, apart := false }
def MulSquaresSaid : Prop := mulSquaresRow.holds Try.pinned (OpenSpec.ofChange mulSquaresSpec)

/-- ITS FALSE NEIGHBOUR: 'it returns false'. Refute it at one input. -/
def mulSquaresWrong : ChangeSpec := { name := "mulSquares", fn := fun _ => fun
  | [d1, d2] => { results := [.lit (.bool false)], args := [d1, d2] }
  | _ => none }
def MulSquaresWrongFalsely : Prop := mulSquaresRow.holds Try.pinned (OpenSpec.ofChange mulSquaresWrong)

/- THE SECOND FORM. 'bulk': how many values and letters a reading holds, each counted each time it is reached (what is shared counts as often as it is met; a slice's spare places count too). A statement '..UptoSaid' is the law's where the arguments, and the package variables that the reading takes, are together of bulk at most 1048576: NARROWER than '..Said'. Prove '..Said' where nothing that the law and all that it calls make is longer than what came in: it says more and counts as full. Else prove '..UptoSaid'. A law counts once. -/
mutual
def uptoBulk {H : Type} : DataW H → Nat
  | .lit (.string bytes) => bytes.length + 1
  | .lit _ => 1
  | .nil => 1
  | .ptr d => uptoBulk d + 1
  | .slice elems spare => uptoBulkAll elems + uptoBulkAll spare + 1
  | .agg parts => uptoBulkAll parts + 1
  | .iface _ d => uptoBulk d + 1
  | .map entries => uptoBulkEntries entries + 1
  | .held _ => 1
def uptoBulkAll {H : Type} : List (DataW H) → Nat
  | [] => 0
  | d :: r => uptoBulk d + uptoBulkAll r
def uptoBulkEntries {H : Type} : List (Lit × DataW H) → Nat
  | [] => 0
  | x :: r => uptoBulkEntry x + uptoBulkEntries r
def uptoBulkEntry {H : Type} : Lit × DataW H → Nat
  | (.string bytes, d) => bytes.length + uptoBulk d + 1
  | (_, d) => uptoBulk d + 1
 end
def uptoSmall : (H : Type) → List (DataW H) → Bool := fun _ ds => decide (uptoBulkAll ds ≤ 1048576)
def OpenSpec.upto (s : _root_.Go.ChangeSpec) : _root_.Go.OpenSpec := { _root_.Go.OpenSpec.ofChange s with cond := some uptoSmall }

/-- 'caltroplaw03.MulPlays', WHERE WHAT IT READS IS OF BULK AT MOST 1048576: true; the input reads as it did. -/
def mulPlaysUptoRow : OpenClaim := { program := "ytjdjklejchginaa", sum := "16e0a575d06b9e66fb98e57c6f64708a7a3c7f156f891a29d0d3a434596e64a4", func := "caltrop/caltroplaw03.MulPlays", spec := "mulPlays", inPlace := ["math/bits.Add64", "math/bits.Sub64"], unfollowed := true, recurses := true, apart := false, narrowed := true }
def MulPlaysUptoSaid : Prop := mulPlaysUptoRow.holds Try.pinned (OpenSpec.upto mulPlaysSpec)

/-- 'caltroplaw03.MulLaws', WHERE WHAT IT READS IS OF BULK AT MOST 1048576: true; the input reads as it did. -/
def mulLawsUptoRow : OpenClaim := { program := "ytjdjklejchginaa", sum := "16e0a575d06b9e66fb98e57c6f64708a7a3c7f156f891a29d0d3a434596e64a4", func := "caltrop/caltroplaw03.MulLaws", spec := "mulLaws", inPlace := ["math/bits.Add64", "math/bits.Sub64"], unfollowed := true, recurses := true, apart := false, narrowed := true }
def MulLawsUptoSaid : Prop := mulLawsUptoRow.holds Try.pinned (OpenSpec.upto mulLawsSpec)

/-- 'caltroplaw03.MulShifts', WHERE WHAT IT READS IS OF BULK AT MOST 1048576: true; the input reads as it did. -/
def mulShiftsUptoRow : OpenClaim := { program := "ytjdjklejchginaa", sum := "16e0a575d06b9e66fb98e57c6f64708a7a3c7f156f891a29d0d3a434596e64a4", func := "caltrop/caltroplaw03.MulShifts", spec := "mulShifts", inPlace := ["math/bits.Add64", "math/bits.Sub64"], unfollowed := true, recurses := true, apart := false, narrowed := true }
def MulShiftsUptoSaid : Prop := mulShiftsUptoRow.holds Try.pinned (OpenSpec.upto mulShiftsSpec)

/-- 'caltroplaw03.MulPower', WHERE WHAT IT READS IS OF BULK AT MOST 1048576: true; the input reads as it did. -/
def mulPowerUptoRow : OpenClaim := { program := "ytjdjklejchginaa", sum := "16e0a575d06b9e66fb98e57c6f64708a7a3c7f156f891a29d0d3a434596e64a4", func := "caltrop/caltroplaw03.MulPower", spec := "mulPower", inPlace := ["math/bits.Add64", "math/bits.Sub64"], unfollowed := true, recurses := true, apart := false, narrowed := true }
def MulPowerUptoSaid : Prop := mulPowerUptoRow.holds Try.pinned (OpenSpec.upto mulPowerSpec)

/-- 'caltroplaw03.MulSquares', WHERE WHAT IT READS IS OF BULK AT MOST 1048576: true; the input reads as it did. -/
def mulSquaresUptoRow : OpenClaim := { program := "ytjdjklejchginaa", sum := "16e0a575d06b9e66fb98e57c6f64708a7a3c7f156f891a29d0d3a434596e64a4", func := "caltrop/caltroplaw03.MulSquares", spec := "mulSquares", inPlace := ["math/bits.Add64", "math/bits.Sub64"], unfollowed := true, recurses := true, apart := false, narrowed := true }
def MulSquaresUptoSaid : Prop := mulSquaresUptoRow.holds Try.pinned (OpenSpec.upto mulSquaresSpec)

end Rows
end Go.Proofs.Ytjdjklejchginaa
