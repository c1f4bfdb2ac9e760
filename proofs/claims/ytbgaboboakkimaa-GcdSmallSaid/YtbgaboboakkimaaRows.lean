/-
  No cell of these rows narrows 'for every input' (looked for: loops, veiled, ifaces, maps, wideKeys, modest, calm, conditions, laid).
  DERIVED. THE GIVEN ROWS OF THIS SEAT. 5 by the template 'for every input the law returns true; each argument reads behind the call as it read before'; 0 by the template 'total and deterministic' (their statements: YtbgaboboakkimaaTotals.lean).
  GIVEN WITH THE SEED: the statements are not yours to turn. If you find one false, say at which input.
  Laid BY PROGRAM, IN A SANDBOX (cutbox-rows.mjs): the forced cells as the released guide's own fill.sh prints them over the translation a6fe31ef9a4c40ff… (all of the seat's roots in one cut). By AI agents, Wed Nov 11 2026. No macro, syntax, notation, axiom, sorry.
-/
import Derived.Test.YtbgaboboakkimaaChecked
import GoSem.Claim
import GoSem.ClaimJoined
import GoSem.ClaimMapViews
import Derived.JoinedTies
import Derived.KernelRfl
namespace Go.Proofs.Ytbgaboboakkimaa
/- THE CELL 'sum', in the pinned program and in every row, IS THE sha256 OF THE DUMP (.gsa) THAT YtbgaboboakkimaaProg.lean LOADS. Nothing in Lean hashes anything: it is a label: what it is worth is what the hold of that sum in a sandbox is worth. -/
noncomputable def Try.pinned : Pinned := { name := "ytbgaboboakkimaa", sum := "a6fe31ef9a4c40ff22838af7d3aa31e6d5a412175448a1a38b0deb75c0ebffbd", checked := Try.checked }
namespace Rows
def none {H : Type} : Left H := { results := [], args := [] }

/-- 'caltroplaw05.GcdPlays': WHATEVER THE INPUT: true; the input reads as it did. -/
def gcdPlaysSpec : ChangeSpec := { name := "gcdPlays", fn := fun _ => fun
  | [d1, d2] => { results := [.lit (.bool true)], args := [d1, d2] }
  | _ => none }
def gcdPlaysRow : OpenClaim := { program := "ytbgaboboakkimaa", sum := "a6fe31ef9a4c40ff22838af7d3aa31e6d5a412175448a1a38b0deb75c0ebffbd", func := "caltrop/caltroplaw05.GcdPlays", spec := "gcdPlays", inPlace := ["math/bits.Add64", "math/bits.Sub64"], unfollowed := true, recurses := true, named := ["math/bits.divideError", "math/bits.overflowError"], apart := false }
def GcdPlaysSaid : Prop := gcdPlaysRow.holds Try.pinned (OpenSpec.ofChange gcdPlaysSpec)

/-- ITS FALSE NEIGHBOUR: 'it returns false'. Refute it at one input. -/
def gcdPlaysWrong : ChangeSpec := { name := "gcdPlays", fn := fun _ => fun
  | [d1, d2] => { results := [.lit (.bool false)], args := [d1, d2] }
  | _ => none }
def GcdPlaysWrongFalsely : Prop := gcdPlaysRow.holds Try.pinned (OpenSpec.ofChange gcdPlaysWrong)

/-- 'caltroplaw05.GcdSmall': WHATEVER THE INPUT: true; the input reads as it did. -/
def gcdSmallSpec : ChangeSpec := { name := "gcdSmall", fn := fun _ => fun
  | [d1, d2] => { results := [.lit (.bool true)], args := [d1, d2] }
  | _ => none }
def gcdSmallRow : OpenClaim := { program := "ytbgaboboakkimaa", sum := "a6fe31ef9a4c40ff22838af7d3aa31e6d5a412175448a1a38b0deb75c0ebffbd", func := "caltrop/caltroplaw05.GcdSmall", spec := "gcdSmall", inPlace := ["math/bits.Add64", "math/bits.Sub64"], unfollowed := true, recurses := true, named := ["math/bits.divideError", "math/bits.overflowError"], apart := false }
def GcdSmallSaid : Prop := gcdSmallRow.holds Try.pinned (OpenSpec.ofChange gcdSmallSpec)

/-- ITS FALSE NEIGHBOUR: 'it returns false'. Refute it at one input. -/
def gcdSmallWrong : ChangeSpec := { name := "gcdSmall", fn := fun _ => fun
  | [d1, d2] => { results := [.lit (.bool false)], args := [d1, d2] }
  | _ => none }
def GcdSmallWrongFalsely : Prop := gcdSmallRow.holds Try.pinned (OpenSpec.ofChange gcdSmallWrong)

/-- 'caltroplaw05.GcdHolds': WHATEVER THE INPUT: true; the input reads as it did. -/
def gcdHoldsSpec : ChangeSpec := { name := "gcdHolds", fn := fun _ => fun
  | [d1, d2, d3] => { results := [.lit (.bool true)], args := [d1, d2, d3] }
  | _ => none }
def gcdHoldsRow : OpenClaim := { program := "ytbgaboboakkimaa", sum := "a6fe31ef9a4c40ff22838af7d3aa31e6d5a412175448a1a38b0deb75c0ebffbd", func := "caltrop/caltroplaw05.GcdHolds", spec := "gcdHolds", inPlace := ["math/bits.Add64", "math/bits.Sub64"], unfollowed := true, recurses := true, named := ["math/bits.divideError", "math/bits.overflowError"], apart := false }
def GcdHoldsSaid : Prop := gcdHoldsRow.holds Try.pinned (OpenSpec.ofChange gcdHoldsSpec)

/-- ITS FALSE NEIGHBOUR: 'it returns false'. Refute it at one input. -/
def gcdHoldsWrong : ChangeSpec := { name := "gcdHolds", fn := fun _ => fun
  | [d1, d2, d3] => { results := [.lit (.bool false)], args := [d1, d2, d3] }
  | _ => none }
def GcdHoldsWrongFalsely : Prop := gcdHoldsRow.holds Try.pinned (OpenSpec.ofChange gcdHoldsWrong)

/-- 'caltroplaw05.GcdInverse': WHATEVER THE INPUT: true; the input reads as it did. -/
def gcdInverseSpec : ChangeSpec := { name := "gcdInverse", fn := fun _ => fun
  | [d1, d2] => { results := [.lit (.bool true)], args := [d1, d2] }
  | _ => none }
def gcdInverseRow : OpenClaim := { program := "ytbgaboboakkimaa", sum := "a6fe31ef9a4c40ff22838af7d3aa31e6d5a412175448a1a38b0deb75c0ebffbd", func := "caltrop/caltroplaw05.GcdInverse", spec := "gcdInverse", inPlace := ["math/bits.Add64", "math/bits.Sub64"], unfollowed := true, recurses := true, named := ["math/bits.divideError", "math/bits.overflowError"], apart := false }
def GcdInverseSaid : Prop := gcdInverseRow.holds Try.pinned (OpenSpec.ofChange gcdInverseSpec)

/-- ITS FALSE NEIGHBOUR: 'it returns false'. Refute it at one input. -/
def gcdInverseWrong : ChangeSpec := { name := "gcdInverse", fn := fun _ => fun
  | [d1, d2] => { results := [.lit (.bool false)], args := [d1, d2] }
  | _ => none }
def GcdInverseWrongFalsely : Prop := gcdInverseRow.holds Try.pinned (OpenSpec.ofChange gcdInverseWrong)

/-- 'caltroplaw05.GcdScales': WHATEVER THE INPUT: true; the input reads as it did. -/
def gcdScalesSpec : ChangeSpec := { name := "gcdScales", fn := fun _ => fun
  | [d1, d2, d3] => { results := [.lit (.bool true)], args := [d1, d2, d3] }
  | _ => none }
def gcdScalesRow : OpenClaim := { program := "ytbgaboboakkimaa", sum := "a6fe31ef9a4c40ff22838af7d3aa31e6d5a412175448a1a38b0deb75c0ebffbd", func := "caltrop/caltroplaw05.GcdScales", spec := "gcdScales", inPlace := ["math/bits.Add64", "math/bits.Sub64"], unfollowed := true, recurses := true, named := ["math/bits.divideError", "math/bits.overflowError"], apart := false }
def GcdScalesSaid : Prop := gcdScalesRow.holds Try.pinned (OpenSpec.ofChange gcdScalesSpec)

/-- ITS FALSE NEIGHBOUR: 'it returns false'. Refute it at one input. -/
def gcdScalesWrong : ChangeSpec := { name := "gcdScales", fn := fun _ => fun
  | [d1, d2, d3] => { results := [.lit (.bool false)], args := [d1, d2, d3] }
  | _ => none }
def GcdScalesWrongFalsely : Prop := gcdScalesRow.holds Try.pinned (OpenSpec.ofChange gcdScalesWrong)

/- THE SECOND FORM. 'bulk': how many values and letters a reading holds, each counted each time it is reached (what is shared counts as often as it is met; a slice's spare places count too). A statement '..UptoSaid' is the law's where the arguments, and the package variables that the reading takes, are together of bulk at most 1048576: NARROWER than '..Said'. Prove '..Said' where nothing that the law and all that it calls make is longer than what came in: it says more and counts as full. Else prove '..UptoSaid'. A law counts once. -/
mutual
def uptoBulk {H : Type} : DataW H → Nat
  | .lit (.string bytes) => bytes.length + 1
  | .lit _ => 1
  | .nil => 1
  | .ptr d => uptoBulk d + 1
  | .slice elems spare => uptoBulkAll elems + uptoBulkAll spare + 1
  | .agg parts => uptoBulkAll parts + 1
  | .iface _ d => uptoBulk d + 1
  | .map entries => uptoBulkEntries entries + 1
  | .held _ => 1
def uptoBulkAll {H : Type} : List (DataW H) → Nat
  | [] => 0
  | d :: r => uptoBulk d + uptoBulkAll r
def uptoBulkEntries {H : Type} : List (Lit × DataW H) → Nat
  | [] => 0
  | x :: r => uptoBulkEntry x + uptoBulkEntries r
def uptoBulkEntry {H : Type} : Lit × DataW H → Nat
  | (.string bytes, d) => bytes.length + uptoBulk d + 1
  | (_, d) => uptoBulk d + 1
 end
def uptoSmall : (H : Type) → List (DataW H) → Bool := fun _ ds => decide (uptoBulkAll ds ≤ 1048576)
def OpenSpec.upto (s : _root_.Go.ChangeSpec) : _root_.Go.OpenSpec := { _root_.Go.OpenSpec.ofChange s with cond := some uptoSmall }

/-- 'caltroplaw05.GcdPlays', WHERE WHAT IT READS IS OF BULK AT MOST 1048576: true; the input reads as it did. -/
def gcdPlaysUptoRow : OpenClaim := { program := "ytbgaboboakkimaa", sum := "a6fe31ef9a4c40ff22838af7d3aa31e6d5a412175448a1a38b0deb75c0ebffbd", func := "caltrop/caltroplaw05.GcdPlays", spec := "gcdPlays", inPlace := ["math/bits.Add64", "math/bits.Sub64"], unfollowed := true, recurses := true, named := ["math/bits.divideError", "math/bits.overflowError"], apart := false, narrowed := true }
def GcdPlaysUptoSaid : Prop := gcdPlaysUptoRow.holds Try.pinned (OpenSpec.upto gcdPlaysSpec)

/-- 'caltroplaw05.GcdSmall', WHERE WHAT IT READS IS OF BULK AT MOST 1048576: true; the input reads as it did. -/
def gcdSmallUptoRow : OpenClaim := { program := "ytbgaboboakkimaa", sum := "a6fe31ef9a4c40ff22838af7d3aa31e6d5a412175448a1a38b0deb75c0ebffbd", func := "caltrop/caltroplaw05.GcdSmall", spec := "gcdSmall", inPlace := ["math/bits.Add64", "math/bits.Sub64"], unfollowed := true, recurses := true, named := ["math/bits.divideError", "math/bits.overflowError"], apart := false, narrowed := true }
def GcdSmallUptoSaid : Prop := gcdSmallUptoRow.holds Try.pinned (OpenSpec.upto gcdSmallSpec)

/-- 'caltroplaw05.GcdHolds', WHERE WHAT IT READS IS OF BULK AT MOST 1048576: true; the input reads as it did. -/
def gcdHoldsUptoRow : OpenClaim := { program := "ytbgaboboakkimaa", sum := "a6fe31ef9a4c40ff22838af7d3aa31e6d5a412175448a1a38b0deb75c0ebffbd", func := "caltrop/caltroplaw05.GcdHolds", spec := "gcdHolds", inPlace := ["math/bits.Add64", "math/bits.Sub64"], unfollowed := true, recurses := true, named := ["math/bits.divideError", "math/bits.overflowError"], apart := false, narrowed := true }
def GcdHoldsUptoSaid : Prop := gcdHoldsUptoRow.holds Try.pinned (OpenSpec.upto gcdHoldsSpec)

/-- 'caltroplaw05.GcdInverse', WHERE WHAT IT READS IS OF BULK AT MOST 1048576: true; the input reads as it did. -/
def gcdInverseUptoRow : OpenClaim := { program := "ytbgaboboakkimaa", sum := "a6fe31ef9a4c40ff22838af7d3aa31e6d5a412175448a1a38b0deb75c0ebffbd", func := "caltrop/caltroplaw05.GcdInverse", spec := "gcdInverse", inPlace := ["math/bits.Add64", "math/bits.Sub64"], unfollowed := true, recurses := true, named := ["math/bits.divideError", "math/bits.overflowError"], apart := false, narrowed := true }
def GcdInverseUptoSaid : Prop := gcdInverseUptoRow.holds Try.pinned (OpenSpec.upto gcdInverseSpec)

/-- 'caltroplaw05.GcdScales', WHERE WHAT IT READS IS OF BULK AT MOST 1048576: true; the input reads as it did. -/
def gcdScalesUptoRow : OpenClaim := { program := "ytbgaboboakkimaa", sum := "a6fe31ef9a4c40ff22838af7d3aa31e6d5a412175448a1a38b0deb75c0ebffbd", func := "caltrop/caltroplaw05.GcdScales", spec := "gcdScales", inPlace := ["math/bits.Add64", "math/bits.Sub64"], unfollowed := true, recurses := true, named := ["math/bits.divideError", "math/bits.overflowError"], apart := false, narrowed := true }
def GcdScalesUptoSaid : Prop := gcdScalesUptoRow.holds Try.pinned (OpenSpec.upto gcdScalesSpec)

end Rows
end Go.Proofs.Ytbgaboboakkimaa
