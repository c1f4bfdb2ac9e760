/-
  No cell of these rows narrows 'for every input' (looked for: loops, veiled, ifaces, maps, wideKeys, modest, calm, conditions, laid).
  DERIVED. THE GIVEN ROWS OF THIS SEAT. 3 by the template 'for every input the law returns true; each argument reads behind the call as it read before'; 0 by the template 'total and deterministic' (their statements: YtakcgamgnmmdlaaGreatTotals.lean).
  GIVEN WITH THE SEED: the statements are not yours to turn. If you find one false, say at which input.
  Laid BY PROGRAM, IN A SANDBOX (cutbox-rows.mjs): the forced cells as the released guide's own fill.sh prints them over the translation 7fc0da179a62ce80… (all of the seat's roots in one cut). By AI agents, Wed Nov 11 2026. No macro, syntax, notation, axiom, sorry.
-/
import Derived.Test.YtakcgamgnmmdlaaGreatChecked
import GoSem.Claim
import GoSem.ClaimJoined
import GoSem.ClaimMapViews
import Derived.JoinedTies
import Derived.KernelRfl
namespace Go.Proofs.YtakcgamgnmmdlaaGreat
/- THE CELL 'sum', in the pinned program and in every row, IS THE sha256 OF THE DUMP (.gsa) THAT YtakcgamgnmmdlaaGreatProg.lean LOADS. Nothing in Lean hashes anything: it is a label: what it is worth is what the hold of that sum in a sandbox is worth. -/
noncomputable def Tryz.pinned : Pinned := { name := "ytakcgamgnmmdlaagreat", sum := "7fc0da179a62ce800f7733500e718ee939ece8727ebae3e76f932cd2873a16b8", checked := Tryz.checked }
namespace Rows
def none {H : Type} : Left H := { results := [], args := [] }

/-- 'caltroplaw10.RhoSplits': WHATEVER THE INPUT: true; the input reads as it did. -/
def rhoSplitsSpec : ChangeSpec := { name := "rhoSplits", fn := fun _ => fun
  | [d1, d2, d3] => { results := [.lit (.bool true)], args := [d1, d2, d3] }
  | _ => none }
def rhoSplitsRow : OpenClaim := { program := "ytakcgamgnmmdlaagreat", sum := "7fc0da179a62ce800f7733500e718ee939ece8727ebae3e76f932cd2873a16b8", func := "caltrop/caltroplaw10.RhoSplits", spec := "rhoSplits", inPlace := ["math/bits.Add64", "math/bits.Sub64"], unfollowed := true, recurses := true, named := ["math/bits.divideError", "math/bits.overflowError"], apart := false }
def RhoSplitsSaid : Prop := rhoSplitsRow.holds Tryz.pinned (OpenSpec.ofChange rhoSplitsSpec)

/-- ITS FALSE NEIGHBOUR: 'it returns false'. Refute it at one input. -/
def rhoSplitsWrong : ChangeSpec := { name := "rhoSplits", fn := fun _ => fun
  | [d1, d2, d3] => { results := [.lit (.bool false)], args := [d1, d2, d3] }
  | _ => none }
def RhoSplitsWrongFalsely : Prop := rhoSplitsRow.holds Tryz.pinned (OpenSpec.ofChange rhoSplitsWrong)

/-- 'caltroplaw10.RhoFactors': WHATEVER THE INPUT: true; the input reads as it did. -/
def rhoFactorsSpec : ChangeSpec := { name := "rhoFactors", fn := fun _ => fun
  | [d1, d2] => { results := [.lit (.bool true)], args := [d1, d2] }
  | _ => none }
def rhoFactorsRow : OpenClaim := { program := "ytakcgamgnmmdlaagreat", sum := "7fc0da179a62ce800f7733500e718ee939ece8727ebae3e76f932cd2873a16b8", func := "caltrop/caltroplaw10.RhoFactors", spec := "rhoFactors", inPlace := ["math/bits.Add64", "math/bits.Sub64"], unfollowed := true, recurses := true, named := ["math/bits.divideError", "math/bits.overflowError"], apart := false }
def RhoFactorsSaid : Prop := rhoFactorsRow.holds Tryz.pinned (OpenSpec.ofChange rhoFactorsSpec)

/-- ITS FALSE NEIGHBOUR: 'it returns false'. Refute it at one input. -/
def rhoFactorsWrong : ChangeSpec := { name := "rhoFactors", fn := fun _ => fun
  | [d1, d2] => { results := [.lit (.bool false)], args := [d1, d2] }
  | _ => none }
def RhoFactorsWrongFalsely : Prop := rhoFactorsRow.holds Tryz.pinned (OpenSpec.ofChange rhoFactorsWrong)

/-- 'caltroplaw10.RhoWhole': WHATEVER THE INPUT: true; the input reads as it did. -/
def rhoWholeSpec : ChangeSpec := { name := "rhoWhole", fn := fun _ => fun
  | [d1, d2, d3] => { results := [.lit (.bool true)], args := [d1, d2, d3] }
  | _ => none }
def rhoWholeRow : OpenClaim := { program := "ytakcgamgnmmdlaagreat", sum := "7fc0da179a62ce800f7733500e718ee939ece8727ebae3e76f932cd2873a16b8", func := "caltrop/caltroplaw10.RhoWhole", spec := "rhoWhole", inPlace := ["math/bits.Add64", "math/bits.Sub64"], unfollowed := true, recurses := true, named := ["math/bits.divideError", "math/bits.overflowError"], apart := false }
def RhoWholeSaid : Prop := rhoWholeRow.holds Tryz.pinned (OpenSpec.ofChange rhoWholeSpec)

/-- ITS FALSE NEIGHBOUR: 'it returns false'. Refute it at one input. -/
def rhoWholeWrong : ChangeSpec := { name := "rhoWhole", fn := fun _ => fun
  | [d1, d2, d3] => { results := [.lit (.bool false)], args := [d1, d2, d3] }
  | _ => none }
def RhoWholeWrongFalsely : Prop := rhoWholeRow.holds Tryz.pinned (OpenSpec.ofChange rhoWholeWrong)

/- THE SECOND FORM. 'bulk': how many values and letters a reading holds, each counted each time it is reached (what is shared counts as often as it is met; a slice's spare places count too). A statement '..UptoSaid' is the law's where the arguments, and the package variables that the reading takes, are together of bulk at most 1048576: NARROWER than '..Said'. Prove '..Said' where nothing that the law and all that it calls make is longer than what came in: it says more and counts as full. Else prove '..UptoSaid'. A law counts once. -/
mutual
def uptoBulk {H : Type} : DataW H → Nat
  | .lit (.string bytes) => bytes.length + 1
  | .lit _ => 1
  | .nil => 1
  | .ptr d => uptoBulk d + 1
  | .slice elems spare => uptoBulkAll elems + uptoBulkAll spare + 1
  | .agg parts => uptoBulkAll parts + 1
  | .iface _ d => uptoBulk d + 1
  | .map entries => uptoBulkEntries entries + 1
  | .held _ => 1
def uptoBulkAll {H : Type} : List (DataW H) → Nat
  | [] => 0
  | d :: r => uptoBulk d + uptoBulkAll r
def uptoBulkEntries {H : Type} : List (Lit × DataW H) → Nat
  | [] => 0
  | x :: r => uptoBulkEntry x + uptoBulkEntries r
def uptoBulkEntry {H : Type} : Lit × DataW H → Nat
  | (.string bytes, d) => bytes.length + uptoBulk d + 1
  | (_, d) => uptoBulk d + 1
 end
def uptoSmall : (H : Type) → List (DataW H) → Bool := fun _ ds => decide (uptoBulkAll ds ≤ 1048576)
def OpenSpec.upto (s : _root_.Go.ChangeSpec) : _root_.Go.OpenSpec := { _root_.Go.OpenSpec.ofChange s with cond := some uptoSmall }

/-- 'caltroplaw10.RhoSplits', WHERE WHAT IT READS IS OF BULK AT MOST 1048576: true; the input reads as it did. -/
def rhoSplitsUptoRow : OpenClaim := { program := "ytakcgamgnmmdlaagreat", sum := "7fc0da179a62ce800f7733500e718ee939ece8727ebae3e76f932cd2873a16b8", func := "caltrop/caltroplaw10.RhoSplits", spec := "rhoSplits", inPlace := ["math/bits.Add64", "math/bits.Sub64"], unfollowed := true, recurses := true, named := ["math/bits.divideError", "math/bits.overflowError"], apart := false, narrowed := true }
def RhoSplitsUptoSaid : Prop := rhoSplitsUptoRow.holds Tryz.pinned (OpenSpec.upto rhoSplitsSpec)

/-- 'caltroplaw10.RhoFactors', WHERE WHAT IT READS IS OF BULK AT MOST 1048576: true; the input reads as it did. -/
def rhoFactorsUptoRow : OpenClaim := { program := "ytakcgamgnmmdlaagreat", sum := "7fc0da179a62ce800f7733500e718ee939ece8727ebae3e76f932cd2873a16b8", func := "caltrop/caltroplaw10.RhoFactors", spec := "rhoFactors", inPlace := ["math/bits.Add64", "math/bits.Sub64"], unfollowed := true, recurses := true, named := ["math/bits.divideError", "math/bits.overflowError"], apart := false, narrowed := true }
def RhoFactorsUptoSaid : Prop := rhoFactorsUptoRow.holds Tryz.pinned (OpenSpec.upto rhoFactorsSpec)

/-- 'caltroplaw10.RhoWhole', WHERE WHAT IT READS IS OF BULK AT MOST 1048576: true; the input reads as it did. -/
def rhoWholeUptoRow : OpenClaim := { program := "ytakcgamgnmmdlaagreat", sum := "7fc0da179a62ce800f7733500e718ee939ece8727ebae3e76f932cd2873a16b8", func := "caltrop/caltroplaw10.RhoWhole", spec := "rhoWhole", inPlace := ["math/bits.Add64", "math/bits.Sub64"], unfollowed := true, recurses := true, named := ["math/bits.divideError", "math/bits.overflowError"], apart := false, narrowed := true }
def RhoWholeUptoSaid : Prop := rhoWholeUptoRow.holds Tryz.pinned (OpenSpec.upto rhoWholeSpec)

end Rows
end Go.Proofs.YtakcgamgnmmdlaaGreat
