/-
  No cell of these rows narrows 'for every input' (looked for: loops, veiled, ifaces, maps, wideKeys, modest, calm, conditions, laid).
  DERIVED. THE GIVEN ROWS OF THIS SEAT. 3 by the template 'for every input the law returns true; each argument reads behind the call as it read before'; 0 by the template 'total and deterministic' (their statements: YtgmolbiicclcaaaTotals.lean).
  GIVEN WITH THE SEED: the statements are not yours to turn. If you find one false, say at which input.
  Laid BY PROGRAM, IN A SANDBOX (cutbox-rows.mjs): the forced cells as the released guide's own fill.sh prints them over the translation 4783bae2106e7e76… (all of the seat's roots in one cut). By AI agents, Wed Nov 11 2026. No macro, syntax, notation, axiom, sorry.
-/
import Derived.Test.YtgmolbiicclcaaaChecked
import GoSem.Claim
import GoSem.ClaimJoined
import GoSem.ClaimMapViews
import Derived.JoinedTies
import Derived.KernelRfl
namespace Go.Proofs.Ytgmolbiicclcaaa
/- THE CELL 'sum', in the pinned program and in every row, IS THE sha256 OF THE DUMP (.gsa) THAT YtgmolbiicclcaaaProg.lean LOADS. Nothing in Lean hashes anything: it is a label: what it is worth is what the hold of that sum in a sandbox is worth. -/
noncomputable def Try.pinned : Pinned := { name := "ytgmolbiicclcaaa", sum := "4783bae2106e7e7686df13416b6798a04e8ba9342932df0937720b60b8c5adb9", checked := Try.checked }
namespace Rows
def none {H : Type} : Left H := { results := [], args := [] }

/-- 'caltroplaw21.CrtPlays': WHATEVER THE INPUT: true; the input reads as it did. -/
def crtPlaysSpec : ChangeSpec := { name := "crtPlays", fn := fun _ => fun
  | [d] => { results := [.lit (.bool true)], args := [d] }
  | _ => none }
def crtPlaysRow : OpenClaim := { program := "ytgmolbiicclcaaa", sum := "4783bae2106e7e7686df13416b6798a04e8ba9342932df0937720b60b8c5adb9", func := "caltrop/caltroplaw21.CrtPlays", spec := "crtPlays", inPlace := ["math/bits.Add64", "math/bits.Sub64"], unfollowed := true, recurses := true, named := ["math/bits.divideError", "math/bits.overflowError"], apart := false }
def CrtPlaysSaid : Prop := crtPlaysRow.holds Try.pinned (OpenSpec.ofChange crtPlaysSpec)

/-- ITS FALSE NEIGHBOUR: 'it returns false'. Refute it at one input. -/
def crtPlaysWrong : ChangeSpec := { name := "crtPlays", fn := fun _ => fun
  | [d] => { results := [.lit (.bool false)], args := [d] }
  | _ => none }
def CrtPlaysWrongFalsely : Prop := crtPlaysRow.holds Try.pinned (OpenSpec.ofChange crtPlaysWrong)

/-- 'caltroplaw21.CrtOrder': WHATEVER THE INPUT: true; the input reads as it did. -/
def crtOrderSpec : ChangeSpec := { name := "crtOrder", fn := fun _ => fun
  | [d1, d2] => { results := [.lit (.bool true)], args := [d1, d2] }
  | _ => none }
def crtOrderRow : OpenClaim := { program := "ytgmolbiicclcaaa", sum := "4783bae2106e7e7686df13416b6798a04e8ba9342932df0937720b60b8c5adb9", func := "caltrop/caltroplaw21.CrtOrder", spec := "crtOrder", inPlace := ["math/bits.Add64", "math/bits.Sub64"], unfollowed := true, recurses := true, named := ["math/bits.divideError", "math/bits.overflowError"], apart := false }
def CrtOrderSaid : Prop := crtOrderRow.holds Try.pinned (OpenSpec.ofChange crtOrderSpec)

/-- ITS FALSE NEIGHBOUR: 'it returns false'. Refute it at one input. -/
def crtOrderWrong : ChangeSpec := { name := "crtOrder", fn := fun _ => fun
  | [d1, d2] => { results := [.lit (.bool false)], args := [d1, d2] }
  | _ => none }
def CrtOrderWrongFalsely : Prop := crtOrderRow.holds Try.pinned (OpenSpec.ofChange crtOrderWrong)

/-- 'caltroplaw21.CrtBack': WHATEVER THE INPUT: true; the input reads as it did. -/
def crtBackSpec : ChangeSpec := { name := "crtBack", fn := fun _ => fun
  | [d1, d2] => { results := [.lit (.bool true)], args := [d1, d2] }
  | _ => none }
def crtBackRow : OpenClaim := { program := "ytgmolbiicclcaaa", sum := "4783bae2106e7e7686df13416b6798a04e8ba9342932df0937720b60b8c5adb9", func := "caltrop/caltroplaw21.CrtBack", spec := "crtBack", inPlace := ["math/bits.Add64", "math/bits.Sub64"], unfollowed := true, recurses := true, named := ["math/bits.divideError", "math/bits.overflowError"], apart := false }
def CrtBackSaid : Prop := crtBackRow.holds Try.pinned (OpenSpec.ofChange crtBackSpec)

/-- ITS FALSE NEIGHBOUR: 'it returns false'. Refute it at one input. -/
def crtBackWrong : ChangeSpec := { name := "crtBack", fn := fun _ => fun
  | [d1, d2] => { results := [.lit (.bool false)], args := [d1, d2] }
  | _ => none }
def CrtBackWrongFalsely : Prop := crtBackRow.holds Try.pinned (OpenSpec.ofChange crtBackWrong)

/- THE SECOND FORM. 'bulk': how many values and letters a reading holds, each counted each time it is reached (what is shared counts as often as it is met; a slice's spare places count too). A statement '..UptoSaid' is the law's where the arguments, and the package variables that the reading takes, are together of bulk at most 1048576: NARROWER than '..Said'. Prove '..Said' where nothing that the law and all that it calls make is longer than what came in: it says more and counts as full. Else prove '..UptoSaid'. A law counts once. -/
mutual
def uptoBulk {H : Type} : DataW H → Nat
  | .lit (.string bytes) => bytes.length + 1
  | .lit _ => 1
  | .nil => 1
  | .ptr d => uptoBulk d + 1
  | .slice elems spare => uptoBulkAll elems + uptoBulkAll spare + 1
  | .agg parts => uptoBulkAll parts + 1
  | .iface _ d => uptoBulk d + 1
  | .map entries => uptoBulkEntries entries + 1
  | .held _ => 1
def uptoBulkAll {H : Type} : List (DataW H) → Nat
  | [] => 0
  | d :: r => uptoBulk d + uptoBulkAll r
def uptoBulkEntries {H : Type} : List (Lit × DataW H) → Nat
  | [] => 0
  | x :: r => uptoBulkEntry x + uptoBulkEntries r
def uptoBulkEntry {H : Type} : Lit × DataW H → Nat
  | (.string bytes, d) => bytes.length + uptoBulk d + 1
  | (_, d) => uptoBulk d + 1
 end
def uptoSmall : (H : Type) → List (DataW H) → Bool := fun _ ds => decide (uptoBulkAll ds ≤ 1048576)
def OpenSpec.upto (s : _root_.Go.ChangeSpec) : _root_.Go.OpenSpec := { _root_.Go.OpenSpec.ofChange s with cond := some uptoSmall }

/-- 'caltroplaw21.CrtPlays', WHERE WHAT IT READS IS OF BULK AT MOST 1048576: true; the input reads as it did. -/
def crtPlaysUptoRow : OpenClaim := { program := "ytgmolbiicclcaaa", sum := "4783bae2106e7e7686df13416b6798a04e8ba9342932df0937720b60b8c5adb9", func := "caltrop/caltroplaw21.CrtPlays", spec := "crtPlays", inPlace := ["math/bits.Add64", "math/bits.Sub64"], unfollowed := true, recurses := true, named := ["math/bits.divideError", "math/bits.overflowError"], apart := false, narrowed := true }
def CrtPlaysUptoSaid : Prop := crtPlaysUptoRow.holds Try.pinned (OpenSpec.upto crtPlaysSpec)

/-- 'caltroplaw21.CrtOrder', WHERE WHAT IT READS IS OF BULK AT MOST 1048576: true; the input reads as it did. -/
def crtOrderUptoRow : OpenClaim := { program := "ytgmolbiicclcaaa", sum := "4783bae2106e7e7686df13416b6798a04e8ba9342932df0937720b60b8c5adb9", func := "caltrop/caltroplaw21.CrtOrder", spec := "crtOrder", inPlace := ["math/bits.Add64", "math/bits.Sub64"], unfollowed := true, recurses := true, named := ["math/bits.divideError", "math/bits.overflowError"], apart := false, narrowed := true }
def CrtOrderUptoSaid : Prop := crtOrderUptoRow.holds Try.pinned (OpenSpec.upto crtOrderSpec)

/-- 'caltroplaw21.CrtBack', WHERE WHAT IT READS IS OF BULK AT MOST 1048576: true; the input reads as it did. -/
def crtBackUptoRow : OpenClaim := { program := "ytgmolbiicclcaaa", sum := "4783bae2106e7e7686df13416b6798a04e8ba9342932df0937720b60b8c5adb9", func := "caltrop/caltroplaw21.CrtBack", spec := "crtBack", inPlace := ["math/bits.Add64", "math/bits.Sub64"], unfollowed := true, recurses := true, named := ["math/bits.divideError", "math/bits.overflowError"], apart := false, narrowed := true }
def CrtBackUptoSaid : Prop := crtBackUptoRow.holds Try.pinned (OpenSpec.upto crtBackSpec)

end Rows
end Go.Proofs.Ytgmolbiicclcaaa
