/-
  No cell of these rows narrows 'for every input' (looked for: loops, veiled, ifaces, maps, wideKeys, modest, calm, conditions, laid).
  DERIVED. THE GIVEN ROWS OF THIS SEAT. 5 by the template 'for every input the law returns true; each argument reads behind the call as it read before'; 0 by the template 'total and deterministic' (their statements: YtjghhdoklfpdfaaTotals.lean).
  GIVEN WITH THE SEED: the statements are not yours to turn. If you find one false, say at which input.
  Laid BY PROGRAM, IN A SANDBOX (cutbox-rows.mjs): the forced cells as the released guide's own fill.sh prints them over the translation e33b078c7d1dd85a… (all of the seat's roots in one cut). By AI agents, Wed Nov 11 2026. No macro, syntax, notation, axiom, sorry.
-/
import Derived.Test.YtjghhdoklfpdfaaChecked
import GoSem.Claim
import GoSem.ClaimJoined
import GoSem.ClaimMapViews
import Derived.JoinedTies
import Derived.KernelRfl
namespace Go.Proofs.Ytjghhdoklfpdfaa
/- THE CELL 'sum', in the pinned program and in every row, IS THE sha256 OF THE DUMP (.gsa) THAT YtjghhdoklfpdfaaProg.lean LOADS. Nothing in Lean hashes anything: it is a label: what it is worth is what the hold of that sum in a sandbox is worth. -/
noncomputable def Try.pinned : Pinned := { name := "ytjghhdoklfpdfaa", sum := "e33b078c7d1dd85acef2d010966542248261874fda7ab38e7a6c065eb5e17a85", checked := Try.checked }
namespace Rows
def none {H : Type} : Left H := { results := [], args := [] }

/-- 'caltroplaw09.PrimePlays': WHATEVER THE INPUT: true; the input reads as it did. -/
def primePlaysSpec : ChangeSpec := { name := "primePlays", fn := fun _ => fun
  | [d1, d2, d3, d4] => { results := [.lit (.bool true)], args := [d1, d2, d3, d4] }
  | _ => none }
def primePlaysRow : OpenClaim := { program := "ytjghhdoklfpdfaa", sum := "e33b078c7d1dd85acef2d010966542248261874fda7ab38e7a6c065eb5e17a85", func := "caltrop/caltroplaw09.PrimePlays", spec := "primePlays", inPlace := ["math/bits.Add64", "math/bits.Sub64"], unfollowed := true, recurses := true, named := ["math/bits.divideError", "math/bits.overflowError"], apart := false }
def PrimePlaysSaid : Prop := primePlaysRow.holds Try.pinned (OpenSpec.ofChange primePlaysSpec)

/-- ITS FALSE NEIGHBOUR: 'it returns false'. Refute it at one input. -/
def primePlaysWrong : ChangeSpec := { name := "primePlays", fn := fun _ => fun
  | [d1, d2, d3, d4] => { results := [.lit (.bool false)], args := [d1, d2, d3, d4] }
  | _ => none }
def PrimePlaysWrongFalsely : Prop := primePlaysRow.holds Try.pinned (OpenSpec.ofChange primePlaysWrong)

/-- 'caltroplaw09.PrimePasses': WHATEVER THE INPUT: true; the input reads as it did. -/
def primePassesSpec : ChangeSpec := { name := "primePasses", fn := fun _ => fun
  | [d1, d2, d3, d4] => { results := [.lit (.bool true)], args := [d1, d2, d3, d4] }
  | _ => none }
def primePassesRow : OpenClaim := { program := "ytjghhdoklfpdfaa", sum := "e33b078c7d1dd85acef2d010966542248261874fda7ab38e7a6c065eb5e17a85", func := "caltrop/caltroplaw09.PrimePasses", spec := "primePasses", inPlace := ["math/bits.Add64", "math/bits.Sub64"], unfollowed := true, recurses := true, named := ["math/bits.divideError", "math/bits.overflowError"], apart := false }
def PrimePassesSaid : Prop := primePassesRow.holds Try.pinned (OpenSpec.ofChange primePassesSpec)

/-- ITS FALSE NEIGHBOUR: 'it returns false'. Refute it at one input. -/
def primePassesWrong : ChangeSpec := { name := "primePasses", fn := fun _ => fun
  | [d1, d2, d3, d4] => { results := [.lit (.bool false)], args := [d1, d2, d3, d4] }
  | _ => none }
def PrimePassesWrongFalsely : Prop := primePassesRow.holds Try.pinned (OpenSpec.ofChange primePassesWrong)

/-- 'caltroplaw09.PrimeFour': WHATEVER THE INPUT: true; the input reads as it did. -/
def primeFourSpec : ChangeSpec := { name := "primeFour", fn := fun _ => fun
  | [d] => { results := [.lit (.bool true)], args := [d] }
  | _ => none }
def primeFourRow : OpenClaim := { program := "ytjghhdoklfpdfaa", sum := "e33b078c7d1dd85acef2d010966542248261874fda7ab38e7a6c065eb5e17a85", func := "caltrop/caltroplaw09.PrimeFour", spec := "primeFour", inPlace := ["math/bits.Add64", "math/bits.Sub64"], unfollowed := true, recurses := true, named := ["math/bits.divideError", "math/bits.overflowError"], apart := false }
def PrimeFourSaid : Prop := primeFourRow.holds Try.pinned (OpenSpec.ofChange primeFourSpec)

/-- ITS FALSE NEIGHBOUR: 'it returns false'. Refute it at one input. -/
def primeFourWrong : ChangeSpec := { name := "primeFour", fn := fun _ => fun
  | [d] => { results := [.lit (.bool false)], args := [d] }
  | _ => none }
def PrimeFourWrongFalsely : Prop := primeFourRow.holds Try.pinned (OpenSpec.ofChange primeFourWrong)

/-- 'caltroplaw09.PrimeLoose': WHATEVER THE INPUT: true; the input reads as it did. -/
def primeLooseSpec : ChangeSpec := { name := "primeLoose", fn := fun _ => fun
  | [d1, d2, d3] => { results := [.lit (.bool true)], args := [d1, d2, d3] }
  | _ => none }
def primeLooseRow : OpenClaim := { program := "ytjghhdoklfpdfaa", sum := "e33b078c7d1dd85acef2d010966542248261874fda7ab38e7a6c065eb5e17a85", func := "caltrop/caltroplaw09.PrimeLoose", spec := "primeLoose", inPlace := ["math/bits.Add64", "math/bits.Sub64"], unfollowed := true, recurses := true, named := ["math/bits.divideError", "math/bits.overflowError"], apart := false }
def PrimeLooseSaid : Prop := primeLooseRow.holds Try.pinned (OpenSpec.ofChange primeLooseSpec)

/-- ITS FALSE NEIGHBOUR: 'it returns false'. Refute it at one input. -/
def primeLooseWrong : ChangeSpec := { name := "primeLoose", fn := fun _ => fun
  | [d1, d2, d3] => { results := [.lit (.bool false)], args := [d1, d2, d3] }
  | _ => none }
def PrimeLooseWrongFalsely : Prop := primeLooseRow.holds Try.pinned (OpenSpec.ofChange primeLooseWrong)

/-- 'caltroplaw09.PrimeWindow': WHATEVER THE INPUT: true; the input reads as it did. -/
def primeWindowSpec : ChangeSpec := { name := "primeWindow", fn := fun _ => fun
  | [d] => { results := [.lit (.bool true)], args := [d] }
  | _ => none }
def primeWindowRow : OpenClaim := { program := "ytjghhdoklfpdfaa", sum := "e33b078c7d1dd85acef2d010966542248261874fda7ab38e7a6c065eb5e17a85", func := "caltrop/caltroplaw09.PrimeWindow", spec := "primeWindow", inPlace := ["math/bits.Add64", "math/bits.Sub64"], unfollowed := true, recurses := true, named := ["math/bits.divideError", "math/bits.overflowError"], apart := false }
def PrimeWindowSaid : Prop := primeWindowRow.holds Try.pinned (OpenSpec.ofChange primeWindowSpec)

/-- ITS FALSE NEIGHBOUR: 'it returns false'. Refute it at one input. -/
def primeWindowWrong : ChangeSpec := { name := "primeWindow", fn := fun _ => fun
  | [d] => { results := [.lit (.bool false)], args := [d] }
  | _ => none }
def PrimeWindowWrongFalsely : Prop := primeWindowRow.holds Try.pinned (OpenSpec.ofChange primeWindowWrong)

/- THE SECOND FORM. 'bulk': how many values and letters a reading holds, each counted each time it is reached (what is shared counts as often as it is met; a slice's spare places count too). A statement '..UptoSaid' is the law's where the arguments, and the package variables that the reading takes, are together of bulk at most 1048576: NARROWER than '..Said'. Prove '..Said' where nothing that the law and all that it calls make is longer than what came in: it says more and counts as full. Else prove '..UptoSaid'. A law counts once. -/
mutual
def uptoBulk {H : Type} : DataW H → Nat
  | .lit (.string bytes) => bytes.length + 1
  | .lit _ => 1
  | .nil => 1
  | .ptr d => uptoBulk d + 1
  | .slice elems spare => uptoBulkAll elems + uptoBulkAll spare + 1
  | .agg parts => uptoBulkAll parts + 1
  | .iface _ d => uptoBulk d + 1
  | .map entries => uptoBulkEntries entries + 1
  | .held _ => 1
def uptoBulkAll {H : Type} : List (DataW H) → Nat
  | [] => 0
  | d :: r => uptoBulk d + uptoBulkAll r
def uptoBulkEntries {H : Type} : List (Lit × DataW H) → Nat
  | [] => 0
  | x :: r => uptoBulkEntry x + uptoBulkEntries r
def uptoBulkEntry {H : Type} : Lit × DataW H → Nat
  | (.string bytes, d) => bytes.length + uptoBulk d + 1
  | (_, d) => uptoBulk d + 1
 end
def uptoSmall : (H : Type) → List (DataW H) → Bool := fun _ ds => decide (uptoBulkAll ds ≤ 1048576)
def OpenSpec.upto (s : _root_.Go.ChangeSpec) : _root_.Go.OpenSpec := { _root_.Go.OpenSpec.ofChange s with cond := some uptoSmall }

/-- 'caltroplaw09.PrimePlays', WHERE WHAT IT READS IS OF BULK AT MOST 1048576: true; the input reads as it did. -/
def primePlaysUptoRow : OpenClaim := { program := "ytjghhdoklfpdfaa", sum := "e33b078c7d1dd85acef2d010966542248261874fda7ab38e7a6c065eb5e17a85", func := "caltrop/caltroplaw09.PrimePlays", spec := "primePlays", inPlace := ["math/bits.Add64", "math/bits.Sub64"], unfollowed := true, recurses := true, named := ["math/bits.divideError", "math/bits.overflowError"], apart := false, narrowed := true }
def PrimePlaysUptoSaid : Prop := primePlaysUptoRow.holds Try.pinned (OpenSpec.upto primePlaysSpec)

/-- 'caltroplaw09.PrimePasses', WHERE WHAT IT READS IS OF BULK AT MOST 1048576: true; the input reads as it did. -/
def primePassesUptoRow : OpenClaim := { program := "ytjghhdoklfpdfaa", sum := "e33b078c7d1dd85acef2d010966542248261874fda7ab38e7a6c065eb5e17a85", func := "caltrop/caltroplaw09.PrimePasses", spec := "primePasses", inPlace := ["math/bits.Add64", "math/bits.Sub64"], unfollowed := true, recurses := true, named := ["math/bits.divideError", "math/bits.overflowError"], apart := false, narrowed := true }
def PrimePassesUptoSaid : Prop := primePassesUptoRow.holds Try.pinned (OpenSpec.upto primePassesSpec)

/-- 'caltroplaw09.PrimeFour', WHERE WHAT IT READS IS OF BULK AT MOST 1048576: true; the input reads as it did. -/
def primeFourUptoRow : OpenClaim := { program := "ytjghhdoklfpdfaa", sum := "e33b078c7d1dd85acef2d010966542248261874fda7ab38e7a6c065eb5e17a85", func := "caltrop/caltroplaw09.PrimeFour", spec := "primeFour", inPlace := ["math/bits.Add64", "math/bits.Sub64"], unfollowed := true, recurses := true, named := ["math/bits.divideError", "math/bits.overflowError"], apart := false, narrowed := true }
def PrimeFourUptoSaid : Prop := primeFourUptoRow.holds Try.pinned (OpenSpec.upto primeFourSpec)

/-- 'caltroplaw09.PrimeLoose', WHERE WHAT IT READS IS OF BULK AT MOST 1048576: true; the input reads as it did. -/
def primeLooseUptoRow : OpenClaim := { program := "ytjghhdoklfpdfaa", sum := "e33b078c7d1dd85acef2d010966542248261874fda7ab38e7a6c065eb5e17a85", func := "caltrop/caltroplaw09.PrimeLoose", spec := "primeLoose", inPlace := ["math/bits.Add64", "math/bits.Sub64"], unfollowed := true, recurses := true, named := ["math/bits.divideError", "math/bits.overflowError"], apart := false, narrowed := true }
def PrimeLooseUptoSaid : Prop := primeLooseUptoRow.holds Try.pinned (OpenSpec.upto primeLooseSpec)

/-- 'caltroplaw09.PrimeWindow', WHERE WHAT IT READS IS OF BULK AT MOST 1048576: true; the input reads as it did. -/
def primeWindowUptoRow : OpenClaim := { program := "ytjghhdoklfpdfaa", sum := "e33b078c7d1dd85acef2d010966542248261874fda7ab38e7a6c065eb5e17a85", func := "caltrop/caltroplaw09.PrimeWindow", spec := "primeWindow", inPlace := ["math/bits.Add64", "math/bits.Sub64"], unfollowed := true, recurses := true, named := ["math/bits.divideError", "math/bits.overflowError"], apart := false, narrowed := true }
def PrimeWindowUptoSaid : Prop := primeWindowUptoRow.holds Try.pinned (OpenSpec.upto primeWindowSpec)

end Rows
end Go.Proofs.Ytjghhdoklfpdfaa
