/- Several texts in one; each begins with a remark that says what it shows and on which conditions. -/
import Derived.Test.YtgmolbiicclcaaaKac
/- The contract of the document's Quot: how often a number goes into another one, and what is left, to the base 2. Conditions: as typed (lengths that fit a machine). -/
namespace Go.Proofs.Ytgmolbiicclcaaa
open Go.RowKit
set_option maxRecDepth 20000
/-- The quotient's digits from place k on, noughts below. -/
def qs (Q n k : Nat) : List Nat := (List.range n).map fun j => if k ≤ j then bit Q j else 0
end Go.Proofs.Ytgmolbiicclcaaa
