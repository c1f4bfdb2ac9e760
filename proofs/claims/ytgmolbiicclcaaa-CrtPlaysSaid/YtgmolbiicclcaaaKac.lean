/- Several texts in one; each begins with a remark that says what it shows and on which conditions. -/
import Derived.Test.YtgmolbiicclcaaaKab
/- The contracts of the document's Sum and Rest. Conditions: as typed. -/
namespace Go.Proofs.Ytgmolbiicclcaaa
open Go.RowKit
set_option maxRecDepth 20000
end Go.Proofs.Ytgmolbiicclcaaa
/- The contracts of the document's Shifted, FromBytes, Bytes, Small. Conditions: as typed. -/
namespace Go.Proofs.Ytgmolbiicclcaaa
open Go.RowKit
set_option maxRecDepth 20000
end Go.Proofs.Ytgmolbiicclcaaa
/- The contract of the document's Small. Conditions: as typed. -/
namespace Go.Proofs.Ytgmolbiicclcaaa
open Go.RowKit
set_option maxRecDepth 20000
/-- What Small answers. -/
def smallV (N : Nat) : Int := if N < 18446744073709551616 then (N : Int) else 0
def smallB (N : Nat) : Bool := decide (N < 18446744073709551616)
end Go.Proofs.Ytgmolbiicclcaaa
