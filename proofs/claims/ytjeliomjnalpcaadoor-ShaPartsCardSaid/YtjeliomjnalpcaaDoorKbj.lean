/- Several texts in one; each begins with a remark that says what it shows and on which conditions. -/
import Derived.Test.YtjeliomjnalpcaaDoorKbi
import Derived.Test.YtjeliomjnalpcaaDoorKav
/- root's contracts, as laws use them. Conditions: as typed (lengths that fit a machine, a capacity that is not below its length). -/
namespace Go.Proofs.YtjeliomjnalpcaaDoor
open Go.RowKit
section
variable {w : World} {A : Option Addr} {n c M R : Nat}
theorem bSqrt (h : NatIn w A n c M) (hR : IsRoot 2 M R) (hs : n ≤ 4000) : Calls Tryd.prog 23 #[.slice A n c] w (OutI R w) := sqrt_pf h hR hs
theorem bCbrt (h : NatIn w A n c M) (hR : IsRoot 3 M R) (hs : n ≤ 4000) : Calls Tryd.prog 24 #[.slice A n c] w (OutI R w) := cbrt_pf h hR hs
end
end Go.Proofs.YtjeliomjnalpcaaDoor
