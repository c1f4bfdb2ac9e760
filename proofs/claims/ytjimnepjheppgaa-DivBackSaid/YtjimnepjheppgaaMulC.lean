/- mul's contracts, as laws use them. Conditions: as typed (lengths that fit a machine, a capacity that is not below its length). -/
import Derived.Test.YtjimnepjheppgaaMulP5
import Derived.Test.YtjimnepjheppgaaNatB
namespace Go.Proofs.Ytjimnepjheppgaa
open Go.RowKit
set_option maxRecDepth 20000

section
variable (A A2 : Option Addr) (c c2 : Nat) (a b : List Nat) (w : World) (hr : Rd .u64 w w.heap.size A a) (hw : Words a) (hl : a.length ≤ 10000) (hc : a.length ≤ c) (hr2 : Rd .u64 w w.heap.size A2 b) (hw2 : Words b) (hl2 : b.length ≤ 10000) (hc2 : b.length ≤ c2)
include hr hw hl hc
include hr2 hw2 hl2 hc2
theorem mulMul_any : Calls Try.prog 20 #[.slice A a.length c, .slice A2 b.length c2] w (OutNat (natOf a * natOf b) w) := mulMul_pf A A2 c c2 a b w hr hw hl hc hr2 hw2 hl2 hc2
end
end Go.Proofs.Ytjimnepjheppgaa
