/- div's contracts, as laws use them. Conditions: as typed (lengths that fit a machine, a capacity that is not below its length). -/
import Derived.Test.YtjimnepjheppgaaDivP6
namespace Go.Proofs.Ytjimnepjheppgaa
open Go.RowKit
set_option maxRecDepth 20000

section
variable (A A2 : Option Addr) (c c2 : Nat) (a b : List Nat) (w : World) (hr : Rd .u64 w w.heap.size A a) (hw : Words a) (hl : a.length ≤ 10000) (hc : a.length ≤ c) (hr2 : Rd .u64 w w.heap.size A2 b) (hw2 : Words b) (hl2 : b.length ≤ 10000) (hc2 : b.length ≤ c2)
include hr hw hl hc
theorem divWord_zero : Calls Try.prog 14 #[.slice A a.length c, .int .u64 0] w (OutWordE w) := (fun _ _ _ _ => divWord_zero_pf A a.length c w) hr hw hl hc
theorem divWord_ok (x : Nat) (hx : 0 < x) (hx2 : x < 18446744073709551616) : Calls Try.prog 14 #[.slice A a.length c, .int .u64 x] w (OutWord (natOf a) x w) := divWord_ok_pf A a.length c x a w rfl hr hw hl hc hx hx2
include hr2 hw2 hl2 hc2
theorem divDiv_zero (h0 : natOf b = 0) : Calls Try.prog 10 #[.slice A a.length c, .slice A2 b.length c2] w (OutErr3 5 w) := div_zero_pf A A2 c c2 a b w hr hw hl hc hr2 hw2 hl2 hc2 h0
theorem divDiv_ok (h0 : natOf b ≠ 0) : Calls Try.prog 10 #[.slice A a.length c, .slice A2 b.length c2] w (OutDiv (natOf a) (natOf b) w) := div_ok_pf A A2 c c2 a b w hr hw hl hc hr2 hw2 hl2 hc2 h0
theorem divMod_zero (h0 : natOf b = 0) : Calls Try.prog 12 #[.slice A a.length c, .slice A2 b.length c2] w (OutErr 5 w) := mod_zero_pf A A2 c c2 a b w hr hw hl hc hr2 hw2 hl2 hc2 h0
theorem divMod_ok (h0 : natOf b ≠ 0) : Calls Try.prog 12 #[.slice A a.length c, .slice A2 b.length c2] w (OutMod (natOf a) (natOf b) w) := mod_ok_pf A A2 c c2 a b w hr hw hl hc hr2 hw2 hl2 hc2 h0
end
end Go.Proofs.Ytjimnepjheppgaa
