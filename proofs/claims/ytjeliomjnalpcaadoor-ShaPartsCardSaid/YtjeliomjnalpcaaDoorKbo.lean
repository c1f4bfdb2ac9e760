/- Several texts in one; each begins with a remark that says what it shows and on which conditions. -/
import Derived.Test.YtjeliomjnalpcaaDoorKas
import Derived.Test.YtjeliomjnalpcaaDoorKbk
import Derived.Test.YtjeliomjnalpcaaDoorKbl
import Derived.Test.YtjeliomjnalpcaaDoorKbn
/- The contracts of sha, over its code: each holds wherever the tables are laid. Conditions: as typed. -/
namespace Go.Proofs.YtjeliomjnalpcaaDoor
open Go.RowKit
theorem shaConst_any (w : World) (hL : Laid w) : Calls Tryd.prog 30 #[] w (OutConst w) := const_pf w hL
theorem shaFrac_any (p F : Nat) (hp : p < 18446744073709551616) (third : Bool) (hF : IsFrac p third F) (w : World) : Calls Tryd.prog 8 #[.int .u64 p, .bool third] w fun e w' => e = .returned (.int .u32 (F : Nat)) ∧ Below w.heap.size w w' := frac_pf p F hp third hF w
theorem shaSum_any (A : Option Addr) (c : Nat) (m : List Nat) (w : World) (hr : Rd .u8 w w.heap.size A m) (hm : Bytes m) (hl : m.length ≤ 100000) (hc : m.length ≤ c) (hL : Laid w) : Calls Tryd.prog 17 #[.slice A m.length c] w (OutAgg .u8 (shaS m) w) := shaSum_pf A c m w hr hm hl hc hL
end Go.Proofs.YtjeliomjnalpcaaDoor
