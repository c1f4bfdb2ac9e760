/- mul's contracts, as laws use them. Conditions: as typed (lengths that fit a machine, a capacity that is not below its length). -/
import Derived.Test.YtjdjklejchginaaMulP5
import Derived.Test.YtjdjklejchginaaNatB
namespace Go.Proofs.Ytjdjklejchginaa
open Go.RowKit

section
variable (A A2 : Option Addr) (c c2 : Nat) (a b : List Nat) (w : World) (hr : Rd .u64 w w.heap.size A a) (hw : Words a) (hl : a.length ≤ 10000) (hc : a.length ≤ c) (hr2 : Rd .u64 w w.heap.size A2 b) (hw2 : Words b) (hl2 : b.length ≤ 10000) (hc2 : b.length ≤ c2)
include hr hw hl hc
theorem mulSquare_any : Calls Try.prog 13 #[.slice A a.length c] w (OutNat (natOf a * natOf a) w) := mulSquare_pf A c a w hr hw hl hc
theorem mulPower_neg (k : Int) (hk : k < 0) : Calls Try.prog 22 #[.slice A a.length c, .int .i64 k] w (OutErr 1 w) := (fun _ _ _ _ => mulPower_neg_pf A c a w k hk) hr hw hl hc
theorem mulPower_many (k : Nat) (hk : 65536 < k * nbits (natOf a)) (hi : MaxI k) : Calls Try.prog 22 #[.slice A a.length c, .int .i64 k] w (OutErr 4 w) := mulPower_many_pf A c a w hr hw hl hc k hk hi
theorem mulPower_ok (k : Nat) (hk : k * nbits (natOf a) ≤ 65536) (hi : MaxI k) : Calls Try.prog 22 #[.slice A a.length c, .int .i64 k] w (OutPow (natOf a ^ k) w) := mulPower_ok_pf A c a w hr hw hl hc k hk hi
include hr2 hw2 hl2 hc2
theorem mulMul_any : Calls Try.prog 12 #[.slice A a.length c, .slice A2 b.length c2] w (OutNat (natOf a * natOf b) w) := mulMul_pf A A2 c c2 a b w hr hw hl hc hr2 hw2 hl2 hc2
end
end Go.Proofs.Ytjdjklejchginaa
