/- Several texts in one; each begins with a remark that says what it shows and on which conditions. -/
import Derived.Test.YtgmolbiicclcaaaKaf
/- nat's contracts, as laws use them. Conditions: as typed (lengths that fit a machine, a capacity that is not below its length). -/
namespace Go.Proofs.Ytgmolbiicclcaaa
open Go.RowKit
set_option maxRecDepth 20000
section
variable (A A2 : Option Addr) (c c2 : Nat) (a b : List Nat) (w : World) (hr : Rd .u64 w w.heap.size A a) (hw : Words a) (hl : a.length ≤ 100000) (hc : a.length ≤ c) (hr2 : Rd .u64 w w.heap.size A2 b) (hw2 : Words b) (hl2 : b.length ≤ 100000) (hc2 : b.length ≤ c2)
include hr hw hl hc
theorem natMay_any : Calls Try.prog 19 #[.slice A a.length c] w fun e w' => e = .returned (.bool (decide (a = wd (natOf a)))) ∧ Below w.heap.size w w' := may_pf A c a w hr hw hl hc
theorem natTrim_any : Calls Try.prog 51 #[.slice A a.length c] w (OutNat (natOf a) w) := trim_pf A c a w hr hw hl hc
theorem natSmall_any : Calls Try.prog 52 #[.slice A a.length c] w fun e w' =>
      e = .returned (.tuple #[.int .u64 (smallV (natOf a)), .bool (smallB (natOf a))]) ∧ Below w.heap.size w w' := small_pf A c a w hr hw hl hc
theorem natShl_any (k : Int) : Calls Try.prog 63 #[.slice A a.length c, .int .i64 k] w (OutNat (shlS (natOf a) k) w) := shl_pf A a hw c w hr hl hc k
theorem natShr_any (k : Int) : Calls Try.prog 67 #[.slice A a.length c, .int .i64 k] w (OutNat (shrS (natOf a) k) w) := shr_pf A a hw c w hr hl hc k
theorem natBits_any : Calls Try.prog 21 #[.slice A a.length c] w fun e w' => e = .returned (.int .i64 (nbits (natOf a))) ∧ Below w.heap.size w w' := Calls.mono (bits_q A c a w w.heap.size hr hw (by omega) hc) fun _ _ ⟨he, hq⟩ => ⟨he, hq ▸ Below.refl _ _⟩
include hr2 hw2 hl2 hc2
theorem natCmp_any : Calls Try.prog 20 #[.slice A a.length c, .slice A2 b.length c2] w fun e w' => e = .returned (.int .i64 (cmpS (natOf a) (natOf b))) ∧ Below w.heap.size w w' := cmp_pf A A2 c c2 a b w hr hw hl hc hr2 hw2 hl2 hc2
theorem natAdd_any : Calls Try.prog 26 #[.slice A a.length c, .slice A2 b.length c2] w (OutNat (natOf a + natOf b) w) := add_pf A A2 c c2 a b w hr hw hl hc hr2 hw2 hl2 hc2
theorem natSub_any : Calls Try.prog 25 #[.slice A a.length c, .slice A2 b.length c2] w (OutSub (natOf a) (natOf b) w) := sub_pf A A2 c c2 a b w hr hw hl hc hr2 hw2 hl2 hc2
end
theorem natOf_any (n : Nat) (w : World) (hn : n < 18446744073709551616) : Calls Try.prog 16 #[.int .u64 n] w (OutNat n w) := of_pf n w hn
end Go.Proofs.Ytgmolbiicclcaaa
