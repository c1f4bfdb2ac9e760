/- The contract of the document's Small. Conditions: as typed. -/
import Derived.Test.YtjdjklejchginaaN6
namespace Go.Proofs.Ytjdjklejchginaa
open Go.RowKit

/-- What Small answers. -/
def smallV (N : Nat) : Int := if N < 18446744073709551616 then (N : Int) else 0
def smallB (N : Nat) : Bool := decide (N < 18446744073709551616)
theorem same_true (A A2 : Option Addr) (n c c2 : Nat) (l : List Nat) (w : World) (hn : l.length = n) (h1 : Rd .u64 w w.heap.size A l) (h2 : Rd .u64 w w.heap.size A2 l) (hl : n ≤ 1099511627776) :
    Calls Try.prog 16 #[.slice A n c, .slice A2 n c2] w fun e w' => e = .returned (.bool true) ∧ Below w.heap.size w w' := by
  subst hn
  exact Calls.mono (same02_any A A2 c c2 l l w w.heap.size h1 h2 hl hl) fun e w' ⟨he, hd⟩ => ⟨by rw [he]; simp, hd.below _⟩
theorem is_true (A A2 : Option Addr) (n c c2 N : Nat) (w : World) (hn : (wd N).length = n) (h1 : Rd .u64 w w.heap.size A (wd N)) (h2 : Rd .u8 w w.heap.size A2 (dg N)) (hl : nbits N ≤ 10000000) (hc2 : nbits N ≤ c2) :
    Calls Try.prog 14 #[.slice A n c, .slice A2 (nbits N) c2] w fun e w' => e = .returned (.bool true) ∧ Below w.heap.size w w' := by
  subst hn
  exact Calls.mono (isN_any A A2 c c2 (wd N) N w h1 h2 (by rw [length_wd]; omega) (by omega) hc2) fun e w' ⟨he, hb⟩ => ⟨by rw [he]; simp, hb⟩

end Go.Proofs.Ytjdjklejchginaa
