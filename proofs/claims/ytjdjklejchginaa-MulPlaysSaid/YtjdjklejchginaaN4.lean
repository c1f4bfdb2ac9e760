/- The contracts of the document's Of, Small, Less, digit, Sum, Rest, Shifted. Conditions: as typed. -/
import Derived.Test.YtjdjklejchginaaN3
import Derived.Test.YtjdjklejchginaaNum2
namespace Go.Proofs.Ytjdjklejchginaa
open Go.RowKit

theorem wordsN_any (A : Option Addr) (c N : Nat) (w : World) (hr : Rd .u8 w w.heap.size A (dg N)) (hl : nbits N ≤ 100000000) (hc : nbits N ≤ c) :
    Calls Try.prog 28 #[.slice A (nbits N) c] w (OutNat N w) := by
  have h := words_any A c (dg N) w hr (dg_01 N) (by rw [length_dg]; exact hl) (by rw [length_dg]; exact hc)
  rwa [length_dg, bv_dg] at h
theorem isN_any (A A2 : Option Addr) (c c2 : Nat) (l : List Nat) (N : Nat) (w : World) (hr : Rd .u64 w w.heap.size A l) (hm : Rd .u8 w w.heap.size A2 (dg N)) (hl : l.length ≤ 1000000) (hml : nbits N ≤ 100000000) (hc2 : nbits N ≤ c2) :
    Calls Try.prog 14 #[.slice A l.length c, .slice A2 (nbits N) c2] w fun e w' => e = .returned (.bool (decide (l = wd N))) ∧ Below w.heap.size w w' := by
  have h := is02_any A A2 c c2 l (dg N) w hr hm (dg_01 N) hl (by rw [length_dg]; exact hml) (by rw [length_dg]; exact hc2)
  rwa [length_dg, bv_dg] at h


end Go.Proofs.Ytjdjklejchginaa
