/- The contract of the document's Power of chapter 3. Conditions: as typed (lengths that fit a machine). -/
import Derived.Test.YtjimnepjheppgaaTim
import Derived.Test.YtjimnepjheppgaaN7
namespace Go.Proofs.Ytjimnepjheppgaa
open Go.RowKit
set_option maxRecDepth 20000

/-- A number and an error's number are answered. -/
def OutPow (N : Nat) (w : World) (e : Ending) (w' : World) : Prop := ∃ v, e = .returned (.tuple #[v, .int .i64 0]) ∧ w'.ownsRow w.heap.size 24 1 v ((nbits N + 63) / 64) (ints .u64 (wd N)) ∧ Below w.heap.size w w'
/-- Nothing, and an error's number. -/
def OutErr (x : Int) (w : World) (e : Ending) (w' : World) : Prop := ∃ X d, e = .returned (.tuple #[.slice X 0 d, .int .i64 x]) ∧ Below w.heap.size w w'

theorem nbits_pow (N i : Nat) : nbits (N ^ i) ≤ nbits N * i + 1 := by
  refine nbits_of_lt _ _ ?_
  have h := nbits_lt N
  have h1 : N ^ i ≤ (2 ^ nbits N) ^ i := Nat.pow_le_pow_left (Nat.le_of_lt h) i
  rw [← Nat.pow_mul] at h1
  rw [Nat.pow_succ]
  have : 0 < 2 ^ (nbits N * i) := Nat.pow_pos (by omega)
  omega
theorem nbits_one : nbits 1 = 1 := nbits_eq 1 1 (by omega) (by intro _; simp)
theorem dg_one : dg 1 = [1] := by simp [dg, nbits_one, bw]
theorem nbits_iff (N : Nat) : 0 < nbits N ↔ N ≠ 0 := by
  constructor
  · intro h h0; rw [h0, nbits_zero] at h; omega
  · intro h
    rcases Nat.eq_zero_or_pos (nbits N) with h1 | h1
    · have := nbits_lt N; rw [h1] at this; simp at this; omega
    · exact h1

section
variable (A : Option Addr) (c : Nat) (a : List Nat) (w : World) (hr : Rd .u64 w w.heap.size A a) (hw : Words a) (hl : a.length ≤ 10000)
include hr hw hl
end
end Go.Proofs.Ytjimnepjheppgaa
