/- The contracts of the document's Shifted, FromBytes, Bytes, Small. Conditions: as typed. -/
import Derived.Test.YtjimnepjheppgaaN5
namespace Go.Proofs.Ytjimnepjheppgaa
open Go.RowKit
set_option maxRecDepth 20000

/-- The digits of a byte ahead of others. -/
theorem val_drop (l : List Nat) (m : Nat) (h : m < l.length) : val (l.drop m) = nth l m * 256 ^ (l.length - 1 - m) + val (l.drop (m + 1)) := by
  rw [← List.getElem_cons_drop h, val, ← nth_eq l m h, List.length_drop, show l.length - (m + 1) = l.length - 1 - m by omega]
theorem bw_low (k n m : Nat) (h : n % 2 ^ k = m % 2 ^ k) : bw k n = bw k m := by
  have e1 := bw_bv (bw k n) (bw_01 k n)
  have e2 := bw_bv (bw k m) (bw_01 k m)
  rw [length_bw, bv_bw] at e1 e2
  rw [← e1, ← e2, h]
theorem val_low (l : List Nat) (m : Nat) (h : m < l.length) : bw (8 * (l.length - 1 - m)) (val (l.drop m)) = bw (8 * (l.length - 1 - m)) (val (l.drop (m + 1))) := by
  refine bw_low _ _ _ ?_
  rw [val_drop l m h, ← pow_256, Nat.add_comm, Nat.add_mul_mod_self_right]
theorem val_bit (l : List Nat) (hby : Bytes l) (m j : Nat) (h : m < l.length) : val (l.drop m) / 2 ^ (8 * (l.length - 1 - m) + j) % 2 = nth l m / 2 ^ j % 2 := by
  have hlt := val_lt (l.drop (m + 1)) (hby.drop _)
  rw [List.length_drop, show l.length - (m + 1) = l.length - 1 - m by omega] at hlt
  rw [val_drop l m h, Nat.pow_add, ← Nat.div_div_eq_div_mul, ← pow_256, Nat.add_comm, Nat.add_mul_div_right _ _ (Nat.pow_pos (by omega)), Nat.div_eq_of_lt hlt, Nat.zero_add]
theorem bit_int8 (x k : Nat) (hx : x < 256) : bits .and .u8 ((x : Int) / 2 ^ k) 1 = ((x / 2 ^ k % 2 : Nat) : Int) := by
  have e : ((x : Int) / 2 ^ k) = ((x / 2 ^ k : Nat) : Int) := by simp
  have h := u8_and_nat (x / 2 ^ k) 1 (Nat.lt_of_le_of_lt (Nat.div_le_self _ _) hx) (by omega)
  rw [show ((1 : Nat) : Int) = 1 from rfl] at h
  rw [e, h, Nat.and_one_is_mod]

theorem nbits_blen (N : Nat) : (nbits N + 7) / 8 = blen N := by
  unfold nbits blen
  by_cases h : N = 0
  · simp [h]
  · rw [if_neg h, if_neg h]; omega
/-- A digit more, from above, of a byte. -/
theorem byte_step (N i j : Nat) (hj : j < 8) : 2 * (N / 2 ^ (8 * i + (j + 1)) % 2 ^ (8 - (j + 1))) + bit N (8 * i + j) = N / 2 ^ (8 * i + j) % 2 ^ (8 - j) := by
  unfold bit
  rw [show 8 * i + (j + 1) = (8 * i + j) + 1 by omega, Nat.pow_succ, ← Nat.div_div_eq_div_mul, show 8 - j = (8 - (j + 1)) + 1 by omega, Nat.pow_succ, Nat.mul_comm (2 ^ (8 - (j + 1))) 2, Nat.mod_mul]
  omega
def byteAt (N i j : Nat) : Nat := N / 2 ^ (8 * i + j) % 2 ^ (8 - j)
theorem byteAt_top (N i : Nat) : byteAt N i 8 = 0 := by simp [byteAt, Nat.mod_one]
theorem byteAt_step (N i j : Nat) (hj : j < 8) : 2 * byteAt N i (j + 1) + bit N (8 * i + j) = byteAt N i j := byte_step N i j hj
theorem byteAt_zero (N i : Nat) : byteAt N i 0 = dig N i := by simp [byteAt, dig, pow_256]
theorem byteAt_lt (N i j : Nat) (hj : 0 < j) : byteAt N i j < 128 := by
  refine Nat.lt_of_lt_of_le (Nat.mod_lt _ (Nat.pow_pos (by omega))) ?_
  exact Nat.pow_le_pow_right (n := 2) (by omega) (show 8 - j ≤ 7 by omega)

end Go.Proofs.Ytjimnepjheppgaa
