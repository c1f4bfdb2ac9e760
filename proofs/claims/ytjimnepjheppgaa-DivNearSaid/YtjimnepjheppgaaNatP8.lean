/- nat.Bytes, nat.FromBytes: digits to the base 256. Conditions: as typed (lengths that fit a machine). -/
import Derived.Test.YtjimnepjheppgaaNatP7
namespace Go.Proofs.Ytjimnepjheppgaa
open Go.RowKit
set_option maxRecDepth 20000

/-- Noughts, and the lowest i digits behind them. -/
def bsAt (N S i : Nat) : List Nat := List.replicate (S - i) 0 ++ be i N
theorem length_bsAt (N S i : Nat) (h : i ≤ S) : (bsAt N S i).length = S := by simp [bsAt, length_be]; omega
theorem bsAt_zero (N S : Nat) : bsAt N S 0 = List.replicate S 0 := by simp [bsAt, be]
theorem bsAt_end (N S : Nat) : bsAt N S S = be S N := by simp [bsAt]
theorem bsAt_set (N i d : Nat) : (bsAt N (i + 1 + d) i).set d (dig N i) = bsAt N (i + 1 + d) (i + 1) := by
  unfold bsAt
  rw [show i + 1 + d - i = d + 1 by omega, show i + 1 + d - (i + 1) = d by omega, List.replicate_succ', List.append_assoc, List.set_append_right _ _ (by simp), List.length_replicate, Nat.sub_self, be]
  rfl
theorem make_bytes (m : Nat) (u : World) (hm : m ≤ 10000000) : (Instr.makeSlice 49 (.int .i64 (m : Int)) (.int .i64 (m : Int))).run Try.prog u =
      .ok (.slice (some ⟨u.heap.size, 0, none⟩) m m) (u.alloc (.cells (List.replicate m (Value.int .u8 0)).toArray 5)) := by
  obtain ⟨i0, hi, hz0, hz1, hz2⟩ := info_parts num_info_u8
  have h := run_make (P := Try.prog) u 49 5 i0 (.int .u8 0) Try.underlying49 hi hz0 .i64 .i64 (m : Int) (m : Int) (by omega) (by omega) (by rw [hz2]; omega) (by omega)
  rw [Int.toNat_natCast, hz1, Nat.mul_one] at h
  rw [h, ← toList_madeCells_one]
  rfl
theorem brow_new (w : World) (m : Nat) (hm : m ≤ 10000000) (N : Nat) : (w.alloc (.cells (Array.replicate m (Value.int .u8 0)) 5)).ownsRow w.heap.size 5 1 (.slice (some ⟨w.heap.size, 0, none⟩) m m) m (ints .u8 (bsAt N m 0)) := by
  rw [bsAt_zero]
  exact own_of_heap (cur := List.replicate m (Value.int .u8 0)) (by have h := heap_alloc_new w (.cells (Array.replicate m (Value.int .u8 0)) 5); simpa using h) (Nat.le_refl _) (Nat.le_refl _) (by unfold maxLen; omega) (by simp) (by simp [ints])

theorem wrow_new (w : World) (m : Nat) (hm : m ≤ 1000000) : (w.alloc (.cells (Array.replicate m (Value.int .u64 0)) 24)).ownsRow w.heap.size 24 1 (.slice (some ⟨w.heap.size, 0, none⟩) m m) m (ints .u64 (words m 0)) := by
  have h := row_new w m hm 0
  rwa [wsAt_zero, ← words_none] at h
theorem take_nth (l : List Nat) (i : Nat) (h : i < l.length) : l.take (i + 1) = l.take i ++ [nth l i] := by
  rw [List.take_succ_eq_append_getElem h, nth_eq l i h]
theorem val_room (l : List Nat) (hb : Bytes l) : val l < 18446744073709551616 ^ ((l.length + 8 - 1) / 8) := by
  rw [pow_64]
  exact Nat.lt_of_lt_of_le (val_lt l hb) (Nat.pow_le_pow_right (by omega) (by omega))
theorem val_take_room (l : List Nat) (hb : Bytes l) (i : Nat) (h : i ≤ l.length) : val (l.take i) * 256 ^ (l.length - i) < 18446744073709551616 ^ ((l.length + 8 - 1) / 8) := by
  have h1 := val_lt (l.take i) (hb.take i)
  rw [List.length_take, Nat.min_eq_left h] at h1
  have h2 : val (l.take i) * 256 ^ (l.length - i) < 256 ^ i * 256 ^ (l.length - i) := Nat.mul_lt_mul_of_pos_right h1 (Nat.pow_pos (by omega))
  rw [← Nat.pow_add, show i + (l.length - i) = l.length by omega] at h2
  rw [pow_64]
  exact Nat.lt_of_lt_of_le h2 (Nat.pow_le_pow_right (by omega) (by omega))

end Go.Proofs.Ytjimnepjheppgaa
