/- Plain facts on products to the base 2: sums of columns, and what is carried. No condition but those typed; no program is named. -/
import Derived.Test.YtjimnepjheppgaaNum2
namespace Go.Proofs.Ytjimnepjheppgaa

theorem bv_set (l : List Nat) (j d : Nat) (h : j < l.length) : bv (l.set j (nth l j + d)) = bv l + 2 ^ j * d := by
  induction l generalizing j with
  | nil => simp at h
  | cons x r ih =>
    cases j with
    | zero => simp [bv, nth]; omega
    | succ j =>
      have := ih j (by simpa using h)
      simp only [List.set_cons_succ, bv]
      rw [show nth (x :: r) (j + 1) = nth r j from rfl, this, Nat.pow_succ, Nat.mul_add, Nat.mul_comm (2 ^ j) 2, Nat.mul_assoc]
      omega
theorem bv_replicate (k : Nat) : bv (List.replicate k 0) = 0 := by
  induction k with
  | zero => rfl
  | succ k ih => simp [List.replicate_succ, bv, ih]
theorem bv_take_succ (l : List Nat) (k : Nat) (h : k < l.length) : bv (l.take (k + 1)) = bv (l.take k) + 2 ^ k * nth l k := by
  rw [List.take_succ_eq_append_getElem h, bv_append, List.length_take, Nat.min_eq_left (by omega), nth_eq l k h]
  simp [bv]
theorem bv_parts (l : List Nat) (k : Nat) : bv l = bv (l.take k) + 2 ^ k * bv (l.drop k) := by
  rcases Nat.lt_or_ge k l.length with h | h
  · conv => lhs; rw [← List.take_append_drop k l]
    rw [bv_append, List.length_take, Nat.min_eq_left (by omega)]
  · rw [List.take_of_length_le h, List.drop_eq_nil_of_le h]
    simp [bv]
/-- What is carried out of the first k columns. -/
def colC (l : List Nat) (k : Nat) : Nat := bv (l.take k) / 2 ^ k
theorem colC_zero (l : List Nat) : colC l 0 = 0 := by simp [colC, bv]
theorem colC_succ (l : List Nat) (k : Nat) (h : k < l.length) : colC l (k + 1) = (nth l k + colC l k) / 2 := by
  unfold colC
  rw [bv_take_succ l k h, Nat.pow_succ, ← Nat.div_div_eq_div_mul, Nat.add_mul_div_left _ _ (Nat.pow_pos (by omega))]
  congr 1
  omega
theorem col_bit (l : List Nat) (k : Nat) (h : k < l.length) : (nth l k + colC l k) % 2 = bit (bv l) k := by
  unfold bit colC
  have hp : 0 < 2 ^ k := Nat.pow_pos (by omega)
  have e : l.drop k = nth l k :: l.drop (k + 1) := by rw [nth_eq l k h]; exact List.drop_eq_getElem_cons h
  rw [bv_parts l k, Nat.add_mul_div_left _ _ hp, e, bv]
  omega
theorem colC_le (l : List Nat) (C k : Nat) (h : ∀ j, nth l j ≤ C) : colC l k ≤ C := by
  induction k with
  | zero => rw [colC_zero]; omega
  | succ k ih =>
    rcases Nat.lt_or_ge k l.length with hk | hk
    · rw [colC_succ l k hk]
      have := h k
      omega
    · unfold colC at *
      rw [List.take_of_length_le (by omega)]
      rw [List.take_of_length_le (by omega)] at ih
      rw [Nat.pow_succ, ← Nat.div_div_eq_div_mul]
      omega
/-- The columns when rows 0 to i - 1 are done, and k of row i. -/
structure Cols (M N i k : Nat) (l : List Nat) : Prop where
  len : l.length = nbits M + nbits N
  val : bv l = (M % 2 ^ i) * N + 2 ^ i * (bit M i * (N % 2 ^ k))
  low : ∀ j, nth l j ≤ i + 1
  high : ∀ j, i + k ≤ j → nth l j ≤ i
theorem nth_replicate (k j : Nat) : nth (List.replicate k 0) j = 0 := by
  unfold nth
  rw [List.getD_eq_getElem?_getD, List.getElem?_replicate]
  split <;> rfl
theorem Cols.start (M N : Nat) : Cols M N 0 0 (List.replicate (nbits M + nbits N) 0) where
  len := by simp
  val := by rw [bv_replicate]; simp [Nat.mod_one]
  low := fun j => by rw [nth_replicate]; omega
  high := fun j _ => by rw [nth_replicate]; omega
/-- A digit of b more, where a's is 1. -/
theorem Cols.step {M N i k : Nat} {l : List Nat} (h : Cols M N i k l) (h1 : bit M i = 1) (hik : i + k < l.length) : Cols M N i (k + 1) (l.set (i + k) (nth l (i + k) + bit N k)) where
  len := by rw [List.length_set]; exact h.len
  val := by
    rw [bv_set l _ _ hik, h.val, h1, low_bit, Nat.one_mul, Nat.one_mul, Nat.mul_add, Nat.pow_add, Nat.mul_assoc]
    omega
  low := fun j => by
    rw [nth_set l _ _ _ hik]
    have := h.high (i + k) (Nat.le_refl _)
    have hb := bit_lt N k
    have := h.low j
    split <;> omega
  high := fun j hj => by
    rw [nth_set l _ _ _ hik, if_neg (by omega)]
    exact h.high j (by omega)
/-- The row is done. -/
theorem Cols.row {M N i k : Nat} {l : List Nat} (h : Cols M N i k l) (hk : bit M i = 0 ∨ nbits N ≤ k) : Cols M N (i + 1) 0 l where
  len := h.len
  val := by
    rw [h.val, low_bit, Nat.pow_zero, Nat.mod_one, Nat.mul_zero, Nat.mul_zero, Nat.add_zero, Nat.add_mul]
    rcases hk with hk | hk
    · rw [hk]; simp
    · rw [Nat.mod_eq_of_lt (Nat.lt_of_lt_of_le (nbits_lt N) (Nat.pow_le_pow_right (by omega) hk)), Nat.mul_assoc]
  low := fun j => by have := h.low j; omega
  high := fun j _ => by have := h.low j; omega
theorem Cols.all {M N : Nat} {l : List Nat} (h : Cols M N (nbits M) 0 l) : bv l = M * N := by
  rw [h.val, Nat.mod_eq_of_lt (nbits_lt M), Nat.pow_zero, Nat.mod_one]
  simp
theorem prod_lt (M N : Nat) : M * N < 2 ^ (nbits M + nbits N) := by
  have h1 := nbits_lt M
  have h2 := nbits_lt N
  rw [Nat.pow_add]
  exact Nat.mul_lt_mul_of_lt_of_le h1 (Nat.le_of_lt h2) (Nat.pow_pos (by omega))
theorem nbits_mul (M N : Nat) : nbits (M * N) ≤ nbits M + nbits N := nbits_of_lt _ _ (prod_lt M N)
end Go.Proofs.Ytjimnepjheppgaa
