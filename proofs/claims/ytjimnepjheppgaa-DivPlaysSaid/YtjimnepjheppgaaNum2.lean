/- Plain facts on adding, taking away and shifting digits to the base 2. No condition but those typed; no program is named. -/
import Derived.Test.YtjimnepjheppgaaNum
namespace Go.Proofs.Ytjimnepjheppgaa

/-- What is carried to digit i of a sum. -/
def carry (A B i : Nat) : Nat := (A % 2 ^ i + B % 2 ^ i) / 2 ^ i
/-- What is borrowed from digit i. -/
def borrow (A B i : Nat) : Nat := if A % 2 ^ i < B % 2 ^ i then 1 else 0

theorem low_bit (A i : Nat) : A % 2 ^ (i + 1) = A % 2 ^ i + 2 ^ i * bit A i := by rw [Nat.mod_pow_succ, bit]
theorem carry_lt (A B i : Nat) : carry A B i < 2 := by
  unfold carry
  have hp : 0 < 2 ^ i := Nat.pow_pos (by omega)
  have h1 := Nat.mod_lt A hp
  have h2 := Nat.mod_lt B hp
  rw [Nat.div_lt_iff_lt_mul hp]
  omega
theorem carry_zero (A B : Nat) : carry A B 0 = 0 := by simp [carry, Nat.mod_one]
theorem borrow_zero (A B : Nat) : borrow A B 0 = 0 := by simp [borrow, Nat.mod_one]
theorem sum_bit (A B i : Nat) : (bit A i + bit B i + carry A B i) % 2 = bit (A + B) i := by
  unfold bit carry
  have hp : 0 < 2 ^ i := Nat.pow_pos (by omega)
  generalize 2 ^ i = P at *
  have ha := Nat.div_add_mod A P
  have hb := Nat.div_add_mod B P
  have e : (A + B) / P = A / P + B / P + (A % P + B % P) / P := by
    conv => lhs; rw [← ha, ← hb]
    rw [show P * (A / P) + A % P + (P * (B / P) + B % P) = (A % P + B % P) + P * (A / P + B / P) by rw [Nat.mul_add]; omega, Nat.add_mul_div_left _ _ hp]
    omega
  rw [e]
  omega
theorem carry_succ (A B i : Nat) : carry A B (i + 1) = (bit A i + bit B i + carry A B i) / 2 := by
  have hp : 0 < 2 ^ i := Nat.pow_pos (by omega)
  unfold carry
  rw [low_bit, low_bit, Nat.pow_succ]
  generalize 2 ^ i = P at *
  generalize bit A i = x
  generalize bit B i = y
  rw [show A % P + P * x + (B % P + P * y) = (A % P + B % P) + P * (x + y) by rw [Nat.mul_add]; omega, ← Nat.div_div_eq_div_mul, Nat.add_mul_div_left _ _ hp]
  congr 1
  omega
theorem sum_end (A B i : Nat) (ha : nbits A ≤ i) (hb : nbits B ≤ i) (hc : carry A B i = 0) : A + B < 2 ^ i := by
  have h1 : A < 2 ^ i := Nat.lt_of_lt_of_le (nbits_lt A) (Nat.pow_le_pow_right (by omega) ha)
  have h2 : B < 2 ^ i := Nat.lt_of_lt_of_le (nbits_lt B) (Nat.pow_le_pow_right (by omega) hb)
  unfold carry at hc
  rw [Nat.mod_eq_of_lt h1, Nat.mod_eq_of_lt h2, Nat.div_eq_zero_iff] at hc
  exact hc.resolve_left (by have := Nat.pow_pos (n := i) (show 0 < 2 by omega); omega)
theorem carry_past (A B i : Nat) (ha : nbits A < i) (hb : nbits B < i) : carry A B i = 0 := by
  have h1 : A < 2 ^ (i - 1) := Nat.lt_of_lt_of_le (nbits_lt A) (Nat.pow_le_pow_right (by omega) (by omega))
  have h2 : B < 2 ^ (i - 1) := Nat.lt_of_lt_of_le (nbits_lt B) (Nat.pow_le_pow_right (by omega) (by omega))
  have e : 2 ^ i = 2 ^ (i - 1) * 2 := by rw [← Nat.pow_succ]; congr 1; omega
  unfold carry
  rw [Nat.mod_eq_of_lt (by omega), Nat.mod_eq_of_lt (by omega)]
  exact Nat.div_eq_of_lt (by omega)
theorem borrow_lt (A B i : Nat) : borrow A B i < 2 := by unfold borrow; split <;> omega
theorem rest_bit (A B i : Nat) (h : B ≤ A) : (bit A i + 2 - bit B i - borrow A B i) % 2 = bit (A - B) i := by
  unfold bit borrow
  have hp : 0 < 2 ^ i := Nat.pow_pos (by omega)
  generalize 2 ^ i = P at *
  have ha := Nat.div_add_mod A P
  have hb := Nat.div_add_mod B P
  have la := Nat.mod_lt A hp
  have lb := Nat.mod_lt B hp
  have hq : B / P ≤ A / P := Nat.div_le_div_right h
  have hm : P * (B / P) ≤ P * (A / P) := Nat.mul_le_mul_left _ hq
  split
  · rename_i hlt
    have hq2 : B / P < A / P := by
      rcases Nat.eq_or_lt_of_le hq with e | e
      · rw [e] at hb; omega
      · exact e
    have e : (A - B) / P = A / P - B / P - 1 := by
      have h3 : A - B = P * (A / P - B / P - 1) + (P + A % P - B % P) := by
        rw [Nat.mul_sub, Nat.mul_sub, Nat.mul_one]
        have h4 : P * (B / P + 1) ≤ P * (A / P) := Nat.mul_le_mul_left _ hq2
        rw [Nat.mul_add, Nat.mul_one] at h4
        omega
      have h5 : P + A % P - B % P < P := by omega
      rw [h3, Nat.mul_add_div hp, Nat.div_eq_of_lt h5, Nat.add_zero]
    rw [e]
    omega
  · have e : (A - B) / P = A / P - B / P := by
      have h3 : A - B = P * (A / P - B / P) + (A % P - B % P) := by
        rw [Nat.mul_sub]
        omega
      have h5 : A % P - B % P < P := by omega
      rw [h3, Nat.mul_add_div hp, Nat.div_eq_of_lt h5, Nat.add_zero]
    rw [e]
    omega
theorem borrow_succ (A B i : Nat) : borrow A B (i + 1) = 1 - (bit A i + 2 - bit B i - borrow A B i) / 2 := by
  have hp : 0 < 2 ^ i := Nat.pow_pos (by omega)
  have hx := bit_lt A i
  have hy := bit_lt B i
  unfold borrow
  rw [low_bit, low_bit]
  have la := Nat.mod_lt A hp
  have lb := Nat.mod_lt B hp
  generalize 2 ^ i = P at *
  generalize bit A i = x at *
  generalize bit B i = y at *
  have hx2 : x = 0 ∨ x = 1 := by omega
  have hy2 : y = 0 ∨ y = 1 := by omega
  rcases hx2 with rfl | rfl <;> rcases hy2 with rfl | rfl <;> simp only [Nat.mul_zero, Nat.mul_one, Nat.add_zero] <;> repeat' split
  all_goals omega
theorem bv_noughts (k : Nat) (l : List Nat) : bv (List.replicate k 0 ++ l) = 2 ^ k * bv l := by
  rw [bv_append, List.length_replicate, bv_none (List.replicate k 0) fun j => by simp [nth, List.getElem?_replicate]; split <;> rfl]
  omega
theorem bits_noughts (k n : Nat) : Bits01 (List.replicate k 0 ++ dg n) := fun x hx => by
  rcases List.mem_append.1 hx with h | h
  · rw [List.eq_of_mem_replicate h]; omega
  · exact dg_01 n x h
theorem bv_drop (n j : Nat) : bv ((dg n).drop j) = n / 2 ^ j := by
  rcases Nat.lt_or_ge (nbits n) j with h | h
  · rw [List.drop_eq_nil_of_le (by rw [length_dg]; omega), Nat.div_eq_of_lt (Nat.lt_of_lt_of_le (nbits_lt n) (Nat.pow_le_pow_right (by omega) (by omega)))]
    rfl
  · have h1 := bv_append ((dg n).take j) ((dg n).drop j)
    rw [List.take_append_drop, bv_dg, List.length_take, length_dg, Nat.min_eq_left h] at h1
    have h2 := bv_lt ((dg n).take j) fun x hx => dg_01 n x (List.mem_of_mem_take hx)
    rw [List.length_take, length_dg, Nat.min_eq_left h] at h2
    have h3 : n / 2 ^ j = (bv ((dg n).take j) + 2 ^ j * bv ((dg n).drop j)) / 2 ^ j := congrArg (· / 2 ^ j) h1
    rw [h3, Nat.add_mul_div_left _ _ (Nat.pow_pos (by omega)), Nat.div_eq_of_lt h2, Nat.zero_add]
theorem drop_01 (n j : Nat) : Bits01 ((dg n).drop j) := fun x hx => dg_01 n x (List.mem_of_mem_drop hx)
/-- Fewer digits, a lesser number. -/
theorem less_of_nbits {a b : Nat} (h : nbits a < nbits b) : a < b := by
  have h1 := nbits_lt a
  have hb : b ≠ 0 := fun e => by rw [e, nbits_zero] at h; omega
  have h2 := nbits_le b hb
  have h3 : 2 ^ nbits a ≤ 2 ^ (nbits b - 1) := Nat.pow_le_pow_right (by omega) (by omega)
  omega
theorem eq_of_bits (a b k : Nat) (ha : a < 2 ^ k) (hb : b < 2 ^ k) (h : ∀ j, j < k → bit a j = bit b j) : a = b := by
  have e : bw k a = bw k b := ext_nth _ _ (by rw [length_bw, length_bw]) fun j hj => by
    rw [length_bw] at hj
    rw [nth_bw _ _ _ hj, nth_bw _ _ _ hj]
    exact h j hj
  have := congrArg bv e
  rwa [bv_bw, bv_bw, Nat.mod_eq_of_lt ha, Nat.mod_eq_of_lt hb] at this
/-- The highest digit that differs decides. -/
theorem less_of_bit (a b m : Nat) (h : ∀ j, m < j → bit a j = bit b j) (hlt : bit a m < bit b m) : a < b := by
  have h1 : a / 2 ^ (m + 1) = b / 2 ^ (m + 1) := by
    refine eq_of_bits _ _ (a + b) ?_ ?_ fun j _ => ?_
    · exact Nat.lt_of_le_of_lt (Nat.div_le_self _ _) (Nat.lt_of_lt_of_le Nat.lt_two_pow_self (Nat.pow_le_pow_right (by omega) (by omega)))
    · exact Nat.lt_of_le_of_lt (Nat.div_le_self _ _) (Nat.lt_of_lt_of_le Nat.lt_two_pow_self (Nat.pow_le_pow_right (by omega) (by omega)))
    · have := h (m + 1 + j) (by omega)
      unfold bit at *
      rwa [Nat.pow_add, ← Nat.div_div_eq_div_mul, ← Nat.div_div_eq_div_mul] at this
  have ha := Nat.div_add_mod a (2 ^ (m + 1))
  have hb := Nat.div_add_mod b (2 ^ (m + 1))
  rw [low_bit] at ha hb
  rw [h1] at ha
  have la := Nat.mod_lt a (Nat.pow_pos (n := m) (show 0 < 2 by omega))
  have hx := bit_lt b m
  have e1 : bit a m = 0 := by omega
  have e2 : bit b m = 1 := by omega
  rw [e1, Nat.mul_zero] at ha
  rw [e2, Nat.mul_one] at hb
  omega
end Go.Proofs.Ytjimnepjheppgaa
