/- Plain facts on numbers to the base 2, the lowest digit first: how many digits, digits of sums and shifts. No condition but those typed; no program is named. -/
import Derived.Test.YtjimnepjheppgaaMath
namespace Go.Proofs.Ytjimnepjheppgaa

/-- The number of digits to the base 2, the lowest first. -/
def bv : List Nat → Nat
  | [] => 0
  | b :: r => b + 2 * bv r
/-- The lowest k digits of a number. -/
def bw : Nat → Nat → List Nat
  | 0, _ => []
  | k + 1, n => n % 2 :: bw k (n / 2)
/-- How many digits a number needs. -/
def nbits (n : Nat) : Nat := if n = 0 then 0 else n.log2 + 1
/-- A number's digits. -/
def dg (n : Nat) : List Nat := bw (nbits n) n
/-- A number's words. -/
def wd (n : Nat) : List Nat := words ((nbits n + 63) / 64) n
/-- Digit i of a number. -/
def bit (n i : Nat) : Nat := n / 2 ^ i % 2
def Bits01 (l : List Nat) : Prop := ∀ x ∈ l, x < 2

theorem length_bw (k n : Nat) : (bw k n).length = k := by
  induction k generalizing n with
  | zero => rfl
  | succ k ih => simp [bw, ih]
theorem length_dg (n : Nat) : (dg n).length = nbits n := length_bw _ _
theorem length_wd (n : Nat) : (wd n).length = (nbits n + 63) / 64 := length_words _ _
theorem bw_01 (k n : Nat) : Bits01 (bw k n) := by
  induction k generalizing n with
  | zero => intro x hx; simp [bw] at hx
  | succ k ih =>
    intro x hx
    simp only [bw, List.mem_cons] at hx
    rcases hx with rfl | hx
    · exact Nat.mod_lt _ (by omega)
    · exact ih _ x hx
theorem nth_bw (k n j : Nat) (h : j < k) : nth (bw k n) j = n / 2 ^ j % 2 := by
  induction k generalizing n j with
  | zero => omega
  | succ k ih =>
    cases j with
    | zero => simp [bw, nth]
    | succ j =>
      have := ih (n / 2) j (by omega)
      rw [Nat.pow_succ, Nat.mul_comm, ← Nat.div_div_eq_div_mul, ← this]
      simp [bw, nth]
theorem bv_bw (k n : Nat) : bv (bw k n) = n % 2 ^ k := by
  induction k generalizing n with
  | zero => simp [bw, bv, Nat.mod_one]
  | succ k ih => rw [bw, bv, ih, Nat.pow_succ, Nat.mul_comm (2 ^ k), Nat.mod_mul]
theorem bv_lt (l : List Nat) (h : Bits01 l) : bv l < 2 ^ l.length := by
  induction l with
  | nil => simp [bv]
  | cons x r ih =>
    have hx : x < 2 := h x (by simp)
    have hr := ih fun y hy => h y (by simp [hy])
    simp only [bv, List.length_cons, Nat.pow_succ]
    omega
theorem nth_bv (l : List Nat) (h : Bits01 l) (j : Nat) : nth l j = bv l / 2 ^ j % 2 := by
  induction l generalizing j with
  | nil => simp [nth, bv]
  | cons x r ih =>
    have hx : x < 2 := h x (by simp)
    have hr := ih fun y hy => h y (by simp [hy])
    cases j with
    | zero => simp [nth, bv]; omega
    | succ j =>
      have := hr j
      simp only [bv, Nat.pow_succ]
      rw [Nat.mul_comm (2 ^ j), ← Nat.div_div_eq_div_mul, show (x + 2 * bv r) / 2 = bv r by omega, ← this]
      simp [nth]
theorem bw_bv (l : List Nat) (h : Bits01 l) : bw l.length (bv l) = l :=
  ext_nth _ _ (length_bw _ _) fun j hj => by
    rw [length_bw] at hj
    rw [nth_bw _ _ _ hj, nth_bv l h]
theorem bw_take (k n j : Nat) (h : j ≤ k) : (bw k n).take j = bw j n := by
  refine ext_nth _ _ (by simp [length_bw]; omega) fun i hi => ?_
  have hi' : i < j := by simp [length_bw] at hi; omega
  rw [nth_bw _ _ _ hi', ← nth_bw k n i (by omega)]
  simp [nth, hi']
theorem bw_snoc (k n : Nat) : bw (k + 1) n = bw k n ++ [n / 2 ^ k % 2] := by
  refine ext_nth _ _ (by simp [length_bw]) fun j hj => ?_
  rw [length_bw] at hj
  rw [nth_bw _ _ _ hj]
  rcases Nat.lt_or_ge j k with h | h
  · have : nth (bw k n ++ [n / 2 ^ k % 2]) j = nth (bw k n) j := by simp [nth, List.getElem?_append_left (show j < (bw k n).length by rw [length_bw]; exact h)]
    rw [this, nth_bw _ _ _ h]
  · obtain rfl : j = k := by omega
    simp [nth, length_bw]
theorem nbits_lt (n : Nat) : n < 2 ^ nbits n := by
  unfold nbits
  by_cases h : n = 0
  · simp [h]
  · rw [if_neg h]
    exact (Nat.log2_lt h).1 (by omega)
theorem nbits_le (n : Nat) (h : n ≠ 0) : 2 ^ (nbits n - 1) ≤ n := by
  unfold nbits
  rw [if_neg h]
  exact (Nat.le_log2 h).1 (by omega)
theorem nbits_zero : nbits 0 = 0 := by simp [nbits]
theorem nbits_eq (n k : Nat) (h : n < 2 ^ k) (h' : k ≠ 0 → 2 ^ (k - 1) ≤ n) : nbits n = k := by
  by_cases hn : n = 0
  · by_cases hk : k = 0
    · simp [nbits, hn, hk]
    · have := h' hk
      have hp : 0 < 2 ^ (k - 1) := Nat.pow_pos (by omega)
      omega
  · have h1 := nbits_lt n
    have h2 := nbits_le n hn
    rcases Nat.lt_trichotomy (nbits n) k with hlt | he | hgt
    · have h3 := h' (by omega)
      have h4 : 2 ^ nbits n ≤ 2 ^ (k - 1) := Nat.pow_le_pow_right (by omega) (by omega)
      omega
    · exact he
    · have h4 : 2 ^ k ≤ 2 ^ (nbits n - 1) := Nat.pow_le_pow_right (by omega) (by omega)
      omega
theorem nbits_of_lt (n k : Nat) (h : n < 2 ^ k) : nbits n ≤ k := by
  rcases Nat.lt_or_ge k (nbits n) with h1 | h1
  · have hn : n ≠ 0 := fun e => by rw [e, nbits_zero] at h1; omega
    have h2 := nbits_le n hn
    have h4 : 2 ^ k ≤ 2 ^ (nbits n - 1) := Nat.pow_le_pow_right (by omega) (by omega)
    omega
  · exact h1
theorem nbits_mono {a b : Nat} (h : a ≤ b) : nbits a ≤ nbits b := nbits_of_lt a _ (Nat.lt_of_le_of_lt h (nbits_lt b))
theorem dg_01 (n : Nat) : Bits01 (dg n) := bw_01 _ _
theorem bv_dg (n : Nat) : bv (dg n) = n := by rw [dg, bv_bw, Nat.mod_eq_of_lt (nbits_lt n)]
theorem nth_dg (n j : Nat) : nth (dg n) j = n / 2 ^ j % 2 := by
  have := nth_bv (dg n) (dg_01 n) j
  rwa [bv_dg] at this
theorem bit_lt (n i : Nat) : bit n i < 2 := Nat.mod_lt _ (by omega)
theorem nth_dg_bit (n j : Nat) : nth (dg n) j = bit n j := nth_dg n j
theorem dg_of (k n : Nat) (h : nbits n ≤ k) : (bw k n).take (nbits n) = dg n := bw_take k n _ h
theorem take_dg (l : List Nat) (h : Bits01 l) : l.take (nbits (bv l)) = dg (bv l) := by
  have h1 := nbits_of_lt _ _ (bv_lt l h)
  have h2 := dg_of l.length (bv l) h1
  rwa [bw_bv l h] at h2
theorem nbits_bv_le (l : List Nat) (h : Bits01 l) : nbits (bv l) ≤ l.length := nbits_of_lt _ _ (bv_lt l h)
theorem bv_none (l : List Nat) (h : ∀ j, nth l j = 0) : bv l = 0 := by
  induction l with
  | nil => rfl
  | cons x r ih =>
    have h0 : x = 0 := h 0
    have := ih fun j => h (j + 1)
    simp [bv, h0, this]
theorem bv_append (l m : List Nat) : bv (l ++ m) = bv l + 2 ^ l.length * bv m := by
  induction l with
  | nil => simp [bv]
  | cons x r ih =>
    simp only [List.cons_append, bv, ih, List.length_cons, Nat.pow_succ, Nat.mul_add]
    rw [Nat.mul_right_comm, Nat.mul_comm 2 (2 ^ r.length * bv m), Nat.add_assoc]
/-- The highest digit that is not 0. -/
theorem nbits_hit (l : List Nat) (h : Bits01 l) (m : Nat) (hm : m < l.length) (hx : nth l m ≠ 0) (hz : ∀ j, m + 1 ≤ j → nth l j = 0) : nbits (bv l) = m + 1 := by
  have h1 : l = l.take m ++ (nth l m :: l.drop (m + 1)) := by rw [nth_eq l m hm, List.getElem_cons_drop, List.take_append_drop]
  have h2 : bv (l.drop (m + 1)) = 0 := bv_none _ fun j => by rw [nth_drop]; exact hz _ (by omega)
  have h3 : (l.take m).length = m := by simp; omega
  have h4 : bv l = bv (l.take m) + 2 ^ m := by
    have hone : nth l m = 1 := by have := h _ (nth_mem l m hm); omega
    conv => lhs; rw [h1]
    rw [bv_append, bv, h2, h3, hone]
    simp
  have h5 : bv (l.take m) < 2 ^ m := by
    have := bv_lt (l.take m) fun x hx => h x (List.mem_of_mem_take hx)
    rwa [h3] at this
  refine nbits_eq _ _ ?_ fun _ => ?_
  · rw [Nat.pow_succ]; omega
  · rw [Nat.add_sub_cancel]; omega
/-- Behind the last digit all are 0; the last one is 1. -/
theorem nth_over_bits (l : List Nat) (h : Bits01 l) (m : Nat) (hm : nbits (bv l) ≤ m) : nth l m = 0 := by
  rw [nth_bv l h, Nat.div_eq_of_lt (Nat.lt_of_lt_of_le (nbits_lt _) (Nat.pow_le_pow_right (by omega) hm))]
theorem nth_last_bit (l : List Nat) (h : Bits01 l) (hp : 0 < nbits (bv l)) : nth l (nbits (bv l) - 1) = 1 := by
  have hne : bv l ≠ 0 := fun e0 => by rw [e0, nbits_zero] at hp; omega
  have h2 := nbits_le (bv l) hne
  have h3 := nbits_lt (bv l)
  rw [nth_bv l h]
  have h4 : bv l / 2 ^ (nbits (bv l) - 1) = 1 := by
    rw [show nbits (bv l) = nbits (bv l) - 1 + 1 by omega, Nat.pow_succ] at h3
    exact Nat.div_eq_of_lt_le (by omega) (by omega)
  rw [h4]
theorem pow_64_2 (k : Nat) : (18446744073709551616 : Nat) ^ k = 2 ^ (64 * k) := by rw [Nat.pow_mul]
/-- A bit of a word is a bit of the number. -/
theorem bit_of_word (a : List Nat) (h : Words a) (i k : Nat) (hk : k < 64) : nth a i / 2 ^ k % 2 = natOf a / 2 ^ (64 * i + k) % 2 := by
  rw [nth_natOf a h, pow_64_2, Nat.pow_add, ← Nat.div_div_eq_div_mul]
  generalize natOf a / 2 ^ (64 * i) = y
  obtain ⟨d, hd⟩ : ∃ d, 64 = k + (1 + d) := ⟨63 - k, by omega⟩
  have e : (18446744073709551616 : Nat) = 2 ^ k * (2 * 2 ^ d) := by
    rw [show (18446744073709551616 : Nat) = 2 ^ 64 from rfl]
    conv => lhs; rw [hd, Nat.pow_add, Nat.pow_add, Nat.pow_one]
  rw [e, Nat.mod_mul_right_div_self, Nat.mod_mul_right_mod]
theorem natOf_lt2 (a : List Nat) (h : Words a) : natOf a < 2 ^ (64 * a.length) := by rw [← pow_64_2]; exact natOf_lt a h
theorem nbits_natOf (a : List Nat) (h : Words a) : nbits (natOf a) ≤ 64 * a.length := nbits_of_lt _ _ (natOf_lt2 a h)
theorem natOf_wd (n : Nat) : natOf (wd n) = n := by
  rw [wd, natOf_words, Nat.mod_eq_of_lt]
  rw [pow_64_2]
  exact Nat.lt_of_lt_of_le (nbits_lt n) (Nat.pow_le_pow_right (by omega) (by omega))
theorem wd_words (n : Nat) : Words (wd n) := words_words _ _
theorem wd_inj (a b : Nat) : wd a = wd b ↔ a = b := ⟨fun h => by rw [← natOf_wd a, h, natOf_wd], fun h => by rw [h]⟩
end Go.Proofs.Ytjimnepjheppgaa
