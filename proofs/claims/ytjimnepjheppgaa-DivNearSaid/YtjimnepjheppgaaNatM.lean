/- Plain facts on words: how many a number needs, carries and borrows from word to word, shifts of words. No condition but those typed; no program is named. -/
import Derived.Test.YtjimnepjheppgaaNum2
namespace Go.Proofs.Ytjimnepjheppgaa

/-- How many words the number of words needs. -/
def tl (a : List Nat) : Nat := (nbits (natOf a) + 63) / 64

theorem natOf_lt_tl (a : List Nat) : natOf a < 18446744073709551616 ^ tl a := by
  rw [pow_64_2]
  exact Nat.lt_of_lt_of_le (nbits_lt _) (Nat.pow_le_pow_right (by omega) (by unfold tl; omega))
theorem tl_le (a : List Nat) (h : Words a) : tl a ≤ a.length := by
  have := nbits_natOf a h
  unfold tl
  omega
theorem nth_over_words (a : List Nat) (h : Words a) (m : Nat) (hm : tl a ≤ m) : nth a m = 0 := by
  rw [nth_natOf a h, Nat.div_eq_of_lt (Nat.lt_of_lt_of_le (natOf_lt_tl a) (Nat.pow_le_pow_right (by omega) hm))]
theorem tl_le_of_lt (a : List Nat) (m : Nat) (h : natOf a < 18446744073709551616 ^ m) : tl a ≤ m := by
  rw [pow_64_2] at h
  have := nbits_of_lt _ _ h
  unfold tl
  omega
theorem nth_last_word (a : List Nat) (h : Words a) (hp : 0 < tl a) : nth a (tl a - 1) ≠ 0 := by
  intro h0
  obtain ⟨m, hm⟩ : ∃ m, tl a = m + 1 := ⟨tl a - 1, by omega⟩
  have h1 := natOf_lt_tl a
  rw [hm] at h0 h1
  rw [Nat.add_sub_cancel, nth_natOf a h] at h0
  have hp' : 0 < 18446744073709551616 ^ m := Nat.pow_pos (by omega)
  have h2 : natOf a / 18446744073709551616 ^ m < 18446744073709551616 := by
    rw [Nat.div_lt_iff_lt_mul hp', Nat.mul_comm]
    rwa [Nat.pow_succ] at h1
  rw [Nat.mod_eq_of_lt h2, Nat.div_eq_zero_iff] at h0
  have h3 : natOf a < 18446744073709551616 ^ m := by omega
  have := tl_le_of_lt a m h3
  omega
theorem nth_take (a : List Nat) (k j : Nat) (h : j < k) : nth (a.take k) j = nth a j := by simp [nth, h]
theorem take_wd (a : List Nat) (h : Words a) : a.take (tl a) = wd (natOf a) := by
  have hl := tl_le a h
  refine ext_nth _ _ (by rw [List.length_take, length_wd]; unfold tl at *; omega) fun j hj => ?_
  rw [List.length_take] at hj
  rw [nth_take _ _ _ (by omega), nth_natOf a h, wd, nth_words _ _ _ (by unfold tl at hj; omega)]
theorem tl_eq_length (a : List Nat) (h : Words a) : tl a = a.length ↔ a = wd (natOf a) := by
  constructor
  · intro e
    have := take_wd a h
    rwa [e, List.take_length] at this
  · intro e
    have := congrArg List.length e
    rw [length_wd] at this
    unfold tl
    omega
theorem tl_wd (n : Nat) : tl (wd n) = (nbits n + 63) / 64 := by rw [tl, natOf_wd]
theorem tl_words (k n : Nat) (h : n < 18446744073709551616 ^ k) : tl (words k n) = (nbits n + 63) / 64 := by
  rw [tl, natOf_words, Nat.mod_eq_of_lt h]
theorem tl_zero (a : List Nat) (h : tl a = 0) : natOf a = 0 := by
  have := natOf_lt_tl a
  rw [h] at this
  simpa using this
theorem small_iff (a : List Nat) : tl a ≤ 1 ↔ natOf a < 18446744073709551616 := by
  constructor
  · intro h
    have h1 := natOf_lt_tl a
    have h2 : (18446744073709551616 : Nat) ^ tl a ≤ 18446744073709551616 ^ 1 := Nat.pow_le_pow_right (by omega) h
    omega
  · intro h
    exact tl_le_of_lt a 1 (by omega)
theorem nth_zero (a : List Nat) (h : Words a) : nth a 0 = natOf a % 18446744073709551616 := by rw [nth_natOf a h]; simp
theorem nbits_hit_word (a : List Nat) (h : Words a) (hp : 0 < tl a) : nbits (natOf a) = (tl a - 1) * 64 + Lib.bitLen (nth a (tl a - 1)) := by
  have hx := nth_last_word a h hp
  have hl := tl_le a h
  obtain ⟨m, hm⟩ : ∃ m, tl a = m + 1 := ⟨tl a - 1, by omega⟩
  have hz : ∀ j, m + 1 ≤ j → nth a j = 0 := fun j hj => nth_over_words a h j (by omega)
  rw [hm, Nat.add_sub_cancel] at hx ⊢
  have hl' : m + 1 ≤ a.length := by omega
  have hlt := h _ (nth_mem a m (by omega))
  obtain ⟨b1, b2, b3⟩ := Lib.bitLenAux_bounds 64 (nth a m) hlt hx
  have hlow : natOf (a.take m) < 18446744073709551616 ^ m := natOf_take_lt a h m
  rw [natOf_top a m (by omega) hz]
  have e : Lib.bitLen (nth a m) = Lib.bitLenAux 64 (nth a m) := rfl
  rw [e]
  generalize nth a m = x at *
  generalize Lib.bitLenAux 64 x = bl at *
  have ep : (18446744073709551616 : Nat) ^ m = 2 ^ (m * 64) := by rw [pow_64_2, Nat.mul_comm]
  refine nbits_eq _ _ ?_ fun _ => ?_
  · rw [Nat.pow_add, ← ep]
    have : 18446744073709551616 ^ m * (x + 1) ≤ 18446744073709551616 ^ m * 2 ^ bl := Nat.mul_le_mul_left _ b3
    rw [Nat.mul_add, Nat.mul_one] at this
    omega
  · rw [show m * 64 + bl - 1 = m * 64 + (bl - 1) by omega, Nat.pow_add, ← ep]
    have : 18446744073709551616 ^ m * 2 ^ (bl - 1) ≤ 18446744073709551616 ^ m * x := Nat.mul_le_mul_left _ b2
    omega

/-! Sums -/
theorem words_snoc (k n : Nat) : words (k + 1) n = words k n ++ [n / 18446744073709551616 ^ k % 18446744073709551616] := by
  refine ext_nth _ _ (by simp [length_words]) fun j hj => ?_
  rw [length_words] at hj
  rw [nth_words _ _ _ hj]
  rcases Nat.lt_or_ge j k with h | h
  · have := nth_words k n j h
    rw [← this]
    simp [nth, List.getElem?_append, length_words, h]
  · obtain rfl : j = k := by omega
    simp [nth, length_words]
def carryW (A B i : Nat) : Nat := (A % 18446744073709551616 ^ i + B % 18446744073709551616 ^ i) / 18446744073709551616 ^ i
theorem carryW_zero (A B : Nat) : carryW A B 0 = 0 := by simp [carryW, Nat.mod_one]
theorem carryW_le (A B i : Nat) : carryW A B i ≤ 1 := by
  have hp : 0 < 18446744073709551616 ^ i := Nat.pow_pos (by omega)
  have h1 := Nat.mod_lt A hp
  have h2 := Nat.mod_lt B hp
  unfold carryW
  generalize 18446744073709551616 ^ i = p at *
  have : (A % p + B % p) / p < 2 := by rw [Nat.div_lt_iff_lt_mul hp]; omega
  omega
theorem split_word (A i : Nat) : A % 18446744073709551616 ^ (i + 1) = A % 18446744073709551616 ^ i + 18446744073709551616 ^ i * (A / 18446744073709551616 ^ i % 18446744073709551616) := Nat.mod_pow_succ
theorem sum_word (A B i : Nat) : (A / 18446744073709551616 ^ i % 18446744073709551616 + B / 18446744073709551616 ^ i % 18446744073709551616 + carryW A B i) % 18446744073709551616 = (A + B) / 18446744073709551616 ^ i % 18446744073709551616 := by
  have hp : 0 < 18446744073709551616 ^ i := Nat.pow_pos (by omega)
  have e : (A + B) / 18446744073709551616 ^ i = A / 18446744073709551616 ^ i + B / 18446744073709551616 ^ i + carryW A B i := by
    unfold carryW
    generalize 18446744073709551616 ^ i = p at *
    have hA := Nat.div_add_mod A p
    have hB := Nat.div_add_mod B p
    have : A + B = (A % p + B % p) + p * (A / p + B / p) := by rw [Nat.mul_add]; omega
    rw [this, Nat.add_mul_div_left _ _ hp]
    omega
  rw [e]
  omega
theorem carryW_succ (A B i : Nat) : carryW A B (i + 1) = (A / 18446744073709551616 ^ i % 18446744073709551616 + B / 18446744073709551616 ^ i % 18446744073709551616 + carryW A B i) / 18446744073709551616 := by
  have hp : 0 < 18446744073709551616 ^ i := Nat.pow_pos (by omega)
  have e : carryW A B (i + 1) = (A % 18446744073709551616 ^ (i + 1) + B % 18446744073709551616 ^ (i + 1)) / 18446744073709551616 ^ (i + 1) := rfl
  rw [e, split_word A i, split_word B i, Nat.pow_succ, ← Nat.div_div_eq_div_mul]
  unfold carryW
  generalize A / 18446744073709551616 ^ i % 18446744073709551616 = x at *
  generalize B / 18446744073709551616 ^ i % 18446744073709551616 = y at *
  generalize 18446744073709551616 ^ i = p at *
  have : A % p + p * x + (B % p + p * y) = (A % p + B % p) + p * (x + y) := by rw [Nat.mul_add]; omega
  rw [this, Nat.add_mul_div_left _ _ hp]
  congr 1
  omega
theorem carryW_end (A B m : Nat) (hA : A < 18446744073709551616 ^ m) (hB : B < 18446744073709551616 ^ m) : carryW A B m = (A + B) / 18446744073709551616 ^ m % 18446744073709551616 := by
  have h1 := carryW_le A B m
  unfold carryW at *
  rw [Nat.mod_eq_of_lt hA, Nat.mod_eq_of_lt hB] at h1 ⊢
  exact (Nat.mod_eq_of_lt (by omega)).symm

/-! What is left -/
def borrowW (A B i : Nat) : Nat := if A % 18446744073709551616 ^ i < B % 18446744073709551616 ^ i then 1 else 0
theorem borrowW_zero (A B : Nat) : borrowW A B 0 = 0 := by simp [borrowW, Nat.mod_one]
theorem borrowW_le (A B i : Nat) : borrowW A B i ≤ 1 := by unfold borrowW; split <;> omega
/-- x + 2^64 - y - b, and whether it is below. -/
theorem borrowW_succ (A B i : Nat) : borrowW A B (i + 1) = if A / 18446744073709551616 ^ i % 18446744073709551616 < B / 18446744073709551616 ^ i % 18446744073709551616 + borrowW A B i then 1 else 0 := by
  have hp : 0 < 18446744073709551616 ^ i := Nat.pow_pos (by omega)
  have e : borrowW A B (i + 1) = if A % 18446744073709551616 ^ (i + 1) < B % 18446744073709551616 ^ (i + 1) then 1 else 0 := rfl
  rw [e, split_word A i, split_word B i]
  unfold borrowW
  have h1 := Nat.mod_lt A hp
  have h2 := Nat.mod_lt B hp
  generalize A / 18446744073709551616 ^ i % 18446744073709551616 = x at *
  generalize B / 18446744073709551616 ^ i % 18446744073709551616 = y at *
  generalize 18446744073709551616 ^ i = p at *
  generalize A % p = u at *
  generalize B % p = v at *
  rcases Nat.lt_trichotomy x y with h | h | h
  · have h3 : p * (x + 1) ≤ p * y := Nat.mul_le_mul_left _ h
    rw [Nat.mul_add, Nat.mul_one] at h3
    rw [if_pos (by omega), if_pos (by omega)]
  · subst h
    by_cases huv : u < v
    · rw [if_pos (by omega), if_pos huv, if_pos (by omega)]
    · rw [if_neg (by omega), if_neg huv, if_neg (by omega)]
  · have h3 : p * (y + 1) ≤ p * x := Nat.mul_le_mul_left _ h
    rw [Nat.mul_add, Nat.mul_one] at h3
    rw [if_neg (by omega)]
    by_cases huv : u < v
    · rw [if_pos huv, if_neg (by omega)]
    · rw [if_neg huv, if_neg (by omega)]
/-- What is left of A, with one in front lent. -/
def lentW (A B m : Nat) : Nat := A + 18446744073709551616 ^ m - B
theorem rest_word (A B m i : Nat) (hi : i < m) (_hA : A < 18446744073709551616 ^ m) (hB : B < 18446744073709551616 ^ m) :
    (A / 18446744073709551616 ^ i % 18446744073709551616 + 18446744073709551616 - B / 18446744073709551616 ^ i % 18446744073709551616 - borrowW A B i) % 18446744073709551616 = lentW A B m / 18446744073709551616 ^ i % 18446744073709551616 := by
  have hp : 0 < 18446744073709551616 ^ i := Nat.pow_pos (by omega)
  obtain ⟨d, rfl⟩ : ∃ d, m = i + 1 + d := ⟨m - (i + 1), by omega⟩
  have hm : (18446744073709551616 : Nat) ^ (i + 1 + d) = 18446744073709551616 ^ i * (18446744073709551616 * 18446744073709551616 ^ d) := by
    rw [Nat.pow_add, Nat.pow_succ, Nat.mul_assoc]
  unfold lentW borrowW
  rw [hm] at hB ⊢
  have hA := Nat.div_add_mod A (18446744073709551616 ^ i)
  have hBm := Nat.div_add_mod B (18446744073709551616 ^ i)
  have h1 := Nat.mod_lt A hp
  have h2 := Nat.mod_lt B hp
  have hBd : B / 18446744073709551616 ^ i < 18446744073709551616 * 18446744073709551616 ^ d := by
    rw [Nat.div_lt_iff_lt_mul hp, Nat.mul_comm]; exact hB
  generalize 18446744073709551616 ^ i = p at *
  generalize 18446744073709551616 ^ d = q at *
  generalize A / p = a at *
  generalize B / p = b at *
  generalize A % p = u at *
  generalize B % p = v at *
  have hq : 0 < q := by omega
  have hle : b + 1 ≤ a + 18446744073709551616 * q := by omega
  by_cases huv : u < v
  · rw [if_pos huv]
    have e : A + p * (18446744073709551616 * q) - B = (p + u - v) + p * (a + 18446744073709551616 * q - b - 1) := by
      obtain ⟨t, ht⟩ : ∃ t, a + 18446744073709551616 * q = b + 1 + t := ⟨a + 18446744073709551616 * q - (b + 1), by omega⟩
      have h3 : p * (a + 18446744073709551616 * q) = p * (b + 1 + t) := by rw [ht]
      rw [show a + 18446744073709551616 * q - b - 1 = t by omega]
      simp only [Nat.mul_add, Nat.mul_one] at h3
      omega
    rw [e, Nat.add_mul_div_left _ _ hp, Nat.div_eq_of_lt (by omega)]
    omega
  · rw [if_neg huv]
    have e : A + p * (18446744073709551616 * q) - B = (u - v) + p * (a + 18446744073709551616 * q - b) := by
      obtain ⟨t, ht⟩ : ∃ t, a + 18446744073709551616 * q = b + t := ⟨a + 18446744073709551616 * q - b, by omega⟩
      have h3 : p * (a + 18446744073709551616 * q) = p * (b + t) := by rw [ht]
      rw [show a + 18446744073709551616 * q - b = t by omega]
      simp only [Nat.mul_add] at h3
      omega
    rw [e, Nat.add_mul_div_left _ _ hp, Nat.div_eq_of_lt (by omega)]
    omega
theorem borrowW_end (A B m : Nat) (hA : A < 18446744073709551616 ^ m) (hB : B < 18446744073709551616 ^ m) : borrowW A B m = if A < B then 1 else 0 := by
  unfold borrowW
  rw [Nat.mod_eq_of_lt hA, Nat.mod_eq_of_lt hB]
theorem words_lent (A B m : Nat) (hA : A < 18446744073709551616 ^ m) (h : B ≤ A) : words m (lentW A B m) = words m (A - B) := by
  refine ext_nth _ _ (by simp [length_words]) fun j hj => ?_
  rw [length_words] at hj
  rw [nth_words _ _ _ hj, nth_words _ _ _ hj]
  obtain ⟨d, rfl⟩ : ∃ d, m = j + 1 + d := ⟨m - (j + 1), by omega⟩
  have hm : (18446744073709551616 : Nat) ^ (j + 1 + d) = 18446744073709551616 ^ j * (18446744073709551616 * 18446744073709551616 ^ d) := by
    rw [Nat.pow_add, Nat.pow_succ, Nat.mul_assoc]
  unfold lentW
  rw [hm, show A + 18446744073709551616 ^ j * (18446744073709551616 * 18446744073709551616 ^ d) - B = (A - B) + 18446744073709551616 ^ j * (18446744073709551616 * 18446744073709551616 ^ d) by omega,
    Nat.add_mul_div_left _ _ (Nat.pow_pos (by omega)), Nat.add_mul_mod_self_left]

/-! Shifts -/
/-- Word i, 0 below the first and behind the last. -/
def wordS (a : List Nat) (i : Int) : Nat := if i < 0 then 0 else nth a i.toNat
theorem wordS_nat (a : List Nat) (i : Nat) : wordS a (i : Int) = nth a i := by
  unfold wordS
  rw [if_neg (by omega), Int.toNat_natCast]
theorem wordS_neg (a : List Nat) (i : Int) (h : i < 0) : wordS a i = 0 := by simp [wordS, h]
theorem nth_lt (a : List Nat) (h : Words a) (j : Nat) : nth a j < 18446744073709551616 := by
  rw [nth_natOf a h]
  exact Nat.mod_lt _ (by omega)
theorem wordS_lt (a : List Nat) (h : Words a) (i : Int) : wordS a i < 18446744073709551616 := by
  unfold wordS
  split
  · omega
  · exact nth_lt a h _
theorem or_low (q t r : Nat) (hr : r < 64) (ht : t < 2 ^ r) : (q * 2 ^ r % 18446744073709551616) ||| t = (q * 2 ^ r + t) % 18446744073709551616 := by
  have e : (18446744073709551616 : Nat) = 2 ^ r * 2 ^ (64 - r) := by rw [← Nat.pow_add, show r + (64 - r) = 64 by omega]
  rw [e, Nat.mul_comm q, Nat.mul_mod_mul_left, ← Nat.two_pow_add_eq_or_of_lt ht]
  have hp : 0 < 2 ^ r := Nat.pow_pos (by omega)
  have h1 := Nat.mod_lt q (Nat.pow_pos (n := 64 - r) (show 0 < 2 by omega))
  have hq := Nat.div_add_mod q (2 ^ (64 - r))
  generalize 2 ^ (64 - r) = s at *
  generalize 2 ^ r = p at *
  have h2 : p * (q % s + 1) ≤ p * s := Nat.mul_le_mul_left _ h1
  rw [Nat.mul_add, Nat.mul_one] at h2
  conv => rhs; rw [← hq, Nat.mul_add, ← Nat.mul_assoc, Nat.add_assoc, Nat.mul_add_mod, Nat.mod_eq_of_lt (by omega)]
theorem shl_word (a : List Nat) (h : Words a) (j r : Nat) (hr : r < 64) :
    ((nth a j * 2 ^ r) % 18446744073709551616) ||| (wordS a ((j : Int) - 1) / 2 ^ (64 - r)) = natOf a * 2 ^ r / 18446744073709551616 ^ j % 18446744073709551616 := by
  have hp : 0 < 2 ^ r := Nat.pow_pos (by omega)
  have eB : (18446744073709551616 : Nat) = 2 ^ r * 2 ^ (64 - r) := by rw [← Nat.pow_add, show r + (64 - r) = 64 by omega]
  have hw := wordS_lt a h ((j : Int) - 1)
  have ht : wordS a ((j : Int) - 1) / 2 ^ (64 - r) < 2 ^ r := by
    rw [Nat.div_lt_iff_lt_mul (Nat.pow_pos (by omega)), ← eB]
    exact hw
  rw [or_low _ _ r hr ht, nth_natOf a h]
  have e1 : natOf a * 2 ^ r / 18446744073709551616 ^ j = natOf a / 18446744073709551616 ^ j * 2 ^ r + wordS a ((j : Int) - 1) / 2 ^ (64 - r) := by
    rcases j with _ | i
    · rw [wordS_neg a _ (by omega)]
      simp
    · rw [show ((i + 1 : Nat) : Int) - 1 = (i : Int) by omega, wordS_nat, nth_natOf a h]
      have hP : 0 < 18446744073709551616 ^ i := Nat.pow_pos (by omega)
      have hN := Nat.div_add_mod (natOf a) (18446744073709551616 ^ i)
      have hM := Nat.div_add_mod (natOf a / 18446744073709551616 ^ i) 18446744073709551616
      have hlow := Nat.mod_lt (natOf a) hP
      rw [Nat.pow_succ, ← Nat.div_div_eq_div_mul, ← Nat.div_div_eq_div_mul]
      generalize natOf a % 18446744073709551616 ^ i = p0 at *
      generalize hq : natOf a / 18446744073709551616 ^ i = q at *
      generalize hPP : 18446744073709551616 ^ i = P at *
      rw [← hN, Nat.add_mul, Nat.mul_assoc, Nat.mul_add_div hP]
      have he : p0 * 2 ^ r / P < 2 ^ r := by
        rw [Nat.div_lt_iff_lt_mul hP, Nat.mul_comm (2 ^ r)]
        exact Nat.mul_lt_mul_of_pos_right hlow hp
      generalize p0 * 2 ^ r / P = e at *
      conv => lhs; rw [eB, ← Nat.div_div_eq_div_mul, Nat.mul_comm q, Nat.mul_add_div hp, Nat.div_eq_of_lt he, Nat.add_zero]
      have hM' : q = 2 ^ (64 - r) * (q / 18446744073709551616 * 2 ^ r) + q % 18446744073709551616 := by
        have e3 : 18446744073709551616 * (q / 18446744073709551616) = 2 ^ (64 - r) * (q / 18446744073709551616 * 2 ^ r) := by
          generalize q / 18446744073709551616 = t
          rw [Nat.mul_comm t, ← Nat.mul_assoc, Nat.mul_comm (2 ^ (64 - r)), ← eB]
        rw [← e3, hM]
      conv => lhs; rw [hM']
      rw [Nat.mul_add_div (Nat.pow_pos (by omega))]
  rw [e1]
  have := Nat.mod_add_div (natOf a / 18446744073709551616 ^ j) 18446744073709551616
  generalize natOf a / 18446744073709551616 ^ j = q at *
  generalize wordS a ((j : Int) - 1) / 2 ^ (64 - r) = t at *
  conv => rhs; rw [← this, Nat.add_mul, Nat.mul_assoc, Nat.add_right_comm, Nat.add_mul_mod_self_left]
end Go.Proofs.Ytjimnepjheppgaa
