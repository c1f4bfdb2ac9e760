/- Plain facts on numbers to the bases 256 and 2^64: digits, how many bytes a number needs, words. No condition but those typed; no program is named. -/
import Derived.Test.YtjimnepjheppgaaWords
import Derived.Lib.BitFns
import Derived.Lib.ItoaNum
namespace Go.Proofs.Ytjimnepjheppgaa

/-- The number of words of 64 bits, the lowest first. -/
def natOf : List Nat → Nat
  | [] => 0
  | a :: r => a + 18446744073709551616 * natOf r
/-- Digit i to the base 256. -/
def dig (n i : Nat) : Nat := n / 256 ^ i % 256
/-- The lowest k digits to the base 256, the highest first. -/
def be : Nat → Nat → List Nat
  | 0, _ => []
  | k + 1, n => dig n k :: be k n
/-- The number whose digits to the base 256 these are, the highest first. -/
def val : List Nat → Nat
  | [] => 0
  | x :: r => x * 256 ^ r.length + val r
/-- How many bytes a number needs. -/
def blen (n : Nat) : Nat := if n = 0 then 0 else n.log2 / 8 + 1
/-- The lowest k words of a number, the lowest first. -/
def words : Nat → Nat → List Nat
  | 0, _ => []
  | k + 1, n => n % 18446744073709551616 :: words k (n / 18446744073709551616)

def Bytes (l : List Nat) : Prop := ∀ x ∈ l, x < 256
def Words (l : List Nat) : Prop := ∀ x ∈ l, x < 18446744073709551616

theorem dig_lt (n i : Nat) : dig n i < 256 := Nat.mod_lt _ (by omega)
theorem length_be (k n : Nat) : (be k n).length = k := by induction k with
  | zero => rfl
  | succ k ih => simp [be, ih]
theorem be_bytes (k n : Nat) : Bytes (be k n) := by
  induction k with
  | zero => intro x hx; simp [be] at hx
  | succ k ih =>
    intro x hx
    simp only [be, List.mem_cons] at hx
    rcases hx with rfl | hx
    · exact dig_lt n k
    · exact ih x hx
theorem val_append (l m : List Nat) : val (l ++ m) = val l * 256 ^ m.length + val m := by
  induction l with
  | nil => simp [val]
  | cons x r ih => simp only [List.cons_append, val, ih, List.length_append, Nat.pow_add, Nat.add_mul, Nat.mul_assoc, Nat.add_assoc]
theorem val_lt (l : List Nat) (h : Bytes l) : val l < 256 ^ l.length := by
  induction l with
  | nil => simp [val]
  | cons x r ih =>
    have hx : x < 256 := h x (by simp)
    have hr := ih fun y hy => h y (by simp [hy])
    have hm : x * 256 ^ r.length ≤ 255 * 256 ^ r.length := Nat.mul_le_mul_right _ (by omega)
    simp only [val, List.length_cons, Nat.pow_succ]
    omega
theorem val_be (k n : Nat) : val (be k n) = n % 256 ^ k := by
  induction k with
  | zero => simp [be, val, Nat.mod_one]
  | succ k ih => rw [be, val, length_be, ih, Nat.mod_pow_succ, dig, Nat.mul_comm]; omega
theorem dig_mod (n k i : Nat) (h : i < k) : dig (n % 256 ^ k) i = dig n i := by
  obtain ⟨d, rfl⟩ : ∃ d, k = i + 1 + d := ⟨k - (i + 1), by omega⟩
  unfold dig
  rw [Nat.pow_add 256 (i + 1) d, Nat.pow_succ, Nat.mul_assoc, Nat.mod_mul_right_div_self, Nat.mod_mul_right_mod]
theorem be_mod (n k j : Nat) (h : j ≤ k) : be j (n % 256 ^ k) = be j n := by
  induction j with
  | zero => rfl
  | succ j ih => simp only [be]; rw [dig_mod n k j (by omega), ih (by omega)]
theorem be_val (l : List Nat) (h : Bytes l) : be l.length (val l) = l := by
  induction l with
  | nil => rfl
  | cons x r ih =>
    have hx : x < 256 := h x (by simp)
    have hb : Bytes r := fun y hy => h y (by simp [hy])
    have hr := val_lt r hb
    have hp : 0 < 256 ^ r.length := Nat.pow_pos (by omega)
    have h1 : dig (x * 256 ^ r.length + val r) r.length = x := by
      unfold dig
      rw [Nat.add_comm, Nat.add_mul_div_right _ _ hp, Nat.div_eq_of_lt hr]
      omega
    have h2 : (x * 256 ^ r.length + val r) % 256 ^ r.length = val r := by
      rw [Nat.add_comm, Nat.add_mul_mod_self_right, Nat.mod_eq_of_lt hr]
    simp only [List.length_cons, be, val]
    rw [h1, ← be_mod _ r.length _ (Nat.le_refl _), h2, ih hb]

theorem pow_256 (k : Nat) : (256 : Nat) ^ k = 2 ^ (8 * k) := by rw [Nat.pow_mul]
theorem pow_64 (k : Nat) : (18446744073709551616 : Nat) ^ k = 256 ^ (8 * k) := by rw [Nat.pow_mul]
theorem blen_lt (n : Nat) : n < 256 ^ blen n := by
  unfold blen
  by_cases h : n = 0
  · simp [h]
  · rw [if_neg h, pow_256]
    exact (Nat.log2_lt h).1 (by omega)
theorem blen_le (n : Nat) (h : n ≠ 0) : 256 ^ (blen n - 1) ≤ n := by
  unfold blen
  rw [if_neg h, pow_256]
  exact (Nat.le_log2 h).1 (by omega)
theorem blen_eq (n k : Nat) (h : n < 256 ^ k) (h' : k ≠ 0 → 256 ^ (k - 1) ≤ n) : blen n = k := by
  by_cases hn : n = 0
  · by_cases hk : k = 0
    · simp [blen, hn, hk]
    · have := h' hk
      have hp : 0 < 256 ^ (k - 1) := Nat.pow_pos (by omega)
      omega
  · have h1 := blen_lt n
    have h2 := blen_le n hn
    rcases Nat.lt_trichotomy (blen n) k with hlt | he | hgt
    · have h3 := h' (by omega)
      have h4 : 256 ^ blen n ≤ 256 ^ (k - 1) := Nat.pow_le_pow_right (by omega) (by omega)
      omega
    · exact he
    · have h4 : 256 ^ k ≤ 256 ^ (blen n - 1) := Nat.pow_le_pow_right (by omega) (by omega)
      omega
theorem blen_zero : blen 0 = 0 := by simp [blen]
theorem blen_val (x : Nat) (r : List Nat) (h : Bytes (x :: r)) (hx : x ≠ 0) : blen (val (x :: r)) = (x :: r).length := by
  refine blen_eq _ _ (val_lt _ h) fun _ => ?_
  simp only [val, List.length_cons, Nat.add_sub_cancel]
  have : 1 * 256 ^ r.length ≤ x * 256 ^ r.length := Nat.mul_le_mul_right _ (by omega)
  omega

theorem natOf_lt (l : List Nat) (h : Words l) : natOf l < 18446744073709551616 ^ l.length := by
  induction l with
  | nil => simp [natOf]
  | cons x r ih =>
    have hx : x < 18446744073709551616 := h x (by simp)
    have hr := ih fun y hy => h y (by simp [hy])
    simp only [natOf, List.length_cons, Nat.pow_succ]
    generalize 18446744073709551616 ^ r.length = p at *
    omega
theorem nth_natOf (l : List Nat) (h : Words l) (j : Nat) : nth l j = natOf l / 18446744073709551616 ^ j % 18446744073709551616 := by
  induction l generalizing j with
  | nil => simp [nth, natOf]
  | cons x r ih =>
    have hx : x < 18446744073709551616 := h x (by simp)
    have hr := ih fun y hy => h y (by simp [hy])
    cases j with
    | zero => simp [nth, natOf]; omega
    | succ j =>
      have := hr j
      simp only [natOf, Nat.pow_succ]
      rw [Nat.mul_comm (18446744073709551616 ^ j), ← Nat.div_div_eq_div_mul, show (x + 18446744073709551616 * natOf r) / 18446744073709551616 = natOf r by omega, ← this]
      simp [nth]
theorem length_words (k n : Nat) : (words k n).length = k := by
  induction k generalizing n with
  | zero => rfl
  | succ k ih => simp [words, ih]
theorem words_words (k n : Nat) : Words (words k n) := by
  induction k generalizing n with
  | zero => intro x hx; simp [words] at hx
  | succ k ih =>
    intro x hx
    simp only [words, List.mem_cons] at hx
    rcases hx with rfl | hx
    · exact Nat.mod_lt _ (by omega)
    · exact ih _ x hx
theorem natOf_words (k n : Nat) : natOf (words k n) = n % 18446744073709551616 ^ k := by
  induction k generalizing n with
  | zero => simp [words, natOf, Nat.mod_one]
  | succ k ih => rw [words, natOf, ih, Nat.pow_succ, Nat.mul_comm (18446744073709551616 ^ k), Nat.mod_mul]
theorem nth_words (k n j : Nat) (h : j < k) : nth (words k n) j = n / 18446744073709551616 ^ j % 18446744073709551616 := by
  induction k generalizing n j with
  | zero => omega
  | succ k ih =>
    cases j with
    | zero => simp [words, nth]
    | succ j =>
      have := ih (n / 18446744073709551616) j (by omega)
      rw [Nat.pow_succ, Nat.mul_comm, ← Nat.div_div_eq_div_mul, ← this]
      simp [words, nth]
theorem ext_nth (l m : List Nat) (h : l.length = m.length) (h' : ∀ j, j < l.length → nth l j = nth m j) : l = m := by
  refine List.ext_getElem h fun j h1 h2 => ?_
  have := h' j h1
  rwa [nth_eq l j h1, nth_eq m j h2] at this
/-- Words that may be are those of their number. -/
theorem words_natOf (l : List Nat) (h : Words l) : words l.length (natOf l) = l :=
  ext_nth _ _ (length_words _ _) fun j hj => by
    rw [length_words] at hj
    rw [nth_words _ _ _ hj, nth_natOf l h]
/-- A byte of a word is a byte of the number. -/
theorem byte_of_word (n i : Nat) : n / 18446744073709551616 ^ (i / 8) % 18446744073709551616 / 256 ^ (i % 8) % 256 = dig n i := by
  have h8 : i % 8 < 8 := Nat.mod_lt _ (by omega)
  obtain ⟨d, hd⟩ : ∃ d, 8 = i % 8 + (1 + d) := ⟨7 - i % 8, by omega⟩
  have e : (18446744073709551616 : Nat) = 256 ^ (i % 8) * (256 * 256 ^ d) := by
    rw [show (18446744073709551616 : Nat) = 256 ^ 8 from rfl]
    conv => lhs; rw [hd, Nat.pow_add, Nat.pow_add, Nat.pow_one]
  have e2 : n / 18446744073709551616 ^ (i / 8) % 18446744073709551616 / 256 ^ (i % 8) = n / 18446744073709551616 ^ (i / 8) / 256 ^ (i % 8) % (256 * 256 ^ d) := by
    conv => lhs; arg 1; arg 2; rw [e]
    rw [Nat.mod_mul_right_div_self]
  rw [e2, Nat.mod_mul_right_mod, Nat.div_div_eq_div_mul, pow_64, ← Nat.pow_add, dig]
  congr 3
  omega
theorem natOf_none (l : List Nat) (h : ∀ j, nth l j = 0) : natOf l = 0 := by
  induction l with
  | nil => rfl
  | cons x r ih =>
    have h0 : x = 0 := h 0
    have := ih fun j => h (j + 1)
    simp [natOf, h0, this]
theorem natOf_append (l m : List Nat) : natOf (l ++ m) = natOf l + 18446744073709551616 ^ l.length * natOf m := by
  induction l with
  | nil => simp [natOf]
  | cons x r ih =>
    simp only [List.cons_append, natOf, ih, List.length_cons, Nat.pow_succ, Nat.mul_add]
    rw [Nat.mul_right_comm, Nat.mul_comm 18446744073709551616 (18446744073709551616 ^ r.length * natOf m), Nat.add_assoc]
theorem nth_drop (l : List Nat) (k j : Nat) : nth (l.drop k) j = nth l (k + j) := by simp [nth, List.getElem?_drop]
theorem natOf_top (l : List Nat) (m : Nat) (hm : m < l.length) (hz : ∀ j, m + 1 ≤ j → nth l j = 0) :
    natOf l = natOf (l.take m) + 18446744073709551616 ^ m * nth l m := by
  have h1 : l = l.take m ++ (nth l m :: l.drop (m + 1)) := by
    rw [nth_eq l m hm, List.getElem_cons_drop, List.take_append_drop]
  have h2 : natOf (l.drop (m + 1)) = 0 := natOf_none _ fun j => by rw [nth_drop]; exact hz _ (by omega)
  have h3 : (l.take m).length = m := by simp; omega
  conv => lhs; rw [h1]
  rw [natOf_append, natOf, h2, h3]
  simp
theorem Words.take {l : List Nat} (h : Words l) (k : Nat) : Words (l.take k) := fun x hx => h x (List.mem_of_mem_take hx)
theorem blen_hit (l : List Nat) (hw : Words l) (m : Nat) (hm : m < l.length) (hx : nth l m ≠ 0) (hz : ∀ j, m + 1 ≤ j → nth l j = 0) :
    blen (natOf l) = m * 8 + (Lib.bitLen (nth l m) + 7) / 8 := by
  have hlt := hw _ (nth_mem l m hm)
  obtain ⟨b1, b2, b3⟩ := Lib.bitLenAux_bounds 64 (nth l m) hlt hx
  have hlow : natOf (l.take m) < 18446744073709551616 ^ m := by
    have := natOf_lt _ (hw.take m)
    rwa [List.length_take, Nat.min_eq_left (by omega)] at this
  rw [natOf_top l m hm hz]
  generalize nth l m = x at *
  have e : Lib.bitLen x = Lib.bitLenAux 64 x := rfl
  rw [e]
  generalize Lib.bitLenAux 64 x = bl at *
  have ht1 : x < 256 ^ ((bl + 7) / 8) := by
    rw [pow_256]
    exact Nat.lt_of_lt_of_le b3 (Nat.pow_le_pow_right (by omega) (by omega))
  have ht2 : 256 ^ ((bl + 7) / 8 - 1) ≤ x := by
    rw [pow_256]
    exact Nat.le_trans (Nat.pow_le_pow_right (by omega) (by omega)) b2
  have ep : (18446744073709551616 : Nat) ^ m = 256 ^ (m * 8) := by rw [pow_64, Nat.mul_comm]
  refine blen_eq _ _ ?_ fun _ => ?_
  · rw [Nat.pow_add, ← ep]
    have : 18446744073709551616 ^ m * (x + 1) ≤ 18446744073709551616 ^ m * 256 ^ ((bl + 7) / 8) := Nat.mul_le_mul_left _ ht1
    rw [Nat.mul_add, Nat.mul_one] at this
    omega
  · rw [show m * 8 + (bl + 7) / 8 - 1 = m * 8 + ((bl + 7) / 8 - 1) by omega, Nat.pow_add, ← ep]
    have : 18446744073709551616 ^ m * 256 ^ ((bl + 7) / 8 - 1) ≤ 18446744073709551616 ^ m * x := Nat.mul_le_mul_left _ ht2
    omega
theorem dig_int (n m : Nat) : (n : Int) / 2 ^ (8 * m) % 256 = (dig n m : Int) := by
  unfold dig
  rw [pow_256]
  simp
theorem val_snoc (l : List Nat) (x : Nat) : val (l ++ [x]) = val l * 256 + x := by rw [val_append]; simp [val]
theorem take_drop_succ (l : List Nat) (i k : Nat) (h : i + k < l.length) : (l.drop i).take (k + 1) = (l.drop i).take k ++ [nth l (i + k)] := by
  rw [List.take_succ_eq_append_getElem (by simp; omega), List.getElem_drop, nth_eq l _ h]
theorem Bytes.drop {l : List Nat} (h : Bytes l) (k : Nat) : Bytes (l.drop k) := fun x hx => h x (List.mem_of_mem_drop hx)
theorem Bytes.take {l : List Nat} (h : Bytes l) (k : Nat) : Bytes (l.take k) := fun x hx => h x (List.mem_of_mem_take hx)
theorem val_part_lt (l : List Nat) (h : Bytes l) (i k : Nat) : val ((l.drop i).take k) < 256 ^ k :=
  Nat.lt_of_lt_of_le (val_lt _ ((h.drop i).take k)) (Nat.pow_le_pow_right (by omega) (by simp; omega))
/-- n << 8 | x -/
theorem shl8_or (V x : Nat) (hV : V < 72057594037927936) (hx : x < 256) : bits .or .u64 ((V : Int) * 256) (x : Int) = ((V * 256 + x : Nat) : Int) := by
  rw [show ((V : Int) * 256) = ((V * 256 : Nat) : Int) by omega, u64_or_nat _ _ (by omega) (by omega), nat_join 8 _ _ (by simp) hx]
theorem bitLen_le64 (x : Nat) (h : x < 18446744073709551616) : Lib.bitLen x ≤ 64 := Lib.bitLen_le x 64 (by omega) h
/-- A long number as bytes. -/
def long (n : Nat) : List Nat := be 2 (blen n) ++ be (blen n) n
theorem length_long (n : Nat) : (long n).length = 2 + blen n := by simp [long, length_be]
theorem word_byte (l : List Nat) (h : Words l) (i : Nat) : nth l (i / 8) / 256 ^ (i % 8) % 256 = dig (natOf l) i := by rw [nth_natOf l h, byte_of_word]
theorem word_byte_int (l : List Nat) (h : Words l) (i : Nat) : (nth l (i / 8) : Int) / 2 ^ (8 * (i % 8)) % 256 = (dig (natOf l) i : Int) := by
  rw [dig_int, dig, word_byte l h]
theorem blen_natOf (l : List Nat) (h : Words l) : blen (natOf l) ≤ 8 * l.length := by
  rcases Nat.lt_or_ge (8 * l.length) (blen (natOf l)) with h1 | h1
  · have h2 := natOf_lt l h
    rw [pow_64] at h2
    have hn : natOf l ≠ 0 := fun e => by rw [e, blen_zero] at h1; omega
    have h3 := blen_le (natOf l) hn
    have h4 : 256 ^ (8 * l.length) ≤ 256 ^ (blen (natOf l) - 1) := Nat.pow_le_pow_right (by omega) (by omega)
    omega
  · exact h1
theorem words_none (k : Nat) : words k 0 = List.replicate k 0 := by
  induction k with
  | zero => rfl
  | succ k ih => simp [words, ih, List.replicate_succ]
theorem nth_set (l : List Nat) (j y q : Nat) (h : j < l.length) : nth (l.set j y) q = if q = j then y else nth l q := by
  unfold nth
  by_cases e : q = j
  · subst e; simp [h]
  · rw [if_neg e, List.getD_eq_getElem?_getD, List.getD_eq_getElem?_getD, List.getElem?_set_ne (fun h => e h.symm)]
theorem natOf_set (l : List Nat) (j d : Nat) (h : j < l.length) : natOf (l.set j (nth l j + d)) = natOf l + 18446744073709551616 ^ j * d := by
  induction l generalizing j with
  | nil => simp at h
  | cons x r ih =>
    cases j with
    | zero => simp [natOf, nth]; omega
    | succ j =>
      have := ih j (by simpa using h)
      have e : nth (x :: r) (j + 1) = nth r j := by simp [nth]
      rw [e, List.set_cons_succ, natOf, this, natOf, Nat.pow_succ, Nat.mul_add, Nat.mul_comm (18446744073709551616 ^ j) 18446744073709551616, Nat.mul_assoc]
      omega
theorem mem_set {l : List Nat} {j y x : Nat} (h : x ∈ l.set j y) : x = y ∨ x ∈ l := by
  rcases List.mem_or_eq_of_mem_set h with h | h
  · exact .inr h
  · exact .inl h
/-- a[i/8] |= uint64(x) << (8 * (i % 8)), the bytes from i on being there. -/
theorem words_or (K M m x : Nat) (hx : x < 256) (hj : m / 8 < K) (hK : M * 256 ^ (m + 1) + x * 256 ^ m < 18446744073709551616 ^ K) :
    (words K (M * 256 ^ (m + 1))).set (m / 8) (nth (words K (M * 256 ^ (m + 1))) (m / 8) ||| x * 2 ^ (8 * (m % 8))) = words K ((M * 256 + x) * 256 ^ m) := by
  have hr : m % 8 < 8 := Nat.mod_lt _ (by omega)
  have em : m = 8 * (m / 8) + m % 8 := by omega
  have hV : M * 256 ^ (m + 1) < 18446744073709551616 ^ K := by omega
  have ew := nth_words K (M * 256 ^ (m + 1)) (m / 8) hj
  have hd : nth (words K (M * 256 ^ (m + 1))) (m / 8) % 2 ^ (8 * (m % 8 + 1)) = 0 := by
    rw [ew, ← pow_256]
    have e1 : M * 256 ^ (m + 1) / 18446744073709551616 ^ (m / 8) = M * 256 ^ (m % 8 + 1) := by
      rw [pow_64]
      conv => lhs; arg 1; rw [show m + 1 = m % 8 + 1 + 8 * (m / 8) by omega, Nat.pow_add, ← Nat.mul_assoc]
      exact Nat.mul_div_cancel _ (Nat.pow_pos (by omega))
    rw [e1, Nat.mod_mod_of_dvd _ (show (256 : Nat) ^ (m % 8 + 1) ∣ 18446744073709551616 from Nat.pow_dvd_pow 256 (show m % 8 + 1 ≤ 8 by omega))]
    simp
  have hy : x * 2 ^ (8 * (m % 8)) < 2 ^ (8 * (m % 8 + 1)) := by
    rw [Nat.mul_add, Nat.pow_add, Nat.mul_comm]
    exact Nat.mul_lt_mul_of_pos_left hx (Nat.pow_pos (by omega))
  have hlt : nth (words K (M * 256 ^ (m + 1))) (m / 8) ||| x * 2 ^ (8 * (m % 8)) < 18446744073709551616 := by
    refine Nat.or_lt_two_pow (n := 64) ?_ (Nat.lt_of_lt_of_le hy (Nat.pow_le_pow_right (by omega) (by omega)))
    exact words_words K _ _ (nth_mem _ _ (by rw [length_words]; exact hj))
  have ha := nat_join (8 * (m % 8 + 1)) _ _ hd hy
  rw [ha] at hlt ⊢
  have hw : Words ((words K (M * 256 ^ (m + 1))).set (m / 8) (nth (words K (M * 256 ^ (m + 1))) (m / 8) + x * 2 ^ (8 * (m % 8)))) := fun y hy => by
    rcases mem_set hy with rfl | h
    · exact hlt
    · exact words_words _ _ y h
  have hf := words_natOf _ hw
  rw [List.length_set, length_words, natOf_set _ _ _ (by rw [length_words]; exact hj), natOf_words, Nat.mod_eq_of_lt hV] at hf
  rw [← hf]
  congr 1
  rw [← pow_256, pow_64, Nat.add_mul, Nat.mul_assoc, ← Nat.pow_succ', Nat.mul_left_comm, ← Nat.pow_add, ← em]
/-- a | x << (8 * r) -/
theorem shl_or_word (a x r : Nat) (ha : a < 18446744073709551616) (hx : x < 256) (hr : r < 8) :
    bits .or .u64 (a : Int) (IntKind.u64.wrap ((x : Int) * 2 ^ (8 * r))) = ((a ||| x * 2 ^ (8 * r) : Nat) : Int) := by
  have h1 : x * 2 ^ (8 * r) < 18446744073709551616 := by
    have h2 : x * 2 ^ (8 * r) ≤ 255 * 2 ^ (8 * r) := Nat.mul_le_mul_right _ (by omega)
    have h3 : 255 * 2 ^ (8 * r) ≤ 255 * 2 ^ 56 := Nat.mul_le_mul_left _ (Nat.pow_le_pow_right (by omega) (by omega))
    omega
  have e : ((x : Int) * 2 ^ (8 * r)) = ((x * 2 ^ (8 * r) : Nat) : Int) := by simp
  rw [e, IntKind.wrap_u64]
  generalize x * 2 ^ (8 * r) = y at *
  rw [show ((y : Int) % 18446744073709551616) = (y : Int) by omega, u64_or_nat _ _ ha h1]
theorem ints_set (k : IntKind) (l : List Nat) (j y : Nat) : (ints k l).set j (.int k (y : Int)) = ints k (l.set j y) := by simp [ints, List.map_set]
/-- A byte more, from above. -/
theorem words_step (l : List Nat) (i n m : Nat) (hby : Bytes l) (hn : m + 1 ≤ n) (hlt : i + (n - (m + 1)) < l.length) :
    (words ((n + 7) / 8) (val ((l.drop i).take (n - (m + 1))) * 256 ^ (m + 1))).set (m / 8)
      (nth (words ((n + 7) / 8) (val ((l.drop i).take (n - (m + 1))) * 256 ^ (m + 1))) (m / 8) ||| nth l (i + (n - (m + 1))) * 2 ^ (8 * (m % 8))) =
    words ((n + 7) / 8) (val ((l.drop i).take (n - m)) * 256 ^ m) := by
  have hx := hby _ (nth_mem l (i + (n - (m + 1))) hlt)
  have hM := val_part_lt l hby i (n - (m + 1))
  rw [words_or _ _ m _ hx (by omega), show n - m = n - (m + 1) + 1 by omega, take_drop_succ l i _ hlt, val_snoc]
  generalize val ((l.drop i).take (n - (m + 1))) = M at *
  generalize nth l (i + (n - (m + 1))) = x at *
  have h1 : M * 256 ^ (m + 1) + x * 256 ^ m = (M * 256 + x) * 256 ^ m := by rw [Nat.pow_succ', Nat.add_mul, Nat.mul_assoc]
  have h2 : M * 256 + x < 256 ^ (n - (m + 1) + 1) := by rw [Nat.pow_succ]; omega
  rw [h1, pow_64]
  refine Nat.lt_of_lt_of_le (Nat.mul_lt_mul_of_pos_right h2 (Nat.pow_pos (by omega))) ?_
  rw [← Nat.pow_add]
  exact Nat.pow_le_pow_right (by omega) (by omega)
theorem natOf_replicate (k : Nat) : natOf (List.replicate k 0) = 0 := by rw [← words_none, natOf_words]; simp
/-- The number whose one word that is not 0 is the last, a power of 256. -/
theorem natOf_pow (n : Nat) (h : 1 ≤ n) : natOf ((List.replicate ((n + 7) / 8) 0).set ((n + 7) / 8 - 1) (2 ^ (8 * ((n - 1) % 8)))) = 256 ^ (n - 1) := by
  have hl : (n + 7) / 8 - 1 < (List.replicate ((n + 7) / 8) 0).length := by simp; omega
  have h0 : nth (List.replicate ((n + 7) / 8) 0) ((n + 7) / 8 - 1) = 0 := by
    rw [nth_eq _ _ hl]; simp
  have := natOf_set (List.replicate ((n + 7) / 8) 0) ((n + 7) / 8 - 1) (2 ^ (8 * ((n - 1) % 8))) hl
  rw [h0, Nat.zero_add, natOf_replicate, Nat.zero_add] at this
  rw [this, ← pow_256, pow_64, ← Nat.pow_add]
  congr 1
  omega
theorem blen_pow (n : Nat) (h : 1 ≤ n) : blen (256 ^ (n - 1)) = n :=
  blen_eq _ _ (Nat.pow_lt_pow_right (by omega) (by omega)) fun _ => Nat.le_refl _

theorem natOf_ext (a b : List Nat) (h : ∀ j, nth a j = nth b j) : natOf a = natOf b := by
  induction a generalizing b with
  | nil => rw [natOf_none b fun j => (h j).symm]; rfl
  | cons x r ih =>
    cases b with
    | nil => rw [natOf_none (x :: r) h]; rfl
    | cons y s =>
      have h0 : x = y := h 0
      have := ih s fun j => h (j + 1)
      simp [natOf, h0, this]
theorem natOf_parts (l : List Nat) (k : Nat) : natOf l = natOf (l.take k) + 18446744073709551616 ^ k * natOf (l.drop k) := by
  rcases Nat.lt_or_ge l.length k with h | h
  · rw [List.take_of_length_le (by omega), List.drop_eq_nil_of_le (by omega)]
    simp [natOf]
  · have := natOf_append (l.take k) (l.drop k)
    rwa [List.take_append_drop, List.length_take, Nat.min_eq_left h] at this
theorem natOf_take_lt (l : List Nat) (h : Words l) (k : Nat) : natOf (l.take k) < 18446744073709551616 ^ k :=
  Nat.lt_of_lt_of_le (natOf_lt _ (h.take k)) (Nat.pow_le_pow_right (by omega) (by simp; omega))
theorem natOf_take_succ (l : List Nat) (k : Nat) : natOf (l.take (k + 1)) = natOf (l.take k) + 18446744073709551616 ^ k * nth l k := by
  rcases Nat.lt_or_ge k l.length with h | h
  · rw [List.take_succ_eq_append_getElem h, natOf_append, ← nth_eq l k h, List.length_take, Nat.min_eq_left (by omega)]
    simp [natOf]
  · rw [List.take_of_length_le (by omega), List.take_of_length_le (by omega), show nth l k = 0 by simp [nth, h]]
    simp
/-- The highest word that differs decides. -/
theorem natOf_less (a b : List Nat) (ha : Words a) (m : Nat) (h : ∀ j, m + 1 ≤ j → nth a j = nth b j) (hlt : nth a m < nth b m) : natOf a < natOf b := by
  have e : natOf (a.drop (m + 1)) = natOf (b.drop (m + 1)) := natOf_ext _ _ fun j => by rw [nth_drop, nth_drop]; exact h _ (by omega)
  have h1 := natOf_take_lt a ha m
  rw [natOf_parts a (m + 1), natOf_parts b (m + 1), e, natOf_take_succ, natOf_take_succ]
  have h2 : 18446744073709551616 ^ m * (nth a m + 1) ≤ 18446744073709551616 ^ m * nth b m := Nat.mul_le_mul_left _ hlt
  rw [Nat.mul_add, Nat.mul_one] at h2
  omega

theorem ofNat_lt (x y : Nat) (hx : x < 256) (hy : y < 256) : (UInt8.ofNat x < UInt8.ofNat y) ↔ x < y := by
  rw [UInt8.lt_iff_toNat_lt, UInt8.toNat_ofNat', UInt8.toNat_ofNat', Nat.mod_eq_of_lt (by simpa using hx), Nat.mod_eq_of_lt (by simpa using hy)]
theorem ofNat_eq (x y : Nat) (hx : x < 256) (hy : y < 256) : (UInt8.ofNat x = UInt8.ofNat y) ↔ x = y := by
  rw [← UInt8.toNat_inj, UInt8.toNat_ofNat', UInt8.toNat_ofNat', Nat.mod_eq_of_lt (by simpa using hx), Nat.mod_eq_of_lt (by simpa using hy)]
theorem map_ofNat_inj (l m : List Nat) (hl : Bytes l) (hm : Bytes m) : l.map UInt8.ofNat = m.map UInt8.ofNat ↔ l = m := by
  induction l generalizing m with
  | nil => cases m <;> simp
  | cons x r ih =>
    cases m with
    | nil => simp
    | cons y s =>
      have := ih s (fun z hz => hl z (by simp [hz])) (fun z hz => hm z (by simp [hz]))
      simp only [List.map_cons, List.cons.injEq, this, ofNat_eq x y (hl x (by simp)) (hm y (by simp))]
/-- Of as many bytes the order is that of the numbers. -/
theorem less_val (l m : List Nat) (hl : Bytes l) (hm : Bytes m) (he : l.length = m.length) : Op.bytesLess (l.map UInt8.ofNat) (m.map UInt8.ofNat) = decide (val l < val m) := by
  induction l generalizing m with
  | nil => cases m <;> simp_all [Op.bytesLess]
  | cons x r ih =>
    cases m with
    | nil => simp at he
    | cons y s =>
      have hx := hl x (by simp)
      have hy := hm y (by simp)
      have hr : Bytes r := fun z hz => hl z (by simp [hz])
      have hs : Bytes s := fun z hz => hm z (by simp [hz])
      have hn : r.length = s.length := by simpa using he
      have h1 := ih s hr hs hn
      have v1 := val_lt r hr
      have v2 := val_lt s hs
      rw [← hn] at v2
      simp only [List.map_cons, Op.bytesLess, h1, val, ← hn]
      rw [Bool.eq_iff_iff]
      simp only [Bool.or_eq_true, Bool.and_eq_true, decide_eq_true_eq, beq_iff_eq, ofNat_lt x y hx hy, ofNat_eq x y hx hy]
      rcases Nat.lt_trichotomy x y with h | rfl | h
      · have : (x + 1) * 256 ^ r.length ≤ y * 256 ^ r.length := Nat.mul_le_mul_right _ h
        rw [Nat.add_mul, Nat.one_mul] at this
        exact ⟨fun _ => by omega, fun _ => .inl h⟩
      · simp
      · have : (y + 1) * 256 ^ r.length ≤ x * 256 ^ r.length := Nat.mul_le_mul_right _ h
        rw [Nat.add_mul, Nat.one_mul] at this
        exact ⟨fun h' => by omega, fun h' => by omega⟩
theorem less_append (l m x y : List UInt8) (h : l.length = m.length) : Op.bytesLess (l ++ x) (m ++ y) = (Op.bytesLess l m || (l == m && Op.bytesLess x y)) := by
  induction l generalizing m with
  | nil => cases m <;> simp_all [Op.bytesLess]
  | cons a r ih =>
    cases m with
    | nil => simp at h
    | cons b s =>
      have := ih s (by simpa using h)
      simp only [List.cons_append, Op.bytesLess, this, List.cons_beq_cons]
      generalize (a == b) = p
      cases p <;> simp [Bool.or_assoc]
theorem blen_mono {a b : Nat} (h : blen a < blen b) : a < b := by
  have h1 := blen_lt a
  have hb : b ≠ 0 := fun e => by rw [e, blen_zero] at h; omega
  have h2 := blen_le b hb
  have h3 : 256 ^ blen a ≤ 256 ^ (blen b - 1) := Nat.pow_le_pow_right (by omega) (by omega)
  omega
theorem long_bytes (n : Nat) : Bytes (long n) := fun x hx => by
  rcases List.mem_append.1 hx with h | h
  · exact be_bytes _ _ x h
  · exact be_bytes _ _ x h
/-- Long numbers stand in the order of their bytes. -/
theorem long_less (a b : Nat) (ha : blen a < 65536) (hb : blen b < 65536) : Op.bytesLess ((long a).map UInt8.ofNat) ((long b).map UInt8.ofNat) = decide (a < b) := by
  unfold long
  rw [List.map_append, List.map_append, less_append _ _ _ _ (by simp [length_be]), less_val _ _ (be_bytes _ _) (be_bytes _ _) (by simp [length_be]), val_be, val_be, Nat.mod_eq_of_lt (by simpa using ha), Nat.mod_eq_of_lt (by simpa using hb)]
  rw [Bool.eq_iff_iff]
  simp only [Bool.or_eq_true, Bool.and_eq_true, decide_eq_true_eq, beq_iff_eq, map_ofNat_inj _ _ (be_bytes _ _) (be_bytes _ _)]
  rcases Nat.lt_trichotomy (blen a) (blen b) with h | h | h
  · exact ⟨fun _ => blen_mono h, fun _ => .inl h⟩
  · rw [← h, less_val _ _ (be_bytes _ _) (be_bytes _ _) (by simp [length_be]), val_be, val_be, Nat.mod_eq_of_lt (blen_lt a), Nat.mod_eq_of_lt (by rw [h]; exact blen_lt b)]
    simp
  · have := blen_mono h
    refine ⟨fun h' => ?_, fun h' => by omega⟩
    rcases h' with h' | ⟨h', _⟩
    · omega
    · have e := congrArg val h'
      rw [val_be, val_be, Nat.mod_eq_of_lt (by simpa using ha), Nat.mod_eq_of_lt (by simpa using hb)] at e
      omega
end Go.Proofs.Ytjimnepjheppgaa
