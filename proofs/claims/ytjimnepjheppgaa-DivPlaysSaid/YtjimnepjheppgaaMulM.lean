/- Plain facts on products of words: a word more, with what is carried; the product of halves. No condition but those typed; no program is named. -/
import Derived.Test.YtjimnepjheppgaaNatM
namespace Go.Proofs.Ytjimnepjheppgaa

theorem natOf_put (l : List Nat) (j y : Nat) (h : j < l.length) : natOf (l.set j y) + 18446744073709551616 ^ j * nth l j = natOf l + 18446744073709551616 ^ j * y := by
  induction l generalizing j with
  | nil => simp at h
  | cons x r ih =>
    cases j with
    | zero => simp [natOf, nth]; omega
    | succ j =>
      have := ih j (by simpa using h)
      have e : nth (x :: r) (j + 1) = nth r j := by simp [nth]
      rw [e, List.set_cons_succ, natOf, natOf, Nat.pow_succ, Nat.mul_comm (18446744073709551616 ^ j) 18446744073709551616, Nat.mul_assoc, Nat.mul_assoc]
      omega
theorem words_put (l : List Nat) (h : Words l) (j y : Nat) (hy : y < 18446744073709551616) : Words (l.set j y) := fun x hx => by
  rcases mem_set hx with rfl | hx
  · exact hy
  · exact h x hx
theorem words_of (l : List Nat) (h : Words l) (K V : Nat) (hl : l.length = K) (hv : natOf l = V) : l = words K V := by
  subst hl
  subst hv
  exact (words_natOf l h).symm

/-- Words whose number, with c more from place p on, is V; noughts from q on. -/
structure Sums (K q p c V : Nat) (L : List Nat) : Prop where
  len : L.length = K
  words : Words L
  val : natOf L + 18446744073709551616 ^ p * c = V
  far : ∀ j, q ≤ j → nth L j = 0

theorem Sums.step {K q p c V : Nat} {L : List Nat} (h : Sums K q p c V L) (hp : p < q) (hq : q ≤ K) (z s : Nat) (hs : nth L p + z + c = s) :
    Sums K q (p + 1) (s / 18446744073709551616) (V + 18446744073709551616 ^ p * z) (L.set p (s % 18446744073709551616)) where
  len := by rw [List.length_set, h.len]
  words := words_put _ h.words _ _ (Nat.mod_lt _ (by omega))
  val := by
    have h1 := natOf_put L p (s % 18446744073709551616) (by rw [h.len]; omega)
    have h2 := h.val
    have h3 : 18446744073709551616 ^ (p + 1) * (s / 18446744073709551616) = 18446744073709551616 ^ p * (18446744073709551616 * (s / 18446744073709551616)) := by rw [Nat.pow_succ, Nat.mul_assoc]
    have h4 : 18446744073709551616 ^ p * (18446744073709551616 * (s / 18446744073709551616)) + 18446744073709551616 ^ p * (s % 18446744073709551616) = 18446744073709551616 ^ p * s := by rw [← Nat.mul_add, Nat.div_add_mod]
    have h5 : 18446744073709551616 ^ p * s = 18446744073709551616 ^ p * nth L p + 18446744073709551616 ^ p * z + 18446744073709551616 ^ p * c := by rw [← hs, Nat.mul_add, Nat.mul_add]
    omega
  far := fun j hj => by
    rw [nth_set _ _ _ _ (by rw [h.len]; omega), if_neg (by omega)]
    exact h.far j hj
theorem Sums.start (K q V : Nat) (hV : V < 18446744073709551616 ^ q) (hq : q ≤ K) (p : Nat) : Sums K q p 0 V (Go.Proofs.Ytjimnepjheppgaa.words K V) where
  len := length_words _ _
  words := words_words _ _
  val := by rw [natOf_words, Nat.mod_eq_of_lt (Nat.lt_of_lt_of_le hV (Nat.pow_le_pow_right (by omega) hq)), Nat.mul_zero, Nat.add_zero]
  far := fun j hj => by
    rw [nth_natOf _ (words_words _ _), natOf_words, Nat.mod_eq_of_lt (Nat.lt_of_lt_of_le hV (Nat.pow_le_pow_right (by omega) hq)), Nat.div_eq_of_lt (Nat.lt_of_lt_of_le hV (Nat.pow_le_pow_right (by omega) hj))]
theorem Sums.all {K q p V : Nat} {L : List Nat} (h : Sums K q p 0 V L) : L = Go.Proofs.Ytjimnepjheppgaa.words K V := words_of L h.words K V h.len (by have := h.val; omega)
theorem Sums.last {K q c V : Nat} {L : List Nat} (h : Sums K q q c V L) (hq : q < K) (hc : c < 18446744073709551616) : L.set q c = Go.Proofs.Ytjimnepjheppgaa.words K V := by
  refine words_of _ (words_put _ h.words _ _ hc) K V (by rw [List.length_set, h.len]) ?_
  have h1 := natOf_put L q c (by rw [h.len]; exact hq)
  have h2 := h.val
  rw [h.far q (Nat.le_refl _)] at h1
  omega
/-- There is room as long as anything is carried. -/
theorem Sums.room {K q p c V : Nat} {L : List Nat} (h : Sums K q p c V L) (hV : V < 18446744073709551616 ^ K) (hc : c ≠ 0) : p < K := by
  rcases Nat.lt_or_ge p K with h1 | h1
  · exact h1
  · have h2 := h.val
    have h3 : 18446744073709551616 ^ K ≤ 18446744073709551616 ^ p := Nat.pow_le_pow_right (by omega) h1
    have h4 : 18446744073709551616 ^ p * 1 ≤ 18446744073709551616 ^ p * c := Nat.mul_le_mul_left _ (by omega)
    omega

/-- A word by a word, with what is carried and what lies there. -/
theorem word_step (x y o r : Nat) (hx : x < 18446744073709551616) (hy : y < 18446744073709551616) (ho : o < 18446744073709551616) (hr : r < 18446744073709551616) :
    (r + (x * y % 18446744073709551616 + o) % 18446744073709551616) % 18446744073709551616 = (r + x * y + o) % 18446744073709551616 ∧
    x * y / 18446744073709551616 + (x * y % 18446744073709551616 + o) / 18446744073709551616 < 18446744073709551616 ∧
    x * y / 18446744073709551616 + (x * y % 18446744073709551616 + o) / 18446744073709551616 + (r + (x * y % 18446744073709551616 + o) % 18446744073709551616) / 18446744073709551616 = (r + x * y + o) / 18446744073709551616 ∧
    (r + x * y + o) / 18446744073709551616 < 18446744073709551616 := by
  have h : x * y ≤ 18446744073709551615 * 18446744073709551615 := Nat.mul_le_mul (by omega) (by omega)
  generalize x * y = P at *
  omega
theorem take_full (a : List Nat) : natOf (a.take a.length) = natOf a := by rw [List.take_length]
theorem row_lt (a b : List Nat) (ha : Words a) (hb : Words b) (i : Nat) : natOf (a.take i) * natOf b < 18446744073709551616 ^ (i + b.length) := by
  rw [Nat.pow_add]
  exact Nat.mul_lt_mul'' (natOf_take_lt a ha i) (natOf_lt b hb)
theorem mul_lt (a b : List Nat) (ha : Words a) (hb : Words b) : natOf a * natOf b < 18446744073709551616 ^ (a.length + b.length) := by
  rw [Nat.pow_add]
  exact Nat.mul_lt_mul'' (natOf_lt a ha) (natOf_lt b hb)
/-- A row: k words of b by word i of a are there. -/
theorem row_step (a b : List Nat) (i k : Nat) : natOf (a.take i) * natOf b + 18446744073709551616 ^ i * nth a i * natOf (b.take k) + 18446744073709551616 ^ (i + k) * (nth a i * nth b k) = natOf (a.take i) * natOf b + 18446744073709551616 ^ i * nth a i * natOf (b.take (k + 1)) := by
  rw [natOf_take_succ, Nat.mul_add, Nat.pow_add, Nat.add_assoc]
  congr 2
  simp only [Nat.mul_assoc, Nat.mul_left_comm]
theorem row_end (a b : List Nat) (i : Nat) : natOf (a.take i) * natOf b + 18446744073709551616 ^ i * nth a i * natOf (b.take b.length) = natOf (a.take (i + 1)) * natOf b := by
  rw [natOf_take_succ, take_full, Nat.add_mul]
theorem row_none (a b : List Nat) (i : Nat) (h : nth a i = 0) : natOf (a.take i) * natOf b = natOf (a.take (i + 1)) * natOf b := by rw [natOf_take_succ, h]; simp

/-! Halves -/
theorem half_two (A L H P : Nat) : A * (L + P * H) = A * L + P * (A * H) := by rw [Nat.mul_add, Nat.mul_left_comm]
theorem half_three (a b c d P : Nat) : (a + P * b) * (c + P * d) = a * c + P * ((a + b) * (c + d) - a * c - b * d) + P * P * (b * d) := by
  have h : (a + b) * (c + d) - a * c - b * d = a * d + b * c := by
    rw [Nat.add_mul, Nat.mul_add, Nat.mul_add]
    omega
  rw [h]
  simp only [Nat.mul_add, Nat.mul_left_comm, Nat.mul_comm]
  simp only [Nat.add_assoc, Nat.add_comm]
theorem sub_two (a b c d : Nat) : a * c + b * d ≤ (a + b) * (c + d) := by
  rw [Nat.add_mul, Nat.mul_add, Nat.mul_add]
  omega
end Go.Proofs.Ytjimnepjheppgaa
