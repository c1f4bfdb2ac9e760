/- Several texts in one; each begins with a remark that says what it shows and on which conditions. -/
import Derived.Test.YtjeliomjnalpcaaDoorKab
/- Plain facts on square and cube roots, rounded down. No condition but those typed; no program is named. -/
namespace Go.Proofs.YtjeliomjnalpcaaDoor
/-- R is the root: its power is at most N, that of one more is above. -/
def IsRoot (k N R : Nat) : Prop := R ^ k ≤ N ∧ N < (R + 1) ^ k
theorem IsRoot.le {k N R S : Nat} (hR : R ^ k ≤ N) (hS : N < (S + 1) ^ k) : R ≤ S := by
  rcases Nat.lt_or_ge S R with h | h
  · have := Nat.pow_le_pow_left (show S + 1 ≤ R by omega) k; omega
  · exact h
theorem IsRoot.uniq {k N R S : Nat} (h : IsRoot k N R) (h' : IsRoot k N S) : R = S :=
  Nat.le_antisymm (IsRoot.le h.1 h'.2) (IsRoot.le h'.1 h.2)
theorem root_some (k N : Nat) (hk : 0 < k) : ∃ R, IsRoot k N R := by
  have key : ∀ b, N < (b + 1) ^ k → ∃ R, IsRoot k N R := by
    intro b
    induction b with
    | zero => intro h; exact ⟨0, by rw [Nat.zero_pow hk]; omega, h⟩
    | succ b ih =>
      intro h
      rcases Nat.lt_or_ge N ((b + 1) ^ k) with h1 | h1
      · exact ih h1
      · exact ⟨b + 1, h1, h⟩
  refine key N ?_
  have h1 := Nat.pow_le_pow_right (show 0 < N + 1 by omega) hk
  rw [Nat.pow_one] at h1
  omega
theorem IsRoot.self {k N R : Nat} (h : IsRoot k N R) (hk : 0 < k) : R ≤ N := by
  rcases Nat.eq_zero_or_pos R with h1 | h1
  · omega
  · have h2 := Nat.pow_le_pow_right h1 hk
    rw [Nat.pow_one] at h2
    exact Nat.le_trans h2 h.1
theorem IsRoot.bits {k N R : Nat} (h : IsRoot k N R) (hk : 0 < k) : nbits R ≤ nbits N := nbits_mono (h.self hk)
theorem pow_two (a : Nat) : a ^ 2 = a * a := by rw [Nat.pow_succ, Nat.pow_one]
theorem pow_three (a : Nat) : a ^ 3 = a * (a * a) := by rw [Nat.pow_succ, pow_two, Nat.mul_comm]
theorem isRoot_two {N R : Nat} : IsRoot 2 N R ↔ R * R ≤ N ∧ N < (R + 1) * (R + 1) := by unfold IsRoot; rw [pow_two, pow_two]
theorem isRoot_three {N R : Nat} : IsRoot 3 N R ↔ R * (R * R) ≤ N ∧ N < (R + 1) * ((R + 1) * (R + 1)) := by unfold IsRoot; rw [pow_three, pow_three]
/-! Roots and the order of numbers -/
/-! Digit by digit -/
/-- The upper digits, and one more. -/
theorem digit_test {k N R : Nat} (h : IsRoot k N R) (i : Nat) : N < (R / 2 ^ (i + 1) * 2 ^ (i + 1) + 2 ^ i) ^ k ↔ bit R i = 0 := by
  have h1 := Nat.div_add_mod R (2 ^ i)
  have h2 : R / 2 ^ i = 2 * (R / 2 ^ (i + 1)) + bit R i := by
    rw [Nat.pow_succ, ← Nat.div_div_eq_div_mul, bit]; omega
  have hp : 0 < 2 ^ i := Nat.pow_pos (by omega)
  have hm := Nat.mod_lt R hp
  have hb : bit R i < 2 := bit_lt R i
  have e : R / 2 ^ (i + 1) * 2 ^ (i + 1) = 2 * (R / 2 ^ (i + 1)) * 2 ^ i := by rw [Nat.pow_succ, Nat.mul_comm (2 ^ i) 2, ← Nat.mul_assoc, Nat.mul_comm _ 2]
  rw [h2] at h1
  obtain ⟨q, hq⟩ : ∃ q, R / 2 ^ (i + 1) = q := ⟨_, rfl⟩
  rw [hq] at h1 e ⊢
  rw [e]
  have e2 : 2 ^ i * (2 * q + bit R i) = 2 * q * 2 ^ i + bit R i * 2 ^ i := by rw [Nat.mul_add, Nat.mul_comm, Nat.mul_comm (bit R i)]
  rw [e2] at h1
  constructor
  · intro hlt
    rcases Nat.eq_zero_or_pos (bit R i) with h3 | h3
    · exact h3
    · exfalso
      have h4 : bit R i = 1 := by omega
      rw [h4, Nat.one_mul] at h1
      have := Nat.pow_le_pow_left (show 2 * q * 2 ^ i + 2 ^ i ≤ R by omega) k
      have := h.1
      omega
  · intro h3
    rw [h3, Nat.zero_mul] at h1
    have := Nat.pow_le_pow_left (show R + 1 ≤ 2 * q * 2 ^ i + 2 ^ i by omega) k
    have := h.2
    omega
/-- A root has so many digits at most. -/
theorem root_bits {k N R : Nat} (h : IsRoot k N R) (hk : 0 < k) : R < 2 ^ (nbits N / k + 1) := by
  rcases Nat.lt_or_ge R (2 ^ (nbits N / k + 1)) with h1 | h1
  · exact h1
  · exfalso
    have h2 := Nat.pow_le_pow_left h1 k
    rw [← Nat.pow_mul] at h2
    have h3 := nbits_lt N
    have h4 : nbits N < (nbits N / k + 1) * k := by
      rw [Nat.mul_comm]; exact Nat.lt_mul_div_succ _ hk
    have h5 : 2 ^ nbits N ≤ 2 ^ ((nbits N / k + 1) * k) := Nat.pow_le_pow_right (by omega) (by omega)
    have := h.1
    omega
end Go.Proofs.YtjeliomjnalpcaaDoor
