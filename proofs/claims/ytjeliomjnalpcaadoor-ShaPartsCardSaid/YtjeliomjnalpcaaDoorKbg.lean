/- Several texts in one; each begins with a remark that says what it shows and on which conditions. -/
import Derived.Test.YtjeliomjnalpcaaDoorKat
/- Plain facts on the steps that come down to a root, and on a number above it. No condition but those typed; no program is named. -/
namespace Go.Proofs.YtjeliomjnalpcaaDoor
/-- One step to a square root. -/
def st2 (a x : Nat) : Nat := (x + a / x) / 2
/-- One step to a cube root. -/
def st3 (a x : Nat) : Nat := (2 * x + a / (x * x)) / 3
/-- Steps that come down to R, and stop there. -/
structure Down (R : Nat) (st : Nat → Nat) : Prop where
  less : ∀ x, R < x → st x < x
  more : ∀ x, R ≤ x → R ≤ st x
theorem le_div_of (d x N : Nat) (hx : 0 < x) (h : d * x ≤ N) : d ≤ N / x := (Nat.le_div_iff_mul_le hx).2 h
theorem down_two {N R : Nat} (h : IsRoot 2 N R) : Down R (st2 N) := by
  rw [isRoot_two] at h
  obtain ⟨h1, h2⟩ := h
  refine ⟨fun x hx => ?_, fun x hx => ?_⟩
  · have h3 : (R + 1) * (R + 1) ≤ x * x := Nat.mul_le_mul hx hx
    have h4 : N / x < x := (Nat.div_lt_iff_lt_mul (by omega)).2 (by omega)
    unfold st2
    omega
  · rcases Nat.eq_zero_or_pos R with h0 | h0
    · omega
    · obtain ⟨t, rfl⟩ : ∃ t, x = R + t := ⟨x - R, by omega⟩
      have h3 : R - t ≤ N / (R + t) := by
        refine le_div_of _ _ _ (by omega) (Nat.le_trans ?_ h1)
        rcases Nat.lt_or_ge R t with h4 | h4
        · rw [Nat.sub_eq_zero_of_le (by omega), Nat.zero_mul]; omega
        · obtain ⟨s, rfl⟩ : ∃ s, R = s + t := ⟨R - t, by omega⟩
          rw [Nat.add_sub_cancel]
          have e : (s + t) * (s + t) = s * (s + t + t) + t * t := by grind
          omega
      unfold st2
      omega
theorem down_three {N R : Nat} (h : IsRoot 3 N R) : Down R (st3 N) := by
  rw [isRoot_three] at h
  obtain ⟨h1, h2⟩ := h
  refine ⟨fun x hx => ?_, fun x hx => ?_⟩
  · have h3 : (R + 1) * ((R + 1) * (R + 1)) ≤ x * (x * x) := Nat.mul_le_mul hx (Nat.mul_le_mul hx hx)
    have hxx : 0 < x * x := Nat.mul_pos (by omega) (by omega)
    have h4 : N / (x * x) < x := (Nat.div_lt_iff_lt_mul hxx).2 (by omega)
    unfold st3
    omega
  · rcases Nat.eq_zero_or_pos R with h0 | h0
    · omega
    · obtain ⟨t, rfl⟩ : ∃ t, x = R + t := ⟨x - R, by omega⟩
      have hxx : 0 < (R + t) * (R + t) := Nat.mul_pos (by omega) (by omega)
      have h3 : R - 2 * t ≤ N / ((R + t) * (R + t)) := by
        refine le_div_of _ _ _ hxx (Nat.le_trans ?_ h1)
        rcases Nat.lt_or_ge R (2 * t) with h4 | h4
        · rw [Nat.sub_eq_zero_of_le (by omega), Nat.zero_mul]; omega
        · obtain ⟨s, rfl⟩ : ∃ s, R = s + 2 * t := ⟨R - 2 * t, by omega⟩
          rw [Nat.add_sub_cancel]
          have e : (s + 2 * t) * ((s + 2 * t) * (s + 2 * t)) = s * ((s + 2 * t + t) * (s + 2 * t + t)) + (3 * (s * (t * t)) + 8 * (t * (t * t))) := by grind
          omega
      unfold st3
      omega
/-- A power of 2 above the root. -/
theorem above_small {p N : Nat} (hp : 0 < p) : N < (2 ^ ((nbits N + p - 1) / p)) ^ p := by
  rw [← Nat.pow_mul]
  have h1 := nbits_lt N
  have h2 : nbits N ≤ (nbits N + p - 1) / p * p := by
    have h3 := Nat.div_add_mod (nbits N + p - 1) p
    have h4 := Nat.mod_lt (nbits N + p - 1) hp
    rw [Nat.mul_comm] at h3
    omega
  have h3 : 2 ^ nbits N ≤ 2 ^ ((nbits N + p - 1) / p * p) := Nat.pow_le_pow_right (by omega) h2
  omega
/-- One more than the root of the upper places, with noughts behind. -/
theorem above_great {p N B R k : Nat} (hB : 0 < B) (h : IsRoot p (N / B ^ (p * k)) R) : N < ((R + 1) * B ^ k) ^ p := by
  rw [Nat.mul_pow, ← Nat.pow_mul, Nat.mul_comm k p]
  have h1 := h.2
  have hb : 0 < B ^ (p * k) := Nat.pow_pos hB
  exact (Nat.div_lt_iff_lt_mul hb).1 h1
theorem root_lt_above {p N R X : Nat} (h : IsRoot p N R) (hX : N < X ^ p) : R < X := by
  rcases Nat.lt_or_ge R X with h1 | h1
  · exact h1
  · have h2 := Nat.pow_le_pow_left h1 p
    have := h.1
    omega
end Go.Proofs.YtjeliomjnalpcaaDoor
