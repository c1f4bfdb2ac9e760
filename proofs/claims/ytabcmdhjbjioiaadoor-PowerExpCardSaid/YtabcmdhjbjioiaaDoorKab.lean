/- Several texts in one; each begins with a remark that says what it shows and on which conditions. -/
import Derived.Test.YtabcmdhjbjioiaaDoorKaa
/- Plain facts on powers modulo a number. No condition but those typed; no program is named. -/
namespace Go.Proofs.YtabcmdhjbjioiaaDoor
theorem pow_rest (b e m : Nat) : (b % m) ^ e % m = b ^ e % m := (Nat.pow_mod b e m).symm
theorem pow_sum_mod (b e f m : Nat) : (b ^ e % m) * (b ^ f % m) % m = b ^ (e + f) % m := by rw [← Nat.mul_mod, Nat.pow_add]
theorem pow_tower (b e f m : Nat) : (b ^ e % m) ^ f % m = b ^ (e * f) % m := by rw [pow_rest, Nat.pow_mul]
theorem pow_prod (a b e m : Nat) : (a ^ e % m) * (b ^ e % m) % m = (a * b) ^ e % m := by rw [← Nat.mul_mod, Nat.mul_pow]
theorem pow_part (b e m k : Nat) : b ^ e % (m * k) % m = b ^ e % m := Nat.mod_mul_right_mod _ _ _
theorem pow_more (b e m k : Nat) : (b + m * k) ^ e % m = b ^ e % m := by rw [← pow_rest, Nat.add_mul_mod_self_left, pow_rest]
/-- A digit of the exponent more. -/
theorem pow_digit (b e m i : Nat) : (b ^ (e / 2 ^ (i + 1)) % m) * (b ^ (e / 2 ^ (i + 1)) % m) % m * b ^ (e / 2 ^ i % 2) % m = b ^ (e / 2 ^ i) % m := by
  rw [← Nat.mul_mod, Nat.mod_mul_mod, ← Nat.pow_add, ← Nat.pow_add]
  congr 2
  rw [Nat.pow_succ, ← Nat.div_div_eq_div_mul]
  omega
theorem pow_digit_one (b e m i : Nat) (h : e / 2 ^ i % 2 = 1) : (b ^ (e / 2 ^ (i + 1)) % m) * (b ^ (e / 2 ^ (i + 1)) % m) % m * (b % m) % m = b ^ (e / 2 ^ i) % m := by
  have := pow_digit b e m i
  rw [h, Nat.pow_one] at this
  rw [Nat.mul_mod_mod, this]
theorem pow_digit_none (b e m i : Nat) (h : e / 2 ^ i % 2 = 0) : (b ^ (e / 2 ^ (i + 1)) % m) * (b ^ (e / 2 ^ (i + 1)) % m) % m = b ^ (e / 2 ^ i) % m := by
  have := pow_digit b e m i
  rw [h, Nat.pow_zero, Nat.mul_one, Nat.mod_mod] at this
  exact this
/-- Euler's criterion, as a rest. -/
theorem euler_rest {p a : Nat} (hp : Prm p) (ho : p % 2 = 1) : a ^ (p / 2) % p = if jac a p = 0 then 0 else if jac a p = 1 then 1 else p - 1 := by
  have h2 := hp.1
  have h := euler (a := a) hp ho
  rw [show (p - 1) / 2 = p / 2 by omega, ← Int.natCast_pow] at h
  have h1 := Nat.mod_lt (a ^ (p / 2)) (show 0 < p by omega)
  rcases jac_cases a p with e | e | e
  · rw [e] at h ⊢
    rw [if_pos rfl]
    have := (cong_mod (a := a ^ (p / 2)) (b := 0)).1 h
    rw [this, Nat.zero_mod]
  · rw [e] at h ⊢
    rw [if_neg (by decide), if_pos rfl]
    have := (cong_mod (a := a ^ (p / 2)) (b := 1)).1 h
    rw [this, Nat.mod_eq_of_lt (by omega)]
  · rw [e] at h ⊢
    rw [if_neg (by decide), if_neg (by decide)]
    have h3 : Cong p ((a ^ (p / 2) : Nat) : Int) ((p - 1 : Nat) : Int) := h.trans ⟨-1, by rw [Int.natCast_sub (by omega)]; omega⟩
    have := cong_mod.1 h3
    rw [this, Nat.mod_eq_of_lt (by omega)]
/-! The symbol of a number and a small one, by its primes -/
/-- The least number that divides is a prime. -/
theorem least_prime {n p : Nat} (hp : 2 ≤ p) (hd : p ∣ n) (hl : ∀ d, 2 ≤ d → d ∣ n → p ≤ d) : Prm p := by
  refine ⟨hp, fun d h => ?_⟩
  rcases Nat.lt_or_ge d 2 with h1 | h1
  · left
    rcases Nat.eq_zero_or_pos d with h2 | h2
    · subst h2; have := Nat.eq_zero_of_zero_dvd h; omega
    · omega
  · right
    have := hl d h1 (Nat.dvd_trans h hd)
    have := Nat.le_of_dvd (by omega) h
    omega
theorem jac_part {a n p : Nat} (hn : n % 2 = 1) (hp : p ∣ n) : jac a n = jac a p * jac a (n / p) ∧ (n / p) % 2 = 1 ∧ p % 2 = 1 := by
  obtain ⟨q, rfl⟩ := hp
  have h1 : p % 2 = 1 := by
    rcases Nat.mod_two_eq_zero_or_one p with h | h
    · rw [Nat.mul_mod, h, Nat.zero_mul] at hn; omega
    · exact h
  have h2 : q % 2 = 1 := by
    rcases Nat.mod_two_eq_zero_or_one q with h | h
    · rw [Nat.mul_mod, h, Nat.mul_zero] at hn; omega
    · exact h
  have hp0 : 0 < p := by omega
  rw [Nat.mul_div_cancel_left _ hp0]
  exact ⟨jac_mul_right a p q h1 h2, h2, h1⟩
end Go.Proofs.YtabcmdhjbjioiaaDoor
