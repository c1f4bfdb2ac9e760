/- Plain facts on quotients guessed by the upper words (Knuth): a guess is not too small, and not much too great. No condition but those typed; no program is named. -/
namespace Go.Proofs.Ytjimnepjheppgaa

/-- What is guessed by upper parts is not too small. -/
theorem guess_ge (u v P : Nat) (hP : 0 < P) (hv : 0 < v / P) : u / v ≤ (u / P) / (v / P) := by
  rw [Nat.le_div_iff_mul_le hv, Nat.le_div_iff_mul_le hP]
  have h1 : v / P * P ≤ v := Nat.div_mul_le_self v P
  have h2 : u / v * v ≤ u := Nat.div_mul_le_self u v
  have h3 : u / v * (v / P) * P = u / v * (v / P * P) := Nat.mul_assoc _ _ _
  have h4 : u / v * (v / P * P) ≤ u / v * v := Nat.mul_le_mul_left _ h1
  omega
/-- A guess that is at most the upper parts' quotient, and below B, is too great by so much at most as makes B not more than the divisor's upper part. -/
theorem guess_le (u v P q B c : Nat) (hP : 0 < P) (hq : q ≤ (u / P) / (v / P)) (hB : q < B) (hv : B ≤ c * (v / P)) (h0 : 0 < v / P) : q * v ≤ u + c * v := by
  have h1 : q * (v / P) ≤ u / P := (Nat.le_div_iff_mul_le h0).1 hq
  have h2 : q * (v / P) * P ≤ u := (Nat.le_div_iff_mul_le hP).1 h1
  have h3 : v < (v / P + 1) * P := by have := Nat.div_add_mod v P; have := Nat.mod_lt v hP; rw [Nat.add_mul, Nat.one_mul, Nat.mul_comm (v / P)]; omega
  have h4 : q * v ≤ q * ((v / P + 1) * P) := Nat.mul_le_mul_left _ (Nat.le_of_lt h3)
  have h5 : q * ((v / P + 1) * P) = q * (v / P) * P + q * P := by rw [Nat.add_mul, Nat.one_mul, Nat.mul_add, Nat.mul_assoc]
  have h6 : q * P ≤ c * (v / P) * P := Nat.mul_le_mul_right _ (by omega)
  have h7 : c * (v / P) * P ≤ c * v := by rw [Nat.mul_assoc]; exact Nat.mul_le_mul_left _ (Nat.div_mul_le_self v P)
  omega
/-- So it is put right in so many steps. -/
theorem guess_steps (u v q c : Nat) (h0 : 0 < v) (h : q * v ≤ u + c * v) : q ≤ u / v + c := by
  rcases Nat.lt_or_ge (u / v + c) q with h1 | h1
  · exfalso
    have h2 : (u / v + c + 1) * v ≤ q * v := Nat.mul_le_mul_right _ h1
    have h3 : u < (u / v + 1) * v := by have := Nat.div_add_mod u v; have := Nat.mod_lt u h0; rw [Nat.add_mul, Nat.one_mul, Nat.mul_comm (u / v)]; omega
    have h4 : (u / v + c + 1) * v = (u / v + 1) * v + c * v := by rw [← Nat.add_mul]; congr 1; omega
    omega
  · exact h1
/-- Both multiplied by one number: as often, and what is left is multiplied too. -/
theorem scaled_div (a b k : Nat) (hk : 0 < k) : k * a / (k * b) = a / b := Nat.mul_div_mul_left a b hk
theorem scaled_mod (a b k : Nat) : k * a % (k * b) = k * (a % b) := Nat.mul_mod_mul_left k a b
/-- A place more: what is left so far, and the next word. -/
theorem place_step (r v B x : Nat) (h0 : 0 < v) (hr : r < v) (hx : x < B) : (r * B + x) / v < B ∧ (r * B + x) % v < v := by
  refine ⟨?_, Nat.mod_lt _ h0⟩
  rw [Nat.div_lt_iff_lt_mul h0]
  have h1 : (r + 1) * B ≤ v * B := Nat.mul_le_mul_right _ hr
  rw [Nat.add_mul, Nat.one_mul] at h1
  rw [Nat.mul_comm B v]
  omega
/-- Long division, a place at a time: what was found, and what comes. -/
theorem long_div (a v B x : Nat) (h0 : 0 < v) : (a * B + x) / v = a / v * B + (a % v * B + x) / v ∧ (a * B + x) % v = (a % v * B + x) % v := by
  have h1 := Nat.div_add_mod a v
  have e : a * B + x = v * (a / v * B) + (a % v * B + x) := by
    have : a * B = (v * (a / v) + a % v) * B := by rw [h1]
    rw [this, Nat.add_mul, Nat.mul_assoc]
    omega
  constructor
  · rw [e, Nat.mul_add_div h0]
  · rw [e, Nat.mul_add_mod]
end Go.Proofs.Ytjimnepjheppgaa
