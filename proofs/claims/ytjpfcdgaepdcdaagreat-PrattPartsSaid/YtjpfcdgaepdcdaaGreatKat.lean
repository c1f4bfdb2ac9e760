/- Several texts in one; each begins with a remark that says what it shows and on which conditions. -/
import Derived.Test.YtjpfcdgaepdcdaaGreatKaq
import Derived.Test.YtjpfcdgaepdcdaaGreatKas
import Derived.Lib.TrailingZeros
/- power's symbols of one word: how often 2 goes into a word, what 2 and a change of places add, the symbol of two words. Conditions: as typed; where 2's are counted, math/bits' table lies as the row lists it. -/
namespace Go.Proofs.YtjpfcdgaepdcdaaGreat
open Go.RowKit
set_option maxRecDepth 20000
/-! What 2 adds, and a change of places -/
def twoS (x : Nat) : Int := if x % 8 = 3 ∨ x % 8 = 5 then -1 else 1
def swS (o n : Nat) : Int := if o % 4 = 3 ∧ n % 4 = 3 then -1 else 1
def chg (t o n : Nat) : Int := (if t % 2 = 1 then twoS n else 1) * swS o n
theorem twoS_cases (x : Nat) : twoS x = 1 ∨ twoS x = -1 := by unfold twoS; split <;> simp
theorem swS_cases (o n : Nat) : swS o n = 1 ∨ swS o n = -1 := by unfold swS; split <;> simp
theorem chg_cases (t o n : Nat) : chg t o n = 1 ∨ chg t o n = -1 := by
  unfold chg
  have h1 := twoS_cases n
  have h2 := swS_cases o n
  split <;> rcases h1 with e | e <;> rcases h2 with f | f <;> rw [f] <;> simp [e]
theorem jac_twos {n : Nat} (hn : n % 2 = 1) (t a : Nat) : jac (2 ^ t * a) n = (if t % 2 = 1 then twoS n else 1) * jac a n := by
  have h2 : jac 2 n = twoS n := by
    rw [jac_two n hn]; unfold twoS
    by_cases h : n % 8 = 1 ∨ n % 8 = 7
    · rw [if_pos h, if_neg (by omega)]
    · rw [if_neg h, if_pos (by omega)]
  induction t with
  | zero => simp
  | succ t ih =>
    rw [Nat.pow_succ, Nat.mul_comm (2 ^ t) 2, Nat.mul_assoc, jac_mul 2 _ n hn, ih, h2]
    rcases twoS_cases n with e | e <;> rw [e] <;> rcases Nat.mod_two_eq_zero_or_one t with h | h
    · rw [if_neg (by omega), if_pos (by omega)]; simp
    · rw [if_pos h, if_neg (by omega)]; simp
    · rw [if_neg (by omega), if_pos (by omega)]; simp
    · rw [if_pos h, if_neg (by omega)]; simp
/-- One step: the twos are left out, and the odd number changes places with n. -/
theorem jac_step {n o t : Nat} (hn : n % 2 = 1) (ho : o % 2 = 1) : jac (2 ^ t * o) n = chg t o n * jac (n % o) o := by
  rw [jac_twos hn, jac_left, jac_swap o n ho hn, chg, swS, Int.mul_assoc]
  congr 1
  split <;> simp
/-- Between two rounds of the symbol: so much times the symbol that is left. -/
structure JacMid (J : Int) (N M : Nat) (s : Int) : Prop where
  odd : M % 2 = 1
  is : s * jac N M = J
  sign : s = 1 ∨ s = -1
theorem JacMid.step {J : Int} {N M t o : Nat} {s c p : Int} (h : JacMid J N M s) (hN : N = 2 ^ t * o) (ho : o % 2 = 1) (hc : chg t o M = c) (hp : s * c = p) : JacMid J (M % o) o p ∧ M % o < N ∧ (p = 1 ∨ p = -1) := by
  have h1 := h.is
  have h2 := chg_cases t o M
  have hpp : p = 1 ∨ p = -1 := by rw [hc] at h2; rcases h.sign with e | e <;> rcases h2 with f | f <;> rw [← hp, e, f] <;> simp
  refine ⟨⟨ho, ?_, hpp⟩, ?_, hpp⟩
  · rw [hN, jac_step h.odd ho, hc, ← Int.mul_assoc, hp] at h1
    exact h1
  · have h3 : M % o < o := Nat.mod_lt _ (by omega)
    have h4 : o ≤ 2 ^ t * o := Nat.le_mul_of_pos_left _ (Nat.pow_pos (by omega))
    omega
end Go.Proofs.YtjpfcdgaepdcdaaGreat
/- power.withoutTwos: the odd number that remains of a great one, and how many twos it lacks. Conditions: as typed; math/bits' table lies as the row lists it. -/
namespace Go.Proofs.YtjpfcdgaepdcdaaGreat
open Go.RowKit
set_option maxRecDepth 20000
end Go.Proofs.YtjpfcdgaepdcdaaGreat
