/- Several texts in one; each begins with a remark that says what it shows and on which conditions. -/
import Derived.Test.YtjpfcdgaepdcdaaGreatKap
/- Plain facts on powers modulo a number. No condition but those typed; no program is named. -/
namespace Go.Proofs.YtjpfcdgaepdcdaaGreat
theorem pow_rest (b e m : Nat) : (b % m) ^ e % m = b ^ e % m := (Nat.pow_mod b e m).symm
theorem pow_sum_mod (b e f m : Nat) : (b ^ e % m) * (b ^ f % m) % m = b ^ (e + f) % m := by rw [← Nat.mul_mod, Nat.pow_add]
/-! The symbol of a number and a small one, by its primes -/
end Go.Proofs.YtjpfcdgaepdcdaaGreat
