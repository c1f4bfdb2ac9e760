/- Several texts in one; each begins with a remark that says what it shows and on which conditions. -/
import Derived.Test.YtjpfcdgaepdcdaaGreatKav
/- The reckoning of primes above 2^16. No condition; no program is named. -/
namespace Go.Proofs.YtjpfcdgaepdcdaaGreat
set_option maxRecDepth 20000
theorem r_great0 : (fN (prodP 16 1) fun W => fN (Nat.mul W (prodL exD)) fun W => chkK W 8190 2) = true := by decide +kernel
theorem r_great1 : (fN (prodP 16 1) fun W => fN (Nat.mul W (prodL exD)) fun W => chkK W 8192 8192) = true := by decide +kernel
theorem r_great2 : (fN (prodP 16 1) fun W => fN (Nat.mul W (prodL exD)) fun W => chkK W 8192 16384) = true := by decide +kernel
theorem r_great3 : (fN (prodP 16 1) fun W => fN (Nat.mul W (prodL exD)) fun W => chkK W 8192 24576) = true := by decide +kernel
theorem r_great4 : (fN (prodP 16 1) fun W => fN (Nat.mul W (prodL exD)) fun W => chkK W 8192 32768) = true := by decide +kernel
theorem r_great5 : (fN (prodP 16 1) fun W => fN (Nat.mul W (prodL exD)) fun W => chkK W 8192 40960) = true := by decide +kernel
theorem r_great6 : (fN (prodP 16 1) fun W => fN (Nat.mul W (prodL exD)) fun W => chkK W 8192 49152) = true := by decide +kernel
theorem r_great7 : (fN (prodP 16 1) fun W => fN (Nat.mul W (prodL exD)) fun W => chkK W 8192 57344) = true := by decide +kernel
theorem great_one {f k0 k : Nat} (h : (fN (prodP 16 1) fun W => fN (Nat.mul W (prodL exD)) fun W => chkK W f k0) = true) (h0 : k0 ≤ k) (h1 : k < k0 + f) (hg : Nat.gcd k 210 = 1) : GG (k - 1) ∣ prodP 16 1 * prodL exD := by
  rw [fN_eq, fN_eq] at h
  have := chkK_true f k0 h (k - k0) (by omega)
  rw [show k0 + (k - k0) = k by omega] at this
  exact this hg
theorem great_all : ∀ k, 2 ≤ k → k < 65536 → Nat.gcd k 210 = 1 → GG (k - 1) ∣ prodP 16 1 * prodL exD := fun k _ _ hg => by
  by_cases h0 : k < 8192
  · exact great_one r_great0 (by omega) (by omega) hg
  by_cases h1 : k < 16384
  · exact great_one r_great1 (by omega) (by omega) hg
  by_cases h2 : k < 24576
  · exact great_one r_great2 (by omega) (by omega) hg
  by_cases h3 : k < 32768
  · exact great_one r_great3 (by omega) (by omega) hg
  by_cases h4 : k < 40960
  · exact great_one r_great4 (by omega) (by omega) hg
  by_cases h5 : k < 49152
  · exact great_one r_great5 (by omega) (by omega) hg
  by_cases h6 : k < 57344
  · exact great_one r_great6 (by omega) (by omega) hg
  exact great_one r_great7 (by omega) (by omega) hg
end Go.Proofs.YtjpfcdgaepdcdaaGreat
