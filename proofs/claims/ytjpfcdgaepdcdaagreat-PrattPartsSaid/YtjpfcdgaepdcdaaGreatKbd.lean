/- Several texts in one; each begins with a remark that says what it shows and on which conditions. -/
import Derived.Test.YtjpfcdgaepdcdaaGreatKab
/- The reckoning of primes from 8193 to 65536. No condition; no program is named. -/
namespace Go.Proofs.YtjpfcdgaepdcdaaGreat
set_option maxRecDepth 20000
theorem r_mid0 : chkR 2048 8193 = true := by decide +kernel
theorem r_mid1 : chkR 3072 10241 = true := by decide +kernel
theorem r_mid2 : chkR 4096 13313 = true := by decide +kernel
theorem r_mid3 : chkR 6144 17409 = true := by decide +kernel
theorem r_mid4 : chkR 8192 23553 = true := by decide +kernel
theorem r_mid5 : chkR 12288 31745 = true := by decide +kernel
theorem r_mid6 : chkR 21504 44033 = true := by decide +kernel
theorem mid_all : ∀ q, 8192 < q → q ≤ 65536 → chkQ q = true := fun q _ _ => by
  by_cases h0 : q < 10241
  · have := chkR_true 2048 8193 r_mid0 (q - 8193)
    rw [show 8193 + (q - 8193) = q by omega] at this
    exact this (by omega)
  by_cases h1 : q < 13313
  · have := chkR_true 3072 10241 r_mid1 (q - 10241)
    rw [show 10241 + (q - 10241) = q by omega] at this
    exact this (by omega)
  by_cases h2 : q < 17409
  · have := chkR_true 4096 13313 r_mid2 (q - 13313)
    rw [show 13313 + (q - 13313) = q by omega] at this
    exact this (by omega)
  by_cases h3 : q < 23553
  · have := chkR_true 6144 17409 r_mid3 (q - 17409)
    rw [show 17409 + (q - 17409) = q by omega] at this
    exact this (by omega)
  by_cases h4 : q < 31745
  · have := chkR_true 8192 23553 r_mid4 (q - 23553)
    rw [show 23553 + (q - 23553) = q by omega] at this
    exact this (by omega)
  by_cases h5 : q < 44033
  · have := chkR_true 12288 31745 r_mid5 (q - 31745)
    rw [show 31745 + (q - 31745) = q by omega] at this
    exact this (by omega)
  have := chkR_true 21504 44033 r_mid6 (q - 44033)
  rw [show 44033 + (q - 44033) = q by omega] at this
  exact this (by omega)
end Go.Proofs.YtjpfcdgaepdcdaaGreat
