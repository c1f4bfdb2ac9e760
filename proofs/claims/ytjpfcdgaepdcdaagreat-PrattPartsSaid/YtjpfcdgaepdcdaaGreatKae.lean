/- Several texts in one; each begins with a remark that says what it shows and on which conditions. -/
import Derived.Test.YtjpfcdgaepdcdaaGreatKab
/- Primes from 2^17 to 2^22. No condition but those typed; no program is named. -/
namespace Go.Proofs.YtjpfcdgaepdcdaaGreat
set_option maxRecDepth 20000
theorem w_mid14 : chkU 18624 339457 = true := by decide +kernel
theorem w_mid15 : chkU 21888 376705 = true := by decide +kernel
theorem w_mid16 : chkU 25664 420481 = true := by decide +kernel
theorem w_mid17 : chkU 29952 471809 = true := by decide +kernel
theorem w_mid18 : chkU 34496 531713 = true := by decide +kernel
theorem w_mid19 : chkU 39232 600705 = true := by decide +kernel
theorem w_mid20 : chkU 43904 679169 = true := by decide +kernel
end Go.Proofs.YtjpfcdgaepdcdaaGreat
