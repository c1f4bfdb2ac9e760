/- Several texts in one; each begins with a remark that says what it shows and on which conditions. -/
import Derived.Test.YtjpfcdgaepdcdaaGreatKab
/- Primes from 2^17 to 2^22. No condition but those typed; no program is named. -/
namespace Go.Proofs.YtjpfcdgaepdcdaaGreat
set_option maxRecDepth 20000
theorem w_mid7 : chkU 6656 191745 = true := by decide +kernel
theorem w_mid8 : chkU 7552 205057 = true := by decide +kernel
theorem w_mid9 : chkU 8704 220161 = true := by decide +kernel
theorem w_mid10 : chkU 9984 237569 = true := by decide +kernel
theorem w_mid11 : chkU 11584 257537 = true := by decide +kernel
theorem w_mid12 : chkU 13504 280705 = true := by decide +kernel
theorem w_mid13 : chkU 15872 307713 = true := by decide +kernel
end Go.Proofs.YtjpfcdgaepdcdaaGreat
