/- Several texts in one; each begins with a remark that says what it shows and on which conditions. -/
import Derived.Test.YtjpfcdgaepdcdaaGreatKab
/- Primes from 2^17 to 2^22. No condition but those typed; no program is named. -/
namespace Go.Proofs.YtjpfcdgaepdcdaaGreat
set_option maxRecDepth 20000
theorem w_mid28 : chkU 66176 1574785 = true := by decide +kernel
theorem w_mid29 : chkU 67328 1707137 = true := by decide +kernel
theorem w_mid30 : chkU 68288 1841793 = true := by decide +kernel
theorem w_mid31 : chkU 69056 1978369 = true := by decide +kernel
theorem w_mid32 : chkU 69760 2116481 = true := by decide +kernel
theorem w_mid33 : chkU 70272 2256001 = true := by decide +kernel
theorem w_mid34 : chkU 70784 2396545 = true := by decide +kernel
end Go.Proofs.YtjpfcdgaepdcdaaGreat
