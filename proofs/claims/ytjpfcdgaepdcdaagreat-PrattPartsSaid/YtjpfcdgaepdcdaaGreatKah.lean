/- Several texts in one; each begins with a remark that says what it shows and on which conditions. -/
import Derived.Test.YtjpfcdgaepdcdaaGreatKab
/- Primes from 2^17 to 2^22. No condition but those typed; no program is named. -/
namespace Go.Proofs.YtjpfcdgaepdcdaaGreat
set_option maxRecDepth 20000
theorem w_mid35 : chkU 71168 2538113 = true := by decide +kernel
theorem w_mid36 : chkU 71552 2680449 = true := by decide +kernel
theorem w_mid37 : chkU 71808 2823553 = true := by decide +kernel
theorem w_mid38 : chkU 72064 2967169 = true := by decide +kernel
theorem w_mid39 : chkU 72320 3111297 = true := by decide +kernel
theorem w_mid40 : chkU 72512 3255937 = true := by decide +kernel
theorem w_mid41 : chkU 72704 3400961 = true := by decide +kernel
end Go.Proofs.YtjpfcdgaepdcdaaGreat
