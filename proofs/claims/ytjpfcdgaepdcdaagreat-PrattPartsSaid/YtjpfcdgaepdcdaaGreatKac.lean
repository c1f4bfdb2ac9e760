/- Several texts in one; each begins with a remark that says what it shows and on which conditions. -/
import Derived.Test.YtjpfcdgaepdcdaaGreatKab
/- Primes from 2^17 to 2^22. No condition but those typed; no program is named. -/
namespace Go.Proofs.YtjpfcdgaepdcdaaGreat
set_option maxRecDepth 20000
theorem w_mid0 : chkU 3136 131073 = true := by decide +kernel
theorem w_mid1 : chkU 3456 137345 = true := by decide +kernel
theorem w_mid2 : chkU 3776 144257 = true := by decide +kernel
theorem w_mid3 : chkU 4160 151809 = true := by decide +kernel
theorem w_mid4 : chkU 4672 160129 = true := by decide +kernel
theorem w_mid5 : chkU 5248 169473 = true := by decide +kernel
theorem w_mid6 : chkU 5888 179969 = true := by decide +kernel
end Go.Proofs.YtjpfcdgaepdcdaaGreat
